/- Texts put together and made smaller by program: SoFull SoApp SoPts SoWr SoRng BpGoesS BpCopyS BpDelS BpPushS BpWoS. -/
import Derived.Test.YtemeblgngidldaaGreatDoorPC09
set_option linter.unusedVariables false
set_option linter.unusedSimpArgs false
set_option maxRecDepth 100000
set_option maxHeartbeats 12800000
open And renaming intro->qv
open Array renaming length_toList->qE
open Bool renaming and_eq_true->qI,not_not->p7
open Go renaming heap_alloc_new->qu,heap_setCell_same->qo,TypeId->qn,maxLen->qS,run_underlying->pr,callFunc->ux
open Go.Addr renaming add_lit->qP
open Go.Builtin renaming zeroCells->wv,clear_->iZ
open Go.ChangeMaps renaming setBlock->yt
open Go.Instr renaming mapUpdate->yw,fieldAt->oY
open Go.IntKind renaming i64->qW,wrap_i64->qY
open Go.Obj.cells renaming injEq->rI
open Go.Result renaming andThen->rr
open Go.Value renaming oneCell'->uo,slice->wH,agg->uw,int->wM
open Go.Value.slice renaming injEq->eC
open Go.World renaming cell?->qs,cell?_of_block->qj
open List renaming filter_cons->rZ,mem_cons->qg,map_cons->wR,sum_cons->eV,mem_cons_self->qd,mem_cons_of_mem->qp,nodup_cons->ud,mem_map->qx,take_succ_cons->uf,take_add_one->wJ,getElem?_eq_getElem->qw,getD_eq_getElem?_getD->q7,nodup_nil->oE,mem_singleton->qk,map_append->wK,sum_append->uK,map_nil->yX,sum_nil->p6,length_append->q8,length_map->qz,pairwise_map->eX,getElem_mem->qK,any_eq_false->tq,any_eq_true->ya,ext_getElem?->y7,getElem?_set->rf,getElem?_eq_some_iff->eE,getElem?_map->qZ,mem_of_getElem?->yz,mem_iff_getElem->eI,getElem?_cons_succ->qA,filter_append->ef,length_filter_le->eR,length_take->qb,take_length->qD,getElem?_drop->tJ,drop_drop->yF,length_set->wC
open List.Pairwise renaming imp->yu
open Nat renaming zero_le->qh,le_refl->qq,add_zero->yI,le_succ->wP,lt_of_lt_of_le->qe,le_trans->qi,add_assoc->yG,le_of_lt->oe,lt_of_succ_lt->uA,min_eq_left->oT,zero_add->qT
open Option.some renaming inj->qt,injEq->qR
open Go.Proofs.Tryz renaming prog->q6
open Go.Proofs.Tryz
namespace Go.Proofs.YtemeblgngidldaaGreatDoor
section
open Go.RowKit Go.Maps
def z9W (S:List Sr)(L:List LB.Lab):Nat:=if HD.there S L then(z03 S (HD.pos S L)).2.length else 0
theorem z6m:∀(S:List Sr) (i:Nat),i<S.length->(z03 S i).2.length<=HD.total S
 | [],i,h=>by simp at h
 | x::S,0,_=>by rw[HD.z0f];show x.2.length<=_;omega
 | x::S,i+1,h=>by
  rw[HD.z0f];have:=z6m S i (by simpa using h);show(z03 S i).2.length<=_;omega
theorem zd4 (S:List Sr)(L:List LB.Lab):z9W S L<=HD.total S:=by
 unfold z9W;split
 .rename_i h;exact z6m S _ (by unfold HD.there at h;exact(of_decide_eq_true h).1)
 .exact qh _
theorem zc8 (J O:Option Addr)(S:List Sr)(L:List LB.Lab)(cap kc:Nat)(w:World)(U:z0r w J S)(hK:z1w w O L)(hO:HD.Ord S)(hn:S.length<=100000)(G:∀i,i<S.length->(z03 S i).1.length<=1000)(hl:L.length<=1000):
  Calls q6 109 #[.slice J S.length cap,.slice O L.length kc] w λe w'=>e= .returned (.int .i64 (z9W S L:Int))/\Below w.heap.size w w':=by
 have HC:=hid (zbQ J O S L cap kc w U hK hO hn G hl);have HS:=hid U;have q:HD.there S L=true->HD.pos S L<S.length:=λh=>by unfold HD.there at h;exact(of_decide_eq_true h).1
 have HP:=hid q;have HN:Hid (z9W S L=if HD.there S L then(z03 S (HD.pos S L)).2.length else 0):=rfl;clear U hK hO G hl q;go_enter func109,ntmps109;go_wp2_with fail;refine HC.out.mono ?_;rintro e w1 ⟨rfl,hb⟩;have HB:=hid hb;clear HC;cases hth:HD.there S L with
 | false=>
  have V:=hid (show z9W S L=0 by rw[HN.out,hth];rfl);clear hb hth;go_wp2_with fail;go_ret;exact⟨by rw[V.out];rfl,HB.out⟩
 | true=>
  have hp:=HP.out hth;have V:=hid (show z9W S L=(z03 S (HD.pos S L)).2.length by rw[HN.out,hth];rfl);obtain⟨b,off,rfl,Y,lo,lc,so,sc,c0,c1,_,_⟩:=HS.out (HD.pos S L) hp;have m1:=(hb.cell (p:=⟨b,off+HD.pos S L*2+1,none⟩) Y).trans c1;have A1:0<=(HD.pos S L:Int)/\(HD.pos S L:Int)<(S.length:Int):=by omega
  clear hb hth c0 c1;generalize (z03 S (HD.pos S L)).2.length=ln at*;generalize HD.pos S L=ps at*;go_wp2_with fail;go_ret;exact⟨by rw[V.out];rfl,HB.out⟩
def tot (b:SX.Blk):Nat:=HD.total b.S
def wtB (B:List SX.Blk)(n:Int):Nat:=((B.filter λb=>decide (b.n=n)).map tot).sum
theorem zmd {B:List SX.Blk}{b:SX.Blk}(h:b∈B):tot b<=wtB B b.n:=by
 unfold wtB
 induction B with
 | nil=>cases h
 | cons c B ih=>
  rw[rZ];rcases qg.1 h with rfl|h
  .rw[if_pos (by simp),wR,eV];omega
  .have:=ih h;split
   .rw[wR,eV];omega
   .exact this
theorem z95:∀l:List Nat,(∀x∈l,x=0)->l.sum=0
 | [],_=>rfl
 | x::l,h=>by
  rw[eV,h x qd,z95 l λy q=>h y (qp _ q)]
theorem zrd (n:Int)(k:Nat):∀ks:List Int,ks.Nodup->(ks.map λm=>if n=m then k else 0).sum<=k
 | [],_=>qh _
 | m::ks,h=>by
  rw[wR,eV];have h1:=ud.1 h;by_cases e:n=m
  .rw[if_pos e];have:(ks.map λm=>if n=m then k else 0).sum=0:=by
    refine z95 _ ?_;intro x G;obtain⟨q,J,rfl⟩:=qx.1 G;rw[if_neg (λO=>h1.1 (by rw[<-e,O];exact J))]
   omega
  .rw[if_neg e];have:=zrd n k ks h1.2;omega
theorem zbX:∀(B:List SX.Blk) (ks:List Int),ks.Nodup->(ks.map (wtB B)).sum<=(B.map tot).sum
 | [],ks,_=>by
  have:(ks.map (wtB [])).sum=0:=by
   refine z95 _ ?_;intro x G;obtain⟨q,_,rfl⟩:=qx.1 G;rfl
  omega
 | b::B,ks,h=>by
  have e:ks.map (wtB (b::B))=ks.map λm=>(if b.n=m then tot b else 0)+wtB B m:=List.map_congr_left λm _=>by
   unfold wtB;rw[rZ];by_cases e:b.n=m
   .rw[if_pos (by simpa using e),if_pos e];simp
   .rw[if_neg (by simpa using e),if_neg e];simp
  rw[e,wR,eV];have J:=zrd b.n (tot b) ks h;have O:=zbX B ks h;have U:(ks.map λm=>(if b.n=m then tot b else 0)+wtB B m).sum=(ks.map λm=>if b.n=m then tot b else 0).sum+(ks.map (wtB B)).sum:=by
   clear e h J O
   induction ks with
   | nil=>rfl
   | cons m ks ih=>simp only[wR,eV];omega
  omega
theorem z14:∀(l:List Sr) (j:Nat),HD.total (l.take j)<=HD.total l
 | [],j=>by simp
 | x::l,0=>by simp[HD.total]
 | x::l,j+1=>by
  rw[uf,HD.z0f,HD.z0f];have:=z14 l j;omega
theorem zdr (l:List Sr)(j:Nat)(h:j<l.length):HD.total (l.take (j+1))=HD.total (l.take j)+(z03 l j).2.length:=by
 rw[wJ,qw h];have e:∀(a b:List Sr),HD.total (a++b)=HD.total a+HD.total b:=λa b=>by
  induction a with
  | nil=>simp[HD.total]
  | cons x a ih=>rw[List.cons_append,HD.z0f,HD.z0f,ih];omega
 rw[e];have q:HD.total (some l[j]).toList=(z03 l j).2.length:=by
  show HD.total [l[j]]=_;rw[HD.z0f];simp[HD.total,z03,q7,qw h]
 rw[q]
theorem zik (hb bm mc:Nat)(Zh:Nat->Prop)(vg:Value)(x:SX.St)(od:Int->Int)(w:World)(h:z1v w hb bm mc Zh vg x od)(ao lo:Option Addr)(W0 l:List Sr)(wc lc:Nat)(hW:z0r w ao W0)(B0:HD.Good W0)(hL:z0r w lo l)(Cf:l.length<=1000)(Cg:l.length<=lc)(B3:∀i,i<l.length->(z03 l i).1.length<=1000/\(z03 l i).2.length<=100000)(hB:∀b∈x.s.B,HD.Ord b.S/\b.S.length<=100000/\∀i,i<b.S.length->(z03 b.S i).1.length<=1000)(hT:HD.total W0+(x.s.B.map tot).sum+HD.total l<=2000):
  Calls q6 55 #[.agg (z0L hb bm vg x),.slice ao W0.length wc,.slice lo l.length lc] w λe w'=>e= .returned .nilIface/\Below w.heap.size w w':=by
 have B5:Below w.heap.size w (w.alloc (.cells (z0L hb bm vg x) 77)):=(Below.refl _ w).alloc (qq _) _;have B6:=qu w (.cells (z0L hb bm vg x) 77);obtain⟨ga,gc,Ba⟩:=z02 h.gn;generalize (x.G.map λd=>SX.txt (.gone d)).length=gn at Ba;subst Ba;obtain⟨mf,Bb,AD⟩:=h.mp;have BN:=hid B5;have Bc:=hid B6;have Be:=hid Bb;have Bf:=hid AD;have HW:=hid hW;have AJ:=hid B0;have HL:=hid hL;have Bg:=hid B3;have BO:=hid hB;have AK:=hid hT;clear B5 B6 h Bb AD hW B0 hL B3 hB hT;go_enter func55,ntmps55;go_wp2_with fail;generalize w.alloc (.cells (z0L hb bm (.slice ga gn gc) x) 77)=w1 at*;have Cb:w.heap.size<w1.heap.size:=z00 Bc.out;go_loopw [16] (λti wr=>∃i:Nat,i<=l.length/\ti= .int .i64 i/\Below w.heap.size w wr/\wr.heap[w.heap.size]? =some (.cells (z0L hb bm (.slice ga gn gc) x) 77)) (λti _=>l.length-(intOf ti).toNat)
 case atStart=>exact⟨0,qh _,rfl,BN.out,Bc.out⟩
 case round=>
  obtain⟨i,hi,rfl,V,A4⟩:=hrel
  rename World=>wr0
  by_cases Bh:i<l.length
  .obtain⟨b,off,rfl,Bi,O,U,A7,A8,c0,c1,AL,BP⟩:=HL.out i Bh;have m0:=(V.cell (p:=⟨b,off+i*2,none⟩) Bi).trans c0;have m1:=(V.cell (p:=⟨b,off+i*2+1,none⟩) Bi).trans c1;have Ah:=Bg.out i Bh;have Ch:0<=(i:Int)/\(i:Int)<(l.length:Int):=by omega
   have q:Below wr0.heap.size wr0 (wr0.alloc (.cells #[.slice O (z03 l i).1.length U,.slice A7 (z03 l i).2.length A8] 93)):=(Below.refl _ wr0).alloc (qq _) _;have A1:=qu wr0 (.cells #[.slice O (z03 l i).1.length U,.slice A7 (z03 l i).2.length A8] 93);have A6:Below w.heap.size w (wr0.alloc (.cells #[.slice O (z03 l i).1.length U,.slice A7 (z03 l i).2.length A8] 93)):=V.trans (q.mono V.size);have Bj:∀k,k<W0.length->(z03 W0 k).1.length<=1000:=λk hk=>by have:=z0T (AJ.out.ok _ (HD.at_mem W0 k hk)).1;omega
   have HC:=hid (zc8 ao O W0 (z03 l i).1 wc U _ (HW.out.below A6) (AL.below A6) AJ.out.ord (by have:=AJ.out.few;omega) Bj Ah.1);have AE:=hid A6;have A9:=hid A1;have Bl:=hid AL;have Bm:=hid ((q.block _ (z00 A4)).trans A4);have d0:qs _ ⟨wr0.heap.size,0,none⟩=some (.slice O (z03 l i).1.length U):=z01 _ _ _ _ A1 0 _ rfl;have Cc:=V.size;have Cd:w.heap.size<wr0.heap.size:=z00 A4;clear V A4 c0 c1 AL BP q A1 A6 Bj;generalize Ci:(z03 l i).1=Li at*;go_wp2_with fail;generalize wr0.alloc (.cells #[.slice O Li.length U,.slice A7 (z03 l i).2.length A8] 93)=w2 at*;refine HC.out.mono ?_;rintro e w3 ⟨rfl,Au⟩;have Ai:Below w.heap.size w w3:=AE.out.trans (Au.mono AE.out.size);have A2:=(Au.block _ (z00 Bm.out)).trans Bm.out;have A5:=(Au.block _ (z00 A9.out)).trans A9.out;have m3:w3.cell? ⟨w.heap.size,1,none⟩=some (.map (some bm)):=z01 _ _ _ _ A2 1 _ rfl;have Bo:=Be.out.below Ai Be.out.lt;have BQ:=hid Bo;have Ac:=hid Ai;have Aj:=hid A2;have Av:=hid A5;have BR:=zd4 W0 Li;generalize z9W W0 Li=h0 at*;clear Ai A2 A5 Bo Au HC d0;go_wp2_with (at_range;refine z7H rfl (.tmp 26) 75 rfl 2 123 zaY zbR bm mc mf rfl BQ.out ?_)
   intro w4 c4 Bp Aw BS;have Bq:=hid Bp;have Ad:=hid (Ac.out.grown Aw Ac.out.size (λj hj=>by cases hj));have Ae:=hid ((Aw.block _ (z00 Aj.out) (by simp)).trans Aj.out);have Af:=hid ((Aw.block _ (z00 Av.out) (by simp)).trans Av.out);have BU:=Ac.out.size;clear Bp Aw m3 BS;go_wp2_with fail;generalize BV:w3.heap.size=r at*;have Cj:w.heap.size<=r:=BU;clear BV;go_loopw [9] (λt9 W=>∃(ks:List Int) (c cn:Nat),t9= .int .i64 (c:Int)/\c<=HD.total W0+(ks.map (wtB x.s.B)).sum/\ks.Nodup/\zcQ q6 2 W bm r mc mf ks cn/\Below w.heap.size w W/\W.heap[w.heap.size]? =some (.cells (z0L hb bm (.slice ga gn gc) x) 77)/\W.heap[wr0.heap.size]? =some (.cells #[.slice O Li.length U,.slice A7 (z03 l i).2.length A8] 93)) (λ_ W=>W.rangeLeft bm r)
   case atStart=>exact⟨[],h0,c4,rfl,by simpa using BR,oE,Bq.out,Ad.out,Ae.out,Af.out⟩
   case round=>
    obtain⟨ks,c,cn,rfl,hc,AM,Br,V,Bt,Bu⟩:=hrel;have HR:=hid Br;have Ag:=hid V;have Ak:=hid Bt;have Al:=hid Bu;have BW:=hid AM;have BX:=zbX x.s.B ks AM;have Ck:c<=2000:=by have:=AK.out;omega
    clear Br V Bt Bu AM Bq Ad Ae Af;go_wp2_with (at_next;refine z98 rfl (.tmp 27) rfl 2 zaY bm r mc mf ks cn rfl HR.out ?_ ?_)
    .intro _ _
     rename World=>wp
     have Cl:c<=HD.total W0+(x.s.B.map tot).sum:=by omega
     clear hc BX;go_wp2_with fail;go_loopw [9,41] (λt9 tj W=>∃(j c3:Nat),j<=l.length/\tj= .int .i64 (j:Int)/\t9= .int .i64 (c3:Int)/\c3<=c+HD.total (l.take j)/\Below w.heap.size w W/\W.heap[w.heap.size]? =some (.cells (z0L hb bm (.slice ga gn gc) x) 77)/\W.heap[wr0.heap.size]? =some (.cells #[.slice O Li.length U,.slice A7 (z03 l i).2.length A8] 93)) (λ_ tj _=>l.length-(intOf tj).toNat)
     case atStart=>exact⟨0,c,qh _,rfl,rfl,by omega,Ag.out,Ak.out,Al.out⟩
     case round=>
      obtain⟨j,c3,hj,rfl,rfl,Cm,Y,A2,A5⟩:=hrel
      rename World=>wq
      have Aj:=hid A2;have Av:=hid A5;have Ac:=hid Y;have Cn:=AK.out;by_cases AO:j<l.length
      .obtain⟨b2,Ce,BZ,AF,Am,Ao,Ax,Ay,c0,c1,AG,Bv⟩:=HL.out j AO;cases BZ;have n0:=(Y.cell (p:=⟨b,off+j*2,none⟩) AF).trans c0;have n1:=(Y.cell (p:=⟨b,off+j*2+1,none⟩) AF).trans c1;have Co:0<=(j:Int)/\(j:Int)<(l.length:Int):=by omega
       have Cp:=zdr l j AO;have Cq:=z14 l (j+1);have q:Below wq.heap.size wq (wq.alloc (.cells #[.slice Am (z03 l j).1.length Ao,.slice Ax (z03 l j).2.length Ay] 93)):=(Below.refl _ wq).alloc (qq _) _;have A1:=qu wq (.cells #[.slice Am (z03 l j).1.length Ao,.slice Ax (z03 l j).2.length Ay] 93);have AP:=(q.block _ (z00 A5)).trans A5;have Az:Below w.heap.size w _:=Y.trans (q.mono Y.size);have n2:qs _ ⟨wq.heap.size,0,none⟩=some (.slice Am (z03 l j).1.length Ao):=z01 _ _ _ _ A1 0 _ rfl;have n3:qs _ ⟨wr0.heap.size,0,none⟩=some (.slice O Li.length U):=z01 _ _ _ _ AP 0 _ rfl;have HC:=hid (z3X Am O (z03 l j).1 Li Ao U _ (AG.below Az) (Bl.out.below Az) (Bg.out j AO).1 Ah.1);have Ae:=hid ((q.block _ (z00 A2)).trans A2);have Af:=hid AP;have Ad:=hid Az;have A9:=hid A1;clear Y A2 A5 q A1 AP Az c0 c1 AG Bv Aj Av Ac;generalize (z03 l j).1=Lj at*;generalize (z03 l j).2.length=sj at*;go_wp2_with fail;generalize wq.alloc (.cells #[.slice Am Lj.length Ao,.slice Ax sj Ay] 93)=w8 at*;refine HC.out.mono ?_;rintro e w9 ⟨rfl,Ap⟩;have Bw:=hid ((Ap.block _ (z00 Ae.out)).trans Ae.out);have By:=hid ((Ap.block _ (z00 Af.out)).trans Af.out);have Bz:=hid (Ad.out.trans (Ap.mono Ad.out.size));have BA:=(Ap.block _ (z00 A9.out)).trans A9.out;have n4:w9.cell? ⟨wq.heap.size,1,none⟩=some (.slice Ax sj Ay):=z01 _ _ _ _ BA 1 _ rfl;have C0:qW.wrap ((c3:Int)+(sj:Int))=((c3+sj:Nat):Int):=by rw[qY];omega
       clear Ap BA HC Ae Af Ad A9;by_cases AQ:LB.cmp Lj Li=0
       .rw[AQ];clear AQ;go_wp2_with fail;go_roundw
        case rel=>exact⟨j+1,c3+sj,by omega,by go_num,by first | rfl | simp,by omega,Bz.out,Bw.out,By.out⟩
        case measure=>simp[intOf];omega
       .have hd:decide (LB.cmp Lj Li=0)=false:=by simp[AQ]
        generalize LB.cmp Lj Li=cm at*;go_wp2_with fail;go_roundw
        case rel=>exact⟨j+1,c3,by omega,by go_num,rfl,by omega,Bz.out,Bw.out,By.out⟩
        case measure=>simp[intOf];omega
      .have he:j=l.length:=by omega
       subst he;have Cr:c3<=2000:=by have:=z14 l l.length;omega
       have Cs:¬(2000:Int)<(c3:Int):=by omega
       clear Y A2 A5;go_wp2_with fail;go_roundw
       case rel=>exact⟨i+1,by omega,by go_num,Ac.out,Aj.out⟩
       case measure=>simp[intOf];omega
    .intro s v w5 c5 hs hf BB AH BC AA BD Ct;obtain⟨J,AB,rfl⟩:=Bf.out.2 s (by rw[hf];simp);obtain⟨bv,q1,q2,_⟩:=Bf.out.1 J AB;rw[hf] at q1;have hv:=qt q1;subst hv;obtain⟨bo,bc,BF,BG⟩:=z0r.z08 q2.own;subst BF;obtain⟨hO,hn,BH⟩:=BO.out J AB;have AR:=Ag.out.grown AA Ag.out.size (λj hj=>by cases hj;omega);have AU:=(AA.block _ (z00 Ak.out) (λe=>by cases e;have:=HR.out.iter;rw[Ak.out] at this;obtain⟨_,_,_,_,e⟩:=this;cases e)).trans Ak.out;have AV:=(AA.block _ (z00 Al.out) (λe=>by
      have e2:wr0.heap.size=r:=qt e;have:=HR.out.iter;rw[<-e2,Al.out] at this;obtain⟨_,_,_,_,e⟩:=this;cases e)).trans Al.out
     have q:Below w5.heap.size w5 (w5.alloc (.cells #[.int .i64 J.zto,.int .i64 (od J.n),.slice bo J.S.length bc] 123)):=(Below.refl _ w5).alloc (qq _) _;have A1:=qu w5 (.cells #[.int .i64 J.zto,.int .i64 (od J.n),.slice bo J.S.length bc] 123);have AC:Below w.heap.size w _:=AR.trans (q.mono AR.size);have n2:qs _ ⟨w5.heap.size,2,none⟩=some (.slice bo J.S.length bc):=z01 _ _ _ _ A1 2 _ rfl;have AW:=(q.block _ (z00 AV)).trans AV;have n0:qs _ ⟨wr0.heap.size,0,none⟩=some (.slice O Li.length U):=z01 _ _ _ _ AW 0 _ rfl;have HC:=hid (zc8 bo O J.S Li bc U _ (BG.below AC) (Bl.out.below AC) hO hn BH Ah.1);have C2:=zd4 J.S Li;have C3:tot J<=wtB x.s.B J.n:=zmd AB;have BI:=hid (AH.alloc (.cells #[.int .i64 J.zto,.int .i64 (od J.n),.slice bo J.S.length bc] 123));have AX:=hid AC;have AY:=hid ((q.block _ (z00 AU)).trans AU);have AZ:=hid AW;have C4:=hid HR.out.left;have Aq:(ks++[J.n]).Nodup:=by
      rw[List.nodup_append];refine⟨BW.out,ud.2 ⟨by simp,oE⟩,λa ha b hb=>?_⟩;obtain rfl:=qk.1 hb;exact λe=>BB (e▸ha)
     have Ar:=zbX x.s.B (ks++[J.n]) Aq;rw[wK,uK] at Ar;simp only[wR,yX,eV,p6,yI] at Ar;have BJ:=hid Aq;have C5:tot J=HD.total J.S:=rfl;generalize z9W J.S Li=hh at*;have Cu:c+hh<=2000:=by have:=AK.out;omega
     have C6:c+hh<=HD.total W0+((ks++[J.n]).map (wtB x.s.B)).sum:=by
      rw[wK,uK];simp only[wR,yX,eV,p6,yI];omega
     have C0:qW.wrap ((c:Int)+(hh:Int))=((c+hh:Nat):Int):=by rw[qY];omega
     clear BD;clear AR AU AV q A1 AC AW hO hn BH BG q1 q2 AH AA HR Ak Al Aq Ar C3 C5 C2 hf BB AB Ag;go_wp2_with fail;generalize w5.alloc (.cells #[.int .i64 J.zto,.int .i64 (od J.n),.slice bo J.S.length bc] 123)=w6 at*;refine HC.out.mono ?_;rintro e w7 ⟨rfl,A3⟩;have C8:=hid (AX.out.trans (A3.mono AX.out.size));have BM:=hid (BI.out.kept (row:=none) ⟨A3.os,A3.tape,A3.output,A3.size,λk hk _=>A3.block k hk⟩ (by simp) (by simp));have C9:=hid ((A3.block _ (z00 AY.out)).trans AY.out);have Ca:=hid ((A3.block _ (z00 AZ.out)).trans AZ.out);clear A3 HC BI AX AY AZ n0 n2;go_wp2_with fail;go_roundw
     case rel=>exact⟨ks++[J.n],c+hh,c5,by first | rfl | (congr 1) | simp,C6,BJ.out,BM.out,C8.out,C9.out,Ca.out⟩
     case measure=>
      rw[BM.out.left,C4.out];exact BC
  .have Ag:=hid V;clear V A4;go_wp2_with fail;go_ret;exact⟨rfl,Ag.out⟩
end
section
open Go.RowKit Go.Maps
theorem zjZ {mark:Int}:∀{l S:List Sr} {i:Nat},(HD.run mark S l i).1=none->∀x∈l,okS x=true
 | [],_,_,_,x,q=>by cases q
 | y::l,S,i,h,x,q=>by
  unfold HD.run at h;by_cases G:HD.err mark S y=0
  .rw[if_pos G] at h;rcases qg.1 q with rfl|q
   .obtain⟨J,O,_⟩:=HD.z3S G;unfold okS;rw[J,O];rfl
   .exact zjZ h x q
  .rw[if_neg G] at h;cases h
theorem zaJ {mark:Int}{S l:List Sr}(h:(HD.app mark S l).1=(0, -1)):∀x∈l,okS x=true:=by
 unfold HD.app at h;split at h
 .cases h
 .cases hr:HD.run mark S l 0 with
  | mk a b=>
   rw[hr] at h;cases a with
   | none=>exact zjZ (i:=0) (by rw[hr])
   | some p=>
    simp only at h;have:=congrArg Prod.snd h;simp only at this;omega
theorem z2e.same {w w':World}{bs bw bd cnt:Nat}{Z:Nat->Prop}{D:DK.M}{p:Int}{hb bm mc:Nat}{Zh:Nat->Prop}{vg:Value}{x:SX.St}{od:Int->Int}{G:Ending}
  (h:∃o dn' Z',SX.z1z x (z1u x x od) D p o/\(o.1=0->dn'=false)/\G= .returned (er o.1)/\
   ((o.1≠0/\z0H w' bs bw bd (cnt+400) Z' o.2.1 o.2.2 dn' false hb bm mc Zh vg x od/\z1X w (ZS Z Zh bs bm vg) w' (ZS Z' Zh bs bm vg))\/
    (o.1=0/\z0H w' bs bw bd (cnt+400) Z' o.2.1 o.2.2 dn' true hb bm mc Zh vg x od/\XFr (λj=>Z j\/j=bs) w w'/\∀j,Z' j->Z j\/w.heap.size<=j))):z2e w bs bw bd cnt Z D p hb bm mc Zh vg x od x od G w':=by
 obtain⟨o,dn',Z',J,O,U,V⟩:=h;refine⟨o,dn',Z',J,O,U,?_⟩;rcases V with k|⟨Y,q,k3,k4⟩
 .exact .inl k
 .refine .inr ⟨Y,hb,bm,Zh,vg,⟨q.wt,q.box,q.now.mono (wP _),q.zm,q.zg,q.zgh,q.zgv,q.wid,q.gl⟩,k3.mono (X':=ZS Z Zh bs bm vg) ?_,?_⟩
  .rintro j (e|e)
   .exact .inl e
   .exact .inr (.inr (.inl e))
  .rintro j (e|e)
   .rcases k4 j e with e|e
    .exact .inl (.inl e)
    .exact .inr e
   .exact .inl (.inr e)
theorem z0H.head {w w':World}{bs bw bd cnt hb bm mc:Nat}{Z Zh q:Nat->Prop}{D:DK.M}{p:Int}{dn up:Bool}{vg:Value}{x:SX.St}{od:Int->Int}(h:z0H w bs bw bd cnt Z D p dn up hb bm mc Zh vg x od)(hf:ZFr Zh w w'){Y:List Sr}(hH:HdT w' hb q x.s.mark Y)(O:∀j,q j->Go.Proofs.YtemeblgngidldaaGreatDoor.wid Zh w w' j):z0H w' bs bw bd cnt Z D p dn up hb bm mc q vg ⟨{x.s with H:=Y},x.G⟩ od/\z1X w (ZS Z Zh bs bm vg) w' (ZS Z q bs bm vg):=by
 have U:∀j,Z j->w'.heap[j]? =w.heap[j]? :=λj J=>hf.block j (h.wt.lt j J) (λe=>by
  obtain⟨c,e',q1,q2⟩:=h.now.hd.kind j e;exact h.wt.kind.out q1 (by unfold KD;rcases q2 with rfl | rfl<;>decide) J)
 have V:w'.heap[1]? =w.heap[1]? :=by
  exact hf.block _ h.gl h.zgh
 refine⟨⟨h.wt.kept hf.size U,(hf.block bs (z00 h.box) (h.now.hd.out h.box (λc e fz k=>by cases k;decide))).trans h.box,h.now.head hf hH O,h.zm,h.zg,(λe=>by
  rcases O _ e with e|e
  .exact h.zgh e
  .have h9:=h.gl;omega),h.zgv,λi hi=>(qj (a:=⟨1,i,none⟩) V).trans (h.wid i hi),qe h.gl hf.size⟩,⟨hf.os,hf.tape,hf.output,hf.size,λj J hn=>hf.block j J (λe=>hn (.inr (.inl e)))⟩,?_⟩
 rintro j (e|e|e)
 .exact .inl (.inl e)
 .rcases O j e with e|e
  .exact .inl (.inr (.inl e))
  .exact .inr e.1
 .exact .inl (.inr (.inr e))
theorem SrT.below {w w':World}{Zh:Nat->Prop}{v:Value}{S:List Sr}(h:SrT w Zh v S)(k:Below w.heap.size w w'):SrT w' Zh v S:=
 h.kept λg _ _ _ q=>k.block g (z00 q)
theorem z0H.zmt {w w1:World}{bs bw bd cnt hb bm mc q:Nat}{Z Zh O:Nat->Prop}{D:DK.M}{p:Int}{dn up:Bool}{vg:Value}{x:SX.St}{od:Int->Int}(h:z0H w bs bw bd cnt Z D p dn up hb bm mc Zh vg x od)(k:Below w.heap.size w w1){U:List Sr}(hH:HdT w1 q O x.s.mark U)(V:∀j,O j->w.heap.size<=j):
  z0H (w1.setCell ⟨bs,3,none⟩ (.pointer (some ⟨q,0,none⟩))) bs bw bd cnt Z D p dn up q bm mc O vg ⟨{x.s with H:=U},x.G⟩ od/\z1X w (ZS Z Zh bs bm vg) (w1.setCell ⟨bs,3,none⟩ (.pointer (some ⟨q,0,none⟩))) (ZS Z O bs bm vg):=by
 have h1:=h.below k;have hn:z1v w1 q bm mc O vg ⟨{x.s with H:=U},x.G⟩ od:=by
  obtain⟨f,Y,q2,q3⟩:=h.now.mp;refine⟨hH,⟨f,Y.block (k.block bm Y.lt),λb hb=>?_,q3⟩,h1.now.gn⟩;obtain⟨v,r1,r2,r3⟩:=q2 b hb;refine⟨v,r1,?_,r3⟩;have r4:SrT w O v b.S:=r2.wide λj J=> .inr (V j J)
  exact r4.below k
 refine⟨h1.reset h1.wt (XFr.refl _ _) (λj J=> .inl J) (by rw[z0g]) (λj J=>Below.heap_setCell w1 ⟨bs,3,none⟩ _ j J) (qo w1 bs 3 _ _ _ h1.box) hn h1.zm (λe=>by have h8:=V _ e;have h9:=h.gl;omega) h1.zgv,?_,?_⟩
 .exact(XFr.below k).trans (XFr.setCell (X:=ZS Z Zh bs bm vg) w1 ⟨bs,3,none⟩ _ (.inr (.inr (.inl rfl)))) (λj J=> .inl J)
 .rintro j (e|e|e)
  .exact .inl (.inl e)
  .exact .inr (V j e)
  .exact .inl (.inr (.inr e))
def zbk (w:World)(bs bw bd cnt:Nat)(Z:Nat->Prop)(D:DK.M)(p:Int)(hb bm mc:Nat)(Zh:Nat->Prop)(vg:Value)(x:SX.St)(od:Int->Int)(l:List Sr)(h:Ending)(w':World):Prop:=
 (l=[]/\z2e w bs bw bd cnt Z D p hb bm mc Zh vg x od x od h w')\/
 (l≠[]/\(HD.app x.s.mark x.s.H l).1≠(0, -1)/\∃ev Zt,h= .returned ev/\zgE w' (HD.app x.s.mark x.s.H l).1 ev/\z0H w' bs bw bd cnt Z D p false true hb bm mc Zt vg x od/\z1X w (ZS Z Zh bs bm vg) w' (ZS Z Zt bs bm vg))\/
 (l≠[]/\(HD.app x.s.mark x.s.H l).1=(0, -1)/\h= .returned (er (WL.z1V kpt (SX.txt (.came l)) D p).1)/\∃hb2 Z' Zt,
  z0H w' bs bw bd (cnt+4) Z' (WL.z1V kpt (SX.txt (.came l)) D p).2.1 (WL.z1V kpt (SX.txt (.came l)) D p).2.2 (decide ((WL.z1V kpt (SX.txt (.came l)) D p).1≠0)) (decide ((WL.z1V kpt (SX.txt (.came l)) D p).1=0)) hb2 bm mc Zt vg (if(WL.z1V kpt (SX.txt (.came l)) D p).1=0 then SX.zjO l x else x) od/\z1X w (ZS Z Zh bs bm vg) w' (ZS Z' Zt bs bm vg))
theorem ziL {w:World}{bs bw bd cnt hb bm mc:Nat}{Z Zh:Nat->Prop}{D:DK.M}{p:Int}{vg:Value}{x:SX.St}{od:Int->Int}(h:z0H w bs bw bd cnt Z D p false true hb bm mc Zh vg x od)(lo:Option Addr)(l:List Sr)(lc:Nat)(hL:z0z w Zh lo l)(AG:z0z w (ZS Z Zh bs bm vg) lo l)(AH:z8p l)(AJ:l.length<=1000)(Br:l.length<=lc)(AK:∀i,i<l.length->(z03 l i).1.length<=1000/\(z03 l i).2.length<=1000)(hR:∀i,i<l.length->∀s∈(z03 l i).2,CL.Rs s)
  (hF:SX.Fit x) (Bt:cnt<=80000) (Ar:DK.Fine 50000000 D) (AL:mc<=100000) (Ao:SX.Few 40 D) (hM:zhV x x od) (hB:∀b∈x.s.B,HD.Ord b.S/\b.S.length<=100000/\∀i,i<b.S.length->(z03 b.S i).1.length<=1000) (hT:(HD.app x.s.mark x.s.H l).1=(0, -1)->HD.total x.s.H+(x.s.B.map tot).sum+HD.total l<=2000) (AM:(HD.app x.s.mark x.s.H l).1=(0, -1)->(SX.txt (.came l)).size<=60000):
  Calls q6 23 #[.pointer (some ⟨bs,0,none⟩),.slice lo l.length lc] w λen w'=>zbk w bs bw bd cnt Z D p hb bm mc Zh vg x od l en w':=by
 obtain⟨ga,gc,AO⟩:=z02 h.now.gn;generalize (x.G.map λd=>SX.txt (.gone d)).length=gn at AO;subst AO;have AP:=hid (z1e h);have m3:w.cell? ⟨bs,3,none⟩=some (.pointer (some ⟨hb,0,none⟩)):=z01 _ _ _ _ h.box 3 _ rfl;have m4:w.cell? ⟨bs,4,none⟩=some (.map (some bm)):=z01 _ _ _ _ h.box 4 _ rfl;have m5:w.cell? ⟨bs,5,none⟩=some (.int .i64 x.s.nx):=z01 _ _ _ _ h.box 5 _ rfl;have m6:w.cell? ⟨bs,6,none⟩=some (.slice ga gn gc):=z01 _ _ _ _ h.box 6 _ rfl;have Ae:=hid (z2q h h.now h.zm h.zgh h.zgv Bt Ar AL AL hM Ao);have AQ:=hid (z3C hb Zh x.s.mark x.s.H w h.now.hd.toI hF.inv.head);have HI:=hid h;have HF:=hid hF;have Bu:=hid Ar;have HL:=hid hL;have BH:=hid AG;have HS:=hid (qv AH (qv AK hR));have HB:=hid hB;have HT:=hid (qv hT AM);have HM:=hid hM;simp only[z0L] at Ae;clear h hF Ar hL AG AH AK hR hB hT AM hM Ao;go_enter func23,ntmps23;go_wp2_with fail;refine AP.out.mono ?_;rintro e w0 ⟨rfl,Au⟩;have Au:=Au.symm;subst Au;clear AP;by_cases A1:l.length=0
 .have AR:l=[]:=List.eq_nil_of_length_eq_zero A1;have HN:=hid AR;rw[A1];clear A1 AR;go_wp2_with fail;refine Ae.out.mono ?_;intro e w1 A2;have A3:=z2e.same A2;obtain⟨o,_,_,_,_,rfl,_⟩:=id A2;have HE:=hid A3;clear A2 A3 Ae;generalize er o.1=ev at*;go_wp2_with fail;go_ret;exact .inl ⟨HN.out,HE.out⟩
 .have BI:(0:Int)<(l.length:Int):=by omega
  have HN:=hid (show l≠[] from λe=>A1 (by rw[e];rfl));clear A1 Ae;go_wp2_with fail;refine AQ.out.mono ?_;rintro e w1 ⟨v,rfl,A4,Af⟩;have A5:∀j,Zh j->j<w.heap.size:=HI.out.now.hd.lt;obtain⟨wo,wc,rfl,AU⟩:=z0z.z08 A4 A5;have AV:SrT w1 Zh (.slice wo x.s.H.length wc) x.s.H:=SrT.z08 A4 A5;have Ag:=HI.out.below Af;have Av:z0z w1 Zh lo l:=HL.out.kept (ZFr.below Af);have Aw:=hid (z2F hb Zh x.s.mark x.s.H l lo lc w1 Ag.now.hd.toI HF.out.inv.head Av AJ HS.out.2.1 HS.out.2.2);have m3:w1.cell? ⟨bs,3,none⟩=some (.pointer (some ⟨hb,0,none⟩)):=z01 _ _ _ _ Ag.box 3 _ rfl;have AW:=hid Ag;have AX:=hid Af;have Bv:=hid AU;have Bw:=hid AV;have By:=hid Av;clear A4 Af A5 AU AV Ag Av AQ;go_wp2_with fail;refine Aw.out.mono ?_;rintro e w2 ⟨⟨ev,rfl,A6⟩,Ax,Y⟩;obtain⟨Zt,Ay,Ah⟩:=Ax.tight;have Az:=AW.out.now.hd.kind;obtain⟨O,Ai⟩:=AW.out.head Y Ay Ah;by_cases J:(HD.app x.s.mark x.s.H l).1=(0, -1)
  .have AY:ev= .nilIface:=by
    rcases A6 with⟨_,e⟩|⟨e,_⟩|⟨e,_⟩
    .exact e
    .rw[J] at e;cases e
    .rw[J] at e;exact absurd e (by decide)
   subst AY;have Ap:=Bw.out.step Az Y Ah;have AZ:=hid (Bv.out.kept Y).row;have AA:=(By.out.kept Y).row;have AB:=hid (zik hb bm mc Zt (.slice ga gn gc) _ od w2 O.now wo lo x.s.H l wc lc AZ.out HF.out.inv.head AA AJ Br (λi hi=>⟨(HS.out.2.1 i hi).1,by have:=(HS.out.2.1 i hi).2;omega⟩) HB.out (HT.out.1 J));simp only[z0L] at AB;have m3:w2.cell? ⟨bs,3,none⟩=some (.pointer (some ⟨hb,0,none⟩)):=z01 _ _ _ _ O.box 3 _ rfl;have m4:w2.cell? ⟨bs,4,none⟩=some (.map (some bm)):=z01 _ _ _ _ O.box 4 _ rfl;have m5:w2.cell? ⟨bs,5,none⟩=some (.int .i64 x.s.nx):=z01 _ _ _ _ O.box 5 _ rfl;have m6:w2.cell? ⟨bs,6,none⟩=some (.slice ga gn gc):=z01 _ _ _ _ O.box 6 _ rfl;have Bz:=hid AA;have BA:=hid O;have BB:=hid Ai;have B0:=hid Ap;have HA:=hid J;clear A6 Ax Y Ay Ah Az O Ai J Ap AA Aw;go_wp2_with fail;refine AB.out.mono ?_;rintro e w3 ⟨rfl,Aj⟩;have Ak:=BA.out.below Aj;have B3:=hid (zcA lo l lc w3 (Bz.out.below Aj) HS.out.1 (λi hi=>zaJ HA.out _ (HD.at_mem l i hi)) Ak.wid Ak.gl (by have:=HT.out.2 HA.out;omega));have BC:=hid Ak;have B5:=hid Aj;clear Ak Aj AB;go_wp2_with fail;refine B3.out.mono ?_;rintro e w4 ⟨rfl,AC⟩;have AD:=BC.out.below AC;have AE:=hid (zcc AD (SX.txt (.came l)) (HT.out.2 HA.out) Bu.out (by omega) (by omega));have BD:=hid AD;have B6:=hid AC;clear AD AC B3;go_wp2_with fail;refine AE.out.mono ?_;rintro e w5 ⟨rfl,Z5,U,Al⟩;have A7:=(B0.out.below B5.out).below B6.out;have A8:=BD.out.z2v Al (λj hj=> .inr (.inl hj)) A7;have Am:z1X w (ZS Z Zh bs bm (.slice ga gn gc)) w5 (ZS Z5 Zt bs bm (.slice ga gn gc)):=(((z1X.below AX.out BB.out).behind B5.out).behind B6.out).trans Al;by_cases h0:(WL.z1V kpt (SX.txt (.came l)) D p).1=0
   .have V:Hid (zbk w bs bw bd cnt Z D p hb bm mc Zh (.slice ga gn gc) x od l (.returned .nilIface) w5):=hid (.inr (.inr ⟨HN.out,HA.out,by rw[z1R h0],hb,Z5,Zt,by rw[if_pos h0];exact U,Am⟩));rw[z1R h0];clear h0 U Al A7 A8 Am AE m3 m4 m5 m6;go_wp2_with fail;go_ret;exact V.out
   .have Aq:=U;rw[show decide ((WL.z1V kpt (SX.txt (.came l)) D p).1=0)=false from by simp[h0]] at Aq;obtain⟨v5,BJ,Ba,_⟩:=U.now.hd;have Bb:=hid (z3v hb x.s.mark v5 w5 Ba.box);have Bc:=hid (z8l x.s.mark 0 (.slice wo x.s.H.length wc) x.s.H w5 A8.own (qh _) HF.out.inv.head HF.out.sixty (λy hy s hs=>HF.out.inv.hd y.1 s ⟨y,hy,rfl,hs⟩));have m3:w5.cell? ⟨bs,3,none⟩=some (.pointer (some ⟨hb,0,none⟩)):=z01 _ _ _ _ U.box 3 _ rfl;have Be:=hid U;have BF:=hid Am;have H0:=hid h0;rw[z13 h0];generalize Bf:(WL.z1V kpt (SX.txt (.came l)) D p).1=cc at*;have Bg:=hid Bf;clear h0 U Aq Al A7 A8 Am AE Ba m4 m5 m6 Bf;go_wp2_with fail;refine Bb.out.mono ?_;rintro e w6 ⟨rfl,AF⟩;have AF:=AF.symm;subst AF;clear Bb;go_wp2_with fail;refine Bc.out.mono ?_;rintro e w7 ⟨BG,rfl,Z7,Bh,A9,Ac⟩;obtain⟨Z8,Bi,Bj⟩:=Bh.tight;have Bl:=Be.out.zmt A9 Bi (λj hj=>Ac j (Bj j hj));have Ad:=(Be.out.below A9).box;have m3:w7.cell? ⟨bs,3,none⟩=some (.pointer (some ⟨hb,0,none⟩)):=z01 _ _ _ _ Ad 3 _ rfl;have f3:=hfz Ad 3;have Bm:=hid Bl;clear Bh A9 Ac Bi Bj Bl Ad Bc;go_wp2_with fail;go_ret;refine .inr (.inr ⟨HN.out,HA.out,by rw[Bg.out,z13 H0.out];rfl,BG,Z5,Z8,?_,BF.out.trans Bm.out.2⟩);rw[Bg.out,if_neg H0.out];exact Bm.out.1
  .have Bo:=HD.zci J;have Bp:(⟨{x.s with H:=(HD.app x.s.mark x.s.H l).2},x.G⟩:SX.St)=x:=by rw[Bo]
   rw[Bp] at O;have V:Hid (zbk w bs bw bd cnt Z D p hb bm mc Zh (.slice ga gn gc) x od l (.returned ev) w2):=hid (.inr (.inl ⟨HN.out,J,ev,Zt,rfl,A6,O,z1X.below AX.out Ai⟩));have Bq:(ev= .iface 56 (.int .i64 4))\/∃q,ev= .iface 168 (.pointer (some ⟨q,0,none⟩)):=by
    rcases A6 with⟨e,_⟩|⟨_,e⟩|⟨_,_,q,e,_⟩
    .exact absurd e J
    .exact .inl e
    .exact .inr ⟨q,e⟩
   clear A6 Ax Y Ay Ah Az O Ai J Bo Bp Aw;rcases Bq with rfl|⟨q,rfl⟩
   .go_wp2_with fail;go_ret;exact V.out
   .go_wp2_with fail;go_ret;exact V.out
end
namespace SX
def pts (S:List Sr):List (List LB.Lab×CL.Smp):=S.flatMap λx=>x.2.map λs=>(x.1,s)
theorem z5h:∀S:List Sr,(pts S).length=HD.total S
 | []=>rfl
 | x::S=>by
  have h:=z5h S;unfold pts at h ⊢;rw[List.flatMap_cons,q8,qz,h];simp[HD.total]
theorem z7q {S:List Sr}{L:List LB.Lab}{s:CL.Smp}:(L,s)∈pts S↔In S L s:=by
 unfold pts In;rw[List.mem_flatMap];constructor
 .rintro⟨x,q,h⟩;obtain⟨t,G,e⟩:=qx.1 h;cases e;exact⟨x,q,rfl,G⟩
 .rintro⟨x,q,rfl,J⟩;exact⟨x,q,qx.2 ⟨s,J,rfl⟩⟩
theorem z8r {S:List Sr}(h:HD.Ord S):(S.map (·.1)).Nodup:=
 eX.2 (yu (λ{a b} q e=>by
  rw[show a.1=b.1 from e,HD.z1A] at q;cases q) h)
theorem z9I {S:List Sr}(h:z16 S):(pts S).Nodup:=by
 unfold pts;refine List.pairwise_flatMap.2 ⟨λx J=>?_,?_⟩
 .refine eX.2 (yu (λ{a b} G e=>?_) (h.ris x J));have:=congrArg (λq=>q.2.1) e;simp only at this;omega
 .refine yu (λ{a b} G=>?_) h.ord;intro p O q U e;obtain⟨s,_,rfl⟩:=qx.1 O;obtain⟨t,_,rfl⟩:=qx.1 U;have:=congrArg (λq=>q.1) e;simp only at this;rw[this,HD.z1A] at G;cases G
theorem z9U {S A:List Sr}(h:z16 S)(hi:∀L s,In S L s->In A L s):HD.total S<=HD.total A:=by
 rw[<-z5h,<-z5h];exact z2K _ _ (z9I h) λ⟨L,s⟩ q=>z7q.2 (hi L s (z7q.1 q))
theorem z16.some {S:List Sr}(h:z16 S){x:Sr}(q:x∈S):∃s,In S x.1 s:=by
 obtain⟨s,G⟩:=List.exists_mem_of_length_pos (h.ne x q);exact⟨s,x,q,rfl,G⟩
theorem z8F {S:List Sr}{K:List (List LB.Lab)}(h:z16 S)(hi:∀L s,In S L s->L∈K):S.length<=K.length:=by
 have:=z2K (S.map (·.1)) K (z8r h.ord) λL q=>by
  obtain⟨x,G,rfl⟩:=qx.1 q;obtain⟨s,J⟩:=h.some G;exact hi _ s J
 rw[qz] at this;exact this
theorem In.key {S:List Sr}{L:List LB.Lab}{s:CL.Smp}(h:In S L s):L∈S.map (·.1):=by
 obtain⟨x,q,rfl,_⟩:=h;exact qx.2 ⟨x,q,rfl⟩
theorem zfY {S A:List Sr}(h:z16 S)(hi:∀L s,In S L s->In A L s):S.length<=A.length:=by
 have:=z8F (K:=A.map (·.1)) h λL s q=>(hi L s q).key
 rw[qz] at this;exact this
structure Pts (a:Nat) (A:List Sr):Prop where
 nice:z16 A
 pt:∀L s,In A L s->LB.right L=true/\(-1099511627776<=s.1/\s.1<=1099511627776)/\CL.Rs s
 tot:HD.total A<=40*a
 ser:A.length<=20*a
theorem Pts.nil (a:Nat):Pts a []:=⟨z16.nil,λL s h=>absurd h (In.nil L s),qh _,qh _⟩
theorem Pts.mono {a b:Nat}{A:List Sr}(h:Pts a A)(k:a<=b):Pts b A:=⟨h.nice,h.pt,by have:=h.tot;omega,by have:=h.ser;omega⟩
theorem Pts.sub {a:Nat}{S A:List Sr}(h:Pts a A)(q:z16 S)(hi:∀L s,In S L s->In A L s):Pts a S:=
 ⟨q,λL s G=>h.pt L s (hi L s G),qi (z9U q hi) h.tot,qi (zfY q hi) h.ser⟩
theorem Pts.good {a:Nat}{A:List Sr}(h:Pts a A)(Y:a<=50):HD.Good A:=by
 have ht:=h.tot;have G:=h.ser;refine⟨h.nice.ord,by omega,λx q=>?_⟩;obtain⟨s0,U⟩:=h.nice.some q;have O:∀s∈x.2,LB.right x.1=true/\(-1099511627776<=s.1/\s.1<=1099511627776)/\CL.Rs s:=λs G=>h.pt x.1 s ⟨x,q,rfl,G⟩
 refine⟨(h.pt _ _ U).1,(z1c x.2).2 ⟨?_,h.nice.ris x q,λs G=>(O s G).2.1⟩,h.nice.ne x q,λs G=>(O s G).2.2⟩;have V:z16 [x]:=⟨List.pairwise_singleton _ _,λy J=>by rw[qk.1 J];exact h.nice.ris x q,λy J=>by rw[qk.1 J];exact h.nice.ne x q⟩;have h2:=z9U V (A:=A) λL s ⟨y,J,e,k⟩=>by
  rw[qk.1 J] at e k;exact⟨x,q,e,k⟩
 have e:HD.total [x]=x.2.length:=by simp[HD.total]
 omega
theorem Pts.labs {a:Nat}{A:List Sr}(h:Pts a A):∀x∈A,LB.right x.1=true:=λx q=>by
 obtain⟨s,G⟩:=h.nice.some q;exact(h.pt _ s G).1
theorem zgr {S:List Sr}(h:HD.Good S)(G:S.length<=2000):z8p S:=⟨G,λi hi=>by
 have q:=h.ok _ (HD.at_mem S i hi);have O:=z9c q.1;have J:=((z1c _).1 q.2.1).1;exact⟨z4Z q.1,by omega,J,q.2.2.2⟩⟩
theorem Pts.zo0 {a:Nat}{A:List Sr}(h:Pts a A)(q:a<=50):z8p A:=zgr (h.good q) (by have:=h.ser;omega)
theorem zfB {l:List CL.Smp}(h:0<l.length):CL.at' l (l.length-1)∈l:=by
 have e:CL.at' l (l.length-1)=l[l.length-1]'(by omega):=by unfold CL.at';rw[q7,qw (by omega)];rfl
 rw[e];exact qK _
theorem Pts.right {a:Nat}{A:List Sr}(h:Pts a A)(U:a<=50){tp old:Int}(hi:∀L s,In A L s->s.1<=tp)(V: -1099511627776<=tp/\tp<=1099511627776)(Y: -1<=old):BK.right tp old A=true:=by
 have q:=h.good U;unfold BK.right BK.ser;simp only[qI,decide_eq_true_eq];refine⟨λk G=>⟨?_,λh0=>?_⟩,V,Y⟩
 .have J:=HD.at_mem A k G;obtain⟨k1,k2,O,_⟩:=q.ok _ J;unfold BK.okS;rw[k1,k2];simp only[Bool.true_and,qI,decide_eq_true_eq];exact⟨O,hi _ _ ⟨_,J,rfl,zfB O⟩⟩
 .have:=HD.z4N q.ord (k-1) k (by omega) G;omega
theorem Pts.block {a:Nat}{A:List Sr}(h:Pts a A)(q:a<=50){n tp old:Int}(hi:∀L s,In A L s->s.1<=tp)(G: -1099511627776<=tp/\tp<=1099511627776)(J: -1<=old):WOk ⟨n,tp,A⟩ old:=by
 have O:=zbw tp old h.labs;have U:=h.tot;have V:=h.ser;exact⟨h.right q hi G J,h.zo0 q,by show(sb (BK.bytes tp old A)).size<=1000000;omega,by show-9223372036854775808<=tp;omega,by show tp<=9223372036854775807;omega⟩
end SX
namespace SX
def z2b (D:DK.M):Prop:=∀n,D n≠none->n=kpt\/isB n=true
theorem zb0 {x:St}{n:ByteArray}(h:z1W x n=false):isB n=true/\∀b∈x.s.B,n≠nm b.n.toNat:=by
 unfold z1W at h;rw[Bool.or_eq_false_iff] at h;refine⟨by simpa using h.2,λb hb e=>?_⟩;have:=tq.1 h.1 b hb;simp[e] at this
theorem z3p {x:St}:∀(T:List ByteArray) {D:DK.M} {p:Int},T.Nodup->(∀n∈T,D n≠none)-> -1<=p->
  (∃D' p',z2f (z1W x) T D p=(0,D',p')/\z2D x D D'/\(∀n∈T,z1W x n=false->D' n=none)/\(p= -1->p'= -1)/\ -1<=p')\/
  (p≠ -1/\∃D',z2f (z1W x) T D p=(14,D',0)/\z2D x D D')
 | [],D,p,_,_,hp=> .inl ⟨D,p,rfl,z2D.refl x D,(λn Y=>by cases Y),id,hp⟩
 | n::T,D,p,Y,hD,hp=>by
  obtain⟨A1,J⟩:=ud.1 Y;rw[z2f];by_cases V:z1W x n=true
  .rw[if_pos V];rcases z3p T J (λm h=>hD m (qp _ h)) hp with⟨D',p',O,G,e3,e4⟩|e
   .refine .inl ⟨D',p',O,G,λm h q=>?_,e4⟩;rcases qg.1 h with rfl|h
    .rw[V] at q;cases q
    .exact e3 m h q
   .exact .inr e
  .rw[if_neg V];have A2:z1W x n=false:=by simpa using V
   obtain⟨k1,k2⟩:=zb0 A2;have h0:D n≠none:=hD n qd;by_cases p0:p=0
   .subst p0;rw[WL.z3l (a:=3) (by omega) (by omega) (λ_=>h0),WL.z5g];exact .inr ⟨by omega,D,rfl,z2D.refl x D⟩
   .rw[WL.z2t (a:=3) (by omega) (by omega) (λ_=>h0) p0,WL.seq_ok,WL.zlv];have U:z2D x D (DK.del D n):=z2D.del k1 k2;have A3: -1<=DK.dec p:=WL.z6O hp;rcases z3p T (D:=DK.del D n) (p:=DK.dec p) J (λm h=>by
      rw[DK.z0A _ _ _ (λe=>A1 (by rw[<-e];exact h))];exact hD m (qp _ h)) A3 with⟨D',p',O,G,e3,e4,e5⟩ | ⟨e0,D',O,G⟩
    .refine .inl ⟨D',p',O,U.trans G,λm h q=>?_,λe=>e4 (by rw[e];rfl),e5⟩;rcases qg.1 h with rfl|h
     .rcases G m with e|⟨e,_⟩
      .rw[e,DK.z2k]
      .exact e
     .exact e3 m h q
    .exact .inr ⟨λe=>e0 (by rw[e];rfl),D',O,U.trans G⟩
theorem z9r {T:List (List UInt8)}{P:ByteArray->Prop}(q:ST T P):(T.map bt).Nodup:=eX.2 (q.2.1.imp λ{a b} h e=>h (by
 have:=congrArg (λb=>b.data.toList) e;simpa [bt] using this))
theorem z7T {x:St}{T:List (List UInt8)}{D D':DK.M}(G:ST T λn=>D n≠none)(h:z2D x D D')(J:∀n∈T.map bt,z1W x n=false->D' n=none):z6X x D':=λn O hb=>by
 have U:z1W x n=false:=by
  unfold z1W;rw[O];simp only[Bool.not_true,Bool.or_false,tq,decide_eq_true_eq];exact λb q=>hb b q
 cases hD:D n with
 | none=>
  rcases h n with e|⟨e,_⟩
  .rw[e,hD]
  .exact e
 | some f=>
  refine J n ?_ U;refine qx.2 ⟨n.data.toList,(G.mem _).2 ?_,?_⟩
  .show D ⟨n.data.toList.toArray⟩≠none;have e:(⟨n.data.toList.toArray⟩:ByteArray)=n:=by cases n;rfl
   rw[e,hD];simp
  .show(⟨n.data.toList.toArray⟩:ByteArray)=n;cases n;rfl
def Out (c:Nat)(x y:St)(p:Int)(o:WL.Out):Prop:=
 (o.1=0/\On c o.2.1 y/\Clean o.2.1 y/\z2b o.2.1/\(p= -1->o.2.2= -1)/\ -1<=o.2.2)\/
 (o.1=14/\p≠ -1/\∀k,zey c (DK.start o.2.1 k) x\/zey c (DK.start o.2.1 k) y)
theorem z2b.zbF {x:St}{D D':DK.M}(h:z2b D)(k:z2D x D D'):z2b D':=λn q=>by
 rcases k n with e|⟨e,_⟩
 .exact h n (by rw[<-e];exact q)
 .exact absurd e q
theorem zh9 {c:Nat}{D:DK.M}{x:St}(h:On c D x):D frs=none:=by
 obtain⟨ns,h1,_⟩:=h;exact h1.nof
theorem zeQ {c c':Nat}{D:DK.M}{x y:St}{p:Int}{nw:List (ByteArray×ByteArray)}{o:WL.Out}(A1:On c D x)(hO:z2b D)(hC:Clean D x)(hF:Fit x)(A5:Fit y)(hp: -1<=p)(hc:c<=c')(A6:∀s∈(z0n y).map txt,s.size<=60000)(hn:(z0n y).length<=c')
  (A7:nw=[]\/∃s,nw=[(nm x.s.nx.toNat,s)]) (U:∀E,(∀n,n≠nm x.s.nx.toNat->E n=D n)->(∀s,nw=[(nm x.s.nx.toNat,s)]->E (nm x.s.nx.toNat)=some ⟨s,s.size,true⟩)->Lie E y) (G:z1z y nw D p o):Out c' x y p o:=by
 have O:zbe (z0n y)/\(z0n y).length<=c':=⟨λs hs=>by have:=A6 s hs;omega,hn⟩;have A2:(∃J p1,z0Y nw D p=(0,J,p1)/\On c J x/\z2b J/\Lie J y/\(p= -1->p1= -1)/\ -1<=p1)\/(p≠ -1/\∃J,z0Y nw D p=(14,J,0)/\∀k,zey c (DK.start J k) x):=by
  rcases A7 with rfl|⟨s,rfl⟩
  .exact .inl ⟨D,p,rfl,A1,hO,U D (λ_ _=>rfl) (λs h=>by cases h),id,hp⟩
  .have Ad:=hF.nx;have A8:=za9 x.s.nx.toNat;have A9:∀b∈x.s.B,nm b.n.toNat≠nm x.s.nx.toNat:=λb hb e=>by
    have V:=hF.inv.num b hb;have h2:=hF.num b hb;have:=zcr (by omega) (by omega) e;omega
   have A3:z0Y [(nm x.s.nx.toNat,s)] D p=WL.seq (z4m (nm x.s.nx.toNat) s D p) λD p=>(0,D,p):=rfl
   rw[A3];rcases zmD A1 (s:=s) (zd7 (by omega)) (zeG _) (zg4 _) A9 (hC.next hF) hp with⟨p1,Y,e2,e3,e4⟩|⟨e0,J,Y,e2⟩
   .refine .inl ⟨_,p1,by rw[Y,WL.seq_ok],e2,λn q=>?_,U _ (λn A4=>DK.z0b _ _ _ _ A4) (λs' hs=>?_),e3,e4⟩
    .by_cases e:n=nm x.s.nx.toNat
     .rw[e];exact .inr A8
     .exact hO n (by rw[DK.z0b _ _ _ _ e] at q;exact q)
    .cases hs;exact DK.put_same _ _ _
   .exact .inr ⟨e0,J,by rw[Y,WL.z5g],e2⟩
 rcases A2 with⟨J,p1,Y,e2,e3,e4,e5,e6⟩|⟨e0,J,Y,e2⟩
 .unfold z1z at G;rw[Y] at G;rcases G with⟨V,_⟩|⟨_,G⟩
  .exact absurd rfl V
  rcases zmr e2 (zf0 A5 e4) O e6 with⟨D2,p2,r1,r2,r3,r4,r5⟩|⟨r0,D2,r1,r2⟩
  .have Ac:z2b D2:=λn q=>by
    by_cases q1:n=kpt
    .exact .inl q1
    by_cases q2:n=frs
    .rw[q2] at q;exact absurd (zh9 r2) q
    .exact e3 n (by rw[<-r3 n q1 q2];exact q)
   simp only[r1] at G;rcases G with⟨V,_⟩|⟨_,T,hT,rfl⟩
   .exact absurd rfl V
   rcases z3p (x:=y) (T.map bt) (D:=D2) (p:=p2) (z9r hT) (λn q=>by
     obtain⟨l,hl,rfl⟩:=qx.1 q;exact(hT.mem l).1 hl) r5 with⟨D3,p3,s1,s2,s3,s4,s5⟩ | ⟨s0,D3,s1,s2⟩
   .rw[s1];exact .inl ⟨rfl,r2.zbF s2,(z7T hT s2 s3).clean,Ac.zbF s2,λe=>s4 (r4 (e5 e)),s5⟩
   .rw[s1];exact .inr ⟨rfl,λe=>s0 (r4 (e5 e)),λk=> .inr ((r2.zbF s2).start k)⟩
  .simp only[r1] at G;rcases G with⟨_,rfl⟩|⟨V,_⟩
   .exact .inr ⟨rfl,λe=>r0 (e5 e),λk=> .inl ((r2 k).mono hc)⟩
   .exact absurd V (by simp)
 .unfold z1z at G;rw[Y] at G;rcases G with⟨_,rfl⟩|⟨V,_⟩
  .exact .inr ⟨rfl,e0,λk=> .inl ((e2 k).mono hc)⟩
  .exact absurd V (by simp)
end SX
section
open Go.RowKit Go.Maps Go.ChangeMaps Go.MapKept Go.WideShapes
open Go.WideElems (Fit rd rg pl rd_key rd_val rg_of rd_mk other_key)
section
variable {H : Type} {P : Program} {k : TypeId} {R : Value → Option (DataW H × List MemPlace)} {w : World} {b r n : Nat} {D : DataW H} {left : Lit → Bool} {cnt : Nat}
theorem zdV {t e:qn}(h:w.ranges P k R b r n D left cnt)(K:Keyed P k)(ht:P.underlying t=some (.map k e))(hn:n<qS){key val:Value}{kl:Lit}{d:DataW H}{ps:List MemPlace}(G:keyOf P k key=some kl)(hv:R val=some (d,ps))(Ad:Maps.has D kl=true):
  ∃w',(yw t (.map (some b)) key val).run P w= .ok () w'/\w'.ranges P k R b r n (D.put kl d) left cnt/\w.mapTurned w' b:=by
 have Aj:=h.ne;obtain⟨es,J,A6,seen,c0,hb,F,hs,rfl,hr,A2,rfl,Ae,Ak,Al,Am⟩:=h;obtain⟨V,q,A3,F',Af,_⟩:=Maps.fit_store (R':=R) K ht hb F (Nat.lt_of_le_of_lt hs hn) (λ_ _ _ _ hz=>hz) G hv;have Ao:∃x∈es.toList,x.key=key:=by
  obtain⟨p,hp,Ap⟩:=ya.1 Ad;obtain⟨x,Y,rfl⟩:=qx.1 (mem_sorted.1 hp);refine⟨x,Y,?_⟩;obtain⟨y,hy⟩:=F.reads x Y;have U:=WideAt.sameKey_eq Ap;rw[rg_of hy] at U;exact K.inj (U▸rd_key hy) G
 rcases K.find w G es.toList F.keys with⟨h1,h2⟩|⟨j,e0,h1,h2,h3⟩
 .obtain⟨x,Y,U⟩:=Ao;exact absurd U (h2 x Y)
 have hj:es[j]? =some e0:=by simpa using h2
 have A1:(yw t (.map (some b)) key val).run P w= .ok () (setBlock w b (.map (es.modify j (λe'=>{e' with key:=key,val:=val})) J)):=by
  simp[yw,pr ht,MapKept.run_getObj_map hb,K.check w false G,h1,hj,h3,K.stays w G,MapKept.run_setObj_map _ hb,rr,setBlock]
 have A7:V=es.modify j (λe'=>{e' with key:=key,val:=val})/\q=J:=by
  rw[A3] at A1;have U:setBlock w b (.map V q)=setBlock w b (.map (es.modify j (λe'=>{e' with key:=key,val:=val})) J):=by
   injection A1
  have e2:(setBlock w b (.map V q)).heap[b]? =(setBlock w b (.map (es.modify j (λe'=>{e' with key:=key,val:=val})) J)).heap[b]? :=by rw[U]
  rw[heap_setBlock_same hb,heap_setBlock_same hb] at e2
  injection e2 with e3
  injection e3 with e4 e5
  exact⟨e4,e5⟩
 obtain⟨Ag,rfl⟩:=A7;have O:V.toList=es.toList.set j {e0 with key:=key,val:=val}:=by
  rw[Ag,Array.toList_modify];apply y7;intro i;rw[List.getElem?_modify,rf];by_cases U:j=i
  .subst U;rw[h2];have A8:j<es.size:=by simpa using(eE.1 h2).1
   simp[A8]
  .simp[U]
 have Ah:j<es.toList.length:=(eE.1 h2).1;have A9:V.toList.map (·.born)=es.toList.map (·.born):=by
  rw[O,List.map_set];apply y7;intro i;rw[rf];by_cases U:j=i
  .subst U;have A8:j<es.size:=by simpa using Ah
   rw[qZ,h2];simp[A8]
  .simp[U]
 have Ai:∀x∈V.toList,x={e0 with key:=key,val:=val}\/x∈es.toList:=by
  intro x Y;rw[O] at Y;exact(List.mem_or_eq_of_mem_set Y).symm
 have Ac:e0∈es.toList:=yz h2;have A4:(rg P k R e0).1=kl:=by
  obtain⟨y,hy⟩:=F.reads e0 Ac;have m1:=rd_key hy;rw[h3,G] at m1;rw[rg_of hy,<-qt m1]
 have A5:(rg P k R {e0 with key:=key,val:=val}).1=kl:=by rw[rg_of (rd_mk G hv)]
 refine⟨_,A3,⟨V,q,A6,seen,c0,heap_setBlock_same hb _,F',?_,by rw[DataW.put_eq,Af],(heap_setBlock_other hb _ Aj).trans hr,λx Y=>?_,?_,λx Y=>?_,λx0 Aq=>?_,Al,Am⟩,⟨es,q,V,q,hb,rfl⟩⟩
 .rw[Ag];simpa using hs
 .rcases Ai x Y with rfl|Y
  .exact A2 e0 Ac
  .exact A2 x Y
 .have U:∀a:Array MapEntry,(leftOf a seen).size=((a.toList.map (·.born)).filter λe=> !seen.contains e).length:=λa=>by
   have e2:(leftOf a seen).size=(a.toList.filter λe=> !seen.contains e.born).length:=by
    unfold leftOf;rw[<-Array.toList_filter,qE]
   rw[e2,List.filter_map,qz];rfl
  rw[U,U,A9]
 .rcases Ai x Y with rfl|Y
  .rw[A5,<-A4];exact Ae e0 Ac
  .exact Ae x Y
 .obtain⟨x,Y,rfl⟩:=Ak x0 Aq;obtain⟨i,hi⟩:=List.getElem?_of_mem Y;by_cases U:j=i
  .subst U;rw[h2] at hi;cases hi;refine⟨{e0 with key:=key,val:=val},?_,A5.trans A4.symm⟩;rw[O];exact List.mem_set Ah _
  .refine⟨x,?_,rfl⟩;rw[O];refine yz (i:=i) ?_;rw[rf,if_neg U];exact hi
end
section
variable {P : Program} {k : TypeId} {w : World} {b r n : Nat} {f : Int → Option Value} {left : Int → Bool} {cnt : Nat}
theorem z4k.put (h:z4k P k w b r n f left cnt){t e:qn}(q:P.underlying k=some (.int .i64))(ht:P.underlying t=some (.map k e))(hn:n<qS){s:Int}(hs:(Lit.int .i64 s).wf=true)(u:Value)(U:f s≠none):
  ∃w',(yw t (.map (some b)) (.int .i64 s) u).run P w= .ok () w'/\z4k P k w' b r n (ze7 f s u) left cnt/\w.grownBy w' (some b)/\w'.heap.size=w.heap.size:=by
 obtain⟨D,lf,h1,h2,h3,h4⟩:=h;have G:has D (kI s)=true:=by
  cases hf:f s with
  | none=>exact absurd hf U
  | some v=>exact((h2.2 s).2 v hf).1
 obtain⟨w',J,r1,Y⟩:=zdV h1 (int_keyed q) ht hn (key:= .int .i64 s) (val:=u) (keyOf_int_mk q hs) (d:= .held u) (ps:=[]) rfl G;refine⟨w',J,⟨_,lf,r1,h2.put s u,h3,h4⟩,Y.grown,?_⟩;obtain⟨es,V,A1,O,hb,rfl⟩:=Y;simp[yt]
theorem z4n {ops:Array Oper}{rest:List Oper}{o:Oper}{a:Act}{Q:Exit->Act->World->Prop}
  (V:o.guard=none) (m x v:Operand) (t:qn) (G:o.op=Op.mapUpdate t m x v)
  (k e:qn) (J:P.underlying k=some (.int .i64)) (Y:P.underlying t=some (.map k e)) (b r n:Nat) (f:Int->Option Value) (left:Int->Bool) (cnt:Nat)
  (hm:a.eval m= .map (some b)) (h:z4k P k w b r n f left cnt) (hn:n<qS) (s:Int) (hs:(Lit.int .i64 s).wf=true) (u:Value) (hx:a.eval x= .int .i64 s) (hv:a.eval v=u) (O:f s≠none)
  (hK:∀w',z4k P k w' b r n (ze7 f s u) left cnt->w.grownBy w' (some b)->w'.heap.size=w.heap.size->wpList P ops Q rest (a.put o.dst undef) w'):
  wpList P ops Q (o::rest) a w:=by
 obtain⟨w',q,h1,h2,h3⟩:=h.put J Y hn hs u O;refine wpList_plain V λK' U=>?_
 unfold Oper.wp;simp[execOp,G,hm,hx,hv,q,rr];exact U _ _ (hK w' h1 h2 h3)
end
end
section
open Go.RowKit Go.Shelf
abbrev gv (x:Gn)(mo:Option Addr)(mc:Nat):Value:= .agg #[.slice mo x.M.length mc,.int .i64 x.fr,.int .i64 x.tt]
theorem zfT (l:List Gn)(i:Nat)(h:i<l.length):atG l i∈l:=by
 unfold atG;rw[q7,qw h];exact qK h
def zeC (w:World)(h:Option Addr)(l:List Gn):Prop:=∀i,i<l.length->∃b off,h=some ⟨b,off,none⟩/\b<w.heap.size/\∃mo mc,w.cell? ⟨b,off+i*3,none⟩=some (.slice mo (atG l i).M.length mc)/\w.cell? ⟨b,off+i*3+1,none⟩=some (.int .i64 (atG l i).fr)/\w.cell? ⟨b,off+i*3+2,none⟩=some (.int .i64 (atG l i).tt)
theorem zez.cel {w:World}{q:Option Addr}{l:List Gn}(h:zez w q l):zeC w q l:=λi hi=>by
 obtain⟨b,off,G,J,mo,mc,O,U,V,_⟩:=h i hi;exact⟨b,off,G,J,mo,mc,O,U,V⟩
theorem zeC.below {w w':World}{go:Option Addr}{q:List Gn}(h:zeC w go q)(k:Below w.heap.size w w'):zeC w' go q:=λi hi=>by
 obtain⟨b,off,e,hb,mo,mc,c0,c1,c2⟩:=h i hi;exact⟨b,off,e,qe hb k.size,mo,mc,(k.cell (p:=⟨b,_,none⟩) hb).trans c0,(k.cell (p:=⟨b,_,none⟩) hb).trans c1,(k.cell (p:=⟨b,_,none⟩) hb).trans c2⟩
theorem zeC.but {w w':World}{go:Option Addr}{J:List Gn}{O:Nat}(h:zeC w go J)(k:But O w w')(G:∀a,go=some a->a.block≠O):zeC w' go J:=λi hi=>by
 obtain⟨b,off,e,hb,mo,mc,c0,c1,c2⟩:=h i hi;have q:=k.2.2.2.2 b hb (G _ e);exact⟨b,off,e,qe hb k.2.2.2.1,mo,mc,(qj (a:=⟨b,_,none⟩) q).trans c0,(qj (a:=⟨b,_,none⟩) q).trans c1,(qj (a:=⟨b,_,none⟩) q).trans c2⟩
theorem z8W (ao:Option Addr)(m:List Gn)(cap g:Nat)(lb:Array Value)(P:Gn->Bool)(w:World)(hM:zeC w ao m)(hl:m.length<=1000)
  (eg:∀args w,(ux g args).run q6 w= .ok (.enter g args) w)
  (G:∀W,Below w.heap.size w W->∀x∈m,∀mo mc,Calls q6 g (#[gv x mo mc]++lb) W λe w'=>e= .returned (.bool (P x))/\Below W.heap.size W w'):
  Calls q6 145 #[.slice ao m.length cap,.func (.func g) #[] lb] w λe w'=>∃n:Int,e= .returned (.int .i64 n)/\decide (0<=n)=m.any P/\Below w.heap.size w w':=by
 generalize hB:m.any P=B;have HB:=hid hB;have HM:=hid hM;have A8:=hid G;clear hB hM G;go_enter func145,ntmps145;go_wp2;go_loopw [8] (λti wr=>∃i:Nat,i<=m.length/\ti= .int .i64 i/\Below w.heap.size w wr/\∀j,j<i->P (atG m j)=false) (λti _=>m.length-(intOf ti).toNat)
 case atStart=>exact⟨0,by omega,rfl,Below.refl _ _,by omega⟩
 case round=>
  obtain⟨i,hi,rfl,J,V⟩:=hrel;have HO:=hid V;have q:=hid J;have A9:=J.size;clear V J;by_cases O:i<m.length
  .obtain⟨b,off,Ac,U,mo,mc,Y,A1,A2⟩:=HM.out i O;subst Ac;have A5:=(q.out.cell (p:=⟨b,off+i*3,none⟩) U).trans Y;have A6:=(q.out.cell (p:=⟨b,off+i*3+1,none⟩) U).trans A1;have A7:=(q.out.cell (p:=⟨b,off+i*3+2,none⟩) U).trans A2;clear Y A1 A2;have HC:=hid (A8.out wr q.out (atG m i) (zfT m i O) mo mc);have HT:Hid (P (atG m i)=true->B=true):=λh=>by
    rw[<-HB.out,ya];exact⟨_,zfT m i O,h⟩
   have HN:Hid (P (atG m i)=false->∀j,j<i+1->P (atG m j)=false):=λh j hj=>by
    by_cases he:j=i
    .subst he;exact h
    .exact HO.out j (by omega)
   generalize atG m i=x at*;go_wp2_with fail;refine HC.out.mono ?_;rintro e w2 ⟨rfl,A3⟩;have A4:=hid (q.out.trans (A3.mono A9));clear A3 HC;cases hp:P x with
   | true=>
    have HE:=hid (HT.out hp);clear HT HN;go_wp2_with fail;go_ret;refine⟨i,rfl,?_,A4.out⟩;rw[HE.out];exact decide_eq_true (by omega)
   | false=>
    have HE:=hid (HN.out hp);clear HT HN;go_wp2_with fail;go_roundw
    case rel=>exact⟨i+1,by omega,by go_num,A4.out,HE.out⟩
    case measure=>simp[intOf];omega
  .have he:i=m.length:=by omega
   have HE:Hid (B=false):=by
    show _=_;rw[<-HB.out,tq];intro x hx;obtain⟨j,hj,rfl⟩:=eI.1 hx;have:=HO.out j (by omega);unfold atG at this;rw[q7,qw hj] at this;simpa using this
   subst he;go_wp2;go_ret;refine⟨-1,rfl,?_,q.out⟩;rw[HE.out];rfl
theorem z5P (G:Option Addr)(m:List Gn)(cap g:Nat)(lb:Array Value)(P:Gn->Bool)(w:World)(O:zeC w G m)(hl:m.length<=1000)
  (U:∀args w,(ux g args).run q6 w= .ok (.enter g args) w)
  (h:∀W,Below w.heap.size w W->∀x∈m,∀mo mc,Calls q6 g (#[gv x mo mc]++lb) W λe w'=>e= .returned (.bool (P x))/\Below W.heap.size W w'):
  Calls q6 96 #[.slice G m.length cap,.func (.func g) #[] lb] w λe w'=>e= .returned (.bool (m.any P))/\Below w.heap.size w w':=by
 have V:=hid (z8W G m cap g lb P w O hl U h);clear O h U;generalize m.any P=B at*;go_enter func96,ntmps96;go_wp2_with fail;refine V.out.mono ?_;rintro e w2 ⟨n,rfl,Y,q⟩;have J:=hid q;have HN:=hid Y;clear q Y V;go_wp2_with fail;go_ret;exact⟨z05 HN.out,J.out⟩
abbrev inG (t:Int)(x:Gn):Bool:=decide (x.fr<=t)&&decide (t<=x.tt)
theorem zdK (x:Gn)(mo:Option Addr)(mc bs:Nat)(t u:Int)(w:World)(G:w.heap[bs]? =some (.cells #[.int .i64 t,.int .i64 u] 98)):
  Calls q6 97 #[gv x mo mc,.pointer (some ⟨bs,0,none⟩)] w λe w'=>e= .returned (.bool (inG t x))/\Below w.heap.size w w':=by
 have h:Below w.heap.size w (w.alloc (.cells #[.slice mo x.M.length mc,.int .i64 x.fr,.int .i64 x.tt] 25)):=(Below.refl _ w).alloc (qq _) _;have c0:(w.alloc (.cells #[.slice mo x.M.length mc,.int .i64 x.fr,.int .i64 x.tt] 25)).cell? ⟨bs,0,none⟩=some (.int .i64 t):=(h.cell (p:=⟨bs,0,none⟩) (z00 G)).trans (z01 _ _ _ _ G 0 _ rfl);have q:=hid h;clear h G;obtain⟨M,fr,tt⟩:=x;go_enter func97,ntmps97;by_cases O:fr<=t
 .have J:Hid (inG t ⟨M,fr,tt⟩=decide (t<=tt)):=by show _=_;unfold inG;rw[decide_eq_true O];rfl
  go_wp2_with fail;go_ret;exact⟨z05 J.out.symm,q.out⟩
 .have J:Hid (inG t ⟨M,fr,tt⟩=false):=by show _=_;unfold inG;rw[decide_eq_false O];rfl
  go_wp2_with fail;go_ret;exact⟨by rw[J.out];rfl,q.out⟩
theorem zdH (J:Option Addr)(m:List Gn)(cap q:Nat)(t u:Int)(w:World)(hM:zeC w J m)(hl:m.length<=1000)(hc:w.cell? ⟨q,0,none⟩=some (.slice J m.length cap))(O:q<w.heap.size):
  Calls q6 95 #[.agg #[.int .i64 t,.int .i64 u],.pointer (some ⟨q,0,none⟩)] w λe w'=>e= .returned (.bool (m.any (inG t)))/\Below w.heap.size w w':=by
 have h:Below w.heap.size w (w.alloc (.cells #[.int .i64 t,.int .i64 u] 98)):=(Below.refl _ w).alloc (qq _) _;have U:=qu w (.cells #[.int .i64 t,.int .i64 u] 98);have HC:=hid (z5P J m cap 97 #[.pointer (some ⟨w.heap.size,0,none⟩)] (inG t) (w.alloc (.cells #[.int .i64 t,.int .i64 u] 98)) (hM.below h) hl (enters_of func97 (by kernel_rfl) rfl)
  (λW hW x _ mo mc=>zdK x mo mc w.heap.size t u W ((hW.block _ (z00 U)).trans U)))
 have c0:(w.alloc (.cells #[.int .i64 t,.int .i64 u] 98)).cell? ⟨q,0,none⟩=some (.slice J m.length cap):=(h.cell (p:=⟨q,0,none⟩) O).trans hc;have V:=hid h;clear hM U h hc;generalize m.any (inG t)=C at*;go_enter func95,ntmps95;go_wp2_with fail;refine HC.out.mono ?_;rintro e w2 ⟨rfl,G⟩;have Y:=hid (z0u V.out G);clear G HC;go_wp2_with fail;go_ret;exact⟨rfl,Y.out⟩
abbrev z3U (ys:List (Value×Gn)):List Value:=ys.flatMap λp=>[p.1,.int .i64 p.2.fr,.int .i64 p.2.tt]
theorem z8f:∀(ys:List (Value×Gn)) (i:Nat) (p:Value×Gn),ys[i]? =some p->(z3U ys)[i*3]? =some p.1/\(z3U ys)[i*3+1]? =some (.int .i64 p.2.fr)/\(z3U ys)[i*3+2]? =some (.int .i64 p.2.tt)
 | [],i,p,h=>by simp at h
 | q::ys,0,p,h=>by
  simp only[List.getElem?_cons_zero,qR] at h;subst h;exact⟨rfl,rfl,rfl⟩
 | q::ys,i+1,p,h=>by
  rw[qA] at h;have:=z8f ys i p h;have e:z3U (q::ys)=q.1:: .int .i64 q.2.fr:: .int .i64 q.2.tt::z3U ys:=rfl;rw[e,show(i+1)*3=i*3+1+1+1 by omega];simpa only[qA] using this
def zhT (w0 w:World)(h:Nat)(v:Value)(l:List Gn):Prop:=
 ∃ys:List (Value×Gn),ys.map (·.2)=l/\w.ownsRow h 25 3 v ys.length (z3U ys)/\∀p∈ys,∃mo mc,p.1= .slice mo p.2.M.length mc/\z3s w0 mo p.2.M
theorem zhT.nil (w0 w:World)(q:Nat):zhT w0 w q (.slice none 0 0) []:=⟨[],rfl,⟨rfl,.inl ⟨rfl,rfl⟩⟩,λp h=>by simp at h⟩
theorem zhT.below {w0 w w':World}{q:Nat}{v:Value}{l:List Gn}(h:zhT w0 w q v l)(k:Below w.heap.size w w'):zhT w0 w' q v l:=by
 obtain⟨ys,G,J,O⟩:=h;exact⟨ys,G,z04 J λg _ U=>k.block g (z00 U),O⟩
theorem zhT.row {w0 w:World}{q:Nat}{v:Value}{l:List Gn}(h:zhT w0 w q v l)(k:Below w0.heap.size w0 w):∃G cap,v= .slice G l.length cap/\zez w G l/\∀a,G=some a->q<=a.block:=by
 obtain⟨ys,h1,h2,h3⟩:=h;have J:ys.length=l.length:=by rw[<-h1,qz]
 obtain⟨G,cap,e⟩:=z02 h2;refine⟨G,cap,by rw[e,J],λi hi=>?_,λa ea=>(h2.lt a.block (by rw[e,ea];rfl)).1⟩;have O:i<ys.length:=by omega
 obtain⟨p,U⟩:∃p,ys[i]? =some p:=⟨_,qw O⟩;have V:atG l i=p.2:=by
  unfold atG;rw[q7,<-h1,qZ,U];rfl
 obtain⟨mo,mc,e1,hM⟩:=h3 p (yz U);obtain⟨g0,g1,g2⟩:=z8f ys i p U;obtain⟨g,A1,A2,e2,Y,e4,_⟩:=z0d h2 (by omega);have c0:=h2.cells (g:=g) Y _ _ g0;have c1:=h2.cells (g:=g) Y _ _ g1;have c2:=h2.cells (g:=g) Y _ _ g2;rw[qP] at c0 c1 c2;rw[V];rw[e] at e2;cases e2;refine⟨g,0,rfl,z00 e4,mo,mc,?_,?_,?_,hM.below k⟩
 .rw[c0,e1]
 .rw[yG,c1]
 .rw[yG,c2]
theorem Tryz.infoGone:(q6.info? 25).map (λi=>(i.zero,i.size,i.bytes))=some (some (.agg #[.slice none 0 0,.int .i64 0,.int .i64 0]),3,40):=by kernel_rfl
theorem Tryz.uGone:q6.underlying 46=some (.slice 25):=by kernel_rfl
theorem zc5 {w:World}{B:Nat}{a b c:Value}{T:qn}(h:w.heap[B]? =some (.cells #[a,b,c] T)):∀j u,[a,b,c][j]? =some u->w.cell? ((⟨B,0,none⟩:Addr).add j)=some u:=by
 intro j u q
 match j,q with
 | 0,q=>rw[qP];exact z01 _ _ _ _ h 0 _ q
 | 1,q=>rw[qP];exact z01 _ _ _ _ h 1 _ q
 | 2,q=>rw[qP];exact z01 _ _ _ _ h 2 _ q
 | j+3,q=>simp at q
def zkN (w:World)(l:List Gn)(e:Ending)(w':World):Prop:=
 ∃bx ao cap,e= .returned (.func (.func 95) #[] #[.pointer (some ⟨bx,0,none⟩)])/\Below w.heap.size w w'/\w.heap.size<=bx/\bx<w'.heap.size/\w'.cell? ⟨bx,0,none⟩=some (.slice ao l.length cap)/\zeC w' ao l/\∀a,ao=some a->w.heap.size<=a.block
theorem zfy (lo go:Option Addr)(L:List LB.Lab)(gs:List Gn)(lc gc:Nat)(w:World)(hL:z1w w lo L)(hl:L.length<=1000)(hG:zez w go gs)(hg:gs.length<=1000)(hM:∀i,i<gs.length->(atG gs i).M.length<=1000):
  Calls q6 43 #[.slice lo L.length lc,.slice go gs.length gc] w λe w'=>zkN w (gs.filter λg=>LB.all L g.M) e w':=by
 obtain⟨ii,hi,Ap,Aq,Ar⟩:=info_parts Tryz.infoGone;have AE:=hid hi;have AF:=hid Ap;have AG:=hid Aq;have AH:=hid Ar;have HL:=hid hL;have HG:=hid hG;have HM:=hid hM;have Au:Below w.heap.size w (w.alloc (.cells #[.slice none 0 0] 46)):=(Below.refl _ w).alloc (qq _) _;have HA:=hid (qv Au (qu w (.cells #[.slice none 0 0] 46)));clear hi Ap Aq Ar hL hG hM Au;go_enter func43,ntmps43;go_wp2_with fail;go_loopw [10] (λti wr=>∃i:Nat,i<=gs.length/\ti= .int .i64 i/\Below w.heap.size w wr/\∃v,wr.heap[w.heap.size]? =some (.cells #[v] 46)/\zhT w wr (w.heap.size+1) v ((gs.take i).filter λg=>LB.all L g.M)) (λti _=>gs.length-(intOf ti).toNat)
 case atStart=>exact⟨0,qh _,rfl,HA.out.1,_,HA.out.2,zhT.nil _ _ _⟩
 case round=>
  clear HA;obtain⟨i,hi,rfl,A9,v,Ac,Ad⟩:=hrel;have G:=hid A9;have q:=hid Ac;have Af:=hid Ad;clear A9 Ac Ad;by_cases Ag:i<gs.length
  .obtain⟨b,off,AJ,Ah,mo,mc,d0,d1,d2,Av⟩:=HG.out i Ag;subst AJ;have c0:=(G.out.cell (p:=⟨b,off+i*3,none⟩) Ah).trans d0;have c1:=(G.out.cell (p:=⟨b,off+i*3+1,none⟩) Ah).trans d1;have c2:=(G.out.cell (p:=⟨b,off+i*3+2,none⟩) Ah).trans d2;have AK:=HM.out i Ag;have Aw:=hid Av;have Ax:Hid (gs.take (i+1)=gs.take i++[atG gs i]):=by
    show _=_;rw[wJ]
    congr 1
    unfold atG;rw[q7,qw Ag];rfl
   generalize atG gs i=x at*;have A6:Below wr.heap.size wr (wr.alloc (.cells #[.slice mo x.M.length mc,.int .i64 x.fr,.int .i64 x.tt] 25)):=(Below.refl _ wr).alloc (qq _) _;have A7:=hid (z0u G.out A6);have Ai:=hid (qu wr (.cells #[.slice mo x.M.length mc,.int .i64 x.fr,.int .i64 x.tt] 25));have A2:=hid ((A6.block _ (z00 q.out)).trans q.out);have Ae:=hid (Af.out.below A6);have AR:0<=(i:Int)/\(i:Int)<(gs.length:Int):=by omega
   clear Av d0 d1 d2 A6 G q Af;go_wp2_with fail;generalize wr.alloc (.cells #[.slice mo x.M.length mc,.int .i64 x.fr,.int .i64 x.tt] 25)=w1 at*;generalize wr.heap.size=bg at*;refine(zbM lo mo L x.M lc mc w1 (HL.out.below A7.out) (Aw.out.below A7.out) hl AK).mono ?_;rintro e w2 ⟨rfl,A3⟩;have Ay:=hid (z0u A7.out A3);have Aj:=hid ((A3.block _ (z00 Ai.out)).trans Ai.out);have U:=hid ((A3.block _ (z00 A2.out)).trans A2.out);have A4:=hid (Ae.out.below A3);clear A3 A7 Ai A2 Ae c0 c1 c2;rcases ha:LB.all L x.M with _|_
   .have HF:Hid ((gs.take (i+1)).filter (λg=>LB.all L g.M)=(gs.take i).filter λg=>LB.all L g.M):=by
     show _=_;rw[Ax.out,ef];simp[ha]
    clear ha;go_wp2_with fail;go_roundw
    case rel=>exact⟨i+1,by omega,by go_num,Ay.out,v,U.out,by rw[HF.out];exact A4.out⟩
    case measure=>simp[intOf];omega
   .have HF:Hid ((gs.take (i+1)).filter (λg=>LB.all L g.M)=((gs.take i).filter λg=>LB.all L g.M)++[x]):=by
     show _=_;rw[Ax.out,ef];simp[ha]
    clear ha;obtain⟨ys,Ak,Al,Az⟩:=A4.out;have AU:ys.length<=1000:=by
     have:ys.length=((gs.take i).filter λg=>LB.all L g.M).length:=by rw[<-Ak,qz]
     have h2:=eR (λg:Gn=>LB.all L g.M) (gs.take i);have h3:(gs.take i).length<=gs.length:=by rw[qb];omega
     omega
    have k0:w2.cell? ⟨w.heap.size,0,none⟩=some v:=z01 _ _ _ _ U.out 0 _ rfl;have g0:=z01 _ _ _ _ Aj.out 0 _ rfl;have g1:=z01 _ _ _ _ Aj.out 1 _ rfl;have g2:=z01 _ _ _ _ Aj.out 2 _ rfl;have V:Below w2.heap.size w2 (w2.alloc (.cells #[.slice mo x.M.length mc,.int .i64 x.fr,.int .i64 x.tt] 25)):=(Below.refl _ w2).alloc (qq _) _;have Am:=hid (z04 (w':=w2.alloc (.cells #[.slice mo x.M.length mc,.int .i64 x.fr,.int .i64 x.tt] 25)) Al λg _ hg=>V.block g (z00 hg));have Y:=hid ((V.block _ (z00 U.out)).trans U.out);have AA:=hid (zc5 (qu w2 (.cells #[.slice mo x.M.length mc,.int .i64 x.fr,.int .i64 x.tt] 25)));have A8:=hid (z0u Ay.out V);obtain⟨va,vc,ev⟩:=z02 Al;subst ev;have AL:=hid Ak;have AM:=hid Az;clear Ak Al Az V A4;go_wp2_with (at_builtin;refine wpList_append_own _ rfl (.tmp 18) (.tmp 20) 46 rfl (w.heap.size+1) 25 ii (.agg #[.slice none 0 0,.int .i64 0,.int .i64 0]) 3 40 Tryz.uGone AE.out AF.out AG.out AH.out rfl (by decide) _ ys.length (z3U ys) rfl Am.out ⟨w2.heap.size,0,none⟩ 1 1 [.slice mo x.M.length mc,.int .i64 x.fr,.int .i64 x.tt] rfl rfl AA.out (by simp[uo]) (by unfold qS;omega) (by omega) (by have:=A8.out.size;have:=z00 Y.out;omega) ?_)
    intro v' w4 J O _;have Ao:∀g,(wH va ys.length vc).ownBlock=some g->w.heap.size+1<=g:=λg e=>(Am.out.lt g e).1
    have A1:w4.heap[w.heap.size]? =some (.cells #[.slice va ys.length vc] 46):=(O.block _ (z00 Y.out) (λe=>by have:=Ao _ e.symm;omega)).trans Y.out;have AB:=hid (A8.out.grown O A8.out.size (λg e=>by have:=Ao g e;omega));have q0:w4.cell? ⟨w.heap.size,0,none⟩=some (.slice va ys.length vc):=z01 _ _ _ _ A1 0 _ rfl;have f0:w4.frozen? ⟨w.heap.size,0,none⟩=false:=hfz A1 0;have AO:Hid (zhT w (w4.setCell ⟨w.heap.size,0,none⟩ v') (w.heap.size+1) v' (((gs.take i).filter λg=>LB.all L g.M)++[x])):=by
     refine⟨ys++[(.slice mo x.M.length mc,x)],by rw[wK,AL.out];rfl,?_,λp hp=>?_⟩
     .have e1:z3U (ys++[(.slice mo x.M.length mc,x)])=z3U ys++[.slice mo x.M.length mc,.int .i64 x.fr,.int .i64 x.tt]:=by simp[z3U]
      rw[e1,q8];exact ownsRow_setCell_below J (a:=⟨w.heap.size,0,none⟩) (by show w.heap.size<w.heap.size+1;omega) v'
     .rcases List.mem_append.1 hp with h|h
      .exact AM.out p h
      .rw[qk] at h;subst h;exact⟨mo,mc,rfl,Aw.out⟩
    have AC:=hid (qo w4 w.heap.size 0 _ _ v' A1);have AP:=hid (AB.out.setCell (p:=⟨w.heap.size,0,none⟩) (qq _) v');obtain⟨AV,AW,AQ⟩:=z02 J;subst AQ;clear J O A1 Ao Am Y A8 AA AB;go_wp2_with fail;go_roundw
    case rel=>exact⟨i+1,by omega,by go_num,AP.out,_,AC.out,by rw[HF.out];exact AO.out⟩
    case measure=>simp[intOf];omega
  .have he:i=gs.length:=by omega
   have A5:gs.take i=gs:=by rw[he];exact qD
   have HE:Hid (zkN w (gs.filter λg=>LB.all L g.M) (.returned (.func (.func 95) #[] #[.pointer (some ⟨w.heap.size,0,none⟩)])) wr):=by
    have ho:=Af.out;rw[A5] at ho;obtain⟨ao,cap,e,hr,AD⟩:=ho.row G.out;exact⟨w.heap.size,ao,cap,rfl,G.out,qq _,z00 q.out,by rw[z01 _ _ _ _ q.out 0 v rfl,e],hr.cel,λa ea=>by have:=AD a ea;omega⟩
   clear A5;subst he;go_wp2_with fail;go_ret;exact HE.out
end
section
open Go.RowKit
theorem z1Q (x:Sr)(lo so:Option Addr)(O sc:Nat)(w:World)(hL:z1w w lo x.1)(hS:z1I w so x.2)(h1:0<x.1.length)(h2:0<x.2.length)(h3:x.1.length<=1000000)(h4:x.2.length<=1000000):
  Calls q6 41 #[srV lo x.1.length O so x.2.length sc] w λe w'=>∃vl vs,e= .returned (.agg #[vl,vs])/\z0x w' w.heap.size vl x.1/\z0h w' w.heap.size vs x.2/\Below w.heap.size w w':=by
 have G:Below w.heap.size w ((w.alloc (.cells #[.slice lo x.1.length O,.slice so x.2.length sc] 93)).alloc (.cells #[.slice none 0 0,.slice none 0 0] 93)):=((Below.refl _ w).alloc (qq _) _).alloc (by simp) _;have h:((w.alloc (.cells #[.slice lo x.1.length O,.slice so x.2.length sc] 93)).alloc (.cells #[.slice none 0 0,.slice none 0 0] 93)).heap[w.heap.size]? =some (.cells #[.slice lo x.1.length O,.slice so x.2.length sc] 93):=(Below.heap_alloc _ _ _ (by simp)).trans (qu w _);have U:((w.alloc (.cells #[.slice lo x.1.length O,.slice so x.2.length sc] 93)).alloc (.cells #[.slice none 0 0,.slice none 0 0] 93)).heap[w.heap.size+1]? =some (.cells #[.slice none 0 0,.slice none 0 0] 93):=by
  have:=qu (w.alloc (.cells #[.slice lo x.1.length O,.slice so x.2.length sc] 93)) (.cells #[.slice none 0 0,.slice none 0 0] 93);simpa using this
 have A7:Hid (∀W,Below w.heap.size w W->Calls q6 45 #[.slice lo x.1.length O] W λen w'=>∃v',en= .returned v'/\z0x w' W.heap.size v' x.1/\Below W.heap.size W w'):=λW hW=>z2r lo x.1 O W (hL.below hW) h1 h3
 have A8:Hid (∀W,Below w.heap.size w W->Calls q6 92 #[.slice so x.2.length sc] W λen w'=>∃v',en= .returned v'/\z0h w' W.heap.size v' x.2/\Below W.heap.size W w'):=λW hW=>z8g so x.2 sc W (hS.below hW) h2 h4
 clear hL hS h1 h2 h3 h4;go_enter func41,ntmps41;go_wp2_with fail;generalize A9:((w.alloc (.cells #[.slice lo x.1.length O,.slice so x.2.length sc] 93)).alloc (.cells #[.slice none 0 0,.slice none 0 0] 93))=W0 at*;have c0:W0.cell? ⟨w.heap.size,0,none⟩=some (.slice lo x.1.length O):=z01 _ _ _ _ h 0 _ rfl;have c1:W0.cell? ⟨w.heap.size,1,none⟩=some (.slice so x.2.length sc):=z01 _ _ _ _ h 1 _ rfl;have V:=hid G;have HX:=hid h;have HR:=hid U;clear G h U A9
 go_region_with (first
  | (go_at_call 45;refine(A7.out _ (by exact V.out.drew)).mono ?_;rintro en w2 ⟨v2,rfl,Y,A1⟩;have y0:=(qj (a:=⟨w.heap.size,1,none⟩) (A1.block w.heap.size (z00 HX.out))).trans c1;have Ac:=hid Y;have J:=hid A1;obtain⟨Ai,Ag,e2⟩:=z02 Y;clear Y A1)
  | (go_at_call 92;refine(A8.out _ (by exact z0u V.out.drew J.out)).mono ?_;rintro en w3 ⟨v3,rfl,A2,A3⟩;have q:=(A3.block (w.heap.size+1) (qe (z00 HR.out) J.out.size)).trans ((J.out.block (w.heap.size+1) (z00 HR.out)).trans HR.out);have z0:=z01 _ _ _ _ q 0 _ rfl;have z1:=z01 _ _ _ _ q 1 _ rfl;have f0:=hfz q 0;have f1:=hfz q 1;have Ad:=hid q;clear q;have Ae:=hid A2;have A5:=hid A3;obtain⟨Aj,Ah,e3⟩:=z02 A2;clear A2 A3))
 all_goals go_wp2_with fail
 all_goals refine bodyPost_ret (results_cell_row (P:=q6) rfl _ _ (w.heap.size+1) 93 _ (0,0) _ rfl (qo _ _ 1 _ _ _ (qo _ _ 0 _ _ _ Ad.out)) underlying93 rfl (by kernel_rfl)) rfl ?_
 all_goals
  subst e2;subst e3;have A4:w.heap.size+1<W0.drew.heap.size:=z00 HR.out;have Af:=J.out.size;have k2:z0x w3 W0.drew.heap.size _ x.1:=z04 Ac.out λg _ hg=>A5.out.block g (z00 hg)
  have k3:z0h w3 w2.heap.size _ x.2:=Ae.out;have A6:w.heap.size+1<w2.heap.size:=qe A4 Af;have n2:=z8A (r:=w.heap.size+1) k2 A4;have n3:=z8A (r:=w.heap.size+1) k3 A6;exact⟨_,_,rfl,z07 (z0y (z0y k2 n2 0 _) n2 1 _) (oe (uA A4)),z07 (z0y (z0y k3 n3 0 _) n3 1 _) (oe (uA A6)),((z0u (z0u V.out.drew J.out) A5.out).setCell (p:=⟨w.heap.size+1,0,none⟩) (wP _) _).setCell (p:=⟨w.heap.size+1,1,none⟩) (wP _) _⟩
end
section
open Go.RowKit Go.Shelf
structure z9Q (p:CL.Smp->Bool) (l R:List CL.Smp) (i j:Nat):Prop where
 len:R.length=l.length
 lt:i<j
 le:j<=l.length
 front:R.take i=(l.take j).filter λs=> !p s
 rest:R.drop j=l.drop j
theorem zkd {l:List CL.Smp}{i:Nat}(h:i<l.length):CL.at' l i=l[i]:=by
 unfold CL.at';rw[q7,qw h];rfl
theorem zha {l:List CL.Smp}{i:Nat}(h:i<l.length):CL.at' l i∈l:=by rw[zkd h];exact qK h
theorem z5J {p:CL.Smp->Bool}{l:List CL.Smp}{k:Nat}(J:k<=l.length)(h:∀j,j<k->p (CL.at' l j)=false):(l.take k).filter (λs=> !p s)=l.take k:=by
 rw[List.filter_eq_self];intro s q;obtain⟨j,G,rfl⟩:=eI.1 q;rw[qb] at G;have:=h j (by omega);rw[zkd (by omega)] at this;rw[List.getElem_take,this];rfl
theorem z9Q.start {p:CL.Smp->Bool}{l:List CL.Smp}{k:Nat}(q:k<l.length)(G:p (CL.at' l k)=true)(h:∀j,j<k->p (CL.at' l j)=false):z9Q p l l k (k+1):=
 ⟨rfl,Nat.lt_succ_self k,q,by rw[z4r l k q,ef,z5J (by omega) h];simp[G],rfl⟩
theorem z9Q.at {p:CL.Smp->Bool}{l R:List CL.Smp}{i j:Nat}(h:z9Q p l R i j):CL.at' R j=CL.at' l j:=by
 have q:=congrArg (λx:List CL.Smp=>x[0]?) h.rest;simp only[tJ,yI] at q;unfold CL.at';rw[q7,q7,q]
theorem z9Q.zmM {p:CL.Smp->Bool}{l R:List CL.Smp}{i j:Nat}(h:z9Q p l R i j):R.drop (j+1)=l.drop (j+1):=by
 have q:=congrArg (List.drop 1) h.rest;rwa[yF,yF] at q
theorem z9Q.skip {p:CL.Smp->Bool}{l R:List CL.Smp}{i j:Nat}(h:z9Q p l R i j)(q:j<l.length)(G:p (CL.at' l j)=true):z9Q p l R i (j+1):=
 ⟨h.len,by have:=h.lt;omega,q,by rw[z4r l j q,ef,h.front];simp[G],h.zmM⟩
theorem z9Q.put {p:CL.Smp->Bool}{l R:List CL.Smp}{i j:Nat}(h:z9Q p l R i j)(q:j<l.length)(J:p (CL.at' l j)=false):z9Q p l (R.set i (CL.at' l j)) (i+1) (j+1):=by
 have O:=h.lt;have G:=h.len;refine⟨by rw[wC];exact h.len,by omega,q,?_,?_⟩
 .rw[z4r l j q,ef,<-h.front];have U:(R.set i (CL.at' l j)).take (i+1)=R.take i++[CL.at' l j]:=by
   rw[List.take_set,z4r R i (by omega),List.set_append_right _ _ (by rw[qb];omega),qb,oT (by omega),Nat.sub_self];rfl
  rw[U];simp[J]
 .rw[<-h.zmM];apply y7;intro k;rw[tJ,tJ,List.getElem?_set_ne (by omega)]
theorem z9Q.fin {p:CL.Smp->Bool}{l R:List CL.Smp}{i:Nat}(h:z9Q p l R i l.length):R.take i=l.filter (λs=> !p s)/\i=(l.filter λs=> !p s).length:=by
 have q:=h.front;rw[qD] at q;refine⟨q,?_⟩;rw[<-q,qb];have:=h.lt;have:=h.len;omega
theorem zki:∀(R:List CL.Smp) (i:Nat) (s:CL.Smp),((sv R).set (i*2) (.int .i64 s.1)).set (i*2+1) (.int .i64 s.2)=sv (R.set i s)
 | [],i,s=>rfl
 | r::R,0,s=>rfl
 | r::R,i+1,s=>by
  have e:sv (r::R)= .int .i64 r.1:: .int .i64 r.2::sv R:=rfl;have h:sv ((r::R).set (i+1) s)= .int .i64 r.1:: .int .i64 r.2::sv (R.set i s):=rfl;rw[e,h,<-zki R i s,show(i+1)*2=i*2+1+1 by omega];rfl
theorem zeL:∀(R:List CL.Smp) (i:Nat),(sv R).take (i*2)=sv (R.take i)
 | [],i=>by simp[sv]
 | r::R,0=>rfl
 | r::R,i+1=>by
  have e:sv (r::R)= .int .i64 r.1:: .int .i64 r.2::sv R:=rfl;rw[e,show(i+1)*2=i*2+1+1 by omega];simp only[uf];rw[zeL R i];rfl
theorem z7I {P:Program}(w:World)(t e J:qn)(z:Value)(O:P.underlying t=some (.slice e))(U:∀w,(zeroValue e).run P w= .ok z w)(g o n c:Nat)(hn:0<n)(cur:Array Value)(G:qn)
  (V:w.heap[g]? =some (.cells cur G (0,0))) (h:o+(wv z.cells n).toList.length<=cur.size) (Y:∀u∈(wv z.cells n).toList,u.oneCell'=true):
  (iZ #[t] J #[.slice (some ⟨g,o,none⟩) n c]).run P w= .ok (.tuple #[]) (w.setRow g (cur.toList.take o++(wv z.cells n).toList++cur.toList.drop (o+(wv z.cells n).toList.length)).toArray):=by
 have q:=run_storeCells_at P g o G (wv z.cells n).toList 0 cur w V (by simpa using h) Y;simp only[yI] at q;obtain⟨m,rfl⟩:∃m,n=m+1:=⟨n-1,by omega⟩;generalize hz:(wv z.cells (m+1)).toList=zs at*;simp[iZ,pr O,U,hz,q]
theorem za4 (ao:Option Addr)(m:List CL.Smp)(cap g:Nat)(lb:Array Value)(P:CL.Smp->Bool)(w:World)(hM:z1I w ao m)(hl:m.length<=1000000)
  (eg:∀args w,(ux g args).run q6 w= .ok (.enter g args) w)
  (q:∀W,Below w.heap.size w W->∀x∈m,Calls q6 g (#[.agg #[.int .i64 x.1,.int .i64 x.2]]++lb) W λe w'=>e= .returned (.bool (P x))/\Below W.heap.size W w'):
  Calls q6 93 #[.slice ao m.length cap,.func (.func g) #[] lb] w λe w'=>∃n:Int,e= .returned (.int .i64 n)/\((n= -1/\∀j,j<m.length->P (CL.at' m j)=false)\/∃k:Nat,n=(k:Int)/\k<m.length/\P (CL.at' m k)=true/\∀j,j<k->P (CL.at' m j)=false)/\Below w.heap.size w w':=by
 have HM:=hid hM;have A6:=hid q;clear hM q;go_enter func93,ntmps93;go_wp2;go_loopw [8] (λti wr=>∃i:Nat,i<=m.length/\ti= .int .i64 i/\Below w.heap.size w wr/\∀j,j<i->P (CL.at' m j)=false) (λti _=>m.length-(intOf ti).toNat)
 case atStart=>exact⟨0,by omega,rfl,Below.refl _ _,by omega⟩
 case round=>
  obtain⟨i,hi,rfl,G,U⟩:=hrel;have HO:=hid U;have J:=hid G;have A7:=G.size;clear U G;by_cases O:i<m.length
  .obtain⟨b,off,A8,V,Y,A1⟩:=HM.out i O;subst A8;have A4:=(J.out.cell (p:=⟨b,off+i*2,none⟩) A1).trans V;have A5:=(J.out.cell (p:=⟨b,off+i*2+1,none⟩) A1).trans Y;clear V Y;have HC:=hid (A6.out wr J.out (CL.at' m i) (zha O));have HN:Hid (P (CL.at' m i)=false->∀j,j<i+1->P (CL.at' m j)=false):=λh j hj=>by
    by_cases he:j=i
    .subst he;exact h
    .exact HO.out j (by omega)
   have HT:Hid (P (CL.at' m i)=true->(∃k:Nat,(i:Int)=(k:Int)/\k<m.length/\P (CL.at' m k)=true/\∀j,j<k->P (CL.at' m j)=false)):=λh=>⟨i,rfl,O,h,HO.out⟩
   generalize CL.at' m i=x at*;go_wp2_with fail;refine HC.out.mono ?_;rintro e w2 ⟨rfl,A2⟩;have A3:=hid (J.out.trans (A2.mono A7));clear A2 HC;cases hp:P x with
   | true=>
    have HE:=hid (HT.out hp);clear HT HN;go_wp2_with fail;go_ret;exact⟨i,rfl,.inr HE.out,A3.out⟩
   | false=>
    have HE:=hid (HN.out hp);clear HT HN;go_wp2_with fail;go_roundw
    case rel=>exact⟨i+1,by omega,by go_num,A3.out,HE.out⟩
    case measure=>simp[intOf];omega
  .have he:i=m.length:=by omega
   have HE:=hid (he▸HO.out);subst he;go_wp2;go_ret;exact⟨-1,rfl,.inl ⟨rfl,HE.out⟩,J.out⟩
theorem zf7 (n:Nat):(wv (uw #[.int .i64 0,.int .i64 0]).cells n).toList.length=n*2/\∀u∈(wv (uw #[.int .i64 0,.int .i64 0]).cells n).toList,u.oneCell'=true:=by
 have e:(uw #[.int .i64 0,.int .i64 0]).cells=#[.int .i64 0,.int .i64 0]:=by kernel_rfl
 rw[e];refine⟨by simp[wv],λu h=>?_⟩;simp only[wv,Array.toList_map,qx] at h;obtain⟨i,_,rfl⟩:=h;have q:i%2<2:=Nat.mod_lt _ (by omega);show uo ((#[wM .i64 0,wM .i64 0]:Array Value)[i%2]!)=true;generalize i%2=k at*
 match k,q with
 | 0,_=>rfl
 | 1,_=>rfl
theorem zhX (w:World):(zeroValue 98).run q6 w= .ok (.agg #[.int .i64 0,.int .i64 0]) w:=by kernel_rfl
theorem zdR (q cap G g:Nat)(lb:Array Value)(l:List CL.Smp)(p:CL.Smp->Bool)(w:World)(Y:z0h w G (.slice (some ⟨q,0,none⟩) l.length cap) l)(hn:0<l.length)(hl:l.length<=1000000)
  (eg:∀args w,(ux g args).run q6 w= .ok (.enter g args) w)
  (O:∀W,But q w W->∀x∈l,Calls q6 g (#[.agg #[.int .i64 x.1,.int .i64 x.2]]++lb) W λe w'=>e= .returned (.bool (p x))/\Below W.heap.size W w'):
  Calls q6 42 #[.slice (some ⟨q,0,none⟩) l.length cap,.func (.func g) #[] lb] w λe w'=>e= .returned (.slice (some ⟨q,0,none⟩) (l.filter λs=> !p s).length cap)/\z0h w' G (.slice (some ⟨q,0,none⟩) (l.filter λs=> !p s).length cap) (l.filter λs=> !p s)/\But q w w':=by
 obtain⟨ao,c',Ag,A6⟩:=z1I.z08 Y;simp only[eC,true_and] at Ag;obtain⟨rfl,rfl⟩:=Ag;have HO:=hid Y;have HC:=hid O;have HI:=hid (za4 (some ⟨q,0,none⟩) l cap g lb p w A6 hl eg (λW hW=>O W (But.below hW)));clear Y O A6;go_enter func42,ntmps42;go_wp2_with fail;refine HI.out.mono ?_;rintro e w1 ⟨n,rfl,hk,Ah⟩;have J:=hid Ah;clear HI Ah;rcases hk with⟨rfl,A7⟩|⟨k,rfl,hk,Ai,A8⟩
 .have HE:Hid (l.filter (λs=> !p s)=l):=by
   show _=_;have:=z5J (p:=p) (qq l.length) A7;rwa[qD] at this
  clear A7;go_wp2_with fail;go_ret;rw[HE.out];exact⟨rfl,z04 HO.out λg _ hg=>J.out.block g (z00 hg),But.below J.out⟩
 .have Aj:=hid (z9Q.start hk Ai A8);have A1:Hid (z0h w1 G (.slice (some ⟨q,0,none⟩) l.length cap) l):=z04 HO.out λg _ hg=>J.out.block g (z00 hg)
  have AB:((k:Int)== -1)=false:=by rw[beq_eq_false_iff_ne];omega
  clear Ai A8 HO;go_wp2_with fail;go_loopw [5,6] (λt5 t6 wr=>∃(i j:Nat) (R:List CL.Smp),t5= .int .i64 i/\t6= .int .i64 j/\z9Q p l R i j/\z0h wr G (.slice (some ⟨q,0,none⟩) R.length cap) R/\But q w wr) (λ_ t6 _=>l.length-(intOf t6).toNat)
  case atStart=>exact⟨k,k+1,l,rfl,by go_num,Aj.out,A1.out,But.below J.out⟩
  case round=>
   clear J A1 Aj AB hk;obtain⟨i,j,R,rfl,rfl,hD,Ak,Al⟩:=hrel;have HD:=hid hD;have U:=hid Ak;have A2:=hid Al;have AC:=hD.lt;have AD:=hD.le;have Am:R.length<=l.length:=by have:=hD.len;omega
   have Ao:l.length<=R.length:=by have:=hD.len;omega
   clear hD Ak Al;by_cases A3:j<l.length
   .obtain⟨g1,g2⟩:=z6Y R j (by omega);have c0:=U.out.cells (g:=q) rfl _ _ g1;have c1:=U.out.cells (g:=q) rfl _ _ g2;rw[qP,qT] at c0 c1;have AE:=hid (HD.out.at);rw[HD.out.at] at c0 c1;have A9:=hid (λh=>HD.out.skip A3 h);have Ac:=hid (λh=>HD.out.put A3 h);have Ap:=zha A3;have Aq:=hid (λW (hW:But q w W)=>HC.out W hW (CL.at' l j) Ap);generalize CL.at' l j=x at*;have Ad:Below wr.heap.size wr (wr.alloc (.cells #[.int .i64 x.1,.int .i64 x.2] 98)):=(Below.refl _ wr).alloc (qq _) _;have J:=hid (A2.out.trans (But.below Ad));have Ae:=hid (qu wr (.cells #[.int .i64 x.1,.int .i64 x.2] 98));have A1:Hid (z0h (wr.alloc (.cells #[.int .i64 x.1,.int .i64 x.2] 98)) G (.slice (some ⟨q,0,none⟩) R.length cap) R):=z04 U.out λg _ hg=>Ad.block g (z00 hg)
    have AM:q<wr.heap.size:=World.block_lt_of_cell? _ _ c0;have AJ:0<=(j:Int)/\(j:Int)<(l.length:Int):=by omega
    clear Ad A2 U g1 g2 AE;go_wp2_with fail;generalize wr.alloc (.cells #[.int .i64 x.1,.int .i64 x.2] 98)=w2 at*;generalize wr.heap.size=bx at*;refine(Aq.out w2 J.out).mono ?_;rintro e w3 ⟨rfl,A4⟩;have Ar:=hid (J.out.trans (But.below A4));have Au:=hid ((A4.block _ (z00 Ae.out)).trans Ae.out);have V:Hid (z0h w3 G (.slice (some ⟨q,0,none⟩) R.length cap) R):=z04 A1.out λg _ hg=>A4.block g (z00 hg)
    clear A4 J Ae A1 c0 c1 Aq;cases hp:p x with
    | true=>
     have HN:=hid (A9.out hp);clear A9 Ac hp;go_wp2_with fail;go_roundw
     case rel=>exact⟨i,j+1,R,rfl,by go_num,HN.out,V.out,Ar.out⟩
     case measure=>simp[intOf];omega
    | false=>
     have HN:=hid (Ac.out hp);clear A9 Ac hp;have x0:w3.cell? ⟨bx,0,none⟩=some (.int .i64 x.1):=z01 _ _ _ _ Au.out 0 _ rfl;have x1:w3.cell? ⟨bx,1,none⟩=some (.int .i64 x.2):=z01 _ _ _ _ Au.out 1 _ rfl;obtain⟨g1,g2⟩:=z6Y R i (by omega);have c0:=V.out.cells (g:=q) rfl _ _ g1;have c1:=V.out.cells (g:=q) rfl _ _ g2;rw[qP,qT] at c0 c1;have f0:=V.out.frozenAt (i*2);have f1:=V.out.frozenAt (i*2+1);have AK:0<=(i:Int)/\(i:Int)<(l.length:Int):=by omega
     have s1:=V.out.stored (i*2) (.int .i64 x.1);have s2:=s1.1.stored (i*2+1) (.int .i64 x.2);have AF:Hid (z0h ((w3.setCell ⟨q,i*2,none⟩ (.int .i64 x.1)).setCell ⟨q,i*2+1,none⟩ (.int .i64 x.2)) G (.slice (some ⟨q,0,none⟩) (R.set i x).length cap) (R.set i x)):=by
      have:=s2.1;rw[zki] at this;show World.ownsRow _ _ _ _ _ _ _;rw[wC];exact this
     have AG:=hid (Ar.out.trans ((But.grown s1.2).trans (But.grown s2.2)));clear s1 s2 g1 g2;go_wp2_with fail;go_roundw
     case rel=>exact⟨i+1,j+1,R.set i x,by go_num,by go_num,HN.out,AF.out,AG.out⟩
     case measure=>simp[intOf];omega
   .have he:j=l.length:=by omega
    have AO:i<l.length:=by omega
    obtain⟨Av,Af⟩:=(he▸HD.out:z9Q p l R i l.length).fin;rcases U.out.2 with⟨h',_⟩|⟨g',AL,cur,e0,Aw,hg,AH,Ax,A5,Ay⟩
    .cases h'
    simp only[eC,qR,Addr.mk.injEq,and_true,true_and] at e0;obtain⟨rfl,rfl⟩:=e0;obtain⟨hz,Az⟩:=zf7 (l.length-i);have AA:∀ty,_:=λty=>z7I (P:=q6) wr 91 98 ty (.agg #[.int .i64 0,.int .i64 0]) Tryz.uSms zhX q (i*2) (l.length-i) (cap-i) (by omega) cur 98 hg (by rw[hz,A5];omega) Az
    generalize (wv (uw #[.int .i64 0,.int .i64 0]).cells (l.length-i)).toList=zs at*;generalize hC:(cur.toList.take (i*2)++zs++cur.toList.drop (i*2+zs.length)).toArray=C at AA;have HE:Hid (z0h (wr.setRow q C) G (.slice (some ⟨q,0,none⟩) (l.filter λs=> !p s).length cap) (l.filter λs=> !p s)/\But q w (wr.setRow q C)/\(l.filter λs=> !p s).length=i):=by
     refine⟨⟨z1d _,.inr ⟨q,cap,C,rfl,Aw,setRow_heap wr q cur C _ _ hg,by omega,Ax,?_,?_⟩⟩,A2.out.trans ⟨rfl,rfl,rfl,by simp,λk _ hk=>setRow_other wr q k C hk⟩,Af.symm⟩
     .rw[<-hC,List.size_toArray];simp only[q8,qb,List.length_drop,qE,hz,A5];omega
     .rw[<-Af,<-hC];have h1:(cur.toList.take (i*2)).length=i*2:=by rw[qb,qE,A5];omega
      rw[List.append_assoc,List.take_append_of_le_length (by omega),List.take_of_length_le (by omega)];have h2:=congrArg (List.take (i*2)) Ay;rw[List.take_take,oT (by omega),zeL,Av] at h2;exact h2
    have AP:¬cap=i:=by omega
    have AQ:0<=(i:Int)/\(i:Int)<=(l.length:Int):=by omega
    have AR:(i:Int)<=(cap:Int):=by omega
    have AU:(i:Int)<(l.length:Int):=by omega
    clear Av Af hg AH A5 Ay hz Az hC Ax Aw U A2 HD Am Ao AC AD A3;subst he;go_wp2_with (simp only[AA])
    go_ret;obtain⟨h1,h2,h3⟩:=HE.out;exact⟨by rw[h3];rfl,h1,h2⟩
end
section
open Go.RowKit
theorem z3F {W:World}{q B:Nat}{v G J:Value}{l:List Sr}(x:Sr)(h:z0a W q v l)(Y:z0x W q G x.1)(hS:z0h W q J x.2)(hB:W.heap[B]? =some (.cells #[G,J] 93)) (hl:l.length<=1000000) (hb:q<=W.heap.size):
  ∃O cap W',(Builtin.append_ #[39,39] 39 #[v,.slice (some ⟨B,0,none⟩) 1 1]).run q6 W= .ok (.slice O (l.length+1) cap) W'/\z0a W' q (.slice O (l.length+1) cap) (l++[x])/\Below q W W'/\W.grownBy W' v.ownBlock/\((wH O (l.length+1) cap).ownBlock=v.ownBlock\/(wH O (l.length+1) cap).ownBlock=some W.heap.size):=by
 obtain⟨xs,h1,h2,h3⟩:=h;obtain⟨v',W',V,k1,U,k3⟩:=z6z W q B v G J l.length (zr2 xs) hB (z8M Y) (z8M hS) h2 hl hb;obtain⟨O,cap,e⟩:=z02 k1;subst e;refine⟨O,cap,W',V,z0a.snoc h1 k1 (λi hi=>⟨z0q h2 (h3 i hi).1 (by decide) U,z0q h2 (h3 i hi).2 (by decide) U⟩) (z0q h2 Y (by decide) U) (z0q h2 hS (by decide) U),(Below.refl q W).grown U hb (λg e=>(h2.lt g e).1),U,k3⟩
theorem z0a.shape {W:World}{q:Nat}{v:Value}{l:List Sr}(h:z0a W q v l):∃ao cap,v= .slice ao l.length cap:=by
 obtain⟨xs,_,G,_⟩:=h;exact z02 G
theorem zkz {W W':World}{O q n G:Nat}{e t:qn}{v:Value}{xs:List Value}{c:Array Value}(h:W.ownsRow q e G v n xs)(k:But O W W')(U:W.heap[O]? =some (.cells c t))(J:e≠t):W'.ownsRow q e G v n xs:=z04 h λg c' hc=>by
 refine k.2.2.2.2 g (z00 hc) (λV=>?_);subst V;rw[U] at hc;simp only[qR,rI] at hc;exact J hc.2.1.symm
theorem Below.but {w W W':World}{q:Nat}(h:Below w.heap.size w W)(k:But q W W')(J:w.heap.size<=q):Below w.heap.size w W':=
 ⟨k.1.trans h.os,k.2.1.trans h.tape,k.2.2.1.trans h.output,qi h.size k.2.2.2.1,λj G=>(k.2.2.2.2 j (qe G h.size) (by omega)).trans (h.block j G)⟩
end
section
open Go.RowKit Go.Shelf
theorem zjE (L:List LB.Lab)(gs:List Gn)(t:Int):((gs.filter λg=>LB.all L g.M).any (inG t))= !BK.z4d goG gs L t:=by
 unfold BK.z4d;rw[List.any_filter]
 induction gs with
 | nil=>rfl
 | cons g gs ih=>
  rw[List.any_cons,List.all_cons,ih,Bool.not_and,p7]
theorem zlz (b k:Nat)(q:Option Addr)(n c:Nat)(w:World)(h:w.cell? ⟨b,k,none⟩=some (.slice q n c)):(Instr.loadAt 91 (.pointer (some ⟨b,k,none⟩))).run q6 w= .ok (.slice q n c) w:=by
 have G:(q6.info? 91).map (·.size)=some 1:=by kernel_rfl
 go_simp
theorem znx {p:List LB.Lab->Int->Bool}{S:List Sr}{i:Nat}(h:i<S.length):HD.kp p (S.take (i+1))=HD.kp p (S.take i)++(if 0<((z03 S i).2.filter λs=>p (z03 S i).1 s.1).length then [((z03 S i).1,(z03 S i).2.filter λs=>p (z03 S i).1 s.1)] else []):=HD.zaZ p S i h
theorem zlN (p:List LB.Lab->Int->Bool)(S:List Sr):(HD.kp p S).length<=S.length:=by
 unfold HD.kp;refine qi (eR _ _) ?_;rw[qz];exact qq _
theorem zmX (w:World)(b k:Nat):(oY 93 (.pointer (some ⟨b,k,none⟩)) 0).run q6 w= .ok (.pointer (some ⟨b,k,none⟩)) w:=by
 go_simp
theorem zko (w:World)(b k:Nat):(oY 93 (.pointer (some ⟨b,k,none⟩)) 1).run q6 w= .ok (.pointer (some ⟨b,k+1,none⟩)) w:=by
 go_simp
theorem zl5 (b k:Nat)(u:Value)(h:Option Addr)(n c:Nat)(w:World)(c0:w.cell? ⟨b,k,none⟩=some u)(q:w.frozen? ⟨b,k,none⟩=false):(Instr.storeAt 91 (.pointer (some ⟨b,k,none⟩)) (.slice h n c)).run q6 w= .ok () (w.setCell ⟨b,k,none⟩ (.slice h n c)):=by
 have G:(q6.info? 91).map (·.size)=some 1:=by kernel_rfl
 go_simp
def znU (w3:World)(l:List Gn)(v:Value)(W:World):Prop:=
 ∃bf fo fc,v= .func (.func 95) #[] #[.pointer (some ⟨bf,0,none⟩)]/\w3.heap.size<=bf/\bf<W.heap.size/\W.cell? ⟨bf,0,none⟩=some (.slice fo l.length fc)/\zeC W fo l/\∀a,fo=some a->w3.heap.size<=a.block
def znJ (w3:World)(h q:Nat)(v:Value)(F:List CL.Smp)(W:World):Prop:=∃W4,Below w3.heap.size w3 W4/\But h W4 W/\z0h W q v F
def T6 (q:World)(G h:Nat)(J O U V:Value)(l:List Gn)(L:Nat->Bool)(i:Nat)(W:World)(v:Value):Prop:=L 8=false->match i with
 | 0=>v= .pointer (some ⟨h,1,none⟩)
 | 1=>v=J
 | 2=>v= .pointer (some ⟨G,0,none⟩)
 | 3=>v=O
 | 4=>v=U
 | 5=>L 6=false->znU q l v W
 | 6=>v=V
 | 7=>v= .pointer (some ⟨h,1,none⟩)
 | _=>True
theorem T6.zto {G W W':World}{J O:Nat}{U V Y vF:Value}{l:List Gn}{L L':Nat->Bool}(h8:L' 8=L 8):∀{i:Nat} {v:Value},(i=5->L' 6=true\/(L' 6=L 6/\W'=W))->T6 G J O U V Y vF l L i W v->T6 G J O U V Y vF l L' i W' v:=by
 intro i v k h e8;have h:=h (by rw[<-h8];exact e8)
 match i,h with
 | 0,h=>exact h
 | 1,h=>exact h
 | 2,h=>exact h
 | 3,h=>exact h
 | 4,h=>exact h
 | 5,h=>
  intro q;rcases k rfl with k|⟨k1,k2⟩
  .rw[k] at q;cases q
  .subst k2;exact h (by rw[<-k1];exact q)
 | 6,h=>exact h
 | 7,h=>exact h
 | _+8,_=>trivial
theorem zhK (ao go:Option Addr)(S:List Sr)(gs:List Gn)(ca cg:Nat)(w:World)(hS:z0r w ao S)(Av:HD.Good S)(hG:zez w go gs)(hg:gs.length<=1000)(hM:∀i,i<gs.length->(atG gs i).M.length<=1000):
  Calls q6 13 #[.slice ao S.length ca,.slice go gs.length cg] w λe w'=>∃v,e= .returned v/\z0a w' w.heap.size v (HD.kp (BK.z4d goG gs) S)/\Below w.heap.size w w':=by
 have HS:=hid hS;have Be:=hid Av;have HG:=hid hG;have HM:=hid hM;have Bv:=Av.few;clear hS Av hG hM;go_enter func13,ntmps13;go_wp2_with fail;go_loopw [5,11] (λt5 ti wr=>∃i:Nat,i<=S.length/\ti= .int .i64 i/\Below w.heap.size w wr/\z0a wr w.heap.size t5 (HD.kp (BK.z4d goG gs) (S.take i))) (λ_ ti _=>S.length-(intOf ti).toNat)
 case atStart=>exact⟨0,qh _,rfl,Below.refl _ _,z0a.nil _ _⟩
 case round=>
  obtain⟨i,hi,rfl,Am,A7⟩:=hrel;have A1:=hid Am;have Aw:=hid A7;obtain⟨va,vc,ev⟩:=A7.shape;subst ev;clear Am A7;by_cases Ax:i<S.length
  .obtain⟨b,off,Bf,AL,lo,lc,so,sc,d0,d1,AM,AO⟩:=HS.out i Ax;subst Bf;have c0:wr.cell? ⟨b,off+i*2,none⟩=some (.slice lo (z03 S i).1.length lc):=(A1.out.cell (p:=⟨b,_,none⟩) AL).trans d0;have c1:wr.cell? ⟨b,off+i*2+1,none⟩=some (.slice so (z03 S i).2.length sc):=(A1.out.cell (p:=⟨b,_,none⟩) AL).trans d1;have Ag:=Be.out.ok _ (HD.at_mem S i Ax);have Ah:=hid (znx (p:=BK.z4d goG gs) Ax);have BA:=z0T Ag.1;have BB:=z2a Ag.2.1;have Ay:=Ag.2.2.1;have BC:(HD.kp (BK.z4d goG gs) (S.take i)).length<=4000:=qi (zlN _ _) (by rw[qb];omega);generalize HD.kp (BK.z4d goG gs) (S.take i)=l at*;generalize z03 S i=x at*;have BD:0<=(i:Int)/\(i:Int)<(S.length:Int):=by omega
   have AP:Below wr.heap.size wr (wr.alloc (.cells #[.slice lo x.1.length lc,.slice so x.2.length sc] 93)):=(Below.refl _ wr).alloc (qq _) _;have Az:=hid AP;have AA:=hid (qu wr (.cells #[.slice lo x.1.length lc,.slice so x.2.length sc] 93));have AQ:=hid AM;have Bg:=hid AO;clear AP Ag AM AO d0 d1;go_wp2_with fail;generalize wr.alloc (.cells #[.slice lo x.1.length lc,.slice so x.2.length sc] 93)=w1 at*;have AB:=hid (z0u A1.out Az.out);refine(z1Q x lo so lc sc w1 (AQ.out.below AB.out) (Bg.out.below AB.out) (by omega) Ay (by omega) (by omega)).mono ?_;rintro e w2 ⟨vl,vs,rfl,AC,Ai,A3⟩;obtain⟨la,A2,el⟩:=z02 AC;obtain⟨U,G,BF,es,Bh,AD,_⟩:=z0d Ai Ay;subst el;subst es;have A8:wr.heap.size<w1.heap.size:=z00 AA.out;have Bi:=(Ai.lt U rfl).1;have AR:=z00 AD;have V:Below w2.heap.size w2 (w2.alloc (.cells #[.slice la x.1.length A2,.slice (some ⟨U,0,none⟩) x.2.length G] 93)):=(Below.refl _ w2).alloc (qq _) _;have Aj:=hid (z0u (z0u Az.out A3) V);have AE:=hid ((V.block _ (qe A8 A3.size)).trans ((A3.block _ A8).trans AA.out));have A4:=hid (qu w2 (.cells #[.slice la x.1.length A2,.slice (some ⟨U,0,none⟩) x.2.length G] 93));have AU:Hid (z0x (w2.alloc (.cells #[.slice la x.1.length A2,.slice (some ⟨U,0,none⟩) x.2.length G] 93)) w1.heap.size (.slice la x.1.length A2) x.1):=z04 AC λg _ hg=>V.block g (z00 hg)
   have AV:Hid (z0h (w2.alloc (.cells #[.slice la x.1.length A2,.slice (some ⟨U,0,none⟩) x.2.length G] 93)) w1.heap.size (.slice (some ⟨U,0,none⟩) x.2.length G) x.2):=z04 Ai λg _ hg=>V.block g (z00 hg)
   have Ak:=hid ((V.block _ AR).trans AD);have AW:w1.heap.size<=w2.heap.size:=A3.size;clear AC Ai A3 V AD Bh Az AA AB c0 c1;go_wp2_with fail;generalize w2.alloc (.cells #[.slice la x.1.length A2,.slice (some ⟨U,0,none⟩) x.2.length G] 93)=w3 at*;generalize w2.heap.size=bY at*;generalize w1.heap.size=B1 at*;generalize Ao:wr.heap.size=bx at*;have x0:w3.cell? ⟨bx,0,none⟩=some (.slice lo x.1.length lc):=z01 _ _ _ _ AE.out 0 _ rfl;have y1:w3.cell? ⟨bY,1,none⟩=some (.slice (some ⟨U,0,none⟩) x.2.length G):=z01 _ _ _ _ A4.out 1 _ rfl;have Bw:bx<bY:=by omega
   have Ap:U≠bY:=by omega
   have By:U≠bx:=by omega
   have Bz:bx<=U:=by omega
   have Aq:w.heap.size<=B1:=by have:=A1.out.size;omega
   have AF:=hid (z0u A1.out (show Below wr.heap.size wr w3 by rw[Ao];exact Aj.out));have AX:(λs:CL.Smp=> !(gs.filter λg=>LB.all x.1 g.M).any (inG s.1))=λs=>BK.z4d goG gs x.1 s.1:=funext λs=>by rw[zjE,p7]
   have Bj:=hid AX;have Bl:=hid (show(gs.filter λg=>LB.all x.1 g.M).length<=1000 from qi (eR _ _) hg);have A9:Hid (∀W,Below w3.heap.size w3 W->Calls q6 43 #[.slice lo x.1.length lc,.slice go gs.length cg] W λe w'=>zkN W (gs.filter λg=>LB.all x.1 g.M) e w'):=λW hW=>zfy lo go x.1 gs lc cg W ((AQ.out.below AF.out).below hW) (by omega) ((HG.out.below AF.out).below hW) hg HM.out
   generalize hF:x.2.filter (λs=>BK.z4d goG gs x.1 s.1)=F at*;generalize gs.filter (λg=>LB.all x.1 g.M)=gl at*;clear A8 Bi AR AW AX;refine TL.zbu [17,18,19,20,21,22,23,24] (λL W=>(L 8=false->(L 6=false->Below w3.heap.size w3 W)/\(L 6=true->znJ w3 U B1 (.slice (some ⟨U,0,none⟩) F.length G) F W))/\(L 8=true->∃W0,znJ w3 U B1 (.slice (some ⟨U,0,none⟩) F.length G) F W0/\W=W0.setCell ⟨bY,1,none⟩ (.slice (some ⟨U,0,none⟩) F.length G))) (T6 w3 bx bY (.slice (some ⟨U,0,none⟩) x.2.length G) (.slice lo x.1.length lc) (.slice go gs.length cg) (.slice (some ⟨U,0,none⟩) F.length G) gl) rfl (by kernel_rfl) (by kernel_rfl) 35 rfl (by kernel_rfl) ⟨λ_=>⟨λ_=>(Below.refl _ w3).drew,λe=>(by cases e)⟩,λe=>(by cases e)⟩ (TL.z0i ?_ (TL.z0i ?_ (TL.z0i ?_ (TL.z0i ?_ (TL.z0i ?_ (TL.z0i ?_ (TL.z0i ?_ (TL.z0i ?_ (TL.z0i ?_ TL.zgR))))))))) ?_
   .intro L a W hL Y J h hC q;have O:L 8=false:=TL.z0v J 9 8 0 (by kernel_rfl) hL;exact TL.Does.field rfl (h.keeps 8 (by kernel_rfl)) (zko W bY 0) ⟨⟨λ_=>hC.1 O,λe=>(by have e':L 8=true:=e;rw[O] at e';cases e')⟩,λ_=>rfl,λj hj _ ht=>ht.zto rfl λ_=> .inr ⟨rfl,rfl⟩⟩
   .intro L a W hL Y J h hC q;have O:L 8=false:=TL.z0v J 9 8 1 (by kernel_rfl) hL;have h6:L 6=false:=TL.z0v J 9 6 1 (by kernel_rfl) hL;have hb:=(hC.1 O).1 h6;exact TL.Does.load rfl ((q 0 (by kernel_rfl)).2 O) (zlz bY 1 _ _ _ W ((hb.cell (p:=⟨bY,1,none⟩) (z00 A4.out)).trans y1)) ⟨⟨λ_=>hC.1 O,λe=>(by have e':L 8=true:=e;rw[O] at e';cases e')⟩,λ_=>rfl,λj hj _ ht=>ht.zto rfl λ_=> .inr ⟨rfl,rfl⟩⟩
   .intro L a W hL Y J h hC q;have O:L 8=false:=TL.z0v J 9 8 2 (by kernel_rfl) hL;exact TL.Does.field rfl (h.keeps 7 (by kernel_rfl)) (zmX W bx 0) ⟨⟨λ_=>hC.1 O,λe=>(by have e':L 8=true:=e;rw[O] at e';cases e')⟩,λ_=>rfl,λj hj _ ht=>ht.zto rfl λ_=> .inr ⟨rfl,rfl⟩⟩
   .intro L a W hL Y J h hC q;have O:L 8=false:=TL.z0v J 9 8 3 (by kernel_rfl) hL;have h6:L 6=false:=TL.z0v J 9 6 3 (by kernel_rfl) hL;have hb:=(hC.1 O).1 h6;exact TL.Does.load rfl ((q 2 (by kernel_rfl)).2 O) (z3o bx 0 _ _ _ W ((hb.cell (p:=⟨bx,0,none⟩) (z00 AE.out)).trans x0)) ⟨⟨λ_=>hC.1 O,λe=>(by have e':L 8=true:=e;rw[O] at e';cases e')⟩,λ_=>rfl,λj hj _ ht=>ht.zto rfl λ_=> .inr ⟨rfl,rfl⟩⟩
   .intro L a W hL Y J h hC q;have O:L 8=false:=TL.z0v J 9 8 4 (by kernel_rfl) hL;exact TL.Does.move (u:= .slice go gs.length cg) rfl (h.keeps 1 (by kernel_rfl)) ⟨⟨λ_=>hC.1 O,λe=>(by have e':L 8=true:=e;rw[O] at e';cases e')⟩,λ_=>rfl,λj hj _ ht=>ht.zto rfl λ_=> .inr ⟨rfl,rfl⟩⟩
   .intro L a W hL Y J h hC q;have O:L 8=false:=TL.z0v J 9 8 5 (by kernel_rfl) hL;have h6:L 6=false:=TL.z0v J 9 6 5 (by kernel_rfl) hL;have hb:=(hC.1 O).1 h6;have e3:a.eval (.tmp 20)= .slice lo x.1.length lc:=(q 3 (by kernel_rfl)).2 O;have e4:a.eval (.tmp 21)= .slice go gs.length cg:=(q 4 (by kernel_rfl)).2 O;refine TL.Does.call (f:=43) (args:=#[a.eval (.tmp 20),a.eval (.tmp 21)]) (by kernel_rfl) ?_;rw[e3,e4];refine(A9.out W hb).mono ?_;rintro e W' ⟨bf,fo,fc,rfl,A3,Ar,A5,AG,AH,Ac⟩;exact⟨_,rfl,⟨λ_=>⟨λ_=>z0u hb A3,λe=>(by have e':L 6=true:=e;rw[h6] at e';cases e')⟩,λe=>(by have e':L 8=true:=e;rw[O] at e';cases e')⟩,λ_ _=>⟨bf,fo,fc,rfl,qi hb.size Ar,A5,AG,AH,λa ea=>qi hb.size (Ac a ea)⟩,λj hj _ ht=>ht.zto rfl λe=>absurd e hj⟩
   .intro L a W hL Y J h hC q;have O:L 8=false:=TL.z0v J 9 8 6 (by kernel_rfl) hL;have h6:L 6=false:=hL;have hb:=(hC.1 O).1 h6;have e1:a.eval (.tmp 18)= .slice (some ⟨U,0,none⟩) x.2.length G:=(q 1 (by kernel_rfl)).2 O;obtain⟨bf,fo,fc,e5,Ar,A5,AG,AH,Ac⟩:=(q 5 (by kernel_rfl)).2 O h6;have Bm:a.eval (.tmp 22)= .func (.func 95) #[] #[.pointer (some ⟨bf,0,none⟩)]:=e5;refine TL.Does.call (f:=42) (args:=#[a.eval (.tmp 18),a.eval (.tmp 22)]) (by kernel_rfl) ?_;rw[e1,Bm];have BG:=z00 Ak.out;have AY:=zdR U G B1 95 #[.pointer (some ⟨bf,0,none⟩)] x.2 (λs=>gl.any (inG s.1)) W (z04 AV.out λg _ hg=>hb.block g (z00 hg)) Ay (by omega) (enters_of func95 (by kernel_rfl) rfl)
     (λW2 hW s _=>zdH fo gl fc bf s.1 s.2 W2 (AH.but hW λa ea=>by have:=Ac a ea;omega) Bl.out ((qj (a:=⟨bf,0,none⟩) (hW.2.2.2.2 bf A5 (by omega))).trans AG) (qe A5 hW.2.2.2.1))
    rw[Bj.out,hF] at AY;refine AY.mono ?_;rintro e W' ⟨rfl,Bo,Bp⟩;exact⟨_,rfl,⟨λ_=>⟨λe=>(by simp[TL.upd] at e),λ_=>⟨W,hb,Bp,Bo⟩⟩,λe=>(by have e':L 8=true:=e;rw[O] at e';cases e')⟩,λ_=>rfl,λj hj _ ht=>T6.zto (L':=TL.upd L 6) (L:=L) rfl (λ_=> .inl rfl) ht⟩
   .intro L a W hL Y J h hC q;have O:L 8=false:=TL.z0v J 9 8 7 (by kernel_rfl) hL;exact TL.Does.field rfl (h.keeps 8 (by kernel_rfl)) (zko W bY 0) ⟨⟨λ_=>hC.1 O,λe=>(by have e':L 8=true:=e;rw[O] at e';cases e')⟩,λ_=>rfl,λj hj _ ht=>ht.zto rfl λ_=> .inr ⟨rfl,rfl⟩⟩
   .intro L a W hL Y J h hC q;have O:L 8=false:=hL;obtain⟨h6,e6⟩:=q 6 (by kernel_rfl);have hA:=(hC.1 O).2 h6;have Bq:=hA;obtain⟨W4,k1,k2,k3⟩:=hA;have A6:=(k1.block _ (z00 A4.out)).trans A4.out;have AZ:=(k2.2.2.2.2 bY (z00 A6) (λe=>Ap e.symm)).trans A6;exact TL.Does.store rfl ((q 7 (by kernel_rfl)).2 O) (e6 O) (zl5 bY 1 _ _ _ _ W (z01 _ _ _ _ AZ 1 _ rfl) (hfz AZ 1)) ⟨⟨λe=>(by simp[TL.upd] at e),λ_=>⟨W,Bq,rfl⟩⟩,λe=>(by simp[TL.upd] at e),λj hj _ _ e=>(by simp[TL.upd] at e)⟩
   .intro L f W hL hC hT;obtain⟨W0,⟨W4,k1,k2,k3⟩,rfl⟩:=hC.2 (hL 8 (by decide));clear hT hL hC A9;simp only[TL.zaQ];go_frame;generalize f 17=g17;generalize f 18=g18;generalize f 19=g19;generalize f 20=g20;generalize f 21=g21;generalize f 22=g22;generalize f 23=g23;generalize f 24=g24;have A6:=(k1.block _ (z00 A4.out)).trans A4.out;have Al:=(k2.2.2.2.2 bY (z00 A6) (λe=>Ap e.symm)).trans A6;have B0:=(k1.block _ (z00 Ak.out)).trans Ak.out;have B3:Below wr.heap.size wr W4:=by
     refine(show Below wr.heap.size wr w3 by rw[Ao];exact Aj.out).trans (k1.mono ?_);have:=Aj.out.size;exact this
    have Ad:Hid (Below wr.heap.size wr (W0.setCell ⟨bY,1,none⟩ (.slice (some ⟨U,0,none⟩) F.length G))):=(Below.but B3 k2 (by omega)).setCell (p:=⟨bY,1,none⟩) (by show wr.heap.size<=bY;omega) _;have Br:Hid (z0x (W0.setCell ⟨bY,1,none⟩ (.slice (some ⟨U,0,none⟩) F.length G)) B1 (.slice la x.1.length A2) x.1):=by
     have h1:=zkz (z04 AU.out λg _ hg=>k1.block g (z00 hg)) k2 B0 (by decide);exact z0y h1 (z0e h1 Al (by decide)) 1 _
    have Bt:Hid (z0h (W0.setCell ⟨bY,1,none⟩ (.slice (some ⟨U,0,none⟩) F.length G)) B1 (.slice (some ⟨U,0,none⟩) F.length G) F):=z0y k3 (z0e k3 Al (by decide)) 1 _;have B5:=hid (qo W0 bY 1 _ _ (.slice (some ⟨U,0,none⟩) F.length G) Al);clear A6 Al B0 B3 k1 k2 k3 Aj AE A4 AU AV Ak AF x0 y1;generalize W0.setCell ⟨bY,1,none⟩ (.slice (some ⟨U,0,none⟩) F.length G)=W5 at*;have y0:W5.cell? ⟨bY,0,none⟩=some (.slice la x.1.length A2):=z01 _ _ _ _ B5.out 0 _ rfl;have y1:W5.cell? ⟨bY,1,none⟩=some (.slice (some ⟨U,0,none⟩) F.length G):=z01 _ _ _ _ B5.out 1 _ rfl;by_cases Au:0<F.length
    .have Bu:0<(F.length:Int):=by omega
     have Ae:Hid (HD.kp (BK.z4d goG gs) (S.take (i+1))=l++[(x.1,F)]):=by
      show _=_;rw[Ah.out,if_pos Au]
     have V:Below W5.heap.size W5 (W5.alloc (.cells #[.slice la x.1.length A2,.slice (some ⟨U,0,none⟩) F.length G] 93)):=(Below.refl _ W5).alloc (qq _) _;have B6:=qi A1.out.size (qi Ad.out.size V.size);obtain⟨pa,pc,W7,Ba,Bb,Bc,_⟩:=z3F (x.1,F) ((Aw.out.below Ad.out).below V) (z07 (z04 Br.out λg _ hg=>V.block g (z00 hg)) Aq) (z07 (z04 Bt.out λg _ hg=>V.block g (z00 hg)) Aq) (qu W5 _) (by omega) B6;have Af:=hid Bb;have AJ:=hid (((z0u A1.out (z0u Ad.out V))).trans Bc);clear Bb Bc V B6 Ah;go_wp2_with (at_builtin;refine Lib.wpList_append_run _ rfl _ _ _ _ rfl _ _ rfl rfl _ _ Ba ?_)
     go_wp2_with fail;go_roundw
     case rel=>exact⟨i+1,by omega,by go_num,AJ.out,by rw[Ae.out];exact Af.out⟩
     case measure=>simp[intOf];omega
    .have Bu:¬0<(F.length:Int):=by omega
     have Ae:Hid (HD.kp (BK.z4d goG gs) (S.take (i+1))=l):=by
      show _=_;rw[Ah.out,if_neg Au,List.append_nil]
     have AJ:=hid (z0u A1.out Ad.out);have Af:=hid (Aw.out.below Ad.out);clear Ah;go_wp2_with fail;go_roundw
     case rel=>exact⟨i+1,by omega,by go_num,AJ.out,by rw[Ae.out];exact Af.out⟩
     case measure=>simp[intOf];omega
  .have he:i=S.length:=by omega
   have AK:S.take i=S:=by rw[he];exact qD
   have Af:Hid (z0a wr w.heap.size (.slice va (HD.kp (BK.z4d goG gs) (S.take i)).length vc) (HD.kp (BK.z4d goG gs) S)):=by
    have:=Aw.out;rw[AK] at this ⊢;exact this
   subst he;go_wp2_with fail;go_ret;exact⟨_,rfl,Af.out,A1.out⟩
end
end Go.Proofs.YtemeblgngidldaaGreatDoor
