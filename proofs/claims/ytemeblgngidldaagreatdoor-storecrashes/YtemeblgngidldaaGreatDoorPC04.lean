/- Texts put together and made smaller by program: HdAppS CxGet HxAskS HdTakeS HdCutS BkGnS SxNumS SxStoS SoFill IxMapS DkMapS. -/
import Derived.Test.YtemeblgngidldaaGreatDoorPC03
import Derived.Maps.RangeWalk
import Derived.Maps.OwnOps
import Derived.Maps.OwnSet
import Derived.Maps.AppendAt
import Derived.Lib.AppendStr
set_option linter.unusedVariables false
set_option linter.unusedSimpArgs false
set_option maxRecDepth 100000
set_option maxHeartbeats 12800000
open And renaming intro->qv
open Bool renaming and_eq_true->qI,not_eq_true'->iH
open ByteArray renaming empty->qy
open Go renaming TypeId->qn,Ending->rO,heap_setCell_same->qo,heap_alloc_new->qu,callFunc->ux,Program->rM,maxLen->qS,Operand->r9,wpList->eG
open Go.Addr renaming add_lit->qP
open Go.Builtin renaming delete_->yc
open Go.ChangeMaps renaming setBlock->yt
open Go.DataW renaming held->uI
open Go.DataW.held renaming inj->wF
open Go.Instr renaming lookup->iE
open Go.Lib renaming wpList_append_run->qB
open Go.Lit renaming sameKey->yD
open Go.Lit.string renaming injEq->pP
open Go.Proofs renaming enters_of->iw
open Go.Value.slice renaming injEq->eC
open Go.WideMaps renaming keyOf_string_mk->ep
open Go.WideShapes renaming sorted_perm->pT
open Go.World renaming grownBy_alloc->eZ
open Int renaming le_refl->eL
open List renaming any_eq_true->ya,mem_iff_getElem->eI,getD_eq_getElem?_getD->q7,getElem?_eq_getElem->qw,length_append->q8,length_cons->qf,length_nil->qO,append_nil->tB,length_take->qb,take_length->qD,pairwise_iff_getElem->qV,getElem_mem->qK,exists_mem_of_length_pos->rG,length_pos_of_mem->uN,mem_filter->wE,pairwise_map->eX,mem_cons_self->qd,mem_cons_of_mem->qp,pairwise_cons->ql,foldl_cons->yn,mem_cons->qg,mem_append->wu,mem_map->qx,mem_singleton->qk,pairwise_append->rq,pairwise_singleton->rQ,mem_insertIdx->tH,range->qN,length_drop->wI,mem_of_mem_drop->uq,mem_of_mem_take->rE,getElem?_take_of_lt->uJ
open List.Pairwise renaming nil->yd,filter->ow,imp_of_mem->pe
open Nat renaming le_trans->qi,lt_of_lt_of_le->qe,zero_le->qh,le_refl->qq,zero_add->qT,sub_self->ot
open Option.some renaming inj->qt,injEq->qR
open Or renaming inr->wV,inl->ew
open Prod renaming fst->y5
open Go.Proofs.Tryz renaming prog->q6
open Go.Proofs.Tryz
namespace Go.Proofs.YtemeblgngidldaaGreatDoor
section
open Go.RowKit
def Zs (xs:List (Value×Value))(S:List Sr):Nat->Prop:=λj=>∃k,k<S.length/\(atX xs k).2.ownBlock=some j
structure ASt (w wr:World) (nb:Nat) (mark:Int) (S:List Sr) (xs:List (Value×Value)) (l:List Sr) (i:Nat) (Sj:List Sr) (vj:Value) (xsj:List (Value×Value)):Prop where
 good:HD.Good Sj
 run:HD.run mark S l 0=HD.run mark Sj (l.drop i) i
 hx:HdX wr nb mark Sj vj xsj
 nbn:w.heap.size<=nb
 rown:∀g,vj.ownBlock=some g->w.heap.size<=g
 smb:∀k,k<Sj.length->∀g,(atX xsj k).2.ownBlock=some g->Zs xs S g\/w.heap.size<=g
 fr:ZFr (Zs xs S) w wr
 old:∀k,k<S.length->z0h wr 0 (atX xs k).2 (z03 S k).2/\Und (atX xs k).2 (z03 S k).2.length xsj Sj
theorem ASt.below {w wr q:World}{nb:Nat}{mark:Int}{S:List Sr}{xs:List (Value×Value)}{l:List Sr}{i:Nat}{J:List Sr}{O:Value}{G:List (Value×Value)}(h:ASt w wr nb mark S xs l i J O G)(k:Below wr.heap.size wr q):ASt w q nb mark S xs l i J O G:=
 ⟨h.good,h.run,h.hx.below k,h.nbn,h.rown,h.smb,h.fr.trans (ZFr.below k),λj U=>⟨z04 (h.old j U).1 λg _ V=>k.block g (z00 V),(h.old j U).2⟩⟩
theorem ASt.step {w wr w':World}{nb:Nat}{mark:Int}{S:List Sr}{xs:List (Value×Value)}{l:List Sr}{i:Nat}{q:List Sr}{V v':Value}{U G:List (Value×Value)}(h:ASt w wr nb mark S xs l i q V U)(hi:i<l.length)(Y:HD.err mark q (z03 l i)=0)(hR:∀s∈(z03 l i).2,CL.Rs s)
  (hx:HdX w' nb mark (HD.nxt q (z03 l i)) v' G) (hf:z6H nb q (HD.nxt q (z03 l i)) V v' U G wr w'):ASt w w' nb mark S xs l (i+1) (HD.nxt q (z03 l i)) v' G where
 good:=HD.z8R h.good Y hR
 run:=by rw[h.run,HD.zcG mark q l i hi,if_pos Y]
 hx:=hx
 nbn:=h.nbn
 rown g hg:=by
  rcases hf.row with e|⟨g',e,J⟩
  .exact h.rown g (by rw[<-e];exact hg)
  .rw[e] at hg;cases hg;exact qi h.fr.size J
 smb k O g hg:=by
  rcases hf.smps k O with⟨k',h1,h2⟩|⟨g',e,J⟩
  .exact h.smb k' h1 g (by rw[<-h2];exact hg)
  .rw[e] at hg;cases hg;exact .inr (qi h.fr.size J)
 fr:=⟨hf.os.trans h.fr.os,hf.tape.trans h.fr.tape,hf.output.trans h.fr.output,qi h.fr.size hf.size,λj hj hn=>by
  have A1:=h.nbn;refine(hf.block j (qe hj h.fr.size) (by omega) (λe=>by have:=h.rown j e;omega) (λk O e=>?_)).trans (h.fr.block j hj hn);rcases h.smb k O j e with e2|e2
  .exact hn e2
  .omega⟩
 old k O:=hf.keeps _ _ _ (h.old k O).1 (h.old k O).2
theorem ASt.keep {w wr:World}{hb nb:Nat}{mark:Int}{S:List Sr}{v:Value}{xs:List (Value×Value)}{l:List Sr}{i:Nat}{U:List Sr}{V:Value}{J:List (Value×Value)}(h:ASt w wr nb mark S xs l i U V J)(h0:HdX w hb mark S v xs):HdX wr hb mark S v xs:=by
 have key:∀{g:Nat} {c:Array Value} {e:qn},w.heap[g]? =some (.cells c e)->e≠98->wr.heap[g]? =w.heap[g]? :=λ{g c e} q O=>h.fr.block g (z00 q) (λ⟨k,G,Y⟩=>z0e (h0.smps k G) q (λe2=>O e2.symm) Y)
 exact⟨(key h0.box (by decide)).trans h0.box,h0.len,z04 h0.row (λg c q=>key q (by decide)),λk G=>z04 (h0.labs k G) (λg c q=>key q (by decide)),λk G=>(h.old k G).1,h0.apart⟩
def zgE (w:World)(c:Int×Int)(h:Value):Prop:=
 (c=(0, -1)/\h= .nilIface)\/(c=(4, -1)/\h= .iface 56 (.int .i64 4))\/
 (0<=c.2/\c.1≠0/\∃p,h= .iface 168 (.pointer (some ⟨p,0,none⟩))/\w.heap[p]? =some (.cells #[.int .i64 c.1,.int .i64 c.2] 170))
def zhD (hb:Nat)(Z:Nat->Prop)(mark:Int)(S l:List Sr)(w:World)(e:rO)(w':World):Prop:=
 (∃ev,e= .returned ev/\zgE w' (HD.app mark S l).1 ev)/\HdI w' hb (wid Z w w') mark (HD.app mark S l).2/\ZFr Z w w'
theorem HdI.stays {w w':World}{hb:Nat}{Z:Nat->Prop}{mark:Int}{S:List Sr}{v:Value}{xs:List (Value×Value)}(h:HdX w' hb mark S v xs)(G:∀i,i<S.length->∀g,(atX xs i).2.ownBlock=some g->Z g)(q:Z hb)(J:∀j,Z j->j<w.heap.size)(O:w.heap.size<=w'.heap.size):HdI w' hb (wid Z w w') mark S:=
 ⟨⟨v,xs,h,λi hi g U=> .inl (G i hi g U)⟩,.inl q,λj V=>by
  rcases V with e|e
  .exact qe (J j e) O
  .exact e.2⟩
theorem ASt.refused {w wr w':World}{hb nb:Nat}{Z:Nat->Prop}{mark:Int}{S:List Sr}{v:Value}{xs:List (Value×Value)}{l:List Sr}{i:Nat}{G:List Sr}{vj:Value}{O:List (Value×Value)}(h:ASt w wr nb mark S xs l i G vj O)(h0:HdX w hb mark S v xs)(Y:∀i,i<S.length->∀g,(atX xs i).2.ownBlock=some g->Z g)(U:Z hb)(hl:∀j,Z j->j<w.heap.size)
  (hi:i<l.length) (he:HD.err mark G (z03 l i)≠0) (ht:¬40<HD.total l) (V:Below wr.heap.size wr w') {p:Nat} (hp:w'.heap[p]? =some (.cells #[.int .i64 (HD.err mark G (z03 l i)),.int .i64 i] 170)):
  zhD hb Z mark S l w (.returned (.iface 168 (.pointer (some ⟨p,0,none⟩)))) w':=by
 have J:HD.run mark S l 0=(some (HD.err mark G (z03 l i),i),G):=by rw[h.run,HD.zcG mark G l i hi,if_neg he]
 have q:HD.app mark S l=((HD.err mark G (z03 l i),(i:Int)),S):=by
  unfold HD.app;rw[if_neg ht,J]
 have h2:=h.below V;refine⟨⟨_,rfl,?_⟩,?_,?_⟩
 .rw[q];exact .inr (.inr ⟨by simp,he,p,rfl,hp⟩)
 .rw[q];exact HdI.stays (h2.keep h0) Y U hl h2.fr.size
 .exact⟨h2.fr.os,h2.fr.tape,h2.fr.output,h2.fr.size,λj hj hn=>h2.fr.block j hj (λ⟨k,hk,e⟩=>hn (Y k hk j e))⟩
theorem ASt.came {w wr:World}{hb nb:Nat}{Z:Nat->Prop}{mark:Int}{S:List Sr}{v:Value}{xs:List (Value×Value)}{l:List Sr}{i:Nat}{Sj:List Sr}{G:Value}{U:List (Value×Value)}(h:ASt w wr nb mark S xs l i Sj G U)(h0:HdX w hb mark S v xs)(hz:∀i,i<S.length->∀g,(atX xs i).2.ownBlock=some g->Z g)(V:Z hb)(hl:∀j,Z j->j<w.heap.size)
  (hi:i=l.length) (ht:¬40<HD.total l):zhD hb Z mark S l w (.returned .nilIface) (wr.setCell ⟨hb,1,none⟩ G):=by
 have Y:HD.run mark S l 0=(none,Sj):=by rw[h.run,hi,List.drop_length];rfl
 have J:HD.app mark S l=((0, -1),Sj):=by
  unfold HD.app;rw[if_neg ht,Y]
 have A1:wr.heap[hb]? =some (.cells #[.int .i64 mark,v] 165):=(h.keep h0).box;have q:∀{e:qn} {u:Value} {m:Nat} {ys:List Value},wr.ownsRow 0 e 2 u m ys->e≠165->(wr.setCell ⟨hb,1,none⟩ G).ownsRow 0 e 2 u m ys:=λhh A2=>z0y hh (z0e hh A1 A2) _ _
 refine⟨⟨_,rfl,?_⟩,?_,?_⟩
 .rw[J];exact .inl ⟨rfl,rfl⟩
 .rw[J];have hx:HdX (wr.setCell ⟨hb,1,none⟩ G) hb mark Sj G U:=⟨qo wr hb 1 _ _ G A1,h.hx.len,q h.hx.row (by decide),λk O=>q (h.hx.labs k O) (by decide),λk O=>q (h.hx.smps k O) (by decide),h.hx.apart⟩;refine⟨⟨G,U,hx,λk O g hg=>?_⟩,.inl V,λj hj=>?_⟩
  .rcases h.smb k O g hg with⟨k',A3,e⟩|e
   .exact .inl (hz k' A3 g e)
   .exact .inr ⟨e,by rw[z0g];exact((h.hx.smps k O).lt g hg).2⟩
  .rcases hj with e|e
   .rw[z0g];exact qe (hl j e) h.fr.size
   .exact e.2
 .refine⟨h.fr.os,h.fr.tape,h.fr.output,by rw[z0g];exact h.fr.size,λj hj hn=>?_⟩;rw[Below.heap_setCell wr ⟨hb,1,none⟩ G j (λe=>hn (by rw[e];exact V))];exact h.fr.block j hj (λ⟨k,O,e⟩=>hn (hz k O j e))
theorem zaI (b k:Nat)(n:Int)(w:World)(h:w.cell? ⟨b,k,none⟩=some (.int .i64 n)):(Instr.loadAt 2 (.pointer (some ⟨b,k,none⟩))).run q6 w= .ok (.int .i64 n) w:=by
 have q:(q6.info? 2).map (·.size)=some 1:=by kernel_rfl
 go_simp
theorem zeh {w:World}{v:Value}{n:Nat}{xs:List Value}(h:w.ownsRow 0 93 2 v n xs)(U:∀u∈xs,u.oneCell'=true)(V:n<=1000000):
  Calls q6 101 #[v] w λO w'=>∃v',O= .returned v'/\w'.ownsRow w.heap.size 93 2 v' n xs/\Below w.heap.size w w':=by
 rcases h.2 with⟨q,G⟩|⟨g,cap,Y,q,_,hc,_⟩
 .subst q G;refine(zbI w).mono ?_;rintro O w' ⟨rfl,rfl⟩;exact⟨_,rfl,⟨h.1,.inl ⟨rfl,rfl⟩⟩,Below.refl _ _⟩
 .have J:=h.cells (g:=g) (by rw[q];rfl);subst q;exact zmb ⟨g,0,none⟩ n cap xs w h.1 J (z00 hc) U V
theorem z2F (hb:Nat)(Z:Nat->Prop)(mark:Int)(S l:List Sr)(ao:Option Addr)(cap:Nat)(w:World)(hI:HdI w hb Z mark S)(hG:HD.Good S)(hL:z0z w Z ao l)(hl:l.length<=1000)(Ai:∀i,i<l.length->(z03 l i).1.length<=1000/\(z03 l i).2.length<=1000)(hR:∀i,i<l.length->∀s∈(z03 l i).2,CL.Rs s):
  Calls q6 51 #[.pointer (some ⟨hb,0,none⟩),.slice ao l.length cap] w λe w'=>zhD hb Z mark S l w e w':=by
 obtain⟨⟨v,xs,hX,hz⟩,Aj,Ak⟩:=hI;have HX:=hid hX;have HZ:=hid (qv hz (qv Aj Ak));have HG:=hid hG;have HL:=hid hL;have Al:=hid Ai;have HR:=hid hR;have AV:hb<w.heap.size:=z00 hX.box;have AW:(Value.pointer (some ⟨hb,0,none⟩):Value)≠ .pointer none:=by simp
 clear hX hz Aj Ak hG hL Ai hR;go_enter func51,ntmps51;go_wp2_with fail;refine(zb7 ao l cap w HL.out.row hl (λi hi=>(Al.out i hi).2)).mono ?_;rintro e w1 ⟨rfl,Am⟩;have Y:=hid Am;clear Am;by_cases ht:40<HD.total l
 .have A1:decide (40<HD.total l)=true:=decide_eq_true ht;have HT:=hid ht;rw[A1];clear ht A1;go_wp2_with fail;go_ret;have A6:HD.app mark S l=((4, -1),S):=by unfold HD.app;rw[if_pos HT.out]
  refine⟨⟨_,rfl,?_⟩,?_,ZFr.below Y.out⟩
  .rw[A6];exact .inr (.inl ⟨rfl,rfl⟩)
  .rw[A6];exact HdI.stays (HX.out.below Y.out) HZ.out.1 HZ.out.2.1 HZ.out.2.2 Y.out.size
 .have A1:decide (40<HD.total l)=false:=decide_eq_false ht;have HT:=hid ht;rw[A1];clear ht A1;go_wp2_with fail;have V:=HX.out.below Y.out;obtain⟨J,q,Ao⟩:=z02 V.row;have AX:=hid Ao;subst Ao;refine z0l (λW=>W.heap[hb]? =some (.cells #[.int .i64 mark,.slice J S.length q] 165)) [0,1,2,3,4,5,6,7] [8,9,10,11] (by kernel_rfl) (by kernel_rfl) ?_;simp only[List.filterMap_cons,List.filterMap_nil,List.getElem?_toArray,List.getElem?_cons_zero,List.getElem?_cons_succ];refine zr0.on (v:= .pointer (some ⟨hb,0,none⟩)) (YC.move rfl (by kernel_rfl)) (zr0.on (v:= .pointer (some ⟨hb,0,none⟩)) (λW _=> .inl (by kernel_rfl)) (zr0.on (v:= .pointer (some ⟨hb,0,none⟩)) (λW _=> .inl (by kernel_rfl)) (zr0.on (YC.load rfl (by kernel_rfl) λW hW=>zaI hb 0 mark W (z01 W hb _ _ hW 0 _ rfl)) (zr0.on (v:= .pointer (some ⟨hb,0,none⟩)) (YC.move rfl (by kernel_rfl)) (zr0.on (v:= .pointer (some ⟨hb,0,none⟩)) (λW _=> .inl (by kernel_rfl)) (zr0.on (v:= .pointer (some ⟨hb,1,none⟩)) (λW _=> .inl (by kernel_rfl)) (zr0.on (YC.load rfl (by kernel_rfl) λW hW=>za1 hb 1 J S.length q W (z01 W hb _ _ hW 1 _ rfl)) ?_)))))));refine zr0.off (C:=λW=>W.heap[hb]? =some (.cells #[.int .i64 mark,.slice J S.length q] 165)) V.box ?_;go_frame;go_wp2_with fail;refine(zeh (w:=w1.drew) (z2L V.row rfl) V.one (by have:=HG.out.few;omega)).mono ?_;rintro en w2 ⟨v2,rfl,A8,A9⟩;have O:=(A9.block hb (z00 V.box)).trans V.box;obtain⟨A2,U,e2⟩:=z02 A8;subst e2;have Ac:=hid A8;have Ad:=hid (z0u Y.out.drew A9);clear A9 A8 V;go_wp2_with fail;refine z0F.on (C:=λW=>W.heap[hb]? =some (.cells #[.int .i64 mark,.slice J S.length q] 165)) O ?_;go_wp2_with fail;refine z0F.on (C:=λW=>W.heap[hb]? =some (.cells #[.int .i64 mark,.slice J S.length q] 165)) O ?_;go_wp2_with fail;have A3:=(Below.heap_alloc w2 (.cells #[.int .i64 mark,.slice A2 S.length U] 165) hb (z00 O)).trans O
  refine z0F.on (C:=λW=>W.heap[hb]? =some (.cells #[.int .i64 mark,.slice J S.length q] 165)) A3 ?_;go_wp2_with fail;refine z0F.done (C:=λW=>W.heap[hb]? =some (.cells #[.int .i64 mark,.slice J S.length q] 165)) A3 ?_;have A4:ASt w (w2.alloc (.cells #[.int .i64 mark,.slice A2 S.length U] 165)) w2.heap.size mark S xs l 0 S (.slice A2 S.length U) xs:=by
   have Ap:Below w.heap.size w (w2.alloc (.cells #[.int .i64 mark,.slice A2 S.length U] 165)):=Ad.out.alloc Ad.out.size _;have h3:=HX.out.below Ap;refine⟨HG.out,rfl,⟨qu w2 _,h3.len,z07 (Ac.out.alloc _) (qh _),h3.labs,h3.smps,h3.apart⟩,Ad.out.size,λg hg=>?_,λk hk g hg=> .inl ⟨k,hk,hg⟩,ZFr.below Ap,λk hk=>⟨h3.smps k hk,λi hi g h1 h2=>?_⟩⟩
   .exact qi Y.out.size (Ac.out.lt g hg).1
   .by_cases e:i=k
    .rw[e];exact qq _
    .exact absurd (h2.trans h1.symm) (h3.apart i k hi hk e)
  clear O A3 Ac;generalize AH:w2.alloc (.cells #[.int .i64 mark,.slice A2 S.length U] 165)=w3 at*;generalize AJ:w2.heap.size=nb at*;have Aq:=hid A4;clear A4 AH AJ;go_wp2_with fail;go_loopw [28] (λti wr=>∃(i:Nat) (Sj:List Sr) (vj:Value) (Ae:List (Value×Value)),i<=l.length/\ti= .int .i64 i/\ASt w wr nb mark S xs l i Sj vj Ae) (λti _=>l.length-(intOf ti).toNat)
  case atStart=>exact⟨0,S,_,xs,qh _,rfl,Aq.out⟩
  case round=>
   obtain⟨i,Sj,vj,Ae,hi,rfl,A4⟩:=hrel;have HSt:=hid A4;clear A4 Aq;by_cases A5:i<l.length
   .have Ar:∀j,Zs xs S j->Z j:=λj ⟨k,hk,e⟩=>HZ.out.1 k hk j e
    have A7:ZFr Z w wr:=⟨HSt.out.fr.os,HSt.out.fr.tape,HSt.out.fr.output,HSt.out.fr.size,λj hj hn=>HSt.out.fr.block j hj (λe=>hn (Ar j e))⟩;obtain⟨b,off,AK,AY,_,lo,lc,so,sc,AZ,B0,Au,Av⟩:=HL.out.kept A7 i A5;subst AK;obtain⟨AL,AM⟩:=Al.out i A5;have Af:=HR.out i A5;have h:Below wr.heap.size wr (wr.alloc (.cells #[.slice lo (z03 l i).1.length lc,.slice so (z03 l i).2.length sc] 93)):=(Below.refl _ wr).alloc (qq _) _;have HC:=hid (zj0 nb mark Sj vj Ae (z03 l i) lo so lc sc _ (HSt.out.hx.below h) HSt.out.good (Au.1.below h) (Av.1.below h) Af AL AM);have Aw:=hid (HSt.out.below h);have Ax:=hid h;have B3:0<=(i:Int)/\(i:Int)<(l.length:Int):=by omega
    clear Au Av A7 Ar h;generalize AO:(z03 l i).1.length=ln at*;generalize AP:(z03 l i).2.length=sn at*;have AQ:=hid Af;clear Af AO AP;by_cases he:HD.err mark Sj (z03 l i)=0
    .have Ay:=hid he;clear he;go_wp2_with fail;refine HC.out.mono ?_;intro en w4 G;unfold z1p at G;rw[if_pos Ay.out] at G;obtain⟨rfl,v4,AR,Az,AA⟩:=G;have AB:=hid (Aw.out.step A5 Ay.out AQ.out Az AA);clear Az AA HC;go_wp2_with fail;go_roundw
     case rel=>exact⟨i+1,_,v4,AR,by omega,by go_num,AB.out⟩
     case measure=>simp[intOf];omega
    .generalize AC:HD.err mark Sj (z03 l i)=ev at*;have Ag:=hid AC;have B5:(ev==0)=false:=by simpa using he
     clear AC;go_wp2_with fail;refine HC.out.mono ?_;intro en w4 G;unfold z1p at G;rw[Ag.out,if_neg he] at G;obtain⟨rfl,AD⟩:=G;have AE:=hid AD;clear AD HC;go_wp2_with fail;go_ret;have h5:=(z0u Ax.out AE.out).alloc (o:= .cells #[.int .i64 ev,.int .i64 i] 170) (qi Ax.out.size AE.out.size);exact HSt.out.refused HX.out HZ.out.1 HZ.out.2.1 HZ.out.2.2 A5 (by rw[Ag.out];exact he) HT.out h5 (by rw[Ag.out];exact qu w4 _)
   .have he:i=l.length:=by omega
    have HE:=hid he;have Ah:=(HSt.out.keep HX.out).box;have AF:=HSt.out.hx.box;obtain⟨AU,AG,ej⟩:=z02 HSt.out.hx.row;subst ej;have n1:wr.cell? ⟨nb,1,none⟩=some (.slice AU Sj.length AG):=z01 _ _ _ _ AF 1 _ rfl;have n2:wr.cell? ⟨hb,1,none⟩=some (.slice J S.length q):=z01 _ _ _ _ Ah 1 _ rfl;have n3:wr.frozen? ⟨hb,1,none⟩=false:=hfz Ah 1;clear Ah AF;go_wp2_with fail;go_ret;exact HSt.out.came HX.out HZ.out.1 HZ.out.2.1 HZ.out.2.2 HE.out HT.out
end
section
open Go.RowKit
theorem ziC (ao:Option Addr)(l:List LB.Lab)(cap:Nat)(n:ByteArray)(w:World)(hL:z1w w ao l)(hl:l.length<=140737488351232):
  Calls q6 186 #[.slice ao l.length cap,.string n] w λe w'=>e= .returned (.string (LB.get l n))/\Below w.heap.size w w':=by
 generalize hB:LB.get l n=B;have HB:=hid hB;have HL:=hid hL;clear hB hL;go_enter func186,ntmps186;go_wp2;go_loopw [9] (λti wr=>∃i:Nat,i<=l.length/\ti= .int .i64 i/\Below w.heap.size w wr/\∀j,j<i->(LB.at' l j).1≠n) (λti _=>l.length-(intOf ti).toNat)
 case atStart=>exact⟨0,by omega,rfl,Below.refl _ _,by omega⟩
 case round=>
  obtain⟨i,hi,rfl,q,U⟩:=hrel;have HO:=hid U;have G:=hid q;have Y:=q.size;clear U q;by_cases A1:i<l.length
  .obtain⟨b,off,A7,A2,A3,A4⟩:=HL.out i A1;subst A7;have A5:=(G.out.cell (p:=⟨b,off+i*2,none⟩) A4).trans A2;have A6:=(G.out.cell (p:=⟨b,off+i*2+1,none⟩) A4).trans A3;clear A2 A3;have HA:Hid ((LB.at' l i).1=n->B=(LB.at' l i).2):=λh=>by rw[<-HB.out];exact LB.zgK l n i A1 HO.out h
   have HN:Hid ((LB.at' l i).1≠n->∀j,j<i+1->(LB.at' l j).1≠n):=λh j hj=>by
    by_cases J:j=i
    .subst J;exact h
    .exact HO.out j (by omega)
   generalize hN:(LB.at' l i).1=N at*;generalize hV:(LB.at' l i).2=V at*;by_cases J:N=n
   .have hq:(N.toList==n.toList)=true:=by rw[LB.beq_eq];exact decide_eq_true J
    have O:=HA.out J;clear J HA HN hN hV;have O:=hid O;go_wp2;go_ret;exact⟨zeW O.out.symm,G.out.alloc Y _⟩
   .have hq:(N.toList==n.toList)=false:=by rw[LB.beq_eq];exact decide_eq_false J
    have O:=hid (HN.out J);clear J HA HN hN hV;go_wp2;go_roundw
    case rel=>exact⟨i+1,by omega,by go_num,G.out.alloc Y _,O.out⟩
    case measure=>simp[intOf];omega
  .have J:i=l.length:=by omega
   have O:Hid (B=qy):=by
    show _=_;rw[<-HB.out];exact LB.get_none l n (λj hj=>HO.out j (by omega))
   subst J;go_wp2;go_ret;exact⟨zeW O.out.symm,G.out⟩
end
section
open Go.RowKit Go.Shelf
abbrev mv (x:LB.Mat):Value:= .agg #[.string x.nm,.int .i64 x.op,.string x.vl]
theorem z8H (ao:Option Addr)(m:List LB.Mat)(cap g:Nat)(lb:Array Value)(P:LB.Mat->Bool)(w:World)(hM:z3s w ao m)(hl:m.length<=1000)
  (eg:∀args w,(ux g args).run q6 w= .ok (.enter g args) w)
  (G:∀W,Below w.heap.size w W->∀x∈m,Calls q6 g (#[mv x]++lb) W λe w'=>e= .returned (.bool (P x))/\Below W.heap.size W w'):
  Calls q6 137 #[.slice ao m.length cap,.func (.func g) #[] lb] w λe w'=>∃n:Int,e= .returned (.int .i64 n)/\decide (0<=n)=m.any P/\Below w.heap.size w w':=by
 generalize hB:m.any P=B;have HB:=hid hB;have HM:=hid hM;have A8:=hid G;clear hB hM G;go_enter func137,ntmps137;go_wp2;go_loopw [8] (λti wr=>∃i:Nat,i<=m.length/\ti= .int .i64 i/\Below w.heap.size w wr/\∀j,j<i->P (LB.am m j)=false) (λti _=>m.length-(intOf ti).toNat)
 case atStart=>exact⟨0,by omega,rfl,Below.refl _ _,by omega⟩
 case round=>
  obtain⟨i,hi,rfl,J,V⟩:=hrel;have HO:=hid V;have q:=hid J;have A9:=J.size;clear V J;by_cases O:i<m.length
  .obtain⟨b,off,Ac,Y,A1,A2,U⟩:=HM.out i O;subst Ac;have A5:=(q.out.cell (p:=⟨b,off+i*3,none⟩) U).trans Y;have A6:=(q.out.cell (p:=⟨b,off+i*3+1,none⟩) U).trans A1;have A7:=(q.out.cell (p:=⟨b,off+i*3+2,none⟩) U).trans A2;clear Y A1 A2;have HC:=hid (A8.out wr q.out (LB.am m i) (LB.zkk m i O));have HT:Hid (P (LB.am m i)=true->B=true):=λh=>by
    rw[<-HB.out,ya];exact⟨_,LB.zkk m i O,h⟩
   have HN:Hid (P (LB.am m i)=false->∀j,j<i+1->P (LB.am m j)=false):=λh j hj=>by
    by_cases he:j=i
    .subst he;exact h
    .exact HO.out j (by omega)
   generalize LB.am m i=x at*;obtain⟨nm,op,vl⟩:=x;go_wp2_with fail;refine HC.out.mono ?_;rintro e w2 ⟨rfl,A3⟩;have A4:=hid (q.out.trans (A3.mono A9));clear A3 HC;cases hp:P ⟨nm,op,vl⟩ with
   | true=>
    have HE:=hid (HT.out hp);clear HT HN;go_wp2_with fail;go_ret;refine⟨i,rfl,?_,A4.out⟩;rw[HE.out];exact decide_eq_true (by omega)
   | false=>
    have HE:=hid (HN.out hp);clear HT HN;go_wp2_with fail;go_roundw
    case rel=>exact⟨i+1,by omega,by go_num,A4.out,HE.out⟩
    case measure=>simp[intOf];omega
  .have he:i=m.length:=by omega
   have HE:Hid (B=false):=by
    show _=_;rw[<-HB.out,List.any_eq_false];intro x hx;obtain⟨j,hj,rfl⟩:=eI.1 hx;have:=HO.out j (by omega);unfold LB.am at this;rw[q7,qw hj] at this;simpa using this
   subst he;go_wp2;go_ret;refine⟨-1,rfl,?_,q.out⟩;rw[HE.out];rfl
theorem z2W (G:Option Addr)(m:List LB.Mat)(cap g:Nat)(lb:Array Value)(P:LB.Mat->Bool)(w:World)(O:z3s w G m)(hl:m.length<=1000)
  (U:∀args w,(ux g args).run q6 w= .ok (.enter g args) w)
  (h:∀W,Below w.heap.size w W->∀x∈m,Calls q6 g (#[mv x]++lb) W λe w'=>e= .returned (.bool (P x))/\Below W.heap.size W w'):
  Calls q6 82 #[.slice G m.length cap,.func (.func g) #[] lb] w λe w'=>e= .returned (.bool (m.any P))/\Below w.heap.size w w':=by
 have V:=hid (z8H G m cap g lb P w O hl U h);clear O h U;generalize m.any P=B at*;go_enter func82,ntmps82;go_wp2_with fail;refine V.out.mono ?_;rintro e w2 ⟨n,rfl,Y,q⟩;have J:=hid q;have HN:=hid Y;clear q Y V;go_wp2_with fail;go_ret;exact⟨z05 HN.out,J.out⟩
theorem zgc {α:Type}(l:List α)(p:α->Bool):(!l.any λx=> !p x)=l.all p:=by
 induction l with
 | nil=>rfl
 | cons x l ih=>simp only[List.any_cons,List.all_cons,Bool.not_or,Bool.not_not,ih]
theorem zbq (v x:ByteArray)(w:World):Calls q6 133 #[.string v,.string x] w λe w'=>e= .returned (.bool (LB.begins v x))/\w'=w:=by
 by_cases h:x.size<=v.size
 .have G:(x.size:Int)<=(v.size:Int):=by omega
  have q:Hid (LB.begins v x=((v.extract 0 x.size).toList==x.toList)):=by
   show _=_;rw[LB.beq_eq,LB.begins,decide_eq_true h];rfl
  generalize LB.begins v x=B at*;go_enter func133,ntmps133;go_wp2_with fail;go_ret;exact⟨z05 q.out.symm,rfl⟩
 .have G:¬(x.size:Int)<=(v.size:Int):=by omega
  have q:Hid (LB.begins v x=false):=by
   show _=_;rw[LB.begins,decide_eq_false h];rfl
  generalize LB.begins v x=B at*;go_enter func133,ntmps133;go_wp2_with fail;go_ret;exact⟨z05 q.out.symm,rfl⟩
theorem z7X (v x:ByteArray)(w:World):Calls q6 76 #[.string v,.string x] w λe w'=>e= .returned (.bool (LB.begins v x))/\w'=w:=by
 go_enter func76,ntmps76;go_wp2_with fail;refine(zbq v x _).mono ?_;rintro e h ⟨rfl,rfl⟩;go_wp2_with fail;go_ret;exact⟨rfl,rfl⟩
theorem zl6 (ao:Option Addr)(l:List LB.Lab)(cap:Nat)(x:LB.Mat)(w:World)(hL:z1w w ao l)(hl:l.length<=1000):
  Calls q6 144 #[.slice ao l.length cap,mv x] w λe w'=>e= .returned (.bool (LB.one l x))/\Below w.heap.size w w':=by
 have O:Hid (LB.one l x=if x.op=0 then decide (LB.get l x.nm=x.vl) else if x.op=1 then !decide (LB.get l x.nm=x.vl) else if x.op=2 then LB.begins (LB.get l x.nm) x.vl else if x.op=3 then !LB.begins (LB.get l x.nm) x.vl else false):=rfl;generalize LB.one l x=B at*;obtain⟨nm,op,vl⟩:=x;simp only at O;have hG:=ziC ao l cap nm (w.alloc (.cells #[.string nm,.int .i64 op,.string vl] 62)) (hL.below ((Below.refl _ w).alloc (qq _) _)) (by omega);have HG:=hid hG;clear hG hL;generalize LB.get l nm=G at*;have U:=LB.beq_eq G vl;go_enter func144,ntmps144;go_wp2_with fail;refine HG.out.mono ?_;rintro e w2 ⟨rfl,q⟩;have h:=hid (((Below.refl _ w).alloc (qq _) (.cells #[.string nm,.int .i64 op,.string vl] 62)).trans (q.mono (by simp)));have A1:w2.cell? ⟨w.heap.size,1,none⟩=some (.int .i64 op):=(q.cell (p:=⟨w.heap.size,1,none⟩) (by simp)).trans (by simp);have A2:w2.cell? ⟨w.heap.size,2,none⟩=some (.string vl):=(q.cell (p:=⟨w.heap.size,2,none⟩) (by simp)).trans (by simp);clear q HG;have V:=hid U;clear U;by_cases Y:op=0
 .subst Y;have J:Hid (B=(G.toList==vl.toList)):=by show _=_;rw[O.out,if_pos rfl,V.out]
  go_wp2_with fail;go_ret;exact⟨z05 J.out.symm,h.out⟩
 .have A3:(op==0)=false:=by rw[beq_eq_false_iff_ne];exact Y
  by_cases h1:op=1
  .subst h1;have J:Hid (B= !(G.toList==vl.toList)):=by show _=_;rw[O.out,if_neg (by omega),if_pos rfl,V.out]
   go_wp2_with fail;go_ret;exact⟨z05 J.out.symm,h.out⟩
  .have A4:(op==1)=false:=by rw[beq_eq_false_iff_ne];exact h1
   by_cases h2:op=2
   .subst h2;have J:Hid (B=LB.begins G vl):=by show _=_;rw[O.out,if_neg (by omega),if_neg (by omega),if_pos rfl]
    go_wp2_with fail;refine(z7X G vl _).mono ?_;rintro e w3 ⟨rfl,rfl⟩;go_wp2_with fail;go_ret;exact⟨z05 J.out.symm,h.out⟩
   .have A5:(op==2)=false:=by rw[beq_eq_false_iff_ne];exact h2
    by_cases h3:op=3
    .subst h3;have J:Hid (B= !LB.begins G vl):=by show _=_;rw[O.out,if_neg (by omega),if_neg (by omega),if_neg (by omega),if_pos rfl]
     go_wp2_with fail;refine(z7X G vl _).mono ?_;rintro e w3 ⟨rfl,rfl⟩;go_wp2_with fail;go_ret;exact⟨z05 J.out.symm,h.out⟩
    .have A6:(op==3)=false:=by rw[beq_eq_false_iff_ne];exact h3
     have J:Hid (B=false):=by show _=_;rw[O.out,if_neg Y,if_neg h1,if_neg h2,if_neg h3]
     clear Y h1 h2 h3;go_wp2_with fail;go_ret;exact⟨z05 J.out.symm,h.out⟩
theorem zjx (q:Option Addr)(l:List LB.Lab)(cap B:Nat)(x:LB.Mat)(w:World)(J:z1w w q l)(U:l.length<=1000)(V:w.cell? ⟨B,0,none⟩=some (.slice q l.length cap))(Y:B<w.heap.size):
  Calls q6 143 #[mv x,.pointer (some ⟨B,0,none⟩)] w λe w'=>e= .returned (.bool (!LB.one l x))/\Below w.heap.size w w':=by
 have O:=hid (zl6 q l cap x (w.alloc (.cells #[.string x.nm,.int .i64 x.op,.string x.vl] 62)) (J.below ((Below.refl _ w).alloc (qq _) _)) U);clear J;generalize LB.one l x=C at*;obtain⟨nm,op,vl⟩:=x;go_enter func143,ntmps143;go_wp2_with fail;refine O.out.mono ?_;rintro e w2 ⟨rfl,h⟩;have G:=hid (((Below.refl _ w).alloc (qq _) (.cells #[.string nm,.int .i64 op,.string vl] 62)).trans (h.mono (by simp)));clear h O;go_wp2_with fail;go_ret;exact⟨rfl,G.out⟩
theorem zbM (q mo:Option Addr)(l:List LB.Lab)(m:List LB.Mat)(O V:Nat)(w:World)(Y:z1w w q l)(hM:z3s w mo m)(hl:l.length<=1000)(hm:m.length<=1000):
  Calls q6 94 #[.slice q l.length O,.slice mo m.length V] w λe w'=>e= .returned (.bool (LB.all l m))/\Below w.heap.size w w':=by
 have HE:Hid (LB.all l m= !m.any λx=> !LB.one l x):=by
  show _=_;rw[zgc];rfl
 have h:Below w.heap.size w (w.alloc (.cells #[.slice q l.length O] 90)):=(Below.refl _ w).alloc (qq _) _;have HC:=hid (z2W mo m V 143 #[.pointer (some ⟨w.heap.size,0,none⟩)] (λx=> !LB.one l x) (w.alloc (.cells #[.slice q l.length O] 90)) (hM.below h) hm (iw func143 (by kernel_rfl) rfl)
  (λW hW x _=>zjx q l O w.heap.size x W ((Y.below h).below hW) hl ((hW.cell (p:=⟨w.heap.size,0,none⟩) (by simp)).trans (by simp)) (qe (by simp) hW.size)))
 clear Y hM;have G:=hid h;clear h;generalize LB.all l m=B at*;generalize (m.any λx=> !LB.one l x)=C at*;go_enter func94,ntmps94;go_wp2_with fail;refine HC.out.mono ?_;rintro e w2 ⟨rfl,J⟩;have U:=hid (G.out.trans (J.mono G.out.size));clear J HC;go_wp2_with fail;go_ret;exact⟨z05 HE.out.symm,U.out⟩
end
section
open Go.RowKit
structure TB (w W:World) (xs:List (Value×Value)) (S:List Sr) (i:Nat) (vs:Value) (xsS:List (Value×Value)) (LS:List Sr) (vt:Value) (xsT:List (Value×Value)) (LT:List Sr):Prop where
 stay:SB W w.heap.size vs xsS LS
 told:SB W w.heap.size vt xsT LT
 two:vs.ownBlock=none\/vs.ownBlock≠vt.ownBlock
 apart:∀a b,a<LS.length->b<LS.length->a≠b->(atX xsS a).2.ownBlock≠(atX xsS b).2.ownBlock
 src:∀k,k<LS.length->(∃k',k'<i/\k'<S.length/\(atX xsS k).2.ownBlock=(atX xs k').2.ownBlock)\/∃g,(atX xsS k).2.ownBlock=some g/\w.heap.size<=g
 bel:Below w.heap.size w W
 tnew:∀b,b<LT.length->∀g,(atX xsT b).2.ownBlock=some g->w.heap.size<=g
 lnew:∀b,b<LT.length->∀g,(atX xsT b).1.ownBlock=some g->w.heap.size<=g
 cross:∀a,a<LS.length->∀b,b<LT.length->∀g,(atX xsS a).2.ownBlock=some g->(atX xsT b).2.ownBlock≠some g
section
variable {w W W' : World} {xs : List (Value × Value)} {S : List Sr} {i : Nat} {vs : Value} {xsS : List (Value × Value)} {LS : List Sr} {vt : Value} {xsT : List (Value × Value)} {LT : List Sr}
theorem TB.below (h:TB w W xs S i vs xsS LS vt xsT LT)(k:Below W.heap.size W W'):TB w W' xs S i vs xsS LS vt xsT LT:=
 ⟨h.stay.below k,h.told.below k,h.two,h.apart,h.src,z0u h.bel k,h.tnew,h.lnew,h.cross⟩
theorem TB.next (h:TB w W xs S i vs xsS LS vt xsT LT):TB w W xs S (i+1) vs xsS LS vt xsT LT:=
 ⟨h.stay,h.told,h.two,h.apart,λk q=>(h.src k q).imp (λ⟨G,O,J⟩=>⟨G,by omega,J⟩) id,h.bel,h.tnew,h.lnew,h.cross⟩
theorem TB.zni (h:TB w W xs S i vs xsS LS vt xsT LT){v' a b:Value}{x:Sr}(ha:z0x W 0 a x.1)(hb:z0h W 0 b x.2)(hr:W'.ownsRow w.heap.size 93 2 v' (LT.length+1) (zr2 xsT++[a,b]))(k:W.grownBy W' vt.ownBlock)(hv:v'.ownBlock=vt.ownBlock\/v'.ownBlock=some W.heap.size)
  (O:∀g,b.ownBlock=some g->w.heap.size<=g) (U:∀g,a.ownBlock=some g->w.heap.size<=g) (V:∀c,c<LS.length->∀g,(atX xsS c).2.ownBlock=some g->b.ownBlock≠some g):TB w W' xs S i vs xsS LS v' (xsT++[(a,b)]) (LT++[x]):=by
 have Y:∀c,c<(LT++[x]).length->c<LT.length\/c=LT.length:=λc J=>by rw[q8] at J;simp only[qf,qO] at J;omega
 refine⟨h.stay.other h.told.row h.two k,h.told.push ha hb hr k,?_,h.apart,h.src,h.bel.grown k h.bel.size (λj hj=>(h.told.row.lt j hj).1),λc J g q=>?_,λc J g q=>?_,λc J d hd g q=>?_⟩
 .rcases hv with e|e
  .rw[e];exact h.two
  .rcases hs:vs.ownBlock with _|g
   .exact .inl rfl
   .right;rw[e];intro e2;have:=(h.stay.row.lt _ (hs.trans e2)).2;omega
 .rw[z1r,h.told.len] at q;rcases Y c J with G|G
  .rw[if_pos G] at q;exact h.tnew c G g q
  .rw[if_neg (by omega),if_pos G] at q;exact O g q
 .rw[z1r,h.told.len] at q;rcases Y c J with G|G
  .rw[if_pos G] at q;exact h.lnew c G g q
  .rw[if_neg (by omega),if_pos G] at q;exact U g q
 .rw[z1r,h.told.len];rcases Y d hd with G|G
  .rw[if_pos G];exact h.cross c J d G g q
  .rw[if_neg (by omega),if_pos G];exact V c J g q
theorem TB.zmV (h:TB w W xs S i vs xsS LS vt xsT LT){v' a b:Value}{x:Sr}(ha:z0x W 0 a x.1)(hb:z0h W 0 b x.2)(hr:W'.ownsRow w.heap.size 93 2 v' (LS.length+1) (zr2 xsS++[a,b]))(k:W.grownBy W' vs.ownBlock)(hv:v'.ownBlock=vs.ownBlock\/v'.ownBlock=some W.heap.size)
  (J:∀c,c<LS.length->(atX xsS c).2.ownBlock≠b.ownBlock) (O:(i<S.length/\b.ownBlock=(atX xs i).2.ownBlock)\/∃g,b.ownBlock=some g/\w.heap.size<=g) (A1:∀c,c<LT.length->∀g,b.ownBlock=some g->(atX xsT c).2.ownBlock≠some g):TB w W' xs S (i+1) v' (xsS++[(a,b)]) (LS++[x]) vt xsT LT:=by
 have A2:vt.ownBlock=none\/vt.ownBlock≠vs.ownBlock:=by
  rcases h.two with e|e
  .rcases ht:vt.ownBlock with _|g
   .exact .inl rfl
   .rw[e];exact .inr (by simp)
  .exact .inr (λU=>e U.symm)
 refine⟨h.stay.push ha hb hr k,h.told.other h.stay.row A2 k,?_,λc d G V A3=>?_,λc G=>?_,h.bel.grown k h.bel.size (λj hj=>(h.stay.row.lt j hj).1),h.tnew,h.lnew,λc G d V g Y=>?_⟩
 .rcases hv with e|e
  .rw[e];exact h.two
  .right;rw[e];intro U;have:=(h.told.row.lt _ U.symm).2;omega
 .rw[q8] at G V;simp only[qf,qO] at G V;rw[z1r,z1r,h.stay.len];by_cases q:c<LS.length
  .rw[if_pos q];by_cases h2:d<LS.length
   .rw[if_pos h2];exact h.apart c d q h2 A3
   .rw[if_neg h2,if_pos (by omega)];exact J c q
  .rw[if_neg q,if_pos (by omega)];rw[if_pos (show d<LS.length by omega)];exact λe=>J d (by omega) e.symm
 .rw[q8] at G;simp only[qf,qO] at G;rw[z1r,h.stay.len];by_cases q:c<LS.length
  .rw[if_pos q];exact(h.src c q).imp (λ⟨k',q,h2⟩=>⟨k',by omega,h2⟩) id
  .rw[if_neg q,if_pos (by omega)];rcases O with⟨e1,U⟩|e
   .exact .inl ⟨i,by omega,e1,U⟩
   .exact .inr e
 .rw[q8] at G;simp only[qf,qO] at G;rw[z1r,h.stay.len] at Y;by_cases q:c<LS.length
  .rw[if_pos q] at Y;exact h.cross c q d V g Y
  .rw[if_neg q,if_pos (by omega)] at Y;exact A1 d V g Y
end
theorem zcY {p:List LB.Lab->Int->Bool}{S:List Sr}{i:Nat}(h:i<S.length){ys:List CL.Smp}(q:(z03 S i).2.filter (λs=>p (z03 S i).1 s.1)=ys)(G:0<ys.length):HD.kp p (S.take (i+1))=HD.kp p (S.take i)++[((z03 S i).1,ys)]:=by
 rw[HD.zaZ p S i h];have:HD.z2v p (z03 S i)=((z03 S i).1,ys):=by unfold HD.z2v;rw[q]
 rw[this,if_pos G]
theorem zfE {p:List LB.Lab->Int->Bool}{S:List Sr}{i:Nat}(h:i<S.length){ys:List CL.Smp}(q:(z03 S i).2.filter (λs=>p (z03 S i).1 s.1)=ys)(G:¬0<ys.length):HD.kp p (S.take (i+1))=HD.kp p (S.take i):=by
 rw[HD.zaZ p S i h];have:HD.z2v p (z03 S i)=((z03 S i).1,ys):=by unfold HD.z2v;rw[q]
 rw[this,if_neg G,tB]
theorem z2N (p:List LB.Lab->Int->Bool)(S:List Sr)(i:Nat)(h:S.length<=4000):(HD.kp p (S.take i)).length<=4000:=by
 unfold HD.kp;refine qi (List.length_filter_le _ _) ?_;rw[List.length_map,qb];omega
theorem TB.zo9 {w W W':World}{xs:List (Value×Value)}{S:List Sr}{i j:Nat}{vs:Value}{xsS:List (Value×Value)}{LS:List Sr}{vt:Value}{xsT:List (Value×Value)}{p:List LB.Lab->Int->Bool}{b:Value}{e:rO}{v':Value}(h:TB w W xs S i vs xsS LS vt xsT (HD.kp p (S.take j)))(hj:j<S.length){ys:List CL.Smp}(hy:(z03 S j).2.filter (λs=>p (z03 S j).1 s.1)=ys)(hb:z0h W 0 b ys)(G:zhs w.heap.size (HD.kp p (S.take j)).length vt b (zr2 xsT) (z03 S j).1 ys.length W e W')(he:e= .returned v')(A1:∀g,b.ownBlock=some g->w.heap.size<=g)(A2:∀c,c<LS.length->∀g,(atX xsS c).2.ownBlock=some g->b.ownBlock≠some g):
  (∃xsT',TB w W' xs S i vs xsS LS v' xsT' (HD.kp p (S.take (j+1)))/\∀c,c<(HD.kp p (S.take (j+1))).length->∀g,(atX xsT' c).2.ownBlock=some g->(∃d,d<(HD.kp p (S.take j)).length/\(atX xsT d).2.ownBlock=some g)\/b.ownBlock=some g)/\(∀{e:qn} {u:Value} {J m:Nat} {zs:List Value},W.ownsRow J e 2 u m zs->e≠93->W'.ownsRow J e 2 u m zs)/\W.heap.size<=W'.heap.size/\(∀k,k<W.heap.size->vt.ownBlock≠some k->W'.heap[k]? =W.heap[k]?):=by
 obtain⟨v2,e2,G⟩:=G;rw[he] at e2;cases e2;rcases G with⟨h0,rfl,rfl⟩|⟨h0,a,W2,k1,k2,k3,V,k5⟩
 .exact⟨⟨xsT,by rw[zfE hj hy (by omega)];exact⟨h,λc Y g q=> .inl ⟨c,Y,q⟩⟩⟩,λhu _=>hu,qq _,λ_ _ _=>rfl⟩
 .have U:=h.below k1;refine⟨⟨xsT++[(a,b)],?_⟩,λhu O=>z0q U.told.row (z04 hu λg _ q=>k1.block g (z00 q)) O V,qi k1.size V.size,λk hk O=>(V.block k (qe hk k1.size) (λe=>O e.symm)).trans (k1.block k hk)⟩;rw[zcY hj hy h0];refine⟨U.zni (x:=((z03 S j).1,ys)) (z07 k2 (qh _)) (z04 hb λg _ q=>k1.block g (z00 q)) k3 V k5 A1 (λg q=>qi h.bel.size (k2.lt g q).1) A2,λc Y g q=>?_⟩;rw[q8] at Y;simp only[qf,qO] at Y;rw[z1r,h.told.len] at q;by_cases h1:c<(HD.kp p (S.take j)).length
  .rw[if_pos h1] at q;exact .inl ⟨c,h1,q⟩
  .rw[if_neg h1,if_pos (by omega)] at q;exact .inr q
theorem TB.zo5 {w W W':World}{xs:List (Value×Value)}{S:List Sr}{i:Nat}{vs:Value}{xsS:List (Value×Value)}{LT:List Sr}{vt:Value}{xsT:List (Value×Value)}{p:List LB.Lab->Int->Bool}{b:Value}{e:rO}{v':Value}(h:TB w W xs S i vs xsS (HD.kp p (S.take i)) vt xsT LT)(hj:i<S.length){ys:List CL.Smp}(hy:(z03 S i).2.filter (λs=>p (z03 S i).1 s.1)=ys)(hb:z0h W 0 b ys)(q:zhs w.heap.size (HD.kp p (S.take i)).length vs b (zr2 xsS) (z03 S i).1 ys.length W e W')(he:e= .returned v')
  (O:∀c,c<(HD.kp p (S.take i)).length->∀g,b.ownBlock=some g->(atX xsS c).2.ownBlock≠some g) (G:b.ownBlock=none\/∃g,b.ownBlock=some g/\w.heap.size<=g) (U:∀c,c<LT.length->∀g,b.ownBlock=some g->(atX xsT c).2.ownBlock≠some g):
  ∃xsS',TB w W' xs S (i+1) v' xsS' (HD.kp p (S.take (i+1))) vt xsT LT:=by
 obtain⟨v2,e2,q⟩:=q;rw[he] at e2;cases e2;rcases q with⟨V,rfl,rfl⟩|⟨V,a,W2,k1,k2,k3,k4,k5⟩
 .exact⟨xsS,by rw[zfE hj hy (by omega)];exact h.next⟩
 .have Y:=h.below k1;refine⟨xsS++[(a,b)],?_⟩;rw[zcY hj hy V];obtain⟨g,_,_,_,J,_⟩:=z0d hb V;refine Y.zmV (x:=((z03 S i).1,ys)) (z07 k2 (qh _)) (z04 hb λg _ hg=>k1.block g (z00 hg)) k3 k4 k5 (λc hc=>by rw[J];exact O c hc g J) ?_ U;rcases G with e|e
  .rw[e] at J;cases J
  .exact .inr e
abbrev goP (m:List LB.Mat)(q:Int->Bool):List LB.Lab->Int->Bool:=λL t=>LB.all L m&&q t
abbrev noP (m:List LB.Mat)(q:Int->Bool):List LB.Lab->Int->Bool:=λL t=> !(LB.all L m&&q t)
def z2J (hb:Nat)(Z:Nat->Prop)(mark:Int)(S:List Sr)(p:List LB.Lab->Int->Bool)(w:World)(e:rO)(w':World):Prop:=
 (∃v xs,e= .returned v/\SB w' 0 v xs (HD.kp p S))/\HdI w' hb (wid Z w w') mark (HD.kp (λL t=> !p L t) S)/\ZFr Z w w'/\
 ∃v Z1,e= .returned v/\z0a w' w.heap.size v (HD.kp p S)/\HdI w' hb Z1 mark (HD.kp (λL t=> !p L t) S)/\(∀j,Z1 j->wid Z w w' j)/\∃ao cap,v= .slice ao (HD.kp p S).length cap/\z0z w' Z1 ao (HD.kp p S)
theorem zk2 {w:World}{b1 b2 s1 V Y n2:Nat}{O U:qn}{v1 v2:Value}{x1 x2:List Value}(h1:w.ownsRow b1 O s1 v1 Y x1)(h2:w.ownsRow b2 U V v2 n2 x2)(G:O≠U){g:Nat}(h:v1.ownBlock=some g):v2.ownBlock≠some g:=by
 rcases h1.2 with⟨J,_⟩|⟨g',cap,A1,J,_,a2,_⟩
 .rw[J] at h;cases h
 .rw[J] at h;have e:g'=g:=qt h;subst e;exact z0e h2 a2 (λe=>G e.symm)
theorem SB.out {w:World}{q:Nat}{Z:Nat->Prop}{v:Value}{xs:List (Value×Value)}{l:List Sr}(h:SB w q v xs l)(V:∀g,v.ownBlock=some g->¬Z g)(Y:∀i,i<l.length->∀g,(atX xs i).1.ownBlock=some g->¬Z g)(h3:∀i,i<l.length->∀g,(atX xs i).2.ownBlock=some g->¬Z g):∃ao cap,v= .slice ao l.length cap/\z0z w Z ao l:=by
 rcases h.row.2 with⟨G,hn⟩|⟨g,cap,A1,G,hg,hc,_⟩
 .exact⟨none,0,by rw[G,hn],λi hi=>by omega⟩
 .refine⟨some ⟨g,0,none⟩,cap,G,λi hi=>⟨g,0,rfl,z00 hc,V g (by rw[G];rfl),?_⟩⟩;obtain⟨lo,lc,O,r1⟩:=z1w.z08 (h.labs i hi);obtain⟨so,sc,U,r2⟩:=z1I.z08 (h.smps i hi);obtain⟨q1,q2⟩:=zr1 xs i (by rw[h.len];exact hi);have c:=h.row.cells (g:=g) (by rw[G];rfl);have c1:=c _ _ q1;have c2:=c _ _ q2;rw[qP,qT] at c1 c2;refine⟨lo,lc,so,sc,?_,?_,⟨r1,λa J _=>?_⟩,⟨r2,λa J _=>?_⟩⟩
  .rw[qT,c1];exact congrArg some O
  .rw[qT,c2];exact congrArg some U
  .exact Y i hi a.block (by rw[O,J];rfl)
  .exact h3 i hi a.block (by rw[U,J];rfl)
theorem zjR {w:World}{G base' n q:Nat}{e:qn}{v:Value}{xs:List Value}(h:w.ownsRow G e q v n xs)(hb:∀g,v.ownBlock=some g->base'<=g):w.ownsRow base' e q v n xs:=by
 refine⟨h.1,?_⟩;rcases h.2 with O|⟨g,cap,J,rfl,Y,U,V⟩
 .exact .inl O
 .exact .inr ⟨g,cap,J,rfl,hb g rfl,U,V⟩
theorem TB.fin {w wr:World}{hb:Nat}{Z:Nat->Prop}{mark:Int}{xs:List (Value×Value)}{S:List Sr}{v vs:Value}{xsS:List (Value×Value)}{vt:Value}{xsT:List (Value×Value)}{p:List LB.Lab->Int->Bool}(h:TB w wr xs S S.length vs xsS (HD.kp (λL t=> !p L t) S) vt xsT (HD.kp p S))(h0:HdX w hb mark S v xs)
  (hz:∀i,i<S.length->∀g,(atX xs i).2.ownBlock=some g->Z g) (O:Z hb) (hl:∀j,Z j->j<w.heap.size):z2J hb Z mark S p w (.returned vt) (wr.setCell ⟨hb,1,none⟩ vs):=by
 have Y:wr.heap[hb]? =some (.cells #[.int .i64 mark,v] 165):=(h0.below h.bel).box;have q:∀{V:Nat} {e:qn} {u:Value} {m:Nat} {ys:List Value},wr.ownsRow V e 2 u m ys->e≠165->(wr.setCell ⟨hb,1,none⟩ vs).ownsRow V e 2 u m ys:=λhh A1=>z0y hh (z0e hh Y A1) _ _
 refine⟨⟨vt,xsT,rfl,⟨h.told.len,z07 (q h.told.row (by decide)) (qh _),λi hi=>q (h.told.labs i hi) (by decide),λi hi=>q (h.told.smps i hi) (by decide)⟩⟩,⟨⟨vs,xsS,⟨qo wr hb 1 _ _ vs Y,h.stay.len,z07 (q h.stay.row (by decide)) (qh _),λi hi=>q (h.stay.labs i hi) (by decide),λi hi=>q (h.stay.smps i hi) (by decide),h.apart⟩,λi hi g G=>?_⟩,.inl O,λj hj=>?_⟩,⟨h.bel.os,h.bel.tape,h.bel.output,by rw[z0g];exact h.bel.size,λj hj hn=>?_⟩,?_⟩
 .rcases h.src i hi with⟨k',_,U,h3⟩|⟨g',U,h3⟩
  .exact .inl (hz k' U g (by rw[<-h3];exact G))
  .rw[U] at G;cases G;exact .inr ⟨h3,by rw[z0g];exact((h.stay.smps i hi).lt g U).2⟩
 .rcases hj with e|e
  .rw[z0g];exact qe (hl j e) h.bel.size
  .exact e.2
 .rw[Below.heap_setCell wr ⟨hb,1,none⟩ vs j (λe=>hn (by rw[e];exact O))];exact h.bel.block j hj
 .have hT:SB (wr.setCell ⟨hb,1,none⟩ vs) w.heap.size vt xsT (HD.kp p S):=⟨h.told.len,q h.told.row (by decide),λi hi=>q (h.told.labs i hi) (by decide),λi hi=>q (h.told.smps i hi) (by decide)⟩;have A2:hb<w.heap.size:=hl hb O;refine⟨vt,λj=>j=hb\/∃k,k<(HD.kp (λL t=> !p L t) S).length/\(atX xsS k).2.ownBlock=some j,rfl,⟨xsT,hT.len,hT.row,λi hi=>⟨zjR (hT.labs i hi) (h.lnew i hi),zjR (hT.smps i hi) (h.tnew i hi)⟩⟩,⟨⟨vs,xsS,⟨qo wr hb 1 _ _ vs Y,h.stay.len,z07 (q h.stay.row (by decide)) (qh _),λi hi=>q (h.stay.labs i hi) (by decide),λi hi=>q (h.stay.smps i hi) (by decide),h.apart⟩,λi hi g G=> .inr ⟨i,hi,G⟩⟩,.inl rfl,?_⟩,?_,hT.out ?_ ?_ ?_⟩
  .rintro j (rfl|⟨k,J,e⟩)
   .rw[z0g];exact qe A2 h.bel.size
   .rw[z0g];exact((h.stay.smps k J).lt j e).2
  .rintro j (rfl|⟨k,J,e⟩)
   .exact .inl O
   .rcases h.src k J with⟨k',_,U,h3⟩|⟨g',U,h3⟩
    .exact .inl (hz k' U j (by rw[<-h3];exact e))
    .rw[U] at e;cases e;exact .inr ⟨h3,by rw[z0g];exact((h.stay.smps k J).lt j U).2⟩
  .rintro g G (rfl|⟨k,J,e⟩)
   .have:=(h.told.row.lt g G).1;omega
   .exact zk2 h.told.row (h.stay.smps k J) (by decide) G e
  .rintro i hi g G (rfl|⟨k,J,e⟩)
   .have:=h.lnew i hi g G;omega
   .exact zk2 (h.told.labs i hi) (h.stay.smps k J) (by decide) G e
  .rintro i hi g G (rfl|⟨k,J,e⟩)
   .have:=h.tnew i hi g G;omega
   .exact h.cross k J i hi g e G
theorem za6 (hb:Nat)(Z:Nat->Prop)(mark:Int)(S:List Sr)(mo:Option Addr)(m:List LB.Mat)(mc g:Nat)(lb:Array Value)(q:Int->Bool)(w:World)(hI:HdI w hb Z mark S)(hG:HD.Good S)(hM:z3s w mo m)(hm:m.length<=1000)(eg:∀args w,(ux g args).run q6 w= .ok (.enter g args) w)
  (A9:∀W,Below w.heap.size w W->∀t,Calls q6 g (#[.int .i64 t]++lb) W λe w'=>e= .returned (.bool (q t))/\Below W.heap.size W w'):
  Calls q6 113 #[.pointer (some ⟨hb,0,none⟩),.slice mo m.length mc,.func (.func g) #[] lb] w λe w'=>z2J hb Z mark S (goP m q) w e w':=by
 obtain⟨⟨v,xs,hX,hz⟩,AE,AF⟩:=hI;have HX:=hid hX;have HZ:=hid (qv hz (qv AE AF));have HG:=hid hG;have HM:=hid hM;have HC:=hid A9;obtain⟨ao,cap,Ay,AY⟩:=z0r.z08 hX.znp;have m0:w.cell? ⟨hb,1,none⟩=some (.slice ao S.length cap):=by rw[<-Ay];exact z01 _ _ _ _ hX.box 1 _ rfl
 have AG:=hid Ay;have Ac:=hG.few;clear hX hz AE AF hG hM A9 Ay AY;go_enter func113,ntmps113;go_wp2_with fail;go_loopw [7,8,18] (λts tt ti wr=>∃(i:Nat) (xsS xsT:List (Value×Value)),i<=S.length/\ti= .int .i64 i/\TB w wr xs S i ts xsS (HD.kp (noP m q) (S.take i)) tt xsT (HD.kp (goP m q) (S.take i))) (λ_ _ ti _=>S.length-(intOf ti).toNat)
 case atStart=>exact⟨0,[],[],qh _,rfl,⟨SB.nil _ _,SB.nil _ _,.inl rfl,λa b ha=>by simp[HD.kp] at ha,λa ha=>by simp[HD.kp] at ha,Below.refl _ _,λa ha=>by simp[HD.kp] at ha,λa ha=>by simp[HD.kp] at ha,λa ha=>by simp[HD.kp] at ha⟩⟩
 case round=>
  obtain⟨i,xsS,xsT,hi,rfl,AH⟩:=hrel;have A1:=hid AH;clear AH;by_cases G:i<S.length
  .obtain⟨gr,Bb,AJ,Bf,AK⟩:=(HX.out.below A1.out.bel).cells (by omega);have Az:=AG.out;rw[AJ] at Az;simp only[eC,true_and] at Az;obtain⟨rfl,rfl⟩:=Az;obtain⟨c0,c1⟩:=AK i G;have Ad:z0x wr 0 (atX xs i).1 (z03 S i).1:=(HX.out.below A1.out.bel).labs i G;have Ae:z0h wr 0 (atX xs i).2 (z03 S i).2:=(HX.out.below A1.out.bel).smps i G;obtain⟨lo,Y,el,AA⟩:=z1w.z08 Ad;obtain⟨so,sc,es,AL⟩:=z1I.z08 Ae;rw[el] at c0;rw[es] at c1;have Ak:=HG.out.ok _ (HD.at_mem S i G);have Bg:=z0T Ak.1;have Bh:=z2a Ak.2.1;have AZ:=Ak.2.2.1;have AM:=hid el;have Al:=hid es;have Ao:=hid Ad;have AO:=hid Ae;have V:Below wr.heap.size wr (wr.alloc (.cells #[.slice lo (z03 S i).1.length Y,.slice so (z03 S i).2.length sc] 93)):=(Below.refl _ wr).alloc (qq _) _;have A2:(wr.alloc (.cells #[.slice lo (z03 S i).1.length Y,.slice so (z03 S i).2.length sc] 93)).heap[wr.heap.size]? =some (.cells #[.slice lo (z03 S i).1.length Y,.slice so (z03 S i).2.length sc] 93):=qu wr _;have Ap:=hid (zbM lo mo (z03 S i).1 m Y mc (wr.alloc (.cells #[.slice lo (z03 S i).1.length Y,.slice so (z03 S i).2.length sc] 93)) (AA.below V) ((HM.out.below A1.out.bel).below V) (by omega) hm);have AP:=hid A2;have Aq:=hid V;have B0:=hid AA;have B3:=hid AL;have Bi:0<=(i:Int)/\(i:Int)<(S.length:Int):=by omega
   clear Ad Ae AA AL el es V A2 Ak AJ AK;go_wp2_with fail;refine Ap.out.mono ?_;rintro e w2 ⟨rfl,AB⟩;have A7:=hid (z0u Aq.out AB);have A6:=(AB.block wr.heap.size (z00 AP.out)).trans AP.out;have d0:w2.cell? ⟨wr.heap.size,0,none⟩=some (.slice lo (z03 S i).1.length Y):=z01 _ _ _ _ A6 0 _ rfl;have d1:w2.cell? ⟨wr.heap.size,1,none⟩=some (.slice so (z03 S i).2.length sc):=z01 _ _ _ _ A6 1 _ rfl;have h:=hid (A1.out.below A7.out);have Ar:=hid A6;clear AB Ap Aq A6;rcases hal:LB.all (z03 S i).1 m with _|_
   .have Af:=hid hal;clear hal;obtain⟨v3,w3,Au,k1,k2,k3⟩:=z6z (w2.alloc (.cells #[.slice lo (z03 S i).1.length Y,.slice so (z03 S i).2.length sc] 93)) w.heap.size w2.heap.size u7 (.slice lo (z03 S i).1.length Y) (.slice so (z03 S i).2.length sc) _ _ (qu w2 _) rfl rfl (h.out.stay.row.alloc _) (by have:=z2N (noP m q) S i Ac;omega) (qi h.out.bel.size (eZ w2 _ none).size);have h3:=h.out.below ((Below.refl _ w2).alloc (qq _) (.cells #[.slice lo (z03 S i).1.length Y,.slice so (z03 S i).2.length sc] 93));have A3:=z04 (z04 Ao.out λg _ J=>A7.out.block g (z00 J)) λg _ J=>Below.heap_alloc w2 (.cells #[.slice lo (z03 S i).1.length Y,.slice so (z03 S i).2.length sc] 93) g (z00 J)
    have A4:=z04 (z04 AO.out λg _ J=>A7.out.block g (z00 J)) λg _ J=>Below.heap_alloc w2 (.cells #[.slice lo (z03 S i).1.length Y,.slice so (z03 S i).2.length sc] 93) g (z00 J)
    rw[AM.out] at A3;rw[Al.out] at A4;have h4:=h3.zmV (x:=z03 S i) A3 A4 k1 k2 k3 (λc hc e=> ?apc) (.inl ⟨G,by rw[Al.out]⟩) (λc hc g J e=>by
      have h5:=h3.tnew c hc g e;rw[<-Al.out] at J;have:=((HX.out.smps i G).lt g J).2;omega)
    case apc=>
     rw[<-Al.out] at e;rcases h3.src c hc with⟨k',h5,h6,h7⟩|⟨g',h5,h6⟩
     .exact HX.out.apart k' i h6 G (by omega) (by rw[<-h7,e])
     .rw[h5] at e;have:=((HX.out.smps i G).lt g' e.symm).2;omega
    have f1:HD.kp (noP m q) (S.take (i+1))=HD.kp (noP m q) (S.take i)++[z03 S i]:=by
     refine zcY G (ys:=(z03 S i).2) ?_ AZ;refine List.filter_eq_self.2 λs _=>?_
     show(!(LB.all (z03 S i).1 m&&q s.1))=true;rw[Af.out];rfl
    have f2:HD.kp (goP m q) (S.take (i+1))=HD.kp (goP m q) (S.take i):=by
     refine zfE G (ys:=[]) ?_ (by simp);refine List.filter_eq_nil_iff.2 λs _=>?_
     show ¬(LB.all (z03 S i).1 m&&q s.1)=true;rw[Af.out];simp
    have H4:=hid h4;have HF:=hid (qv f1 f2);obtain⟨a3,c3,e3⟩:=z02 k1;obtain⟨a7,c7,e7⟩:=z02 h.out.stay.row;clear k1 k2 k3 h3 A3 A4 h4 f1 f2;subst e3;rw[e7] at Au;subst e7;go_wp2_with (at_builtin;refine qB _ rfl _ _ _ _ rfl _ _ rfl rfl _ _ Au ?_)
    go_roundw
    case rel=>exact⟨i+1,_,_,by omega,by go_num,by rw[HF.out.1,HF.out.2];exact H4.out⟩
    case measure=>simp[intOf];omega
   .have Af:=hid hal;clear hal;have HP:=hid (zdB so (z03 S i).2 sc g lb q w2 (B3.out.below A7.out) (by omega) eg (λW hW t=>HC.out W (z0u h.out.bel hW) t));go_wp2_with fail;refine HP.out.mono ?_;rintro e w3 ⟨vo,vl,rfl,U⟩;have A8:=hid U;have Ag:=hid (h.out.below U.bel);have Ah:=(U.bel.block wr.heap.size (z00 Ar.out)).trans Ar.out;have y0:w3.cell? ⟨wr.heap.size,0,none⟩=some (.slice lo (z03 S i).1.length Y):=z01 _ _ _ _ Ah 0 _ rfl;have Av:=hid Ah;have AC:z1w w3 lo (z03 S i).1:=(B0.out.below A7.out).below U.bel;have AQ:=hid (z8j w.heap.size (HD.kp (goP m q) (S.take i)).length u8 vo (zr2 xsT) lo (z03 S i).1 Y _ w3 Ag.out.told.row AC (by omega) (by omega) (z07 U.out (qh _)) (by have:=z2N (goP m q) S i Ac;omega) Ag.out.bel.size);have Bj:=hid AC;clear U Ah HP AC;go_wp2_with fail;refine AQ.out.mono ?_;intro e w4 O;obtain⟨v4,rfl,AD⟩:=id O;obtain⟨⟨Bc,h4,AR⟩,A5,B5,Aw⟩:=Ag.out.zo9 G (ys:=(z03 S i).2.filter λs=>q s.1) (by
     congr 1
     funext s
     show(LB.all (z03 S i).1 m&&q s.1)=q s.1;rw[Af.out];rfl) (z07 A8.out.out (qh _)) O rfl (λg J=>qi h.out.bel.size (A8.out.out.lt g J).1) (λc hc g J e=>by
      have h6:=(A8.out.out.lt g e).1;have:=((h.out.stay.smps c hc).lt g J).2;omega)
    have B6:=hid AR;have AU:=hid h4;have Ai:z0h w4 w2.heap.size vl ((z03 S i).2.filter λs=> !q s.1):=A5 A8.out.left (by decide);have Ax:=(Aw wr.heap.size (z00 Av.out) (λe=>by have:=(A1.out.told.row.lt _ e).2;omega)).trans Av.out;have z0:w4.cell? ⟨wr.heap.size,0,none⟩=some (.slice lo (z03 S i).1.length Y):=z01 _ _ _ _ Ax 0 _ rfl;have Aj:z0x w4 0 (.slice lo (z03 S i).1.length Y) (z03 S i).1:=by
     rw[<-AM.out];exact A5 (z04 (z04 Ao.out λg _ J=>A7.out.block g (z00 J)) λg _ J=>A8.out.bel.block g (z00 J)) (by decide)
    obtain⟨Bl,Bm,AV,AW⟩:=z1w.z08 Aj;simp only[eC,true_and] at AV;obtain⟨rfl,rfl⟩:=AV;have AX:=hid (z8j w.heap.size (HD.kp (noP m q) (S.take i)).length u7 vl (zr2 xsS) lo (z03 S i).1 Y _ w4 h4.stay.row AW (by omega) (by omega) (z07 Ai (qh _)) (by have:=z2N (noP m q) S i Ac;omega) h4.bel.size);have Am:=hid Ai;clear AR;clear AD O h4 A5 B5 Aw Ax Aj AW Ai AQ;go_wp2_with fail;refine AX.out.mono ?_;intro e w5 O;obtain⟨v5,rfl,_⟩:=id O;obtain⟨Be,h5⟩:=AU.out.zo5 G (ys:=(z03 S i).2.filter λs=> !q s.1) (by
     congr 1
     funext s
     show(!(LB.all (z03 S i).1 m&&q s.1))= !q s.1;rw[Af.out];rfl) (z07 Am.out (qh _)) O rfl (λc hc g J e=>by
      have h6:=(Am.out.lt g J).1;have:=((h.out.stay.smps c hc).lt g e).2;omega) (by
      rcases hvb:vl.ownBlock with _|g
      .exact .inl rfl
      .exact .inr ⟨g,rfl,qi h.out.bel.size (Am.out.lt g hvb).1⟩) (λc hc g J e=>by
      rcases B6.out c hc g e with⟨d,h6,h7⟩|h6
      .have h8:=((h.out.told.smps d h6).lt g h7).2;have:=(Am.out.lt g J).1;omega
      .rcases A8.out.apart with h7|h7
       .rw[h7] at h6;cases h6
       .exact h7 (h6.trans J.symm))
    have H5:=hid h5;clear O h5 AX;go_wp2_with fail;go_roundw
    case rel=>exact⟨i+1,_,_,by omega,by go_num,H5.out⟩
    case measure=>simp[intOf];omega
  .have he:i=S.length:=by omega
   subst he;have h1:=A1.out;rw[qD] at h1;have H1:=hid h1;have A2:=(HX.out.below h1.bel).box;rw[AG.out] at A2;have n2:wr.cell? ⟨hb,1,none⟩=some (.slice ao S.length cap):=z01 _ _ _ _ A2 1 _ rfl;have n3:wr.frozen? ⟨hb,1,none⟩=false:=hfz A2 1;obtain⟨a7,c7,e7⟩:=z02 h1.stay.row;have Ba:=hid e7;clear A2 h1;rw[e7];go_wp2_with fail;go_ret;rw[<-Ba.out];exact H1.out.fin HX.out HZ.out.1 HZ.out.2.1 HZ.out.2.2
end
section
open Go.RowKit
theorem zja (t q:Int)(B:Nat)(w:World)(h:w.cell? ⟨B,0,none⟩=some (.int .i64 q)):
  Calls q6 114 #[.int .i64 t,.pointer (some ⟨B,0,none⟩)] w λe w'=>e= .returned (.bool (decide (t<=q)))/\Below w.heap.size w w':=by
 go_enter func114,ntmps114;go_wp2;go_ret;exact⟨rfl,Below.refl _ _⟩
theorem zgd (t fr q:Int)(G:Value)(B:Nat)(w:World)(h:w.heap[B]? =some (.cells #[G,.int .i64 fr,.int .i64 q] 25)):
  Calls q6 141 #[.int .i64 t,.pointer (some ⟨B,0,none⟩)] w λe w'=>e= .returned (.bool (decide (fr<=t)&&decide (t<=q)))/\Below w.heap.size w w':=by
 have O:w.cell? ⟨B,1,none⟩=some (.int .i64 fr):=z01 _ _ _ _ h 1 _ rfl;have U:w.cell? ⟨B,2,none⟩=some (.int .i64 q):=z01 _ _ _ _ h 2 _ rfl;clear h;by_cases J:fr<=t
 .go_enter func141,ntmps141;go_wp2;go_ret;exact⟨by rw[decide_eq_true J];rfl,Below.refl _ _⟩
 .go_enter func141,ntmps141;go_wp2;go_ret;exact⟨by rw[decide_eq_false (show ¬fr<=t by omega)];rfl,Below.refl _ _⟩
theorem HdI.mark {w:World}{hb:Nat}{Z:Nat->Prop}{mark:Int}{S:List Sr}(h:HdI w hb Z mark S)(m':Int):HdI (w.setCell ⟨hb,0,none⟩ (.int .i64 m')) hb Z m' S:=by
 obtain⟨⟨v,xs,G,V⟩,J,Y⟩:=h;have q:∀{e:qn} {u:Value} {m:Nat} {ys:List Value},w.ownsRow 0 e 2 u m ys->e≠165->(w.setCell ⟨hb,0,none⟩ (.int .i64 m')).ownsRow 0 e 2 u m ys:=λU O=>z0y U (z0e U G.box O) _ _
 exact⟨⟨v,xs,⟨qo w hb 0 _ _ _ G.box,G.len,q G.row (by decide),λi hi=>q (G.labs i hi) (by decide),λi hi=>q (G.smps i hi) (by decide),G.apart⟩,V⟩,J,λj hj=>by rw[z0g];exact Y j hj⟩
theorem z6W {Z:Nat->Prop}{w w1 q:World}(G:w.heap.size<=w1.heap.size){j:Nat}(h:wid Z w1 q j):wid Z w q j:=by
 rcases h with e|e
 .exact .inl e
 .exact .inr ⟨qi G e.1,e.2⟩
theorem z2J.left {hb:Nat}{Z:Nat->Prop}{mark:Int}{S:List Sr}{p:List LB.Lab->Int->Bool}{w O w':World}{e:rO}(h:ZFr Z w O)(k:z2J hb Z mark S p O e w'):z2J hb Z mark S p w e w':=by
 obtain⟨U,⟨⟨v,xs,V,Y⟩,k4,k5⟩,k6,v7,Z7,k7,k8,k9,q,G⟩:=k;refine⟨U,⟨⟨v,xs,V,λi hi g hg=>z6W h.size (Y i hi g hg)⟩,z6W h.size k4,λj J=>?_⟩,h.trans k6,v7,Z7,k7,k8.low h.size,k9,λj J=>z6W h.size (q j J),G⟩;rcases J with e|e
 .exact k5 j (.inl e)
 .exact e.2
theorem zjs (hb:Nat)(Z:Nat->Prop)(mark t:Int)(S:List Sr)(w:World)(hI:HdI w hb Z mark S)(hG:HD.Good S):
  Calls q6 60 #[.pointer (some ⟨hb,0,none⟩),.int .i64 t] w λe w'=>z2J hb Z (max mark t) S (λ_ s=>decide (s<=t)) w e w':=by
 have h:Below w.heap.size w (w.alloc (.cells #[.int .i64 t] 2)):=(Below.refl _ w).alloc (qq _) _;have J:(w.alloc (.cells #[.int .i64 t] 2)).heap[w.heap.size]? =some (.cells #[.int .i64 t] 2):=qu w _;have O:=hI.below h;obtain⟨⟨v,xs,hX,_⟩,U,hl⟩:=id O;have A6:hb<w.heap.size:=by obtain⟨_,h1,h2⟩:=hI;exact h2 hb h1
 have m0:(w.alloc (.cells #[.int .i64 t] 2)).cell? ⟨hb,0,none⟩=some (.int .i64 mark):=z01 _ _ _ _ hX.box 0 _ rfl;have m1:(w.alloc (.cells #[.int .i64 t] 2)).frozen? ⟨hb,0,none⟩=false:=hfz hX.box 0;have m2:(w.alloc (.cells #[.int .i64 t] 2)).cell? ⟨w.heap.size,0,none⟩=some (.int .i64 t):=z01 _ _ _ _ J 0 _ rfl;have A3:=hid O;have V:=hid h;have A4:=hid J;have HG:=hid hG;have HZ:=hid U;clear hI O hX U hl h J hG;go_enter func60,ntmps60;go_wp2_with fail;generalize w.alloc (.cells #[.int .i64 t] 2)=w1 at*
 go_region
 generalize Y:(if mark<t then t else mark)=M at*;have hM:M=max mark t:=by
  rw[<-Y,Int.max_def];split<;>split<;>omega
 clear Y;have A1:HdI (w1.setCell ⟨hb,0,none⟩ (.int .i64 M)).drew hb Z (max mark t) S:=by
  rw[hM];exact(A3.out.mark (max mark t)).below ((Below.refl _ _).drew)
 have A2:ZFr Z w (w1.setCell ⟨hb,0,none⟩ (.int .i64 M)).drew:=by
  refine⟨V.out.os,V.out.tape,V.out.output,by show _<=(w1.setCell _ _).heap.size;rw[z0g];exact V.out.size,λj hj hn=>?_⟩;show(w1.setCell _ _).heap[j]? =_;rw[Below.heap_setCell w1 ⟨hb,0,none⟩ _ j (λe=>hn (by rw[e];exact HZ.out))];exact V.out.block j hj
 have q:(w1.setCell ⟨hb,0,none⟩ (.int .i64 M)).drew.heap[w.heap.size]? =some (.cells #[.int .i64 t] 2):=by
  show(w1.setCell _ _).heap[_]? =_;rw[Below.heap_setCell w1 ⟨hb,0,none⟩ _ w.heap.size (by show _≠hb;omega)];exact A4.out
 generalize (w1.setCell ⟨hb,0,none⟩ (.int .i64 M)).drew=w2 at*;have HC:=hid (za6 hb Z (max mark t) S none [] 0 114 #[.pointer (some ⟨w.heap.size,0,none⟩)] (λs=>decide (s<=t)) w2 A1 HG.out (λi hi=>by simp at hi) (by simp) (iw func114 (by kernel_rfl) rfl) (λW hW s=>zja s t w.heap.size W ((hW.cell (p:=⟨w.heap.size,0,none⟩) (z00 q)).trans (z01 _ _ _ _ q 0 _ rfl))));have A5:=hid A2;clear A1 A2 q;go_wp2_with fail;refine HC.out.mono ?_;intro e w3 G;obtain⟨⟨v3,A7,rfl,_⟩,_⟩:=id G;have HE:=hid (z2J.left A5.out G);clear G;go_wp2_with fail;go_ret;exact HE.out
theorem zil (hb:Nat)(Z:Nat->Prop)(mark fr G:Int)(S:List Sr)(mo:Option Addr)(m:List LB.Mat)(mc:Nat)(w:World)(O:HdI w hb Z mark S)(U:HD.Good S)(V:z3s w mo m)(Y:m.length<=1000):
  Calls q6 87 #[.pointer (some ⟨hb,0,none⟩),.agg #[.slice mo m.length mc,.int .i64 fr,.int .i64 G]] w λe w'=>e= .returned (.tuple #[])/\∃e2,z2J hb Z mark S (goP m λs=>decide (fr<=s)&&decide (s<=G)) w e2 w':=by
 have h:Below w.heap.size w (w.alloc (.cells #[.slice mo m.length mc,.int .i64 fr,.int .i64 G] 25)):=(Below.refl _ w).alloc (qq _) _;have J:(w.alloc (.cells #[.slice mo m.length mc,.int .i64 fr,.int .i64 G] 25)).heap[w.heap.size]? =some (.cells #[.slice mo m.length mc,.int .i64 fr,.int .i64 G] 25):=qu w _;have HC:=hid (za6 hb Z mark S mo m mc 141 #[.pointer (some ⟨w.heap.size,0,none⟩)] (λs=>decide (fr<=s)&&decide (s<=G)) (w.alloc (.cells #[.slice mo m.length mc,.int .i64 fr,.int .i64 G] 25)) (O.below h) U (V.below h) Y (iw func141 (by kernel_rfl) rfl) (λW hW s=>zgd s fr G _ w.heap.size W ((hW.block w.heap.size (z00 J)).trans J)));have HB:=hid h;clear O U V h J;go_enter func87,ntmps87;go_wp2_with fail;refine HC.out.mono ?_;intro e w3 q;obtain⟨⟨v3,A1,rfl,_⟩,_⟩:=id q;have HE:=hid (z2J.left (ZFr.below HB.out) q);clear q;go_wp2_with fail
 go_end0
 exact⟨rfl,_,HE.out⟩
theorem z3C (hb:Nat)(Z:Nat->Prop)(mark:Int)(S:List Sr)(w:World)(hI:HdI w hb Z mark S)(hG:HD.Good S):
  Calls q6 54 #[.pointer (some ⟨hb,0,none⟩)] w λe w'=>∃v,e= .returned v/\z0a w' w.heap.size v S/\Below w.heap.size w w':=by
 obtain⟨⟨v,xs,hX,_⟩,_,_⟩:=hI;obtain⟨ao,cap,A6,A7⟩:=z0r.z08 hX.znp;have m0:w.cell? ⟨hb,1,none⟩=some (.slice ao S.length cap):=by rw[<-A6];exact z01 _ _ _ _ hX.box 1 _ rfl
 have Ag:=hid A7;have HG:=hid hG;have Al:=hG.few;clear hX A6 A7 hG;go_enter func54,ntmps54;go_wp2_with fail;go_loopw [3,13] (λtv ti wr=>∃i:Nat,i<=S.length/\ti= .int .i64 i/\z0a wr w.heap.size tv (S.take i)/\Below w.heap.size w wr) (λ_ ti _=>S.length-(intOf ti).toNat)
 case atStart=>exact⟨0,qh _,rfl,z0a.nil _ _,Below.refl _ _⟩
 case round=>
  obtain⟨i,hi,rfl,V,Y⟩:=hrel;have HO:=hid V;have J:=hid Y;clear V Y;by_cases A3:i<S.length
  .obtain⟨b,off,Ah,A8,lo,lc,so,sc,d0,d1,A9,Ac⟩:=Ag.out i A3;subst Ah;have c0:wr.cell? ⟨b,off+i*2,none⟩=some (.slice lo (z03 S i).1.length lc):=(J.out.cell (p:=⟨b,_,none⟩) A8).trans d0;have c1:wr.cell? ⟨b,off+i*2+1,none⟩=some (.slice so (z03 S i).2.length sc):=(J.out.cell (p:=⟨b,_,none⟩) A8).trans d1;have O:=HG.out.ok _ (HD.at_mem S i A3);have Ao:=z0T O.1;have Ap:=z2a O.2.1;have Ai:=O.2.2.1;have h:Below wr.heap.size wr (wr.alloc (.cells #[.slice lo (z03 S i).1.length lc,.slice so (z03 S i).2.length sc] 93)):=(Below.refl _ wr).alloc (qq _) _;have HC:=hid (z7P (z03 S i) lo so lc sc _ ((A9.below J.out).below h) ((Ac.below J.out).below h) (by omega) Ai (by omega) (by omega));have Ad:=hid h;have Aq:0<=(i:Int)/\(i:Int)<(S.length:Int):=by omega
   clear d0 d1 A9 Ac O h;go_wp2_with fail;refine HC.out.mono ?_;rintro e w2 ⟨vl,vs,rfl,o1,o2,Ae⟩;have q:=z0u Ad.out Ae;obtain⟨al,cl,el⟩:=z02 o1;obtain⟨A4,A5,es⟩:=z02 o2;subst el es;have h2:z0a w2 w.heap.size u3 (S.take i):=HO.out.below q;obtain⟨Af,q1,U,q3⟩:=h2;have G:(S.take i).length=i:=by rw[qb];omega
   rw[G] at U;obtain⟨v3,w3,A1,k1,k2,k3⟩:=z6z (w2.alloc (.cells #[.slice al (z03 S i).1.length cl,.slice A4 (z03 S i).2.length A5] 93)) w.heap.size w2.heap.size u3 (.slice al (z03 S i).1.length cl) (.slice A4 (z03 S i).2.length A5) i (zr2 Af) (qu w2 _) rfl rfl (U.alloc _) (by omega) (qi (z0u J.out q).size (eZ w2 _ none).size);have A2:z0a w3 w.heap.size v3 (S.take (i+1)):=by
    rw[List.take_succ_eq_append_getElem A3,HD.z2d];have Ar:w.heap.size<=wr.heap.size:=J.out.size;have Am:=Ad.out.size;refine z0a.snoc (xs:=Af) q1 (by rw[G];exact k1) (λj hj=>⟨z0q (U.alloc _) ((q3 j hj).1.alloc _) (by decide) k2,z0q (U.alloc _) ((q3 j hj).2.alloc _) (by decide) k2⟩) (z07 (z0q (U.alloc _) (o1.alloc _) (by decide) k2) (by omega)) (z07 (z0q (U.alloc _) (o2.alloc _) (by decide) k2) (by omega))
   have Aj:=hid A2;have Ak:=hid (((z0u J.out q).alloc (z0u J.out q).size (.cells #[.slice al (z03 S i).1.length cl,.slice A4 (z03 S i).2.length A5] 93)).grown k2 (qi (z0u J.out q).size (eZ w2 _ none).size) (λk hk=>(U.lt k hk).1));obtain⟨a3,c3,e3⟩:=z02 k1;obtain⟨a4,c4,e4⟩:=z02 U;clear k1 k2 k3 A2 q1 U q3 o1 o2 Ae q G;subst e3;rw[e4] at A1;subst e4;go_wp2_with (at_builtin;refine qB _ rfl _ _ _ _ rfl _ _ rfl rfl _ _ A1 ?_)
   go_roundw
   case rel=>exact⟨i+1,by omega,by go_num,Aj.out,Ak.out⟩
   case measure=>simp[intOf];omega
  .have he:i=S.length:=by omega
   subst he;have h1:=HO.out;rw[qD] at h1;have H1:=hid h1;clear h1;go_wp2_with fail;go_ret;exact⟨_,rfl,H1.out,J.out⟩
end
section
open Go.RowKit
def znb (v:Value):Prop:=∀so n sc,v= .slice so n sc->n<=sc/\(so=none->sc=0)
theorem zbx {w:World}{q n G:Nat}{e:qn}{v:Value}{xs:List Value}(h:w.ownsRow q e G v n xs):znb v:=λso m sc e=>by
 rcases h.2 with⟨J,V⟩|⟨g,cap,O,J,_,_,U,_⟩
 .rw[J] at e;cases e;exact⟨qq _,λ_=>rfl⟩
 .rw[J] at e;cases e;exact⟨U,λe=>by cases e⟩
theorem z1c (l:List CL.Smp):CL.right l=true↔l.length<=2000/\l.Pairwise (λa b=>a.1<b.1)/\∀s∈l, -1099511627776<=s.1/\s.1<=1099511627776:=by
 rw[CL.z0J];have q:∀i (hi:i<l.length),CL.at' l i=l[i]:=λi hi=>by
  unfold CL.at';rw[q7,qw hi];rfl
 constructor
 .rintro⟨O,J⟩;refine⟨O,?_,λs U=>?_⟩
  .rw[qV];have step:∀n i,i+n<l.length->0<n->(CL.at' l i).1<(CL.at' l (i+n)).1:=by
    intro n
    induction n with
    | zero=>intro i _ h;omega
    | succ n ih=>
     intro i hi _;have G:=((CL.z10 l (i+(n+1))).1 (J _ hi)).2;have V:(CL.at' l (i+n)).1<(CL.at' l (i+(n+1))).1:=by
      rcases G with G|G
      .omega
      .exact G
     by_cases Y:n=0
     .subst Y;exact V
     .have:=ih i (by omega) (by omega);omega
   intro i j hi hj A1;have:=step (j-i) i (by omega) (by omega);rw[show i+(j-i)=j by omega,q i hi,q j hj] at this;exact this
  .obtain⟨i,hi,e⟩:=eI.1 U;have:=((CL.z10 l i).1 (J i hi)).1;rw[q i hi,e] at this;exact this
 .rintro⟨O,J,G⟩;refine⟨O,λi hi=>(CL.z10 l i).2 ⟨?_,?_⟩⟩
  .rw[q i hi];exact G _ (qK hi)
  .by_cases h0:i=0
   .exact .inl h0
   .right;rw[q i hi,q (i-1) (by omega)];exact qV.1 J (i-1) i (by omega) hi (by omega)
structure Gn where
 M:List LB.Mat
 fr:Int
 tt:Int
def atG (l:List Gn)(i:Nat):Gn:=l.getD i ⟨[],0,0⟩
def zez (w:World)(h:Option Addr)(l:List Gn):Prop:=∀i,i<l.length->∃b off,h=some ⟨b,off,none⟩/\b<w.heap.size/\∃mo mc,w.cell? ⟨b,off+i*3,none⟩=some (.slice mo (atG l i).M.length mc)/\w.cell? ⟨b,off+i*3+1,none⟩=some (.int .i64 (atG l i).fr)/\w.cell? ⟨b,off+i*3+2,none⟩=some (.int .i64 (atG l i).tt)/\z3s w mo (atG l i).M
abbrev goG (g:Gn):List LB.Lab->Int->Bool:=goP g.M λs=>decide (g.fr<=s)&&decide (s<=g.tt)
theorem zg1 {S:List Sr}(h:∀k,k<S.length->0<k->LB.cmp (z03 S (k-1)).1 (z03 S k).1<0):HD.Ord S:=by
 have key:∀j,j<S.length->∀i,i<j->LB.cmp (z03 S i).1 (z03 S j).1= -1:=by
  intro j
  induction j with
  | zero=>intro _ i hi;omega
  | succ j ih=>
   intro q i hi;have G:=BK.zbz (h (j+1) q (by omega));rw[Nat.add_sub_cancel] at G;by_cases e:i=j
   .rw[e];exact G
   .exact BK.z3j (ih (by omega) i (by omega)) G
 unfold HD.Ord;rw[qV];intro i j hi q J;rw[HD.z2d S i hi,HD.z2d S j q];exact key j q i J
theorem zdS {tp old:Int}{S:List Sr}(h:BK.right tp old S=true)(G:S.length<=4000)(J:∀i,i<S.length->∀s∈(z03 S i).2,CL.Rs s):HD.Good S:=by
 unfold BK.right at h;simp only[qI] at h;have q:=of_decide_eq_true h.1;refine⟨zg1 λk O U=>(q k O).2 U,G,λx V=>?_⟩;obtain⟨i,hi,rfl⟩:=HD.z3T V;have h2:=(q i hi).1;unfold BK.okS at h2;simp only[qI,decide_eq_true_eq] at h2;exact⟨h2.1,h2.2.1,h2.2.2.1,J i hi⟩
def zjp (w:World)(h:Option Addr)(a:List Sr):Prop:=∀i,i<a.length->∀b off,h=some ⟨b,off,none⟩->∀v,w.cell? ⟨b,off+i*2+1,none⟩=some v->znb v
def z5i (w:World)(v:Value)(S:List Sr):Prop:=∃ao cap,v= .slice ao S.length cap/\z0r w ao S/\zjp w ao S/\S.length<=cap/\(ao=none->cap=0)
theorem z5i.below {w w':World}{v:Value}{S:List Sr}(h:z5i w v S)(k:Below w.heap.size w w'):z5i w' v S:=by
 obtain⟨O,cap,U,h2,V,Y,h5⟩:=h;refine⟨O,cap,U,h2.below k,λi hi b off e u hu=>?_,Y,h5⟩;obtain⟨b2,G,J,q,_⟩:=h2 i hi;rw[e] at J;cases J;exact V i hi b off e u ((k.cell (p:=⟨b,_,none⟩) q).symm.trans hu)
theorem z5i.z08 {w:World}{q:Nat}{v:Value}{S:List Sr}(h:z0a w q v S):z5i w v S:=by
 obtain⟨G,cap,e,U⟩:=z0r.z08 h;obtain⟨xs,h1,h2,V⟩:=h;refine⟨G,cap,e,U,λi hi b off J u O=>?_,?_,?_⟩
 .rcases h2.2 with⟨h0,hn⟩|⟨g,c,Y,h0,_⟩
  .omega
  .rw[e] at h0;simp only[eC] at h0;rw[J] at h0;have hg:b=g/\off=0:=by
    have:=h0.1;simp only[qR,Addr.mk.injEq] at this;exact⟨this.1,this.2.1⟩
   obtain⟨rfl,rfl⟩:=hg;have c1:=h2.cells (g:=b) (by rw[e,J];rfl) _ _ (zr1 xs i (by omega)).2;rw[qP] at c1;rw[show 0+i*2+1=0+(i*2+1) by omega,c1] at O;cases O;exact zbx (V i hi).2
 .exact(zbx h2 G S.length cap e).1
 .exact(zbx h2 G S.length cap e).2
theorem zez.below {w w':World}{go:Option Addr}{q:List Gn}(h:zez w go q)(k:Below w.heap.size w w'):zez w' go q:=λi hi=>by
 obtain⟨b,off,e,hb,mo,mc,c0,c1,c2,G⟩:=h i hi;exact⟨b,off,e,qe hb k.size,mo,mc,(k.cell (p:=⟨b,_,none⟩) hb).trans c0,(k.cell (p:=⟨b,_,none⟩) hb).trans c1,(k.cell (p:=⟨b,_,none⟩) hb).trans c2,G.below k⟩
end
namespace SX
def In (S:List Sr)(L:List LB.Lab)(s:CL.Smp):Prop:=∃x∈S,x.1=L/\s∈x.2
structure z16 (S:List Sr):Prop where
 ord:HD.Ord S
 ris:∀x∈S,CL.z3R x.2
 ne:∀x∈S,0<x.2.length
theorem z16.nil:z16 []:=⟨yd,λx h=>by simp at h,λx h=>by simp at h⟩
theorem In.nil (L:List LB.Lab)(s:CL.Smp):¬In [] L s:=λ⟨x,h,_⟩=>by simp at h
theorem z16.z4b {S:List Sr}(h:HD.Good S):z16 S:=⟨h.ord,λx q=>CL.z3x _ (h.ok x q).2.1,λx q=>(h.ok x q).2.2.1⟩
theorem uniq {S:List Sr}(h:HD.Ord S){x y:Sr}(q:x∈S)(G:y∈S)(e:x.1=y.1):x=y:=by
 obtain⟨i,hi,rfl⟩:=HD.z3T q;obtain⟨j,J,rfl⟩:=HD.z3T G;rcases Nat.lt_trichotomy i j with k|k|k
 .have:=HD.z4N h i j k J;rw[e,HD.z1A] at this;exact absurd this (by decide)
 .rw[k]
 .have:=HD.z4N h j i k hi;rw[e,HD.z1A] at this;exact absurd this (by decide)
theorem ext {a b:List Sr}(ha:z16 a)(hb:z16 b)(h:∀L s,In a L s↔In b L s):a=b:=by
 have key:∀{a b:List Sr},z16 a->z16 b->(∀L s,In a L s↔In b L s)->∀x,x∈a->x∈b:=by
  intro a b ha hb h x J;obtain⟨s,hs⟩:=rG (ha.ne x J);obtain⟨y,O,U,_⟩:=(h x.1 s).1 ⟨x,J,rfl,hs⟩;have e2:x.2=y.2:=CL.z7Z _ _ (ha.ris x J) (hb.ris y O) λq=>by
   constructor
   .intro V;obtain⟨z,Y,ez,G⟩:=(h x.1 q).1 ⟨x,J,rfl,V⟩;rw[uniq hb.ord Y O (ez.trans U.symm)] at G;exact G
   .intro V;obtain⟨z,Y,ez,G⟩:=(h x.1 q).2 ⟨y,O,U,V⟩;rw[uniq ha.ord Y J ez] at G;exact G
  have:x=y:=Prod.ext U.symm e2;rw[this];exact O
 exact HD.zkI ha.ord hb.ord λx=>⟨key ha hb h x,key hb ha (λL s=>(h L s).symm) x⟩
theorem zeq {a b:List Sr}(ha:z16 a)(hb:z16 b)(L:List LB.Lab)(s:CL.Smp):In (HD.jn a b) L s↔In b L s\/(In a L s/\∀q,In b L q->q.1≠s.1):=by
 have V:=BK.z9L _ a b (qq _) ha.ord hb.ord;constructor
 .rintro⟨x,hx,ex,J⟩;rcases(V x).1 hx with⟨h1,h2⟩|⟨h1,_⟩|⟨u,O,v,h,Y,rfl⟩
  .exact wV ⟨⟨x,h1,ex,J⟩,λq ⟨y,U,ey,_⟩=>absurd (ey.trans ex.symm) (h2 y U)⟩
  .exact ew ⟨x,h1,ex,J⟩
  .rcases(CL.z2m _ _ (ha.ris u O) (hb.ris v h) s).1 J with k|⟨k,k2⟩
   .exact ew ⟨v,h,Y.symm.trans ex,k⟩
   .refine wV ⟨⟨u,O,ex,k⟩,λq ⟨y,U,ey,hq⟩=>?_⟩;rw[uniq hb.ord U h (ey.trans (ex.symm.trans Y))] at hq;exact k2 q hq
 .rintro(⟨v,h,ev,J⟩|⟨⟨u,O,eu,J⟩,A1⟩)
  .by_cases G:∃u∈a,u.1=v.1
   .obtain⟨u,O,e⟩:=G;exact⟨(u.1,CL.mrg u.2 v.2),(V _).2 (wV (wV ⟨u,O,v,h,e,rfl⟩)),e.trans ev,(CL.z2m _ _ (ha.ris u O) (hb.ris v h) s).2 (ew J)⟩
   .exact⟨v,(V v).2 (wV (ew ⟨h,λy U e=>G ⟨y,U,e⟩⟩)),ev,J⟩
  .by_cases G:∃v∈b,v.1=u.1
   .obtain⟨v,h,e⟩:=G;exact⟨(u.1,CL.mrg u.2 v.2),(V _).2 (wV (wV ⟨u,O,v,h,e.symm,rfl⟩)),eu,(CL.z2m _ _ (ha.ris u O) (hb.ris v h) s).2 (wV ⟨J,λy U=>A1 y ⟨v,h,e.trans eu,U⟩⟩)⟩
   .exact⟨u,(V u).2 (ew ⟨O,λy U e=>G ⟨y,U,e⟩⟩),eu,J⟩
theorem z4i {a b:List Sr}(ha:z16 a)(hb:z16 b):z16 (HD.jn a b):=by
 have O:=BK.z9L _ a b (qq _) ha.ord hb.ord;refine⟨BK.zmy _ a b (qq _) ha.ord hb.ord,λx G=>?_,λx G=>?_⟩
 .rcases(O x).1 G with⟨h,_⟩|⟨h,_⟩|⟨u,J,v,q,_,rfl⟩
  .exact ha.ris x h
  .exact hb.ris x h
  .exact CL.z3H _ _ (ha.ris u J) (hb.ris v q)
 .rcases(O x).1 G with⟨h,_⟩|⟨h,_⟩|⟨u,J,v,q,_,rfl⟩
  .exact ha.ne x h
  .exact hb.ne x h
  .obtain⟨s,U⟩:=rG (hb.ne v q);exact uN ((CL.z2m _ _ (ha.ris u J) (hb.ris v q) s).2 (ew U))
theorem z3N {S:List Sr}(p:List LB.Lab->Int->Bool)(L:List LB.Lab)(s:CL.Smp):In (HD.kp p S) L s↔In S L s/\p L s.1=true:=by
 constructor
 .rintro⟨x,q,G,hs⟩;obtain⟨y,J,rfl,_⟩:=BK.zd0.1 q;simp only[HD.z2v,wE] at hs G;subst G;exact⟨⟨y,J,rfl,hs.1⟩,hs.2⟩
 .rintro⟨⟨x,q,rfl,hs⟩,O⟩;have h:s∈(HD.z2v p x).2:=by simp only[HD.z2v,wE];exact⟨hs,O⟩
  exact⟨HD.z2v p x,BK.zd0.2 ⟨x,q,rfl,uN h⟩,rfl,h⟩
theorem z3u {S:List Sr}(h:z16 S)(p:List LB.Lab->Int->Bool):z16 (HD.kp p S):=by
 refine⟨?_,λx q=>?_,λx q=>?_⟩
 .unfold HD.kp HD.Ord;refine ow _ (eX.2 ?_);exact h.ord
 .obtain⟨y,G,rfl,_⟩:=BK.zd0.1 q;exact(h.ris y G).filter _
 .obtain⟨y,G,rfl,k⟩:=BK.zd0.1 q;exact k
def jns (l:List (List Sr)):List Sr:=l.foldl HD.jn []
theorem z7L:∀(l:List (List Sr)) (a:List Sr),z16 a->(∀x∈l,z16 x)->z16 (l.foldl HD.jn a)
 | [],_,h,_=>h
 | x::l,a,h,hl=>z7L l (HD.jn a x) (z4i h (hl x qd)) λy q=>hl y (qp _ q)
theorem zcz {l:List (List Sr)}(h:∀x∈l,z16 x):z16 (jns l):=z7L l [] z16.nil h
def Apart (a b:List Sr):Prop:=∀L s q,In a L s->In b L q->s.1≠q.1
theorem z4e {a b:List Sr}(G:z16 a)(hb:z16 b)(h:Apart a b)(L:List LB.Lab)(s:CL.Smp):In (HD.jn a b) L s↔In a L s\/In b L s:=by
 rw[zeq G hb];constructor
 .rintro(k|⟨k,_⟩)
  .exact wV k
  .exact ew k
 .rintro(k|k)
  .exact wV ⟨k,λq J e=>h L s q k J e.symm⟩
  .exact ew k
theorem zcx:∀(l:List (List Sr)) (a:List Sr),z16 a->(∀x∈l,z16 x)->(a::l).Pairwise Apart->∀L s,In (l.foldl HD.jn a) L s↔In a L s\/∃x∈l,In x L s
 | [],a,_,_,_,L,s=>by simp
 | x::l,a,h,hl,hp,L,s=>by
  obtain⟨V,h2⟩:=ql.1 hp;obtain⟨h3,h4⟩:=ql.1 h2;have O:=hl x qd;have G:=V x qd;have U:(HD.jn a x::l).Pairwise Apart:=ql.2 ⟨λy J L s q hs Y=>by
   rcases(z4e h O G L s).1 hs with k|k
   .exact V y (qp _ J) L s q k Y
   .exact h3 y J L s q k Y,h4⟩
  rw[yn,zcx l (HD.jn a x) (z4i h O) (λy J=>hl y (qp _ J)) U L s,z4e h O G L s];simp only[qg,exists_eq_or_imp,or_assoc]
theorem zjJ {l:List (List Sr)}(h:∀x∈l,z16 x)(G:l.Pairwise Apart)(L:List LB.Lab)(s:CL.Smp):In (jns l) L s↔∃x∈l,In x L s:=by
 unfold jns;rw[zcx l [] z16.nil h (ql.2 ⟨λy _ L s q J _=>absurd J (In.nil L s),G⟩) L s];simp[In.nil]
end SX
namespace SX
structure Blk where
 n:Int
 zto:Int
 S:List Sr
structure Sto where
 mark:Int
 H:List Sr
 B:List Blk
 nx:Int
 gn:Nat
def rows (s:Sto):List (List Sr):=s.B.map (·.S)++[s.H]
def all (s:Sto):List Sr:=jns (rows s)
structure Inv (s:Sto):Prop where
 blk:∀b∈s.B,z16 b.S
 head:HD.Good s.H
 tim:∀b∈s.B,∀L q,In b.S L q->q.1<=b.zto
 low:∀b∈s.B,b.zto<=s.mark
 hd:∀L q,In s.H L q->s.mark<q.1
 asc:s.B.Pairwise λb c=>b.n<c.n/\b.zto<c.zto/\∀L q,In c.S L q->b.zto<q.1
 num:∀b∈s.B,b.n<s.nx
theorem Inv.zlo {s:Sto}(h:Inv s):∀x∈rows s,z16 x:=λx q=>by
 simp only[rows,wu,qx,qk] at q;rcases q with⟨b,hb,rfl⟩|rfl
 .exact h.blk b hb
 .exact z16.z4b h.head
theorem Inv.zlJ {s:Sto}(h:Inv s):(rows s).Pairwise Apart:=by
 unfold rows;refine rq.2 ⟨eX.2 ?_,rQ _ _,?_⟩
 .refine pe (λ{b c} hb _ G L s q J O=>?_) h.asc;have Y:=h.tim b hb L s J;have h2:=G.2.2 L q O;omega
 .intro x U y V;simp only[qx,qk] at U V;obtain⟨b,hb,rfl⟩:=U;subst V;intro L s q J O;have Y:=h.tim b hb L s J;have h2:=h.low b hb;have h3:=h.hd L q O;omega
theorem z1s {s:Sto}(h:Inv s):z16 (all s):=zcz h.zlo
theorem z2c {s:Sto}(h:Inv s)(L:List LB.Lab)(q:CL.Smp):In (all s) L q↔(∃b∈s.B,In b.S L q)\/In s.H L q:=by
 unfold all;rw[zjJ h.zlo h.zlJ L q];simp only[rows,wu,qx,qk];constructor
 .rintro⟨x,⟨b,hb,rfl⟩|rfl,k⟩
  .exact ew ⟨b,hb,k⟩
  .exact wV k
 .rintro(⟨b,hb,k⟩|k)
  .exact⟨b.S,ew ⟨b,hb,rfl⟩,k⟩
  .exact⟨s.H,wV rfl,k⟩
def new:Sto:=⟨-1099511627777,[],[],0,0⟩
theorem zkZ:Inv new:=⟨λb h=>by simp[new] at h,HD.Good.nil,λb h=>by simp[new] at h,λb h=>by simp[new] at h,λL q h=>absurd h (In.nil L q),yd,λb h=>by simp[new] at h⟩
def lo (t:Int):List LB.Lab->Int->Bool:=λ_ s=>decide (s<=t)
def hi (t:Int):List LB.Lab->Int->Bool:=λ_ s=> !decide (s<=t)
def cut (t:Int)(s:Sto):Sto:=
 if HD.kp (lo t) s.H=[] then {s with H:=HD.kp (hi t) s.H,mark:=max s.mark t}
 else {s with H:=HD.kp (hi t) s.H,mark:=max s.mark t,B:=s.B++[⟨s.nx,max s.mark t,HD.kp (lo t) s.H⟩],nx:=s.nx+1}
theorem zbB {s:Sto}(h:Inv s)(t:Int):Inv (cut t s):=by
 have hN:=z16.z4b h.head;have O:∀L q,In (HD.kp (hi t) s.H) L q->max s.mark t<q.1:=λL q G=>by
  obtain⟨U,V⟩:=(z3N _ L q).1 G;have h3:=h.hd L q U;simp only[hi,iH,decide_eq_false_iff_not] at V;omega
 unfold cut;split
 .exact⟨h.blk,HD.z3h h.head,h.tim,λb hb=>by have:=h.low b hb;show b.zto<=max s.mark t;omega,O,h.asc,h.num⟩
 .rename_i Y;have hT:∀L q,In (HD.kp (lo t) s.H) L q->s.mark<q.1/\q.1<=t:=λL q G=>by
   obtain⟨U,V⟩:=(z3N _ L q).1 G;have h3:=h.hd L q U;simp only[lo,decide_eq_true_eq] at V;exact⟨h3,V⟩
  have J:∃L q,In (HD.kp (lo t) s.H) L q:=by
   obtain⟨x,hx⟩:=List.exists_mem_of_ne_nil _ Y;obtain⟨q,G⟩:=rG ((z3u hN (lo t)).ne x hx);exact⟨x.1,q,x,hx,rfl,G⟩
  obtain⟨L0,q0,h0⟩:=J;have A1:=hT L0 q0 h0;refine⟨λb hb=>?_,HD.z3h h.head,λb hb L q G=>?_,λb hb=>?_,O,?_,λb hb=>?_⟩
  .rcases wu.1 hb with k|k
   .exact h.blk b k
   .obtain rfl:=qk.1 k;exact z3u hN _
  .rcases wu.1 hb with k|k
   .exact h.tim b k L q G
   .obtain rfl:=qk.1 k;have:=hT L q G;show q.1<=max s.mark t;omega
  .rcases wu.1 hb with k|k
   .have:=h.low b k;show b.zto<=max s.mark t;omega
   .obtain rfl:=qk.1 k;exact eL _
  .refine rq.2 ⟨h.asc,rQ _ _,λb hb c hc=>?_⟩;obtain rfl:=qk.1 hc;have U:=h.low b hb;refine⟨h.num b hb,by show b.zto<max s.mark t;omega,λL q G=>?_⟩;have:=hT L q G;omega
  .show b.n<s.nx+1;rcases wu.1 hb with k|k
   .have:=h.num b k;omega
   .obtain rfl:=qk.1 k;show s.nx<s.nx+1;omega
theorem zeK {s:Sto}(h:Inv s)(t:Int):all (cut t s)=all s:=by
 refine ext (z1s (zbB h t)) (z1s h) λL q=>?_
 rw[z2c (zbB h t),z2c h];have G:In s.H L q↔In (HD.kp (lo t) s.H) L q\/In (HD.kp (hi t) s.H) L q:=by
  rw[z3N,z3N];simp only[lo,hi,decide_eq_true_eq,iH,decide_eq_false_iff_not];constructor
  .intro k;by_cases c:q.1<=t
   .exact ew ⟨k,c⟩
   .exact wV ⟨k,c⟩
  .rintro(k|k)<;>exact k.1
 rw[G];unfold cut;split
 .rename_i O;rw[O];simp[In.nil]
 .simp only[wu,qk];constructor
  .rintro(⟨b,k|rfl,J⟩|k)
   .exact ew ⟨b,k,J⟩
   .exact wV (ew J)
   .exact wV (wV k)
  .rintro(⟨b,k,J⟩|k|k)
   .exact ew ⟨b,ew k,J⟩
   .exact ew ⟨_,wV rfl,k⟩
   .exact wV k
def top:List Blk->Int
 | []=>0
 | [b]=>b.zto
 | b::c::l=>max b.zto (top (c::l))
theorem zh0:∀(l:List Blk) (b:Blk),b∈l->b.zto<=top l
 | [c],b,h=>by obtain rfl:=qk.1 h;exact eL _
 | c::d::l,b,h=>by
  unfold top;rcases qg.1 h with rfl|k
  .omega
  .have:=zh0 (d::l) b k;omega
theorem z9d:∀(l:List Blk),l≠[]->∃b∈l,top l=b.zto
 | [c],_=>⟨c,qd,rfl⟩
 | c::d::l,_=>by
  obtain⟨b,hb,e⟩:=z9d (d::l) (by simp);unfold top;by_cases k:top (d::l)<=c.zto
  .exact⟨c,qd,by omega⟩
  .exact⟨b,qp _ hb,by omega⟩
def compact (s:Sto):Sto:={s with B:=[⟨s.nx,top s.B,jns (s.B.map (·.S))⟩],nx:=s.nx+1,gn:=0}
theorem z6Q {s:Sto}(h:Inv s)(L:List LB.Lab)(q:CL.Smp):In (jns (s.B.map (·.S))) L q↔∃b∈s.B,In b.S L q:=by
 have G:=(rq.1 h.zlJ).1;rw[zjJ (λx J=>by obtain⟨b,hb,rfl⟩:=qx.1 J;exact h.blk b hb) G L q];simp only[qx];constructor
 .rintro⟨x,⟨b,hb,rfl⟩,k⟩;exact⟨b,hb,k⟩
 .rintro⟨b,hb,k⟩;exact⟨b.S,⟨b,hb,rfl⟩,k⟩
theorem z3Z {s:Sto}(h:Inv s)(G:s.B≠[]):Inv (compact s):=by
 refine⟨λb hb=>?_,h.head,λb hb L q J=>?_,λb hb=>?_,h.hd,rQ _ _,λb hb=>?_⟩
 .obtain rfl:=qk.1 hb;exact zcz λx O=>by obtain⟨b,hb,rfl⟩:=qx.1 O;exact h.blk b hb
 .obtain rfl:=qk.1 hb;obtain⟨b,hb,k⟩:=(z6Q h L q).1 J;exact Int.le_trans (h.tim b hb L q k) (zh0 _ b hb)
 .obtain rfl:=qk.1 hb;obtain⟨b,hb,e⟩:=z9d s.B G;show top s.B<=s.mark;rw[e];exact h.low b hb
 .obtain rfl:=qk.1 hb;show s.nx<s.nx+1;omega
theorem z7e {s:Sto}(h:Inv s)(G:s.B≠[]):all (compact s)=all s:=by
 refine ext (z1s (z3Z h G)) (z1s h) λL q=>?_
 rw[z2c (z3Z h G),z2c h,<-z6Q h];simp only[compact,qk,exists_eq_left]
def del (p:List LB.Lab->Int->Bool)(s:Sto):Sto:={s with H:=HD.kp p s.H,B:=s.B.map λb=>{b with S:=HD.kp p b.S},gn:=s.gn+1}
theorem zbo {s:Sto}(h:Inv s)(p:List LB.Lab->Int->Bool):Inv (del p s):=by
 refine⟨λb hb=>?_,HD.z3h h.head,λb hb L q J=>?_,λb hb=>?_,λL q J=>h.hd L q ((z3N _ L q).1 J).1,?_,λb hb=>?_⟩
 .obtain⟨c,G,rfl⟩:=qx.1 hb;exact z3u (h.blk c G) p
 .obtain⟨c,G,rfl⟩:=qx.1 hb;exact h.tim c G L q ((z3N _ L q).1 J).1
 .obtain⟨c,G,rfl⟩:=qx.1 hb;exact h.low c G
 .refine eX.2 (h.asc.imp λ{b c} k=>⟨k.1,k.2.1,λL q J=>k.2.2 L q ((z3N _ L q).1 J).1⟩)
 .obtain⟨c,G,rfl⟩:=qx.1 hb;exact h.num c G
theorem zfN {s:Sto}(h:Inv s)(p:List LB.Lab->Int->Bool):all (del p s)=HD.kp p (all s):=by
 refine ext (z1s (zbo h p)) (z3u (z1s h) p) λL q=>?_
 rw[z2c (zbo h p),z3N,z2c h];simp only[del];rw[z3N];constructor
 .rintro(⟨b,hb,k⟩|k)
  .obtain⟨c,J,rfl⟩:=qx.1 hb;have G:=(z3N p L q).1 k;exact⟨ew ⟨c,J,G.1⟩,G.2⟩
  .exact⟨wV k.1,k.2⟩
 .rintro⟨⟨b,hb,k⟩|k,kp⟩
  .exact ew ⟨_,qx.2 ⟨b,hb,rfl⟩,(z3N p L q).2 ⟨k,kp⟩⟩
  .exact wV ⟨k,kp⟩
def zas (t:Int)(s:Sto):Sto:={s with B:=s.B.filter λb=>decide (t<b.zto)}
theorem z81 {s:Sto}(h:Inv s)(t:Int):Inv (zas t s):=
 ⟨λb hb=>h.blk b (wE.1 hb).1,h.head,λb hb=>h.tim b (wE.1 hb).1,λb hb=>h.low b (wE.1 hb).1,h.hd,h.asc.filter _,λb hb=>h.num b (wE.1 hb).1⟩
theorem zeU {mark:Int}{S:List Sr}(_h:HD.Ord S){x:Sr}(Y:HD.err mark S x=0)(L:List LB.Lab)(q:CL.Smp):In (HD.nxt S x) L q↔In S L q\/(x.1=L/\q∈x.2):=by
 obtain⟨_,_,_,_,h5⟩:=HD.z3S Y;unfold HD.nxt;rcases h5 with⟨J,_,_⟩|⟨J,_⟩
 .rw[if_pos J];obtain⟨O,hc⟩:=decide_eq_true_iff.1 J;have U:=HD.cmp_eq hc;generalize HD.pos S x.1=k at O U;have e0:S=S.take k++z03 S k::S.drop (k+1):=by
   conv=>lhs;rw[<-List.take_append_drop k S,List.drop_eq_getElem_cons O,HD.z2d S k O]
  have e1:S.set k ((z03 S k).1,(z03 S k).2++x.2)=S.take k++((z03 S k).1,(z03 S k).2++x.2)::S.drop (k+1):=List.set_eq_take_append_cons_drop .. |>.trans (if_pos O);have key:∀(y:Sr),In (S.take k++y::S.drop (k+1)) L q↔(∃z,(z∈S.take k\/z∈S.drop (k+1))/\z.1=L/\q∈z.2)\/(y.1=L/\q∈y.2):=λy=>by
   unfold In;simp only[wu,qg];constructor
   .rintro⟨z,h|rfl|h,G⟩
    .exact ew ⟨z,ew h,G⟩
    .exact wV G
    .exact ew ⟨z,wV h,G⟩
   .rintro(⟨z,h|h,G⟩|G)
    .exact⟨z,ew h,G⟩
    .exact⟨z,wV (wV h),G⟩
    .exact⟨y,wV (ew rfl),G⟩
  have V:=key (z03 S k);rw[<-e0] at V;rw[e1,key,V];simp only[wu,U];constructor
  .rintro(h|⟨h,G|G⟩)
   .exact ew (ew h)
   .exact ew (wV ⟨h,G⟩)
   .exact wV ⟨h,G⟩
  .rintro((h|⟨h,G⟩)|⟨h,G⟩)
   .exact ew h
   .exact wV ⟨h,ew G⟩
   .exact wV ⟨h,wV G⟩
 .rw[if_neg (by rw[J];decide)];unfold In;constructor
  .rintro⟨z,h,G⟩;rcases(tH (HD.z2T S x.1)).1 h with rfl|h
   .exact wV G
   .exact ew ⟨z,h,G⟩
  .rintro(⟨z,h,G⟩|G)
   .exact⟨z,(tH (HD.z2T S x.1)).2 (wV h),G⟩
   .exact⟨x,(tH (HD.z2T S x.1)).2 (ew rfl),G⟩
theorem zcN {x:Sr}(h:CL.right x.2=true){q:CL.Smp}(G:q∈x.2):HD.firstT x<=q.1:=by
 have J:=CL.z3x _ h;obtain⟨i,hi,rfl⟩:=eI.1 G;have e:HD.firstT x=(x.2[0]'(by omega)).1:=by simp[HD.firstT,CL.at',List.getD,show 0<x.2.length by omega]
 rw[e];rcases Nat.eq_zero_or_pos i with k|k
 .subst k;exact eL _
 .have:=qV.1 J 0 i (by omega) hi k;omega
theorem zcL {mark:Int}:∀{S l:List Sr} {i:Nat},HD.Good S->(∀x∈l,∀s∈x.2,CL.Rs s)->(HD.run mark S l i).1=none->∀L q,(In (HD.run mark S l i).2 L q↔In S L q\/In l L q)/\(In l L q->mark<q.1)
 | S,[],_,_,_,_,L,q=>by
  refine⟨by simp[HD.run,In.nil],λh=>absurd h (In.nil L q)⟩
 | S,x::l,i,hg,hR,h,L,q=>by
  unfold HD.run at h ⊢;by_cases G:HD.err mark S x=0
  .rw[if_pos G] at h ⊢;have J:=HD.z8R hg G (hR x qd);obtain⟨O,U⟩:=zcL J (λy V=>hR y (qp _ V)) h L q;obtain⟨_,Y,_,hm,_⟩:=HD.z3S G;have hc:In (x::l) L q↔(x.1=L/\q∈x.2)\/In l L q:=by unfold In;simp only[qg,exists_eq_or_imp]
   rw[O,zeU hg.ord G,hc];refine⟨by simp only[or_assoc],?_⟩;rintro(⟨_,k⟩|k)
   .have:=zcN Y k;omega
   .exact U k
  .rw[if_neg G] at h;simp at h
theorem zkg {mark:Int}{S l:List Sr}(J:HD.Good S)(O:∀x∈l,∀s∈x.2,CL.Rs s)(h:(HD.app mark S l).1=(0, -1))(L:List LB.Lab)(q:CL.Smp):(In (HD.app mark S l).2 L q↔In S L q\/In l L q)/\(In l L q->mark<q.1):=by
 unfold HD.app at h ⊢;by_cases G:40<HD.total l
 .rw[if_pos G] at h;simp at h
 .rw[if_neg G] at h ⊢;rcases hr:HD.run mark S l 0 with⟨o,S'⟩;rcases o with _|⟨e,i⟩
  .have:=zcL (mark:=mark) (S:=S) (l:=l) (i:=0) J O (by rw[hr]) L q;rw[hr] at this;exact this
  .rw[hr] at h;simp only[Prod.mk.injEq] at h;omega
def app (l:List Sr)(s:Sto):Sto:={s with H:=(HD.app s.mark s.H l).2}
theorem z7t {s:Sto}(h:Inv s){l:List Sr}(J:∀x∈l,∀s∈x.2,CL.Rs s):Inv (app l s):=by
 refine⟨h.blk,HD.z6g h.head J,h.tim,h.low,λL q O=>?_,h.asc,h.num⟩;by_cases U:(HD.app s.mark s.H l).1=(0, -1)
 .obtain⟨h1,V⟩:=zkg h.head J U L q;rcases h1.1 O with k|k
  .exact h.hd L q k
  .exact V k
 .have G:In (HD.app s.mark s.H l).2 L q:=O;rw[HD.zci U] at G;exact h.hd L q G
theorem zdz {s:Sto}(h:Inv s){l:List Sr}(G:∀x∈l,∀s∈x.2,CL.Rs s)(J:(HD.app s.mark s.H l).1=(0, -1))(L:List LB.Lab)(q:CL.Smp):In (all (app l s)) L q↔In (all s) L q\/In l L q:=by
 rw[z2c (z7t h G),z2c h,or_assoc,<-(zkg h.head G J L q).1];rfl
theorem z6T (a b:List CL.Smp)(h:∀p∈a,∀q∈b,p.1≠q.1):(CL.mrg a b).length=a.length+b.length:=by
 match a,b with
 | [],b=>unfold CL.mrg;simp
 | p::a,[]=>unfold CL.mrg;simp
 | p::a,q::b=>
  unfold CL.mrg;have O:=h p qd q qd;split
  .rw[qf,z6T a (q::b) λx G y J=>h x (qp _ G) y J];simp only[qf];omega
  .rw[qf,z6T (p::a) b λx G y J=>h x G y (qp _ J)];simp only[qf];omega
 termination_by a.length+b.length
theorem Apart.zmF {x:Sr}{a b:List Sr}(h:Apart (x::a) b):Apart a b:=λL s q ⟨z,G,k⟩ J=>h L s q ⟨z,qp _ G,k⟩ J
theorem Apart.zn9 {x:Sr}{a b:List Sr}(h:Apart a (x::b)):Apart a b:=λL s q G ⟨z,J,k⟩=>h L s q G ⟨z,qp _ J,k⟩
theorem z5V:∀(a b:List Sr),Apart a b->HD.total (HD.jn a b)=HD.total a+HD.total b:=by
 intro a b h
 match a,b with
 | [],b=>rw[HD.z5d];simp[HD.total]
 | x::a,[]=>rw[HD.z6v];simp[HD.total]
 | x::a,y::b=>
  rcases BK.znk x.1 y.1 with k|k|k
  .rw[HD.ziU x y a b k,HD.z0f,z5V a (y::b) h.zmF,HD.z0f x];omega
  .rw[HD.zj4 x y a b k,HD.z0f,z5V (x::a) b h.zn9,HD.z0f y];omega
  .rw[HD.zib x y a b k,HD.z0f,z5V a b h.zmF.zn9,HD.z0f x,HD.z0f y];have e:=HD.cmp_eq k;have:=z6T x.2 y.2 λp G q J=>h x.1 p q ⟨x,qd,rfl,G⟩ ⟨y,qd,e.symm,J⟩
   show(CL.mrg x.2 y.2).length+_=_;omega
 termination_by a b=>a.length+b.length
theorem z7w:∀(l:List (List Sr)) (a:List Sr),z16 a->(∀x∈l,z16 x)->(a::l).Pairwise Apart->HD.total (l.foldl HD.jn a)=HD.total a+(l.map HD.total).sum
 | [],a,_,_,_=>by simp
 | x::l,a,h,hl,hp=>by
  obtain⟨U,h2⟩:=ql.1 hp;obtain⟨h3,h4⟩:=ql.1 h2;have V:=hl x qd;have G:=U x qd;have O:(HD.jn a x::l).Pairwise Apart:=ql.2 ⟨λy J L s q hs Y=>by
   rcases(z4e h V G L s).1 hs with k|k
   .exact U y (qp _ J) L s q k Y
   .exact h3 y J L s q k Y,h4⟩
  rw[yn,z7w l (HD.jn a x) (z4i h V) (λy J=>hl y (qp _ J)) O,z5V a x G,List.map_cons,List.sum_cons];omega
theorem z7i {s:Sto}(h:Inv s):HD.total (all s)=(s.B.map λb=>HD.total b.S).sum+HD.total s.H:=by
 unfold all jns;rw[z7w (rows s) [] z16.nil h.zlo (ql.2 ⟨λy _ L s q G _=>absurd G (In.nil L s),h.zlJ⟩)];simp[rows,HD.total,Function.comp_def]
theorem z6u {s:Sto}(h:Inv s){l:List Sr}(q:∀x∈l,∀s∈x.2,CL.Rs s)(G:(HD.app s.mark s.H l).1=(0, -1)):HD.total (all (app l s))=HD.total (all s)+HD.total l:=by
 rw[z7i (z7t h q),z7i h];show(s.B.map _).sum+HD.total (HD.app s.mark s.H l).2=_;rw[HD.z6u G];omega
end SX
namespace SX
def ch (l:List CL.Smp)(j:Nat):List CL.Smp:=(l.drop (40*j)).take 40
def chs (l:List CL.Smp):List (List CL.Smp):=(qN ((l.length+39)/40)).map (ch l)
def pieces (S:List Sr):List (List Sr):=S.flatMap λx=>(chs x.2).map λc=>[(x.1,c)]
def z9y (mark:Int):List (List Sr)->List Sr->Option (List Sr)
 | [],S=>some S
 | p::ps,S=>if(HD.app mark S p).1=(0, -1) then z9y mark ps (HD.app mark S p).2 else none
theorem z4j (mark:Int):∀(ps q:List (List Sr)) (S S':List Sr),z9y mark ps S=some S'->z9y mark (ps++q) S=z9y mark q S'
 | [],q,S,S',h=>by cases h;rfl
 | p::ps,q,S,S',h=>by
  rw[List.cons_append];rw[z9y] at h ⊢;by_cases e:(HD.app mark S p).1=(0, -1)
  .rw[if_pos e] at h ⊢;exact z4j mark ps q _ S' h
  .rw[if_neg e] at h;cases h
theorem zb3 (A:List Sr)(y:Sr):z03 (A++[y]) A.length=y:=by
 unfold z03;rw[q7,List.getElem?_append_right (qq _),ot];rfl
theorem zkw {A:List Sr}(h:HD.Ord A){L:List LB.Lab}(q:∀a∈A,LB.cmp a.1 L= -1):HD.pos A L=A.length/\HD.there A L=false:=by
 have e:=HD.zge h L A.length (qq _) (λi hi=>q _ (HD.at_mem A i hi)) (λi G J=>absurd G (by omega));refine⟨e.symm,?_⟩;unfold HD.there;rw[<-e];exact decide_eq_false λh=>absurd h.1 (by omega)
theorem zkY {A:List Sr}{y:Sr}(h:HD.Ord (A++[y])):HD.pos (A++[y]) y.1=A.length/\HD.there (A++[y]) y.1=true:=by
 have q:A.length<(A++[y]).length:=by simp
 have G:LB.cmp (z03 (A++[y]) A.length).1 y.1=0:=by rw[zb3];exact HD.z1A _
 exact⟨(HD.zfP h y.1 A.length q G).symm,(HD.z2z h y.1).2 ⟨A.length,q,G⟩⟩
theorem zfV {mark:Int}{S:List Sr}{x:Sr}(q:x.2.length<=40)(h:HD.err mark S x=0):HD.app mark S [x]=((0, -1),HD.nxt S x):=by
 unfold HD.app;rw[if_neg (by simp[HD.total];omega)];simp[HD.run,h]
theorem zfo {L:List LB.Lab}{c:List CL.Smp}{s:CL.Smp}(h:c[0]? =some s):HD.firstT (L,c)=s.1:=by
 unfold HD.firstT CL.at';rw[q7,h];rfl
theorem zmc {l:List CL.Smp}{j:Nat}(h:40*j<l.length):0<(ch l j).length/\(ch l j).length<=40:=by
 unfold ch;rw[qb,wI];omega
theorem zdk {l:List CL.Smp}(h:CL.right l=true)(j:Nat):CL.right (ch l j)=true:=by
 obtain⟨J,h2,q⟩:=(z1c l).1 h;refine(z1c _).2 ⟨?_,?_,λs G=>q s (uq (rE G))⟩
 .unfold ch;rw[qb,wI];omega
 .exact(h2.sublist (List.drop_sublist _ _)).sublist (List.take_sublist _ _)
theorem zcv {l:List CL.Smp}{j:Nat}(h:40*j<l.length)(L:List LB.Lab):HD.firstT (L,ch l j)=(l[40*j]'h).1:=by
 refine zfo ?_;unfold ch;rw[uJ (by omega),List.getElem?_drop,Nat.add_zero,qw h]
theorem zc1 (l:List CL.Smp)(j:Nat):l.take (40*j)++ch l j=l.take (40*(j+1)):=by
 unfold ch;rw[show 40*(j+1)=40*j+40 by omega,List.take_add]
theorem zjq {mark:Int}{A:List Sr}{x:Sr}(hO:HD.Ord A)(hA:A.length<60)(hx:∀a∈A,LB.cmp a.1 x.1= -1)(hk:HD.OkS x)(hm:∀s∈x.2,mark<s.1)(j:Nat)(hj:40*j<x.2.length+40):
  z9y mark ((qN j).map λi=>[(x.1,ch x.2 i)]) A=some (A++if j=0 then [] else [(x.1,x.2.take (40*j))]):=by
 obtain⟨k1,k2,k3,k4⟩:=hk;obtain⟨r1,r2,r3⟩:=(z1c x.2).1 k2
 induction j with
 | zero=>simp[z9y]
 | succ j ih=>
  have h:40*j<x.2.length:=by omega
  obtain⟨c1,c2⟩:=zmc h;rw[List.range_succ,List.map_append,z4j mark _ _ _ _ (ih (by omega)),if_neg (show ¬j+1=0 by omega)];have A2:mark<HD.firstT (x.1,ch x.2 j):=by rw[zcv h];exact hm _ (qK h)
  have key:∀S:List Sr,HD.err mark S (x.1,ch x.2 j)=0->HD.nxt S (x.1,ch x.2 j)=A++[(x.1,x.2.take (40*(j+1)))]->z9y mark [[(x.1,ch x.2 j)]] S=some (A++[(x.1,x.2.take (40*(j+1)))]):=by
   intro S he hn;unfold z9y;rw[zfV c2 he,if_pos rfl,hn];rfl
  have h0:¬(LB.right x.1=false\/CL.right (ch x.2 j)=false\/(ch x.2 j).length=0):=by
   rintro(e|e|e)
   .rw[k1] at e;cases e
   .rw[zdk k2 j] at e;cases e
   .omega
  by_cases q:j=0
  .subst q;rw[if_pos rfl,tB];obtain⟨U,O⟩:=zkw hO hx;refine key A ?_ ?_
   .unfold HD.err;rw[if_neg h0,if_neg (by omega),if_neg (by rw[O];simp),if_neg (by omega)]
   .unfold HD.nxt;rw[if_neg (by rw[O];simp),U,List.insertIdx_length_self];have:=zc1 x.2 0;simp only[Nat.mul_zero,List.take_zero,List.nil_append] at this;rw[this]
  .rw[if_neg q];have V:HD.Ord (A++[(x.1,x.2.take (40*j))]):=rq.2 ⟨hO,rQ _ _,λa ha b hb=>by rw[qk.1 hb];exact hx a ha⟩;obtain⟨U,O⟩:=zkY V;have G:HD.pos (A++[(x.1,x.2.take (40*j))]) x.1=A.length:=U;have J:HD.there (A++[(x.1,x.2.take (40*j))]) x.1=true:=O;have Y:(x.2.take (40*j)).length=40*j:=by rw[qb];omega
   have A1:HD.lastT (x.1,x.2.take (40*j))<HD.firstT (x.1,ch x.2 j):=by
    rw[zcv h];unfold HD.lastT CL.at';show((x.2.take (40*j)).getD ((x.2.take (40*j)).length-1) (0,0)).1<_;rw[Y,q7,uJ (by omega),qw (by omega)];exact qV.1 r2 _ _ _ _ (by omega)
   refine key _ ?_ ?_
   .unfold HD.err;rw[if_neg h0,if_neg (by omega),if_pos J,G,zb3,if_neg (by omega),if_neg ?_];show ¬2000<(x.2.take (40*j)).length+(ch x.2 j).length;have:=congrArg List.length (zc1 x.2 j);rw[q8,qb] at this;have h2:=List.length_take_le (40*(j+1)) x.2;have h3:(x.2.take (40*(j+1))).length<=x.2.length:=List.length_take_le' _ _;omega
   .unfold HD.nxt;rw[if_pos J,G,zb3];rw[List.set_append_right _ _ (qq _),ot];show A++[(x.1,x.2.take (40*j)++ch x.2 j)]=_;rw[zc1]
theorem zjz {mark:Int}{A:List Sr}{x:Sr}(q:HD.Ord A)(G:A.length<60)(J:∀a∈A,LB.cmp a.1 x.1= -1)(hk:HD.OkS x)(O:∀s∈x.2,mark<s.1):
  z9y mark ((chs x.2).map λc=>[(x.1,c)]) A=some (A++[x]):=by
 have U:0<x.2.length:=hk.2.2.1;have h:=zjq q G J hk O ((x.2.length+39)/40) (by omega);unfold chs;rw[List.map_map];show z9y mark ((qN ((x.2.length+39)/40)).map λi=>[(x.1,ch x.2 i)]) A=_;rw[h,if_neg (by omega),List.take_of_length_le (by omega)]
theorem z4h {mark:Int}:∀(R A:List Sr),HD.Good (A++R)->(A++R).length<=60->(∀x∈R,∀s∈x.2,mark<s.1)->z9y mark (pieces R) A=some (A++R)
 | [],A,_,_,_=>by simp[pieces,z9y]
 | x::R,A,hG,hn,hm=>by
  have h:=hG.ord;have hs:=rq.1 h;have e:pieces (x::R)=((chs x.2).map λc=>[(x.1,c)])++pieces R:=by simp[pieces]
  have q:=zjz (mark:=mark) (A:=A) (x:=x) hs.1 (by simp at hn;omega) (λa G=>hs.2.2 a G x qd) (hG.ok x (by simp)) (hm x qd);rw[e,z4j mark _ _ _ _ q];have J:A++x::R=(A++[x])++R:=by simp
  rw[J] at hG hn ⊢;exact z4h R (A++[x]) hG hn λy O=>hm y (qp _ O)
theorem z3i {S:List Sr}{p:List Sr}(h:p∈pieces S):∃x∈S,∃c,p=[(x.1,c)]/\c.length<=40/\∀s∈c,s∈x.2:=by
 obtain⟨x,q,G⟩:=List.mem_flatMap.1 h;obtain⟨c,J,rfl⟩:=qx.1 G;obtain⟨j,_,rfl⟩:=qx.1 J;refine⟨x,q,_,rfl,?_,λs O=>uq (rE O)⟩;unfold ch;rw[qb];omega
end SX
section
open Go.Maps Go.RowKit
def z0D (v:Value):Option (DataW Value×List MemPlace):=some (.held v,[])
abbrev kS (s:ByteArray):Lit:= .string s.data.toList
theorem zhv {s t:ByteArray}(h:kS s=kS t):s=t:=by
 simp only[kS,pP,Array.toList_inj] at h;cases s;cases t;simp only at h;rw[h]
theorem zk6 (s:ByteArray):WideAt.IsKeyLit (kS s):=trivial
theorem zhx (s t:ByteArray):(kS s).sameKey (kS t)=decide (s=t):=by
 by_cases h:s=t
 .subst h;simp[yD]
 .rw[decide_eq_false h];exact sameKey_ne λe=>h (zhv e)
def z5M (D:DataW Value)(f:ByteArray->Option Value):Prop:=
 IsMap D/\∀s,(f s=none->has D (kS s)=false)/\∀v,f s=some v->has D (kS s)=true/\∀z,D.atKey (kS s) z= .held v
def upd (f:ByteArray->Option Value)(s:ByteArray)(v:Value):ByteArray->Option Value:=λt=>if t=s then some v else f t
theorem zrb (f:ByteArray->Option Value)(s:ByteArray)(v:Value):upd f s v s=some v:=by unfold upd;rw[if_pos rfl]
theorem zgH (f:ByteArray->Option Value)(s t:ByteArray)(v:Value)(h:t≠s):upd f s v t=f t:=by unfold upd;rw[if_neg h]
theorem z5M.none:z5M (.map []) λ_=>none:=⟨isMap_empty,λ_=>⟨λ_=>rfl,λ_ h=>by cases h⟩⟩
theorem z5M.put {D:DataW Value}{f:ByteArray->Option Value}(h:z5M D f)(s:ByteArray)(v:Value):z5M (D.put (kS s) (.held v)) (upd f s v):=by
 refine⟨h.1.put _ _,λt=>?_⟩;by_cases e:t=s
 .subst e;rw[zrb];refine⟨λh=>(by cases h),λv' G=>?_⟩;cases G;exact⟨has_put_same h.1 (zk6 t) _,λz=>atKey_put_same h.1 (zk6 t) _ z⟩
 .rw[zgH _ _ _ _ e];have q:kS t≠kS s:=λJ=>e (zhv J)
  rw[has_put_other q];refine⟨(h.2 t).1,λv' G=>⟨((h.2 t).2 v' G).1,λz=>?_⟩⟩;rw[atKey_put_other q];exact((h.2 t).2 v' G).2 z
def z2g (P:rM)(k:qn)(w:World)(b n:Nat)(f:ByteArray->Option Value):Prop:=∃D,w.ownsMap P k z0D b n D/\z5M D f
section
variable {P : Program} {k : TypeId} {w : World} {b n : Nat} {f : ByteArray → Option Value}
theorem z2g.made (w:World)(P:rM)(k:qn):z2g P k (w.alloc (.map #[] 0)) w.heap.size 0 λ_=>none:=⟨_,World.ownsMap_made w P k z0D,z5M.none⟩
theorem z2g.mono (h:z2g P k w b n f){q:Nat}(G:n<=q):z2g P k w b q f:=by
 obtain⟨D,h1,J⟩:=h;exact⟨D,h1.mono G,J⟩
theorem z2g.lt (h:z2g P k w b n f):b<w.heap.size:=by
 obtain⟨D,h1,_⟩:=h;exact h1.lt
theorem z2g.isMap (h:z2g P k w b n f):∃G q,w.heap[b]? =some (.map G q):=by
 obtain⟨D,⟨G,q,J,_⟩,_⟩:=h;exact⟨G,q,J⟩
theorem z2g.block {w':World}(h:z2g P k w b n f)(hb:w'.heap[b]? =w.heap[b]?):z2g P k w' b n f:=by
 obtain⟨D,⟨G,q,J,O⟩,U⟩:=h;exact⟨D,⟨G,q,hb.trans J,O⟩,U⟩
theorem z2g.kept {w':World}{row:Option Nat}(h:z2g P k w b n f)(G:w.grownBy w' row)(q:some b≠row):z2g P k w' b n f:=h.block (G.block b h.lt q)
theorem z2g.alloc (h:z2g P k w b n f)(o:Obj):z2g P k (w.alloc o) b n f:=h.kept (eZ w o none) (by simp)
theorem z2g.below {w':World}{B:Nat}(h:z2g P k w b n f)(hb:Below B w w')(q:b<B):z2g P k w' b n f:=h.block (hb.block b q)
theorem z2g.look (h:z2g P k w b n f){t e:qn}(q:P.underlying k=some .string)(U:P.underlying t=some (.map k e)){z:Value}(V:∀W,(zeroValue e).run P W= .ok z W){s:ByteArray}(Y:s.size<=qS){u:Value}(J:(f s).getD z=u):
  (iE t (.map (some b)) (.string s) false).run P w= .ok u w:=by
 obtain⟨D,h1,h2⟩:=h;obtain⟨v,ps,G,hv⟩:=h1.lookup (string_keyed q) U (V w) (zd:= .held z) (zp:=[]) rfl (key:= .string s) (ep q Y);have e1:v=u:=by
  have O:uI v=D.atKey (kS s) (.held z):=congrArg y5 (qt hv);cases hf:f s with
  | none=>
   rw[atKey_of_not_has (((h2.2 s).1 hf))] at O;rw[hf] at J;rw[<-J];exact wF O
  | some v'=>
   rw[((h2.2 s).2 v' hf).2] at O;rw[hf] at J;rw[<-J];exact wF O
 rw[<-e1];exact G
theorem z2g.store (h:z2g P k w b n f){t e:qn}(q:P.underlying k=some .string)(J:P.underlying t=some (.map k e))(O:n<qS){s:ByteArray}(U:s.size<=qS)(u:Value):
  ∃w',(Instr.mapUpdate t (.map (some b)) (.string s) u).run P w= .ok () w'/\z2g P k w' b (n+1) (upd f s u)/\w.grownBy w' (some b):=by
 obtain⟨D,h1,h2⟩:=h;obtain⟨w',G,V,Y⟩:=h1.update (string_keyed q) J O (key:= .string s) (val:=u) (ep q U) (d:= .held u) (ps:=[]) rfl;exact⟨w',G,⟨_,V,h2.put s u⟩,Y⟩
theorem z4M {ops:Array Oper}{rest:List Oper}{o:Oper}{a:Act}{Q:Exit->Act->World->Prop}
  (J:o.guard=none) (m x v:r9) (t:qn) (G:o.op=Op.mapUpdate t m x v)
  (k e:qn) (h:P.underlying k=some .string) (O:P.underlying t=some (.map k e)) (b n:Nat) (f:ByteArray->Option Value)
  (U:a.eval m= .map (some b)) (q:z2g P k w b n f) (V:n<qS) (s:ByteArray) (Y:s.size<=qS) (u:Value) (hx:a.eval x= .string s) (hv:a.eval v=u)
  (hK:∀w',z2g P k w' b (n+1) (upd f s u)->w.grownBy w' (some b)->eG P ops Q rest (a.put o.dst undef) w'):
  eG P ops Q (o::rest) a w:=by
 obtain⟨D,h1,h2⟩:=q;exact wpList_mapUpdate_own w J m x v t G k e (string_keyed h) O z0D b n D U h1 V (.string s) u (kS s) hx hv (ep h Y) (.held u) [] rfl
  (λw' h3 h4=>hK w' ⟨_,h3,h2.put s u⟩ h4)
end
end
section
open Go.Maps Go.RowKit
def zhO (f:ByteArray->Option Value)(s:ByteArray):ByteArray->Option Value:=λt=>if t=s then none else f t
theorem zgW (f:ByteArray->Option Value)(s:ByteArray):zhO f s s=none:=by unfold zhO;rw[if_pos rfl]
theorem zew (f:ByteArray->Option Value)(s t:ByteArray)(h:t≠s):zhO f s t=f t:=by unfold zhO;rw[if_neg h]
theorem z5M.del {D:DataW Value}{f:ByteArray->Option Value}(h:z5M D f)(s:ByteArray):z5M (D.del (kS s)) (zhO f s):=by
 refine⟨h.1.del _,λt=>?_⟩;by_cases e:t=s
 .subst e;rw[zgW];exact⟨λ_=>has_del_same,λv' G=>by cases G⟩
 .rw[zew _ _ _ e];have q:kS t≠kS s:=λJ=>e (zhv J)
  rw[has_del_other q];refine⟨(h.2 t).1,λv' G=>⟨((h.2 t).2 v' G).1,λz=>?_⟩⟩;rw[atKey_del_other q];exact((h.2 t).2 v' G).2 z
section
variable {P : Program} {k : TypeId} {w : World} {b n : Nat} {f : ByteArray → Option Value}
theorem z2g.drop (h:z2g P k w b n f){t e:qn}(q:P.underlying k=some .string)(Y:P.underlying t=some (.map k e)){s:ByteArray}(hs:s.size<=qS)(U:qn):
  ∃w',(yc #[t,k] U #[.map (some b),.string s]).run P w= .ok (.tuple #[]) w'/\z2g P k w' b n (zhO f s)/\w.grownBy w' (some b)/\w'.heap.size=w.heap.size:=by
 obtain⟨D,h1,h2⟩:=h;obtain⟨w',G,h3,V⟩:=h1.drop (string_keyed q) Y (key:= .string s) (ep q hs) U;refine⟨w',G,⟨_,h3,h2.del s⟩,V.grown,?_⟩;obtain⟨es,O,A1,J,hb,rfl⟩:=V;simp[yt]
theorem z2g.look_ok (h:z2g P k w b n f){t e:qn}(O:P.underlying k=some .string)(ht:P.underlying t=some (.map k e)){z:Value}(hz:∀W,(zeroValue e).run P W= .ok z W){s:ByteArray}(hs:s.size<=qS){u:Value}(U:(f s).getD z=u){ok:Bool}(G:(f s).isSome=ok):
  (iE t (.map (some b)) (.string s) true).run P w= .ok (.tuple #[u,.bool ok]) w:=by
 obtain⟨D,h1,h2⟩:=h;obtain⟨v,ps,q,hv⟩:=h1.look_ok (string_keyed O) ht (hz w) (zd:= .held z) (zp:=[]) rfl (key:= .string s) (ep O hs);have V:uI v=D.atKey (kS s) (.held z):=congrArg y5 (qt hv);cases hf:f s with
 | none=>
  have Y:=(h2.2 s).1 hf;rw[atKey_of_not_has Y] at V;rw[hf] at U G;have J:has D (.string s.data.toList)=false:=Y;rw[J] at q;rw[<-U,<-G];rw[wF V] at q;exact q
 | some v'=>
  have Y:=((h2.2 s).2 v' hf).1;rw[((h2.2 s).2 v' hf).2] at V;rw[hf] at U G;have J:has D (.string s.data.toList)=true:=Y;rw[J] at q;rw[<-U,<-G];rw[wF V] at q;exact q
def z7V (P:rM)(k:qn)(w:World)(b r n:Nat)(f:ByteArray->Option Value)(left:ByteArray->Bool)(cnt:Nat):Prop:=
 ∃D lf,w.ranges P k z0D b r n D lf cnt/\z5M D f/\(∀s,left s=lf (kS s))/\∀kl,lf kl=true->∃s,kl=kS s
def z1a (left:ByteArray->Bool)(s:ByteArray):ByteArray->Bool:=λt=>left t&& !decide (t=s)
variable {r cnt : Nat} {left : ByteArray → Bool}
theorem z7V.block {w':World}(h:z7V P k w b r n f left cnt)(hb:w'.heap[b]? =w.heap[b]?)(J:w'.heap[r]? =w.heap[r]?):z7V P k w' b r n f left cnt:=by
 obtain⟨D,O,⟨U,q,G,seen,c0,V,Y,a3,a4,a5,a6⟩,h2,h3⟩:=h;exact⟨D,O,⟨U,q,G,seen,c0,hb.trans V,Y,a3,a4,J.trans a5,a6⟩,h2,h3⟩
theorem z7V.left_eq (h:z7V P k w b r n f left cnt):w.rangeLeft b r=cnt:=by
 obtain⟨D,q,h1,_⟩:=h;exact h1.left_eq
theorem z7V.lt (h:z7V P k w b r n f left cnt):r<w.heap.size:=by
 obtain⟨D,q,h1,_⟩:=h;exact h1.lt
theorem z7V.map (h:z7V P k w b r n f left cnt):z2g P k w b n f:=by
 obtain⟨D,G,h1,q,_⟩:=h;exact⟨D,h1.owns,q⟩
theorem z7V.iter (h:z7V P k w b r n f left cnt):∃i s c d,w.heap[r]? =some (.mapIter i s c d):=by
 obtain⟨D,O,⟨U,q,G,seen,c0,_,_,_,_,J,_⟩,_⟩:=h;exact⟨_,_,_,_,J⟩
theorem z7V.drop (h:z7V P k w b r n f left cnt){t e:qn}(q:P.underlying k=some .string)(Y:P.underlying t=some (.map k e)){s:ByteArray}(hs:s.size<=qS)(U:qn):
  ∃w' cnt',(yc #[t,k] U #[.map (some b),.string s]).run P w= .ok (.tuple #[]) w'/\z7V P k w' b r n (zhO f s) (z1a left s) cnt'/\cnt'<=cnt/\w.grownBy w' (some b)/\w'.heap.size=w.heap.size:=by
 obtain⟨D,lf,h1,h2,h3,h4⟩:=h;obtain⟨w',cnt',G,r1,r2,V⟩:=h1.drop (string_keyed q) Y (key:= .string s) (ep q hs) U;refine⟨w',cnt',G,⟨_,_,r1,h2.del s,λt=>?_,λkl hk=>?_⟩,r2,V.grown,?_⟩
 .show(left t&& !decide (t=s))=(lf (kS t)&& !(kS t).sameKey (kS s));rw[h3,zhx]
 .simp only[qI] at hk;exact h4 kl hk.1
 .obtain⟨es,O,A1,J,hb,rfl⟩:=V;simp[yt]
theorem z7J {ops:Array Oper}{rest:List Oper}{o:Oper}{a:Act}{Q:Exit->Act->World->Prop}
  (hg:o.guard=none) (m:r9) (t:qn) (Y:o.op=Op.range t m) (k e:qn) (G:P.underlying k=some .string) (ht:P.underlying t=some (.map k e)) (b n:Nat) (f:ByteArray->Option Value)
  (hm:a.eval m= .map (some b)) (J:z2g P k w b n f)
  (hK:∀w' cnt left,z7V P k w' b w.heap.size n f left cnt->(∀s,left s=(f s).isSome)->cnt<=n->w.grownBy w' none->w'.heap.size=w.heap.size+1->eG P ops Q rest (a.put o.dst (.pointer (some ⟨w.heap.size,0,none⟩))) w'):
  eG P ops Q (o::rest) a w:=by
 obtain⟨D,h1,h2⟩:=J;have A1:=h1.size_le;have A2:∀U,has D U=true->∃s,U=kS s:=by
  intro U O;obtain⟨es,A3,_,F,_,hD⟩:=h1;rw[hD,Maps.has_eq,ya] at O;obtain⟨x,hx,V⟩:=O;have A4:=(pT _).mem_iff.1 hx;obtain⟨y,hy,rfl⟩:=qx.1 A4;obtain⟨z,hz⟩:=F.reads y hy;have h:=WideElems.rd_key hz;rw[WideElems.rg_of hz] at V;generalize y.key=key at h;cases key<;>simp[keyOf,G,mapKey] at h;rename_i q;obtain⟨_,hq⟩:=h;rw[<-hq] at V;refine⟨q,?_⟩;cases U<;>simp[yD] at V;rw[kS,V]
 refine wpList_range_own w hg m t Y k e (string_keyed G) ht z0D b n D hm h1 (λw' h3 h4 h5=>hK w' _ (λs=>has D (kS s)) ⟨D,_,h3,h2,λ_=>rfl,A2⟩ (λs=>?_) A1 h4 h5);cases hf:f s with
 | none=>exact(h2.2 s).1 hf
 | some v=>exact((h2.2 s).2 v hf).1
theorem z9v {ops:Array Oper}{rest:List Oper}{o:Oper}{a:Act}{Q:Exit->Act->World->Prop}
  (hg:o.guard=none) (it:r9) (A1:o.op=Op.next it false) (k:qn) (G:P.underlying k=some .string) (b r n:Nat) (f:ByteArray->Option Value) (left:ByteArray->Bool) (cnt:Nat)
  (A2:a.eval it= .pointer (some ⟨r,0,none⟩)) (h:z7V P k w b r n f left cnt)
  (J:(∀s,left s=false)->eG P ops Q rest (a.put o.dst (.tuple #[.bool false])) w)
  (O:∀(s:ByteArray) (v:Value) (w':World) (cnt':Nat),s.size<=qS->f s=some v->left s=true->z7V P k w' b r n f (z1a left s) cnt'->cnt'<cnt->
   w.grownBy w' (some r)->w'.heap.size=w.heap.size->(Instr.entry (.pointer (some ⟨r,0,none⟩))).run P w'= .ok (.tuple #[.string s,v]) w'->eG P ops Q rest (a.put o.dst (.tuple #[.bool true,.string s,v])) w'):
  eG P ops Q (o::rest) a w:=by
 obtain⟨D,lf,h1,h2,h3,h4⟩:=h;refine wpList_next_ranges w hg it A1 k (string_keyed G) z0D Value.string id (λkey V hk=>?_) (λv y _=>⟨v,rfl⟩) b r n D lf cnt A2 h1 (λ_ hl=>J λs=>by rw[h3];exact hl _) ?_
 .cases key<;>simp[keyOf,G,mapKey] at hk;exact⟨_,rfl⟩
 .intro s v V y w' cnt' q A3 hv U A4 A5 A6 A7 A8;have hs:s.size<=qS/\V=kS s:=by
   simp[keyOf,G,mapKey] at q;exact⟨q.1,q.2.symm⟩
  obtain⟨A9,rfl⟩:=hs;have ey:y=(.held v,[]):=(qt hv).symm;subst ey;have Y:f s=some v:=by
   cases Y:f s with
   | none=>
    have:=(h2.2 s).1 Y;rw[has_true_of_atKey U] at this;cases this
   | some v'=>
    have e1:=((h2.2 s).2 v' Y).2 (.nil);rw[U] at e1;rw[wF e1]
  refine O s v w' cnt' A9 Y (by rw[h3];exact A3) ⟨D,_,A4,h2,λt=>?_,λV hk=>?_⟩ A5 A6 A7 A8
  .show(left t&& !decide (t=s))=(lf (kS t)&& !(kS t).sameKey (kS s));rw[h3,zhx]
  .simp only[qI] at hk;exact h4 V hk.1
theorem zr9 (left:ByteArray->Bool)(s:ByteArray):z1a (z1a left s) s=z1a left s:=by
 funext t
 unfold z1a;cases left t<;>cases decide (t=s)<;>rfl
end
end
end Go.Proofs.YtemeblgngidldaaGreatDoor
