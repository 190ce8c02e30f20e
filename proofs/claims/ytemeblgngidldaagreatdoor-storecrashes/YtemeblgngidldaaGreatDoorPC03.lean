/- Texts put together and made smaller by program: HdFnS HdFollowS HdInsS HdPartS HdStepS HdBehS HdSearchS CxName CxRight CsReg HdComeS DkReg. -/
import Derived.Test.YtemeblgngidldaaGreatDoorPC02
import Derived.Deep.RegionWith
import Derived.Deep.RegionLaw
import Derived.Shelf.Abstract
import Derived.Deep.DeepCutAuto
set_option linter.unusedVariables false
set_option linter.unusedSimpArgs false
set_option maxRecDepth 100000
set_option maxHeartbeats 12800000
open And renaming intro->qv
open Array renaming length_toList->qE,replicate->o4
open Bool renaming eq_iff_iff->ui,and_eq_true->qI
open ByteArray renaming empty->qy
open Go renaming heap_alloc_new->qu,heap_setCell_same->qo,Ending->rO,maxLen->qS,TypeId->qn,callFunc->ux,setRow_other->tP,setRow_heap->y8,size_zeroCells->pR,yielded->tz,execOp->eS,wpQuiet->tX,Operand->r9,Program->rM,execOp_put->iM,ready_mono->o3,wpList->eG
open Go.Act renaming put_comm->pq
open Go.Addr renaming add_lit->qP
open Go.BigFrame renaming wpQuiet_want->uS
open Go.Builtin renaming append_->rF,copy_->tY,zeroCells->wv
open Go.Calls renaming mono->wU
open Go.Code renaming region->yW
open Go.Extern.SlicesOverlaps renaming overlaps->iW
open Go.Instr renaming loadAt->wZ
open Go.IntKind renaming i64->qW,wrap_i64->qY
open Go.Lib renaming wpList_append_run->qB
open Go.Obj.cells renaming injEq->rI
open Go.Oper renaming quietAt->oK,wp->oy,upon->oS
open Go.Region renaming wanted->wy,ready->wm,noSelect->eh,binds->rp,free->oA
open Go.Value renaming agg->uw
open Go.Value.slice renaming injEq->eC
open Go.World renaming cell?->qs,cell?_of_block->qj,ownsRow->yL,grownBy_alloc->eZ
open List renaming take_length->qD,length_append->q8,getElem?_cons_zero->qF,length_take->qb,length_drop->wI,length_cons->qf,length_nil->qO,mem_cons->qg,append_assoc->qm,take_append_of_le_length->eK,take_take->tf,take_of_length_le->qL,getElem?_take->yS,size_toArray->ru,getElem?_drop->tJ,mem_of_mem_drop->uq,length_filter_le->eR,filter_append->ef,filter_cons->rZ,length_set->wC,length_insertIdx->iq,getD_eq_getElem?_getD->q7,getElem?_append_left->wD,getElem?_append_right->eW,map_cons->wR
open List.cons renaming injEq->tG
open Nat renaming le_refl->qq,le_trans->qi,lt_of_lt_of_le->qe,le_of_lt->oe,lt_of_succ_lt->uA,le_succ->wP,zero_add->qT,zero_le->qh,le_of_eq->rD,min_def->rW,min->uj,le_succ_of_le->iB,sub_self->ot,eq_or_lt_of_le->uT,decEq->pO
open Option renaming map_some->rK
open Option.some renaming injEq->qR,inj->qt
open Prod.mk renaming injEq->eT
open Go.Proofs.Tryz renaming prog->q6
open Go.Proofs.Tryz
namespace Go.Proofs.YtemeblgngidldaaGreatDoor
section
open Go.RowKit
theorem z6o (mark:Int)(w:World):
  Calls q6 50 #[.int .i64 mark] w λe w'=>e= .returned (.pointer (some ⟨w.heap.size,0,none⟩))/\w'=w.alloc (.cells #[.int .i64 mark,.slice none 0 0] 165):=by
 go_enter func50,ntmps50;go_wp2;go_ret;exact⟨rfl,rfl⟩
theorem HdI.new (mark:Int)(w:World):HdI (w.alloc (.cells #[.int .i64 mark,.slice none 0 0] 165)) w.heap.size (λj=>w.heap.size<=j/\j<w.heap.size+1) mark []:=by
 refine⟨⟨.slice none 0 0,[],⟨qu w _,rfl,⟨rfl,.inl ⟨rfl,rfl⟩⟩,λi hi=>by simp at hi,λi hi=>by simp at hi,λi j hi=>by simp at hi⟩,λi hi=>by simp at hi⟩,⟨qq _,Nat.lt_succ_self _⟩,λj h=>?_⟩;simp;omega
theorem z3v (hb:Nat)(mark:Int)(v:Value)(w:World)(h:w.heap[hb]? =some (.cells #[.int .i64 mark,v] 165)):
  Calls q6 49 #[.pointer (some ⟨hb,0,none⟩)] w λe w'=>e= .returned (.int .i64 mark)/\w'=w:=by
 have q:w.cell? ⟨hb,0,none⟩=some (.int .i64 mark):=by simp[qs,h]
 clear h;go_enter func49,ntmps49;go_wp2;go_ret;exact⟨rfl,rfl⟩
theorem zb7 (ao:Option Addr)(l:List Sr)(cap:Nat)(w:World)(hL:z0r w ao l)(hl:l.length<=1000)(hs:∀i,i<l.length->(z03 l i).2.length<=1000):
  Calls q6 100 #[.slice ao l.length cap] w λe w'=>e= .returned (.bool (decide (40<HD.total l)))/\Below w.heap.size w w':=by
 have HL:=hid hL;have Y:=hid hs;clear hL hs;go_enter func100,ntmps100;go_wp2;go_loopw [3,5,8] (λtc _ ti wr=>∃i:Nat,i<=l.length/\ti= .int .i64 i/\tc= .int .i64 (HD.total (l.take i))/\HD.total (l.take i)<=i*1000/\Below w.heap.size w wr) (λ_ _ ti _=>l.length-(intOf ti).toNat)
 case atStart=>exact⟨0,by omega,rfl,rfl,qq _,Below.refl _ _⟩
 case round=>
  obtain⟨i,hi,rfl,rfl,A1,q⟩:=hrel;have h:=hid q;clear q;by_cases G:i<l.length
  .obtain⟨b,off,A2,J,lo,lc,so,sc,O,U,_,_⟩:=HL.out i G;subst A2;have e0:wr.cell? ⟨b,off+i*2,none⟩=some (.slice lo (z03 l i).1.length lc):=(h.out.cell (p:=⟨b,_,none⟩) J).trans O;have e1:wr.cell? ⟨b,off+i*2+1,none⟩=some (.slice so (z03 l i).2.length sc):=(h.out.cell (p:=⟨b,_,none⟩) J).trans U;have V:=hid (HD.z14 l i G);have A3:=Y.out i G;clear O U;generalize (z03 l i).2.length=n at*;generalize (z03 l i).1.length=m at*;generalize HD.total (l.take i)=t at*;have A4:0<=(i:Int)/\(i:Int)<(l.length:Int):=by omega
   go_wp2_with fail;go_roundw
   case rel=>exact⟨i+1,by omega,by go_num,by rw[V.out];go_num,by rw[V.out];omega,h.out.alloc (qi h.out.size (qq _)) _⟩
   case measure=>simp[intOf];omega
  .have he:i=l.length:=by omega
   subst he;rw[qD] at A1 ⊢;generalize hT:HD.total l=t at*;have V:=hid hT;clear hT;go_wp2_with fail;go_ret;exact⟨by rw[V.out];exact z05 (by simp only[decide_eq_decide];omega),h.out⟩
abbrev srV (lo:Option Addr)(h q:Nat)(so:Option Addr)(G sc:Nat):Value:= .agg #[.slice lo h q,.slice so G sc]
theorem z2r (q:Option Addr)(l:List LB.Lab)(c:Nat)(w:World)(h:z1w w q l)(G:0<l.length)(J:l.length<=1000000):
  Calls q6 45 #[.slice q l.length c] w λO w'=>∃v',O= .returned v'/\z0x w' w.heap.size v' l/\Below w.heap.size w w':=by
 obtain⟨b,off,e,_,_,hb⟩:=h 0 G;subst e;exact zn5 ⟨b,off,none⟩ l.length c (lv l) w (zaW l) (zdQ h _ rfl) hb (zmZ l) J
theorem z8g (q:Option Addr)(l:List CL.Smp)(c:Nat)(w:World)(h:z1I w q l)(G:0<l.length)(J:l.length<=1000000):
  Calls q6 92 #[.slice q l.length c] w λO w'=>∃v',O= .returned v'/\z0h w' w.heap.size v' l/\Below w.heap.size w w':=by
 obtain⟨b,off,e,_,_,hb⟩:=h 0 G;subst e;exact zmL ⟨b,off,none⟩ l.length c (sv l) w (z1d l) (z9N h _ rfl) hb (zkh l) J
theorem z7P (x:Sr)(lo so:Option Addr)(O sc:Nat)(w:World)(hL:z1w w lo x.1)(hS:z1I w so x.2)(h1:0<x.1.length)(h2:0<x.2.length)(h3:x.1.length<=1000000)(h4:x.2.length<=1000000):
  Calls q6 108 #[srV lo x.1.length O so x.2.length sc] w λe w'=>∃vl vs,e= .returned (.agg #[vl,vs])/\z0x w' w.heap.size vl x.1/\z0h w' w.heap.size vs x.2/\Below w.heap.size w w':=by
 have G:Below w.heap.size w ((w.alloc (.cells #[.slice lo x.1.length O,.slice so x.2.length sc] 93)).alloc (.cells #[.slice none 0 0,.slice none 0 0] 93)):=((Below.refl _ w).alloc (qq _) _).alloc (by simp) _;have h:((w.alloc (.cells #[.slice lo x.1.length O,.slice so x.2.length sc] 93)).alloc (.cells #[.slice none 0 0,.slice none 0 0] 93)).heap[w.heap.size]? =some (.cells #[.slice lo x.1.length O,.slice so x.2.length sc] 93):=(Below.heap_alloc _ _ _ (by simp)).trans (qu w _);have U:((w.alloc (.cells #[.slice lo x.1.length O,.slice so x.2.length sc] 93)).alloc (.cells #[.slice none 0 0,.slice none 0 0] 93)).heap[w.heap.size+1]? =some (.cells #[.slice none 0 0,.slice none 0 0] 93):=by
  have:=qu (w.alloc (.cells #[.slice lo x.1.length O,.slice so x.2.length sc] 93)) (.cells #[.slice none 0 0,.slice none 0 0] 93);simpa using this
 have A7:Hid (∀W,Below w.heap.size w W->Calls q6 45 #[.slice lo x.1.length O] W λen w'=>∃v',en= .returned v'/\z0x w' W.heap.size v' x.1/\Below W.heap.size W w'):=λW hW=>z2r lo x.1 O W (hL.below hW) h1 h3
 have A8:Hid (∀W,Below w.heap.size w W->Calls q6 92 #[.slice so x.2.length sc] W λen w'=>∃v',en= .returned v'/\z0h w' W.heap.size v' x.2/\Below W.heap.size W w'):=λW hW=>z8g so x.2 sc W (hS.below hW) h2 h4
 clear hL hS h1 h2 h3 h4;go_enter func108,ntmps108;go_wp2_with fail;generalize A9:((w.alloc (.cells #[.slice lo x.1.length O,.slice so x.2.length sc] 93)).alloc (.cells #[.slice none 0 0,.slice none 0 0] 93))=W0 at*;have c0:W0.cell? ⟨w.heap.size,0,none⟩=some (.slice lo x.1.length O):=z01 _ _ _ _ h 0 _ rfl;have c1:W0.cell? ⟨w.heap.size,1,none⟩=some (.slice so x.2.length sc):=z01 _ _ _ _ h 1 _ rfl;have V:=hid G;have HX:=hid h;have HR:=hid U;clear G h U A9
 go_region_with (first
  | (go_at_call 45;refine(A7.out _ (by exact V.out.drew)).mono ?_;rintro en w2 ⟨v2,rfl,Y,A1⟩;have y0:=(qj (a:=⟨w.heap.size,1,none⟩) (A1.block w.heap.size (z00 HX.out))).trans c1;have Ac:=hid Y;have J:=hid A1;obtain⟨Ai,Ag,e2⟩:=z02 Y;clear Y A1)
  | (go_at_call 92;refine(A8.out _ (by exact z0u V.out.drew J.out)).mono ?_;rintro en w3 ⟨v3,rfl,A2,A3⟩;have q:=(A3.block (w.heap.size+1) (qe (z00 HR.out) J.out.size)).trans ((J.out.block (w.heap.size+1) (z00 HR.out)).trans HR.out);have z0:=z01 _ _ _ _ q 0 _ rfl;have z1:=z01 _ _ _ _ q 1 _ rfl;have f0:=hfz q 0;have f1:=hfz q 1;have Ad:=hid q;clear q;have Ae:=hid A2;have A5:=hid A3;obtain⟨Aj,Ah,e3⟩:=z02 A2;clear A2 A3))
 all_goals go_wp2_with fail
 all_goals refine bodyPost_ret (results_cell_row (P:=q6) rfl _ _ (w.heap.size+1) 93 _ (0,0) _ rfl (qo _ _ 1 _ _ _ (qo _ _ 0 _ _ _ Ad.out)) underlying93 rfl (by kernel_rfl)) rfl ?_
 all_goals
  subst e2;subst e3;have A4:w.heap.size+1<W0.drew.heap.size:=z00 HR.out;have Af:=J.out.size;have k2:z0x w3 W0.drew.heap.size _ x.1:=z04 Ac.out λg _ hg=>A5.out.block g (z00 hg)
  have k3:z0h w3 w2.heap.size _ x.2:=Ae.out;have A6:w.heap.size+1<w2.heap.size:=qe A4 Af;have n2:=z8A (r:=w.heap.size+1) k2 A4;have n3:=z8A (r:=w.heap.size+1) k3 A6;exact⟨_,_,rfl,z07 (z0y (z0y k2 n2 0 _) n2 1 _) (oe (uA A4)),z07 (z0y (z0y k3 n3 0 _) n3 1 _) (oe (uA A6)),((z0u (z0u V.out.drew J.out) A5.out).setCell (p:=⟨w.heap.size+1,0,none⟩) (wP _) _).setCell (p:=⟨w.heap.size+1,1,none⟩) (wP _) _⟩
end
section
open Go.RowKit
theorem zh8:∃i,q6.info? 98=some i/\i.zero=some (.agg #[.int .i64 0,.int .i64 0])/\i.size=2/\i.bytes=16:=by
 have h:=Tryz.info98;cases hq:q6.info? 98 with
 | none=>rw[hq] at h;cases h
 | some i=>
  rw[hq] at h;simp only[rK,qR,eT] at h;exact⟨i,rfl,h⟩
theorem Tryz.uSms:q6.underlying 91=some (.slice 98):=by kernel_rfl
def zad (g o:Nat)(u:Value)(y l:List CL.Smp)(w:World)(e:rO)(w':World):Prop:=
 if(CL.at' l 0).1<=(CL.at' y (y.length-1)).1 then e= .returned (.int .i64 10)/\Below w.heap.size w w'
 else if 2000<y.length+l.length then e= .returned (.int .i64 12)/\Below w.heap.size w w'
 else e= .returned (.int .i64 0)/\∃u' W,z0h W 0 u' (y++l)/\z0h W 0 u y/\w.grownBy W u.ownBlock/\(u'.ownBlock=u.ownBlock\/u'.ownBlock=some w.heap.size)/\w'=W.setCell ⟨g,o,none⟩ u'
theorem zdL (g k:Nat)(u:Value)(y l:List CL.Smp)(so:Option Addr)(sc:Nat)(cr:Array Value)(w:World)(hg:w.heap[g]? =some (.cells cr 93))(A1:cr[k*2+1]? =some u)(hu:z0h w 0 u y)(hy:0<y.length)(hS:z1I w so l)(hl:0<l.length)(Ae:y.length<=2000)(Af:l.length<=2000):
  Calls q6 150 #[.pointer (some ⟨g,k*2,none⟩),.slice so l.length sc] w λe w'=>zad g (k*2+1) u y l w e w':=by
 obtain⟨b,off,Y,c0,_,Ag⟩:=hS 0 hl;have h:w.cell? ⟨g,k*2+1,none⟩=some u:=z01 _ _ _ _ hg _ _ A1;have A2:=hfz hg (k*2+1);obtain⟨G,cap,J,O,_,U,Ac,_⟩:∃G cap J,u= .slice (some ⟨G,0,none⟩) y.length cap/\0<=G/\w.heap[G]? =some (.cells J 98)/\y.length<=cap/\True:=by
  rcases hu.2 with⟨_,h0⟩|⟨G,cap,J,h0,q,h2,h3,_⟩
  .omega
  .exact⟨G,cap,J,h0,q,h2,h3,trivial⟩
 have A5:w.cell? ⟨G,(y.length-1)*2,none⟩=some (.int .i64 (CL.at' y (y.length-1)).1):=by
  have:=hu.cells (g:=G) (by rw[O];rfl) _ _ (z6Y y (y.length-1) (by omega)).1;rwa[qP,qT] at this
 have A6:g<w.heap.size:=z00 hg;have A3:G≠g:=λe=>by
  rw[e,hg] at U;simp only[qR,rI] at U;exact absurd U.2.1 (by decide)
 have key:∀W:World,W.heap=w.heap->W.os=w.os->W.tape=w.tape->W.output=w.output->∃v' w',(rF #[91,91] 91 #[u,.slice so l.length sc]).run q6 W= .ok v' w'/\z0h w' 0 v' (y++l)/\z0h w' 0 u y/\w.grownBy w' u.ownBlock/\(v'.ownBlock=u.ownBlock\/v'.ownBlock=some w.heap.size):=λW q h2 h3 h4=>by
  obtain⟨i,hi,hz,hs,A7⟩:=zh8;have hW:W.ownsRow 0 98 2 u y.length (sv y):=z2L hu q;have A8:z1I W so l:=λi hi=>by
   obtain⟨b,off,a1,a2,a3,a4⟩:=hS i hi;exact⟨b,off,a1,(by simpa [qs,q] using a2),(by simpa [qs,q] using a3),by rw[q];exact a4⟩
  have hh:=z2P (P:=q6) W 0 91 91 98 i _ 2 16 Tryz.uSms hi hz hs A7 rfl (by omega) u y.length (sv y) hW ⟨b,off,none⟩ l.length sc (sv l) hl (z1d l) (z9N A8 _ Y) (zkh l) (by unfold qS;omega) (by omega) (qh _);obtain⟨v',w',a1,a2,a3,a4,a5⟩:=hh;refine⟨v',w',by rw[Y];exact a1,?_,a3,⟨a4.os.trans h2,a4.tape.trans h3,a4.output.trans h4,by rw[<-q];exact a4.size,λk hk hn=>by rw[a4.block k (by rw[q];exact hk) hn,q]⟩,by rw[<-q];exact a5⟩;show yL _ _ _ _ _ _ _;rw[q8,z0P];exact a2
 have HK:=hid key;have A4:=hid O;have Ah:w.cell? ⟨b,off,none⟩=some (.int .i64 (CL.at' l 0).1):=by simpa using c0
 have Ai:0<=((y.length:Int)-1)/\((y.length:Int)-1)<(y.length:Int):=by omega
 have Aj:qW.wrap ((y.length:Int)-1)=(y.length:Int)-1:=by rw[qY];omega
 have Ak:((y.length:Int)-1).toNat=y.length-1:=by omega
 have Al:qW.wrap ((y.length:Int)+(l.length:Int))=(y.length:Int)+(l.length:Int):=by rw[qY];omega
 subst Y;rw[O] at h;have Am:(0:Int)<(l.length:Int):=by omega
 clear key hu hS c0 A1 U O hg;unfold zad;generalize (CL.at' l 0).1=t0 at*;generalize (CL.at' y (y.length-1)).1=t1 at*;go_enter func150,ntmps150;go_wp2_with fail
 go_quiet (fail)
 by_cases q:t0<=t1
 .go_wp2_with fail;go_ret;exact⟨rfl,z0k (Below.refl _ _) _⟩
 .by_cases h2:2000<y.length+l.length
  .have A9:(2000:Int)<(y.length:Int)+(l.length:Int):=by omega
   go_wp2_with fail;go_ret;exact⟨rfl,z0k (Below.refl _ _) _⟩
  .have A9:¬(2000:Int)<(y.length:Int)+(l.length:Int):=by omega
   obtain⟨v',W,V,k1,k2,k3,k4⟩:=HK.out (w.drewN nq) rfl rfl rfl rfl;rw[A4.out] at V k3;have y1:W.cell? ⟨g,k*2+1,none⟩=some (Value.slice (some ⟨G,0,none⟩) y.length cap):=k3.cell (a:=⟨g,k*2+1,none⟩) h (λe=>A3 (qt e).symm);have y2:W.frozen? ⟨g,k*2+1,none⟩=false:=(World.frozen?_of_block (a:=⟨g,k*2+1,none⟩) (k3.block g A6 (λe=>A3 (qt e).symm))).trans A2;have HQ:=hid (qv k1 (qv k2 (qv k3 k4)));obtain⟨Ao,Ad,rfl⟩:=z02 k1;clear k1 k2 k3 k4 HK;go_wp2_with (at_builtin;refine qB _ rfl _ _ _ _ rfl _ _ rfl rfl _ _ V ?_)
   go_ret;refine⟨rfl,_,W,HQ.out.1,HQ.out.2.1,?_,HQ.out.2.2.2,by rw[q8]⟩;rw[A4.out];exact HQ.out.2.2.1
def zlO (y l:List CL.Smp):Int:=if(CL.at' l 0).1<=(CL.at' y (y.length-1)).1 then 10 else if 2000<y.length+l.length then 12 else 0
theorem zad.code {g o:Nat}{u:Value}{y l:List CL.Smp}{w w':World}{e:rO}(h:zad g o u y l w e w'):e= .returned (.int .i64 (zlO y l))/\(zlO y l≠0->Below w.heap.size w w')/\(zlO y l=0->∃u' W,z0h W 0 u' (y++l)/\z0h W 0 u y/\w.grownBy W u.ownBlock/\(u'.ownBlock=u.ownBlock\/u'.ownBlock=some w.heap.size)/\w'=W.setCell ⟨g,o,none⟩ u'):=by
 unfold zad at h;unfold zlO;split at h
 .rename_i q;simp only[if_pos q];exact⟨h.1,λ_=>h.2,λe=>by simp at e⟩
 .rename_i q;simp only[if_neg q];split at h
  .rename_i G;simp only[if_pos G];exact⟨h.1,λ_=>h.2,λe=>by simp at e⟩
  .rename_i G;simp only[if_neg G];exact⟨h.1,λe=>absurd rfl e,λ_=>h.2⟩
end
section
open Go.RowKit
theorem Tryz.uSrs:q6.underlying 39=some (.slice 93):=by kernel_rfl
theorem Tryz.uInt3:q6.underlying 3=some (.int .i64):=by kernel_rfl
theorem Tryz.szSr:(q6.info? 93).map (·.size)=some 2:=by kernel_rfl
theorem z6r:∃i,q6.info? 93=some i/\i.zero=some (.agg #[.slice none 0 0,.slice none 0 0])/\i.size=2/\i.bytes=48:=by
 have h:=Tryz.infoSr;cases hq:q6.info? 93 with
 | none=>rw[hq] at h;cases h
 | some i=>
  rw[hq] at h;simp only[rK,qR,eT] at h;exact⟨i,rfl,h⟩
theorem z3k {w:World}{B:Nat}{a b:Value}{T:qn}(h:w.heap[B]? =some (.cells #[a,b] T)):∀j u,[a,b][j]? =some u->w.cell? ((⟨B,0,none⟩:Addr).add j)=some u:=by
 intro j u q
 match j with
 | 0=>rw[qP];simp only[qF,qR] at q;subst q;simp[qs,h]
 | 1=>rw[qP];simp only[List.getElem?_cons_succ,qF,qR] at q;subst q;simp[qs,h]
 | j+2=>simp at q
abbrev zeA (xs:List Value)(i:Nat)(a b:Value):List Value:=xs.take (i*2)++[a,b]++xs.drop (i*2)
theorem z1q (xs:List Value)(i n:Nat)(a b:Value)(h:xs.length=n*2):(zeA xs i a b).length=(n+1)*2:=by
 unfold zeA;simp only[q8,qb,wI,qf,qO];omega
abbrev zm5:Nat:=151
theorem zl8 (h n B vc:Nat)(v a b:Value)(xs:List Value)(w:World)(q:w.ownsRow h 93 2 v n xs)(hB:w.heap[B]? =some (.cells #[a,b] 93)) (ha:a.oneCell'=true) (hb:b.oneCell'=true) (hn:n<=1000000) (J:h<=w.heap.size):
  Calls q6 zm5 #[v,.int .i64 n,.slice (some ⟨B,0,none⟩) 1 vc] w λe w'=>∃v',e= .returned v'/\w'.ownsRow h 93 2 v' (n+1) (xs++[a,b])/\w.grownBy w' v.ownBlock/\(v'.ownBlock=v.ownBlock\/v'.ownBlock=some w.heap.size):=by
 obtain⟨i,hi,hz,hs,U⟩:=z6r;have key:∀ty,∃v' w',(rF #[39,39] ty #[v,.slice (some ⟨B,0,none⟩) 1 vc]).run q6 w= .ok v' w'/\w'.ownsRow h 93 2 v' (n+1) (xs++[a,b])/\w'.ownsRow h 93 2 v n xs/\w.grownBy w' v.ownBlock/\(v'.ownBlock=v.ownBlock\/v'.ownBlock=some w.heap.size):=λty=>
  z2P (P:=q6) w h 39 ty 93 i _ 2 48 Tryz.uSrs hi hz hs U rfl (by omega) v n xs q ⟨B,0,none⟩ 1 vc [a,b] (by omega) rfl (z3k hB) (λu V=>by
   rcases qg.1 V with rfl|V
   .exact ha
   .rcases qg.1 V with rfl|V
    .exact hb
    .cases V) (by unfold qS;omega) (by omega) J
 obtain⟨v',w',Y,G,O,A1,A2⟩:=key 39;have HP:=hid (qv G (qv A1 A2));obtain⟨ao,cap,rfl⟩:=z02 q;have A3:n<=cap:=by
  rcases q.2 with⟨h0,h1⟩|⟨g,A4,A5,h0,_,_,h3,_⟩
  .omega
  .cases h0;exact h3
 obtain⟨A,hA⟩:∃A,(if cap=n then ao else Option.map (λx=>x.add (n*2)) ao)=A:=⟨_,rfl⟩;clear q hB key hi hz hs U G O A1 A2;go_enter func151,ntmps151;go_wp2_with (at_builtin;refine qB _ rfl _ _ _ _ rfl _ _ rfl rfl _ _ Y ?_)
 go_ret;exact⟨v',rfl,HP.out.1,HP.out.2.1,HP.out.2.2⟩
theorem zcy {w:World}{B:Nat}{c:Array Value}{T:qn}(h:w.heap[B]? =some (.cells c T)):w.shape? B=some (T,c.size):=by simp[World.shape?,h]
theorem zaR {w:World}{B:Nat}{c:Array Value}{T:qn}(h:w.heap[B]? =some (.cells c T))(j:Nat):w.frozen? ⟨B,j,none⟩=false:=by simp[World.frozen?,h]
theorem ziz (w:World)(B g o G lb J:Nat)(a b:Value)(cur:Array Value)(h:w.heap[B]? =some (.cells #[a,b] 93)) (O:w.heap[g]? =some (.cells cur 93)) (q:B≠g) (U:cur.size≠0):
  (ux 187 #[.slice (some ⟨B,0,none⟩) 1 G,.slice (some ⟨g,o,none⟩) lb J]).run q6 w= .ok (.value (.bool false)) w:=by
 rw[run_callFunc_extern func187 (by kernel_rfl) (by kernel_rfl) (by kernel_rfl) (e:=iW #[39,39] #[4]) (by kernel_rfl),
  Lib.run_overlaps_apart w 39 4 93 Tryz.uSrs 2 (λw=>by kernel_rfl) ⟨B,0,none⟩ ⟨g,o,none⟩ 1 G lb J q 93 93 _ _ (zcy h) (zcy O) U (zaR h 0) (zaR h _)]
 rfl
theorem z8K {a b:Value}(q:a.oneCell'=true)(hb:b.oneCell'=true):∀u∈[a,b],u.oneCell'=true:=λu h=>by
 rcases qg.1 h with rfl|h
 .exact q
 .rcases qg.1 h with rfl|h
  .exact hb
  .cases h
theorem zbt (cl xs:List Value)(i n:Nat)(a b:Value)(hi:i<n)(h:xs.length=n*2)(q:cl.take (n*2)=xs)(O:(n+1)*2<=cl.length):
  (((cl.take ((i+1)*2)++xs.drop (i*2)++cl.drop ((i+1)*2+(xs.drop (i*2)).length)).take (i*2)++[a,b]++(cl.take ((i+1)*2)++xs.drop (i*2)++cl.drop ((i+1)*2+(xs.drop (i*2)).length)).drop (i*2+2))).take ((n+1)*2)=zeA xs i a b:=by
 have G:(cl.take ((i+1)*2)++xs.drop (i*2)++cl.drop ((i+1)*2+(xs.drop (i*2)).length)).take (i*2)=xs.take (i*2):=by
  rw[qm,eK (by rw[qb];omega),tf,<-q,tf]
  congr 1
  omega
 have J:(cl.take ((i+1)*2)++xs.drop (i*2)++cl.drop ((i+1)*2+(xs.drop (i*2)).length)).drop (i*2+2)=xs.drop (i*2)++cl.drop ((i+1)*2+(xs.drop (i*2)).length):=by
  rw[qm,List.drop_append_of_le_length (by rw[qb];omega),List.drop_eq_nil_of_le (by rw[qb];omega),List.nil_append]
 rw[G,J,<-qm,eK (rD (z1q xs i n a b h).symm),qL (rD (z1q xs i n a b h))]
theorem zfp (V n i B vc g cap:Nat)(a b:Value)(xs:List Value)(cur:Array Value)(w:World)(hi:i<n)(A4:n+1<=cap)(hx:xs.length=n*2)(Ad:V<=g)(hg:w.heap[g]? =some (.cells cur 93))(A5:cap<=qS)(A6:cur.size=cap*2)(ht:cur.toList.take (n*2)=xs)
  (hB:w.heap[B]? =some (.cells #[a,b] 93)) (G:B≠g) (ha:a.oneCell'=true) (hb:b.oneCell'=true) (A7:∀u∈xs,u.oneCell'=true) (hn:n<=1000000):
  Calls q6 zm5 #[.slice (some ⟨g,0,none⟩) n cap,.int .i64 i,.slice (some ⟨B,0,none⟩) 1 vc] w λe w'=>∃v',e= .returned v'/\w'.ownsRow V 93 2 v' (n+1) (zeA xs i a b)/\w.grownBy w' (some g)/\v'.ownBlock=some g:=by
 have q:∀j u,xs[j]? =some u->w.cell? ⟨g,j,none⟩=some u:=λj u hj=>by
  rw[<-ht,yS] at hj;split at hj
  .simp[qs,hg];simpa using hj
  .cases hj
 have J:(xs.drop (i*2)).length=(n-i)*2:=by rw[wI,hx];omega
 obtain⟨c1,O⟩:∃c1:Array Value,c1=(cur.toList.take ((i+1)*2)++xs.drop (i*2)++cur.toList.drop ((i+1)*2+(xs.drop (i*2)).length)).toArray:=⟨_,rfl⟩;have A8:c1.size=cur.size:=by
  rw[O];simp only[ru,q8,qb,wI,qE] at J ⊢;omega
 obtain⟨c2,U⟩:∃c2:Array Value,c2=(c1.toList.take (i*2)++[a,b]++c1.toList.drop (i*2+[a,b].length)).toArray:=⟨_,rfl⟩;have Y:c2.size=cur.size:=by
  rw[U];simp only[ru,q8,qb,wI,qE,qf,qO];omega
 have A1:c2.toList.take ((n+1)*2)=zeA xs i a b:=by
  rw[U,O];exact zbt cur.toList xs i n a b hi hx ht (by rw[qE];omega)
 have A2:∀(W:World),W.heap=w.heap->∀ty dc sc,(tY #[39,39] ty #[.slice (some ⟨g,(i+1)*2,none⟩) (n-i) dc,.slice (some ⟨g,i*2,none⟩) (n+1-i) sc]).run q6 W= .ok (goInt ((n-i:Nat):Int)) (W.setRow g c1):=λW hW ty dc sc=>by
  have h:=z1E (P:=q6) W 39 39 ty 93 g ((i+1)*2) (n-i) dc ⟨g,i*2,none⟩ (n+1-i) sc 2 cur 93 (xs.drop (i*2)) Tryz.uSrs Tryz.szSr (by rw[hW];exact hg) (by rw[J];simp only[rW];split<;>omega)
   (λj v hj=>by
    rw[qP];have:W.cell? ⟨g,i*2+j,none⟩=w.cell? ⟨g,i*2+j,none⟩:=by simp[qs,hW]
    rw[this];exact q _ v (by rwa[tJ] at hj)) (by rw[J];omega) (λv hv=>A7 v (uq hv))
  have e:uj (n+1-i) (n-i)=n-i:=by simp only[rW];split<;>omega
  rw[e,<-O] at h;exact h
 have A3:∀(W:World),W.heap=(w.setRow g c1).heap->∀ty dc,(tY #[39,39] ty #[.slice (some ⟨g,i*2,none⟩) (n+1-i) dc,.slice (some ⟨B,0,none⟩) 1 vc]).run q6 W= .ok (goInt 1) (W.setRow g c2):=λW hW ty dc=>by
  have Ae:W.heap[B]? =some (.cells #[a,b] 93):=by rw[hW,tP _ _ _ _ G];exact hB
  have h:=z1E (P:=q6) W 39 39 ty 93 g (i*2) (n+1-i) dc ⟨B,0,none⟩ 1 vc 2 c1 93 [a,b] Tryz.uSrs Tryz.szSr (by rw[hW];exact y8 w g cur c1 _ _ hg) (by
    have:uj 1 (n+1-i)=1:=by simp only[rW];split<;>omega
    rw[this];rfl)
   (z3k Ae) (by simp only[qf,qO];omega) (z8K ha hb)
  have e:uj 1 (n+1-i)=1:=by simp only[rW];split<;>omega
  rw[e,<-U] at h;exact h
 have Af:∀o lb cb,(ux 187 #[.slice (some ⟨B,0,none⟩) 1 vc,.slice (some ⟨g,o,none⟩) lb cb]).run q6 w= .ok (.value (.bool false)) w:=λo lb cb=>ziz w B g o vc lb cb a b cur hB hg G (by omega)
 have Ai:¬((i:Int)=(n:Int)):=by omega
 have Aj:qW.wrap ((i:Int)+1)=(i:Int)+1:=by rw[qY];omega
 have Ak:qW.wrap ((n:Int)+1)=(n:Int)+1:=by rw[qY];omega
 have Al:i<=n:=by omega
 have Am:((i:Int)+1).toNat=i+1:=by omega
 have Ao:¬(cap=i+1):=by omega
 have Ap:(i:Int)<=(n:Int)+1:=by omega
 have Aq:¬(cap=i):=by omega
 have Ar:(0:Int)<=(i:Int)+1:=by omega
 have Ac:cap<=9223372036854775807:=by unfold qS at A5;omega
 have HG:=hid hg;have HE:=hid (qv A5 (qv A6 (qv Y A1)));clear q J O A8 U Y A1 hg hB ht A6 A7 A5;go_enter func151,ntmps151;go_wp2_with (simp only[Af])
 have Ag:=A2 w.drew rfl 3 (cap-(i+1)) (cap-i);clear A2
 go_region
 have Ah:=A3 (w.drew.setRow g c1) rfl 3 (cap-i);clear A3;go_wp2_with fail;go_ret;obtain⟨h1,h2,h3,h4⟩:=HE.out;refine⟨.slice (some ⟨g,0,none⟩) (n+1) cap,rfl,⟨z1q xs i n a b hx,.inr ⟨g,cap,c2,rfl,Ad,y8 _ g c1 c2 _ _ (y8 w.drew g cur c1 _ _ HG.out),A4,h1,by rw[h3,h2],h4⟩⟩,⟨rfl,rfl,rfl,by simp,λk hk G=>?_⟩,rfl⟩;have A9:k≠g:=λe=>G (by rw[e])
 rw[tP _ _ _ _ A9,tP _ _ _ _ A9];rfl
theorem zei (xs z:List Value)(i n:Nat)(a b:Value)(hi:i<n)(h:xs.length=n*2)(_hz:(n+1-i)*2<=z.length):
  ((((xs.take (i*2)++z).take (i*2)++[a,b]++(xs.take (i*2)++z).drop (i*2+2)).take ((i+1)*2)++xs.drop (i*2)++((xs.take (i*2)++z).take (i*2)++[a,b]++(xs.take (i*2)++z).drop (i*2+2)).drop ((i+1)*2+(xs.drop (i*2)).length))).take ((n+1)*2)=zeA xs i a b:=by
 have q:(xs.take (i*2)).length=i*2:=by rw[qb];omega
 have G:(xs.take (i*2)++z).take (i*2)=xs.take (i*2):=by
  rw[eK (by omega),tf,Nat.min_self]
 have J:(xs.take (i*2)++[a,b]++(xs.take (i*2)++z).drop (i*2+2)).take ((i+1)*2)=xs.take (i*2)++[a,b]:=
  z6t _ _ _ _ (by rw[q];simp only[qf,qO];omega)
 rw[G,J,eK (rD (z1q xs i n a b h).symm),qL (rD (z1q xs i n a b h))]
theorem zjl (A6 n i B vc g cap:Nat)(a b:Value)(xs:List Value)(cur:Array Value)(w:World)(hi:i<n)(AB:n<=cap)(Ad:cap<n+1)(hx:xs.length=n*2)(Ae:A6<=w.heap.size)(hg:w.heap[g]? =some (.cells cur 93))(ht:cur.toList.take (n*2)=xs)
  (hB:w.heap[B]? =some (.cells #[a,b] 93)) (ha:a.oneCell'=true) (hb:b.oneCell'=true) (Aj:∀u∈xs,u.oneCell'=true) (hn:n<=1000000):
  Calls q6 zm5 #[.slice (some ⟨g,0,none⟩) n cap,.int .i64 i,.slice (some ⟨B,0,none⟩) 1 vc] w λe w'=>∃v',e= .returned v'/\w'.ownsRow A6 93 2 v' (n+1) (zeA xs i a b)/\Below w.heap.size w w'/\v'.ownBlock=some w.heap.size:=by
 obtain⟨i0,Ak,Al,Am,Af⟩:=z6r;have q:∀j u,xs[j]? =some u->w.cell? ⟨g,j,none⟩=some u:=λj u O=>by
  rw[<-ht,yS] at O;split at O
  .simp[qs,hg];simpa using O
  .cases O
 have Y:(xs.drop (i*2)).length=(n-i)*2:=by rw[wI,hx];omega
 have Ag:(xs.take (i*2)).length=i*2:=by rw[qb,hx];omega
 obtain⟨G,hG⟩:∃G,G=grownCap w (n+1) cap 93:=⟨_,rfl⟩;have Aw:n+1<=G:=by rw[hG];exact grownCap_ge w _ _ _
 have Ah:G<=maxLen:=by rw[hG];exact grownCap_le_maxLen w _ _ _ (by unfold qS;omega)
 obtain⟨zs,U⟩:∃zs:List Value,zs=(wv (uw #[.slice none 0 0,.slice none 0 0]).cells (n+1-i)).toList++(wv (uw #[.slice none 0 0,.slice none 0 0]).cells (G-(n+1))).toList:=⟨_,rfl⟩;have Ao:zs.length=(G-i)*2:=by
  rw[U,q8,qE,qE,pR,pR];show(n+1-i)*2+(G-(n+1))*2=_;omega
 obtain⟨c0,A1⟩:∃c0:Array Value,c0=(xs.take (i*2)++zs).toArray:=⟨_,rfl⟩;have Ap:c0.size=G*2:=by rw[A1,ru,q8,Ag,Ao];omega
 have Ai:(rF #[39,3] 39 #[.slice (some ⟨g,0,none⟩) i cap,.int .i64 ((n:Int)+1-(i:Int))]).run q6 w= .ok (.slice (some ⟨w.heap.size,0,none⟩) (n+1) G) (w.drew.alloc (.cells c0 93)):=by
  have Aq:(Builtin.firstCells i0.size i (.slice (some ⟨g,0,none⟩) i cap)).run q6 w.drew= .ok (xs.take (i*2)).toArray w.drew:=by
   rw[Am];exact run_firstCells_some w.drew 2 i ⟨g,0,none⟩ i cap (xs.take (i*2)) Ag (λj v O=>by
    rw[qP];rw[yS] at O;split at O
    .rw[qT];exact q j v O
    .cases O)
  have Ax:(n:Int)+1-(i:Int)=((n+1-i:Nat):Int):=by omega
  have Ar:i+(n+1-i)=n+1:=by omega
  have h:=Lib.run_append_grow_zeros (P:=q6) w 39 3 39 93 i0 _ .i64 .i64 Tryz.uSrs Tryz.uInt3 Ak Al (some ⟨g,0,none⟩) i cap (xs.take (i*2)) Aq (n+1-i) (by omega) (by omega) (by omega) (by omega) (by rw[Af];omega) (by rw[Af,Ar];exact growslice_fits Ad (by omega));rw[Ar,<-hG] at h;rw[Ax,h,A1,U]
  congr 4
  apply Array.ext';simp
 obtain⟨c1,A2⟩:∃c1:Array Value,c1=(c0.toList.take (i*2)++[a,b]++c0.toList.drop (i*2+[a,b].length)).toArray:=⟨_,rfl⟩;have Au:c1.size=G*2:=by
  rw[A2];simp only[ru,q8,qb,wI,qE,qf,qO];omega
 obtain⟨c2,A3⟩:∃c2:Array Value,c2=(c1.toList.take ((i+1)*2)++xs.drop (i*2)++c1.toList.drop ((i+1)*2+(xs.drop (i*2)).length)).toArray:=⟨_,rfl⟩;have A7:c2.size=G*2:=by
  rw[A3];simp only[ru,q8,qb,qE,Y];rw[wI,qE];omega
 have A8:c2.toList.take ((n+1)*2)=zeA xs i a b:=by
  rw[A3,A2,A1];exact zei xs zs i n a b hi hx (by omega)
 obtain⟨J,V⟩:∃J,J=w.drew.alloc (.cells c0 93):=⟨_,rfl⟩;have A4:J.heap[w.heap.size]? =some (.cells c0 93):=by rw[V];exact qu w.drew _
 have A5:∀k,k<w.heap.size->J.heap[k]? =w.heap[k]? :=λk hk=>by rw[V];exact Below.heap_alloc w.drew _ k hk
 have A9:∀ty dc,(tY #[39,39] ty #[.slice (some ⟨w.heap.size,i*2,none⟩) (n+1-i) dc,.slice (some ⟨B,0,none⟩) 1 vc]).run q6 J= .ok (goInt 1) (J.setRow w.heap.size c1):=λty dc=>by
  have Ay:J.heap[B]? =some (.cells #[a,b] 93):=(A5 B (z00 hB)).trans hB;have h:=z1E (P:=q6) J 39 39 ty 93 w.heap.size (i*2) (n+1-i) dc ⟨B,0,none⟩ 1 vc 2 c0 93 [a,b] Tryz.uSrs Tryz.szSr A4 (by
    have:uj 1 (n+1-i)=1:=by simp only[rW];split<;>omega
    rw[this];rfl)
   (z3k Ay) (by simp only[qf,qO];omega) (z8K ha hb)
  have e:uj 1 (n+1-i)=1:=by simp only[rW];split<;>omega
  rw[e,<-A2] at h;exact h
 have Ac:∀(W:World),W.heap=(J.setRow w.heap.size c1).heap->∀ty dc sc,(tY #[39,39] ty #[.slice (some ⟨w.heap.size,(i+1)*2,none⟩) (n-i) dc,.slice (some ⟨g,i*2,none⟩) (n-i) sc]).run q6 W= .ok (goInt ((n-i:Nat):Int)) (W.setRow w.heap.size c2):=λW hW ty dc sc=>by
  have Az:=z00 hg;have h:=z1E (P:=q6) W 39 39 ty 93 w.heap.size ((i+1)*2) (n-i) dc ⟨g,i*2,none⟩ (n-i) sc 2 c1 93 (xs.drop (i*2)) Tryz.uSrs Tryz.szSr (by rw[hW];exact y8 J _ c0 c1 _ _ A4) (by rw[Y];simp only[rW];split<;>omega)
   (λj v O=>by
    rw[qP];have:W.cell? ⟨g,i*2+j,none⟩=w.cell? ⟨g,i*2+j,none⟩:=qj (a:=⟨g,i*2+j,none⟩) (by
     show W.heap[g]? =w.heap[g]?;rw[hW,tP _ _ _ _ (by omega)];exact A5 g Az)
    rw[this];exact q _ v (by rwa[tJ] at O)) (by rw[Y];omega) (λv hv=>Aj v (uq hv))
  have e:uj (n-i) (n-i)=n-i:=by simp only[rW];split<;>omega
  rw[e,<-A3] at h;exact h
 have AC:¬((i:Int)=(n:Int)):=by omega
 have AD:qW.wrap ((i:Int)+1)=(i:Int)+1:=by rw[qY];omega
 have AE:qW.wrap ((n:Int)+1)=(n:Int)+1:=by rw[qY];omega
 have AF:qW.wrap ((n:Int)+1-i)=(n:Int)+1-i:=by rw[qY];omega
 have AG:i<=n:=by omega
 have AH:((i:Int)+1).toNat=i+1:=by omega
 have AJ:¬(G=i+1):=by omega
 have AK:(i:Int)<=(n:Int)+1:=by omega
 have AL:¬(cap=i):=by omega
 have AM:¬(G=i):=by omega
 have AO:(0:Int)<=(i:Int)+1:=by omega
 have AP:(cap:Int)<(n:Int)+1:=by omega
 have AQ:(i:Int)<=(cap:Int):=by omega
 have HE:=hid (qv Ah (qv A7 (qv A8 Aw)));have HN:=hid (qv A4 A5);have HW:=hid V;rw[<-V] at Ai;have Av:G<=9223372036854775807:=by unfold qS at Ah;omega
 clear q Y Ag hG U Ao A1 Ap A2 Au A3 A7 A8 hg hB ht Aj A4 A5 V Ak Al Am Af Ah;go_enter func151,ntmps151;go_wp2_with (first
  | (at_builtin;refine qB _ rfl _ _ _ _ rfl _ _ rfl rfl _ _ Ai ?_)
  | (at_builtin;refine zfM _ rfl _ _ 39 39 rfl _ _ rfl rfl (A9 _ _) ?_))
 have AA:=Ac (J.setRow w.heap.size c1).drew rfl 3 (G-(i+1)) (cap-i);clear Ac A9 Ai
 go_region
 go_wp2_with fail;go_ret;obtain⟨h1,h2,h3,h4⟩:=HE.out;obtain⟨k1,k2⟩:=HN.out;have hW:=HW.out;refine⟨.slice (some ⟨w.heap.size,0,none⟩) (n+1) G,rfl,⟨z1q xs i n a b hx,.inr ⟨w.heap.size,G,c2,rfl,Ae,y8 _ _ c1 c2 _ _ (y8 J _ c0 c1 _ _ k1),h4,h1,h2,h3⟩⟩,⟨?_,?_,?_,?_,λk hk=>?_⟩,rfl⟩
 .rw[hW];rfl
 .rw[hW];rfl
 .rw[hW];rfl
 .simp[hW]
 .rw[tP _ _ _ _ (by omega)];show(J.setRow w.heap.size c1).heap[k]? =_;rw[tP _ _ _ _ (by omega)];exact k2 k hk
theorem zlb (h n i B Y:Nat)(v a b:Value)(xs:List Value)(w:World)(q:w.ownsRow h 93 2 v n xs)(hi:i<=n)(hB:w.heap[B]? =some (.cells #[a,b] 93)) (A1:v.ownBlock≠some B) (ha:a.oneCell'=true) (hb:b.oneCell'=true) (U:∀u∈xs,u.oneCell'=true) (hn:n<=1000000) (G:h<=w.heap.size):
  Calls q6 zm5 #[v,.int .i64 i,.slice (some ⟨B,0,none⟩) 1 Y] w λe w'=>∃v',e= .returned v'/\w'.ownsRow h 93 2 v' (n+1) (zeA xs i a b)/\w.grownBy w' v.ownBlock/\(v'.ownBlock=v.ownBlock\/v'.ownBlock=some w.heap.size):=by
 by_cases A2:i=n
 .subst A2;have e:zeA xs i a b=xs++[a,b]:=by
   unfold zeA;rw[<-q.1,qD,List.drop_length,List.append_nil]
  rw[e];exact zl8 h i B Y v a b xs w q hB ha hb hn G
 .rcases q.2 with⟨rfl,h0⟩|⟨g,cap,V,rfl,h2,hc,h3,h4,h5,h6⟩
  .omega
  .by_cases J:n+1<=cap
   .refine(zfp h n i B Y g cap a b xs V w (by omega) J q.1 h2 hc h4 h5 h6 hB (λe=>A1 (by rw[e];rfl)) ha hb U hn).mono ?_;rintro e w' ⟨v',k1,k2,O,k4⟩;exact⟨v',k1,k2,O,.inl k4⟩
   .refine(zjl h n i B Y g cap a b xs V w (by omega) h3 (by omega) q.1 G hc h6 hB ha hb U hn).mono ?_;rintro e w' ⟨v',k1,k2,O,k4⟩;exact⟨v',k1,k2,⟨O.os,O.tape,O.output,O.size,λk hk _=>O.block k hk⟩,.inr k4⟩
end
section
open Go.RowKit
theorem zhE (W:World)(h B:Nat)(v:Value)(d:List CL.Smp)(s:CL.Smp)(G:W.heap[B]? =some (z3b s.1 s.2))(J:z0h W h v d)(hd:d.length<=1000000)(hb:h<=W.heap.size):
  ∃v' W',(rF #[91,91] 91 #[v,.slice (some ⟨B,0,none⟩) 1 1]).run q6 W= .ok v' W'/\z0h W' h v' (d++[s])/\W.grownBy W' v.ownBlock/\(v'.ownBlock=v.ownBlock\/v'.ownBlock=some W.heap.size):=by
 obtain⟨i,hi,O,U,q⟩:=zh8;obtain⟨v',W',V,Y,_,h3,h4⟩:=z2P (P:=q6) W h 91 91 98 i _ 2 16 Tryz.uSms hi O U q rfl (by omega) v d.length (sv d) J ⟨B,0,none⟩ 1 1 [.int .i64 s.1,.int .i64 s.2] (by omega) rfl (z3k G) (z8K rfl rfl) (by unfold qS;omega) (by omega) hb;refine⟨v',W',V,?_,h3,h4⟩;show yL _ _ _ _ _ _ _;rw[q8,z0P];exact Y
theorem z6z (W:World)(h B:Nat)(v a b:Value)(n:Nat)(xs:List Value)(J:W.heap[B]? =some (.cells #[a,b] 93)) (O:a.oneCell'=true) (q:b.oneCell'=true) (U:W.ownsRow h 93 2 v n xs) (hd:n<=1000000) (hb:h<=W.heap.size):
  ∃v' W',(rF #[39,39] 39 #[v,.slice (some ⟨B,0,none⟩) 1 1]).run q6 W= .ok v' W'/\W'.ownsRow h 93 2 v' (n+1) (xs++[a,b])/\W.grownBy W' v.ownBlock/\(v'.ownBlock=v.ownBlock\/v'.ownBlock=some W.heap.size):=by
 obtain⟨i,hi,V,Y,G⟩:=z6r;obtain⟨v',W',h1,h2,_,h3,h4⟩:=z2P (P:=q6) W h 39 39 93 i _ 2 48 Tryz.uSrs hi V Y G rfl (by omega) v n xs U ⟨B,0,none⟩ 1 1 [a,b] (by omega) rfl (z3k J) (z8K O q) (by unfold qS;omega) (by omega) hb;exact⟨v',W',h1,h2,h3,h4⟩
structure Two (w wr:World) (vo vl:Value) (lo ll:List CL.Smp):Prop where
 out:z0h wr w.heap.size vo lo
 left:z0h wr w.heap.size vl ll
 apart:vo.ownBlock=none\/vo.ownBlock≠vl.ownBlock
 bel:Below w.heap.size w wr
theorem Two.below {w wr q:World}{J O:Value}{lo U:List CL.Smp}(h:Two w wr J O lo U)(k:Below wr.heap.size wr q):Two w q J O lo U:=
 ⟨z04 h.out λg _ G=>k.block g (z00 G),z04 h.left λg _ G=>k.block g (z00 G),h.apart,z0u h.bel k⟩
theorem Two.znC {w W W':World}{q G v':Value}{lo O U:List CL.Smp}(h:Two w W q G lo O)(Y:z0h W' w.heap.size v' U)(V:W.grownBy W' q.ownBlock)(h3:v'.ownBlock=q.ownBlock\/v'.ownBlock=some W.heap.size):Two w W' v' G U O:=by
 refine⟨Y,h.left.kept V ?_,?_,h.bel.grown V h.bel.size (λk hk=>(h.out.lt k hk).1)⟩
 .rcases h.apart with e|e
  .rcases hv:G.ownBlock with _|g
   .exact .inl rfl
   .rw[e];exact .inr (by simp)
  .exact .inr (λJ=>e J.symm)
 .rcases h3 with e|e
  .rw[e];exact h.apart
  .right;rw[e];intro J;have:=(h.left.lt _ J.symm).2;omega
theorem Two.znf {w W W':World}{q G v':Value}{lo U J:List CL.Smp}(h:Two w W q G lo U)(V:z0h W' w.heap.size v' J)(O:W.grownBy W' G.ownBlock)(Y:v'.ownBlock=G.ownBlock\/v'.ownBlock=some W.heap.size):Two w W' q v' lo J:=by
 refine⟨h.out.kept O ?_,V,?_,h.bel.grown O h.bel.size (λk hk=>(h.left.lt k hk).1)⟩
 .rcases h.apart with e|e
  .exact .inl e
  .exact .inr e
 .rcases Y with e|e
  .rw[e];exact h.apart
  .rcases hv:q.ownBlock with _|g
   .exact .inl rfl
   .right;rw[e];intro e2;have:=(h.out.lt _ (hv.trans e2)).2;omega
theorem z4r (l:List CL.Smp)(i:Nat)(h:i<l.length):l.take (i+1)=l.take i++[CL.at' l i]:=(CL.zcX l i h).symm
theorem zdB (so:Option Addr)(l:List CL.Smp)(sc g:Nat)(lb:Array Value)(p:Int->Bool)(w:World)(hS:z1I w so l)(hl:l.length<=100000)(eg:∀args w,(ux g args).run q6 w= .ok (.enter g args) w)
  (O:∀W,Below w.heap.size w W->∀t,Calls q6 g (#[.int .i64 t]++lb) W λe w'=>e= .returned (.bool (p t))/\Below W.heap.size W w'):
  Calls q6 163 #[.slice so l.length sc,.func (.func g) #[] lb] w λe w'=>∃vo vl,e= .returned (.tuple #[vo,vl])/\Two w w' vo vl (l.filter λs=>p s.1) (l.filter λs=> !p s.1):=by
 have HS:=hid hS;have HC:=hid O;clear hS O;go_enter func163,ntmps163;go_wp2_with fail;go_loopw [4,5,10] (λzto tl ti wr=>∃i:Nat,i<=l.length/\ti= .int .i64 i/\Two w wr zto tl ((l.take i).filter λs=>p s.1) ((l.take i).filter λs=> !p s.1)) (λ_ _ ti _=>l.length-(intOf ti).toNat)
 case atStart=>exact⟨0,qh _,rfl,⟨⟨rfl,.inl ⟨rfl,rfl⟩⟩,⟨rfl,.inl ⟨rfl,rfl⟩⟩,.inl rfl,Below.refl _ _⟩⟩
 case round=>
  obtain⟨i,hi,rfl,A3⟩:=hrel;have U:=hid A3;clear A3;by_cases A4:i<l.length
  .obtain⟨b,off,A9,d0,d1,A5⟩:=HS.out i A4;subst A9;have e0:wr.cell? ⟨b,off+i*2,none⟩=some (.int .i64 (CL.at' l i).1):=(U.out.bel.cell (p:=⟨b,_,none⟩) A5).trans d0;have e1:wr.cell? ⟨b,off+i*2+1,none⟩=some (.int .i64 (CL.at' l i).2):=(U.out.bel.cell (p:=⟨b,_,none⟩) A5).trans d1;have Y:=hid (z4r l i A4);have Ad:((l.take i).filter λs=>p s.1).length<=100000:=qi (eR _ _) (by rw[qb];omega);have Ae:((l.take i).filter λs=> !p s.1).length<=100000:=qi (eR _ _) (by rw[qb];omega);clear d0 d1;generalize Af:CL.at' l i=sm at*;obtain⟨st,J⟩:=sm;simp only at e0 e1;have G:Below wr.heap.size wr (wr.alloc (z3b st J)):=(Below.refl _ wr).alloc (qq _) _;have A6:(wr.alloc (z3b st J)).heap[wr.heap.size]? =some (z3b st J):=qu wr _;have A7:=hid (HC.out _ (z0u U.out.bel G) st);have Ac:=hid (U.out.below G);have A8:=hid A6;have Ag:0<=(i:Int)/\(i:Int)<(l.length:Int):=by omega
   clear G A6;go_wp2_with fail;refine A7.out.mono ?_;rintro e w2 ⟨rfl,A1⟩;have h:=hid (Ac.out.below A1);have V:=(A1.block wr.heap.size (z00 A8.out)).trans A8.out;have c0:w2.cell? ⟨wr.heap.size,0,none⟩=some (.int .i64 st):=z01 _ _ _ _ V 0 _ rfl;have c1:w2.cell? ⟨wr.heap.size,1,none⟩=some (.int .i64 J):=z01 _ _ _ _ V 1 _ rfl;clear A1 A7 V;rcases hp:p st with _|_
   .have HP:=hid hp;clear hp;have ha:=zhE (w2.alloc (z3b st J)) w.heap.size w2.heap.size u5 _ (st,J) (qu w2 _) (h.out.left.alloc _) (by omega) (by simp;exact iB h.out.bel.size);obtain⟨v3,w3,q,k1,k2,k3⟩:=ha;have A2:=hid ((h.out.below ((Below.refl _ w2).alloc (qq _) (z3b st J))).znf k1 k2 k3);obtain⟨a3,c3,e3⟩:=z02 k1;obtain⟨a5,c5,e5⟩:=z02 h.out.left;clear k1 k2 k3;subst e3;rw[e5] at q;subst e5;go_wp2_with (at_builtin;refine qB _ rfl _ _ _ _ rfl _ _ rfl rfl _ _ q ?_)
    go_roundw
    case rel=>
     refine⟨i+1,by omega,by go_num,?_⟩;have f1:((l.take (i+1)).filter λs=>p s.1)=(l.take i).filter λs=>p s.1:=by
      rw[Y.out,ef,rZ,if_neg (by simp[HP.out])];simp
     have f2:((l.take (i+1)).filter λs=> !p s.1)=((l.take i).filter λs=> !p s.1)++[(st,J)]:=by
      rw[Y.out,ef,rZ,if_pos (by simp[HP.out])];simp
     rw[f1,f2];have:=A2.out;simp only[q8,qf,qO] at this;exact this
    case measure=>simp[intOf];omega
   .have HP:=hid hp;clear hp;have ha:=zhE (w2.alloc (z3b st J)) w.heap.size w2.heap.size u4 _ (st,J) (qu w2 _) (h.out.out.alloc _) (by omega) (by simp;exact iB h.out.bel.size);obtain⟨v3,w3,q,k1,k2,k3⟩:=ha;have A2:=hid ((h.out.below ((Below.refl _ w2).alloc (qq _) (z3b st J))).znC k1 k2 k3);obtain⟨a3,c3,e3⟩:=z02 k1;obtain⟨a5,c5,e5⟩:=z02 h.out.out;clear k1 k2 k3;subst e3;rw[e5] at q;subst e5;go_wp2_with (at_builtin;refine qB _ rfl _ _ _ _ rfl _ _ rfl rfl _ _ q ?_)
    go_roundw
    case rel=>
     refine⟨i+1,by omega,by go_num,?_⟩;have f1:((l.take (i+1)).filter λs=>p s.1)=((l.take i).filter λs=>p s.1)++[(st,J)]:=by
      rw[Y.out,ef,rZ,if_pos (by simp[HP.out])];simp
     have f2:((l.take (i+1)).filter λs=> !p s.1)=(l.take i).filter λs=> !p s.1:=by
      rw[Y.out,ef,rZ,if_neg (by simp[HP.out])];simp
     rw[f1,f2];have:=A2.out;simp only[q8,qf,qO] at this;exact this
    case measure=>simp[intOf];omega
  .have he:i=l.length:=by omega
   subst he;have h1:=U.out;rw[qD] at h1;have HF:=hid h1;clear h1;go_wp2_with fail;go_ret2;exact⟨_,_,rfl,HF.out⟩
end
section
open Go.RowKit
theorem z0e {w:World}{q n G g:Nat}{e U:qn}{v:Value}{xs:List Value}{c:Array Value}{V:Nat×Nat}(h:w.ownsRow q e G v n xs)(Y:w.heap[g]? =some (.cells c U V))(J:e≠U):v.ownBlock≠some g:=λhb=>by
 rcases h.2 with⟨O,_⟩|⟨g',cap,A1,O,_,a2,_⟩
 .rw[O] at hb;cases hb
 .rw[O] at hb;cases hb;rw[Y] at a2;simp only[qR,rI] at a2;exact J a2.2.1.symm
theorem z0d {w:World}{q n size:Nat}{e:qn}{v:Value}{xs:List Value}(h:w.ownsRow q e size v n xs)(Y:0<n):∃g cap cur,v= .slice (some ⟨g,0,none⟩) n cap/\v.ownBlock=some g/\w.heap[g]? =some (.cells cur e)/\n<=cap/\cur.size=cap*size/\cur.toList.take (n*size)=xs:=by
 rcases h.2 with⟨_,G⟩|⟨g,cap,cur,G,_,J,O,_,U,V⟩
 .omega
 .exact⟨g,cap,cur,G,by rw[G];rfl,J,O,U,V⟩
def Und (u:Value)(m:Nat)(xs:List (Value×Value))(S:List Sr):Prop:=∀i,i<S.length->∀g,u.ownBlock=some g->(atX xs i).2.ownBlock=some g->m<=(z03 S i).2.length
structure z6H (nb:Nat) (S S':List Sr) (v v':Value) (xs xs':List (Value×Value)) (w w':World):Prop where
 os:w'.os=w.os
 tape:w'.tape=w.tape
 output:w'.output=w.output
 size:w.heap.size<=w'.heap.size
 block:∀j,j<w.heap.size->j≠nb->v.ownBlock≠some j->(∀i,i<S.length->(atX xs i).2.ownBlock≠some j)->w'.heap[j]? =w.heap[j]?
 row:v'.ownBlock=v.ownBlock\/∃g,v'.ownBlock=some g/\w.heap.size<=g
 smps:∀i,i<S'.length->(∃k,k<S.length/\(atX xs' i).2.ownBlock=(atX xs k).2.ownBlock)\/∃g,(atX xs' i).2.ownBlock=some g/\w.heap.size<=g
 keeps:∀u m ys,w.ownsRow 0 98 2 u m ys->Und u m xs S->w'.ownsRow 0 98 2 u m ys/\Und u m xs' S'
theorem z0g (w:World)(p:Addr)(u:Value):(w.setCell p u).heap.size=w.heap.size:=by simp[World.setCell]
section
variable {w W : World} {nb g cap : Nat} {mark : Int} {S : List Sr} {v : Value} {xs : List (Value × Value)}
theorem HdX.follow (h:HdX w nb mark S v xs){k:Nat}(G:k<S.length)(hv:v= .slice (some ⟨g,0,none⟩) S.length cap){J:Value}{l:List CL.Smp}
  (h1:z0h W 0 J ((z03 S k).2++l)) (h2:z0h W 0 (atX xs k).2 (z03 S k).2) (V:w.grownBy W (atX xs k).2.ownBlock) (h4:J.ownBlock=(atX xs k).2.ownBlock\/J.ownBlock=some w.heap.size) (hy:0<(z03 S k).2.length):
  HdX (W.setCell ⟨g,k*2+1,none⟩ J) nb mark (S.set k ((z03 S k).1,(z03 S k).2++l)) v (xs.set k ((atX xs k).1,J))/\z6H nb S (S.set k ((z03 S k).1,(z03 S k).2++l)) v v xs (xs.set k ((atX xs k).1,J)) w (W.setCell ⟨g,k*2+1,none⟩ J):=by
 have U:k<xs.length:=by rw[h.len];exact G
 obtain⟨g0,Ah,cr,e0,e1,A2,_,_,_⟩:=z0d h.row (by omega);rw[hv] at e0;cases e0;obtain⟨gu,cu,cur,d0,d1,A5,d3,d4,d5⟩:=z0d (h.smps k G) hy;have A1:g≠gu:=λe=>z0e (h.smps k G) A2 (by decide) (by rw[d1,e])
 have A6:nb≠gu:=λe=>z0e (h.smps k G) h.box (by decide) (by rw[d1,e])
 have A8:nb≠g:=λe=>z0e h.row h.box (by decide) (by rw[e1,e])
 have A9:g<w.heap.size:=z00 A2;have Ac:W.heap[g]? =some (.cells cr 93):=(V.block g A9 (by rw[d1];exact λe=>A1 (qt e))).trans A2;have A3:W.ownsRow 0 93 2 v S.length (zr2 xs):=h.row.kept V (.inr (by rw[d1,e1];exact λe=>A1 (qt e)));have Ad:=(hv▸A3:W.ownsRow 0 93 2 (.slice (some ⟨g,0,none⟩) S.length cap) S.length (zr2 xs)).stored (k*2+1) J;have q:∀{e:qn} {u:Value} {m:Nat} {ys:List Value},W.ownsRow 0 e 2 u m ys->e≠93->(W.setCell ⟨g,k*2+1,none⟩ J).ownsRow 0 e 2 u m ys:=λhh Ae=>z0y hh (z0e hh Ac Ae) _ _
 have Af:∀i,i<S.length->i≠k->z0h W 0 (atX xs i).2 (z03 S i).2:=λi hi A4=>(h.smps i hi).kept V (.inr (h.apart i k hi G A4))
 have A7:∀i,i<S.length->z0x W 0 (atX xs i).1 (z03 S i).1:=λi hi=>(h.labs i hi).kept V (.inr (by rw[d1];exact z0e (h.labs i hi) A5 (by decide)))
 have hu'new:∀i,i<S.length->i≠k->(atX xs i).2.ownBlock≠J.ownBlock:=λi hi A4=>by
  rcases h4 with e|e
  .rw[e];exact h.apart i k hi G A4
  .rw[e];intro O;have:=((h.smps i hi).lt _ O).2;omega
 refine⟨⟨?_,by rw[wC,wC];exact h.len,?_,λi hi=>?_,λi hi=>?_,λi j hi hj Ag=>?_⟩,⟨V.os,V.tape,V.output,by rw[z0g];exact V.size,λj hj h5 h6 h7=>?_,.inl rfl,λi hi=>?_,λu m ys h5 h6=>?_⟩⟩
 .exact(Below.heap_setCell W ⟨g,k*2+1,none⟩ J nb A8).trans ((V.block nb (z00 h.box) (by rw[d1];exact λe=>A6 (qt e))).trans h.box)
 .rw[wC,<-zjD xs J k,hv];exact Ad.1
 .rw[wC] at hi;rw[z4a _ _ _ _ U,z8N _ _ _ _ G];by_cases e:i=k
  .rw[if_pos e,if_pos e];show z0x _ 0 (atX xs k).1 (z03 S k).1;exact q (A7 k G) (by decide)
  .rw[if_neg e,if_neg e];exact q (A7 i hi) (by decide)
 .rw[wC] at hi;rw[z4a _ _ _ _ U,z8N _ _ _ _ G];by_cases e:i=k
  .rw[if_pos e,if_pos e];exact q h1 (by decide)
  .rw[if_neg e,if_neg e];exact q (Af i hi e) (by decide)
 .rw[wC] at hi hj;rw[z4a _ _ _ _ U,z4a _ _ _ _ U];by_cases e:i=k
  .rw[if_pos e,if_neg (by omega)];exact λO=>hu'new j hj (by omega) O.symm
  .rw[if_neg e];by_cases O:j=k
   .rw[if_pos O];exact hu'new i hi e
   .rw[if_neg O];exact h.apart i j hi hj Ag
 .rw[Below.heap_setCell W ⟨g,k*2+1,none⟩ J j (λe=>h6 (by rw[e1,e]))];exact V.block j hj (λe=>h7 k G e.symm)
 .rw[wC] at hi;rw[z4a _ _ _ _ U];by_cases e:i=k
  .rw[if_pos e];rcases h4 with O|O
   .exact .inl ⟨k,G,O⟩
   .exact .inr ⟨_,O,qq _⟩
  .rw[if_neg e];exact .inl ⟨i,hi,rfl⟩
 .have hW:W.ownsRow 0 98 2 u m ys:=by
   by_cases e:u.ownBlock=some gu
   ·
    have hm:=h6 k G gu e d1;rcases h5.2 with⟨e3,_⟩|⟨gg,cc,cw,e3,_,a2,a3,a4,a5,a6⟩
    .rw[e3] at e;cases e
    .rw[e3] at e;cases e;rw[A5] at a2;simp only[qR,rI] at a2;obtain⟨rfl,_,_⟩:=a2;obtain⟨Ai,Aj,Y,f0,f1,f2,f3,f4,f5⟩:=z0d h2 hy;rw[d0] at f0;cases f0;refine⟨h5.1,.inr ⟨_,cc,Y,e3,qh _,f2,a3,a4,by rw[f4,<-d4,a5],?_⟩⟩;rw[<-a6];have t1:cur.toList.take (m*2)=(cur.toList.take ((z03 S k).2.length*2)).take (m*2):=by rw[tf];congr 1;omega
     have t2:Y.toList.take (m*2)=(Y.toList.take ((z03 S k).2.length*2)).take (m*2):=by rw[tf];congr 1;omega
     rw[t1,t2,d5,f5]
   .exact h5.kept V (.inr (by rw[d1];exact e))
  refine⟨q hW (by decide),λi hi gg a1 a2=>?_⟩;rw[wC] at hi;rw[z4a _ _ _ _ U] at a2;rw[z8N _ _ _ _ G];by_cases e:i=k
  .rw[if_pos e] at a2 ⊢;rcases h4 with O|O
   .have:=h6 k G gg a1 (by rw[<-O];exact a2);simp only[q8];omega
   .have e4:gg=w.heap.size:=by
     have:J.ownBlock=some gg:=a2;rw[O] at this;cases this;rfl
    have:=(h5.lt gg a1).2;omega
  .rw[if_neg e] at a2 ⊢;exact h6 i hi gg a1 a2
theorem HdX.insert (h:HdX w nb mark S v xs){k:Nat}(hk:k<=S.length){W2 W3:World}{vl vs v':Value}{x:Sr}(hb:Below w.heap.size w W2)(h1:z0x W2 w.heap.size vl x.1)(h2:z0h W2 w.heap.size vs x.2)
  (h3:W3.ownsRow 0 93 2 v' (S.length+1) ((zr2 xs).take (k*2)++[vl,vs]++(zr2 xs).drop (k*2))) (h4:W2.grownBy W3 v.ownBlock) (h5:v'.ownBlock=v.ownBlock\/v'.ownBlock=some W2.heap.size) (hx:0<x.2.length):
  HdX (W3.setCell ⟨nb,1,none⟩ v') nb mark (S.insertIdx k x) v' (xs.insertIdx k (vl,vs))/\z6H nb S (S.insertIdx k x) v v' xs (xs.insertIdx k (vl,vs)) w (W3.setCell ⟨nb,1,none⟩ v'):=by
 have J:k<=xs.length:=by rw[h.len];exact hk
 have A2:nb<w.heap.size:=z00 h.box;have A5:v.ownBlock≠some nb:=z0e h.row h.box (by decide);have A1:W3.heap[nb]? =some (.cells #[.int .i64 mark,v] 165):=(h4.block nb (qe A2 hb.size) (λe=>A5 e.symm)).trans ((hb.block nb A2).trans h.box);have q:(S.insertIdx k x).length=S.length+1:=by rw[iq,if_pos hk]
 have A3:(xs.insertIdx k (vl,vs)).length=S.length+1:=by rw[iq,if_pos J,h.len]
 have U:∀{e:qn} {u:Value} {m G:Nat} {ys:List Value},W2.ownsRow G e 2 u m ys->e≠93->e≠165->(W3.setCell ⟨nb,1,none⟩ v').ownsRow G e 2 u m ys:=λ{e u m G ys} hh A7 A6=>by
  have h6:W3.ownsRow G e 2 u m ys:=by
   refine hh.kept h4 ?_;rcases hv:v.ownBlock with _|g
   .rcases hu:u.ownBlock with _|g'
    .exact .inl rfl
    .exact .inr (by simp)
   .refine .inr ?_;have hg:∃c,w.heap[g]? =some (.cells c 93):=by
     rcases h.row.2 with⟨e0,_⟩|⟨g1,_,c,e0,_,O,_⟩
     .rw[e0] at hv;cases hv
     .rw[e0] at hv;cases hv;exact⟨c,O⟩
    obtain⟨c,hc⟩:=hg;exact z0e hh ((hb.block g (z00 hc)).trans hc) A7
  exact z0y h6 (z0e h6 A1 A6) _ _
 have up:∀{e:qn} {u:Value} {m G:Nat} {ys:List Value},w.ownsRow G e 2 u m ys->W2.ownsRow G e 2 u m ys:=λhh=>z04 hh λg _ hg=>hb.block g (z00 hg)
 have A4:∃g,vs.ownBlock=some g/\w.heap.size<=g:=by
  obtain⟨g,_,_,_,e,_⟩:=z0d h2 hx;exact⟨g,e,(h2.lt g e).1⟩
 have V:∀i,i<S.length->(atX xs i).2.ownBlock≠vs.ownBlock:=λi hi e=>by
  obtain⟨g,Y,e3⟩:=A4;rw[Y] at e;have:=((h.smps i hi).lt g e).2;omega
 refine⟨⟨?_,by rw[q,A3],?_,λi hi=>?_,λi hi=>?_,λi j hi hj A8=>?_⟩,⟨h4.os.trans hb.os,h4.tape.trans hb.tape,h4.output.trans hb.output,by rw[z0g];exact qi hb.size h4.size,λj hj h6 h7 h8=>?_,?_,λi hi=>?_,λu m ys h6 h7=>?_⟩⟩
 .exact qo W3 nb 1 _ _ v' A1
 .rw[q,<-zdj vl vs xs k J];exact z0y h3 (z0e h3 A1 (by decide)) _ _
 .rw[q] at hi;rw[z5y _ _ _ _ J,z8V _ _ _ _ hk];by_cases e:i<k
  .rw[if_pos e,if_pos e];exact U (up (h.labs i (by omega))) (by decide) (by decide)
  .rw[if_neg e,if_neg e];by_cases Y:i=k
   .rw[if_pos Y,if_pos Y];exact U (z07 h1 (qh _)) (by decide) (by decide)
   .rw[if_neg Y,if_neg Y];exact U (up (h.labs (i-1) (by omega))) (by decide) (by decide)
 .rw[q] at hi;rw[z5y _ _ _ _ J,z8V _ _ _ _ hk];by_cases e:i<k
  .rw[if_pos e,if_pos e];exact U (up (h.smps i (by omega))) (by decide) (by decide)
  .rw[if_neg e,if_neg e];by_cases Y:i=k
   .rw[if_pos Y,if_pos Y];exact U (z07 h2 (qh _)) (by decide) (by decide)
   .rw[if_neg Y,if_neg Y];exact U (up (h.smps (i-1) (by omega))) (by decide) (by decide)
 .rw[q] at hi hj;rw[z5y _ _ _ _ J,z5y _ _ _ _ J];by_cases a1:i<k
  .rw[if_pos a1];by_cases b1:j<k
   .rw[if_pos b1];exact h.apart i j (by omega) (by omega) A8
   .rw[if_neg b1];by_cases b2:j=k
    .rw[if_pos b2];exact V i (by omega)
    .rw[if_neg b2];exact h.apart i (j-1) (by omega) (by omega) (by omega)
  .rw[if_neg a1];by_cases O:i=k
   .rw[if_pos O];by_cases b1:j<k
    .rw[if_pos b1];exact λe=>V j (by omega) e.symm
    .rw[if_neg b1,if_neg (by omega)];exact λe=>V (j-1) (by omega) e.symm
   .rw[if_neg O];by_cases b1:j<k
    .rw[if_pos b1];exact h.apart (i-1) j (by omega) (by omega) (by omega)
    .rw[if_neg b1];by_cases b2:j=k
     .rw[if_pos b2];exact V (i-1) (by omega)
     .rw[if_neg b2];exact h.apart (i-1) (j-1) (by omega) (by omega) (by omega)
 .rw[Below.heap_setCell W3 ⟨nb,1,none⟩ v' j h6];exact(h4.block j (qe hj hb.size) (λe=>h7 e.symm)).trans (hb.block j hj)
 .rcases h5 with e|e
  .exact .inl e
  .exact .inr ⟨_,e,hb.size⟩
 .rw[q] at hi;rw[z5y _ _ _ _ J];by_cases a1:i<k
  .rw[if_pos a1];exact .inl ⟨i,by omega,rfl⟩
  .rw[if_neg a1];by_cases O:i=k
   .rw[if_pos O];exact .inr A4
   .rw[if_neg O];exact .inl ⟨i-1,by omega,rfl⟩
 .refine⟨U (up h6) (by decide) (by decide),λi hi g a1 O=>?_⟩;rw[q] at hi;rw[z5y _ _ _ _ J] at O;rw[z8V _ _ _ _ hk];by_cases b1:i<k
  .rw[if_pos b1] at O ⊢;exact h7 i (by omega) g a1 O
  .rw[if_neg b1] at O ⊢;by_cases b2:i=k
   .rw[if_pos b2] at O;obtain⟨g2,Y,e3⟩:=A4;have:vs.ownBlock=some g:=O;rw[Y] at this;cases this;have:=(h6.lt g a1).2;omega
   .rw[if_neg b2] at O ⊢;exact h7 (i-1) (by omega) g a1 O
end
end
section
open Go.RowKit
def zmU (h n:Nat)(v b:Value)(xs:List Value)(lab:List LB.Lab)(w:World)(e:rO)(w':World):Prop:=
 ∃v' a W,e= .returned v'/\Below w.heap.size w W/\z0x W w.heap.size a lab/\w'.ownsRow h 93 2 v' (n+1) (xs++[a,b])/\W.grownBy w' v.ownBlock/\(v'.ownBlock=v.ownBlock\/v'.ownBlock=some W.heap.size)
theorem zbP (v:Value)(h:Value)(so:Option Addr)(sc:Nat)(w:World):
  Calls q6 164 #[v,h,.slice so 0 sc] w λe w'=>e= .returned v/\w'=w:=by
 go_enter func164,ntmps164;go_wp2_with fail;go_ret;exact⟨rfl,rfl⟩
theorem zby (h n:Nat)(v:Value)(xs:List Value)(lo so:Option Addr)(lab:List LB.Lab)(lc U sc:Nat)(w:World)(hv:w.ownsRow h 93 2 v n xs)(hL:z1w w lo lab)(h1:0<lab.length)(h2:lab.length<=1000)(h3:0<U)(hn:n<=1000000)(hb:h<=w.heap.size):
  Calls q6 164 #[v,.slice lo lab.length lc,.slice so U sc] w λe w'=>zmU h n v (.slice so U sc) xs lab w e w':=by
 have HV:=hid hv;have HC:=hid (z2r lo lab lc w hL h1 (by omega));have h0:((U:Int)==0)=false:=by
  simp only[beq_eq_false_iff_ne,ne_eq];omega
 obtain⟨ao,cap,O⟩:=z02 hv;have V:=hid O;clear hv hL;rw[O];clear O;go_enter func164,ntmps164;go_wp2_with fail;refine HC.out.mono ?_;rintro e w2 ⟨a,rfl,ho,q⟩;obtain⟨aa,ca,ea⟩:=z02 ho;subst ea;have G:w2.ownsRow h 93 2 v n xs:=z04 HV.out λg _ hg=>q.block g (z00 hg)
 obtain⟨v3,w3,J,k1,k2,k3⟩:=z6z (w2.alloc (.cells #[.slice aa lab.length ca,.slice so U sc] 93)) h w2.heap.size v (.slice aa lab.length ca) (.slice so U sc) n xs (qu w2 _) rfl rfl (G.alloc _) hn (qi hb (qi q.size (eZ w2 _ none).size));have HQ:=hid (qv k1 (qv k2 k3));obtain⟨a3,c3,e3⟩:=z02 k1;subst e3;rw[V.out] at J;have Y:=hid q;have HO:=hid ho;clear k1 k2 k3 q ho HC G;go_wp2_with (at_builtin;refine qB _ rfl _ _ _ _ rfl _ _ rfl rfl _ _ J ?_)
 go_ret;rw[<-V.out];exact⟨_,_,_,rfl,Y.out.alloc Y.out.size _,HO.out.alloc _,HQ.out.1,HQ.out.2.1,HQ.out.2.2⟩
def zhs (h n:Nat)(v b:Value)(xs:List Value)(lab:List LB.Lab)(k:Nat)(w:World)(e:rO)(w':World):Prop:=
 ∃v',e= .returned v'/\((k=0/\v'=v/\w'=w)\/(0<k/\∃a W,Below w.heap.size w W/\z0x W w.heap.size a lab/\w'.ownsRow h 93 2 v' (n+1) (xs++[a,b])/\W.grownBy w' v.ownBlock/\(v'.ownBlock=v.ownBlock\/v'.ownBlock=some W.heap.size)))
theorem z8j (h n:Nat)(v b:Value)(xs:List Value)(lo:Option Addr)(lab:List LB.Lab)(G:Nat)(ys:List CL.Smp)(w:World)(U:w.ownsRow h 93 2 v n xs)(V:z1w w lo lab)(J:0<lab.length)(O:lab.length<=1000)(Y:z0h w 0 b ys)(hn:n<=1000000)(hb:h<=w.heap.size):
  Calls q6 164 #[v,.slice lo lab.length G,b] w λe w'=>zhs h n v b xs lab ys.length w e w':=by
 obtain⟨so,sc,rfl⟩:=z02 Y;rcases Nat.eq_zero_or_pos ys.length with q|q
 .rw[q];refine(zbP v (.slice lo lab.length G) so sc w).mono ?_;rintro e w' ⟨J,O⟩;exact⟨v,J,.inl ⟨rfl,rfl,O⟩⟩
 .refine(zby h n v xs lo so lab G ys.length sc w U V J O q hn hb).mono ?_;rintro e w' ⟨v',a,W,k1,k2,k3,k4,k5,k6⟩;exact⟨v',k1,.inr ⟨q,a,W,k2,k3,k4,k5,k6⟩⟩
structure SB (w:World) (base:Nat) (v:Value) (xs:List (Value×Value)) (L:List Sr):Prop where
 len:xs.length=L.length
 row:w.ownsRow base 93 2 v L.length (zr2 xs)
 labs:∀i,i<L.length->z0x w 0 (atX xs i).1 (z03 L i).1
 smps:∀i,i<L.length->z0h w 0 (atX xs i).2 (z03 L i).2
theorem SB.nil (w:World)(h:Nat):SB w h (.slice none 0 0) [] []:=⟨rfl,⟨rfl,.inl ⟨rfl,rfl⟩⟩,λi hi=>by simp at hi,λi hi=>by simp at hi⟩
theorem SB.below {w w':World}{q:Nat}{v:Value}{xs:List (Value×Value)}{L:List Sr}(h:SB w q v xs L)(k:Below w.heap.size w w'):SB w' q v xs L:=
 ⟨h.len,z04 h.row λg _ G=>k.block g (z00 G),λi hi=>z04 (h.labs i hi) λg _ G=>k.block g (z00 G),λi hi=>z04 (h.smps i hi) λg _ G=>k.block g (z00 G)⟩
theorem z0q {W W':World}{h base' n m:Nat}{v u:Value}{xs ys:List Value}{e:qn}(hv:W.ownsRow h 93 2 v n xs)(hu:W.ownsRow base' e 2 u m ys)(q:e≠93)(k:W.grownBy W' v.ownBlock):W'.ownsRow base' e 2 u m ys:=by
 refine hu.kept k ?_;rcases hvb:v.ownBlock with _|g
 .rcases hub:u.ownBlock with _|O
  .exact .inl rfl
  .exact .inr (by simp)
 .right;rcases hv.2 with⟨G,_⟩|⟨U,_,c,G,_,J,_⟩
  .rw[G] at hvb;cases hvb
  .rw[G] at hvb;cases hvb;exact z0e hu J q
theorem SB.other {W W':World}{q base' n:Nat}{v u:Value}{xs:List (Value×Value)}{L:List Sr}{ys:List Value}(h:SB W q v xs L)(J:W.ownsRow base' 93 2 u n ys)(G:v.ownBlock=none\/v.ownBlock≠u.ownBlock)(k:W.grownBy W' u.ownBlock):SB W' q v xs L:=
 ⟨h.len,h.row.kept k G,λi hi=>z0q J (h.labs i hi) (by decide) k,λi hi=>z0q J (h.smps i hi) (by decide) k⟩
theorem z1r (xs:List (Value×Value))(p:Value×Value)(i:Nat):atX (xs++[p]) i=if i<xs.length then atX xs i else if i=xs.length then p else znj:=by
 unfold atX;rw[q7,q7];by_cases h:i<xs.length
 .rw[if_pos h,wD h]
 .rw[if_neg h,eW (by omega)];by_cases q:i=xs.length
  .rw[if_pos q,q,ot];rfl
  .rw[if_neg q,List.getElem?_eq_none (by simp;omega)];rfl
theorem z9Z (S:List Sr)(p:Sr)(i:Nat)(hi:i<S.length+1):z03 (S++[p]) i=if i<S.length then z03 S i else p:=by
 unfold z03;rw[q7,q7];by_cases h:i<S.length
 .rw[if_pos h,wD h]
 .have:i=S.length:=by omega
  rw[if_neg h,eW (by omega),this,ot];rfl
theorem SB.push {W W':World}{G:Nat}{v v' a b:Value}{xs:List (Value×Value)}{L:List Sr}{x:Sr}(h:SB W G v xs L)(J:z0x W 0 a x.1)(hb:z0h W 0 b x.2)(O:W'.ownsRow G 93 2 v' (L.length+1) (zr2 xs++[a,b]))(k:W.grownBy W' v.ownBlock):SB W' G v' (xs++[(a,b)]) (L++[x]):=by
 refine⟨by rw[q8,q8,h.len];rfl,?_,λi hi=>?_,λi hi=>?_⟩
 .rw[q8,z7z];exact O
 .rw[q8] at hi;rw[z1r,z9Z L x i hi,h.len];by_cases q:i<L.length
  .rw[if_pos q,if_pos q];exact z0q h.row (h.labs i q) (by decide) k
  .rw[if_neg q,if_neg q,if_pos (by simp only[qf,qO] at hi;omega)];exact z0q h.row J (by decide) k
 .rw[q8] at hi;rw[z1r,z9Z L x i hi,h.len];by_cases q:i<L.length
  .rw[if_pos q,if_pos q];exact z0q h.row (h.smps i q) (by decide) k
  .rw[if_neg q,if_neg q,if_pos (by simp only[qf,qO] at hi;omega)];exact z0q h.row hb (by decide) k
end
section
open Go.RowKit
theorem zfu (x:List LB.Lab)(L:List LB.Lab)(lo so G:Option Addr)(q J sc U:Nat)(w:World)(V:z1w w lo x)(hK:z1w w G L)(Y:x.length<=1000)(h2:L.length<=1000):
  Calls q6 149 #[.agg #[.slice lo x.length q,.slice so J sc],.slice G L.length U] w λe w'=>e= .returned (.int .i64 (LB.cmp x L))/\Below w.heap.size w w':=by
 have h:Below w.heap.size w (w.alloc (.cells #[.slice lo x.length q,.slice so J sc] 93)):=(Below.refl _ w).alloc (qq _) _;have HC:=hid (z3X lo G x L q U (w.alloc (.cells #[.slice lo x.length q,.slice so J sc] 93)) (V.below h) (hK.below h) Y h2);have O:=hid h;clear h V hK;go_enter func149,ntmps149;go_wp2_with fail;refine HC.out.mono ?_;rintro e w2 ⟨rfl,hb⟩;have HB:=hid (z0u O.out hb);clear hb;go_wp2_with fail;go_ret;exact⟨rfl,HB.out⟩
theorem zb2 (ao ko:Option Addr)(S:List Sr)(L:List LB.Lab)(cap kc:Nat)(w:World)(hS:z0r w ao S)(hK:z1w w ko L)(hO:HD.Ord S)(hn:S.length<=100000)(A8:∀i,i<S.length->(z03 S i).1.length<=1000)(hl:L.length<=1000):
  Calls q6 148 #[.slice ao S.length cap,.slice ko L.length kc,.func (.func 149) #[] #[]] w λe w'=>e= .returned (.tuple #[.int .i64 (HD.pos S L:Int),.bool (HD.there S L)])/\Below w.heap.size w w':=by
 have HS:=hid hS;have HO:=hid hO;have A9:=hid A8;have HC:Hid (∀W,Below w.heap.size w W->∀x lo so (lc sn sc:Nat),z1w W lo x->x.length<=1000->Calls q6 149 #[.agg #[.slice lo x.length lc,.slice so sn sc],.slice ko L.length kc] W λe w'=>e= .returned (.int .i64 (LB.cmp x L))/\Below W.heap.size W w'):=λW hW x lo so lc sn sc hx h1=>zfu x L lo so ko lc sn sc kc W hx (hK.below hW) h1 hl
 have Ac:=HD.z2T S L;clear hS hO A8 hK hl;go_enter func148,ntmps148;go_wp2_with fail;go_loopw [9,10] (λti tj wr=>∃i j:Nat,i<=j/\j<=S.length/\ti= .int .i64 i/\tj= .int .i64 j/\(∀k,k<i->LB.cmp (z03 S k).1 L= -1)/\(∀k,j<=k->k<S.length->LB.cmp (z03 S k).1 L≠ -1)/\Below w.heap.size w wr) (λti tj _=>(intOf tj).toNat-(intOf ti).toNat)
 case atStart=>exact⟨0,S.length,by omega,by omega,rfl,rfl,λk hk=>by omega,λk h1 h2=>by omega,Below.refl _ _⟩
 case round=>
  obtain⟨i,j,Ah,Ad,rfl,rfl,h1,h2,A5⟩:=hrel;have H1:=hid h1;have H2:=hid h2;have J:=hid A5;clear h1 h2 A5;by_cases Ai:i<j
  .obtain⟨m,hm⟩:∃m:Nat,m=(i+j)/2:=⟨_,rfl⟩;have A6:m<S.length:=by omega
   obtain⟨b,off,A7,O,lo,lc,so,sc,U,q,hL,_⟩:=HS.out m A6;subst A7;have e0:wr.cell? ⟨b,off+m*2,none⟩=some (.slice lo (z03 S m).1.length lc):=(J.out.cell (p:=⟨b,_,none⟩) O).trans U;have e1:wr.cell? ⟨b,off+m*2+1,none⟩=some (.slice so (z03 S m).2.length sc):=(J.out.cell (p:=⟨b,_,none⟩) O).trans q;have V:=hid (HC.out wr J.out (z03 S m).1 lo so lc (z03 S m).2.length sc (hL.below J.out) (A9.out m A6));clear U q hL;generalize Y:LB.cmp (z03 S m).1 L=cm at*;have G:=hid Y;clear Y;generalize (z03 S m).1.length=ln at*;generalize (z03 S m).2.length=sn at*;have w1:qW.wrap ((i:Int)+j)=(i:Int)+j:=by rw[qY];omega
   have Af:((i:Int)+j)/2=(m:Int):=by omega
   have Aj:=hid hm;have Ae:0<=(m:Int)/\(m:Int)<(S.length:Int):=by omega
   have Ak:i<=m:=by omega
   have Al:m<j:=by omega
   clear hm;go_wp2_with fail;refine V.out.mono ?_;rintro e w2 ⟨rfl,A1⟩;have A3:=hid (z0u J.out A1);clear A1 V;by_cases Ag:cm<0
   .go_wp2_with fail;go_roundw
    case rel=>
     have q:LB.cmp (z03 S m).1 L= -1:=by
      rcases LB.z0R.rng (z03 S m).1 L with h|h|h
      .exact h
      .rw[G.out] at h;omega
      .rw[G.out] at h;omega
     refine⟨m+1,j,by omega,Ad,by go_num,rfl,λk hk=>?_,H2.out,A3.out⟩;rcases Nat.lt_or_ge k i with h|h
     .exact H1.out k h
     .rcases uT (Nat.le_of_lt_succ hk) with h3|h3
      .rw[h3];exact q
      .have h4:=HD.z4N HO.out k m h3 A6;exact LB.z0R.tr _ _ _ h4 q
    case measure=>simp[intOf];omega
   .go_wp2_with fail;go_roundw
    case rel=>
     have q:LB.cmp (z03 S m).1 L≠ -1:=λh=>by rw[G.out] at h;omega
     refine⟨i,m,by omega,by omega,rfl,rfl,H1.out,λk h3 h4=>?_,A3.out⟩;rcases uT h3 with h5|h5
     .rw[<-h5];exact q
     .intro h6;exact q (LB.z0R.tr _ _ _ (HD.z4N HO.out m k h5 h4) h6)
    case measure=>simp[intOf];omega
  .have he:i=j:=by omega
   subst he;have A2:i=HD.pos S L:=HD.zge HO.out L i Ad H1.out H2.out;have HP:=hid A2;by_cases A4:i<S.length
   .obtain⟨b,off,A7,O,lo,lc,so,sc,U,q,hL,_⟩:=HS.out i A4;subst A7;have e0:wr.cell? ⟨b,off+i*2,none⟩=some (.slice lo (z03 S i).1.length lc):=(J.out.cell (p:=⟨b,_,none⟩) O).trans U;have e1:wr.cell? ⟨b,off+i*2+1,none⟩=some (.slice so (z03 S i).2.length sc):=(J.out.cell (p:=⟨b,_,none⟩) O).trans q;have V:=hid (HC.out wr J.out (z03 S i).1 lo so lc (z03 S i).2.length sc (hL.below J.out) (A9.out i A4));clear U q hL A2 Ac;generalize Y:LB.cmp (z03 S i).1 L=cm at*;have G:=hid Y;clear Y;generalize (z03 S i).1.length=ln at*;generalize (z03 S i).2.length=sn at*;have Ae:0<=(i:Int)/\(i:Int)<(S.length:Int):=by omega
    go_wp2_with fail;refine V.out.mono ?_;rintro e w2 ⟨rfl,A1⟩;have A3:=hid (z0u J.out A1);clear A1 V;go_wp2_with fail;go_ret2;have ht:HD.there S L=(cm==0):=by
     unfold HD.there;rw[<-HP.out,G.out,ui,decide_eq_true_iff,beq_iff_eq];exact⟨λh=>h.2,λh=>⟨A4,h⟩⟩
    exact⟨by rw[ht,<-HP.out];rfl,A3.out⟩
   .clear A2 Ac;go_wp2_with fail;go_ret2;have ht:HD.there S L=false:=by
     unfold HD.there;rw[<-HP.out];exact decide_eq_false (λh=>A4 h.1)
    exact⟨by rw[ht,<-HP.out];rfl,J.out⟩
end
section
open Go.RowKit
theorem zeo (n:Nat)(w:World):
  Calls q6 135 #[.int .u8 n] w λe w'=>e= .returned (.bool (LB.letter n))/\w'=w:=by
 generalize h:LB.letter n=B;have q:=hid h;clear h;go_enter func135,ntmps135;go_wp2
 all_goals
  go_ret;refine⟨z05 ?_,rfl⟩;rw[<-q.out,ui];unfold LB.letter;simp only[Bool.or_eq_true,decide_eq_true_eq,beq_iff_eq,true_iff];omega
theorem zgL (n:Nat)(w:World):
  Calls q6 136 #[.int .u8 n] w λe w'=>e= .returned (.bool (LB.digit n))/\w'=w:=by
 generalize h:LB.digit n=B;have q:=hid h;clear h;go_enter func136,ntmps136;go_wp2
 all_goals
  go_ret;refine⟨z05 ?_,rfl⟩;rw[<-q.out,ui];unfold LB.digit;simp only[decide_eq_true_eq,Bool.false_eq_true,false_iff];omega
theorem z8v (s:ByteArray)(w:World):∃cap w1,(convert 9 102 (.string s)).run q6 w= .ok (.slice (some ⟨w.heap.size,0,none⟩) s.size cap) w1/\Below w.heap.size w w1/\∀j,j<s.size->w1.cell? ⟨w.heap.size,j,none⟩=some (.int .u8 (LB.byt s j)):=by
 refine⟨_,_,run_bytes_of_string w 9 102 5 s underlying9 underlying102 underlying5,?_,?_⟩
 .exact(z0k (Below.refl _ w) 1).alloc (qq _) _
 .intro j q;have h:j<s.data.size:=q;have e:LB.byt s j=(s.data[j]'h).toNat:=by rw[<-LB.zmg s j q];rfl
  rw[e];rw[show w.heap.size=w.drew.heap.size from rfl,World.cell?_alloc_mark];simp only[bytesRow,Array.getElem?_append,Array.size_map];rw[if_pos h,Array.getElem?_map,Array.getElem?_eq_getElem h];rfl
theorem zdm (s:ByteArray)(w:World):
  Calls q6 80 #[.string s] w λe w'=>e= .returned (.bool (LB.name s))/\Below w.heap.size w w':=by
 generalize hB:LB.name s=B;have HB:=hid hB;clear hB;by_cases hs:1<=s.size/\s.size<=24
 .have A2:¬(s.size:Int)<1:=by omega
  have A3:¬(24:Int)<(s.size:Int):=by omega
  obtain⟨cap,w1,A4,J,G⟩:=z8v s w;have U:=hid J;have HC:=hid G;clear J G;go_enter func80,ntmps80;go_wp2;go_loopw [16] (λti wr=>∃i:Nat,i<=s.size/\ti= .int .i64 i/\wr=w1/\∀j,j<i->LB.okN j (LB.byt s j)=true) (λti _=>s.size-(intOf ti).toNat)
  case atStart=>exact⟨0,by omega,rfl,rfl,by omega⟩
  case round=>
   obtain⟨i,hi,rfl,rfl,V⟩:=hrel;have HO:=hid V;clear V;by_cases Y:i<s.size
   .have hc:=HC.out i Y;have hb:=LB.zjT s i;generalize hn:LB.byt s i=n at hc hb;have HY:=hid hn;clear hn;have HN:Hid (LB.okN i n=(LB.letter n||(decide (i≠0)&&LB.digit n))):=rfl;go_wp2_with fail;refine(zeo n wr).mono ?_;rintro e w' ⟨rfl,rfl⟩;have step:∀(hk:LB.okN i n=true),Hid (∀j,j<i+1->LB.okN j (LB.byt s j)=true):=λhk j hj=>by
     by_cases he:j=i
     .subst he;rw[HY.out];exact hk
     .exact HO.out j (by omega)
    have O:∀(hk:LB.okN i n=false),Hid (B=false):=λhk=>by
     show _=_;rw[<-HB.out];refine decide_eq_false λh=>?_
     have:=h.2.2 i Y;rw[HY.out,hk] at this;cases this
    have STEP:=hid step;have STOP:=hid O;clear step O;cases hl:LB.letter n with
    | true=>
     have q:=STEP.out (by rw[HN.out,hl];rfl);clear STEP STOP;go_wp2_with fail;go_roundw
     case rel=>exact⟨i+1,by omega,by go_num,by trivial,q.out⟩
     case measure=>simp[intOf];omega
    | false=>
     by_cases h0:i=0
     .have q:=STOP.out (by rw[HN.out,hl,h0];rfl);clear STEP STOP;have A5:(i:Int)=0:=by omega
      go_wp2_with fail;go_ret;exact⟨z05 q.out.symm,U.out⟩
     .have A5:¬(i:Int)=0:=by omega
      have A1:Hid (LB.okN i n=LB.digit n):=by
       show _=_;rw[HN.out,hl,decide_eq_true h0];rfl
      go_wp2_with fail;refine(zgL n _).mono ?_;rintro e w' ⟨rfl,rfl⟩;cases hd:LB.digit n with
      | true=>
       have q:=STEP.out (by rw[A1.out,hd]);clear STEP STOP;go_wp2_with fail;go_roundw
       case rel=>exact⟨i+1,by omega,by go_num,by trivial,q.out⟩
       case measure=>simp[intOf];omega
      | false=>
       have q:=STOP.out (by rw[A1.out,hd]);clear STEP STOP;go_wp2_with fail;go_ret;exact⟨z05 q.out.symm,U.out⟩
   .have he:i=s.size:=by omega
    have q:Hid (B=true):=by
     show _=_;rw[<-HB.out];exact decide_eq_true ⟨hs.1,hs.2,λj hj=>HO.out j (by omega)⟩
    subst he;go_wp2;go_ret;exact⟨z05 q.out.symm,U.out⟩
 .have q:Hid (B=false):=by
   show _=_;rw[<-HB.out];exact decide_eq_false λh=>hs ⟨h.1,h.2.1⟩
  by_cases A2:(s.size:Int)<1
  .go_enter func80,ntmps80;go_wp2;go_ret;exact⟨z05 q.out.symm,Below.refl _ _⟩
  .have A3:(24:Int)<(s.size:Int):=by omega
   go_enter func80,ntmps80;go_wp2;go_ret;exact⟨z05 q.out.symm,Below.refl _ _⟩
theorem z8t (s:ByteArray)(w:World):
  Calls q6 81 #[.string s] w λe w'=>e= .returned (.bool (LB.zjQ s))/\Below w.heap.size w w':=by
 generalize hB:LB.zjQ s=B;have HB:=hid hB;clear hB;by_cases hs:s.size<=24
 .have A1:¬(24:Int)<(s.size:Int):=by omega
  obtain⟨cap,w1,A2,O,q⟩:=z8v s w;have G:=hid O;have HC:=hid q;clear O q;go_enter func81,ntmps81;go_wp2;go_loopw [11] (λti wr=>∃i:Nat,i<=s.size/\ti= .int .i64 i/\wr=w1/\∀j,j<i->LB.okV (LB.byt s j)=true) (λti _=>s.size-(intOf ti).toNat)
  case atStart=>exact⟨0,by omega,rfl,rfl,by omega⟩
  case round=>
   obtain⟨i,hi,rfl,rfl,V⟩:=hrel;have HO:=hid V;clear V;by_cases Y:i<s.size
   .have hc:=HC.out i Y;have hb:=LB.zjT s i;generalize hn:LB.byt s i=n at hc hb;have HY:=hid hn;clear hn;by_cases U:32<=n/\n<=126/\n≠34/\n≠92
    .have J:Hid (∀j,j<i+1->LB.okV (LB.byt s j)=true):=λj hj=>by
      by_cases he:j=i
      .subst he;rw[HY.out];exact decide_eq_true U
      .exact HO.out j (by omega)
     have h1:¬(n:Int)<32:=by omega
     have h2:¬(126:Int)<n:=by omega
     have h3:((n:Int)==34)=false:=by rw[beq_eq_false_iff_ne];omega
     have h4:((n:Int)==92)=false:=by rw[beq_eq_false_iff_ne];omega
     clear U;go_wp2_with fail;go_roundw
     case rel=>exact⟨i+1,by omega,by go_num,by trivial,J.out⟩
     case measure=>simp[intOf];omega
    .have J:Hid (B=false):=by
      show _=_;rw[<-HB.out];refine decide_eq_false λh=>?_
      have:=h.2 i Y;rw[HY.out] at this;exact U (of_decide_eq_true this)
     by_cases h1:(n:Int)<32
     .clear U;go_wp2_with fail;go_ret;exact⟨z05 J.out.symm,G.out⟩
     .by_cases h2:(126:Int)<n
      .clear U;go_wp2_with fail;go_ret;exact⟨z05 J.out.symm,G.out⟩
      .by_cases h3:(n:Int)=34
       .clear U;go_wp2_with fail;go_ret;exact⟨z05 J.out.symm,G.out⟩
       .have h4:(n:Int)=92:=by omega
        clear U;go_wp2_with fail;go_ret;exact⟨z05 J.out.symm,G.out⟩
   .have he:i=s.size:=by omega
    have J:Hid (B=true):=by
     show _=_;rw[<-HB.out];exact decide_eq_true ⟨hs,λj hj=>HO.out j (by omega)⟩
    subst he;go_wp2;go_ret;exact⟨z05 J.out.symm,G.out⟩
 .have J:Hid (B=false):=by
   show _=_;rw[<-HB.out];exact decide_eq_false λh=>hs h.1
  have A1:(24:Int)<(s.size:Int):=by omega
  go_enter func81,ntmps81;go_wp2;go_ret;exact⟨z05 J.out.symm,Below.refl _ _⟩
end
section
open Go.RowKit
theorem zg5 {s:ByteArray}:s.toList=[]↔s=qy:=by
 have h:qy.toList=[]:=by rw[Lib.toList_data];rfl
 rw[<-h];exact LB.zen
theorem z3J (ao:Option Addr)(l:List LB.Lab)(cap:Nat)(w:World)(hL:z1w w ao l):
  Calls q6 146 #[.slice ao l.length cap] w λe w'=>e= .returned (.bool (LB.right l))/\Below w.heap.size w w':=by
 generalize hB:LB.right l=B;have HB:=hid hB;have HL:=hid hL;clear hB hL;by_cases hs:1<=l.length/\l.length<=8
 .have Ai:¬(l.length:Int)<1:=by omega
  have A4:¬(8:Int)<(l.length:Int):=by omega
  go_enter func146,ntmps146;go_wp2;go_loopw [15] (λti wr=>∃i:Nat,i<=l.length/\ti= .int .i64 i/\Below w.heap.size w wr/\∀j,j<i->LB.okL l j) (λti _=>l.length-(intOf ti).toNat)
  case atStart=>exact⟨0,by omega,rfl,Below.refl _ _,by omega⟩
  case round=>
   obtain⟨i,hi,rfl,J,A8⟩:=hrel;have HO:=hid A8;have A1:=hid J;have Aj:=J.size;clear A8 J;by_cases A9:i<l.length
   .obtain⟨b,off,Ak,Ac,Ad,A5⟩:=HL.out i A9;subst Ak;have Ag:=(A1.out.cell (p:=⟨b,off+i*2,none⟩) A5).trans Ac;have Ah:=(A1.out.cell (p:=⟨b,off+i*2+1,none⟩) A5).trans Ad;clear Ac Ad;have HF:Hid (¬LB.okL l i->B=false):=λh=>by
     rw[<-HB.out];exact decide_eq_false λh'=>h (h'.2.2 i A9)
    have HT:Hid (LB.okL l i->∀j,j<i+1->LB.okL l j):=λh j hj=>by
     by_cases he:j=i
     .subst he;exact h
     .exact HO.out j (by omega)
    have G:Hid (LB.okL l i↔LB.name (LB.at' l i).1=true/\LB.zjQ (LB.at' l i).2=true/\(LB.at' l i).2≠qy/\(0<i->LB.lt (LB.at' l (i-1)).1 (LB.at' l i).1=true)):=Iff.rfl;generalize (LB.at' l i).1=N at*;generalize (LB.at' l i).2=V at*;go_wp2_with fail;refine(zdm N _).mono ?_;rintro e w2 ⟨rfl,O⟩;have A2:=hid ((A1.out.alloc Aj (.cells #[.string N,.string V] 107)).trans (O.mono (by simp;omega)));have Ae:w2.cell? ⟨wr.heap.size,0,none⟩=some (.string N):=(O.cell (p:=⟨wr.heap.size,0,none⟩) (by simp)).trans (by simp);have Al:w2.cell? ⟨wr.heap.size,1,none⟩=some (.string V):=(O.cell (p:=⟨wr.heap.size,1,none⟩) (by simp)).trans (by simp);have A4:=A2.out.size;have Am:wr.heap.size<w2.heap.size:=qe (by simp) O.size;clear O;cases hn:LB.name N with
    | false=>
     have U:=hid (HF.out (λh=>by have:=(G.out.1 h).1;rw[hn] at this;cases this));clear HF HT G;go_wp2_with fail;go_ret;exact⟨z05 U.out.symm,A2.out⟩
    | true=>
     by_cases hv:V=qy
     .have U:=hid (HF.out (λh=>(G.out.1 h).2.2.1 hv));have A6:V.toList=[]:=zg5.2 hv;clear HF HT G hv;go_wp2_with fail;go_ret;exact⟨z05 U.out.symm,A2.out⟩
     .have A6:¬V.toList=[]:=λh=>hv (zg5.1 h)
      have Aq:V.toList.isEmpty=false:=by rw[<-Bool.not_eq_true,List.isEmpty_iff];exact A6
      have HV:=hid hv;clear hv;go_wp2_with fail;refine(z8t V _).mono ?_;rintro e w3 ⟨rfl,A7⟩;have q:=hid (A2.out.trans (A7.mono A4));have Ar:w3.cell? ⟨wr.heap.size,0,none⟩=some (.string N):=(A7.cell (p:=⟨wr.heap.size,0,none⟩) Am).trans Ae;have Au:=q.out.size;clear A7 Ae Al;cases hq:LB.zjQ V with
      | false=>
       have U:=hid (HF.out (λh=>by have:=(G.out.1 h).2.1;rw[hq] at this;cases this));clear HF HT G;go_wp2_with fail;go_ret;exact⟨z05 U.out.symm,q.out⟩
      | true=>
       clear A6;by_cases Y:0<i
       .have Ao:decide (0<i)=true:=decide_eq_true Y;have Av:((i:Int)-1).toNat=i-1:=by omega
        have Aw:0<=(i:Int)-1/\(i:Int)-1<(l.length:Int):=by omega
        obtain⟨b',Ap,A3,Af,_,_⟩:=HL.out (i-1) (by omega);simp only[qR,Addr.mk.injEq,and_true] at A3;obtain⟨rfl,rfl⟩:=A3;have Ax:=(q.out.cell (p:=⟨b,off+(i-1)*2,none⟩) A5).trans Af;clear Af;generalize (LB.at' l (i-1)).1=M at*;cases hm:Op.bytesLess M.toList N.toList with
        | true=>
         have U:=hid (HT.out (G.out.2 ⟨hn,hq,HV.out,λ_=>hm⟩));clear HF HT G;go_wp2_with fail
         go_quiet (fail)
         go_wp2_with fail;go_roundw
         case rel=>exact⟨i+1,by omega,by go_num,z0k q.out _,U.out⟩
         case measure=>simp[intOf];omega
        | false=>
         have U:=hid (HF.out (λh=>by have:=(G.out.1 h).2.2.2 Y;rw[LB.lt,hm] at this;cases this));clear HF HT G;go_wp2_with fail
         go_quiet (fail)
         go_wp2_with fail;go_ret;exact⟨z05 U.out.symm,z0k q.out _⟩
       .have Ao:decide (0<i)=false:=decide_eq_false Y;have U:=hid (HT.out (G.out.2 ⟨hn,hq,HV.out,λh=>absurd h Y⟩));clear HF HT G Y;go_wp2_with fail
        go_quiet (fail)
        go_wp2_with fail;go_roundw
        case rel=>exact⟨i+1,by omega,by go_num,z0k q.out _,U.out⟩
        case measure=>simp[intOf];omega
   .have he:i=l.length:=by omega
    have HS:Hid (B=true):=by
     show _=_;rw[<-HB.out];exact decide_eq_true ⟨hs.1,hs.2,λj hj=>HO.out j (by omega)⟩
    subst he;go_wp2;go_ret;exact⟨z05 HS.out.symm,A1.out⟩
 .have HS:Hid (B=false):=by
   show _=_;rw[<-HB.out];exact decide_eq_false λh=>hs ⟨h.1,h.2.1⟩
  by_cases Ai:(l.length:Int)<1
  .go_enter func146,ntmps146;go_wp2;go_ret;exact⟨z05 HS.out.symm,Below.refl _ _⟩
  .have A4:(8:Int)<(l.length:Int):=by omega
   go_enter func146,ntmps146;go_wp2;go_ret;exact⟨z05 HS.out.symm,Below.refl _ _⟩
end
section
open Go.RowKit
section
variable {P : Program} {ops : Array Oper} {C : World → Prop} {Q : Act → Prop} {o : Oper} {rest : List Oper} {a : Act}
theorem z0c (v:Value)(q:wy o (tz ops a.tmps)=true)(h:∀W,C W->(eS a.eval o).run P W= .ok (.value v) W)(G:tX P ops C Q rest (a.put o.dst v)):tX P ops C Q (o::rest) a:=
 uS q λK J=>⟨v,λW O=>by unfold oK;rw[h W O];exact⟨rfl,rfl⟩,J _ G⟩
theorem z1y (v:Value){t:qn}{x y:r9}{u k:Value}(q:wy o (tz ops a.tmps)=true)(h:o.op= .indexAddr t x y)(G:a.eval x=u)(J:a.eval y=k)(O:∀w,(Instr.indexAt t u k).run P w= .ok v w)(U:tX P ops C Q rest (a.put o.dst v)):tX P ops C Q (o::rest) a:=
 z0c v q (λW _=>by unfold eS;rw[h];simp[G,J,O]) U
theorem z19 (v:Value){t:qn}{x:r9}{u:Value}(q:wy o (tz ops a.tmps)=true)(h:o.op= .load t x)(G:a.eval x=u)(J:∀w,C w->(wZ t u).run P w= .ok v w)(O:tX P ops C Q rest (a.put o.dst v)):tX P ops C Q (o::rest) a:=
 z0c v q (λW U=>by unfold eS;rw[h];simp[G,J W U]) O
theorem z3n (v:Value){f:FuncId}{args:Array Value}(q:wy o (tz ops a.tmps)=true)(h:∀W,(eS a.eval o).run P W= .ok (.enter f args) W)(G:∀W,C W->Calls P f args W λe w'=>e= .returned v/\C w')(J:tX P ops C Q rest (a.put o.dst v)):tX P ops C Q (o::rest) a:=
 uS q λK O=>⟨v,λW U=>by unfold oK;rw[h W];exact⟨rfl,G W U⟩,O _ J⟩
theorem z0t {q:Nat}{Q:Exit->Act->World->Prop}{w:World}{l:List Oper}(C:World->Prop)(G:P.follows .mixedOrders=true)(J:Region.lexB .any l.toArray=true)(O:C w.drew)
  (h:tX P l.toArray C (λU=>∀w',C w'->Q .normal U w') l a):(yW q l.toArray true).wp P Q a w:=
 wp_region_quiet (C:=C) G J O (by simpa using h)
end
end
section
open Go.RowKit
theorem z6H.left {nb:Nat}{S S':List Sr}{v v':Value}{xs q:List (Value×Value)}{w J w':World}(h:Below w.heap.size w J)(k:z6H nb S S' v v' xs q J w'):z6H nb S S' v v' xs q w w' where
 os:=k.os.trans h.os
 tape:=k.tape.trans h.tape
 output:=k.output.trans h.output
 size:=qi h.size k.size
 block j hj h1 h2 h3:=(k.block j (qe hj h.size) h1 h2 h3).trans (h.block j hj)
 row:=by
  rcases k.row with e|⟨g,e,G⟩
  .exact .inl e
  .exact .inr ⟨g,e,qi h.size G⟩
 smps i hi:=by
  rcases k.smps i hi with e|⟨g,e,G⟩
  .exact .inl e
  .exact .inr ⟨g,e,qi h.size G⟩
 keeps u m ys h1 h2:=k.keeps u m ys (z04 h1 λg _ G=>h.block g (z00 G)) h2
def z1p (nb:Nat)(mark:Int)(S:List Sr)(v:Value)(xs:List (Value×Value))(x:Sr)(w:World)(e:rO)(w':World):Prop:=
 if HD.err mark S x=0 then e= .returned (.int .i64 0)/\∃v' xs',HdX w' nb mark (HD.nxt S x) v' xs'/\z6H nb S (HD.nxt S x) v v' xs xs' w w'
 else e= .returned (.int .i64 (HD.err mark S x))/\Below w.heap.size w w'
theorem z1p.bad {nb:Nat}{mark:Int}{S:List Sr}{v:Value}{xs:List (Value×Value)}{x:Sr}{w w':World}{e:rO}{n:Int}(h:HD.err mark S x=n)(q:n≠0)(G:e= .returned (.int .i64 n))(hb:Below w.heap.size w w'):z1p nb mark S v xs x w e w':=by
 unfold z1p;rw[h,if_neg q];exact⟨G,hb⟩
theorem zc6 {mark:Int}{S:List Sr}{x:Sr}(h:LB.right x.1=false\/CL.right x.2=false\/x.2.length=0):HD.err mark S x=1:=by
 unfold HD.err;rw[if_pos h]
theorem ziv {mark:Int}{S:List Sr}{x:Sr}(q:LB.right x.1=true)(G:CL.right x.2=true)(O:0<x.2.length)(J:HD.firstT x<=mark):HD.err mark S x=10:=by
 unfold HD.err;rw[if_neg (by rw[q,G];rintro(h | h | h)<;>first | cases h | omega),if_pos J]
theorem zfJ {mark:Int}{S:List Sr}{x:Sr}(q:LB.right x.1=true)(G:CL.right x.2=true)(U:0<x.2.length)(J:¬HD.firstT x<=mark)(O:HD.there S x.1=true):HD.err mark S x=if HD.firstT x<=HD.lastT (z03 S (HD.pos S x.1)) then 10 else if 2000<(z03 S (HD.pos S x.1)).2.length+x.2.length then 12 else 0:=by
 unfold HD.err;rw[if_neg (by rw[q,G];rintro(h | h | h)<;>first | cases h | omega),if_neg J,if_pos O]
theorem zfG {mark:Int}{S:List Sr}{x:Sr}(q:LB.right x.1=true)(G:CL.right x.2=true)(U:0<x.2.length)(J:¬HD.firstT x<=mark)(O:HD.there S x.1=false):HD.err mark S x=if 60<=S.length then 12 else 0:=by
 unfold HD.err;rw[if_neg (by rw[q,G];rintro(h | h | h)<;>first | cases h | omega),if_neg J,if_neg (by rw[O];decide)]
theorem z0T {l:List LB.Lab}(h:LB.right l=true):1<=l.length/\l.length<=8:=by
 unfold LB.right at h;have:=decide_eq_true_iff.1 h;exact⟨this.1,this.2.1⟩
theorem z2a {l:List CL.Smp}(h:CL.right l=true):l.length<=2000:=((CL.z0J l).1 h).1
theorem za1 (b k:Nat)(q:Option Addr)(n c:Nat)(w:World)(h:w.cell? ⟨b,k,none⟩=some (.slice q n c)):(wZ 39 (.pointer (some ⟨b,k,none⟩))).run q6 w= .ok (.slice q n c) w:=by
 have G:(q6.info? 39).map (·.size)=some 1:=by kernel_rfl
 go_simp
theorem z3o (b k:Nat)(q:Option Addr)(n c:Nat)(w:World)(h:w.cell? ⟨b,k,none⟩=some (.slice q n c)):(wZ 90 (.pointer (some ⟨b,k,none⟩))).run q6 w= .ok (.slice q n c) w:=by
 have G:(q6.info? 90).map (·.size)=some 1:=by kernel_rfl
 go_simp
theorem zj0 (nb:Nat)(mark:Int)(S:List Sr)(v:Value)(xs:List (Value×Value))(x:Sr)(lo so:Option Addr)(O sc:Nat)(w:World)(hX:HdX w nb mark S v xs)(hG:HD.Good S)(hL:z1w w lo x.1)(hS:z1I w so x.2)(hR:∀s∈x.2,CL.Rs s)(AW:x.1.length<=1000)(Bw:x.2.length<=1000):
  Calls q6 102 #[.pointer (some ⟨nb,0,none⟩),srV lo x.1.length O so x.2.length sc] w λe w'=>z1p nb mark S v xs x w e w':=by
 have U:Below w.heap.size w (w.alloc (.cells #[.slice lo x.1.length O,.slice so x.2.length sc] 93)):=(Below.refl _ w).alloc (qq _) _;have A6:(w.alloc (.cells #[.slice lo x.1.length O,.slice so x.2.length sc] 93)).heap[w.heap.size]? =some (.cells #[.slice lo x.1.length O,.slice so x.2.length sc] 93):=qu w _;have HX:=hid hX;have Ag:=hid hG;have HL:=hid hL;have HS:=hid hS;have HR:=hid hR;clear hX hG hL hS hR;go_enter func102,ntmps102;go_wp2_with fail;refine(z3J lo x.1 O _ (HL.out.below U)).mono ?_;rintro e w1 ⟨rfl,Az⟩;have Ah:=hid (z0u U Az);have Ai:=hid ((Az.block w.heap.size (z00 A6)).trans A6);have c1:w1.cell? ⟨w.heap.size,1,none⟩=some (.slice so x.2.length sc):=z01 _ _ _ _ Ai.out 1 _ rfl;clear Az U A6;rcases hrl:LB.right x.1 with _|_
 .go_wp2_with fail;go_ret;exact z1p.bad (zc6 (.inl hrl)) (by decide) rfl Ah.out
 .have A7:=hid hrl;clear hrl;go_wp2_with fail;refine(z2C so x.2 sc _ (HS.out.below Ah.out) HR.out (by omega)).mono ?_;rintro e w2 ⟨rfl,AA⟩;have V:=hid (z0u Ah.out AA);have A8:=hid ((AA.block w.heap.size (z00 Ai.out)).trans Ai.out);have c2:w2.cell? ⟨w.heap.size,1,none⟩=some (.slice so x.2.length sc):=z01 _ _ _ _ A8.out 1 _ rfl;clear AA Ah Ai c1;rcases hrs:CL.right x.2 with _|_
  .go_wp2_with fail;go_ret;exact z1p.bad (zc6 (.inr (.inl hrs))) (by decide) rfl V.out
  .have Aj:=hid hrs;clear hrs;by_cases h0:x.2.length=0
   .have AX:((x.2.length:Int)==0)=true:=by rw[h0];rfl
    have HZ:=hid h0;clear h0;go_wp2_with fail;go_ret;exact z1p.bad (zc6 (.inr (.inr HZ.out))) (by decide) rfl V.out
   .have AX:((x.2.length:Int)==0)=false:=by
     simp only[beq_eq_false_iff_ne,ne_eq];omega
    have G:0<x.2.length:=by omega
    clear h0;obtain⟨b,off,AY,d0,_,AZ⟩:=HS.out 0 G;subst AY;have e0:w2.cell? ⟨b,off,none⟩=some (.int .i64 (HD.firstT x)):=by
     have:=(V.out.cell (p:=⟨b,off+0*2,none⟩) AZ).trans d0;simpa [HD.firstT] using this
    have AB:=HX.out.below V.out;have cm:w2.cell? ⟨nb,0,none⟩=some (.int .i64 mark):=z01 _ _ _ _ AB.box 0 _ rfl;have B0:=hid AB;clear d0 AB;generalize AH:HD.firstT x=ft at*;have Ak:=hid AH;clear AH;have By:(0:Int)<(x.2.length:Int):=by omega
    go_wp2_with fail
    go_quiet (fail)
    by_cases B3:ft<=mark
    .go_wp2_with fail;go_ret;exact z1p.bad (ziv A7.out Aj.out G (by rw[Ak.out];exact B3)) (by decide) rfl (z0k V.out _)
    .go_wp2_with fail;have Al:Below w.heap.size w (w2.drewN nq):=z0k V.out _;have Am:HdX (w2.drewN nq) nb mark S v xs:=HX.out.below Al;have A9:(w2.drewN nq).heap[w.heap.size]? =some (.cells #[.slice lo x.1.length O,.slice (some ⟨b,off,none⟩) x.2.length sc] 93):=A8.out;generalize w2.drewN nq=w3 at*;obtain⟨ao,cap,AC,AJ⟩:=z0r.z08 Am.znp;have AD:=hid AC;have HC:Hid (∀W,Below w3.heap.size w3 W->Calls q6 148 #[.slice ao S.length cap,.slice lo x.1.length O,.func (.func 149) #[] #[]] W λe w'=>e= .returned (.tuple #[.int .i64 (HD.pos S x.1:Int),.bool (HD.there S x.1)])/\Below W.heap.size W w'):=λW hW=>
      zb2 ao lo S x.1 cap O W (AJ.below hW) ((HL.out.below Al).below hW) Ag.out.ord (by have:=Ag.out.few;omega) (λi hi=>by have:=z0T (Ag.out.ok _ (HD.at_mem S i hi)).1;omega) AW
     have m0:w3.cell? ⟨nb,1,none⟩=some (.slice ao S.length cap):=by rw[<-AC];exact z01 _ _ _ _ Am.box 1 _ rfl
     have m1:w3.cell? ⟨w.heap.size,0,none⟩=some (.slice lo x.1.length O):=z01 _ _ _ _ A9 0 _ rfl;have AK:=hid Al;have AE:=hid Am;have Ac:=hid A9;clear Al Am A9 AJ AC B0 A8 V c2 cm e0;have J:nb<w3.heap.size:=z00 AE.out.box;have Au:w.heap.size<w3.heap.size:=z00 Ac.out;have Y:Hid (∀W,Below w3.heap.size w3 W->W.cell? ⟨nb,1,none⟩=some (.slice ao S.length cap)/\W.cell? ⟨w.heap.size,0,none⟩=some (.slice lo x.1.length O)):=λW hW=>⟨(hW.cell (p:=⟨nb,1,none⟩) J).trans m0,(hW.cell (p:=⟨w.heap.size,0,none⟩) Au).trans m1⟩
     refine z0t (λW=>Below w3.heap.size w3 W) (by kernel_rfl) (by kernel_rfl) (Below.refl _ w3).drew ?_;refine z0c (.pointer (some ⟨nb,0,none⟩)) (by kernel_rfl) (λW _=>by kernel_rfl) ?_;go_frame;refine z0c (.pointer (some ⟨nb,0,none⟩)) (by kernel_rfl) (λW _=>by kernel_rfl) ?_;go_frame;refine z0c (.pointer (some ⟨nb,1,none⟩)) (by kernel_rfl) (λW _=>by kernel_rfl) ?_;go_frame;refine z19 (.slice ao S.length cap) (by kernel_rfl) rfl (by kernel_rfl) (λW hW=>za1 nb 1 ao S.length cap W (Y.out W hW).1) ?_;go_frame;refine z0c (.pointer (some ⟨w.heap.size,0,none⟩)) (by kernel_rfl) (λW _=>by kernel_rfl) ?_;go_frame;refine z19 (.slice lo x.1.length O) (by kernel_rfl) rfl (by kernel_rfl) (λW hW=>z3o w.heap.size 0 lo x.1.length O W (Y.out W hW).2) ?_;go_frame;refine z3n (.tuple #[.int .i64 (HD.pos S x.1:Int),.bool (HD.there S x.1)]) (by kernel_rfl) (λW=>by kernel_rfl) (λW hW=>(HC.out W hW).mono λe w' h=>⟨h.1,z0u hW h.2⟩) ?_;go_frame;refine z0c (.tuple #[.int .i64 (HD.pos S x.1:Int),.bool (HD.there S x.1)]) (by kernel_rfl) (λW _=>by kernel_rfl) ?_;go_frame;refine z0c (.int .i64 (HD.pos S x.1:Int)) (by kernel_rfl) (λW _=>by kernel_rfl) ?_;go_frame;refine z0c (.bool (HD.there S x.1)) (by kernel_rfl) (λW _=>by kernel_rfl) ?_;go_frame;refine z0c (.int .i64 (HD.pos S x.1:Int)) (by kernel_rfl) (λW _=>by kernel_rfl) ?_;go_frame;refine z0c (.bool (HD.there S x.1)) (by kernel_rfl) (λW _=>by kernel_rfl) ?_;go_frame;refine wpQuiet_nil ?_;intro w4 Ao;have A5:=hid (z0u AK.out Ao);have q:=hid (AE.out.below Ao);have Av:=hid ((Ao.block w.heap.size Au).trans Ac.out);clear Ao HC Y m0 m1 AK AE Ac J;have m0:w4.cell? ⟨nb,1,none⟩=some (.slice ao S.length cap):=by rw[<-AD.out];exact z01 _ _ _ _ q.out.box 1 _ rfl
     have mf:w4.frozen? ⟨nb,1,none⟩=false:=hfz q.out.box 1;have m1:w4.cell? ⟨w.heap.size,0,none⟩=some (.slice lo x.1.length O):=z01 _ _ _ _ Av.out 0 _ rfl;have m2:w4.cell? ⟨w.heap.size,1,none⟩=some (.slice (some ⟨b,off,none⟩) x.2.length sc):=z01 _ _ _ _ Av.out 1 _ rfl;rcases hth:HD.there S x.1 with _|_
     .have A1:=hid hth;clear hth;by_cases Ad:60<=S.length
      .have B5:(60:Int)<=(S.length:Int):=by omega
       go_wp2_with fail;go_ret;exact z1p.bad (by rw[zfG A7.out Aj.out G (by rw[Ak.out];omega) A1.out,if_pos Ad]) (by decide) rfl A5.out
      .have B5:¬(60:Int)<=(S.length:Int):=by omega
       have B6:Hid (∀W,Below w.heap.size w W->Calls q6 108 #[srV lo x.1.length O (some ⟨b,off,none⟩) x.2.length sc] W λe w'=>∃vl vs,e= .returned (.agg #[vl,vs])/\z0x w' W.heap.size vl x.1/\z0h w' W.heap.size vs x.2/\Below W.heap.size W w'):=λW hW=>
        z7P x lo (some ⟨b,off,none⟩) O sc W (HL.out.below hW) (HS.out.below hW) (z0T A7.out).1 G (by omega) (by omega)
       have HI:Hid (∀(W5:World) (a c:Value),Below w4.heap.size w4 W5->a.oneCell'=true->c.oneCell'=true->Calls q6 zm5 #[.slice ao S.length cap,.int .i64 (HD.pos S x.1),.slice (some ⟨W5.heap.size,0,none⟩) 1 1] (W5.alloc (.cells #[a,c] 93)) λe w'=>∃v',e= .returned v'/\w'.ownsRow 0 93 2 v' (S.length+1) (zeA (zr2 xs) (HD.pos S x.1) a c)/\(W5.alloc (.cells #[a,c] 93)).grownBy w' v.ownBlock/\(v'.ownBlock=v.ownBlock\/v'.ownBlock=some (W5.alloc (.cells #[a,c] 93)).heap.size)):=λW5 a c hW ha hc=>by
        have AL:(W5.alloc (.cells #[a,c] 93)).ownsRow 0 93 2 v S.length (zr2 xs):=(q.out.below (hW.alloc hW.size _)).row;have Ba:v.ownBlock≠some W5.heap.size:=λe=>by
         have:=(q.out.row.lt _ e).2;have:=hW.size;omega
        have:=zlb 0 S.length (HD.pos S x.1) W5.heap.size 1 v a c (zr2 xs) (W5.alloc (.cells #[a,c] 93)) AL (HD.z2T S x.1) (qu W5 _) Ba ha hc q.out.one (by omega) (qh _);rw[AD.out] at this ⊢;exact this
       have J:nb<w4.heap.size:=z00 q.out.box;have Aw:v.ownBlock≠some nb:=z0e q.out.row q.out.box (by decide);have Bb:=hid Aw;clear Aw;go_wp2_with fail
       go_region_with (first
        | (go_at_call 108;refine(B6.out _ (by exact A5.out.drew)).mono ?_;rintro en w5 ⟨vl,vs,rfl,o1,o2,Ap⟩;obtain⟨al,cl,el⟩:=z02 o1;obtain⟨Bc,Be,es⟩:=z02 o2;subst el;subst es;have y0:=(Ap.cell (p:=⟨nb,1,none⟩) J).trans m0;have y1:=(qj (a:=⟨nb,1,none⟩) (Below.heap_alloc w5 (.cells #[.slice al x.1.length cl,.slice Bc x.2.length Be] 93) nb (qe J Ap.size))).trans y0;have Bf:=hid o1;have Bg:=hid o2;have Ae:=hid Ap;clear o1 o2 Ap)
        | (go_at_call 151;refine(HI.out w5 _ _ (by exact z0u (Below.refl _ w4).drew Ae.out) rfl rfl).mono ?_;rintro en w6 ⟨v6,rfl,o6,g6,k6⟩;obtain⟨a6,c6,e6⟩:=z02 o6;subst e6;have AF:=((g6.block nb (qe (qe J Ae.out.size) (eZ w5 _ none).size) (λe=>Bb.out e.symm)).trans (Below.heap_alloc w5 _ nb (qe J Ae.out.size))).trans ((Ae.out.block nb J).trans q.out.box);have z0:=z01 _ _ _ _ AF 1 _ rfl;have z1:=hfz AF 1;have Bh:=hid o6;have Bi:=hid g6;have Bj:=hid k6;clear o6 g6 k6 AF))
       all_goals go_wp2_with fail
       all_goals go_ret
       all_goals
        unfold z1p;have Aq:HD.nxt S x=S.insertIdx (HD.pos S x.1) x:=by
         unfold HD.nxt;rw[if_neg (by rw[A1.out];decide)]
        rw[zfG A7.out Aj.out G (by rw[Ak.out];omega) A1.out,if_neg Ad,if_pos rfl,Aq];have AM:Below w4.heap.size w4 w5:=z0u (Below.refl _ w4).drew Ae.out;have Af:=q.out.insert (k:=HD.pos S x.1) (x:=x) (HD.z2T S x.1) (AM.alloc AM.size _) (Bf.out.alloc _) (Bg.out.alloc _) Bh.out Bi.out Bj.out G;exact⟨rfl,_,_,Af.1,Af.2.left A5.out⟩
     .have A1:=hid hth;clear hth;obtain⟨Ar,AO⟩:=decide_eq_true_iff.1 A1.out;have Bz:0<=(HD.pos S x.1:Int)/\(HD.pos S x.1:Int)<(S.length:Int):=by omega
      have BA:=hid AO;clear AO;generalize AP:HD.pos S x.1=k at*;have AQ:=hid AP;clear AP;obtain⟨g,Bv,cr,e0,e1,AG,_,_,_⟩:=z0d q.out.row (by omega);have ea:=AD.out;rw[e0] at ea;simp only[eC,true_and] at ea;obtain⟨Bl,Bm⟩:=ea;subst Bl Bm;have AR:cr[k*2+1]? =some (atX xs k).2:=by
       have:=q.out.row.cells (g:=g) e1 _ _ (zr1 xs k (by rw[q.out.len];exact Ar)).2;rw[qP,qT] at this;simpa [qs,AG] using this
      have A4:=Ag.out.ok _ (HD.at_mem S k Ar);have HF:=hid (zdL g k (atX xs k).2 (z03 S k).2 x.2 (some ⟨b,off,none⟩) sc cr w4.drew AG AR (z2L (q.out.smps k Ar) rfl) A4.2.2.1 (HS.out.below A5.out.drew) G (z2a A4.2.1) (by omega));have Ax:=zfJ (mark:=mark) A7.out Aj.out G (by rw[Ak.out];omega) A1.out;have HE:=hid Ax;have Bo:=hid e0;have Aq:HD.nxt S x=S.set k ((z03 S k).1,(z03 S k).2++x.2):=by
       unfold HD.nxt;rw[if_pos A1.out,AQ.out]
      have Bp:=hid Aq;have hy:=A4.2.2.1;clear e0 AG AR A4 Ax Aq e1;have Bq:Hid (HD.err mark S x=zlO (z03 S k).2 x.2):=by
       show _=_;rw[HE.out,AQ.out];rfl
      clear HE;generalize AU:zlO (z03 S k).2 x.2=fc at*;have Br:=hid AU;clear AU;go_wp2_with fail
      go_region_with (go_at_call 150;refine HF.out.mono ?_;rintro en w5 Ay;obtain⟨AV,A2,A3⟩:=Ay.code;rw[Br.out] at AV A2 A3;subst AV;have Bt:=hid A2;have Bu:=hid A3;clear Ay A2 A3 HF)
      all_goals go_wp2_with fail
      all_goals go_ret
      all_goals
       unfold z1p;rw[Bq.out];by_cases hz:fc=0
       .rw[if_pos hz];obtain⟨u',W,k1,k2,k3,k4,k5⟩:=Bu.out hz;have Af:=(q.out.below ((Below.refl _ w4).drew)).follow (W:=W) (l:=x.2) Ar Bo.out k1 k2 k3 k4 hy;rw[Bp.out,k5];exact⟨by rw[hz];rfl,v,_,Af.1,Af.2.left A5.out.drew⟩
       .rw[if_neg hz];exact⟨rfl,z0u A5.out.drew (Bt.out hz)⟩
end
section
open Go.RowKit
section
variable {P : Program} {md : Region.Mode} {ops : Array Oper} {C : World → Prop} {Q : Exit → Act → World → Prop}
def z3Y (P:rM)(md:Region.Mode)(ops:Array Oper)(C:World->Prop)(Q:Exit->Act->World->Prop):Nat->Array Bool->Act->World->Prop
 | 0,listed,a,w=>C w/\wm md ops listed=[]/\Q .normal a w
 | fuel+1,listed,a,w=>C w/\(wm md ops listed=[]->Q .normal a w)/\∀i∈wm md ops listed,wpOp P ops Q i (z3Y P md ops C Q fuel (listed.setIfInBounds i true)) a w
theorem z3Y.any:∀{fuel:Nat} {q:Array Bool} {a:Act} {w:World},z3Y P md ops C Q fuel q a w->wpAny P md ops Q fuel q a w
 | 0,_,_,_,h=>h.2
 | _+1,_,_,_,h=>⟨h.2.1,λi hi=>wpOp_mono (λ_ _ h=>z3Y.any h) (h.2.2 i hi)⟩
def YC (P:rM)(C:World->Prop)(o:Oper)(v:Value)(a:Act):Prop:=
 ∀w,C w->(eS a.eval o).run P w= .ok (.value v) w\/∃f args,(eS a.eval o).run P w= .ok (.enter f args) w/\Calls P f args w λe w'=>e= .returned v/\w'=w
theorem YC.go {i:Nat}{o:Oper}{v:Value}{a:Act}{K:Act->World->Prop}{w:World}(hi:ops[i]? =some o)(G:o.guard=none)(J:YC P C o v a)(O:C w)(h:K (a.put o.dst v) w):wpOp P ops Q i K a w:=by
 have U:wy o (tz ops a.tmps)=true:=by unfold wy;rw[G]
 unfold wpOp;simp only[hi,U,if_true,oy];refine .inl ?_;rcases J w O with q|⟨f,args,q,V⟩
 .rw[q];exact h
 .rw[q];refine wU V λe w' Y=>?_
  obtain⟨rfl,rfl⟩:=Y;exact h
theorem zo3 {j:Nat}{q oj:Oper}{v:Value}(hj:ops[j]? =some oj)(A1:q.apart ops oj=true)(V:∀cs b,q.op≠ .select cs b)(A2:∀cs b,oj.op≠ .select cs b)(hQ:∀c a w,¬Q (.panic c) a w){K:Act->World->Prop}{a:Act}{w:World}
  (hy:YC P C q v a) (h:wpOp P ops Q j K (a.put q.dst v) w):wpOp P ops Q j (λa' w'=>YC P C q v a'/\K (a'.put q.dst v) w') a w:=by
 obtain⟨h1,h2,h3⟩:=Oper.apart_spec A1;have Y:=iM oj A2 a q.dst v h1;have J:∀u,YC P C q v (a.put oj.dst u):=λu w U=>by rw[iM q V a oj.dst u h3];exact hy w U
 have G:∀d u,YC P C q v (Act.put {a with defers:=d::a.defers} oj.dst u):=λd u w U=>by
  rw[iM q V _ oj.dst u h3];exact hy w U
 have hK:∀u w',K ((a.put q.dst v).put oj.dst u) w'->YC P C q v (a.put oj.dst u)/\K ((a.put oj.dst u).put q.dst v) w':=λu w' hk=>⟨J u,by rw[<-pq a v u h2];exact hk⟩
 unfold wpOp at h ⊢;simp only[hj] at h ⊢;rw[wanted_put oj a q.dst v h1] at h;by_cases U:wy oj (tz ops a.tmps)=true
 .simp only[U,if_true] at h ⊢;rcases h with h|⟨h,hl⟩
  .refine .inl ?_;unfold oy at h ⊢;rw[Y] at h
   revert h
   generalize (eS a.eval oj).run P w=r;intro h;rcases r with⟨n,w'⟩|⟨x,w'⟩
   .cases n with
    | value u=>exact hK u w' h
    | skip=>exact hK undef w' h
    | enter f args=>
     refine wU h λe O he=>?_
     cases e with
     | returned u=>exact hK u O he
     | panicked c=>exact absurd he (hQ _ _ _)
     | outgrown=>exact he
    | row row args=>exact Rows.mono h λu O he=>hK u O he
    | defer d=>
     refine⟨G d undef,?_⟩;have e1:=pq {a with defers:=d::a.defers} (x:=q.dst) (y:=oj.dst) v undef h2;rw[<-e1,<-Act.put_defers];exact h
    | _=>exact h
   .cases x with
    | panic u=>exact absurd h (hQ _ _ _)
    | _=>exact h
  .refine .inr ⟨?_,hl⟩;unfold Oper.asks at h ⊢;rw[Y] at h;exact h
 .simp only[U] at h ⊢;exact hK undef w h
theorem z3Y.first {i:Nat}{V:Oper}{v:Value}(hi:ops[i]? =some V)(hg:V.guard=none)(hs:eh ops=true)(hQ:∀c a w,¬Q (.panic c) a w):
  ∀(fuel:Nat) (listed:Array Bool) (a:Act) (w:World),(∀j oj,ops[j]? =some oj->j≠i->listed.getD j true=false->(∀e∈oj.after,rp md e=true->e.on≠i)->V.apart ops oj=true)->
   i∈wm md ops listed->YC P C V v a->z3Y P md ops C Q fuel (listed.setIfInBounds i true) (a.put V.dst v) w->z3Y P md ops C Q (fuel+1) listed a w:=by
 have J:=Region.noSelect_spec hs;intro fuel
 induction fuel with
 | zero=>
  intro listed a w _ O hy H;refine⟨H.1,λh=>(by rw[h] at O;cases O),λj hj=>?_⟩;rcases pO j i with q|q
  .have h1:=o3 hj q;rw[H.2.1] at h1;cases h1
  .subst q;exact hy.go hi hg H.1 H
 | succ fuel ih=>
  intro listed a w G O hy H;refine⟨H.1,λh=>(by rw[h] at O;cases O),λj hj=>?_⟩;rcases pO j i with q|q
  .have h1:=H.2.2 j (o3 hj q);obtain⟨Y,oj,U,A1⟩:=mem_ready.1 hj;have h0:=(mem_ready.1 O).1;have A5:∀e∈oj.after,rp md e=true->e.on≠i:=by
    intro e he hb A6;have h2:=A1 e he hb;rw[A6] at h2;by_cases A2:i<listed.size
    .simp[A2] at h0 h2;rw[h0] at h2;cases h2
    .simp[A2] at h2
   refine wpOp_mono (λa' w' h3=>ih (listed.setIfInBounds j true) a' w' ?_ (o3 O (λe=>q e.symm)) h3.1 ?_) (zo3 U (G j oj U q Y A5) (λcs b=>J i V cs b hi) (λcs b=>J j oj cs b U) hQ hy h1)
   .intro k ok hk A7 A3 A8;refine G k ok hk A7 ?_ A8;by_cases A4:j=k
    .subst A4;exact Y
    .rw[getD_set_ne true A4] at A3;exact A3
   .rw[Array.setIfInBounds_comm _ _ q];exact h3.2
  .subst q;exact hy.go hi hg H.1 H
theorem z3Y.take {i:Nat}{q:Oper}{v:Value}{fuel:Nat}{listed:Array Bool}{a:Act}{w:World}(hi:ops[i]? =some q)(G:q.guard=none)(J:eh ops=true)(O:oA md ops listed i=true)(U:(wm md ops listed).contains i=true)(V:∀c a w,¬Q (.panic c) a w)
  (Y:YC P C q v a) (h:z3Y P md ops C Q fuel (listed.setIfInBounds i true) (a.put q.dst v) w):z3Y P md ops C Q (fuel+1) listed a w:=
 z3Y.first hi G J V fuel listed a w (Region.free_spec hi O) (by simpa using U) Y h
def z0F (P:rM)(ops:Array Oper)(C:World->Prop)(Q:Exit->Act->World->Prop):List Oper->Exit->Act->World->Prop
 | [],.normal,a,w=>C w/\Q .normal a w
 | o::os,.normal,a,w=>C w/\eG P ops (z0F P ops C Q os) [o] a w
 | _,e,a,w=>Q e a w
theorem z0F.outs {os:List Oper}(h:LetsOut (z0F P ops C Q os)):LetsOut Q:=by
 obtain⟨a,w,h⟩:=h;cases os<;>exact⟨a,w,h⟩
theorem z0F.zbc {o:Oper}{os:List Oper}{a:Act}{w:World}{K:Act->World->Prop}(h:o.wp P a w K (z0F P ops C Q os)):o.wp P a w K Q:=by
 unfold oy at*;generalize (eS a.eval o).run P w=r at*;cases r with
 | ok n w'=>
  cases n<;>simp only[oS] at h ⊢ <;>
   first
    | exact h
    | exact wU h (λe G q=>by
      cases e with
      | returned u=>exact q
      | panicked c=>cases os<;>exact q
      | outgrown=>exact z0F.outs q)
 | halt x w'=>
  cases x<;>simp only[oS] at h ⊢ <;>
   first
    | exact h
    | (cases os<;>exact h)
theorem z3Y.one {o:Oper}{os:List Oper}{i fuel:Nat}{listed:Array Bool}{a:Act}{w:World}(hi:ops[i]? =some o)(V:o.guard=none)(G:wm md ops listed=[i])(Y:C w)
  (hk:∀a w,z0F P ops C Q os .normal a w->z3Y P md ops C Q fuel (listed.setIfInBounds i true) a w) (h:eG P ops (z0F P ops C Q os) [o] a w):z3Y P md ops C Q (fuel+1) listed a w:=by
 refine⟨Y,λJ=>(by rw[G] at J;cases J),λj O=>?_⟩;rw[G] at O;have q:j=i:=by simpa using O
 subst q;have U:wy o (tz ops a.tmps)=true:=by unfold wy;rw[V]
 unfold wpOp;simp only[hi,U,if_true];simp only[eG,U,if_true] at h;exact h.imp (λh=>z0F.zbc (os:=os) (Oper.wp_mono hk h)) (λh=>⟨h.1,z0F.outs h.2⟩)
def zr5 (Q:Exit->Act->World->Prop)(e:Exit)(a:Act)(w:World):Prop:=e= .normal/\Q .normal a w
def zr0 (P:rM)(C:World->Prop):List Oper->(Act->Prop)->Act->Prop
 | [],K,a=>K a
 | o::os,K,a=>∃v,YC P C o v a/\zr0 P C os K (a.put o.dst v)
def zf6 (ops:Array Oper):List Nat->Array Bool->Bool
 | [],l=>decide (wm .any ops l=[])
 | j::js,l=>decide (wm .any ops l=[j])&&zf6 ops js (l.setIfInBounds j true)
def z7O (ops:Array Oper)(js:List Nat):List Nat->Array Bool->Bool
 | [],l=>zf6 ops js l
 | i::is,l=>oA .any ops l i&&(wm .any ops l).contains i&&z7O ops js is (l.setIfInBounds i true)
def z2Z (ops:Array Oper)(is:List Nat)(os:List Oper):Prop:=is.map (λi=>ops[i]?)=os.map some/\∀o∈os,o.guard=none
theorem z2Z.cons {i:Nat}{is:List Nat}{o:Oper}{os:List Oper}(h:z2Z ops (i::is) (o::os)):ops[i]? =some o/\o.guard=none/\z2Z ops is os:=by
 obtain⟨h1,q⟩:=h;simp only[wR,tG] at h1;exact⟨h1.1,q o (by simp),h1.2,λx G=>q x (by simp[G])⟩
theorem zhp:∀{js:List Nat} {os:List Oper} {l:Array Bool} {a:Act} {w:World},z2Z ops js os->zf6 ops js l=true->z0F P ops C Q os .normal a w->z3Y P .any ops C Q js.length l a w
 | [],[],l,a,w,_,hB,h=>⟨h.1,by simpa [zf6] using hB,h.2⟩
 | j::js,o::os,l,a,w,ho,hB,h=>by
  obtain⟨q,G,J⟩:=ho.cons;simp only[zf6,qI,decide_eq_true_eq] at hB;exact z3Y.one q G hB.1 h.1 (λa w h=>zhp J hB.2 h) h.2
 | [],o::os,l,a,w,ho,_,_=>by have:=ho.1;simp at this
 | j::js,[],l,a,w,ho,_,_=>by have:=ho.1;simp at this
theorem z7l (q:eh ops=true)(G:∀c a w,¬Q (.panic c) a w){js:List Nat}{ps:List Oper}(J:z2Z ops js ps){w:World}:∀{is:List Nat} {os:List Oper} {l:Array Bool} {a:Act},z2Z ops is os->z7O ops js is l=true->zr0 P C os (λa=>z0F P ops C Q ps .normal a w) a->z3Y P .any ops C Q (is.length+js.length) l a w
 | [],[],l,a,_,hB,h=>by
  rw[qO,qT];exact zhp J hB h
 | i::is,o::os,l,a,ho,hB,h=>by
  obtain⟨O,U,V⟩:=ho.cons;simp only[z7O,qI] at hB;obtain⟨v,Y,hk⟩:=h;have e:(i::is).length+js.length=is.length+js.length+1:=by simp;omega
  rw[e];exact z3Y.take O U q hB.1.1 hB.1.2 G Y (z7l q G J V hB.2 hk)
 | [],o::os,l,a,ho,_,_=>by have:=ho.1;simp at this
 | i::is,[],l,a,ho,_,_=>by have:=ho.1;simp at this
theorem z7j {G:Nat}{a:Act}{w:World}(C:World->Prop)(is js:List Nat)(os ps:List Oper)(J:P.follows .mixedOrders=true)(O:eh ops=true)(U:z7O ops js is (o4 ops.size false)=true)(q:is.length+js.length=ops.size)(V:z2Z ops is os)(Y:z2Z ops js ps)
  (h:zr0 P C os (λa=>z0F P ops C (zr5 Q) ps .normal a w.drew) a):(yW G ops true).wp P Q a w:=
 Code.wp_mono (Q:=zr5 Q) (λe a w h=>by obtain⟨rfl,h⟩:=h;exact h) (wp_region_any J (by
  have:=z7l (Q:=zr5 Q) O (λ_ _ _ h=>nomatch h.1) Y V U h;rw[q] at this;exact this.any))
theorem z0F.on {o:Oper}{os:List Oper}{a:Act}{w:World}(q:C w)(h:eG P ops (z0F P ops C Q os) [o] a w):z0F P ops C Q (o::os) .normal a w:=⟨q,h⟩
theorem z0F.done {a:Act}{w:World}(q:C w)(h:Q .normal a w):z0F P ops C (zr5 Q) [] .normal a w:=⟨q,rfl,h⟩
theorem zr0.on {o:Oper}{os:List Oper}{K:Act->Prop}{a:Act}{v:Value}(h:YC P C o v a)(q:zr0 P C os K (a.put o.dst v)):zr0 P C (o::os) K a:=⟨v,h,q⟩
theorem zr0.off {o:Oper}{os:List Oper}{a:Act}{w:World}(q:C w)(h:eG P ops (z0F P ops C Q os) [o] a w):zr0 P C [] (λa=>z0F P ops C Q (o::os) .normal a w) a:=⟨q,h⟩
theorem YC.move {o:Oper}{a:Act}{x:r9}{v:Value}(h:o.op= .move x)(q:a.eval x=v):YC P C o v a:=λw _=> .inl (by rw[<-q];exact BigFrame.run_move x h w)
theorem YC.field {o:Oper}{a:Act}{t:qn}{x:r9}{k:Nat}{v u:Value}(h:o.op= .fieldAddr t x k)(q:a.eval x=u)(G:∀w,(Instr.fieldAt t u k).run P w= .ok v w):YC P C o v a:=λw _=> .inl (by
 unfold eS;rw[h];simp[q,G])
theorem YC.load {o:Oper}{a:Act}{t:qn}{x:r9}{v u:Value}(h:o.op= .load t x)(q:a.eval x=u)(G:∀w,C w->(wZ t u).run P w= .ok v w):YC P C o v a:=λw J=> .inl (by
 unfold eS;rw[h];simp[q,G w J])
theorem YC.lookup {o:Oper}{a:Act}{t:qn}{m x:r9}{v u y:Value}(h:o.op= .lookup t m x false)(q:a.eval m=u)(G:a.eval x=y)(J:∀w,C w->(Instr.lookup t u y false).run P w= .ok v w):YC P C o v a:=λw O=> .inl (by
 unfold eS;rw[h];simp[q,G,J w O])
theorem YC.call {o:Oper}{a:Act}{f:FuncId}{vs:Array Value}{v:Value}(h:∀w,(eS a.eval o).run P w= .ok (.enter f vs) w)(q:∀w,C w->Calls P f vs w λe w'=>e= .returned v/\w'=w):YC P C o v a:=λw G=> .inr ⟨f,vs,h w,q w G⟩
def z4J (ops:Array Oper)(is:List Nat):Bool:=is.all λi=>match ops[i]? with
 | some o=>o.guard.isNone
 | none=>false
theorem z2l:∀{is:List Nat},z4J ops is=true->z2Z ops is (is.filterMap λi=>ops[i]?)
 | [],_=>⟨rfl,by simp⟩
 | i::is,h=>by
  simp only[z4J,List.all_cons,qI] at h;obtain⟨q,J⟩:=h;obtain⟨O,U⟩:=z2l (is:=is) J;cases ho:ops[i]? with
  | none=>rw[ho] at q;cases q
  | some o=>
   rw[ho] at q;rw[List.filterMap_cons,ho];refine⟨by rw[wR,wR,O,ho],λx G=>?_⟩;rcases qg.1 G with rfl|G
   .simpa using q
   .exact U x G
theorem z0l {G:Nat}{a:Act}{w:World}(C:World->Prop)(is js:List Nat)(J:P.follows .mixedOrders=true)(q:(eh ops&&z7O ops js is (o4 ops.size false)&&decide (is.length+js.length=ops.size)&&z4J ops is&&z4J ops js)=true)
  (h:zr0 P C (is.filterMap λi=>ops[i]?) (λa=>z0F P ops C (zr5 Q) (js.filterMap λi=>ops[i]?) .normal a w.drew) a):(yW G ops true).wp P Q a w:=by
 simp only[qI,decide_eq_true_eq] at q;obtain⟨⟨⟨⟨O,U⟩,V⟩,Y⟩,h5⟩:=q;exact z7j C is js _ _ J O U V (z2l Y) (z2l h5) h
end
end
end Go.Proofs.YtemeblgngidldaaGreatDoor
