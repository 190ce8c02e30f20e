/- Texts put together and made smaller by program: CdCont ChTxt CrPln CbNum BkQ BkByt SxWal SoNote SoOps SoDisk SoSz SoSearch SoChunk HrReg. -/
import Derived.Test.YtemeblgngidldaaGreatDoorPC05
import Derived.RangeFuncNested
import Derived.RangeFuncBound
import Derived.RangeFuncCalls
import Derived.RangeFuncLeaves
import Derived.RangeFuncBox
import Derived.Shelf.RegionOpen
import Derived.OwnWalkIn
import Derived.TacticsInMore
import Derived.LoopNIn
import Derived.LoopIn
import Derived.ControlIn
import Derived.Deep.QuietTactic
set_option linter.unusedVariables false
set_option linter.unusedSimpArgs false
set_option maxRecDepth 100000
set_option maxHeartbeats 12800000
open Array renaming length_toList->qE,toList_extract->wB,getElem?_eq_some_iff->eY
open Bool renaming and_eq_true->qI,and_eq_true_iff->ik
open ByteArray renaming empty->qy,size_append->qC,data_extract->wA
open Go renaming yielded->tz,Program->rM,wpQuiet->tX,execOp->eS,TypeId->qn,heap_setCell_same->qo,mem_ready->oQ,Operand->r9
open Go.Act renaming put->yE
open Go.Code renaming region->yW
open Go.Fence renaming wide->yO
open Go.Instr renaming loadAt->wZ,indexAt->yf
open Go.Region renaming wanted->wy,binds->rp,ready->wm
open Go.World renaming cell?_of_block->qj
open List renaming append_nil->tB,length_append->q8,map_map->ym9,map_id->uZ,map_congr_left->eF,length->uY,mem_cons_self->qd,mem_cons_of_mem->qp,mem_map->qx,getD_eq_getElem?_getD->q7,getElem?_eq_getElem->qw,getElem_of_mem->iY,length_map->qz,take_of_length_le->qL,nil_append->r6,length_filter_le->eR,mem_append->wu,mem_singleton->qk,mem_filter->wE,map_append->wK,length_cons->qf,flatMap_cons->rU,range->qN,range_succ->oi,all_eq_true->ri,mem_range->yj
open Nat renaming le_refl->qq,add_zero->yI,le_trans->qi,eq_or_lt_of_le->uT
open Option.some renaming injEq->qR,inj->qt
open Prod.mk renaming injEq->eT
open UInt8 renaming toNat->yY
open Go.Proofs.Tryz renaming prog->q6
open Go.Proofs.Tryz
namespace Go.Proofs.YtemeblgngidldaaGreatDoor
section
namespace CD
def z4y (k:Nat)(R:List UInt8)(h:List Lb)(m:Nat)(s:List UInt8):Prop:=rL k R=(rL m s).map λp=>(h++p.1,p.2)
theorem z4y.start (k:Nat)(R:List UInt8):z4y k R [] k R:=by
 unfold z4y;cases rL k R with
 | none=>rfl
 | some p=>rfl
theorem z4y.done {k:Nat}{R s:List UInt8}{q:List Lb}(h:z4y k R q 0 s):rL k R=some (q,s):=by
 have G:rL k R=(rL 0 s).map λp=>(q++p.1,p.2):=h
 rw[G];show some (q++[],s)=_;rw[tB]
theorem z4y.next {k m:Nat}{R s a G b q:List UInt8}{J:List Lb}(h:z4y k R J (m+1) s)(O:rT s=some (a,G))(U:rT G=some (b,q)):z4y k R (J++[(a,b)]) m q:=by
 have V:rL k R=(rL (m+1) s).map λp=>(J++p.1,p.2):=h
 unfold z4y;rw[V];have e:rL (m+1) s=(rL m q).map λp=>((a,b)::p.1,p.2):=by
  show(match rT s with | none=>none | some (a,G)=>match rT G with | none=>none | some (b,q)=>match rL m q with | none=>none | some (l,r3)=>some ((a,b)::l,r3))=_;rw[O];dsimp only;rw[U];dsimp only;cases rL m q with
  | none=>rfl
  | some p=>rfl
 rw[e];cases rL m q with
 | none=>rfl
 | some p=>simp
theorem z4y.fail {k m:Nat}{R s:List UInt8}{J:List Lb}(h:z4y k R J (m+1) s)(q:rT s=none\/∃a G,rT s=some (a,G)/\rT G=none):rL k R=none:=by
 have O:rL k R=(rL (m+1) s).map λp=>(J++p.1,p.2):=h
 rw[O];have e:rL (m+1) s=none:=by
  show(match rT s with | none=>none | some (a,G)=>match rT G with | none=>none | some (b,r2)=>match rL m r2 with | none=>none | some (l,r3)=>some ((a,b)::l,r3))=_;rcases q with q|⟨a,G,q,U⟩
  .rw[q]
  .rw[q];dsimp only;rw[U]
 rw[e];rfl
section
variable {S : Type} {E : S → List UInt8} {Dc : List UInt8 → Option S} {ok : List Lb → Bool}
def z4w (Dc:List UInt8->Option S)(ok:List Lb->Bool)(n:Nat)(R:List UInt8)(L:List (List Lb×S))(m:Nat)(s:List UInt8):Prop:=rS Dc ok n R=(rS Dc ok m s).map λp=>(L++p.1,p.2)
theorem z4w.start (n:Nat)(R:List UInt8):z4w Dc ok n R [] n R:=by
 unfold z4w;cases rS Dc ok n R with
 | none=>rfl
 | some p=>rfl
theorem z4w.done {n:Nat}{R s:List UInt8}{L:List (List Lb×S)}(h:z4w Dc ok n R L 0 s):rS Dc ok n R=some (L,s):=by
 have q:rS Dc ok n R=(rS Dc ok 0 s).map λp=>(L++p.1,p.2):=h
 rw[q];show some (L++[],s)=_;rw[tB]
theorem z4w.next {n m:Nat}{R s r:List UInt8}{L:List (List Lb×S)}{x:List Lb×S}(h:z4w Dc ok n R L (m+1) s)(q:z4F Dc ok s=some (x,r)):z4w Dc ok n R (L++[x]) m r:=by
 have G:rS Dc ok n R=(rS Dc ok (m+1) s).map λp=>(L++p.1,p.2):=h
 unfold z4w;rw[G];have e:rS Dc ok (m+1) s=(rS Dc ok m r).map λp=>(x::p.1,p.2):=by
  show(match z4F Dc ok s with | none=>none | some (x,r)=>match rS Dc ok m r with | none=>none | some (l,r2)=>some (x::l,r2))=_;rw[q];dsimp only;cases rS Dc ok m r with
  | none=>rfl
  | some p=>rfl
 rw[e];cases rS Dc ok m r with
 | none=>rfl
 | some p=>simp
theorem z4w.fail {n m:Nat}{R s:List UInt8}{L:List (List Lb×S)}(h:z4w Dc ok n R L (m+1) s)(q:z4F Dc ok s=none):rS Dc ok n R=none:=by
 have G:rS Dc ok n R=(rS Dc ok (m+1) s).map λp=>(L++p.1,p.2):=h
 rw[G];have e:rS Dc ok (m+1) s=none:=by
  show(match z4F Dc ok s with | none=>none | some (x,r)=>match rS Dc ok m r with | none=>none | some (l,r2)=>some (x::l,r2))=_;rw[q]
 rw[e];rfl
theorem zj5 {s r:List UInt8}{x:List Lb×S}(h:z4F Dc ok s=some (x,r)):r.length+8<=s.length:=by
 unfold z4F at h;split at h
 .cases h
 .rename_i k q G;obtain⟨J,_⟩:=z7U G;have O:s.length=8+q.length:=by rw[J,q8,z06]
  split at h
  .split at h
   .cases h
   .rename_i l U V;obtain⟨Y,_⟩:=zfe V;have A1:U.length<=q.length:=by rw[Y,q8];omega
    split at h
    .cases h
    .rename_i c r3 h3;have A2:=zkn h3;split at h
     .split at h
      .cases h
      .simp only[qR,eT] at h;rw[<-h.2];omega
     .cases h
  .cases h
theorem zhy:∀{n:Nat} {s:List UInt8} {l:List (List Lb×S)} {r:List UInt8},rS Dc ok n s=some (l,r)->n+r.length<=s.length
 | 0,s,l,r,h=>by
  unfold rS at h;simp only[qR,eT] at h;rw[<-h.2];omega
 | n+1,s,l,r,h=>by
  unfold rS at h;split at h
  .cases h
  .rename_i x J q;split at h
   .cases h
   .rename_i O U G;simp only[qR,eT] at h;have V:=zhy G;have Y:=zj5 q;rw[<-h.2];omega
theorem zkT {n:Nat}{s:List UInt8}(h:s.length<n):rS Dc ok n s=none:=by
 cases hr:rS Dc ok n s with
 | none=>rfl
 | some p=>
  obtain⟨l,r⟩:=p;have:=zhy hr;omega
theorem zdt {s:List UInt8}(h:rN s=none):z4F Dc ok s=none:=by unfold z4F;rw[h]
theorem zdN {s q:List UInt8}{k:Int}(h:rN s=some (k,q))(G:¬(0<=k/\k<=8)):z4F Dc ok s=none:=by
 unfold z4F;rw[h];dsimp only;rw[if_neg G]
theorem zef {s q:List UInt8}{k:Int}{n:Nat}(h:rN s=some (k,q))(G:k.toNat=n)(J:rL n q=none):z4F Dc ok s=none:=by
 unfold z4F;rw[h];dsimp only;rw[G,J];dsimp only;split<;>rfl
theorem z7Y {s O G:List UInt8}{k:Int}{n:Nat}{l:List Lb}(h:rN s=some (k,O))(U:k.toNat=n)(V:rL n O=some (l,G))(q:rT G=none\/ok l=false\/∃c J,rT G=some (c,J)/\Dc c=none):z4F Dc ok s=none:=by
 unfold z4F;rw[h];dsimp only;rw[U,V];dsimp only;split
 .rcases q with q|q|⟨c,J,q,Y⟩
  .rw[q]
  .cases hr:rT G with
   | none=>rfl
   | some p=>
    obtain⟨c,J⟩:=p;dsimp only;rw[if_neg (by rw[q];decide)]
  .rw[q];dsimp only;split
   .rw[Y]
   .rfl
 .rfl
end
end CD
end
theorem z5F (bs:List Bool):z0w (zr3 (BL.pk bs))=bs++List.replicate (8*((bs.length+7)/8)-bs.length) false:=by
 rw[<-BL.ziM];unfold z0w zr3
 congr 1
 simp only[ym9]
 conv=>rhs;rw[<-uZ (BL.pk bs)]
 apply eF;intro x h;have:=BL.zeJ bs x h;simp[UInt8.toNat_ofNat',Nat.mod_eq_of_lt this]
theorem z5B:∀(l q:List Nat),(∀x∈l,x<256)->(∀x∈q,x<256)->BL.z4f l=BL.z4f q->l=q
 | [],[],_,_,_=>rfl
 | [],b::q,_,_,h=>by have:=congrArg uY h;rw[BL.z0C,BL.z0C] at this;simp at this
 | b::l,[],_,_,h=>by have:=congrArg uY h;rw[BL.z0C,BL.z0C] at this;simp at this
 | b::l,b'::q,h1,h2,h=>by
  have e:∀(x:Nat) (m:List Nat),BL.z4f (x::m)=BL.bitsOf x 8++BL.z4f m:=λx m=>rfl
  rw[e,e] at h;obtain⟨J,hb⟩:=List.append_inj h (by rw[BL.bitsOf_length,BL.bitsOf_length]);have O:=congrArg BL.val J;rw[BL.z5z,BL.z5z] at O;have U:=h1 b (qd);have V:=h2 b' (qd);have:b=b':=by omega
  rw[this,z5B l q (λx G=>h1 x (qp _ G)) (λx G=>h2 x (qp _ G)) hb]
theorem zax (s t:ByteArray)(h:z0w s=z0w t):s=t:=by
 unfold z0w at h;have G:∀(u:ByteArray),∀x∈u.data.toList.map yY,x<256:=by
  intro u x J;rw[qx] at J;obtain⟨y,_,rfl⟩:=J;exact y.toNat_lt
 have U:=z5B _ _ (G s) (G t) h;have O:s.data.toList=t.data.toList:=by
  apply List.map_inj_right (f:=yY) (λa b q=>UInt8.toNat_inj.1 q) |>.1 U
 obtain⟨⟨a⟩⟩:=s;obtain⟨⟨b⟩⟩:=t;simp at O;rw[O]
theorem z8G (s:ByteArray)(m:List CL.Smp)(h:CL.z7m (z0w s)=some m):zr3 (BL.pk (CL.chB m))=s:=by
 obtain⟨_,_,k,G,hb⟩:=CL.zcK _ _ h;apply zax;rw[z5F,hb];have q:=congrArg uY hb;rw[z1Z,q8,List.length_replicate] at q
 congr 2
 omega
theorem z5N (l:List CL.Smp)(h:CL.right l=true)(q:∀s∈l,CL.Rs s):CL.z7m (z0w (zr3 (BL.pk (CL.chB l))))=some l:=by
 rw[z5F];exact CL.zdP l h q _ (by omega)
/-! ## the document's reading, step by step -/
section
open Go.RowKit
theorem znL (c:List UInt8)(x:List CL.Smp)(h:chD c=some x):chE x=c:=by
 have:=z8G (sb c) x h;unfold chE;rw[this,z5f]
theorem zn3 {c:List UInt8}{x:List CL.Smp}(h:chD c=some x):CL.right x=true/\x.length<=2000/\∀s∈x,CL.Rs s:=by
 obtain⟨q,G,_⟩:=CL.zcK _ x h;exact⟨q,((CL.z0J x).1 q).1,G⟩
theorem zi6 {S r:List UInt8}{l:List (List CD.Lb×List CL.Smp)}(h:CD.z5K chD lbK S=some (l,r)):l.length<=S.length/\∀x∈l,lbK x.1=true/\x.1.length<=8/\chD (chE x.2)=some x.2:=by
 refine⟨?_,(CD.zit znL h).2⟩;unfold CD.z5K at h;split at h
 .cases h
 .rename_i n G q;have J:=zay q;split at h
  .have O:=CD.zhy h;have U:=(CD.zfv znL h).2.1;omega
  .cases h
theorem zjr (l:List (List CD.Lb×List CL.Smp))(i:Nat)(hi:i<l.length):∃x∈l,z03 (l.map z5H) i=z5H x:=by
 refine⟨l[i]'hi,List.getElem_mem hi,?_⟩;unfold z03;rw[q7,List.getElem?_map,qw hi];rfl
end
section
open Go.RowKit
theorem z6S (l:List Sr):(l.map z2B).map z5H=l:=by
 rw[ym9]
 conv=>rhs;rw[<-uZ l]
 apply eF;intro p _;show(z3a (z2o p.1),p.2)=p;rw[z8m]
theorem zbA {l:List LB.Lab}(h:LB.right l=true):l.length<=8/\∀i,i<l.length->(LB.at' l i).1.size<=24/\(LB.at' l i).2.size<=24:=by
 have h1:=of_decide_eq_true h;refine⟨h1.2.1,λi hi=>?_⟩;obtain⟨q,G,_⟩:=h1.2.2 i hi;exact⟨(of_decide_eq_true q).2.1,(of_decide_eq_true G).1⟩
theorem ziO {l:List Sr}{x:Sr}(h:x∈l):∃i,i<l.length/\z03 l i=x:=by
 obtain⟨i,hi,e⟩:=iY h;refine⟨i,hi,?_⟩;unfold z03;rw[q7,qw hi,e];rfl
theorem zmR {l:List LB.Lab}{x:CD.Lb}(h:x∈z2o l):∃i,i<l.length/\x=((LB.at' l i).1.data.toList,(LB.at' l i).2.data.toList):=by
 unfold z2o at h;obtain⟨p,q,rfl⟩:=qx.1 h;obtain⟨i,hi,e⟩:=iY q;refine⟨i,hi,?_⟩;have G:LB.at' l i=p:=by
  unfold LB.at';rw[q7,qw hi,e];rfl
 rw[G]
theorem zjk (l:List CL.Smp):sb (chE l)=zr3 (BL.pk (CL.chB l)):=by unfold chE;rw[zdZ]
theorem znq {l:List Sr}(hs:z8p l)(h:∀i,i<l.length->okS (z03 l i)=true):CD.Ok chE chD lbK (l.map z2B):=by
 intro x G;obtain⟨y,J,rfl⟩:=qx.1 G;obtain⟨i,hi,rfl⟩:=ziO J;obtain⟨_,_,h3,O⟩:=hs.2 i hi;have q:=h i hi;unfold okS at q;rw[qI] at q;obtain⟨h6,U⟩:=zbA q.2;have V:(z2o (z03 l i).1).length=(z03 l i).1.length:=by simp[z2o]
 refine⟨by show lbK (z2o (z03 l i).1)=true;rw[zmn];exact q.2,by show(z2o (z03 l i).1).length<=8;omega,λz Y=>?_,?_,?_⟩
 .obtain⟨j,hj,rfl⟩:=zmR Y;have:=U j hj;have e1:(LB.at' (z03 l i).1 j).1.data.toList.length=(LB.at' (z03 l i).1 j).1.size:=by rw[qE];rfl
  have e2:(LB.at' (z03 l i).1 j).2.data.toList.length=(LB.at' (z03 l i).1 j).2.size:=by rw[qE];rfl
  show(LB.at' (z03 l i).1 j).1.data.toList.length<=_/\(LB.at' (z03 l i).1 j).2.data.toList.length<=_;omega
 .show(chE (z03 l i).2).length<=_;have e1:(chE (z03 l i).2).length=(zr3 (BL.pk (CL.chB (z03 l i).2))).size:=by unfold chE;rw[qE];rfl
  have:=zbZ (z03 l i).2 (by omega);omega
 .show chD (chE (z03 l i).2)=some (z03 l i).2;unfold chD;rw[zjk];exact z5N (z03 l i).2 q.1 O
theorem z88 {l:List Sr}(hs:z8p l)(h:∀i,i<l.length->okS (z03 l i)=true):CD.z5K chD lbK (CD.z7y chE (l.map z2B))=some (l.map z2B,[]):=by
 have q:=hs.1;have:=CD.zlQ (l.map z2B) (znq hs h) (by rw[qz];omega) [];rw[tB] at this;exact this
end
section
open Go.RowKit
def zlP:List Oper->Act->Act
 | [],a=>a
 | o::os,a=>zlP os (a.put o.dst undef)
def zcZ (ops:Array Oper):List Oper->Act->Bool
 | [],_=>true
 | o::os,a=> !Region.wanted o (tz ops a.tmps)&&zcZ ops os (a.put o.dst undef)
theorem zgw {P:rM}{ops:Array Oper}{C:World->Prop}{Q:Act->Prop}:∀(os:List Oper) {rest:List Oper} {a:Act},zcZ ops os a=true->tX P ops C Q rest (zlP os a)->tX P ops C Q (os++rest) a
 | [],_,_,_,h=>h
 | o::os,rest,a,hs,h=>by
  simp only[zcZ,qI,Bool.not_eq_true'] at hs;exact BigFrame.wpQuiet_skip hs.1 (zgw os hs.2 h)
theorem z5a {P:rM}{ops:Array Oper}{C:World->Prop}{Q:Act->Prop}{o:Oper}{rest:List Oper}{a:Act}(v:Value)(n:Nat)(q:wy o (tz ops a.tmps)=true)(h:∀W,C W->(eS a.eval o).run P W= .ok (.value v) W)(G:zcZ ops (rest.take n) (a.put o.dst v)=true)(J:tX P ops C Q (rest.drop n) (zlP (rest.take n) (a.put o.dst v))):tX P ops C Q (o::rest) a:=
 z0c v q h (by
  have:=zgw (P:=P) (C:=C) (Q:=Q) (rest.take n) G J;rwa[List.take_append_drop] at this)
theorem z0O (w:World)(b:Nat)(a:Array Value)(t:qn)(h:w.heap[b]? =some (.cells a t))(i:Nat)(v:Value)(q:a[i]? =some v):w.cell? ⟨b,i,none⟩=some v:=by simp[World.cell?,h,q]
theorem zda (b k:Nat)(q:Option Addr)(n c:Nat)(w:World)(h:w.cell? ⟨b,k,none⟩=some (.slice q n c)):(wZ 90 (.pointer (some ⟨b,k,none⟩))).run q6 w= .ok (.slice q n c) w:=by
 have G:(q6.info? 90).map (·.size)=some 1:=by kernel_rfl
 go_simp
theorem zgp (b k:Nat)(q:Option Addr)(n c:Nat)(w:World)(h:w.cell? ⟨b,k,none⟩=some (.slice q n c)):(wZ 39 (.pointer (some ⟨b,k,none⟩))).run q6 w= .ok (.slice q n c) w:=by
 have G:(q6.info? 39).map (·.size)=some 1:=by kernel_rfl
 go_simp
theorem zlT (b off n c:Nat)(h:0<n)(w:World):(yf 91 (.slice (some ⟨b,off,none⟩) n c) (.int .i64 ((n:Int)-1))).run q6 w= .ok (.pointer (some ⟨b,off+(n-1)*2,none⟩)) w:=by
 have e:(n:Int)-1=((n-1:Nat):Int):=by omega
 have q:0<=((n-1:Nat):Int)/\((n-1:Nat):Int)<(n:Int):=by omega
 rw[e]
 go_simp
theorem zgD (b off n c i:Nat)(h:i<n)(q:0<i)(w:World):(yf 39 (.slice (some ⟨b,off,none⟩) n c) (.int .i64 ((i:Int)-1))).run q6 w= .ok (.pointer (some ⟨b,off+(i-1)*2,none⟩)) w:=by
 have e:(i:Int)-1=((i-1:Nat):Int):=by omega
 have G:0<=((i-1:Nat):Int)/\((i-1:Nat):Int)<(n:Int):=by omega
 rw[e]
 go_simp
end
section
open Go.RowKit
namespace BK
def bytes (tp old:Int)(S:List Sr):List UInt8:=CD.wN tp++(CD.wN old++CD.z7y chE (S.map z2B))
theorem z9G {tp old:Int}{S:List Sr}(h:right tp old S=true)(i:Nat)(hi:i<S.length):Go.Proofs.YtemeblgngidldaaGreatDoor.okS (z03 S i)=true:=by
 unfold right at h;simp only[qI] at h;have h1:=(of_decide_eq_true h.1 i hi).1;unfold okS at h1;simp only[qI] at h1;unfold Go.Proofs.YtemeblgngidldaaGreatDoor.okS;rw[h1.1,h1.2.1];rfl
end BK
def zhS (s:List UInt8):Option (Int×Int×List (List CD.Lb×List CL.Smp)):=match CD.rN s with
 | none=>none
 | some (tp,r1)=>match CD.rN r1 with
  | none=>none
  | some (old,r2)=>match CD.z5K chD lbK r2 with
   | none=>none
   | some (l,r)=>if r=[]/\BK.right tp old (l.map z5H)=true then some (tp,old,l) else none
theorem z4Z {l:List LB.Lab}(h:LB.right l=true):zmz l:=λi hi=>by
 have h1:=((of_decide_eq_true h).2.2 i hi);have q:=(of_decide_eq_true h1.1).2.1;have G:=(of_decide_eq_true h1.2.1).1;omega
theorem zfs {s G O:List UInt8}{Y n2:Int}{b1 b2:Bool}(h1:(b1=false/\CD.rN s=some (Y,G))\/(b1=true/\CD.rN s=none))(h2:(b2=false/\b1=false/\CD.rN G=some (n2,O))\/(b2=true/\(b1=true\/CD.rN G=none)))(q:b2=true\/CD.z5K chD lbK O=none):zhS s=none:=by
 unfold zhS;rcases h1 with⟨U,J⟩|⟨U,J⟩
 .rw[J];rcases h2 with⟨V,_,h⟩|⟨V,h⟩
  .rw[V] at q;rcases q with q|q
   .cases q
   .simp only[h,q]
  .rw[U] at h;rcases h with h|h
   .cases h
   .simp only[h]
 .rw[J]
theorem zaT {s h J O:List UInt8}{q G:Int}{b1 b2:Bool}{l:List (List CD.Lb×List CL.Smp)}(V:(b1=false/\CD.rN s=some (q,h))\/(b1=true/\CD.rN s=none))(Y:(b2=false/\b1=false/\CD.rN h=some (G,J))\/(b2=true/\(b1=true\/CD.rN h=none)))(hb:b2=false)(h3:CD.z5K chD lbK J=some (l,O)):zhS s=if O=[]/\BK.right q G (l.map z5H)=true then some (q,G,l) else none:=by
 rcases Y with⟨_,e1,r2⟩|⟨U,_⟩
 .rcases V with⟨_,r1⟩|⟨e,_⟩
  .unfold zhS;simp only[r1,r2,h3]
  .rw[e1] at e;cases e
 .rw[hb] at U;cases U
theorem zg9 (S:List UInt8)(bad:Bool):∃n R b,tN S bad=(n,R,b)/\R.length<=S.length/\ -9223372036854775808<=n/\n<=9223372036854775807/\((b=false/\bad=false/\CD.rN S=some (n,R))\/(b=true/\(bad=true\/CD.rN S=none))):=by
 cases bad with
 | true=>exact⟨0,S,true,rfl,qq _,by omega,by omega,.inr ⟨rfl,.inl rfl⟩⟩
 | false=>
  cases hr:CD.rN S with
  | none=>exact⟨0,S,true,zbU hr,qq _,by omega,by omega,.inr ⟨rfl,.inr rfl⟩⟩
  | some p=>
   obtain⟨n,r⟩:=p;have h1:=CD.z7U hr;have h:=zay hr;exact⟨n,r,false,z90 hr,by omega,h1.2.1,h1.2.2,.inl ⟨rfl,rfl,rfl⟩⟩
theorem z11 {P:rM}{fn:Func}{p u:Tmp}{q:qn}(h:fn.results=#[.cell p q,.tmp u]) (tmps:Array Value) (w:World) (g:Nat) (t:qn) (cs:Array Value) (fr:Nat×Nat) (d:TypeDesc)
  (J:tmps.getD p undef= .pointer (some ⟨g,0,none⟩)) (O:w.heap[g]? =some (.cells cs t fr)) (U:P.underlying q=some d) (V:(match d with | .struct _ | .array _ _=>true | _=>false)=true) (hi:(P.info? q).map (·.size)=some cs.size):
  (results fn tmps).run P w= .ok (.tuple #[.agg cs,tmps.getD u undef]) w:=by
 have G:tmps[p]?.getD undef= .pointer (some ⟨g,0,none⟩):=by simpa using J
 simp[results,h,G,asAddr,run_loadVar_row w g t q cs fr d O U V hi]
theorem z4E {w:World}{b:Nat}{x y z u v s:Value}{t:qn}(h:w.heap[b]? =some (.cells #[x,y,z] t)):(((w.setCell ⟨b,0,none⟩ u).setCell ⟨b,1,none⟩ v).setCell ⟨b,2,none⟩ s).heap[b]? =some (.cells #[u,v,s] t):=
 qo _ _ 2 _ _ _ (qo _ _ 1 _ _ _ (qo _ _ 0 _ _ _ h))
theorem z4z {w W:World}{u v s:Value}(h:Below w.heap.size w W):Below w.heap.size w (((W.setCell ⟨w.heap.size,0,none⟩ u).setCell ⟨w.heap.size,1,none⟩ v).setCell ⟨w.heap.size,2,none⟩ s):=
 ((h.setCell (p:=⟨w.heap.size,0,none⟩) (qq _) u).setCell (p:=⟨w.heap.size,1,none⟩) (qq _) v).setCell (p:=⟨w.heap.size,2,none⟩) (qq _) s
def zmO (w:World)(tp old:Int)(S:List Sr)(e:Ending)(w':World):Prop:=
 Below w.heap.size w w'/\((BK.right tp old S=true/\e= .returned (.tuple #[.string (sb (BK.bytes tp old S)),.nilIface]))\/(BK.right tp old S=false/\e= .returned (.tuple #[.string ⟨#[]⟩,.iface 56 (.int .i64 1)])))
def zlY (w:World)(s:List UInt8)(e:Ending)(w':World):Prop:=
 Below w.heap.size w w'/\((∃tp old l v,zhS s=some (tp,old,l)/\e= .returned (.tuple #[.agg #[.int .i64 tp,.int .i64 old,v],.nilIface])/\z0a w' w.heap.size v (l.map z5H))\/(zhS s=none/\e= .returned (.tuple #[.agg #[.int .i64 0,.int .i64 0,.slice none 0 0],.iface 56 (.int .i64 3)])))
theorem zdD {tp old:Int}{S:List Sr}(G:z8p S)(h:BK.right tp old S=true)(h1: -9223372036854775808<=tp/\tp<=9223372036854775807)(h2: -9223372036854775808<=old/\old<=9223372036854775807):zhS (BK.bytes tp old S)=some (tp,old,S.map z2B):=by
 have J:CD.rN (BK.bytes tp old S)=some (tp,CD.wN old++CD.z7y chE (S.map z2B)):=CD.zdo tp h1.1 h1.2 _;have O:=CD.zdo old h2.1 h2.2 (CD.z7y chE (S.map z2B));have U:=z88 G (BK.z9G h);have q:=zaT (b1:=false) (b2:=false) (.inl ⟨rfl,J⟩) (.inl ⟨rfl,rfl,O⟩) rfl U;rw[z6S] at q;rw[q];exact if_pos ⟨rfl,h⟩
end
section
namespace WL
section
variable {K F : ByteArray} {E D : DK.M} {ns : List ByteArray}
structure z8q (K F:ByteArray) (E D:DK.M) (ns:List ByteArray):Prop where
 ne:K≠F
 nk:DK.named K=true
 nf:DK.named F=true
 oth:∀n,n≠K->n≠F->D n=E n
 nof:D F=none
 kep:(D K=none/\ns=[])\/D K=some ⟨joined ns,(joined ns).size,true⟩
structure zdi (K F:ByteArray) (E D:DK.M) (ns:List ByteArray):Prop where
 ne:K≠F
 nk:DK.named K=true
 nf:DK.named F=true
 oth:∀n,n≠K->n≠F->D n=E n
 kep:(D K=none/\ns=[])\/∃r f,D K=some f/\f.b=joined ns++r/\z9C r
theorem z8q.turn {q D':DK.M}(h:z8q K F E D ns)(G:D' K=D K)(hf:D' F=D F)(k:∀n,n≠K->n≠F->D' n=q n):z8q K F q D' ns:=⟨h.ne,h.nk,h.nf,k,hf.trans h.nof,by rw[G];exact h.kep⟩
theorem zc9 {p:Int}(ns:List ByteArray)(ne:K≠F)(Y:DK.named K=true)(nf:DK.named F=true)(O:∀n,n≠K->n≠F->D n=E n)(hp:p= -1\/3<p\/(p=3/\D F=none)):
  ∃D',repl K F (joined ns) D p=(0,D',(repl K F (joined ns) D p).2.2)/\z8q K F E D' ns/\(p= -1->(repl K F (joined ns) D p).2.2= -1)/\ -1<=(repl K F (joined ns) D p).2.2:=by
 have key:∀(G:DK.M) (q:Int),G F=none->(∀n,n≠K->n≠F->G n=E n)->(q= -1\/2<q)->
   ∃D',seq (act 0 F (joined ns) G q) (λD p=>seq (act 1 F qy D p) λD p=>act 2 F K D p)=(0,D',DK.dec (DK.dec (DK.dec q)))/\z8q K F E D' ns:=by
  intro G q h0 ho hq;have q0:q≠0:=by omega
  have q1:DK.dec q≠0:=by unfold DK.dec;split<;>omega
  have q2:DK.dec (DK.dec q)≠0:=by unfold DK.dec;split<;>(try split)<;>omega
  rw[z2t (λ_=>nf) (by omega) (by omega) q0,seq_ok,z3G h0];have e1:DK.put G F ⟨joined ns,0,false⟩ F=some ⟨joined ns,0,false⟩:=DK.put_same _ _ _;rw[z2t (a:=1) (by omega) (by omega) (λ_=>by rw[e1];simp) q1,seq_ok,z2E e1,DK.put_put];have e2:DK.put G F ⟨joined ns,(joined ns).size,true⟩ F=some ⟨joined ns,(joined ns).size,true⟩:=DK.put_same _ _ _;rw[z2t (a:=2) (by omega) (λ_=>Y) (λ_=>by rw[e2];simp) q2,zep e2];refine⟨_,rfl,ne,Y,nf,λn hn V=>?_,?_,.inr (DK.put_same _ _ _)⟩
  .rw[DK.z0b _ _ _ _ hn,DK.z0A _ _ _ V,DK.z0b _ _ _ _ V];exact ho n hn V
  .rw[DK.z0b _ _ _ _ (λe=>ne e.symm),DK.z2k]
 unfold repl;cases hF:D F with
 | none=>
  rw[z6i (by omega) (by omega) hF,z4D,seq_ok];obtain⟨D',U,J⟩:=key D p hF O (by omega);rw[U];refine⟨D',rfl,J,λe=>by rw[e];rfl,?_⟩;show-1<=DK.dec (DK.dec (DK.dec p));unfold DK.dec;split<;>(try split)<;>(try split)<;>omega
 | some f=>
  have A1:p= -1\/3<p:=by
   rcases hp with h|h|h
   .exact .inl h
   .exact .inr h
   .rw[hF] at h;cases h.2
  rw[z2t (a:=3) (by omega) (by omega) (λ_=>by rw[hF];simp) (by omega),zb4,seq_ok,zlv];obtain⟨D',U,J⟩:=key (DK.del D F) (DK.dec p) (DK.z2k _ _) (λn U J=>by rw[DK.z0A _ _ _ J];exact O n U J) (by unfold DK.dec;split<;>omega);rw[U];refine⟨D',rfl,J,λe=>by rw[e];rfl,?_⟩;show-1<=DK.dec (DK.dec (DK.dec (DK.dec p)));unfold DK.dec;split<;>(try split)<;>(try split)<;>(try split)<;>omega
theorem zhC (h:zdi K F E D ns){t:ByteArray}(ht:(D K=none/\t=qy)\/∃f,D K=some f/\t=f.b):
  ∃D',z9R K F t (joined ns).size D (-1)=(0,D', -1)/\z8q K F E D' ns:=by
 have Y:∃G,bear (act 3 F qy D (-1))=(0,G, -1)/\G F=none/\G K=D K/\∀n,n≠K->n≠F->G n=E n:=by
  cases hF:D F with
  | none=>exact⟨D,by rw[z6i (by omega) (by omega) hF,z4D],hF,rfl,h.oth⟩
  | some f=>
   refine⟨DK.del D F,by rw[z2t (a:=3) (by omega) (by omega) (λ_=>by rw[hF];simp) (by omega),zb4,zlv,zka],DK.z2k _ _,DK.z0A _ _ _ h.ne,λn V e=>?_⟩;rw[DK.z0A _ _ _ e];exact h.oth n V e
 obtain⟨G,r1,r2,r3,r4⟩:=Y;have zr2:∀f,D K=some f->f.b=joined ns->∃D',seq (bear (act 3 F qy D (-1))) (λD p=>bear (act 1 K qy D p))=(0,D', -1)/\z8q K F E D' ns:=by
  intro f J hb;rw[r1,seq_ok];have O:G K=some f:=r3.trans J;rw[z2t (a:=1) (by omega) (by omega) (λ_=>by rw[O];simp) (by omega),zb4,z2E O,zka,hb];refine⟨_,rfl,h.ne,h.nk,h.nf,λn V J=>?_,?_,.inr (DK.put_same _ _ _)⟩
  .rw[DK.z0b _ _ _ _ V];exact r4 n V J
  .rw[DK.z0b _ _ _ _ (λe=>h.ne e.symm)];exact r2
 unfold z9R;rcases h.kep with⟨h1,rfl⟩|⟨r,f,J,hb,hr⟩
 .have q:t=qy:=by
   rcases ht with h2|⟨f,h2,_⟩
   .exact h2.2
   .rw[h1] at h2;cases h2
  rw[q,if_neg (by show ¬(0<0);omega),r1,seq_ok];have U:G K=none:=r3.trans h1;rw[z6i (by omega) (by omega) U,z4D];exact⟨G,rfl,h.ne,h.nk,h.nf,r4,r2,.inl ⟨U,rfl⟩⟩
 .have q:t=joined ns++r:=by
   rcases ht with h2|⟨g,h2,h3⟩
   .rw[J] at h2;cases h2.1
   .rw[J] at h2;cases h2;rw[h3,hb]
  have A2:t.size=(joined ns).size+r.size:=by rw[q,qC]
  by_cases A1:r.size=0
  .rw[if_neg (by omega)];have:r=qy:=zcb (by
    have:=size_data r;rw[A1] at this;rw[List.eq_nil_of_length_eq_zero this];rfl)
   exact zr2 f J (by rw[hb,this,append_empty])
  .rw[if_pos (by omega)];have hx:t.extract 0 (joined ns).size=joined ns:=by
    have e:=z6F (joined ns) r 0;rw[<-q] at e;rw[yI] at e;rw[e];have:r.extract 0 0=qy:=by apply zcb;simp
    rw[this,append_empty]
   rw[hx];obtain⟨D',e1,e2,e3,_⟩:=zc9 (p:= -1) ns h.ne h.nk h.nf h.oth (.inl rfl);rw[e1,e3 rfl];exact⟨D',rfl,e2⟩
theorem z3B (h:z8q K F E D ns)(k:Int):zdi K F (DK.start E k) (DK.start D k) ns:=by
 refine⟨h.ne,h.nk,h.nf,λn G J=>by unfold DK.start;rw[h.oth n G J],?_⟩;rcases h.kep with⟨q,O⟩|q
 .exact .inl ⟨DK.z2u q,O⟩
 .refine .inr ⟨qy,_,(DK.z1G q).trans (by rw[if_pos (by unfold DK.stay;rfl)]),?_,z9C.empty⟩;rw[append_empty];unfold DK.z3t;apply zcb;simp only[wA,wB];have:=size_data (joined ns);simp;rw[qL];rw[this];omega
theorem z6O {p:Int}(h: -1<=p): -1<=DK.dec p:=by unfold DK.dec;split<;>omega
theorem zjv (h:z8q K F E D ns){s:ByteArray}(hs:s.size<65536){p:Int}(hp: -1<=p):
  (∃D' p',z1V K s D p=(0,D',p')/\z8q K F E D' (ns++[s])/\(p= -1->p'= -1)/\ -1<=p')\/(p≠ -1/\∃D',z1V K s D p=(14,D',0)/\∀k,zdi K F (DK.start E k) (DK.start D' k) ns\/zdi K F (DK.start E k) (DK.start D' k) (ns++[s])):=by
 unfold z1V;by_cases h0:p=0
 .subst h0;rw[z3l (λ_=>h.nk) (by omega) (by omega),z5g];exact .inr ⟨by omega,D,rfl,λk=> .inl (z3B h k)⟩
 .obtain⟨f,O,J,A1⟩:∃f:DK.Fl,DK.next 0 D K (enc s)=DK.put D K f/\f.b=joined (ns++[s])/\f.s=(joined ns).size:=by
   rcases h.kep with⟨U,rfl⟩|U
   .exact⟨_,z3G U,by rw[z1k];exact(empty_append _).symm,rfl⟩
   .exact⟨_,z7W U,(z1k _ _).symm,rfl⟩
  rw[z2t (λ_=>h.nk) (by omega) (by omega) h0,seq_ok,O];have e1:DK.put D K f K=some f:=DK.put_same _ _ _;by_cases U:p=1
  .subst U;have:DK.dec 1=0:=rfl;rw[this,z3l (a:=1) (by omega) (by omega) (λ_=>by rw[e1];simp)];refine .inr ⟨by omega,_,rfl,λk=>?_⟩;have oth:∀n,n≠K->n≠F->DK.start (DK.put D K f) k n=DK.start E k n:=λn V O=>by unfold DK.start;rw[DK.z0b _ _ _ _ V,h.oth n V O]
   have q:=DK.z1G (c:=k) e1;by_cases G:DK.stay f k=true
   .rw[if_pos G] at q;have Y:(DK.z3t f k.toNat).b=joined ns++(enc s).extract 0 (min k.toNat (enc s).size):=by
     unfold DK.z3t;have A2:f.b.size=(joined ns).size+(enc s).size:=by rw[J,z1k,qC]
     show f.b.extract 0 (f.s+min k.toNat (f.b.size-f.s))=_;rw[A1,A2,J,z1k];have e2:(joined ns).size+(enc s).size-(joined ns).size=(enc s).size:=by omega
     rw[e2,z6F]
    by_cases hm:(enc s).size<=k.toNat
    .refine .inr ⟨h.ne,h.nk,h.nf,oth,.inr ⟨qy,_,q,?_,z9C.empty⟩⟩;rw[Y,zev _ _ (by omega),append_empty,z1k]
    .exact .inl ⟨h.ne,h.nk,h.nf,oth,.inr ⟨_,_,q,Y,zgU s hs _ (by omega)⟩⟩
   .rw[if_neg G] at q;refine .inl ⟨h.ne,h.nk,h.nf,oth,.inl ⟨q,?_⟩⟩;rcases h.kep with⟨_,h2⟩|h2
    .exact h2
    .exfalso;have hk:f.k=true:=by
      have e3:=z7W (s:=enc s) h2;rw[O] at e3;have:=congrFun e3 K;rw[DK.put_same,DK.put_same] at this;exact(qt this)▸rfl
     unfold DK.stay at G;rw[hk] at G;exact G rfl
  .have q1:DK.dec p≠0:=by unfold DK.dec;split<;>omega
   rw[z2t (a:=1) (by omega) (by omega) (λ_=>by rw[e1];simp) q1,z2E e1,DK.put_put];refine .inl ⟨_,_,rfl,⟨h.ne,h.nk,h.nf,λn V O=>?_,?_,.inr ?_⟩,λe=>by rw[e];rfl,z6O (z6O hp)⟩
   .rw[DK.z0b _ _ _ _ V];exact h.oth n V O
   .rw[DK.z0b _ _ _ _ (λe=>h.ne e.symm)];exact h.nof
   .rw[DK.put_same,J]
theorem zjA (h:z8q K F E D ns)(l:List ByteArray){p:Int}(hp: -1<=p):
  (∃D' p',repl K F (joined l) D p=(0,D',p')/\z8q K F E D' l/\(p= -1->p'= -1)/\ -1<=p')\/(p≠ -1/\∃D',repl K F (joined l) D p=(14,D',0)/\∀k,zdi K F (DK.start E k) (DK.start D' k) ns):=by
 by_cases q:p= -1\/3<p\/(p=3/\D F=none)
 .obtain⟨D',O,J,U,h4⟩:=zc9 (p:=p) l h.ne h.nk h.nf h.oth q;exact .inl ⟨D',_,O,J,U,h4⟩
 .have V:=h.nof;have G:∀(f:DK.Fl) (k:Int),zdi K F (DK.start E k) (DK.start (DK.put D F f) k) ns:=by
   intro f k;obtain⟨a1,a2,a3,a4,a5⟩:=z3B h k;refine⟨a1,a2,a3,λn O J=>?_,?_⟩
   .unfold DK.start;rw[DK.z0b _ _ _ _ J,h.oth n O J]
   .have e:DK.start (DK.put D F f) k K=DK.start D k K:=by
     unfold DK.start;rw[DK.z0b _ _ _ _ h.ne]
    rw[e];exact a5
  unfold repl;rw[z6i (by omega) (by omega) V,z4D,seq_ok];refine .inr ⟨λe=>q (.inl e),?_⟩;by_cases h0:p=0
  .subst h0;rw[z3l (λ_=>h.nf) (by omega) (by omega),z5g];exact⟨_,rfl,z3B h⟩
  .rw[z2t (λ_=>h.nf) (by omega) (by omega) h0,seq_ok,z3G V];have Y:DK.put D F ⟨joined l,0,false⟩ F=some ⟨joined l,0,false⟩:=DK.put_same _ _ _;by_cases O:p=1
   .subst O;have:DK.dec 1=0:=rfl;rw[this,z3l (a:=1) (by omega) (by omega) (λ_=>by rw[Y];simp),z5g];exact⟨_,rfl,G _⟩
   .have J:p=2:=by
     by_cases U:p=3
     .exact absurd (.inr (.inr ⟨U,V⟩)) q
     .omega
    subst J;have d2:DK.dec 2=1:=rfl;have d1:DK.dec 1=0:=rfl;rw[d2,z2t (a:=1) (by omega) (by omega) (λ_=>by rw[Y];simp) (by omega),seq_ok,z2E Y,DK.put_put,d1];have e2:DK.put D F ⟨joined l,(joined l).size,true⟩ F=some ⟨joined l,(joined l).size,true⟩:=DK.put_same _ _ _;rw[z3l (a:=2) (by omega) (λ_=>h.nk) (λ_=>by rw[e2];simp)];exact⟨_,rfl,G _⟩
end
end WL
end
namespace SX
structure Gd where
 below:Int
 g:Gn
def goN (g:Gn):List LB.Lab->Int->Bool:=λL t=> !goG g L t
structure St where
 s:Sto
 G:List Gd
def first:St:=⟨new,[]⟩
def takeB (d:Gd)(b:Blk):Blk:=if b.n<d.below then {b with S:=HD.kp (goN d.g) b.S} else b
def z0Q (d:Gd)(x:St):St:=⟨{x.s with H:=HD.kp (goN d.g) x.s.H,B:=x.s.B.map (takeB d),gn:=x.s.gn+1},x.G++[d]⟩
inductive Nt where
 | st (mark nx:Int) (ns:List Int)
 | came (l:List Sr)
 | gone (d:Gd)
def eM (m:LB.Mat):List UInt8:=CD.wT m.nm.data.toList++(CD.wN m.op++CD.wT m.vl.data.toList)
def enc:Nt->List UInt8
 | .st m nx ns=>CD.wN 1++(CD.wN m++(CD.wN nx++(CD.wN ns.length++ns.flatMap CD.wN)))
 | .came l=>CD.wN 2++CD.z7y chE (l.map z2B)
 | .gone d=>CD.wN 3++(CD.wN d.below++(CD.wN d.g.fr++(CD.wN d.g.tt++(CD.wN d.g.M.length++d.g.M.flatMap eM))))
def fl (tp old:Int)(S:List Sr):DK.Fl:=⟨sb (BK.bytes tp old S),(sb (BK.bytes tp old S)).size,true⟩
def File (E:DK.M)(b:Blk):Prop:=∃old,E (nm b.n.toNat)=some (fl b.zto old b.S)/\BK.right b.zto old b.S=true/\z8p b.S/\ -1<=old/\old<100/\(sb (BK.bytes b.zto old b.S)).size<=1000000
def zjI (d:Gd):Prop:=d.g.M.length<=8/\(-9223372036854775808<=d.below/\d.below<=9223372036854775807)/\(-9223372036854775808<=d.g.fr/\d.g.fr<=9223372036854775807)/\(-9223372036854775808<=d.g.tt/\d.g.tt<=9223372036854775807)/\∀i,i<d.g.M.length->(LB.am d.g.M i).nm.size<=1000/\(LB.am d.g.M i).vl.size<=1000/\ -9223372036854775808<=(LB.am d.g.M i).op/\(LB.am d.g.M i).op<=9223372036854775807
def Step (E:DK.M)(x:St):Nt->St->Prop
 | .st m nx ns,y=>x=first/\∃bs:List Blk,(∀b∈bs,File E b)/\bs.map (·.n)=ns/\bs.length<=30/\((∀b∈bs,0<=b.n/\b.n<100)/\(-9223372036854775808<=m/\m<=9223372036854775807)/\0<=nx/\nx<100)/\bs.Pairwise (λb c=>b.n<c.n)/\y=⟨⟨m,[],bs,nx,0⟩,[]⟩
 | .came l,y=>((HD.app x.s.mark x.s.H l).1=(0, -1)/\z8p l)/\y=⟨{x.s with H:=(HD.app x.s.mark x.s.H l).2},x.G⟩
 | .gone d,y=>zjI d/\y=z0Q d x
inductive Run (E:DK.M):St->List Nt->St->Prop
 | nil (x:St):Run E x [] x
 | cons {x y z:St} {n:Nt} {ns:List Nt} (h:Step E x n y) (k:Run E y ns z):Run E x (n::ns) z
theorem Run.append {E:DK.M}{x y z:St}{a b:List Nt}(h:Run E x a y)(k:Run E y b z):Run E x (a++b) z:=by
 induction h with
 | nil x=>exact k
 | cons h _ ih=>exact .cons h (ih k)
theorem Run.snoc {E:DK.M}{x y z:St}{a:List Nt}{n:Nt}(h:Run E x a y)(k:Step E y n z):Run E x (a++[n]) z:=h.append (.cons k (.nil z))
theorem z5j (d:Gd)(b:Blk):(takeB d b).n=b.n:=by unfold takeB;split<;>rfl
theorem z6d (d:Gd)(b:Blk):(takeB d b).zto=b.zto:=by unfold takeB;split<;>rfl
theorem z5D (d:Gd)(x:St):(z0Q d x).s.B.map (·.n)=x.s.B.map (·.n):=by
 show(x.s.B.map (takeB d)).map (·.n)=_;rw[ym9];exact eF λb _=>z5j d b
theorem Run.nums {E:DK.M}{x z:St}{ns:List Nt}(h:Run E x ns z)(q:x.s.B≠[]):z.s.B.map (·.n)=x.s.B.map (·.n):=by
 induction h with
 | nil x=>rfl
 | @cons x y z n ns h k ih=>
  cases n with
  | st m nx l=>exact absurd (by rw[h.1];rfl) q
  | came l=>
   have e:y.s.B=x.s.B:=by rw[h.2]
   rw[ih (by rw[e];exact q),e]
  | gone d=>
   have e:y.s.B.map (·.n)=x.s.B.map (·.n):=by rw[show y=z0Q d x from h.2];exact z5D d x
   rw[ih (λG=>q (by rw[G] at e;simpa using e.symm)),e]
theorem Run.swap {E O:DK.M}{x z:St}{ns:List Nt}(h:Run E x ns z)(U:∀n,n∈z.s.B.map (·.n)->O (nm n.toNat)=E (nm n.toNat)):Run O x ns z:=by
 induction h with
 | nil x=>exact .nil x
 | @cons x y z n ns h k ih=>
  refine .cons ?_ (ih U);cases n with
  | st m nx l=>
   obtain⟨V,bs,Y,h3,h4,h5,h6,q⟩:=h;refine⟨V,bs,λb hb=>?_,h3,h4,h5,h6,q⟩;have G:y.s.B≠[]:=by rw[q];exact List.ne_nil_of_mem hb
   have hm:=k.nums G;have J:y.s.B=bs:=by rw[q]
   obtain⟨old,f1,f2⟩:=Y b hb;refine⟨old,?_,f2⟩;rw[U b.n (by rw[hm,J];exact List.mem_map_of_mem hb)];exact f1
  | came l=>exact h
  | gone d=>exact h
theorem zie {E:DK.M}{n:ByteArray}{tp old:Int}{S:List Sr}(h:E n=some (fl tp old S))(k:Int):DK.start E k n=some (fl tp old S):=by
 rw[DK.z1G h,if_pos (by unfold DK.stay fl;rfl)];unfold DK.z3t fl;have e:∀b:ByteArray,b.extract 0 b.size=b:=λb=>by
  apply WL.zcb;simp only[wA,wB];have:=WL.size_data b;simp;rw[qL (by omega)]
 simp only[Nat.sub_self,Nat.min_zero,yI,e]
theorem Run.start {E:DK.M}{x z:St}{ns:List Nt}(h:Run E x ns z)(k:Int):Run (DK.start E k) x ns z:=by
 induction h with
 | nil x=>exact .nil x
 | @cons x y z n ns h _ ih=>
  refine .cons ?_ ih;cases n with
  | st m nx l=>
   obtain⟨q,bs,G,J⟩:=h;exact⟨q,bs,λb hb=>by obtain⟨old,O,U⟩:=G b hb;exact⟨old,zie O k,U⟩,J⟩
  | came l=>exact h
  | gone d=>exact h
def goes (n:Int)(G:List Gd)(S:List Sr):List Sr:=G.foldl (λS d=>if n<d.below then HD.kp (goN d.g) S else S) S
theorem zgb (n:Int)(G:List Gd)(d:Gd)(S:List Sr):goes n (G++[d]) S=if n<d.below then HD.kp (goN d.g) (goes n G S) else goes n G S:=by
 unfold goes;rw[List.foldl_append];rfl
theorem zaF {n:Int}:∀{G:List Gd} {S:List Sr},(∀d∈G,d.below<=n)->goes n G S=S
 | [],_,_=>rfl
 | d::G,S,h=>by
  show goes n G (if n<d.below then HD.kp (goN d.g) S else S)=S;have:=h d qd;rw[if_neg (by omega)];exact zaF λe q=>h e (qp _ q)
def Lie (E:DK.M)(x:St):Prop:=∀b∈x.s.B,∃S0,File E {b with S:=S0}/\b.S=goes b.n x.G S0
theorem zgu (E:DK.M):Lie E first:=λb hb=>by cases hb
theorem zbb {E:DK.M}{x:St}(h:Lie E x)(d:Gd):Lie E (z0Q d x):=by
 intro b hb;obtain⟨c,J,rfl⟩:=qx.1 (show b∈x.s.B.map (takeB d) from hb);obtain⟨q,O,U⟩:=h c J;refine⟨q,?_,?_⟩
 .obtain⟨old,V,Y⟩:=O;exact⟨old,by rw[show({takeB d c with S:=q}:Blk).n=c.n from z5j d c,show({takeB d c with S:=q}:Blk).zto=c.zto from z6d d c];exact V,by rw[show({takeB d c with S:=q}:Blk).zto=c.zto from z6d d c];exact Y⟩
 .show(takeB d c).S=goes (takeB d c).n (x.G++[d]) q;rw[z5j,zgb,<-U];unfold takeB;split<;>rfl
theorem Run.lie {E:DK.M}{x z:St}{ns:List Nt}(h:Run E x ns z)(q:Lie E x):Lie E z:=by
 induction h with
 | nil x=>exact q
 | @cons x y z n ns h _ ih=>
  refine ih ?_;cases n with
  | st m nx l=>
   obtain⟨_,bs,G,_,_,_,_,J⟩:=h;rw[J];exact λb hb=>⟨b.S,G b hb,rfl⟩
  | came l=>rw[h.2];exact q
  | gone d=>rw[show y=z0Q d x from h.2];exact zbb q d
def z0n (x:St):List Nt:= .st x.s.mark x.s.nx (x.s.B.map (·.n))::(x.G.map .gone++(pieces x.s.H).map .came)
theorem zan (E:DK.M):∀(G:List Gd) (x:St),(∀d∈G,zjI d)->Run E x (G.map .gone) (G.foldl (λx d=>z0Q d x) x)
 | [],x,_=> .nil x
 | d::G,x,h=> .cons (y:=z0Q d x) ⟨h d qd,rfl⟩ (zan E G (z0Q d x) λe q=>h e (qp _ q))
theorem z9T (E:DK.M):∀(ps:List (List Sr)) (x:St) (S:List Sr),(∀p∈ps,z8p p)->z9y x.s.mark ps x.s.H=some S->Run E x (ps.map .came) ⟨{x.s with H:=S},x.G⟩
 | [],x,S,_,h=>by cases h;exact .nil x
 | p::ps,x,S,hs,h=>by
  rw[z9y] at h;by_cases e:(HD.app x.s.mark x.s.H p).1=(0, -1)
  .rw[if_pos e] at h;exact .cons (y:=⟨{x.s with H:=(HD.app x.s.mark x.s.H p).2},x.G⟩) ⟨⟨e,hs p qd⟩,rfl⟩ (z9T E ps ⟨{x.s with H:=(HD.app x.s.mark x.s.H p).2},x.G⟩ S (λq J=>hs q (qp _ J)) h)
  .rw[if_neg e] at h;cases h
theorem ze9 (G:List Gd):∀(x:St),x.s.H=[]->(G.foldl (λx d=>z0Q d x) x)=⟨{x.s with B:=x.s.B.map λb=>{b with S:=goes b.n G b.S},gn:=x.s.gn+G.length},x.G++G⟩:=by
 induction G with
 | nil=>
  intro x _;simp[goes]
 | cons d G ih=>
  intro x h;rw[List.foldl_cons,ih (z0Q d x) (by show HD.kp (goN d.g) x.s.H=[];rw[h];rfl)];have q:(z0Q d x).s.H=x.s.H:=by show HD.kp (goN d.g) x.s.H=x.s.H;rw[h];rfl
  have J:(z0Q d x).s.B.map (λb=>({b with S:=goes b.n G b.S}:Blk))=x.s.B.map λb=>{b with S:=goes b.n (d::G) b.S}:=by
   show(x.s.B.map (takeB d)).map _=_;rw[ym9];refine eF λb _=>?_
   show({takeB d b with S:=goes (takeB d b).n G (takeB d b).S}:Blk)={b with S:=goes b.n G (if b.n<d.below then HD.kp (goN d.g) b.S else b.S)};unfold takeB;split<;>rfl
  rw[J];show(⟨⟨x.s.mark,(z0Q d x).s.H,_,x.s.nx,x.s.gn+1+G.length⟩,(x.G++[d])++G⟩:St)=⟨⟨x.s.mark,x.s.H,_,x.s.nx,x.s.gn+(G.length+1)⟩,x.G++d::G⟩;rw[q,List.append_assoc,Nat.add_assoc,Nat.add_comm 1];rfl
structure Fit (x:St):Prop where
 inv:Inv x.s
 gn:x.s.gn=x.G.length
 sixty:x.s.H.length<=60
 thirty:x.s.B.length<=30
 num:∀b∈x.s.B,0<=b.n
 nx:0<=x.s.nx/\x.s.nx<100
 low:∀d∈x.G,d.below<=x.s.nx
 gok:∀d∈x.G,zjI d
 mkr: -9223372036854775808<=x.s.mark/\x.s.mark<=9223372036854775807
theorem zgf {S:List Sr}(h:HD.Good S){p:List Sr}(O:p∈pieces S):z8p p:=by
 obtain⟨x,U,c,rfl,Y,V⟩:=z3i O;have q:=h.ok x U;refine⟨by simp,λi hi=>?_⟩;have G:i=0:=by simp at hi;omega
 subst G;refine⟨z4Z q.1,?_,?_,λs J=>q.2.2.2 s (V s J)⟩
 .show x.1.length<=20;have h8:=(of_decide_eq_true q.1).2.1;omega
 .show c.length<=2000;omega
theorem zf0 {E:DK.M}{x:St}(h:Fit x)(U:Lie E x):Run E first (z0n x) x:=by
 obtain⟨q,J⟩:∃q:Blk->List Sr,∀b∈x.s.B,File E {b with S:=q b}/\b.S=goes b.n x.G (q b):=by
  classical
  exact⟨λb=>if hb:b∈x.s.B then(U b hb).choose else [],λb hb=>by simp only[dif_pos hb];exact(U b hb).choose_spec⟩
 have Y:Step E first (.st x.s.mark x.s.nx (x.s.B.map (·.n))) ⟨⟨x.s.mark,[],x.s.B.map λb=>{b with S:=q b},x.s.nx,0⟩,[]⟩:=by
  refine⟨rfl,x.s.B.map λb=>{b with S:=q b},λc O=>?_,?_,?_,⟨λc O=>?_,h.mkr,h.nx⟩,?_,rfl⟩
  .obtain⟨b,hb,rfl⟩:=qx.1 O;exact(J b hb).1
  .rw[ym9];rfl
  .rw[qz];exact h.thirty
  .obtain⟨b,hb,rfl⟩:=qx.1 O;have:=h.num b hb;have:=h.inv.num b hb;have:=h.nx;exact⟨by assumption,by show b.n<100;omega⟩
  .exact List.pairwise_map.2 (h.inv.asc.imp λk=>k.1)
 have V:=zan E x.G ⟨⟨x.s.mark,[],x.s.B.map λb=>{b with S:=q b},x.s.nx,0⟩,[]⟩ h.gok;rw[ze9 x.G _ rfl] at V;have hB:(x.s.B.map λb=>({b with S:=q b}:Blk)).map (λb=>({b with S:=goes b.n x.G b.S}:Blk))=x.s.B:=by
  rw[ym9]
  conv=>rhs;rw[<-uZ x.s.B]
  refine eF λb hb=>?_
  show({b with S:=goes b.n x.G (q b)}:Blk)=b;rw[<-(J b hb).2]
 have h3:Run E ⟨⟨x.s.mark,[],x.s.B.map λb=>{b with S:=q b},x.s.nx,0⟩,[]⟩ (x.G.map .gone) ⟨⟨x.s.mark,[],x.s.B,x.s.nx,x.s.gn⟩,x.G⟩:=by
  have e:(⟨⟨x.s.mark,[],x.s.B,x.s.nx,x.s.gn⟩,x.G⟩:St)=⟨⟨x.s.mark,[],(x.s.B.map λb=>({b with S:=q b}:Blk)).map (λb=>({b with S:=goes b.n x.G b.S}:Blk)),x.s.nx,0+x.G.length⟩,[]++x.G⟩:=by
   rw[hB,h.gn,Nat.zero_add,r6]
  rw[e];exact V
 have h4:=z9T E (pieces x.s.H) ⟨⟨x.s.mark,[],x.s.B,x.s.nx,x.s.gn⟩,x.G⟩ x.s.H (λp hp=>zgf h.inv.head hp) (z4h x.s.H [] h.inv.head h.sixty λy hy s hs=>h.inv.hd y.1 s ⟨y,hy,rfl,hs⟩);exact .cons Y (h3.append h4)
end SX
namespace SX
theorem zgk {mark:Int}{S:List Sr}{x:Sr}(h:S.length<=60)(G:HD.err mark S x=0):(HD.nxt S x).length<=60:=by
 obtain⟨_,_,_,_,J⟩:=HD.z3S G;unfold HD.nxt;rcases J with⟨q,_⟩|⟨q,O⟩
 .rw[if_pos q,List.length_set];exact h
 .rw[if_neg (by rw[q];simp),List.length_insertIdx];split<;>omega
theorem z7A {mark:Int}:∀{l S:List Sr} {i:Nat},S.length<=60->(HD.run mark S l i).2.length<=60
 | [],_,_,h=>h
 | x::l,S,i,h=>by
  unfold HD.run;by_cases e:HD.err mark S x=0
  .rw[if_pos e];exact z7A (zgk h e)
  .rw[if_neg e];exact h
theorem zfb {mark:Int}{S l:List Sr}(h:S.length<=60):(HD.app mark S l).2.length<=60:=by
 unfold HD.app;split
 .exact h
 .have:=z7A (mark:=mark) (l:=l) (i:=0) h;cases e:HD.run mark S l 0 with
  | mk a b=>
   rw[e] at this;cases a with
   | none=>exact this
   | some p=>exact h
theorem zkb (p:List LB.Lab->Int->Bool)(S:List Sr):(HD.kp p S).length<=S.length:=by
 unfold HD.kp;exact qi (eR _ _) (by rw[qz];exact qq _)
def zjO (l:List Sr)(x:St):St:=⟨app l x.s,x.G⟩
theorem zll {x:St}(h:Fit x){l:List Sr}(q:∀y∈l,∀s∈y.2,CL.Rs s):Fit (zjO l x):=
 ⟨z7t h.inv q,h.gn,zfb h.sixty,h.thirty,h.num,h.nx,h.low,h.gok,h.mkr⟩
def zl1 (g:Gn)(x:St):St:=z0Q ⟨x.s.nx,g⟩ x
theorem zg3 {x:St}(h:Fit x)(g:Gn):(zl1 g x).s=del (goN g) x.s:=by
 unfold zl1 z0Q del;have e:x.s.B.map (takeB ⟨x.s.nx,g⟩)=x.s.B.map λb=>{b with S:=HD.kp (goN g) b.S}:=eF λb hb=>by
  unfold takeB;rw[if_pos (h.inv.num b hb)]
 rw[e]
theorem zlj {x:St}(h:Fit x)(g:Gn)(J:zjI ⟨x.s.nx,g⟩):Fit (zl1 g x):=by
 have e:=zg3 h g;refine⟨by rw[e];exact zbo h.inv _,?_,?_,?_,λb hb=>?_,h.nx,λd q=>?_,λd q=>?_,h.mkr⟩
 .show x.s.gn+1=(x.G++[_]).length;rw[q8,h.gn];rfl
 .exact qi (zkb _ _) h.sixty
 .show(x.s.B.map _).length<=30;rw[qz];exact h.thirty
 .obtain⟨c,O,rfl⟩:=qx.1 (show b∈x.s.B.map (takeB ⟨x.s.nx,g⟩) from hb);rw[z5j];exact h.num c O
 .rcases wu.1 (show d∈x.G++[⟨x.s.nx,g⟩] from q) with k|k
  .exact h.low d k
  .rw[qk.1 k];exact Int.le_refl _
 .rcases wu.1 (show d∈x.G++[⟨x.s.nx,g⟩] from q) with k|k
  .exact h.gok d k
  .rw[qk.1 k];exact J
def z6c (t:Int)(x:St):St:=⟨cut t x.s,x.G⟩
theorem zkG {x:St}(h:Fit x)(t:Int)(O:x.s.nx+1<100)(U:x.s.B.length<30)(Y:t<=9223372036854775807):Fit (z6c t x):=by
 have J:=h.nx;refine⟨zbB h.inv t,?_,?_,?_,λb hb=>?_,?_,λd V=>?_,h.gok,?_⟩
 .show(cut t x.s).gn=x.G.length;unfold cut;split<;>exact h.gn
 .show(cut t x.s).H.length<=60;unfold cut;split<;>exact qi (zkb _ _) h.sixty
 .show(cut t x.s).B.length<=30;unfold cut;split
  .exact h.thirty
  .show(x.s.B++[_]).length<=30;rw[q8];exact U
 .have q:b∈(cut t x.s).B:=hb;unfold cut at q;split at q
  .exact h.num b q
  .rcases wu.1 q with k|k
   .exact h.num b k
   .rw[qk.1 k];exact J.1
 .show 0<=(cut t x.s).nx/\(cut t x.s).nx<100;unfold cut;split
  .exact J
  .exact⟨by show 0<=x.s.nx+1;omega,O⟩
 .have:=h.low d V;show d.below<=(cut t x.s).nx;unfold cut;split
  .exact this
  .show d.below<=x.s.nx+1;omega
 .have hm:=h.mkr;have e:(z6c t x).s.mark=max x.s.mark t:=by
   show(cut t x.s).mark=_;unfold cut;split<;>rfl
  rw[e];omega
def z0N (x:St):St:=⟨compact x.s,[]⟩
theorem zbS {x:St}(h:Fit x)(G:x.s.B≠[])(J:x.s.nx+1<100):Fit (z0N x):=by
 have O:=h.nx;refine⟨z3Z h.inv G,rfl,h.sixty,by show 1<=30;omega,λb hb=>?_,⟨by show 0<=x.s.nx+1;omega,J⟩,(λd q=>by cases q),(λd q=>by cases q),h.mkr⟩;rw[qk.1 (show b∈[(⟨x.s.nx,top x.s.B,jns (x.s.B.map (·.S))⟩:Blk)] from hb)];exact O.1
def z1l (t:Int)(x:St):St:=⟨zas t x.s,x.G⟩
theorem ze6 {x:St}(h:Fit x)(t:Int):Fit (z1l t x):=
 ⟨z81 h.inv t,h.gn,h.sixty,qi (eR _ _) h.thirty,λb hb=>h.num b (wE.1 hb).1,h.nx,h.low,h.gok,h.mkr⟩
theorem File.swap {E q:DK.M}{b:Blk}(h:File E b)(e:q (nm b.n.toNat)=E (nm b.n.toNat)):File q b:=by
 obtain⟨old,G,J⟩:=h;exact⟨old,e.trans G,J⟩
theorem Lie.swap {E q:DK.M}{x:St}(h:Lie E x)(e:∀b∈x.s.B,q (nm b.n.toNat)=E (nm b.n.toNat)):Lie q x:=λb hb=>by
 obtain⟨G,h1,J⟩:=h b hb;exact⟨G,h1.swap (e b hb),J⟩
theorem ze5 {E:DK.M}{x:St}(h:Lie E x)(t:Int):Lie E (z1l t x):=λb hb=>h b (wE.1 hb).1
theorem zkD {E:DK.M}{x:St}{b:Blk}(h:Fit x)(hb:b.n=x.s.nx)(q:File E b):∃S0,File E {b with S:=S0}/\b.S=goes b.n x.G S0:=
 ⟨b.S,q,(zaF λd J=>by rw[hb];exact h.low d J).symm⟩
theorem zgZ {E:DK.M}{x:St}(h:Fit x)(J:Lie E x)(t:Int)(O:HD.kp (lo t) x.s.H≠[]->File E ⟨x.s.nx,max x.s.mark t,HD.kp (lo t) x.s.H⟩):Lie E (z6c t x):=by
 intro b hb;have q:b∈(cut t x.s).B:=hb;unfold cut at q;split at q
 .exact J b q
 .rename_i G;rcases wu.1 q with k|k
  .exact J b k
  .obtain rfl:=qk.1 k;exact zkD (x:=x) h rfl (O G)
theorem zbO {E:DK.M}{x:St}(h:File E ⟨x.s.nx,top x.s.B,jns (x.s.B.map (·.S))⟩):Lie E (z0N x):=by
 intro b hb;obtain rfl:=qk.1 (show b∈[(⟨x.s.nx,top x.s.B,jns (x.s.B.map (·.S))⟩:Blk)] from hb);exact⟨_,h,rfl⟩
def Clean (E:DK.M)(x:St):Prop:=∀n,isB n=true->E n≠none->∃b∈x.s.B,n=nm b.n.toNat
theorem Clean.next {E:DK.M}{x:St}(h:Clean E x)(hf:Fit x):E (nm x.s.nx.toNat)=none:=by
 cases e:E (nm x.s.nx.toNat) with
 | none=>rfl
 | some f=>
  obtain⟨b,hb,q⟩:=h _ (za9 _) (by rw[e];simp);have G:=hf.inv.num b hb;have J:=hf.num b hb;have O:=hf.nx;have:=zcr (by omega) (by omega) q;omega
end SX
namespace SX
def txt (n:Nt):ByteArray:=sb (enc n)
def zbe (ns:List Nt):Prop:=WL.Sm (ns.map txt)
def On (c:Nat)(D:DK.M)(x:St):Prop:=∃ns,WL.z8q kpt frs D D (ns.map txt)/\Run D first ns x/\zbe ns/\ns.length<=c
def zey (c:Nat)(D:DK.M)(x:St):Prop:=∃ns,WL.zdi kpt frs D D (ns.map txt)/\Run D first ns x/\zbe ns/\ns.length<=c
theorem z8q.self {E D:DK.M}{ns:List ByteArray}(h:WL.z8q kpt frs E D ns):WL.z8q kpt frs D D ns:=⟨h.ne,h.nk,h.nf,λ_ _ _=>rfl,h.nof,h.kep⟩
theorem zdi.self {E D:DK.M}{ns:List ByteArray}(h:WL.zdi kpt frs E D ns):WL.zdi kpt frs D D ns:=⟨h.ne,h.nk,h.nf,λ_ _ _=>rfl,h.kep⟩
theorem On.mono {c c':Nat}{D:DK.M}{x:St}(h:On c D x)(k:c<=c'):On c' D x:=by
 obtain⟨ns,q,G,J,O⟩:=h;exact⟨ns,q,G,J,qi O k⟩
theorem zey.mono {c c':Nat}{D:DK.M}{x:St}(h:zey c D x)(k:c<=c'):zey c' D x:=by
 obtain⟨ns,q,G,J,O⟩:=h;exact⟨ns,q,G,J,qi O k⟩
theorem run_set {E D:DK.M}{x:St}{ns:List Nt}(h:Run E first ns x)(e:∀n,n≠kpt->n≠frs->D n=E n):Run D first ns x:=
 h.swap λn _=>e _ (zeG _) (zg4 _)
theorem On.start {c:Nat}{D:DK.M}{x:St}(h:On c D x)(k:Int):zey c (DK.start D k) x:=by
 obtain⟨ns,q,h2,G⟩:=h;exact⟨ns,WL.z3B q k,h2.start k,G⟩
theorem On.turn {c:Nat}{D D':DK.M}{x:St}(h:On c D x)(q:D' kpt=D kpt)(G:D' frs=D frs)(e:∀b∈x.s.B,D' (nm b.n.toNat)=D (nm b.n.toNat)):On c D' x:=by
 obtain⟨ns,h1,h2,J⟩:=h;refine⟨ns,h1.turn q G λ_ _ _=>rfl,h2.swap λn O=>?_,J⟩;obtain⟨b,hb,rfl⟩:=qx.1 O;exact e b hb
theorem zmo {c:Nat}{D:DK.M}{x y:St}(h:On c D x){n:Nt}(Y:Step D x n y)(V:(txt n).size<65536){p:Int}(hp: -1<=p):
  (∃D' p',WL.z1V kpt (txt n) D p=(0,D',p')/\On (c+1) D' y/\(∀m,m≠kpt->m≠frs->D' m=D m)/\(p= -1->p'= -1)/\ -1<=p')\/
  (p≠ -1/\∃D',WL.z1V kpt (txt n) D p=(14,D',0)/\∀k,zey (c+1) (DK.start D' k) x\/zey (c+1) (DK.start D' k) y):=by
 obtain⟨ns,h1,h2,O⟩:=h;have G:zbe (ns++[n])/\(ns++[n]).length<=c+1:=by
  refine⟨?_,by rw[q8];have:=O.2;simp;omega⟩;unfold zbe;rw[wK];exact O.1.append (WL.Sm.one V)
 have q:=h2.snoc Y;rcases WL.zjv h1 V hp with⟨D',p',U,J,e3,e4⟩|⟨e0,D',U,J⟩
 .refine .inl ⟨D',p',U,⟨ns++[n],?_,run_set q J.oth,G⟩,J.oth,e3,e4⟩;rw[wK];exact z8q.self J
 .refine .inr ⟨e0,D',U,λk=>?_⟩;rcases J k with e|e
  .exact .inl ⟨ns,zdi.self e,run_set (h2.start k) e.oth,O.1,Nat.le_succ_of_le O.2⟩
  .refine .inr ⟨ns++[n],?_,run_set (q.start k) e.oth,G⟩;rw[wK];exact zdi.self e
theorem zmr {c c':Nat}{D:DK.M}{x y:St}(h:On c D x){ns:List Nt}(O:Run D first ns y)(G:zbe ns/\ns.length<=c'){p:Int}(U: -1<=p):
  (∃D' p',WL.repl kpt frs (WL.joined (ns.map txt)) D p=(0,D',p')/\On c' D' y/\(∀m,m≠kpt->m≠frs->D' m=D m)/\(p= -1->p'= -1)/\ -1<=p')\/
  (p≠ -1/\∃D',WL.repl kpt frs (WL.joined (ns.map txt)) D p=(14,D',0)/\∀k,zey c (DK.start D' k) x):=by
 obtain⟨V,Y,h2,h3⟩:=h;rcases WL.zjA Y (ns.map txt) U with⟨D',p',J,q,e3,e4⟩|⟨e0,D',J,q⟩
 .exact .inl ⟨D',p',J,⟨ns,z8q.self q,run_set O q.oth,G⟩,q.oth,e3,e4⟩
 .exact .inr ⟨e0,D',J,λk=>⟨V,zdi.self (q k),run_set (h2.start k) (q k).oth,h3⟩⟩
def z4m (n s:ByteArray)(D:DK.M)(p:Int):WL.Out:=WL.seq (WL.act 0 n s D p) λD p=>WL.act 1 n qy D p
theorem zmD {c:Nat}{D:DK.M}{x:St}(h:On c D x){n s:ByteArray}(J:DK.named n=true)(U:n≠kpt)(V:n≠frs)(Y:∀b∈x.s.B,nm b.n.toNat≠n)(h0:D n=none){p:Int}(hp: -1<=p):
  (∃p',z4m n s D p=(0,DK.put D n ⟨s,s.size,true⟩,p')/\On c (DK.put D n ⟨s,s.size,true⟩) x/\(p= -1->p'= -1)/\ -1<=p')\/
  (p≠ -1/\∃D',z4m n s D p=(14,D',0)/\∀k,zey c (DK.start D' k) x):=by
 have q:∀f:DK.Fl,On c (DK.put D n f) x:=λf=>h.turn (DK.z0b _ _ _ _ (λe=>U e.symm)) (DK.z0b _ _ _ _ (λe=>V e.symm)) λb hb=>DK.z0b _ _ _ _ (Y b hb)
 unfold z4m;by_cases O:p=0
 .subst O;rw[WL.z3l (λ_=>J) (by omega) (by omega),WL.z5g];exact .inr ⟨by omega,D,rfl,λk=>h.start k⟩
 .rw[WL.z2t (λ_=>J) (by omega) (by omega) O,WL.seq_ok,WL.z3G h0];have G:DK.put D n ⟨s,0,false⟩ n=some ⟨s,0,false⟩:=DK.put_same _ _ _;by_cases p1:p=1
  .subst p1;rw[show DK.dec 1=0 from rfl,WL.z3l (a:=1) (by omega) (by omega) (λ_=>by rw[G];simp)];exact .inr ⟨by omega,_,rfl,λk=>(q _).start k⟩
  .have q1:DK.dec p≠0:=by unfold DK.dec;split<;>omega
   rw[WL.z2t (a:=1) (by omega) (by omega) (λ_=>by rw[G];simp) q1,WL.z2E G,DK.put_put];exact .inl ⟨_,rfl,q _,λe=>by rw[e];rfl,WL.z6O (WL.z6O hp)⟩
def z2D (x:St)(D D':DK.M):Prop:=∀n,D' n=D n\/(D' n=none/\isB n=true/\∀b∈x.s.B,n≠nm b.n.toNat)
theorem z2D.refl (x:St)(D:DK.M):z2D x D D:=λ_=> .inl rfl
theorem z2D.trans {x:St}{D D' q:DK.M}(h:z2D x D D')(k:z2D x D' q):z2D x D q:=λn=>by
 rcases k n with e|e
 .rw[e];exact h n
 .exact .inr e
theorem On.zbF {c:Nat}{D D':DK.M}{x:St}(h:On c D x)(k:z2D x D D'):On c D' x:=by
 refine h.turn ?_ ?_ λb hb=>?_
 .rcases k kpt with e|⟨_,e,_⟩
  .exact e
  .rw[z8C] at e;cases e
 .rcases k frs with e|⟨_,e,_⟩
  .exact e
  .rw[z9f] at e;cases e
 .rcases k (nm b.n.toNat) with e|⟨_,_,e⟩
  .exact e
  .exact absurd rfl (e b hb)
theorem z2D.del {x:St}{D:DK.M}{n:ByteArray}(h:isB n=true)(k:∀b∈x.s.B,n≠nm b.n.toNat):z2D x D (DK.del D n):=λm=>by
 by_cases e:m=n
 .rw[e];exact .inr ⟨DK.z2k _ _,h,k⟩
 .exact .inl (DK.z0A _ _ _ e)
def z6X (x:St)(D:DK.M):Prop:=∀n,isB n=true->(∀b∈x.s.B,n≠nm b.n.toNat)->D n=none
theorem z6X.clean {x:St}{D:DK.M}(h:z6X x D):Clean D x:=λn q G=>by
 rcases Classical.em (∃b∈x.s.B,n=nm b.n.toNat) with k|k
 .exact k
 .exact absurd (h n q λb hb e=>k ⟨b,hb,e⟩) G
end SX
namespace SX
theorem zii {l:List LB.Lab}(h:LB.right l=true)(i:Nat)(hi:i<l.length):(LB.at' l i).1.size<=24/\(LB.at' l i).2.size<=24:=by
 obtain⟨q,G,_⟩:=(of_decide_eq_true h).2.2 i hi;have k1:=of_decide_eq_true q;have J:=of_decide_eq_true G;exact⟨k1.2.1,J.1⟩
theorem z9c {l:List LB.Lab}(h:LB.right l=true):1<=l.length/\l.length<=8:=⟨(of_decide_eq_true h).1,(of_decide_eq_true h).2.1⟩
theorem ziQ {l:List LB.Lab}(h:LB.right l=true):(CD.wL (z2o l)).length<=512:=by
 have key:∀i,i<=l.length->(CD.wL ((z2o l).take i)).length<=64*i:=by
  intro i
  induction i with
  | zero=>intro _;simp[CD.wL]
  | succ i ih=>
   intro hi;have q:=ih (by omega);have G:=zii h i (by omega);rw[zbC l i (by omega),q8,q8,CD.z0S,CD.z0S];have J:(LB.at' l i).1.data.toList.length=(LB.at' l i).1.size:=by rw[qE];rfl
   have O:(LB.at' l i).2.data.toList.length=(LB.at' l i).2.size:=by rw[qE];rfl
   omega
 have q:=key l.length (qq _);rw[qL (by simp[z2o])] at q;have:=(z9c h).2;omega
theorem zgy (l:List CL.Smp):(chE l).length<=10+18*l.length:=by
 have h:=CL.zeV l;have q:=BL.pk_length (CL.chB l);have e:(chE l).length=(BL.pk (CL.chB l)).length:=by simp[chE,zr3]
 rw[e];omega
theorem zck:∀{S:List Sr},(∀x∈S,LB.right x.1=true)->(CD.wS chE (S.map z2B)).length<=540*S.length+18*HD.total S
 | [],_=>by simp[CD.wS]
 | x::S,h=>by
  have G:=zck (S:=S) λy q=>h y (qp _ q)
  have J:=ziQ (h x qd);have O:=zgy x.2;have e:HD.total (x::S)=x.2.length+HD.total S:=by simp[HD.total]
  rw[List.map_cons];show(CD.wN (z2o x.1).length++(CD.wL (z2o x.1)++(CD.wT (chE x.2)++CD.wS chE (S.map z2B)))).length<=_;simp only[q8,CD.z0S,CD.z06,qf];omega
theorem z7Q {S:List Sr}(h:∀x∈S,LB.right x.1=true):(CD.z7y chE (S.map z2B)).length<=8+540*S.length+18*HD.total S:=by
 have q:=zck h;show(CD.wN (S.map z2B).length++CD.wS chE (S.map z2B)).length<=_;rw[q8,CD.z06];omega
theorem zbw (tp old:Int){S:List Sr}(h:∀x∈S,LB.right x.1=true):(sb (BK.bytes tp old S)).size<=24+540*S.length+18*HD.total S:=by
 have q:=z7Q h;rw[z1b];show(CD.wN tp++(CD.wN old++CD.z7y chE (S.map z2B))).length<=_;simp only[q8,CD.z06];omega
theorem z5k {l:List Sr}(h:∀x∈l,LB.right x.1=true):(txt (.came l)).size<=16+540*l.length+18*HD.total l:=by
 have q:=z7Q h;unfold txt;rw[z1b];show(CD.wN 2++CD.z7y chE (l.map z2B)).length<=_;simp only[q8,CD.z06];omega
theorem z5v {α:Type}(f:α->List UInt8)(K:Nat):∀(l:List α),(∀a∈l,(f a).length<=K)->(l.flatMap f).length<=K*l.length
 | [],_=>by simp
 | a::l,h=>by
  have q:=z5v f K l λb hb=>h b (qp _ hb)
  have G:=h a qd;rw[rU,q8,qf,Nat.mul_add];omega
theorem zij (m nx:Int)(ns:List Int)(h:ns.length<=30):(txt (.st m nx ns)).size<=60000:=by
 have q:=z5v CD.wN 8 ns λa _=>Nat.le_of_eq (CD.z06 a)
 unfold txt;rw[z1b];show(CD.wN 1++(CD.wN m++(CD.wN nx++(CD.wN ns.length++ns.flatMap CD.wN)))).length<=_;simp only[q8,CD.z06];omega
theorem z5c {d:Gd}(h:zjI d):(txt (.gone d)).size<=60000:=by
 obtain⟨O,_,_,_,q⟩:=h;have U:=z5v eM 2030 d.g.M λm G=>by
  obtain⟨i,hi,rfl⟩:=List.mem_iff_getElem.1 G;have e:LB.am d.g.M i=d.g.M[i]:=by unfold LB.am;rw[q7,qw hi];rfl
  have J:=q i hi;rw[e] at J;have V:(d.g.M[i]).nm.data.toList.length=(d.g.M[i]).nm.size:=by rw[qE];rfl
  have Y:(d.g.M[i]).vl.data.toList.length=(d.g.M[i]).vl.size:=by rw[qE];rfl
  unfold eM;simp only[q8,CD.z06,CD.z0S];omega
 unfold txt;rw[z1b];show(CD.wN 3++(CD.wN d.below++(CD.wN d.g.fr++(CD.wN d.g.tt++(CD.wN d.g.M.length++d.g.M.flatMap eM))))).length<=_;simp only[q8,CD.z06];omega
theorem zkV (l:List CL.Smp):(chs l).length=(l.length+39)/40:=by simp[chs]
theorem z1i:∀(S:List Sr),40*(pieces S).length<=HD.total S+39*S.length
 | []=>by simp[pieces]
 | x::S=>by
  have q:=z1i S;have e:HD.total (x::S)=x.2.length+HD.total S:=by simp[HD.total]
  have h:(pieces (x::S)).length=(chs x.2).length+(pieces S).length:=by
   unfold pieces;rw[rU,q8,qz]
  rw[e,h,zkV,qf];omega
theorem zbW {x:St}(h:Fit x):∀s∈(z0n x).map txt,s.size<=60000:=λs G=>by
 obtain⟨n,q,rfl⟩:=qx.1 G;rcases List.mem_cons.1 q with rfl|q
 .exact zij _ _ _ (by rw[qz];exact h.thirty)
 rcases wu.1 q with q|q
 .obtain⟨d,J,rfl⟩:=qx.1 q;exact z5c (h.gok d J)
 .obtain⟨p,O,rfl⟩:=qx.1 q;obtain⟨x',U,c,rfl,hc,_⟩:=z3i O;have V:=z5k (l:=[(x'.1,c)]) (λy Y=>by rw[qk.1 Y];exact(h.inv.head.ok x' U).1);have e:HD.total [(x'.1,c)]=c.length:=by simp[HD.total]
  rw[e,List.length_singleton] at V;omega
theorem zfh {x:St}(h:Fit x){k:Nat}(q:x.G.length<=k)(J:HD.total x.s.H<=2000):(z0n x).length<=111+k:=by
 have O:=z1i x.s.H;have U:=h.sixty;unfold z0n;simp only[qf,q8,qz];omega
end SX
section
open Go.RowKit
theorem zhb (x:List LB.Lab)(L:List LB.Lab)(lo so G:Option Addr)(q J sc U:Nat)(w:World)(V:z1w w lo x)(hK:z1w w G L)(Y:x.length<=1000)(h2:L.length<=1000):
  Calls q6 158 #[.agg #[.slice lo x.length q,.slice so J sc],.slice G L.length U] w λe w'=>e= .returned (.int .i64 (LB.cmp x L))/\Below w.heap.size w w':=by
 have h:Below w.heap.size w (w.alloc (.cells #[.slice lo x.length q,.slice so J sc] 93)):=(Below.refl _ w).alloc (qq _) _;have HC:=hid (z3X lo G x L q U (w.alloc (.cells #[.slice lo x.length q,.slice so J sc] 93)) (V.below h) (hK.below h) Y h2);have O:=hid h;clear h V hK;go_enter func158,ntmps158;go_wp2_with fail;refine HC.out.mono ?_;rintro e w2 ⟨rfl,hb⟩;have HB:=hid (z0u O.out hb);clear hb;go_wp2_with fail;go_ret;exact⟨rfl,HB.out⟩
theorem zbQ (ao ko:Option Addr)(S:List Sr)(L:List LB.Lab)(cap kc:Nat)(w:World)(hS:z0r w ao S)(hK:z1w w ko L)(hO:HD.Ord S)(hn:S.length<=100000)(A8:∀i,i<S.length->(z03 S i).1.length<=1000)(hl:L.length<=1000):
  Calls q6 148 #[.slice ao S.length cap,.slice ko L.length kc,.func (.func 158) #[] #[]] w λe w'=>e= .returned (.tuple #[.int .i64 (HD.pos S L:Int),.bool (HD.there S L)])/\Below w.heap.size w w':=by
 have HS:=hid hS;have HO:=hid hO;have A9:=hid A8;have HC:Hid (∀W,Below w.heap.size w W->∀x lo so (lc sn sc:Nat),z1w W lo x->x.length<=1000->Calls q6 158 #[.agg #[.slice lo x.length lc,.slice so sn sc],.slice ko L.length kc] W λe w'=>e= .returned (.int .i64 (LB.cmp x L))/\Below W.heap.size W w'):=λW hW x lo so lc sn sc hx h1=>zhb x L lo so ko lc sn sc kc W hx (hK.below hW) h1 hl
 have Ac:=HD.z2T S L;clear hS hO A8 hK hl;go_enter func148,ntmps148;go_wp2_with fail;go_loopw [9,10] (λti tj wr=>∃i j:Nat,i<=j/\j<=S.length/\ti= .int .i64 i/\tj= .int .i64 j/\(∀k,k<i->LB.cmp (z03 S k).1 L= -1)/\(∀k,j<=k->k<S.length->LB.cmp (z03 S k).1 L≠ -1)/\Below w.heap.size w wr) (λti tj _=>(intOf tj).toNat-(intOf ti).toNat)
 case atStart=>exact⟨0,S.length,by omega,by omega,rfl,rfl,λk hk=>by omega,λk h1 h2=>by omega,Below.refl _ _⟩
 case round=>
  obtain⟨i,j,Ah,Ad,rfl,rfl,h1,h2,A5⟩:=hrel;have H1:=hid h1;have H2:=hid h2;have J:=hid A5;clear h1 h2 A5;by_cases Ai:i<j
  .obtain⟨m,hm⟩:∃m:Nat,m=(i+j)/2:=⟨_,rfl⟩;have A6:m<S.length:=by omega
   obtain⟨b,off,A7,O,lo,lc,so,sc,U,q,hL,_⟩:=HS.out m A6;subst A7;have e0:wr.cell? ⟨b,off+m*2,none⟩=some (.slice lo (z03 S m).1.length lc):=(J.out.cell (p:=⟨b,_,none⟩) O).trans U;have e1:wr.cell? ⟨b,off+m*2+1,none⟩=some (.slice so (z03 S m).2.length sc):=(J.out.cell (p:=⟨b,_,none⟩) O).trans q;have V:=hid (HC.out wr J.out (z03 S m).1 lo so lc (z03 S m).2.length sc (hL.below J.out) (A9.out m A6));clear U q hL;generalize Y:LB.cmp (z03 S m).1 L=cm at*;have G:=hid Y;clear Y;generalize (z03 S m).1.length=ln at*;generalize (z03 S m).2.length=sn at*;have w1:IntKind.i64.wrap ((i:Int)+j)=(i:Int)+j:=by rw[IntKind.wrap_i64];omega
   have Af:((i:Int)+j)/2=(m:Int):=by omega
   have Aj:=hid hm;have Ae:0<=(m:Int)/\(m:Int)<(S.length:Int):=by omega
   have Ak:i<=m:=by omega
   have Al:m<j:=by omega
   clear hm;go_wp2_with fail;refine V.out.mono ?_;rintro e w2 ⟨rfl,A1⟩;have A3:=hid (z0u J.out A1);clear A1 V;by_cases Ag:cm<0
   .go_wp2_with fail;go_roundw
    case rel=>
     have q:LB.cmp (z03 S m).1 L= -1:=by
      rcases LB.z0R.rng (z03 S m).1 L with h|h|h
      .exact h
      .rw[G.out] at h;omega
      .rw[G.out] at h;omega
     refine⟨m+1,j,by omega,Ad,by go_num,rfl,λk hk=>?_,H2.out,A3.out⟩;rcases Nat.lt_or_ge k i with h|h
     .exact H1.out k h
     .rcases uT (Nat.le_of_lt_succ hk) with h3|h3
      .rw[h3];exact q
      .have h4:=HD.z4N HO.out k m h3 A6;exact LB.z0R.tr _ _ _ h4 q
    case measure=>simp[intOf];omega
   .go_wp2_with fail;go_roundw
    case rel=>
     have q:LB.cmp (z03 S m).1 L≠ -1:=λh=>by rw[G.out] at h;omega
     refine⟨i,m,by omega,by omega,rfl,rfl,H1.out,λk h3 h4=>?_,A3.out⟩;rcases uT h3 with h5|h5
     .rw[<-h5];exact q
     .intro h6;exact q (LB.z0R.tr _ _ _ (HD.z4N HO.out m k h5 h4) h6)
    case measure=>simp[intOf];omega
  .have he:i=j:=by omega
   subst he;have A2:i=HD.pos S L:=HD.zge HO.out L i Ad H1.out H2.out;have HP:=hid A2;by_cases A4:i<S.length
   .obtain⟨b,off,A7,O,lo,lc,so,sc,U,q,hL,_⟩:=HS.out i A4;subst A7;have e0:wr.cell? ⟨b,off+i*2,none⟩=some (.slice lo (z03 S i).1.length lc):=(J.out.cell (p:=⟨b,_,none⟩) O).trans U;have e1:wr.cell? ⟨b,off+i*2+1,none⟩=some (.slice so (z03 S i).2.length sc):=(J.out.cell (p:=⟨b,_,none⟩) O).trans q;have V:=hid (HC.out wr J.out (z03 S i).1 lo so lc (z03 S i).2.length sc (hL.below J.out) (A9.out i A4));clear U q hL A2 Ac;generalize Y:LB.cmp (z03 S i).1 L=cm at*;have G:=hid Y;clear Y;generalize (z03 S i).1.length=ln at*;generalize (z03 S i).2.length=sn at*;have Ae:0<=(i:Int)/\(i:Int)<(S.length:Int):=by omega
    go_wp2_with fail;refine V.out.mono ?_;rintro e w2 ⟨rfl,A1⟩;have A3:=hid (z0u J.out A1);clear A1 V;go_wp2_with fail;go_ret2;have ht:HD.there S L=(cm==0):=by
     unfold HD.there;rw[<-HP.out,G.out,Bool.eq_iff_iff,decide_eq_true_iff,beq_iff_eq];exact⟨λh=>h.2,λh=>⟨A4,h⟩⟩
    exact⟨by rw[ht,<-HP.out];rfl,A3.out⟩
   .clear A2 Ac;go_wp2_with fail;go_ret2;have ht:HD.there S L=false:=by
     unfold HD.there;rw[<-HP.out];exact decide_eq_false (λh=>A4 h.1)
    exact⟨by rw[ht,<-HP.out];rfl,J.out⟩
end
section
open Go.RowKit Go.Shelf
attribute [local go_sem] Oper.semAt_some
def chV (b off len j:Nat):Value:= .slice (some ⟨b,off+40*j*2,none⟩) (min 40 (len-40*j)) (min 40 (len-40*j))
def KB (h q:Nat)(W W':World):Prop:=W'.heap[h]? =W.heap[h]? /\W'.heap[q]? =W.heap[q]?
theorem KB.trans {q G:Nat}{A B C:World}(h:KB q G A B)(k:KB q G B C):KB q G A C:=⟨k.1.trans h.1,k.2.trans h.2⟩
theorem zeY (n:Nat)(hn:1<=n)(l G h b off len cap:Nat)(Ac:len<=1000000)(Ad:len<=cap)(J Jx:List Nat->World->Prop)(A5:∀s W k,J s W->J s (W.drewN k))
  (hY:∀pre x W,J pre W->pre.length<(len+39)/40->YieldAt yO (n-1) q6 l #[chV b off len x] W λe W'=>
   (e= .returned (.bool true)/\J (pre++[x]) W'/\KB G h W W')\/(e= .returned (.bool false)/\Jx (pre++[x]) W'))
  (W:World) (U:W.cell? ⟨G,0,none⟩=some (.slice (some ⟨b,off,none⟩) len cap)) (V:W.cell? ⟨h,0,none⟩=some (.int .i64 40)) (h0:J [] W):
  CallsIn yO n q6 195 #[.func (.yield l) #[] #[],.pointer (some ⟨G,0,none⟩),.pointer (some ⟨h,0,none⟩)] W λe W'=>(∃v,e= .returned v)/\
   ((∃ys,ys=qN ((len+39)/40)/\J ys W')\/(∃pre,(∃k,k<=(len+39)/40/\pre=qN k)/\Jx pre W')):=by
 refine callsIn_of_wp func195 rfl trivial ?_ rfl;simp only[ntmps195,List.size_toArray,qf,List.length_nil,Nat.reduceAdd,Nat.reduceSub,Array.replicate_succ,Array.replicate_zero,List.push_toArray,List.append_toArray,r6,List.cons_append]
 gi_wp2
 gi_loopw [4] (λi wr=>∃k:Nat,k<=(len+39)/40/\i= .int .i64 ((40*k:Nat):Int)/\J (qN k) wr/\KB G h W wr)
  (λi _=>len+40-(intOf i).toNat)
 case atStart=>exact⟨0,Nat.zero_le _,rfl,h0,rfl,rfl⟩
 case round=>
  obtain⟨k,hk,rfl,O,q⟩:=hrel;have c1:wr.cell? ⟨G,0,none⟩=some (.slice (some ⟨b,off,none⟩) len cap):=(qj (a:=⟨G,0,none⟩) q.1).trans U;have c2:wr.cell? ⟨h,0,none⟩=some (.int .i64 40):=(qj (a:=⟨h,0,none⟩) q.2).trans V;by_cases Ae:40*k<len
  .clear U V;have Y:chV b off len k= .slice (some ⟨b,off+40*k*2,none⟩) (min 40 (len-40*k)) (min 40 (len-40*k)):=rfl;have A6:k<(len+39)/40:=by omega
   generalize hi:40*k=i at*;have Af:i<=len:=by omega
   have Ag:i<=cap:=by omega
   have Ah:cap≠i:=by omega
   gi_wp2
   refine wpIn_wide.2 ?_
   go_quiet (fail)
   have A7:=A5 _ _ nq O;have A8:KB G h W (wr.drewN nq):=q;have c3:(wr.drewN nq).cell? ⟨G,0,none⟩=some (.slice (some ⟨b,off,none⟩) len cap):=c1;have c4:(wr.drewN nq).cell? ⟨h,0,none⟩=some (.int .i64 40):=c2;clear c1 c2 O q;obtain⟨fn,tmps,A4,body,hy,hR⟩:=hY _ k _ A7 (by rw[List.length_range];exact A6);generalize wr.drewN nq=w2 at*;have hm:(if((len-i:Nat):Int)<40 then((len-i:Nat):Int) else 40)=((min 40 (len-i):Nat):Int):=by split<;>omega
   first | rw[hm] | rw[show min (40:Int) ((len-i:Nat):Int)=((min 40 (len-i):Nat):Int) by omega]
   rw[Y] at hy;obtain⟨m,A1⟩:∃m,m=min 40 (len-i):=⟨_,rfl⟩;rw[<-A1] at hy ⊢;have Ai:m≠0:=by omega
   have Aj:m<=40:=by omega
   have Ak:i+m<=len:=by omega
   have Al:i+m<=cap:=by omega
   clear hm A1 Y hY
   gi_wp2
   refine hR.mono ?_;rintro e W3 (⟨rfl,A9,A2⟩|⟨rfl,A3⟩)
   .have c5:W3.cell? ⟨h,0,none⟩=some (.int .i64 40):=(qj (a:=⟨h,0,none⟩) A2.2).trans c4
    gi_wp2
    go_roundw
    case rel=>exact⟨k+1,by omega,by simp;omega,by rw[oi];exact A9,A8.trans A2⟩
    case measure=>simp[intOf];omega
   .gi_wp2
    refine bodyPost_ret (results_none rfl _ _ _) rfl ?_;exact⟨⟨_,rfl⟩,.inr ⟨_,⟨k+1,by omega,by rw[oi]⟩,A3⟩⟩
  .have he:k=(len+39)/40:=by omega
   gi_wp2
   go_end0
   exact⟨⟨_,rfl⟩,.inl ⟨_,by rw[<-he],O⟩⟩
end
section
open Go.RowKit
namespace TL
def left (l:List Bool):Nat:=(l.filter λb=> !b).length
theorem zcT:∀(l:List Bool) (i:Nat),l[i]? =some false->left (l.set i true)+1=left l
 | [],i,h=>by simp at h
 | b::l,0,h=>by
  simp only[List.getElem?_cons_zero,qR] at h;subst h;simp[left]
 | b::l,i+1,h=>by
  simp only[List.getElem?_cons_succ] at h;have:=zcT l i h;simp only[left,List.set_cons_succ,List.filter_cons] at this ⊢;cases b<;>simp at this ⊢ <;>omega
theorem z9X:∀(l:List Bool),left l=0->∀i,l.getD i true=true
 | [],_,i=>by simp
 | b::l,h,i=>by
  cases b with
  | false=>simp[left] at h
  | true=>
   have q:left l=0:=by simpa [left] using h
   cases i with
   | zero=>simp
   | succ i=>simpa using z9X l q i
section
variable {P : Program} {ops : Array Oper}
def z3c (ops:Array Oper)(i:Nat):Option Tmp:=match ops[i]? with
 | some o=>o.dst
 | none=>none
theorem z8L {i:Nat}{o:Oper}(h:ops[i]? =some o):z3c ops i=o.dst:=by unfold z3c;rw[h]
def z1N (ops:Array Oper)(a:Act)(i:Nat):Value:=match z3c ops i with
 | some d=>a.tmps.getD d undef
 | none=>undef
structure zdn (ops:Array Oper) (a0 a:Act):Prop where
 defers:a.defers=a0.defers
 size:a.tmps.size=a0.tmps.size
 slot:∀t,(∀i,z3c ops i≠some t)->a.tmps.getD t undef=a0.tmps.getD t undef
def z2b (Q:Exit->Act->World->Prop)(e:Exit)(a:Act)(w:World):Prop:=e= .normal/\Q .normal a w
def Does (P:rM)(o:Oper)(a:Act)(w:World)(Φ:Value->World->Prop):Prop:=
 (∃v w',(eS a.eval o).run P w= .ok (.value v) w'/\Φ v w')\/(∃w',(eS a.eval o).run P w= .ok .skip w'/\Φ undef w')\/
 ∃f args w',(eS a.eval o).run P w= .ok (.enter f args) w'/\Calls P f args w' λe h=>∃v,e= .returned v/\Φ v h
theorem Does.wp {o:Oper}{a:Act}{w:World}{Φ:Value->World->Prop}{K:Act->World->Prop}{Q:Exit->Act->World->Prop}(h:Does P o a w Φ)(q:∀v w',Φ v w'->K (a.put o.dst v) w'):o.wp P a w K Q:=by
 unfold Oper.wp;rcases h with⟨v,w',e,h⟩|⟨w',e,h⟩|⟨f,args,w',e,h⟩
 .rw[e];exact q _ _ h
 .rw[e];exact q _ _ h
 .rw[e];refine Calls.mono h λO G J=>?_
  obtain⟨v,rfl,h⟩:=J;exact q _ _ h
def waits (o:Oper)(j:Nat):Bool:=o.after.any λe=>rp .any e&&e.on==j
theorem z3M {o:Oper}{j:Nat}(h:waits o j=true):∃e∈o.after,rp .any e=true/\e.on=j:=by
 unfold waits at h;rw[Array.any_eq_true'] at h;obtain⟨e,G,q⟩:=h;simp only[qI,beq_iff_eq] at q;exact⟨e,G,q⟩
def okB (ops:Array Oper):Bool:=
 (qN ops.size).all λi=>match ops[i]? with
  | some o=>(match o.guard with | none=>true | some (k,_)=>waits o k)&&(o.after.all λe=> !Region.binds .any e||decide (e.on<i))&&((qN ops.size).all λj=>decide (j=i)||match o.dst,z3c ops j with | some d,some d'=>decide (d≠d') | _,_=>true)
  | none=>true
theorem z4H (h:okB ops=true){i:Nat}{o:Oper}(hi:ops[i]? =some o):(∀k b,o.guard=some (k,b)->waits o k=true)/\(∀e∈o.after,rp .any e=true->e.on<i)/\∀j,j≠i->∀d,o.dst=some d->z3c ops j≠some d:=by
 have O:i<ops.size:=(eY.1 hi).1;unfold okB at h;rw[ri] at h;have G:=h i (yj.2 O);rw[hi] at G;simp only[qI] at G;obtain⟨⟨G,V⟩,Y⟩:=G;refine⟨λk b hg=>?_,λe he hb=>?_,λj hj d hd e=>?_⟩
 .rw[hg] at G;exact G
 .rw[Array.all_eq_true_iff_forall_mem] at V;have J:=V e he;rw[hb] at J;simpa using J
 .have U:j<ops.size:=by
   rcases hq:ops[j]? with _|q
   .unfold z3c at e;rw[hq] at e;cases e
   .exact(eY.1 hq).1
  rw[ri] at Y;have J:=Y j (yj.2 U);rw[hd,e] at J;simp[hj] at J
theorem zdn.put {a0 a:Act}(h:zdn ops a0 a){i:Nat}{o:Oper}(hi:ops[i]? =some o)(v:Value):zdn ops a0 (a.put o.dst v):=by
 rcases hd:o.dst with _|d
 .exact h
 .refine⟨h.defers,by simp[yE,h.size],λt G=>?_⟩;have q:d≠t:=λe=>G i (by rw[z8L hi,hd,e])
  rw[<-h.slot t G];simp[yE,q]
theorem zeZ (h:okB ops=true){i:Nat}{o:Oper}(hi:ops[i]? =some o)(a:Act)(v:Value)(j:Nat)(J:j≠i):z1N ops (a.put o.dst v) j=z1N ops a j:=by
 unfold z1N;rcases hd:z3c ops j with _|d
 .rfl
 .rcases hd2:o.dst with _|G
  .rfl
  .have q:G≠d:=λe=>(z4H h hi).2.2 j J G hd2 (by rw[hd,e])
   simp[yE,q]
def seen (o:Oper)(v:Value):Value:=match o.dst with
 | some _=>v
 | none=>undef
theorem zds {i:Nat}{o:Oper}(hi:ops[i]? =some o)(a:Act)(v:Value)(h:∀d,o.dst=some d->d<a.tmps.size):z1N ops (a.put o.dst v) i=seen o v:=by
 unfold z1N seen;rw[z8L hi];rcases hq:o.dst with _|d
 .rfl
 .simp[yE,h d hq]
abbrev upd (L:Nat->Bool)(i:Nat):Nat->Bool:=λj=>if j=i then true else L j
structure Inv (ops:Array Oper) (a0:Act) (C:(Nat->Bool)->World->Prop) (T:(Nat->Bool)->Nat->World->Value->Prop) (listed:Array Bool) (L:Nat->Bool) (a:Act) (w:World):Prop where
 like:zdn ops a0 a
 cls:C L w
 told:∀i,i<ops.size->L i=true->T L i w (z1N ops a i)
 size:listed.size=ops.size
 same:∀i,i<ops.size->listed.getD i true=L i
 clos:∀j o,ops[j]? =some o->L j=true->∀e∈o.after,rp .any e=true->L e.on=true
theorem ziI {a:Act}{k:Nat}{b:Bool}(h:z1N ops a k= .bool b):tz ops a.tmps k=some b:=by
 unfold z1N z3c at h;unfold tz;rcases hk:ops[k]? with _|o
 .rw[hk] at h;cases h
 .rw[hk] at h;simp only at h;rcases hd:o.dst with _|d
  .rw[hd] at h;cases h
  .rw[hd] at h;simp only[Option.bind_some,hd];simp only[Array.getD_eq_getD_getElem?] at h;rcases hq:a.tmps[d]? with _|v
   .rw[hq] at h;cases h
   .rw[hq] at h;simp only[Option.getD_some] at h;subst h;rfl
theorem zio {a0:Act}{Q:Exit->Act->World->Prop}(C:(Nat->Bool)->World->Prop)(T:(Nat->Bool)->Nat->World->Value->Prop)(V:okB ops=true)(hd:∀i d,z3c ops i=some d->d<a0.tmps.size)(hg:∀(i:Nat) (o:Oper) (k:Nat) (b:Bool),ops[i]? =some o->o.guard=some (k,b)->∀L w v,T L k w v->v= .bool b)
  (A5:∀i o,ops[i]? =some o->∀L a w,L i=false->(∀j Y,ops[j]? =some Y->waits Y i=true->L j=false)->(∀j Y,ops[j]? =some Y->L j=true->∀k,waits Y k=true->L k=true)->zdn ops a0 a->C L w->(∀e∈o.after,rp .any e=true->L e.on=true/\T L e.on w (z1N ops a e.on))->
   Does P o a w λv w'=>C (upd L i) w'/\T (upd L i) i w' (seen o v)/\∀j,j≠i->L j=true->T L j w (z1N ops a j)->T (upd L i) j w' (z1N ops a j))
  (A8:∀L a w,(∀i,i<ops.size->L i=true)->zdn ops a0 a->C L w->(∀i,i<ops.size->T L i w (z1N ops a i))->Q .normal a w):
  ∀(fuel:Nat) (listed:Array Bool) (L:Nat->Bool) (a:Act) (w:World),left listed.toList<=fuel->Inv ops a0 C T listed L a w->wpAny P .any ops (z2b Q) fuel listed a w:=by
 have fin:∀(listed:Array Bool) (L:Nat->Bool) (a:Act) (w:World),Inv ops a0 C T listed L a w->wm .any ops listed=[]->z2b Q .normal a w:=by
  intro listed L a w h hr;have all:∀n i,i<n->i<ops.size->L i=true:=by
   intro n
   induction n with
   | zero=>intro i hi;omega
   | succ n ih=>
    intro i hi hs;rcases hL:L i with _|_
    .exfalso;have hm:i∈wm .any ops listed:=oQ.2 ⟨by rw[h.same i hs,hL],ops[i],by simp[hs],λe J hb=>by
      have h1:=(z4H V (i:=i) (o:=ops[i]) (by simp[hs])).2.1 e J hb;have O:=ih e.on (by omega) (by omega);have h3:=h.same e.on (by omega);rw[O] at h3;have h4:e.on<listed.size:=by rw[h.size];omega
      simp[h4] at h3 ⊢;exact h3⟩
     rw[hr] at hm;cases hm
    .rfl
  exact⟨rfl,A8 L a w (λi hi=>all (i+1) i (by omega) hi) h.like h.cls (λi hi=>h.told i hi (all (i+1) i (by omega) hi))⟩
 intro fuel
 induction fuel with
 | zero=>
  intro listed L a w hf h;have hr:wm .any ops listed=[]:=by
   rcases hr:wm .any ops listed with _|⟨i,r⟩
   .rfl
   .exfalso;have hm:i∈wm .any ops listed:=by rw[hr];simp
    have h1:=(oQ.1 hm).1;have O:=z9X listed.toList (by omega) i;simp at h1 O;rw[h1] at O;cases O
  exact⟨hr,fin listed L a w h hr⟩
 | succ fuel ih=>
  intro listed L a w hf h;refine⟨fin listed L a w h,λi hi=>?_⟩;obtain⟨h1,o,U,A2⟩:=oQ.1 hi;have A9:i<ops.size:=(eY.1 U).1;have Ac:L i=false:=by rw[<-h.same i A9];exact h1
  have Ad:i<listed.size:=by rw[h.size];exact A9
  have A3:∀e∈o.after,rp .any e=true->L e.on=true/\T L e.on w (z1N ops a e.on):=λe J hb=>by
   have O:=A2 e J hb;have h3:=(z4H V U).2.1 e J hb;have h4:e.on<listed.size:=by rw[h.size];omega
   have h5:L e.on=true:=by rw[<-h.same e.on (by omega)];simp[h4] at O ⊢;exact O
   exact⟨h5,h.told e.on (by omega) h5⟩
  have hw:wy o (tz ops a.tmps)=true:=by
   unfold wy;rcases hgd:o.guard with _|⟨k,b⟩
   .rfl
   .obtain⟨e,J,hb,A6⟩:=z3M ((z4H V U).1 k b hgd);have h6:=(A3 e J hb).2;rw[A6] at h6;show(tz ops a.tmps k==some b)=true;rw[ziI (hg i o k b U hgd L w _ h6)];simp
  unfold wpOp;simp only[U,hw,if_true];refine .inl (Does.wp (A5 i o U L a w Ac (λj Y G Ae=>by
   obtain⟨e,J,hb,A1⟩:=z3M Ae;rcases hq:L j with _|_
   .rfl
   .have:=h.clos j Y G hq e J hb;rw[A1,Ac] at this;cases this) (λj Y G hq k hk=>by
   obtain⟨e,J,hb,A6⟩:=z3M hk;rw[<-A6];exact h.clos j Y G hq e J hb) h.like h.cls A3) λv w' hv=>?_)
  .obtain⟨v1,v2,v3⟩:=hv;refine ih (listed.setIfInBounds i true) (upd L i) _ _ ?_ ⟨h.like.put U v,v1,λj hj A7=>?_,by simp[h.size],λj hj=>?_,λj Y G A7 e J hb=>?_⟩
   .have O:listed.toList[i]? =some false:=by simp[Ad] at h1 ⊢;exact h1
    have h3:=zcT listed.toList i O;have h4:(listed.setIfInBounds i true).toList=listed.toList.set i true:=by simp
    rw[h4];omega
   .by_cases q:j=i
    .subst q;rw[zds U a v (λd Af=>by rw[h.like.size];exact hd j d (by rw[z8L U,Af]))];exact v2
    .rw[zeZ V U a v j q];have A4:L j=true:=by simpa [upd,q] using A7
     exact v3 j q A4 (h.told j hj A4)
   .by_cases q:j=i
    .subst q;simp[upd,Ad]
    .have Ag:j<listed.size:=by rw[h.size];exact hj
     have:=h.same j hj;simp only[upd,if_neg q];rw[<-this];exact getD_set_ne true (λe=>q e.symm)
   .by_cases A1:e.on=i
    .simp[upd,A1]
    .simp only[upd,if_neg A1];by_cases q:j=i
     .subst q;rw[U] at G;cases G;have O:=A2 e J hb;have h3:=(z4H V U).2.1 e J hb;have h4:e.on<listed.size:=by rw[h.size];omega
      rw[<-h.same e.on (by omega)];simp[h4] at O ⊢;exact O
     .exact h.clos j Y G (by simpa [upd,q] using A7) e J hb
theorem z7K {O:Nat}{a0:Act}{w:World}{Q:Exit->Act->World->Prop}(C:(Nat->Bool)->World->Prop)(T:(Nat->Bool)->Nat->World->Value->Prop)(U:P.follows .mixedOrders=true)(J:okB ops=true)(V:∀i d,z3c ops i=some d->d<a0.tmps.size)(Y:∀(i:Nat) (o:Oper) (k:Nat) (b:Bool),ops[i]? =some o->o.guard=some (k,b)->∀L w v,T L k w v->v= .bool b)
  (hC:C (λ_=>false) w.drew)
  (q:∀i o,ops[i]? =some o->∀L a w,L i=false->(∀j o',ops[j]? =some o'->waits o' i=true->L j=false)->(∀j o',ops[j]? =some o'->L j=true->∀k,waits o' k=true->L k=true)->zdn ops a0 a->C L w->(∀e∈o.after,rp .any e=true->L e.on=true/\T L e.on w (z1N ops a e.on))->
   Does P o a w λv w'=>C (upd L i) w'/\T (upd L i) i w' (seen o v)/\∀j,j≠i->L j=true->T L j w (z1N ops a j)->T (upd L i) j w' (z1N ops a j))
  (G:∀L a w,(∀i,i<ops.size->L i=true)->zdn ops a0 a->C L w->(∀i,i<ops.size->T L i w (z1N ops a i))->Q .normal a w):(yW O ops true).wp P Q a0 w:=by
 refine Code.wp_mono (Q:=z2b Q) (λe a w h=>by obtain⟨rfl,h⟩:=h;exact h) (wp_region_any U ?_);refine zio C T J V Y q G ops.size _ (λ_=>false) a0 w.drew ?_ ⟨⟨rfl,rfl,λ_ _=>rfl⟩,hC,λi _ h=>(by cases h),by simp,λi hi=>by simp[hi],λj o _ h=>(by cases h)⟩;unfold left;refine qi (eR _ _) ?_;simp
def zkO (ops:Array Oper)(t:Tmp):Bool:=(qN ops.size).all λi=> !(z3c ops i==some t)
theorem zdu {t:Tmp}(h:zkO ops t=true)(i:Nat):z3c ops i≠some t:=by
 intro e;unfold zkO at h;rw[ri] at h;have hi:i<ops.size:=by
  unfold z3c at e;rcases hq:ops[i]? with _|q
  .rw[hq] at e;cases e
  .exact(eY.1 hq).1
 have:=h i (yj.2 hi);rw[e] at this;simp at this
theorem zdn.keeps {a0 a:Act}(h:zdn ops a0 a)(t:Tmp)(hb:zkO ops t=true):a.eval (.tmp t)=a0.eval (.tmp t):=h.slot t (zdu hb)
def zaQ (f:Tmp->Value):List Tmp->Act->Act
 | [],a=>a
 | d::ds,a=>zaQ f ds (a.put (some d) (f d))
theorem z6U (f:Tmp->Value):∀(h:List Tmp) (a:Act),(zaQ f h a).defers=a.defers
 | [],_=>rfl
 | _::h,_=>(z6U f h _).trans rfl
theorem z9S (f:Tmp->Value):∀(h:List Tmp) (a:Act),(zaQ f h a).tmps.size=a.tmps.size
 | [],_=>rfl
 | d::h,a=>(z9S f h _).trans (by simp[yE])
theorem zd6 (f:Tmp->Value):∀(q:List Tmp) (a:Act) (t:Tmp),t<a.tmps.size->(zaQ f q a).tmps.getD t undef=if t∈q then f t else a.tmps.getD t undef
 | [],a,t,_=>by simp[zaQ]
 | d::q,a,t,h=>by
  unfold zaQ;rw[zd6 f q _ t (by simpa [yE] using h)];by_cases G:t∈q
  .simp[G]
  .by_cases J:t=d
   .subst J;simp[G,yE,h]
   .simp[G,J,yE,Ne.symm J]
def zgm (ops:Array Oper)(ds:List Tmp):Bool:=(qN ops.size).all λi=>match z3c ops i with
 | some d=>ds.contains d
 | none=>true
theorem z8k {G:List Tmp}(h:zgm ops G=true)(i:Nat)(d:Tmp)(e:z3c ops i=some d):d∈G:=by
 unfold zgm at h;rw[ri] at h;have hi:i<ops.size:=by
  unfold z3c at e;rcases hq:ops[i]? with _|q
  .rw[hq] at e;cases e
  .exact(eY.1 hq).1
 have:=h i (yj.2 hi);rw[e] at this;simpa using this
theorem zdn.fill {a0 a:Act}(h:zdn ops a0 a)(q:List Tmp)(J:zgm ops q=true):a=zaQ (λd=>a.eval (.tmp d)) q a0:=by
 have O:a.tmps=(zaQ (λd=>a.eval (.tmp d)) q a0).tmps:=by
  apply Array.ext
  .rw[z9S,h.size]
  .intro t G U;have hg:=zd6 (λd=>a.eval (.tmp d)) q a0 t (by rw[<-h.size];exact G);have e1:(zaQ (λd=>a.eval (.tmp d)) q a0).tmps.getD t undef=(zaQ (λd=>a.eval (.tmp d)) q a0).tmps[t]:=by simp[U]
   have e2:a.tmps.getD t undef=a.tmps[t]:=by simp[G]
   rw[<-e1,hg,<-e2];by_cases V:t∈q
   .rw[if_pos V];rfl
   .rw[if_neg V];exact h.slot t (λi e=>V (z8k J i t e))
 have Y:a.defers=(zaQ (λd=>a.eval (.tmp d)) q a0).defers:=by rw[z6U,h.defers]
 cases a;cases hq:zaQ (λd=>Act.eval _ (.tmp d)) q a0;rw[hq] at O Y;simp only at O Y;rw[O,Y]
def znR (ops:Array Oper)(f:Tmp->Value)(i:Nat):Value:=match z3c ops i with
 | some d=>f d
 | none=>undef
theorem zgR {α:Type}{p:Nat->α->Prop}:∀i o,([]:List α)[i]? =some o->p i o:=λi o h=>by simp at h
theorem z0i {α:Type}{p:Nat->α->Prop}{x:α}{xs:List α}(q:p 0 x)(h:∀i o,xs[i]? =some o->p (i+1) o):∀i o,(x::xs)[i]? =some o->p i o
 | 0,o,e=>by simp at e;subst e;exact q
 | i+1,o,e=>h i o (by simpa using e)
theorem zj2 {l:List Oper}{id:Nat}{a0:Act}{w:World}{Q:Exit->Act->World->Prop}(ds:List Tmp)(C:(Nat->Bool)->World->Prop)(T:(Nat->Bool)->Nat->World->Value->Prop)(hm:P.follows .mixedOrders=true)(A1:okB l.toArray=true)(O:zgm l.toArray ds=true)(hg:∀(i:Nat) (o:Oper) (k:Nat) (b:Bool),l[i]? =some o->o.guard=some (k,b)->∀L w v,T L k w v->v= .bool b)(n:Nat)(hn:a0.tmps.size=n)(A2:ds.all (λd=>decide (d<n))=true)
  (hC:C (λ_=>false) w.drew)
  (G:∀i o,l[i]? =some o->∀L a w,L i=false->(∀j q,l[j]? =some q->waits q i=true->L j=false)->(∀j q,l[j]? =some q->L j=true->∀k,waits q k=true->L k=true)->zdn l.toArray a0 a->C L w->(∀j,waits o j=true->L j=true/\T L j w (z1N l.toArray a j))->
   Does P o a w λv w'=>C (upd L i) w'/\T (upd L i) i w' (seen o v)/\∀j,j≠i->L j=true->T L j w (z1N l.toArray a j)->T (upd L i) j w' (z1N l.toArray a j))
  (U:∀L f w,(∀i,i<l.length->L i=true)->C L w->(∀i,i<l.length->T L i w (znR l.toArray f i))->Q .normal (zaQ f ds a0) w):(yW id l.toArray true).wp P Q a0 w:=by
 refine z7K C T hm A1 (λi d e=>by rw[hn];exact of_decide_eq_true (ri.1 A2 d (z8k O i d e))) (λi o k b hi=>hg i o k b (by simpa using hi)) hC (λi o ho L a w hL V A3 h hc Y=>G i o (by simpa using ho) L a w hL (λj q J=>V j q (by simpa using J)) (λj q J=>A3 j q (by simpa using J)) h hc λj hj=>?_) (λL a w hL h hc hT=>?_)
 .obtain⟨e,he,h2,h3⟩:=z3M hj;subst h3;exact Y e he h2
 .rw[h.fill ds O];exact U L _ w (λi hi=>hL i (by simpa using hi)) hc (λi hi=>hT i (by simpa using hi))
theorem zbu {l:List Oper}{Y:Nat}{a0:Act}{w:World}{Q:Exit->Act->World->Prop}(ds:List Tmp)(C:(Nat->Bool)->World->Prop)(T:(Nat->Bool)->Nat->World->Value->Prop)(hm:P.follows .mixedOrders=true)(q:(okB l.toArray&&l.all λo=>o.guard.isNone)=true)(J:zgm l.toArray ds=true)(n:Nat)(hn:a0.tmps.size=n)(O:ds.all (λd=>decide (d<n))=true)
  (hC:C (λ_=>false) w.drew)
  (h:∀i o,l[i]? =some o->∀L a w,L i=false->(∀j o',l[j]? =some o'->waits o' i=true->L j=false)->(∀j o',l[j]? =some o'->L j=true->∀k,waits o' k=true->L k=true)->zdn l.toArray a0 a->C L w->(∀j,waits o j=true->L j=true/\T L j w (z1N l.toArray a j))->
   Does P o a w λv w'=>C (upd L i) w'/\T (upd L i) i w' (seen o v)/\∀j,j≠i->L j=true->T L j w (z1N l.toArray a j)->T (upd L i) j w' (z1N l.toArray a j))
  (G:∀L f w,(∀i,i<l.length->L i=true)->C L w->(∀i,i<l.length->T L i w (znR l.toArray f i))->Q .normal (zaQ f ds a0) w):(yW Y l.toArray true).wp P Q a0 w:=
 zj2 ds C T hm (ik.1 q).1 J (λi o k b hi U=>by
  have V:=ri.1 (ik.1 q).2 o (List.mem_of_getElem? hi);rw[U] at V;cases V) n hn O hC h G
def reach (l:List Oper):Nat->Nat->Nat->Bool
 | 0,j,k=>decide (j=k)
 | n+1,j,k=>decide (j=k)||match l[j]? with
  | some o=>(qN j).any λi=>waits o i&&reach l n i k
  | none=>false
theorem z7M {l:List Oper}{L:Nat->Bool}(q:∀j o',l[j]? =some o'->L j=true->∀k,waits o' k=true->L k=true):∀(n j k:Nat),reach l n j k=true->L j=true->L k=true
 | 0,j,k,h,hj=>by
  unfold reach at h;rw[<-of_decide_eq_true h];exact hj
 | n+1,j,k,h,hj=>by
  unfold reach at h;rcases hq:l[j]? with _|o
  .rw[hq] at h;simp only[Bool.or_false] at h;rw[<-of_decide_eq_true h];exact hj
  .rw[hq] at h;simp only[Bool.or_eq_true,List.any_eq_true,qI] at h;rcases h with h|⟨i,_,G,J⟩
   .rw[<-of_decide_eq_true h];exact hj
   .exact z7M q n i k J (q j o hq hj i G)
theorem z0v {l:List Oper}{L:Nat->Bool}(q:∀j o',l[j]? =some o'->L j=true->∀k,waits o' k=true->L k=true)(n j k:Nat)(h:reach l n j k=true)(G:L k=false):L j=false:=by
 rcases hq:L j with _|_
 .rfl
 .rw[z7M q n j k h hq] at G;cases G
section
variable {o : Oper} {a : Act} {w : World} {Φ : Value → World → Prop}
theorem Does.val {v:Value}{w':World}(e:(eS a.eval o).run P w= .ok (.value v) w')(h:Φ v w'):Does P o a w Φ:= .inl ⟨v,w',e,h⟩
theorem Does.load {t:qn}{x:r9}{u v:Value}(q:o.op= .load t x)(G:a.eval x=u)(J:(wZ t u).run P w= .ok v w)(h:Φ v w):Does P o a w Φ:=
 .val (by unfold eS;rw[q];simp[G,J]) h
theorem Does.field {t:qn}{x:r9}{k:Nat}{u v:Value}(q:o.op= .fieldAddr t x k)(G:a.eval x=u)(J:(Instr.fieldAt t u k).run P w= .ok v w)(h:Φ v w):Does P o a w Φ:=
 .val (by unfold eS;rw[q];simp[G,J]) h
theorem Does.move {x:r9}{u:Value}(q:o.op= .move x)(G:a.eval x=u)(h:Φ u w):Does P o a w Φ:=
 .val (by unfold eS;rw[q];simp[G]) h
theorem Does.store {t:qn}{x y:r9}{u k:Value}{w':World}(q:o.op= .store t x y)(G:a.eval x=u)(J:a.eval y=k)(O:(Instr.storeAt t u k).run P w= .ok () w')(h:Φ undef w'):Does P o a w Φ:=
 .inr (.inl ⟨w',by unfold eS;rw[q];simp[G,J,O],h⟩)
theorem Does.zm6 {t:qn}{n:Nat}{parts:Array (Nat×r9)}{ps:Array (Nat×Value)}{v:Value}{w':World}(q:o.op= .buildSlice t n parts)(G:(parts.map λ(i,x)=>(i,a.eval x))=ps)(J:(Instr.buildSlice t n ps).run P w= .ok v w')(h:Φ v w'):Does P o a w Φ:=
 .val (by unfold eS;rw[q];simp only[G];simp[J]) h
theorem Does.build {t:qn}{parts:Array (Nat×r9)}{ps:Array (Nat×Value)}{v:Value}(q:o.op= .build t parts)(G:(parts.map λ(i,x)=>(i,a.eval x))=ps)(J:(Instr.build t ps).run P w= .ok v w)(h:Φ v w):Does P o a w Φ:=
 .val (by unfold eS;rw[q];simp only[G];simp[J]) h
theorem Does.append {d x:r9}{q G:qn}{u k v:Value}{w':World}(J:o.op= .call {callee:= .builtin .append,args:=#[d,x],argTypes:=#[q,G]}) (O:a.eval d=u) (U:a.eval x=k) (V:(Builtin.append_ #[q,G] o.type #[u,k]).run P w= .ok v w') (h:Φ v w'):Does P o a w Φ:=
 .val (by simp[eS,J,resolve,invoke,builtin,O,U,V,Result.andThen]) h
theorem Does.call {f:FuncId}{args:Array Value}(e:(eS a.eval o).run P w= .ok (.enter f args) w)(h:Calls P f args w λe w'=>∃v,e= .returned v/\Φ v w'):Does P o a w Φ:= .inr (.inr ⟨f,args,w,e,h⟩)
end
end
end TL
end
end Go.Proofs.YtemeblgngidldaaGreatDoor
