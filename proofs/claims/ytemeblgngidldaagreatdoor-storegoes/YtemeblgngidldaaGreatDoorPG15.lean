/- Texts put together and made smaller by program: CsSameK SoGs BkOneS SoStd SoGoes SoGoAll HdOpenC BkOpenS SoPOpen. -/
import Derived.Test.YtemeblgngidldaaGreatDoorPG14
import Derived.ProofKit
import Derived.Deep.SlicePairs
import Derived.Carry
set_option linter.unusedVariables false
set_option linter.unusedSimpArgs false
set_option maxRecDepth 100000
set_option maxHeartbeats 12800000
open And renaming intro->qv
open ByteArray renaming empty->qy
open Go renaming heap_alloc_new->qu,TypeId->qn,MemPlace->yH
open Go.Addr renaming add->rz
open Go.DataW renaming Trod->td,trod_string->tW,trod_int->r8,trod_struct->tE
open Go.Deep renaming open_slice_pairs->ig,choose_lt->tg,open_slice->eP,add_add->uF
open Go.Instr renaming indexAt->yf,loadAt->wZ
open Go.IntKind renaming i64->qW
open Go.Lit renaming int->rX
open Go.Value renaming cells->wQ
open Go.World renaming cell?_spot->ry,block_lt_of_cell?->qG,cells?_some->yJ
open List renaming range->qN,mem_map->qx
open List.cons renaming injEq->tG
open Nat renaming le_refl->qq,le_succ->wP,lt_of_lt_of_le->qe,zero_le->qh
open Go.Proofs.Tryz renaming prog->q6
open Go.Proofs.Tryz
namespace Go.Proofs.YtemeblgngidldaaGreatDoor
section
open Go.RowKit
theorem zi9 (a:List LB.Lab):LB.cmp a a=0:=LB.zc3 a a rfl (λ_ _=>(LB.cL_ord.zero _ _).2 rfl)
theorem zhQ (q G:Option Addr)(a:List CL.Smp)(J O:Nat)(w:World)(U:z1F w q a)(V:z1F w G a)(Y:a.length<=1000000):
  Calls q6 40 #[.slice q a.length J,.slice G a.length O] w λe w'=>e= .returned (.bool true)/\Below w.heap.size w w':=by
 have h:=zhB q G a a J O w U V (by omega);rw[decide_eq_true rfl] at h;exact h
theorem z5P (b off n c i:Nat)(h:i<n)(w:World):(yf 39 (.slice (some ⟨b,off,none⟩) n c) (.int .i64 (i:Int))).run q6 w= .ok (.pointer (some ⟨b,off+i*2,none⟩)) w:=by
 rw[run_indexAt_slice (P:=q6) w 39 ⟨b,off,none⟩ n c .i64 (i:Int) (by kernel_rfl),if_pos (by omega)];have G:(sizeOf (q6.elem 39)).run q6 w= .ok 2 w:=by kernel_rfl
 have e:(⟨b,off,none⟩:Addr).add (i*2)=⟨b,off+i*2,none⟩:=by
  unfold rz;by_cases q:i*2=0
  .rw[q];simp
  .simp[q]
 rw[G];show Result.ok (Value.pointer (some ((⟨b,off,none⟩:Addr).add (i*2)))) w=_;rw[e]
theorem zcb (b k:Nat)(q:Option Addr)(n c:Nat)(w:World)(h:w.cell? ⟨b,k,none⟩=some (.slice q n c)):(wZ 90 (.pointer (some ⟨b,k,none⟩))).run q6 w= .ok (.slice q n c) w:=by
 have G:(q6.info? 90).map (·.size)=some 1:=by kernel_rfl
 go_simp
theorem zce (b k:Nat)(q:Option Addr)(n c:Nat)(w:World)(h:w.cell? ⟨b,k,none⟩=some (.slice q n c)):(wZ 91 (.pointer (some ⟨b,k,none⟩))).run q6 w= .ok (.slice q n c) w:=by
 have G:(q6.info? 91).map (·.size)=some 1:=by kernel_rfl
 go_simp
theorem z6V (ao bo:Option Addr)(l:List Sr)(ca cb:Nat)(w:World)(hA:z0x w ao l)(hB:z0x w bo l)(hl:zjO l):
  Calls q6 12 #[.slice ao l.length ca,.slice bo l.length cb] w λe w'=>e= .returned (.bool true)/\Below w.heap.size w w':=by
 have HA:=hid hA;have Ai:=hid hB;have HF:=hid hl;have Ap:=hl.1;clear hA hB hl;go_enter func12,ntmps12;go_wp2;go_loopw [5] (λti wr=>∃i:Nat,i<=l.length/\ti= .int .i64 i/\Below w.heap.size w wr) (λti _=>l.length-(intOf ti).toNat)
 case atStart=>exact⟨0,by omega,rfl,Below.refl _ _⟩
 case round=>
  obtain⟨i,hi,rfl,O⟩:=hrel;have A4:=hid O;have Aq:=O.size;by_cases J:i<l.length
  .obtain⟨b1,off,Aj,A5,lo,lc,so,sc,A6,A7,A8,A9⟩:=HA.out i J;subst Aj;obtain⟨b2,q,Ak,A2,U,V,Y,A1,Ac,Ad,Ae,Af⟩:=Ai.out i J;subst Ak;obtain⟨A3,Ag⟩:=HF.out.2 i J;have G:Hid (∀W:World,Below w.heap.size w W->W.cell? ⟨b1,off+i*2,none⟩=some (.slice lo (z04 l i).1.length lc)/\W.cell? ⟨b2,q+i*2,none⟩=some (.slice U (z04 l i).1.length V)/\W.cell? ⟨b1,off+i*2+1,none⟩=some (.slice so (z04 l i).2.length sc)/\W.cell? ⟨b2,q+i*2+1,none⟩=some (.slice Y (z04 l i).2.length A1)):=λW hb=>⟨(hb.cell (p:=⟨b1,off+i*2,none⟩) A5).trans A6,(hb.cell (p:=⟨b2,q+i*2,none⟩) A2).trans Ac,(hb.cell (p:=⟨b1,off+i*2+1,none⟩) A5).trans A7,(hb.cell (p:=⟨b2,q+i*2+1,none⟩) A2).trans Ad⟩
   have Al:Hid (∀W,Below w.heap.size w W->Calls q6 39 #[.slice lo (z04 l i).1.length lc,.slice U (z04 l i).1.length V] W λe w'=>e= .returned (.int .i64 0)/\Below w.heap.size w w'):=λW hb=>by
    have h:=z4K lo U (z04 l i).1 (z04 l i).1 lc V W (A8.below hb) (Ae.below hb) A3 A3;rw[zi9] at h;exact h.mono (λe w' ⟨h1,h2⟩=>⟨h1,hb.trans (h2.mono hb.size)⟩)
   have Am:Hid (∀W,Below w.heap.size w W->Calls q6 40 #[.slice so (z04 l i).2.length sc,.slice Y (z04 l i).2.length A1] W λe w'=>e= .returned (.bool true)/\Below w.heap.size w w'):=λW hb=>
    (zhQ so Y (z04 l i).2 sc A1 W (A9.below hb) (Af.below hb) Ag).mono (λe w' ⟨h1,h2⟩=>⟨h1,hb.trans (h2.mono hb.size)⟩)
   clear A6 A7 Ac Ad A8 A9 Ae Af A3 Ag O;generalize (z04 l i).1.length=ln at*;generalize (z04 l i).2.length=sn at*;go_wp2_with fail;refine z0D (λW=>Below w.heap.size w W) (by kernel_rfl) (by kernel_rfl) A4.out.drew ?_;refine z0n (.slice (some ⟨b1,off,none⟩) l.length ca) (by kernel_rfl) (λW _=>by kernel_rfl) ?_;go_frame;refine z0n (.int .i64 (i:Int)) (by kernel_rfl) (λW _=>by kernel_rfl) ?_;go_frame;refine z3s (.pointer (some ⟨b1,off+i*2,none⟩)) (by kernel_rfl) rfl (by kernel_rfl) (by kernel_rfl) (z5P b1 off l.length ca i J) ?_;go_frame;refine z0n (.pointer (some ⟨b1,off+i*2,none⟩)) (by kernel_rfl) (λW _=>by kernel_rfl) ?_;go_frame;refine z1X (.slice lo ln lc) (by kernel_rfl) rfl (by kernel_rfl) (λW hW=>zcb b1 (off+i*2) lo ln lc W (G.out W hW).1) ?_;go_frame;refine z0n (.slice (some ⟨b2,q,none⟩) l.length cb) (by kernel_rfl) (λW _=>by kernel_rfl) ?_;go_frame;refine z0n (.int .i64 (i:Int)) (by kernel_rfl) (λW _=>by kernel_rfl) ?_;go_frame;refine z3s (.pointer (some ⟨b2,q+i*2,none⟩)) (by kernel_rfl) rfl (by kernel_rfl) (by kernel_rfl) (z5P b2 q l.length cb i J) ?_;go_frame;refine z0n (.pointer (some ⟨b2,q+i*2,none⟩)) (by kernel_rfl) (λW _=>by kernel_rfl) ?_;go_frame;refine z1X (.slice U ln V) (by kernel_rfl) rfl (by kernel_rfl) (λW hW=>zcb b2 (q+i*2) U ln V W (G.out W hW).2.1) ?_;go_frame;refine z8b (.int .i64 0) (by kernel_rfl) (λW=>by kernel_rfl) (λW hW=>Al.out W hW) ?_;go_frame;refine z0n (.bool false) (by kernel_rfl) (λW _=>by kernel_rfl) ?_;go_frame;refine z0n (.bool false) (by kernel_rfl) (λW _=>by kernel_rfl) ?_;go_frame;refine z0n (.slice (some ⟨b1,off,none⟩) l.length ca) (by kernel_rfl) (λW _=>by kernel_rfl) ?_;go_frame;refine z0n (.int .i64 (i:Int)) (by kernel_rfl) (λW _=>by kernel_rfl) ?_;go_frame;refine z3s (.pointer (some ⟨b1,off+i*2,none⟩)) (by kernel_rfl) rfl (by kernel_rfl) (by kernel_rfl) (z5P b1 off l.length ca i J) ?_
   go_frame;refine z0n (.pointer (some ⟨b1,off+i*2+1,none⟩)) (by kernel_rfl) (λW _=>by kernel_rfl) ?_;go_frame;refine z1X (.slice so sn sc) (by kernel_rfl) rfl (by kernel_rfl) (λW hW=>zce b1 (off+i*2+1) so sn sc W (G.out W hW).2.2.1) ?_;go_frame;refine z0n (.slice (some ⟨b2,q,none⟩) l.length cb) (by kernel_rfl) (λW _=>by kernel_rfl) ?_;go_frame;refine z0n (.int .i64 (i:Int)) (by kernel_rfl) (λW _=>by kernel_rfl) ?_;go_frame;refine z3s (.pointer (some ⟨b2,q+i*2,none⟩)) (by kernel_rfl) rfl (by kernel_rfl) (by kernel_rfl) (z5P b2 q l.length cb i J) ?_;go_frame;refine z0n (.pointer (some ⟨b2,q+i*2+1,none⟩)) (by kernel_rfl) (λW _=>by kernel_rfl) ?_;go_frame;refine z1X (.slice Y sn A1) (by kernel_rfl) rfl (by kernel_rfl) (λW hW=>zce b2 (q+i*2+1) Y sn A1 W (G.out W hW).2.2.2) ?_;go_frame;refine z8b (.bool true) (by kernel_rfl) (λW=>by kernel_rfl) (λW hW=>Am.out W hW) ?_;go_frame;refine z0n (.bool false) (by kernel_rfl) (λW _=>by kernel_rfl) ?_;go_frame;refine z0n (.bool false) (by kernel_rfl) (λW _=>by kernel_rfl) ?_;go_frame;refine wpQuiet_nil ?_;intro w5 Ah;have Ao:=hid Ah;clear Ah;go_wp2_with fail;go_roundw
   case rel=>exact⟨i+1,by omega,by go_num,Ao.out⟩
   case measure=>simp[intOf];omega
  .have he:i=l.length:=by omega
   clear O;subst he;go_wp2;go_ret;exact⟨rfl,A4.out⟩
end
section
open Go.RowKit Go.Maps
theorem z7C (V:Option Addr)(l:List Sr)(cap:Nat)(w:World)(Y:z0x w V l)(hl:l.length<=4000)(hs:∀i,i<l.length->(z04 l i).2.length<=2000):
  Calls q6 14 #[.slice V l.length cap] w λe w'=>e= .returned (.int .i64 (HD.total l:Int))/\w'=w:=by
 have HL:=hid Y;have G:=hid hs;clear Y hs;go_enter func14,ntmps14;go_wp2;go_loop [3,4] (λtc J=>∃i:Nat,i<=l.length/\J= .int .i64 i/\tc= .int .i64 (HD.total (l.take i))/\HD.total (l.take i)<=i*2000) (λ_ J=>l.length-(intOf J).toNat)
 case atStart=>exact⟨0,by omega,rfl,rfl,qq _⟩
 case round=>
  obtain⟨i,hi,rfl,rfl,O⟩:=hrel;by_cases h:i<l.length
  .obtain⟨b,off,U,A1,lo,lc,so,sc,A2,A3,_,_⟩:=HL.out i h;subst U;have q:=hid (HD.z1n l i h);have A4:=G.out i h;generalize (z04 l i).2.length=n at*;generalize (z04 l i).1.length=m at*;generalize HD.total (l.take i)=t at*;have A5:0<=(i:Int)/\(i:Int)<(l.length:Int):=by omega
   go_wp2_with fail;go_round
   case rel=>exact⟨i+1,by omega,by go_num,by rw[q.out];go_num,by rw[q.out];omega⟩
   case measure=>simp[intOf];omega
  .have he:i=l.length:=by omega
   subst he;rw[List.take_length] at O ⊢;generalize hT:HD.total l=t at*;have q:=hid hT;clear hT;go_wp2_with fail;go_ret;exact⟨by rw[q.out];rfl,rfl⟩
theorem zix {S:List Sr}(h:HD.Good S):zjO S:=⟨by have:=h.few;omega,λi hi=>by
 have q:=h.ok _ (HD.at_mem S i hi);have G:=SX.z8S q.1;have J:=((z1p _).1 q.2.1).1;omega⟩
section
variable {w : World} {v u : Value} {a b S : List Sr} {b1 b2 : Nat}
theorem z1C (q:z09 w b1 v S)(h:HD.Good S):
  Calls q6 14 #[v] w λe w'=>e= .returned (.int .i64 (HD.total S:Int))/\w'=w:=by
 obtain⟨G,cap,rfl,J⟩:=z0x.z0b q;exact z7C G S cap w J h.few λi hi=>((z1p _).1 (h.ok _ (HD.at_mem S i hi)).2.1).1
theorem z4g (h:z09 w b1 v S)(q:z09 w b2 u S)(G:HD.Good S):
  Calls q6 12 #[v,u] w λe w'=>e= .returned (.bool true)/\Below w.heap.size w w':=by
 obtain⟨J,O,rfl,U⟩:=z0x.z0b h;obtain⟨V,Y,rfl,hq⟩:=z0x.z0b q;exact z6V J V S O Y w U hq (zix G)
theorem z4N (h:z09 w b1 v a)(q:z09 w b2 u b)(G:HD.Good a)(hb:HD.Good b):
  Calls q6 16 #[v,u] w λe w'=>∃r,e= .returned r/\z09 w' w.heap.size r (HD.jn a b)/\Below w.heap.size w w':=by
 obtain⟨J,O,rfl,U,V,Y,r4⟩:=z4m.z0b h;obtain⟨bo,cb,rfl,q1,q2,q3,q4⟩:=z4m.z0b q;exact zbA J bo a b O cb w U q1 G hb V q2 Y q3 r4 q4
theorem zaf {g:Nat}{mo:Option Addr}{mc cg:Nat}{gn:Gn}(h:z09 w b1 v S)(q:HD.Good S)(hb:w.heap[g]? =some (.cells #[.slice mo gn.M.length mc,.int .i64 gn.fr,.int .i64 gn.tt] 25)) (G:z2O w mo gn.M) (J:gn.M.length<=1000):
  Calls q6 13 #[v,.slice (some ⟨g,0,none⟩) 1 cg] w λe w'=>∃r,e= .returned r/\z09 w' w.heap.size r (HD.kp (SX.goN gn) S)/\Below w.heap.size w w':=by
 obtain⟨O,U,rfl,V,Y,r3,r4⟩:=z4m.z0b h;have:=zf5 O (some ⟨g,0,none⟩) S [gn] U cg w V q (zdT.one hb G) (by simp) (λi hi=>by
  have:i=0:=by simp at hi;omega
  subst this;exact J)
 rw[zcw] at this;exact this
theorem SrT.fresh {w w':World}{Zh:Nat->Prop}(q:∀j,Zh j->j<w.heap.size)(h:z09 w' w.heap.size v S):SrT w' Zh v S:=SrT.z0b h q
end
end
section
open Go.RowKit
abbrev zmX (name:ByteArray)(t v:Int):List Sr:=[([(⟨#[110]⟩,name)],[(t,v)])]
theorem zif (name:ByteArray)(t v:Int)(w:World):
  Calls q6 25 #[.string name,.int .i64 t,.int .i64 v] w λe w'=>∃u,e= .returned u/\z09 w' w.heap.size u (zmX name t v)/\Below w.heap.size w w':=by
 go_enter func25,ntmps25;go_wp2_with fail;go_ret;obtain⟨h,q,G⟩:=zf9 w (.cells #[.string ⟨#[110]⟩,.string name] 107) (.cells #[.int .i64 t,.int .i64 v] 98) (.cells #[.slice (some ⟨w.heap.size,0,none⟩) 1 1,.slice (some ⟨w.heap.size+1,0,none⟩) 1 1] 93);exact⟨_,rfl,zjT h q G (qq _) (wP _) (by omega),(((Below.refl _ w).alloc (qq _) _).alloc (by simp) _).alloc (by simp;omega) _⟩
end
section
open Go.RowKit Go.Maps
abbrev l5:List Sr:=zmX ⟨#[97]⟩ 5 3
theorem zj1:HD.app (-1099511627777) [] l5=((0, -1),l5):=by decide
theorem zlT:HD.kp (SX.lo 5) l5=l5:=by decide
theorem zmN:HD.kp (SX.hi 5) l5=[]:=by decide
theorem zmy:SX.z5G 5 (SX.zjB l5 SX.first)=⟨⟨5,[],[⟨0,5,l5⟩],1,0⟩,[]⟩:=by
 have e:SX.app l5 SX.first.s=⟨-1099511627777,l5,[],0,0⟩:=by
  show(⟨-1099511627777,(HD.app (-1099511627777) [] l5).2,[],0,0⟩:SX.Sto)=_;rw[zj1]
 show(⟨SX.cut 5 (SX.app l5 SX.first.s),[]⟩:SX.St)=_;rw[e];unfold SX.cut;rw[if_neg (by rw[zlT];simp)];simp only[zlT,zmN];rfl
theorem zlj:ziL ⟨5,[],[⟨0,5,l5⟩],1,0⟩ [] 0 9=l5:=by
 have e:HD.kp (pkP [] 0 9) l5=l5:=by decide
 show SX.jns [HD.kp (pkP [] 0 9) l5,HD.kp (pkP [] 0 9) []]=l5;rw[e];show HD.jn (HD.jn [] l5) []=l5;rw[HD.z4Y,HD.z7c]
theorem zmI:∀k,k<l5.length->∀q∈(z04 l5 k).2,CL.Rs q:=by
 intro k h q G;have:k=0:=by simp at h;omega
 subst this;have e:q=(5,3):=by simpa [z04] using G
 rw[e];unfold CL.Rs;omega
theorem zmD:shS l5=true:=by decide
theorem zkk:zjO l5:=⟨by decide,λi hi=>by
 have:i=0:=by simp at hi;omega
 subst this;exact⟨by decide,by decide⟩⟩
theorem zdy (w:World)(hW:z0X w)(Aj:1<w.heap.size):
  Calls q6 7 #[] w λe w'=>e= .returned (.bool true)/\Below w.heap.size w w':=by
 have HO:=hid (z9q (n:=w.heap.size) hW Aj (qq _));have AP:Hid (Below w.heap.size w (w.alloc (.cells #[.map none,.bool false,.int .i64 0] 32))):=hid ((Below.refl _ w).alloc (qq _) _);have B5:Hid (w.heap.size<=(w.alloc (.cells #[.map none,.bool false,.int .i64 0] 32)).heap.size):=hid (by simp);clear hW Aj;go_enter func7,ntmps7;go_wp2_with fail;refine HO.out.mono ?_;rintro e w1 ⟨bs,Zh,D1,rfl,Ak,Al,Am,AQ,_⟩;have A4:Below w.heap.size w w1:=AP.out.trans Am;have Ao:=hid Ak;have Ap:=hid Al;have Y:=hid A4;have HK:=hid λW=>zif ⟨#[97]⟩ 5 3 W
 clear Ak Al Am AQ A4 HO;go_wp2_with fail;refine(HK.out _).mono ?_;rintro e w2 ⟨u,rfl,hu,A5⟩;have J:∃ao cap,u= .slice ao l5.length cap/\l5.length<=cap/\∀Z':Nat->Prop,(∀j,Z' j->w.heap.size<=j/\j<w1.heap.size)->z0F w2 Z' ao l5:=by
  obtain⟨ao,cap,e,_⟩:=z0F.z0b hu (Z:=λj=>j<w1.heap.size) λj hj=>hj
  subst e;have O:l5.length<=cap:=by
   obtain⟨xs,_,q,_⟩:=hu;rcases q.2 with⟨h0,hn⟩|⟨g,Aq,B6,h0,_,_,q3,_⟩
   .cases hn
   .cases h0;exact q3
  refine⟨ao,cap,rfl,O,λZ' hz=>?_⟩;obtain⟨Ba,Aq,e,q⟩:=z0F.z0b hu (Z:=Z') λj hj=>(hz j hj).2
  cases e;exact q
 obtain⟨ao,cap,rfl,O,J⟩:=J;have HA:=hid (z7x (s:=⟨0,l5,0,[],0,0⟩) (sc:=cap) Ao.out A5 Ap.out (by omega) (by omega) (by omega) (by omega) (by omega) Y.out.size J O zmI zmD rfl);have Ar:=hid (Y.out.trans (A5.mono Y.out.size));clear hu A5 J O Ao Ap Y;go_wp2_with fail;refine HA.out.mono ?_;rintro e w3 ⟨ev,D',p',Bb,AR,x3,rfl,Au,Av,_,_,_,h3⟩;have AU:AR=true/\ev= .nilIface/\x3=SX.zjB l5 SX.first/\SX.Lv 1 1 D' x3/\p'= -1:=by
  rcases h3 with⟨_,⟨cd,hr,_⟩,_⟩|⟨q1,q2,q3,q4,q5,_⟩|⟨_,_,q,_⟩
  .rcases hr with⟨_,_,e1,e2⟩|⟨e,_⟩|⟨e,_⟩|⟨e,_⟩|⟨e,_⟩
   .exfalso;apply e2;rw[e1];show(HD.app (-1099511627777) [] l5).1=_;rw[zj1]
   .cases e
   .cases e
   .cases e
   .cases e
  .refine⟨q1,q2,?_,q4,q5 rfl⟩;cases q3 with
   | app _ _ _=>rfl
   | none _ h=>cases h
   | cut h=>cases h
   | del h=>cases h
   | cmp h=>cases h
   | ret h=>cases h
   | not h=>exact absurd rfl h
  .exact absurd rfl q
 obtain⟨rfl,rfl,rfl,Aw,rfl⟩:=AU;have A6:=hid (Ar.out.trans Av);have HC:=hid (zjr (s:=⟨1,[],5,[],0,0⟩) Au Aw (by omega) (by omega) (by omega) (by omega) (by omega) A6.out.size rfl);clear h3 Au Aw Av HA Ar;go_wp2_with fail;refine HC.out.mono ?_;rintro e w4 ⟨ev,D4,p4,Bc,AV,x4,rfl,AW,Ax,_,_,_,h4⟩;have AX:AV=true/\ev= .nilIface/\x4=⟨⟨5,[],[⟨0,5,l5⟩],1,0⟩,[]⟩/\SX.Cor 2 2 x4:=by
  rcases h4 with⟨_,⟨cd,hr,_⟩,_⟩|⟨q1,q2,q3,q4,_⟩|⟨_,_,q,_⟩
  .rcases hr with⟨e,_⟩|⟨_,e,_⟩|⟨_,e,_⟩|⟨e,_⟩|⟨e,_⟩
   .cases e
   .exact absurd ⟨by decide,by decide⟩ e
   .exact absurd e (by show ¬(30<=0);omega)
   .cases e
   .cases e
  .refine⟨q1,q2,?_,q4.cor⟩;rw[<-zmy];cases q3 with
   | app h=>cases h
   | none h=>cases h
   | cut _ _ _ _=>rfl
   | del h=>cases h
   | cmp h=>cases h
   | ret h=>cases h
   | not _ h=>exact absurd rfl h
  .exact absurd rfl q
 obtain⟨rfl,rfl,e4,U⟩:=AX;have A7:=hid (A6.out.trans Ax);obtain⟨bw,cnt,Z,dn,hb,bm,mc,vg,od,hI,_,_,Ay,_⟩:=AW;subst e4;have HI:=hid hI;have G:=hid U;have Az:=hid (z8a hI (U.fit.inv.asc.imp λk=>k.1) U.fit.thirty (λb hb=>by have:=Cor.num U b hb;omega) (by omega));have AY:=hid Ay;clear h4 hI U Ax Ay HC A6;go_wp2_with fail;refine Az.out.mono ?_;rintro e w5 ⟨na,nc,ta,tc,rfl,AA,AB,A8⟩;have A9:=hid (HI.out.below A8);have HS:=hid (zf0 A9.out none [] 0 0 9 (λi hi=>by cases hi) (by simp) G.out.fit.inv.head (λb hb=>(G.out.ptB hb).good (by omega)) (λi=>(G.out.zmS _ i).good (by omega)) (G.out.fit.inv.asc.imp λk=>k.1) G.out.fit.thirty (λb hb=>by have:=Cor.num G.out b hb;omega) (by have:=AY.out;omega));have AC:=hid AA;have AD:=hid AB;have Ac:=hid (A7.out.trans (A8.mono A7.out.size));clear AA AB A8 Az HI A7;go_wp2_with fail;refine HS.out.mono ?_;rintro e w6 ⟨V,⟨hf,_⟩|⟨_,v,rfl,hv⟩⟩
 .cases hf
 rw[zlj] at hv;obtain⟨va,vc,e6,AE⟩:=z0x.z0b hv;subst e6;have A1:=AC.out;have A2:=AD.out;simp only[List.map_cons,List.map_nil,List.length_singleton] at A1 A2;obtain⟨gn,cn,B0,en,_,an,_⟩:=z0c A1 (by omega);cases en;have Ad:=A1.cells (g:=gn) rfl 0 (.int .i64 0) rfl;obtain⟨gt,ct,B3,et,_,at',_⟩:=z0c A2 (by omega);cases et;have Ae:=A2.cells (g:=gt) rfl 0 (.int .i64 5) rfl;rw[Addr.add_lit,Nat.zero_add] at Ad Ae;have Be:w6.cell? ⟨gn,0,none⟩=some (.int .i64 0):=(V.cell (p:=⟨gn,0,none⟩) (z00 an)).trans Ad;have Bf:w6.cell? ⟨gt,0,none⟩=some (.int .i64 5):=(V.cell (p:=⟨gt,0,none⟩) (z00 at')).trans Ae;have AF:=hid (A9.out.below V);have Af:=hid (Ac.out.trans (V.mono Ac.out.size));have AG:=hid AE;clear A1 A2 hv AE V HS AC AD Ac A9 an at' Ad Ae;go_wp2_with fail;refine(HK.out _).mono ?_;rintro e w7 ⟨u7,rfl,AH,A3⟩;obtain⟨ua,uc,eu,AJ⟩:=z0x.z0b AH;subst eu;have AK:=hid (z6V va ua l5 vc uc w7 (AG.out.below A3) AJ zkk);have AL:=hid (AF.out.below A3);have Ag:=hid (Af.out.trans (A3.mono Af.out.size));clear AH A3 AJ AG AF Af HK;go_wp2_with fail;refine AK.out.mono ?_;rintro e w8 ⟨rfl,Ah⟩;have AM:=hid (zgQ (AL.out.below Ah));have Ai:=hid (Ag.out.trans (Ah.mono Ag.out.size));clear Ah AK AL Ag;go_wp2_with fail;refine AM.out.mono ?_;rintro e w9 ⟨rfl,AO⟩;have AZ:=hid (Ai.out.trans (AO.mono Ai.out.size));clear AO AM Ai;go_wp2_with fail;go_ret;exact⟨rfl,AZ.out⟩
end
section
open Go.RowKit Go.Maps
theorem zia.below {w w':World}{q:Option Addr}{l:List Stp}(h:zia w q l)(k:Below w.heap.size w w'):zia w' q l:=λi hi=>by
 obtain⟨b,off,e,hb,so,sc,mo,mc,c0,c1,c2,G,J,O,U⟩:=h i hi;exact⟨b,off,e,qe hb k.size,so,sc,mo,mc,(k.cell (p:=⟨b,_,none⟩) hb).trans c0,(k.cell (p:=⟨b,_,none⟩) hb).trans c1,(k.cell (p:=⟨b,_,none⟩) hb).trans c2,(k.cell (p:=⟨b,_,none⟩) hb).trans G,(k.cell (p:=⟨b,_,none⟩) hb).trans J,(k.cell (p:=⟨b,_,none⟩) hb).trans O,U.below k⟩
theorem za3 (b off n c i:Nat)(h:i<n)(w:World):(yf 22 (.slice (some ⟨b,off,none⟩) n c) (.int .i64 (i:Int))).run q6 w= .ok (.pointer (some ⟨b,off+i*6,none⟩)) w:=by
 have q:0<=(i:Int)/\(i:Int)<(n:Int):=by omega
 have G:q6.cellsOf 41=6:=by kernel_rfl
 go_simp
theorem zkX.some {w:World}{s:Stp}{x:SX.St}{cd:Int×Int}{q:Value}(h:zkX w cd q)(k:zml s x cd):∃t v,q= .iface t v:=by
 rcases h with⟨G,rfl⟩|⟨_,_,p,rfl,_⟩
 .have J:cd.1≠0:=by
   rcases k with⟨_,_,_,e⟩|⟨_,_,e⟩|⟨_,_,e⟩|⟨_,_,e⟩|⟨_,_,e⟩
   .intro O;exact e (Prod.ext O G)
   all_goals rw[e];decide
  exact⟨_,_,z13 J⟩
 .exact⟨_,_,rfl⟩
theorem z0N.on {n:Nat}{w w':World}{bs bd c m a k:Nat}{Zh:Nat->Prop}{D:DK.M}{x:SX.St}{s:Stp}{e:Ending}(h:z0N n w bs bd c m a k Zh D (-1) x s e w')(hl:SX.Lv a k D x):
  ∃J D' G O,e= .returned J/\SoL n w' bs bd (c+400) (m+1) G D' (-1) true O/\SX.Lv (a+1) (k+1) D' O/\Below n w w'/\w.heap.size<=w'.heap.size/\(∀v S,SrT w Zh v S->SrT w' G v S)/\z7i w w'/\
   ((O=x/\∃cd,zml s x cd/\zkX w' cd J)\/(J= .nilIface/\Did s x O)):=by
 obtain⟨J,D',p',G,A1,O,Y,U,h3,h4,h5,hk,h6⟩:=h;rcases h6 with⟨rfl,V,rfl,rfl,rfl⟩|⟨rfl,V,q2,q3,q4,_⟩|⟨_,_,q,_⟩
 .exact⟨J,_,G,_,Y,U,hl.mono (wP _) (wP _),h3,h4,h5,hk,.inl ⟨rfl,V⟩⟩
 .rw[q4 rfl] at U;exact⟨J,D',G,O,Y,U,q3,h3,h4,h5,hk,.inr ⟨V,q2⟩⟩
 .exact absurd rfl q
theorem zjM {s:Stp}{x y:SX.St}(h:Did s x y)(J:SX.Inv x.s)(U:∀i,i<s.L.length->∀q∈(z04 s.L i).2,CL.Rs q)(V:s.what≠2)(Y:s.what≠4):
  (s.what=0->HD.total (SX.all y.s)=HD.total (SX.all x.s)+HD.total s.L)/\(s.what≠0->HD.total (SX.all y.s)=HD.total (SX.all x.s))/\∀L q,SX.In (SX.all x.s) L q->SX.In (SX.all y.s) L q:=by
 have G:∀y∈s.L,∀q∈y.2,CL.Rs q:=λy hy=>by
  obtain⟨i,hi,rfl⟩:=HD.z9J hy;exact U i hi
 cases h with
 | app e _ h1=>
  refine⟨λ_=>SX.z4q J G h1,λk=>absurd e k,λL q hq=>?_⟩;exact(SX.z7W J G h1 L q).2 (.inl hq)
 | none e h1=>exact⟨λ_=>by rw[h1];rfl,λ_=>rfl,λ_ _ h=>h⟩
 | cut e=>
  have O:SX.all (SX.z5G s.t x).s=SX.all x.s:=SX.zeX J s.t;rw[O];exact⟨λk=>absurd (e.symm.trans k) (by decide),λ_=>rfl,λ_ _ h=>h⟩
 | del e=>exact absurd e V
 | cmp e hB=>
  have O:SX.all (SX.z0G x).s=SX.all x.s:=SX.z7b J hB;rw[O];exact⟨λk=>absurd (e.symm.trans k) (by decide),λ_=>rfl,λ_ _ h=>h⟩
 | ret e=>exact absurd e Y
 | not e=>exact⟨λk=>absurd k e,λ_=>rfl,λ_ _ h=>h⟩
theorem zm8:i64 0:=⟨by decide,by decide⟩
theorem zmc:i64 2:=⟨by decide,by decide⟩
theorem zk2 {w w':World}(h:Below w.heap.size w w'):Below w.heap.size w w':=h
theorem zfl (ao bo mo:Option Addr)(l later:List Stp)(g:Gn)(cl cb mk:Nat)(w:World)(hW:z0X w)(BB:1<w.heap.size)(hL:zia w ao l)(hB:zia w bo later)(hM:z2O w mo g.M)(CQ:∀x∈g.M,i64 x.op)(CS:i64 g.fr)(CU:i64 g.tt)
  (Cv:z5t l=true) (Cw:z5t later=true) (Cx:shM g.M=true):
  Calls q6 3 #[.slice ao l.length cl,gnV mo mk g,.slice bo later.length cb] w λe w'=>e= .returned (.bool true)/\Below w.heap.size w w':=by
 obtain⟨M,fr,tt⟩:=g;dsimp only at*;have Ai:Below w.heap.size w (w.alloc (.cells #[.slice mo M.length mk,.int .i64 fr,.int .i64 tt] 25)):=(Below.refl _ w).alloc (qq _) _;have Ar:=qu w (.cells #[.slice mo M.length mk,.int .i64 fr,.int .i64 tt] 25);obtain⟨w1,CV⟩:∃w1,w1=w.alloc (.cells #[.slice mo M.length mk,.int .i64 fr,.int .i64 tt] 25):=⟨_,rfl⟩;rw[<-CV] at Ai Ar;have d0:=z01 _ _ _ _ Ar 0 _ rfl;have Cy:=hid (z4b ao l cl w1 (hL.below Ai));have Cz:=hid (z4b bo later cb w1 (hB.below Ai));have V:=hid (zbb mo M mk w1 (hM.below Ai));have CW:=hid (zdy w1 (z0X.below hW Ai BB) (qe BB Ai.size));rw[Cv] at Cy;rw[Cw] at Cz;rw[Cx] at V;have CB:=hid Ai;have CC:=hid Ar;have HL:=hid hL;have CX:=hid hB;have HM:=hid hM;have HR:=hid (qv CQ (qv CS CU));have HS:=hid (qv Cv (qv Cw Cx));have HW:=hid (qv hW BB);clear Ai Ar hL hB hM CQ CS CU Cv Cw Cx hW BB;go_enter func3,ntmps3;subst CV;go_wp2_with fail;generalize w.alloc (.cells #[.slice mo M.length mk,.int .i64 fr,.int .i64 tt] 25)=w1 at*;refine Cy.out.mono ?_;rintro e w2 ⟨rfl,rfl⟩;clear Cy;go_wp2_with fail;refine Cz.out.mono ?_;rintro e w3 ⟨rfl,rfl⟩;clear Cz;go_wp2_with fail;refine V.out.mono ?_;rintro e w4 ⟨rfl,rfl⟩;clear V;go_wp2_with fail;refine CW.out.mono ?_;rintro e w5 ⟨rfl,CE⟩;have A9:Below w.heap.size w w5:=CB.out.trans (CE.mono CB.out.size);have HO:=hid (z9q (n:=w5.heap.size) (z0X.below HW.out.1 A9 HW.out.2) (qe HW.out.2 A9.size) (qq _));have BJ:=(CE.block _ (z00 CC.out)).trans CC.out;have Ax:=hid BJ;have Ay:=hid A9;have Et:=hid (HL.out.below (zk2 A9));have Eu:=hid (CX.out.below (zk2 A9));have CF:=hid (HM.out.below (zk2 A9));have CY:Hid (Below w5.heap.size w5 (w5.alloc (.cells #[.map none,.bool false,.int .i64 0] 32))):=hid ((Below.refl _ w5).alloc (qq _) _)
 clear CE A9 CW CC CB d0 BJ HL CX HM;go_wp2_with fail;refine HO.out.mono ?_;rintro e w7 ⟨bs,Zh,D,rfl,CZ,E0,E1,Ev,_⟩;have E2:=hid (CY.out.trans E1);have E3:=hid CZ;have E4:=hid E0;clear CZ E0 E1 Ev HO CY;have ED:=(of_decide_eq_true HS.out.1).1;go_wp2_with fail;go_loopw [10] (λti wr=>∃(i:Nat) (Zh:Nat->Prop) (D:DK.M) (x:SX.St),i<=l.length/\ti= .int .i64 i/\SoL w5.heap.size wr bs w5.heap.size (204+400*i) (6000+i) Zh D (-1) true x/\SX.Lv i i D x/\Below w5.heap.size w5 wr) (λti _=>l.length-(intOf ti).toNat)
 case atStart=>exact⟨0,Zh,D,SX.first,qh _,rfl,E3.out.mono (by omega) (by omega),E4.out,E2.out⟩
 case round=>
  obtain⟨i,Zi,Di,xi,hi,rfl,hS,hl,hb⟩:=hrel;have A3:=hid hS;have G:=hid hl;have J:=hid hb;clear hS hl hb E3 E4 E2;by_cases Au:i<l.length
  .obtain⟨b,off,CG,A5,so,sc,BC,BD,c0,c1,c2,c3,c4,c5,hI⟩:=Et.out i Au;subst CG;have AJ:=(of_decide_eq_true HS.out.1).2 i Au;have HC:=hid (zcx A3.out G.out (by omega) (by omega) (by omega) (by omega) (by omega) hI J.out AJ.1 AJ.2);have g0:=(J.out.cell (p:=⟨b,_,none⟩) A5).trans c0;have g1:=(J.out.cell (p:=⟨b,_,none⟩) A5).trans c1;have g2:=(J.out.cell (p:=⟨b,_,none⟩) A5).trans c2;have g3:=(J.out.cell (p:=⟨b,_,none⟩) A5).trans c3;have g4:=(J.out.cell (p:=⟨b,_,none⟩) A5).trans c4;have g5:=(J.out.cell (p:=⟨b,_,none⟩) A5).trans c5;have CH:=λW=>za3 b off l.length cl i Au W
   clear hI AJ c0 c1 c2 c3 c4 c5;generalize atP l i=s at*;obtain⟨sw,sL,st,sM,sf,se⟩:=s;dsimp only at*;go_wp2_with fail;refine HC.out.mono ?_;intro e w8 hE;obtain⟨ev,D8,Z8,x8,rfl,E5,E6,AK,EK,_,_,_⟩:=hE.on G.out;have BF:=hid E5;have Ew:=hid E6;have AL:=hid (J.out.trans AK);clear hE E5 E6 AK HC A3 G J g0 g1 g2 g3 g4 g5 CH;go_wp2_with fail;go_roundw
   case rel=>exact⟨i+1,Z8,D8,x8,by omega,by go_num,BF.out.mono (by omega) (by omega),Ew.out,AL.out⟩
   case measure=>simp[intOf];omega
  .have he:i=l.length:=by omega
   subst he;have HH:=hid (z1w A3.out G.out.cor (by omega) (by omega));go_wp2_with fail;refine HH.out.mono ?_;rintro e w8 ⟨AK,v8,rfl,E7⟩;have AO:=A3.out.zlt;have E8:=hid (SrT.fresh AO E7);have BF:=hid (A3.out.below AK);have AL:=hid (J.out.trans (AK.mono J.out.size));have Az:Hid (w8.heap[w.heap.size]? =some (.cells #[.slice mo M.length mk,.int .i64 fr,.int .i64 tt] 25)):=hid ((AL.out.block _ (z00 Ax.out)).trans Ax.out);clear AK E7 AO HH A3 J;have d0:=z01 _ _ _ _ Az.out 0 _ rfl;have d1:=z01 _ _ _ _ Az.out 1 _ rfl;have d2:=z01 _ _ _ _ Az.out 2 _ rfl;have E9:=hid (zju (mc:=mk) (s:=⟨2,[],0,M,fr,tt⟩) (so:=none) (sc:=0) BF.out G.out (by omega) (by omega) (by omega) (by omega) (by omega) ⟨⟨none,0,rfl,λi hi=>absurd hi (by simp),λi hi=>absurd hi (by simp),qq _,λ_=>rfl⟩,λk hk=>absurd hk (by simp),CF.out,HR.out.1,zm8,HR.out.2.1,HR.out.2.2,zmc⟩ AL.out HS.out.2.2 rfl);go_wp2_with fail;refine E9.out.mono ?_;intro e w9 hE;have AP:LB.asked M=true->SX.zh9 ⟨xi.s.nx,⟨M,fr,tt⟩⟩:=λq=>zfG (s:=⟨2,[],0,M,fr,tt⟩) (w:=w5) (so:=none) (sc:=0) (mo:=mo) (mc:=mk) ⟨⟨none,0,rfl,λi hi=>absurd hi (by simp),λi hi=>absurd hi (by simp),qq _,λ_=>rfl⟩,λk hk=>absurd hk (by simp),CF.out,HR.out.1,zm8,HR.out.2.1,HR.out.2.2,zmc⟩ HS.out.2.2 q (by have:=G.out.cor.fit.nx;unfold i64;omega)
   obtain⟨ev,D9,Z9,x9,rfl,Ea,Av,Eb,EL,Ec,_,Ex⟩:=hE.on G.out;have BG:=hid (Ec _ _ E8.out);have AQ:=hid Ea;have Aj:=hid (AL.out.trans Eb);clear hE Ea Eb Ec E9 E8 BF AL Az d0 d1 d2;rcases Ex with⟨rfl,cd,hr,he⟩|⟨rfl,hd⟩
   .obtain⟨tv,vv,rfl⟩:=he.some hr;have HH:=hid (z1w AQ.out Av.cor (by omega) (by omega));have HG:=hid (Av.cor.pts.good (by omega));clear Av hr he AP;go_wp2_with fail;refine HH.out.mono ?_;rintro e Ed ⟨Af,EM,rfl,BM⟩;have V:=hid (z4g BM (BG.out.below Af).own HG.out);have Ac:=hid (Aj.out.trans (Af.mono Aj.out.size));clear Af BM HH HG BG AQ Aj;go_wp2_with fail;refine V.out.mono ?_;rintro e Ey ⟨rfl,A6⟩;have Ak:=hid (Ay.out.trans ((Ac.out.trans (A6.mono Ac.out.size)).mono Ay.out.size));clear A6 V Ac;go_wp2_with fail;go_ret;exact⟨rfl,Ak.out⟩
   .obtain⟨AA,rfl⟩:LB.asked M=true/\x9=SX.zdS ⟨M,fr,tt⟩ xi:=by
     cases hd with
     | app h=>cases h
     | none h=>cases h
     | cut h=>cases h
     | del _ h=>exact⟨h,rfl⟩
     | cmp h=>cases h
     | ret h=>cases h
     | not _ _ h=>exact absurd rfl h
    have BN:=G.out.cor.del (AP AA);have Ee:SX.Lv l.length (l.length+1) D9 (SX.zdS ⟨M,fr,tt⟩ xi):=⟨Av.on,Av.clean,Av.only,BN⟩;have BO:SX.all (SX.zdS ⟨M,fr,tt⟩ xi).s=HD.kp (SX.goN ⟨M,fr,tt⟩) (SX.all xi.s):=by
     rw[SX.zgw G.out.cor.fit];exact SX.zfe G.out.cor.fit.inv _
    have HG:=hid (G.out.cor.pts.good (by omega));have CI:=hid Ee;have AR:=hid BO;have AB:Hid (w9.heap[w.heap.size]? =some (.cells #[.slice mo M.length mk,.int .i64 fr,.int .i64 tt] 25)):=hid ((Aj.out.block _ (z00 Ax.out)).trans Ax.out);have d0:=z01 _ _ _ _ AB.out 0 _ rfl;have d1:=z01 _ _ _ _ AB.out 1 _ rfl;have d2:=z01 _ _ _ _ AB.out 2 _ rfl;have Ah:Below w9.heap.size w9 (w9.alloc (.cells #[.slice mo M.length mk,.int .i64 fr,.int .i64 tt] 25)):=(Below.refl _ w9).alloc (qq _) _;have Ef:=hid λ(cg:Nat)=>zaf (gn:=⟨M,fr,tt⟩) (mc:=mk) (cg:=cg) ((BG.out.below Ah).own) HG.out (qu w9 (.cells #[.slice mo M.length mk,.int .i64 fr,.int .i64 tt] 25)) (((CF.out.below Aj.out)).below Ah) (by have:=z9K AA;show M.length<=1000;omega)
    have Ae:=hid Ah;clear hd Av AP BN Ee BO Ah G;go_wp2_with fail;refine(Ef.out 1).mono ?_;rintro e Ed ⟨Eg,rfl,BP,Af⟩;have CJ:Below w9.heap.size w9 Ed:=Ae.out.trans (Af.mono Ae.out.size);have AU:=hid (AQ.out.below CJ);have AO:=AQ.out.zlt;have AV:=hid (SrT.z0b (Z:=Z9) BP λj hj=>qe (AO j hj) Ae.out.size);have Ac:=hid (Aj.out.trans (CJ.mono Aj.out.size));have HH:=hid (z1w AU.out CI.out.cor (by omega) (by omega));rw[AR.out] at HH;have AW:=hid (HD.z3o (p:=SX.goN ⟨M,fr,tt⟩) HG.out);clear CJ BP Af AO Ef Ae AB AQ Aj BG d0 d1 d2 HG;go_wp2_with fail;refine HH.out.mono ?_;rintro e Ey ⟨A6,EN,rfl,BQ⟩;have V:=hid (z4g BQ (AV.out.below A6).own AW.out);have BR:=hid (AU.out.below A6);have Ak:=hid (Ac.out.trans (A6.mono Ac.out.size));have BS:=hid (AV.out.below A6);clear A6 BQ HH AV AU Ac;go_wp2_with fail;refine V.out.mono ?_;rintro e EO ⟨rfl,AC⟩;have BU:=hid (BR.out.below AC);have BV:=hid (Ak.out.trans (AC.mono Ak.out.size));have BW:=hid (BS.out.below AC);clear AC V BR Ak BS;have EP:=(of_decide_eq_true HS.out.2.1).1;have AX:∀L s,SX.In (HD.kp (SX.goN ⟨M,fr,tt⟩) (SX.all xi.s)) L s->SX.In (SX.all (SX.zdS ⟨M,fr,tt⟩ xi).s) L s:=λL s h=>by rw[AR.out];exact h
    have Eh:=hid AX;clear AX AR;generalize HD.kp (SX.goN ⟨M,fr,tt⟩) (SX.all xi.s)=lf at*;generalize SX.zdS ⟨M,fr,tt⟩ xi=xd at*;go_wp2_with fail;go_loopw [13,14,15,16] (λti _ _ _ wr=>∃(i:Nat) (Zh:Nat->Prop) (D:DK.M) (x:SX.St),i<=later.length/\ti= .int .i64 i/\SoL w5.heap.size wr bs w5.heap.size (604+400*l.length+400*i) (6001+l.length+i) Zh D (-1) true x/\SX.Lv (l.length+i) (l.length+1+i) D x/\Below w5.heap.size w5 wr/\SrT wr Zh Eg lf/\∀L s,SX.In lf L s->SX.In (SX.all x.s) L s) (λti _ _ _ _=>later.length-(intOf ti).toNat)
    case atStart=>exact⟨0,Z9,D9,xd,qh _,rfl,BU.out.mono (by omega) (by omega),CI.out,BV.out,BW.out,Eh.out⟩
    case round=>
     obtain⟨i,Zi,Di,xi,hi,rfl,hS,hl,hb,hr,AX⟩:=hrel;have A3:=hid hS;have G:=hid hl;have J:=hid hb;have AY:=hid hr;have AM:=hid AX;clear hS hl hb hr AX BU CI BV BW Eh;by_cases Au:i<later.length
     .obtain⟨b,off,CG,A5,so,sc,BC,BD,c0,c1,c2,c3,c4,c5,hI⟩:=Eu.out i Au;subst CG;have AJ:=(of_decide_eq_true HS.out.2.1).2 i Au;have g0:=(J.out.cell (p:=⟨b,_,none⟩) A5).trans c0;have g1:=(J.out.cell (p:=⟨b,_,none⟩) A5).trans c1;have g2:=(J.out.cell (p:=⟨b,_,none⟩) A5).trans c2;have g3:=(J.out.cell (p:=⟨b,_,none⟩) A5).trans c3;have g4:=(J.out.cell (p:=⟨b,_,none⟩) A5).trans c4;have g5:=(J.out.cell (p:=⟨b,_,none⟩) A5).trans c5;have CH:=λW=>za3 b off later.length cb i Au W
      have HI:=hid hI;have V:=hid AJ;clear AJ c0 c1 c2 c3 c4 c5 hI;generalize atP later i=s at*;obtain⟨sw,sL,st,sM,sf,se⟩:=s;dsimp only at*;have Ah:Below wr.heap.size wr (wr.alloc (.cells #[.int .i64 sw,.slice so sL.length sc,.int .i64 st,.slice BC sM.length BD,.int .i64 sf,.int .i64 se] 41)):=(Below.refl _ wr).alloc (qq _) _;have Ar:=qu wr (.cells #[.int .i64 sw,.slice so sL.length sc,.int .i64 st,.slice BC sM.length BD,.int .i64 sf,.int .i64 se] 41);have AZ:=hid (A3.out.below Ah);have Ae:=hid (J.out.trans (Ah.mono J.out.size));have BH:=hid (AY.out.below Ah);have BI:=hid Ar;clear Ah Ar;by_cases B0:sw=2\/sw=4
      .clear HI V;have B3:Hid (∀wz,wz=wr.alloc (.cells #[.int .i64 sw,.slice so sL.length sc,.int .i64 st,.slice BC sM.length BD,.int .i64 sf,.int .i64 se] 41)->∃(i1:Nat) (Zh:Nat->Prop) (D:DK.M) (x:SX.St),i1<=later.length/\i1=i+1/\SoL w5.heap.size wz bs w5.heap.size (604+400*l.length+400*i1) (6001+l.length+i1) Zh D (-1) true x/\SX.Lv (l.length+i1) (l.length+1+i1) D x/\Below w5.heap.size w5 wz/\SrT wz Zh Eg lf/\∀L s,SX.In lf L s->SX.In (SX.all x.s) L s):=hid (by
        rintro wz rfl;exact⟨i+1,Zi,Di,xi,by omega,rfl,AZ.out.mono (by omega) (by omega),G.out.mono (by omega) (by omega),Ae.out,BH.out,AM.out⟩)
       clear AZ Ae BH BI A3 J AY AM G;rcases B0 with rfl|rfl
       .go_wp2_with fail;go_roundw
        case rel=>
         obtain⟨i1,Z1,D1,x1,q1,rfl,q⟩:=B3.out _ rfl;exact⟨i+1,Z1,D1,x1,q1,by go_num,q⟩
        case measure=>simp[intOf];omega
       .go_wp2_with fail;go_roundw
        case rel=>
         obtain⟨i1,Z1,D1,x1,q1,rfl,q⟩:=B3.out _ rfl;exact⟨i+1,Z1,D1,x1,q1,by go_num,q⟩
        case measure=>simp[intOf];omega
      .have n2:¬sw=2:=λe=>B0 (.inl e)
       have n4:¬sw=4:=λe=>B0 (.inr e)
       have q2:(sw==2)=false:=by simpa using n2
       have q4:(sw==4)=false:=by simpa using n4
       have HE:=hid B0;clear B0;have HH:=hid (z1w AZ.out G.out.cor (by omega) (by omega));clear A3 J AY;go_wp2_with fail;refine HH.out.mono ?_;rintro e EQ ⟨Al,ER,rfl,BX⟩;have U:=hid ((Al.block _ (z00 BI.out)).trans BI.out);have BZ:=hid (AZ.out.below Al);have B5:=hid (Ae.out.trans (Al.mono Ae.out.size));have C0:=hid (BH.out.below Al);have Ei:=hid (z1C BX (G.out.cor.pts.good (by omega)));have EE:Hid (HD.total (SX.all xi.s)<=2000):=hid (by have:=G.out.cor.pts.tot;omega);clear g0 g1 g2 g3 g4 g5 CH Al BX HH AZ Ae BH BI;go_wp2_with fail;refine Ei.out.mono ?_;rintro e ES ⟨rfl,rfl⟩;have d0:=z01 _ _ _ _ U.out 0 _ rfl;have d1:=z01 _ _ _ _ U.out 1 _ rfl;have d2:=z01 _ _ _ _ U.out 2 _ rfl;have d3:=z01 _ _ _ _ U.out 3 _ rfl;have d4:=z01 _ _ _ _ U.out 4 _ rfl;have d5:=z01 _ _ _ _ U.out 5 _ rfl;have HC:=hid (zcx BZ.out G.out (by omega) (by omega) (by omega) (by omega) (by omega) HI.out B5.out V.out.1 V.out.2);clear Ei;generalize wr.heap.size=bx at*;go_wp2_with fail;refine HC.out.mono ?_;intro e Ez hE;obtain⟨ev,CK,CM,Ad,rfl,C2,C3,C4,EF,C5,C6,B6⟩:=hE.on G.out;have Ba:=(C6 bx _ _ U.out (by unfold KD;decide) (by decide) (by decide) (by decide) (by decide)).trans U.out;have Bb:=hid Ba;have A4:=hid C2;have A1:=hid C3;have Ag:=hid (C5 _ _ C0.out);have A2:=hid (B5.out.trans C4);have hT:∀(h:Did ⟨sw,sL,st,sM,sf,se⟩ xi Ad),(sw=0->HD.total (SX.all Ad.s)=HD.total (SX.all xi.s)+HD.total sL)/\(sw≠0->HD.total (SX.all Ad.s)=HD.total (SX.all xi.s))/\∀L q,SX.In (SX.all xi.s) L q->SX.In (SX.all Ad.s) L q:=λh=>zjM h G.out.cor.fit.inv HI.out.rs (λe=>HE.out (.inl e)) (λe=>HE.out (.inr e))
       have C8:∀L q,SX.In lf L q->SX.In (SX.all Ad.s) L q:=by
        rcases B6 with⟨rfl,_⟩|⟨_,h⟩
        .exact AM.out
        .exact λL q hq=>(hT h).2.2 L q (AM.out L q hq)
       have Bc:=hid C8;have Be:Hid ((sw≠0->HD.total (SX.all Ad.s)=HD.total (SX.all xi.s))/\(sw=0->(∃tv vv,ev= .iface tv vv)/\HD.total (SX.all Ad.s)=HD.total (SX.all xi.s)\/ev= .nilIface/\HD.total (SX.all Ad.s)=HD.total (SX.all xi.s)+HD.total sL)):=hid (by
        rcases B6 with⟨rfl,cd,hr,he⟩|⟨rfl,h⟩
        .exact⟨λ_=>rfl,λ_=> .inl ⟨he.some hr,rfl⟩⟩
        .exact⟨(hT h).2.1,λe=> .inr ⟨rfl,(hT h).1 e⟩⟩)
       clear hE C2 C3 C4 C5 C6 B6 hT C8 Ba HC G AM BZ C0 B5 U d0 d1 d2 d3 d4 d5;have d0:=z01 _ _ _ _ Bb.out 0 _ rfl;have d1:=z01 _ _ _ _ Bb.out 1 _ rfl;by_cases n0:sw=0
       .subst n0;rcases Be.out.2 rfl with⟨⟨tv,vv,rfl⟩,hq⟩|⟨rfl,hq⟩
        .have HQ:=hid hq;clear hq Be n2 n4 q2 q4;have A8:=hid (z1w A4.out A1.out.cor (by omega) (by omega));go_wp2_with fail;refine A8.out.mono ?_;rintro e Ej ⟨O,Ek,rfl,A7⟩;have Y:=hid (z1C A7 (A1.out.cor.pts.good (by omega)));rw[HQ.out] at Y;have Am:=hid (A4.out.below O);have Ao:=hid (A2.out.trans (O.mono A2.out.size));have Ap:=hid (Ag.out.below O);clear O A7 A8 A4 A2 Ag;go_wp2_with fail;refine Y.out.mono ?_;rintro e El ⟨rfl,rfl⟩;clear Y;go_wp2_with fail;go_roundw
         case rel=>exact⟨i+1,CM,CK,Ad,by omega,by go_num,Am.out.mono (by omega) (by omega),A1.out.mono (by omega) (by omega),Ao.out,Ap.out,Bc.out⟩
         case measure=>simp[intOf];omega
        .have HQ:=hid hq;have Em:=hid (z7C so sL sc Ez (((HI.out.below A2.out)).zmo.1) (by have:=(of_decide_eq_true V.out.1).1;omega) (λk hk=>by have:=((of_decide_eq_true V.out.1).2 k hk).2;omega));have ET:HD.total (SX.all xi.s)+HD.total sL<=2040:=by
          have:=A1.out.cor.pts.tot;rw[hq] at this;omega
         clear hq Be n2 n4 q2 q4;go_wp2_with fail;refine Em.out.mono ?_;rintro e EG ⟨rfl,rfl⟩;clear Em;have A8:=hid (z1w A4.out A1.out.cor (by omega) (by omega));go_wp2_with fail;refine A8.out.mono ?_;rintro e Ej ⟨O,Ek,rfl,A7⟩;have Y:=hid (z1C A7 (A1.out.cor.pts.good (by omega)));rw[HQ.out] at Y;have Am:=hid (A4.out.below O);have Ao:=hid (A2.out.trans (O.mono A2.out.size));have Ap:=hid (Ag.out.below O);clear O A7 A8 A4 A2 Ag;go_wp2_with fail;refine Y.out.mono ?_;rintro e El ⟨rfl,rfl⟩;clear Y;go_wp2_with fail;go_roundw
         case rel=>exact⟨i+1,CM,CK,Ad,by omega,by go_num,Am.out.mono (by omega) (by omega),A1.out.mono (by omega) (by omega),Ao.out,Ap.out,Bc.out⟩
         case measure=>simp[intOf];omega
       .have q0:(sw==0)=false:=by simpa using n0
        have HQ:=hid (Be.out.1 n0);clear Be;have A8:=hid (z1w A4.out A1.out.cor (by omega) (by omega));go_wp2_with fail;refine A8.out.mono ?_;rintro e Ej ⟨O,Ek,rfl,A7⟩;have Y:=hid (z1C A7 (A1.out.cor.pts.good (by omega)));rw[HQ.out] at Y;have Am:=hid (A4.out.below O);have Ao:=hid (A2.out.trans (O.mono A2.out.size));have Ap:=hid (Ag.out.below O);clear O A7 A8 A4 A2 Ag;go_wp2_with fail;refine Y.out.mono ?_;rintro e El ⟨rfl,rfl⟩;clear Y;go_wp2_with fail;go_roundw
        case rel=>exact⟨i+1,CM,CK,Ad,by omega,by go_num,Am.out.mono (by omega) (by omega),A1.out.mono (by omega) (by omega),Ao.out,Ap.out,Bc.out⟩
        case measure=>simp[intOf];omega
     .have he:i=later.length:=by omega
      subst he;have EA:w5.heap.size<=wr.heap.size:=J.out.size;have Bf:=G.out.cor.pts;have Aw:=hid (Bf.good (by omega));have HJ:=hid (SX.zlz (SX.z1b.z7a AW.out) Bf.nice AM.out);have HH:=hid (z1w A3.out G.out.cor (by omega) (by omega));have EH:=hid G.out.cor;have En:=hid ((G.out.fine (by omega)).mono (N':=1000000000) (by omega));have EB:=hid (G.out.start (by omega) 0);clear Bf;generalize hA:SX.all xi.s=A at*;have EC:=hid hA;clear hA;go_wp2_with fail;refine HH.out.mono ?_;rintro e EU ⟨AD,EV,rfl,C9⟩;have Ca:=hid (SrT.fresh A3.out.zlt C9);have Bg:=hid (J.out.trans (AD.mono EA));have Cb:=hid (AY.out.below AD);have HSt:=hid (zdp (A3.out.below AD) Bg.out.size 0 (by omega) (by omega) En.out);clear AD C9 HH A3 J AY En;go_wp2_with fail;refine HSt.out.mono ?_;rintro e EW ⟨rfl,Cc,Cd,EI,Bh⟩;have Bi:=hid (Bg.out.trans Cd);have Ce:=hid (Bh _ _ Ca.out);have Cf:=hid (Bh _ _ Cb.out);have Eo:=hid (zeA Cc Bi.out.size EB.out (by omega) (by omega));clear Cc Cd Bh HSt Bg Ca Cb;go_wp2_with fail;refine Eo.out.mono ?_;rintro e EX ⟨EY,EZ,F0,rfl,Cg,Ch,Ci,EJ,Bj⟩;have Bl:=hid (Bi.out.trans Ci);have Cj:=hid (Bj _ _ _ Ce.out);have Ck:=hid (Bj _ _ _ Cf.out);have A8:=hid (z1w Cg Ch.cor (by omega) (by omega));rw[EC.out] at A8;clear Cg Ch Ci Bj Eo Bi Ce Cf;go_wp2_with fail;refine A8.out.mono ?_;rintro e F1 ⟨AE,F2,rfl,Cl⟩;have Bm:=hid (Bl.out.trans (AE.mono Bl.out.size));have Bo:=hid (Cj.out.below AE);have Cm:=hid (Ck.out.below AE);have V:=hid (z4g Cl Bo.out.own Aw.out);clear AE Cl A8 Bl Cj Ck;go_wp2_with fail;refine V.out.mono ?_;rintro e F3 ⟨rfl,AF⟩;have Bp:=hid (Bm.out.trans (AF.mono Bm.out.size));have Bq:=hid (Bo.out.below AF);have Br:=hid (Cm.out.below AF);have CN:=hid (z4N Br.out.own Bq.out.own AW.out Aw.out);rw[HJ.out.1] at CN
      clear AF V Bm Bo Cm;go_wp2_with fail;refine CN.out.mono ?_;rintro e F4 ⟨F5,rfl,Cn,AG⟩;have Bt:=hid (Bp.out.trans (AG.mono Bp.out.size));have Bu:=hid (Bq.out.below AG);have Bv:=hid (Br.out.below AG);have Co:=hid Cn;have CO:=hid (z4N Bu.out.own Bv.out.own Aw.out AW.out);rw[HJ.out.2] at CO;clear Cn AG CN Bp Bq Br;go_wp2_with fail;refine CO.out.mono ?_;rintro e F6 ⟨F7,rfl,Cp,Aq⟩;have Bw:=hid (Bt.out.trans (Aq.mono Bt.out.size));have Cq:=hid (Bu.out.below Aq);have Cr:=hid (Bv.out.below Aq);have Cs:=hid (z4g (SrT.below (Zh:=λ_=>False) (SrT.z0b Co.out λj hj=>hj.elim) Aq).own Cp Aw.out);clear Cp Aq CO Bt Bu Bv Co;go_wp2_with fail;refine Cs.out.mono ?_;rintro e F8 ⟨rfl,AH⟩;have By:=hid (Bw.out.trans (AH.mono Bw.out.size));have Bz:=hid (Cq.out.below AH);have Ct:=hid (Cr.out.below AH);have CP:=hid (z4N Bz.out.own Ct.out.own Aw.out AW.out);rw[HJ.out.2] at CP;clear AH Cs Bw Cq Cr;go_wp2_with fail;refine CP.out.mono ?_;rintro e F9 ⟨Fa,rfl,Cu,BA⟩;have Ep:=hid (By.out.trans (BA.mono By.out.size));have Er:=hid (z1C Cu Aw.out);have Es:=hid (z1C (Bz.out.below BA).own Aw.out);clear Cu BA CP By Bz Ct;go_wp2_with fail;refine Er.out.mono ?_;rintro e Fb ⟨rfl,rfl⟩;clear Er;go_wp2_with fail;refine Es.out.mono ?_;rintro e Fc ⟨rfl,rfl⟩;clear Es;go_wp2_with fail;go_ret;exact⟨rfl,Ay.out.trans (Ep.out.mono Ay.out.size)⟩
end
section
open Go.RowKit Go.Maps
theorem zga (ao bo mo:Option Addr)(l later:List Stp)(g:Gn)(cl cb q:Nat)(w:World)(hW:z0X w)(U:1<w.heap.size)(hL:zia w ao l)(hB:zia w bo later)(hM:z2O w mo g.M)(V:∀x∈g.M,i64 x.op)(Y:i64 g.fr)(A1:i64 g.tt):
  Calls q6 3 #[.slice ao l.length cl,gnV mo q g,.slice bo later.length cb] w λe w'=>e= .returned (.bool true)/\Below w.heap.size w w':=by
 by_cases hs:z5t l=true/\z5t later=true/\shM g.M=true
 .exact zfl ao bo mo l later g cl cb q w hW U hL hB hM V Y A1 hs.1 hs.2.1 hs.2.2
 .obtain⟨M,fr,tt⟩:=g;dsimp only at*;have h:Below w.heap.size w (w.alloc (.cells #[.slice mo M.length q,.int .i64 fr,.int .i64 tt] 25)):=(Below.refl _ w).alloc (qq _) _;have G:=qu w (.cells #[.slice mo M.length q,.int .i64 fr,.int .i64 tt] 25);obtain⟨O,A2⟩:∃O,O=w.alloc (.cells #[.slice mo M.length q,.int .i64 fr,.int .i64 tt] 25):=⟨_,rfl⟩;rw[<-A2] at h G;have d0:=z01 _ _ _ _ G 0 _ rfl;have A3:=hid (z4b ao l cl O (hL.below h));have A4:=hid (z4b bo later cb O (hB.below h));have A5:=hid (zbb mo M q O (hM.below h));have J:=hid h;have HN:=hid hs;clear h G hL hB hM V Y A1 hs hW U;generalize z5t l=b1 at*;generalize z5t later=b2 at*;generalize shM M=b3 at*;go_enter func3,ntmps3;subst A2;go_wp2_with fail;generalize w.alloc (.cells #[.slice mo M.length q,.int .i64 fr,.int .i64 tt] 25)=O at*;refine A3.out.mono ?_;rintro e w2 ⟨rfl,rfl⟩;clear A3;cases b1 with
  | false=>
   clear HN;go_wp2_with fail;go_ret;exact⟨rfl,J.out⟩
  | true=>
   go_wp2_with fail;refine A4.out.mono ?_;rintro e w3 ⟨rfl,rfl⟩;clear A4;cases b2 with
   | false=>
    clear HN;go_wp2_with fail;go_ret;exact⟨rfl,J.out⟩
   | true=>
    go_wp2_with fail;refine A5.out.mono ?_;rintro e w4 ⟨rfl,rfl⟩;clear A5;cases b3 with
    | false=>
     clear HN;go_wp2_with fail;go_ret;exact⟨rfl,J.out⟩
    | true=>exact absurd (by simp) HN.out
end
section
open Go.ChangeShapes Go.WideShapes Go.ChangeAt Go.WideMaps Go.WideElems Go.RowKit
theorem Tryz.own:ownKnob q6.godebug=none:=by kernel_rfl
theorem Tryz.laidOut:laidOutB q6=true:=by kernel_rfl
theorem zq6 {n:Int}(h:(rX .i64 n).wf=true): -9223372036854775808<=n/\n<=9223372036854775807:=by
 have q:qW.min= -9223372036854775808:=rfl;have G:qW.max=9223372036854775807:=rfl;simp only[Lit.wf,Bool.and_eq_true,decide_eq_true_eq] at h;omega
theorem zbd {H:Type}{enc:qn×Value->H}{W:World}{a0:Option Addr}{len cap:Nat}{d:DataW H}{p:List yH}
  (h:td enc q6 W 0 (λ_=>true) true 90 (.slice a0 len cap) d p):
  ∃l:List LB.Lab,len=l.length/\z1t W a0 l:=by
 obtain⟨fuel,hf⟩:=h;rcases ig underlying90 underlying107 (by kernel_rfl) rfl rfl (by kernel_rfl) (by kernel_rfl) hf with⟨q,hx⟩|⟨a,A3,A4,m,nn,V0,V1,D0,D1,P0,P1,q,_,hl,hm,A1,hx,G⟩
 .simp[wQ] at q;obtain⟨rfl,rfl,rfl⟩:=q;exact⟨[],rfl,λi hi=>by simp at hi⟩
 .simp[wQ] at q;obtain⟨rfl,rfl,rfl⟩:=q;simp only[if_true] at A1;have J:∀i,i<len->∃x:LB.Lab,V0 i= .string x.1/\V1 i= .string x.2:=λi hi=>by
   obtain⟨_,_,t0,t1⟩:=G i (by omega);obtain⟨k0,V,_⟩:=tW underlying9 t0;obtain⟨k1,Y,_⟩:=tW underlying9 t1;simp only[tG,and_true] at V Y;exact⟨(k0,k1),V,Y⟩
  obtain⟨X,hX⟩:=tg J;have A2:∀i,i<len->LB.at' ((qN len).map X) i=X i:=λi hi=>by
   simp[LB.at',hi]
  refine⟨(qN len).map X,by simp,λi hi=>?_⟩;have hi:i<len:=by simpa using hi
  rw[A2 i hi];obtain⟨c0,c1,_,_⟩:=G i (by omega);obtain⟨V,Y⟩:=hX i hi;obtain⟨b,off,U⟩:=a;have O:U=none:=by
   have:=ry (G 0 (by omega)).1;simpa [rz] using this
  subst O;rw[add_plain,V] at c0;rw[add_plain,Y] at c1;exact⟨b,off,rfl,c0,c1,qG _ _ c0⟩
theorem za8 {H:Type}{enc:qn×Value->H}{W:World}{a0:Option Addr}{len cap:Nat}{d:DataW H}{p:List yH}
  (h:td enc q6 W 0 (λ_=>true) true 91 (.slice a0 len cap) d p):
  ∃l:List CL.Smp,len=l.length/\z1F W a0 l/\∀s∈l,CL.Rs s:=by
 obtain⟨fuel,hf⟩:=h;rcases ig underlying91 underlying98 (by kernel_rfl) rfl rfl (by kernel_rfl) (by kernel_rfl) hf with⟨q,hx⟩|⟨a,A3,A4,m,nn,V0,V1,D0,D1,P0,P1,q,_,hl,hm,A1,hx,G⟩
 .simp[wQ] at q;obtain⟨rfl,rfl,rfl⟩:=q;exact⟨[],rfl,λi hi=>by simp at hi,λs V=>by simp at V⟩
 .simp[wQ] at q;obtain⟨rfl,rfl,rfl⟩:=q;simp only[if_true] at A1;have J:∀i,i<len->∃x:Int×Int,V0 i= .int .i64 x.1/\V1 i= .int .i64 x.2/\(rX .i64 x.1).wf=true/\(rX .i64 x.2).wf=true:=λi hi=>by
   obtain⟨_,_,t0,t1⟩:=G i (by omega);obtain⟨k0,Y,_,w0⟩:=r8 underlying2 t0;obtain⟨k1,e1,_,w1⟩:=r8 underlying2 t1;simp only[tG,and_true] at Y e1;exact⟨(k0,k1),Y,e1,w0,w1⟩
  obtain⟨X,hX⟩:=tg J;have A2:∀i,i<len->CL.at' ((qN len).map X) i=X i:=λi hi=>by
   simp[CL.at',hi]
  refine⟨(qN len).map X,by simp,λi hi=>?_,λs V=>?_⟩
  .have hi:i<len:=by simpa using hi
   rw[A2 i hi];obtain⟨c0,c1,_,_⟩:=G i (by omega);obtain⟨Y,e1,_,_⟩:=hX i hi;obtain⟨b,off,U⟩:=a;have O:U=none:=by
    have:=ry (G 0 (by omega)).1;simpa [rz] using this
   subst O;rw[add_plain,Y] at c0;rw[add_plain,e1] at c1;exact⟨b,off,rfl,c0,c1,qG _ _ c0⟩
  .rw[qx] at V;obtain⟨i,hi,rfl⟩:=V;obtain⟨_,_,w0,w1⟩:=hX i (by simpa using hi);exact⟨zq6 w0,zq6 w1⟩
end
section
open Go.ChangeShapes Go.WideShapes Go.ChangeAt Go.WideMaps Go.WideElems Go.RowKit
theorem zgz {H:Type}{enc:qn×Value->H}{W:World}{a0:Option Addr}{len cap:Nat}{d:DataW H}{p:List yH}{t e:qn}(O:q6.underlying t=some (.slice e))
  (h:td enc q6 W 0 (λ_=>true) true t (.slice a0 len cap) d p):zmj (.slice a0 len cap):=by
 obtain⟨fuel,U⟩:=h;rcases eP O U with⟨q,Y⟩|⟨a,G,J,m,nn,D,Pl,q,_,V,_⟩
 .simp[wQ] at q;obtain⟨rfl,rfl,rfl⟩:=q;intro so n sc e;cases e;exact⟨qq _,λ_=>rfl⟩
 .simp[wQ] at q;obtain⟨rfl,rfl,rfl⟩:=q;intro so n sc e;cases e;exact⟨V,λe=>by cases e⟩
theorem za0 {H:Type}{enc:qn×Value->H}{W:World}{a0:Option Addr}{len cap:Nat}{d:DataW H}{p:List yH}
  (h:td enc q6 W 0 (λ_=>true) true 39 (.slice a0 len cap) d p):
  ∃l:List Sr,len=l.length/\z4m W (.slice a0 len cap) l/\∀i,i<l.length->∀s∈(z04 l i).2,CL.Rs s:=by
 obtain⟨fuel,hf⟩:=h;rcases eP underlying39 hf with⟨J,hx⟩|⟨a,Aj,Ak,m,nn,D,Pl,J,_,hl,hm,A7,hx,A8⟩
 .simp[wQ] at J;obtain⟨rfl,rfl,rfl⟩:=J;exact⟨[],rfl,⟨none,0,rfl,λi hi=>by simp at hi,λi hi=>by simp at hi,qq _,λ_=>rfl⟩,λi hi=>by simp at hi⟩
 .simp[wQ] at J;obtain⟨rfl,rfl,rfl⟩:=J;simp only[if_true] at A7;have ce:q6.cellsOf 93=2:=by kernel_rfl
  have c0:q6.cellsOf 90=1:=by kernel_rfl
  have c1:q6.cellsOf 91=1:=by kernel_rfl
  have A3:∀i,i<len->∃x:((Option Addr×Nat)×(Option Addr×Nat))×Sr,W.cell? (a.add (i*2))=some (.slice x.1.1.1 x.2.1.length x.1.1.2)/\W.cell? (a.add (i*2+1))=some (.slice x.1.2.1 x.2.2.length x.1.2.2)/\z1t W x.1.1.1 x.2.1/\z1F W x.1.2.1 x.2.2/\(∀s∈x.2.2,CL.Rs s)/\zmj (.slice x.1.2.1 x.2.2.length x.1.2.2):=λi hi=>by
   obtain⟨A9,h1,h2⟩:=A8 i (by omega);rw[ce] at h1;obtain⟨_,O,U⟩:=yJ h1;obtain⟨xs,k,hk,Am,_,Ac,hf⟩:=tE underlying93 h2
   match xs,Ac,A9,O with
   | [y0,y1],_,[v0,v1],_=>
    have g0:=hf 0 _ rfl;have g1:=hf 1 _ rfl;simp[c0,c1] at g0 g1;have Ad:∃a1 G q,v0= .slice a1 G q:=by
     rcases eP underlying90 g0 with⟨J,_⟩|⟨a1,G,q,_,_,_,_,J,_⟩
     .exact⟨none,0,0,by simpa using J⟩
     .exact⟨some a1,G,q,by simpa using J⟩
    have Ae:∃a1 G q,v1= .slice a1 G q:=by
     rcases eP underlying91 g1 with⟨J,_⟩|⟨a1,G,q,_,_,_,_,J,_⟩
     .exact⟨none,0,0,by simpa using J⟩
     .exact⟨some a1,G,q,by simpa using J⟩
    obtain⟨a1,G,q,rfl⟩:=Ad;obtain⟨a2,A1,V,rfl⟩:=Ae;obtain⟨l1,Af,A4⟩:=zbd (enc:=enc) (W:=W) (a0:=a1) (len:=G) (cap:=q) ⟨_,by simpa [wQ] using g0⟩;obtain⟨l2,Ag,A5,Ah⟩:=za8 (enc:=enc) (W:=W) (a0:=a2) (len:=A1) (cap:=V) ⟨_,by simpa [wQ] using g1⟩;have Ai:=zgz (enc:=enc) (W:=W) (a0:=a2) (len:=A1) (cap:=V) underlying91 ⟨_,by simpa [wQ] using g1⟩;subst Af Ag;have q0:=U 0 (by omega);have q1:=U 1 (by omega);rw[uF] at q0 q1;refine⟨(((a1,q),(a2,V)),(l1,l2)),?_,?_,A4,A5,Ah,Ai⟩
    .simpa using q0
    .simpa using q1
  obtain⟨X,hX⟩:=tg A3;have A6:∀i,i<len->z04 ((qN len).map λi=>(X i).2) i=(X i).2:=λi hi=>by
   simp[z04,hi]
  obtain⟨b,off,A2⟩:=a;have Y:∀i,i<len->A2=none:=λi hi=>by
   have:=ry (hX 0 (by omega)).1;simpa [rz] using this
  have O:((qN len).map λi=>(X i).2).length=len:=by simp
  refine⟨(qN len).map λi=>(X i).2,by simp,⟨some ⟨b,off,A2⟩,cap,by rw[O],λi hi=>?_,λi hi b2 Al e v hv=>?_,by rw[O];exact hl,λe=>by cases e⟩,λi hi=>?_⟩
  .have hi:i<len:=by simpa using hi
   rw[A6 i hi];obtain⟨c0,c1,A4,A5,_⟩:=hX i hi;obtain rfl:=Y i hi;rw[add_plain] at c0 c1;exact⟨b,off,rfl,qG _ _ c0,(X i).1.1.1,(X i).1.1.2,(X i).1.2.1,(X i).1.2.2,c0,c1,A4,A5⟩
  .have hi:i<len:=by simpa using hi
   obtain rfl:=Y i hi;cases e;obtain⟨_,c1,_,_,_,hc⟩:=hX i hi;rw[add_plain] at c1;have e3:off+(i*2+1)=off+i*2+1:=by omega
   first
    | rw[c1] at hv;cases hv;exact hc
    | rw[e3] at c1;rw[c1] at hv;cases hv;exact hc
  .have hi:i<len:=by simpa using hi
   rw[A6 i hi];exact(hX i hi).2.2.2.2.1
theorem z4B {H:Type}{enc:qn×Value->H}{W:World}{a0:Option Addr}{len cap:Nat}{d:DataW H}{p:List yH}
  (h:td enc q6 W 0 (λ_=>true) true 23 (.slice a0 len cap) d p):
  ∃l:List LB.Mat,len=l.length/\z2O W a0 l/\(∀x∈l, -9223372036854775808<=x.op/\x.op<=9223372036854775807)/\l.length<=cap/\(a0=none->cap=0):=by
 obtain⟨fuel,V⟩:=h;rcases eP underlying23 V with⟨G,U⟩|⟨a,A7,A8,m,nn,D,Pl,G,_,hl,hm,A2,U,A3⟩
 .simp[wQ] at G;obtain⟨rfl,rfl,rfl⟩:=G;exact⟨[],rfl,λi hi=>by simp at hi,λx U=>by simp at U,by simp,λ_=>rfl⟩
 .simp[wQ] at G;obtain⟨rfl,rfl,rfl⟩:=G;simp only[if_true] at A2;have ce:q6.cellsOf 62=3:=by kernel_rfl
  have c0:q6.cellsOf 9=1:=by kernel_rfl
  have c1:q6.cellsOf 3=1:=by kernel_rfl
  have J:∀i,i<len->∃x:LB.Mat,W.cell? (a.add (i*3))=some (.string x.nm)/\W.cell? (a.add (i*3+1))=some (.int .i64 x.op)/\W.cell? (a.add (i*3+2))=some (.string x.vl)/\ -9223372036854775808<=x.op/\x.op<=9223372036854775807:=λi hi=>by
   obtain⟨A4,h1,h2⟩:=A3 i (by omega);rw[ce] at h1;obtain⟨_,Y,q⟩:=yJ h1;obtain⟨xs,k,hk,A9,_,A5,V⟩:=tE underlying62 h2
   match xs,A5,A4,Y with
   | [y0,y1,y2],_,[v0,v1,v2],_=>
    have g0:=V 0 _ rfl;have g1:=V 1 _ rfl;have g2:=V 2 _ rfl;simp[c0,c1] at g0 g1 g2;obtain⟨k0,e0,_⟩:=tW underlying9 g0;obtain⟨k1,e1,_,w1⟩:=r8 underlying3 g1;obtain⟨k2,e2,_⟩:=tW underlying9 g2;simp only[tG,and_true] at e0 e1 e2;have q0:=q 0 (by omega);have q1:=q 1 (by omega);have q2:=q 2 (by omega);rw[uF] at q0 q1 q2;refine⟨⟨k0,k1,k2⟩,?_,?_,?_,zq6 w1⟩
    .simpa [e0] using q0
    .simpa [e1] using q1
    .simpa [e2] using q2
  have:Inhabited LB.Mat:=⟨⟨qy,0,qy⟩⟩;obtain⟨X,hX⟩:=tg J;have A6:∀i,i<len->LB.am ((qN len).map X) i=X i:=λi hi=>by
   simp[LB.am,hi]
  refine⟨(qN len).map X,by simp,λi hi=>?_,λx U=>?_,by simpa using hl,λh=>by cases h⟩
  .have hi:i<len:=by simpa using hi
   rw[A6 i hi];obtain⟨c0,c1,c2,_⟩:=hX i hi;obtain⟨b,off,A1⟩:=a;have O:A1=none:=by
    have:=ry (hX 0 (by omega)).1;simpa [rz] using this
   subst O;rw[add_plain] at c0 c1 c2;exact⟨b,off,rfl,c0,c1,c2,qG _ _ c0⟩
  .rw[qx] at U;obtain⟨i,hi,rfl⟩:=U;exact(hX i (by simpa using hi)).2.2.2
end
section
open Go.ChangeShapes Go.WideShapes Go.ChangeAt Go.WideMaps Go.WideElems Go.RowKit
theorem z7I {H:Type}{enc:qn×Value->H}{W:World}{a0:Option Addr}{len cap:Nat}{d:DataW H}{p:List yH}
  (h:td enc q6 W 0 (λ_=>true) true 22 (.slice a0 len cap) d p):
  ∃l:List Stp,len=l.length/\zia W a0 l:=by
 obtain⟨fuel,hf⟩:=h;rcases eP underlying22 hf with⟨J,hx⟩|⟨a,Al,Am,m,nn,D,Pl,J,_,hl,hm,A6,hx,A7⟩
 .simp[wQ] at J;obtain⟨rfl,rfl,rfl⟩:=J;exact⟨[],rfl,λi hi=>by simp at hi⟩
 .simp[wQ] at J;obtain⟨rfl,rfl,rfl⟩:=J;simp only[if_true] at A6;have ce:q6.cellsOf 41=6:=by kernel_rfl
  have c0:q6.cellsOf 3=1:=by kernel_rfl
  have c1:q6.cellsOf 39=1:=by kernel_rfl
  have c2:q6.cellsOf 2=1:=by kernel_rfl
  have c3:q6.cellsOf 25=3:=by kernel_rfl
  have c4:q6.cellsOf 23=1:=by kernel_rfl
  have Y:∀i,i<len->∃x:((Option Addr×Nat)×(Option Addr×Nat))×Stp,W.cell? (a.add (i*6))=some (.int .i64 x.2.what)/\W.cell? (a.add (i*6+1))=some (.slice x.1.1.1 x.2.L.length x.1.1.2)/\W.cell? (a.add (i*6+2))=some (.int .i64 x.2.t)/\W.cell? (a.add (i*6+3))=some (.slice x.1.2.1 x.2.M.length x.1.2.2)/\W.cell? (a.add (i*6+4))=some (.int .i64 x.2.fr)/\W.cell? (a.add (i*6+5))=some (.int .i64 x.2.tt)/\zeV W x.1.1.1 x.1.1.2 x.1.2.1 x.1.2.2 x.2:=λi hi=>by
   obtain⟨A8,h1,h2⟩:=A7 i (by omega);rw[ce] at h1;obtain⟨_,A3,O⟩:=yJ h1;obtain⟨xs,k,hk,Ap,_,A9,hf⟩:=tE underlying41 h2
   match xs,A9,A8,A3 with
   | [y0,y1,y2,y3],_,[v0,v1,v2,v3,v4,v5],_=>
    have g0:=hf 0 _ rfl;have g1:=hf 1 _ rfl;have g2:=hf 2 _ rfl;have g3:=hf 3 _ rfl;simp[c0,c1,c2,c3] at g0 g1 g2 g3;obtain⟨n0,e0,_,w0⟩:=r8 underlying3 g0;obtain⟨n2,e2,_,w2⟩:=r8 underlying2 g2;obtain⟨ys,k3,Aq,Ao,_,Ac,hg⟩:=tE underlying25 g3
    match ys,Ac with
    | [z0,z1,z2],_=>
     have s0:=hg 0 _ rfl;have s1:=hg 1 _ rfl;have s2:=hg 2 _ rfl;simp[c2,c4] at s0 s1 s2;obtain⟨n4,e4,_,w4⟩:=r8 underlying2 s1;obtain⟨n5,e5,_,w5⟩:=r8 underlying2 s2;have Ad:∃U G q,v1= .slice U G q:=by
      rcases eP underlying39 g1 with⟨J,_⟩|⟨U,G,q,_,_,_,_,J,_⟩
      .exact⟨none,0,0,by simpa using J⟩
      .exact⟨some U,G,q,by simpa using J⟩
     have Ae:∃U G q,v3= .slice U G q:=by
      rcases eP underlying23 s0 with⟨J,_⟩|⟨U,G,q,_,_,_,_,J,_⟩
      .exact⟨none,0,0,by simpa using J⟩
      .exact⟨some U,G,q,by simpa using J⟩
     obtain⟨U,G,q,rfl⟩:=Ad;obtain⟨a2,A4,V,rfl⟩:=Ae;obtain⟨l1,Af,A1,Ag⟩:=za0 (enc:=enc) (W:=W) (a0:=U) (len:=G) (cap:=q) ⟨_,by simpa [wQ] using g1⟩;obtain⟨l2,Ah,Ai,Aj⟩:=z4B (enc:=enc) (W:=W) (a0:=a2) (len:=A4) (cap:=V) ⟨_,by simpa [wQ] using s0⟩;subst Af Ah;simp only[tG,and_true] at e0 e2 e4 e5;have q0:=O 0 (by omega);have q1:=O 1 (by omega);have q2:=O 2 (by omega);have q3:=O 3 (by omega);have q4:=O 4 (by omega);have q5:=O 5 (by omega);rw[uF] at q0 q1 q2 q3 q4 q5;refine⟨(((U,q),(a2,V)),⟨n0,l1,n2,l2,n4,n5⟩),?_,?_,?_,?_,?_,?_,⟨A1,Ag,Ai,Aj.1,zq6 w2,zq6 w4,zq6 w5,zq6 w0⟩⟩
     .simpa [e0] using q0
     .simpa using q1
     .simpa [e2] using q2
     .simpa using q3
     .simpa [e4] using q4
     .simpa [e5] using q5
  have:Inhabited Stp:=⟨⟨0,[],0,[],0,0⟩⟩;obtain⟨X,hX⟩:=tg Y;have Ak:∀i,i<len->atP ((qN len).map λi=>(X i).2) i=(X i).2:=λi hi=>by
   simp[atP,hi]
  refine⟨(qN len).map λi=>(X i).2,by simp,λi hi=>?_⟩;have hi:i<len:=by simpa using hi
  rw[Ak i hi];obtain⟨c0,c1,c2,c3,c4,c5,A1⟩:=hX i hi;obtain⟨b,off,A5⟩:=a;have A2:A5=none:=by
   have:=ry (hX 0 (by omega)).1;simpa [rz] using this
  subst A2;rw[add_plain] at c0 c1 c2 c3 c4 c5;exact⟨b,off,rfl,qG _ _ c0,(X i).1.1.1,(X i).1.1.2,(X i).1.2.1,(X i).1.2.2,c0,c1,c2,c3,c4,c5,A1⟩
theorem zfd {H:Type}{enc:qn×Value->H}{W:World}{cs:Array Value}{d:DataW H}{p:List yH}(V:cs.size=3)
  (h:td enc q6 W 0 (λ_=>true) true 25 (.agg cs) d p):
  ∃(mo:Option Addr) (mk:Nat) (g:Gn),cs=#[.slice mo g.M.length mk,.int .i64 g.fr,.int .i64 g.tt]/\z2O W mo g.M/\(∀x∈g.M,i64 x.op)/\i64 g.fr/\i64 g.tt:=by
 obtain⟨fuel,hf⟩:=h;have c2:q6.cellsOf 2=1:=by kernel_rfl
 have c4:q6.cellsOf 23=1:=by kernel_rfl
 obtain⟨xs,k,hk,A5,_,Y,hg⟩:=tE underlying25 hf;obtain⟨l⟩:=cs
 match xs,Y,l,V with
 | [z0,z1,z2],_,[v0,v1,v2],_=>
  have s0:=hg 0 _ rfl;have s1:=hg 1 _ rfl;have s2:=hg 2 _ rfl;simp[c2,c4,wQ] at s0 s1 s2;obtain⟨n4,e4,_,w4⟩:=r8 underlying2 s1;obtain⟨n5,e5,_,w5⟩:=r8 underlying2 s2;have A1:∃a1 q G,v0= .slice a1 q G:=by
   rcases eP underlying23 s0 with⟨O,_⟩|⟨a1,q,G,_,_,_,_,O,_⟩
   .exact⟨none,0,0,by simpa using O⟩
   .exact⟨some a1,q,G,by simpa using O⟩
  obtain⟨a2,U,J,rfl⟩:=A1;obtain⟨l2,A2,A3,A4⟩:=z4B (enc:=enc) (W:=W) (a0:=a2) (len:=U) (cap:=J) ⟨_,by simpa [wQ] using s0⟩;subst A2;simp only[tG,and_true] at e4 e5;subst e4 e5;exact⟨a2,J,⟨l2,n4,n5⟩,rfl,A3,A4.1,zq6 w4,zq6 w5⟩
end
end Go.Proofs.YtemeblgngidldaaGreatDoor
