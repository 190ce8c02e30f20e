/- Texts put together and made smaller by program: CsSameK SoGs SoWld SoTell SoSame SoPk BkOneS SoStd SoGoes SoCrN SoCrash SoCrAll HdOpenC BkOpenS SoPOpen SoCrOpen. -/
import Derived.Test.YtemeblgngidldaaGreatDoorPC14
import Derived.ProofKit
import Derived.Deep.SlicePairs
import Derived.Carry
import Derived.OpenShut
import Derived.Stop.Joined
set_option linter.unusedVariables false
set_option linter.unusedSimpArgs false
set_option maxRecDepth 100000
set_option maxHeartbeats 12800000
open And renaming intro->qv
open ByteArray renaming empty->qy
open Go renaming wpQuiet_nil->tM,heap_alloc_new->qu,method->ug,TypeId->qn,loadVar->pW,underlying->o7,run_callFunc_extern->qU,wp_loop_rounds->oF,rounds_succ->rV,MemPlace->yH
open Go.Addr renaming add->rz
open Go.DataW renaming Trod->td,trod_string->tW,trod_int->r8,trod_struct->tE
open Go.Deep renaming open_slice_pairs->ig,choose_lt->tg,open_slice->eP,add_add->uF
open Go.Instr renaming indexAt->yf,loadAt->wZ,typeAssert->yy
open Go.IntKind renaming i64->qW,u8->yR,u64->wj,wrap_u64->eA
open Go.Lit renaming int->rX
open Go.Result renaming andThen->rr
open Go.Sem renaming run_bind->ye
open Go.Value renaming int->wM,cells->wQ
open Go.World renaming block_lt_of_cell?->qG,cell?_alloc_lt->qQ,cell?_alloc_at->ia,frozen?_alloc_old->wO,cell?_setCell_same->yo,cell?_spot->ry,cells?_some->yJ
open Int renaming emod_lt_of_pos->iX,emod_nonneg->oO,le_refl->eL
open List renaming mem_singleton->qk,drop_succ_cons->iP,drop_zero->um,take_succ_cons->uf,take_zero->oI,range->qN,mem_map->qx,length_take->qb,getD_eq_getElem?_getD->q7,getElem?_eq_getElem->qw
open List.cons renaming injEq->tG
open Nat renaming le_refl->qq,zero_le->qh,le_trans->qi,lt_of_lt_of_le->qe,ne_of_lt->pz,mod_lt->pI,le_succ->wP
open Option.some renaming inj->qt
open Go.Proofs.Tryz renaming prog->q6
open Go.Proofs.Tryz
namespace Go.Proofs.YtemeblgngidldaaGreatDoor
section
open Go.RowKit
theorem zis (a:List LB.Lab):LB.cmp a a=0:=LB.zcp a a rfl (λ_ _=>(LB.cL_ord.zero _ _).2 rfl)
theorem zjh (q G:Option Addr)(a:List CL.Smp)(J O:Nat)(w:World)(U:z1I w q a)(V:z1I w G a)(Y:a.length<=1000000):
  Calls q6 40 #[.slice q a.length J,.slice G a.length O] w λe w'=>e= .returned (.bool true)/\Below w.heap.size w w':=by
 have h:=zcO q G a a J O w U V (by omega);rw[decide_eq_true rfl] at h;exact h
theorem z2h (b off n c i:Nat)(h:i<n)(w:World):(yf 39 (.slice (some ⟨b,off,none⟩) n c) (.int .i64 (i:Int))).run q6 w= .ok (.pointer (some ⟨b,off+i*2,none⟩)) w:=by
 rw[run_indexAt_slice (P:=q6) w 39 ⟨b,off,none⟩ n c .i64 (i:Int) (by kernel_rfl),if_pos (by omega)];have G:(sizeOf (q6.elem 39)).run q6 w= .ok 2 w:=by kernel_rfl
 have e:(⟨b,off,none⟩:Addr).add (i*2)=⟨b,off+i*2,none⟩:=by
  unfold rz;by_cases q:i*2=0
  .rw[q];simp
  .simp[q]
 rw[G];show Result.ok (Value.pointer (some ((⟨b,off,none⟩:Addr).add (i*2)))) w=_;rw[e]
theorem z6f (b k:Nat)(q:Option Addr)(n c:Nat)(w:World)(h:w.cell? ⟨b,k,none⟩=some (.slice q n c)):(wZ 90 (.pointer (some ⟨b,k,none⟩))).run q6 w= .ok (.slice q n c) w:=by
 have G:(q6.info? 90).map (·.size)=some 1:=by kernel_rfl
 go_simp
theorem z6j (b k:Nat)(q:Option Addr)(n c:Nat)(w:World)(h:w.cell? ⟨b,k,none⟩=some (.slice q n c)):(wZ 91 (.pointer (some ⟨b,k,none⟩))).run q6 w= .ok (.slice q n c) w:=by
 have G:(q6.info? 91).map (·.size)=some 1:=by kernel_rfl
 go_simp
theorem z7n (ao bo:Option Addr)(l:List Sr)(ca cb:Nat)(w:World)(hA:z0r w ao l)(hB:z0r w bo l)(hl:zfL l):
  Calls q6 12 #[.slice ao l.length ca,.slice bo l.length cb] w λe w'=>e= .returned (.bool true)/\Below w.heap.size w w':=by
 have HA:=hid hA;have Ai:=hid hB;have HF:=hid hl;have Ap:=hl.1;clear hA hB hl;go_enter func12,ntmps12;go_wp2;go_loopw [5] (λti wr=>∃i:Nat,i<=l.length/\ti= .int .i64 i/\Below w.heap.size w wr) (λti _=>l.length-(intOf ti).toNat)
 case atStart=>exact⟨0,by omega,rfl,Below.refl _ _⟩
 case round=>
  obtain⟨i,hi,rfl,O⟩:=hrel;have A4:=hid O;have Aq:=O.size;by_cases J:i<l.length
  .obtain⟨b1,off,Aj,A5,lo,lc,so,sc,A6,A7,A8,A9⟩:=HA.out i J;subst Aj;obtain⟨b2,q,Ak,A2,U,V,Y,A1,Ac,Ad,Ae,Af⟩:=Ai.out i J;subst Ak;obtain⟨A3,Ag⟩:=HF.out.2 i J;have G:Hid (∀W:World,Below w.heap.size w W->W.cell? ⟨b1,off+i*2,none⟩=some (.slice lo (z03 l i).1.length lc)/\W.cell? ⟨b2,q+i*2,none⟩=some (.slice U (z03 l i).1.length V)/\W.cell? ⟨b1,off+i*2+1,none⟩=some (.slice so (z03 l i).2.length sc)/\W.cell? ⟨b2,q+i*2+1,none⟩=some (.slice Y (z03 l i).2.length A1)):=λW hb=>⟨(hb.cell (p:=⟨b1,off+i*2,none⟩) A5).trans A6,(hb.cell (p:=⟨b2,q+i*2,none⟩) A2).trans Ac,(hb.cell (p:=⟨b1,off+i*2+1,none⟩) A5).trans A7,(hb.cell (p:=⟨b2,q+i*2+1,none⟩) A2).trans Ad⟩
   have Al:Hid (∀W,Below w.heap.size w W->Calls q6 39 #[.slice lo (z03 l i).1.length lc,.slice U (z03 l i).1.length V] W λe w'=>e= .returned (.int .i64 0)/\Below w.heap.size w w'):=λW hb=>by
    have h:=z3X lo U (z03 l i).1 (z03 l i).1 lc V W (A8.below hb) (Ae.below hb) A3 A3;rw[zis] at h;exact h.mono (λe w' ⟨h1,h2⟩=>⟨h1,hb.trans (h2.mono hb.size)⟩)
   have Am:Hid (∀W,Below w.heap.size w W->Calls q6 40 #[.slice so (z03 l i).2.length sc,.slice Y (z03 l i).2.length A1] W λe w'=>e= .returned (.bool true)/\Below w.heap.size w w'):=λW hb=>
    (zjh so Y (z03 l i).2 sc A1 W (A9.below hb) (Af.below hb) Ag).mono (λe w' ⟨h1,h2⟩=>⟨h1,hb.trans (h2.mono hb.size)⟩)
   clear A6 A7 Ac Ad A8 A9 Ae Af A3 Ag O;generalize (z03 l i).1.length=ln at*;generalize (z03 l i).2.length=sn at*;go_wp2_with fail;refine z0t (λW=>Below w.heap.size w W) (by kernel_rfl) (by kernel_rfl) A4.out.drew ?_;refine z0c (.slice (some ⟨b1,off,none⟩) l.length ca) (by kernel_rfl) (λW _=>by kernel_rfl) ?_;go_frame;refine z0c (.int .i64 (i:Int)) (by kernel_rfl) (λW _=>by kernel_rfl) ?_;go_frame;refine z1y (.pointer (some ⟨b1,off+i*2,none⟩)) (by kernel_rfl) rfl (by kernel_rfl) (by kernel_rfl) (z2h b1 off l.length ca i J) ?_;go_frame;refine z0c (.pointer (some ⟨b1,off+i*2,none⟩)) (by kernel_rfl) (λW _=>by kernel_rfl) ?_;go_frame;refine z19 (.slice lo ln lc) (by kernel_rfl) rfl (by kernel_rfl) (λW hW=>z6f b1 (off+i*2) lo ln lc W (G.out W hW).1) ?_;go_frame;refine z0c (.slice (some ⟨b2,q,none⟩) l.length cb) (by kernel_rfl) (λW _=>by kernel_rfl) ?_;go_frame;refine z0c (.int .i64 (i:Int)) (by kernel_rfl) (λW _=>by kernel_rfl) ?_;go_frame;refine z1y (.pointer (some ⟨b2,q+i*2,none⟩)) (by kernel_rfl) rfl (by kernel_rfl) (by kernel_rfl) (z2h b2 q l.length cb i J) ?_;go_frame;refine z0c (.pointer (some ⟨b2,q+i*2,none⟩)) (by kernel_rfl) (λW _=>by kernel_rfl) ?_;go_frame;refine z19 (.slice U ln V) (by kernel_rfl) rfl (by kernel_rfl) (λW hW=>z6f b2 (q+i*2) U ln V W (G.out W hW).2.1) ?_;go_frame;refine z3n (.int .i64 0) (by kernel_rfl) (λW=>by kernel_rfl) (λW hW=>Al.out W hW) ?_;go_frame;refine z0c (.bool false) (by kernel_rfl) (λW _=>by kernel_rfl) ?_;go_frame;refine z0c (.bool false) (by kernel_rfl) (λW _=>by kernel_rfl) ?_;go_frame;refine z0c (.slice (some ⟨b1,off,none⟩) l.length ca) (by kernel_rfl) (λW _=>by kernel_rfl) ?_;go_frame;refine z0c (.int .i64 (i:Int)) (by kernel_rfl) (λW _=>by kernel_rfl) ?_;go_frame;refine z1y (.pointer (some ⟨b1,off+i*2,none⟩)) (by kernel_rfl) rfl (by kernel_rfl) (by kernel_rfl) (z2h b1 off l.length ca i J) ?_
   go_frame;refine z0c (.pointer (some ⟨b1,off+i*2+1,none⟩)) (by kernel_rfl) (λW _=>by kernel_rfl) ?_;go_frame;refine z19 (.slice so sn sc) (by kernel_rfl) rfl (by kernel_rfl) (λW hW=>z6j b1 (off+i*2+1) so sn sc W (G.out W hW).2.2.1) ?_;go_frame;refine z0c (.slice (some ⟨b2,q,none⟩) l.length cb) (by kernel_rfl) (λW _=>by kernel_rfl) ?_;go_frame;refine z0c (.int .i64 (i:Int)) (by kernel_rfl) (λW _=>by kernel_rfl) ?_;go_frame;refine z1y (.pointer (some ⟨b2,q+i*2,none⟩)) (by kernel_rfl) rfl (by kernel_rfl) (by kernel_rfl) (z2h b2 q l.length cb i J) ?_;go_frame;refine z0c (.pointer (some ⟨b2,q+i*2+1,none⟩)) (by kernel_rfl) (λW _=>by kernel_rfl) ?_;go_frame;refine z19 (.slice Y sn A1) (by kernel_rfl) rfl (by kernel_rfl) (λW hW=>z6j b2 (q+i*2+1) Y sn A1 W (G.out W hW).2.2.2) ?_;go_frame;refine z3n (.bool true) (by kernel_rfl) (λW=>by kernel_rfl) (λW hW=>Am.out W hW) ?_;go_frame;refine z0c (.bool false) (by kernel_rfl) (λW _=>by kernel_rfl) ?_;go_frame;refine z0c (.bool false) (by kernel_rfl) (λW _=>by kernel_rfl) ?_;go_frame;refine tM ?_;intro w5 Ah;have Ao:=hid Ah;clear Ah;go_wp2_with fail;go_roundw
   case rel=>exact⟨i+1,by omega,by go_num,Ao.out⟩
   case measure=>simp[intOf];omega
  .have he:i=l.length:=by omega
   clear O;subst he;go_wp2;go_ret;exact⟨rfl,A4.out⟩
end
section
open Go.RowKit Go.Maps
theorem z8w (V:Option Addr)(l:List Sr)(cap:Nat)(w:World)(Y:z0r w V l)(hl:l.length<=4000)(hs:∀i,i<l.length->(z03 l i).2.length<=2000):
  Calls q6 14 #[.slice V l.length cap] w λe w'=>e= .returned (.int .i64 (HD.total l:Int))/\w'=w:=by
 have HL:=hid Y;have G:=hid hs;clear Y hs;go_enter func14,ntmps14;go_wp2;go_loop [3,4] (λtc J=>∃i:Nat,i<=l.length/\J= .int .i64 i/\tc= .int .i64 (HD.total (l.take i))/\HD.total (l.take i)<=i*2000) (λ_ J=>l.length-(intOf J).toNat)
 case atStart=>exact⟨0,by omega,rfl,rfl,qq _⟩
 case round=>
  obtain⟨i,hi,rfl,rfl,O⟩:=hrel;by_cases h:i<l.length
  .obtain⟨b,off,U,A1,lo,lc,so,sc,A2,A3,_,_⟩:=HL.out i h;subst U;have q:=hid (HD.z14 l i h);have A4:=G.out i h;generalize (z03 l i).2.length=n at*;generalize (z03 l i).1.length=m at*;generalize HD.total (l.take i)=t at*;have A5:0<=(i:Int)/\(i:Int)<(l.length:Int):=by omega
   go_wp2_with fail;go_round
   case rel=>exact⟨i+1,by omega,by go_num,by rw[q.out];go_num,by rw[q.out];omega⟩
   case measure=>simp[intOf];omega
  .have he:i=l.length:=by omega
   subst he;rw[List.take_length] at O ⊢;generalize hT:HD.total l=t at*;have q:=hid hT;clear hT;go_wp2_with fail;go_ret;exact⟨by rw[q.out];rfl,rfl⟩
theorem z8P {S:List Sr}(h:HD.Good S):zfL S:=⟨by have:=h.few;omega,λi hi=>by
 have q:=h.ok _ (HD.at_mem S i hi);have G:=SX.z9c q.1;have J:=((z1c _).1 q.2.1).1;omega⟩
section
variable {w : World} {v u : Value} {a b S : List Sr} {b1 b2 : Nat}
theorem z8s (q:z0a w b1 v S)(h:HD.Good S):
  Calls q6 14 #[v] w λe w'=>e= .returned (.int .i64 (HD.total S:Int))/\w'=w:=by
 obtain⟨G,cap,rfl,J⟩:=z0r.z08 q;exact z8w G S cap w J h.few λi hi=>((z1c _).1 (h.ok _ (HD.at_mem S i hi)).2.1).1
theorem z3f (h:z0a w b1 v S)(q:z0a w b2 u S)(G:HD.Good S):
  Calls q6 12 #[v,u] w λe w'=>e= .returned (.bool true)/\Below w.heap.size w w':=by
 obtain⟨J,O,rfl,U⟩:=z0r.z08 h;obtain⟨V,Y,rfl,hq⟩:=z0r.z08 q;exact z7n J V S O Y w U hq (z8P G)
theorem z9V {g:Nat}{mo:Option Addr}{mc cg:Nat}{gn:Gn}(h:z0a w b1 v S)(q:HD.Good S)(hb:w.heap[g]? =some (.cells #[.slice mo gn.M.length mc,.int .i64 gn.fr,.int .i64 gn.tt] 25)) (G:z3s w mo gn.M) (J:gn.M.length<=1000):
  Calls q6 13 #[v,.slice (some ⟨g,0,none⟩) 1 cg] w λe w'=>∃r,e= .returned r/\z0a w' w.heap.size r (HD.kp (SX.goN gn) S)/\Below w.heap.size w w':=by
 obtain⟨O,U,rfl,V,Y,r3,r4⟩:=z5i.z08 h;have:=zhK O (some ⟨g,0,none⟩) S [gn] U cg w V q (zez.one hb G) (by simp) (λi hi=>by
  have:i=0:=by simp at hi;omega
  subst this;exact J)
 rw[zcs] at this;exact this
theorem SrT.fresh {w w':World}{Zh:Nat->Prop}(q:∀j,Zh j->j<w.heap.size)(h:z0a w' w.heap.size v S):SrT w' Zh v S:=SrT.z08 h q
end
end
section
open Go.RowKit Go.Maps
theorem z0z.one {w:World}{Z:Nat->Prop}{b off:Nat}{L:List Sr}(h:z0z w Z (some ⟨b,off,none⟩) L){i:Nat}(hi:i<L.length):z0z w Z (some ⟨b,off+i*2,none⟩) [z03 L i]:=λk G=>by
 obtain rfl:k=0:=by simpa using G
 obtain⟨b',q,e,J,O,lo,U,so,sc,c0,c1,V,Y⟩:=h i hi;cases e;have e:z03 [z03 L i] 0=z03 L i:=rfl;rw[e];exact⟨b,off+i*2,rfl,J,O,lo,U,so,sc,by simpa using c0,by simpa using c1,V,Y⟩
theorem zjp.one {w:World}{b off:Nat}{L:List Sr}(h:zjp w (some ⟨b,off,none⟩) L){i:Nat}(hi:i<L.length):zjp w (some ⟨b,off+i*2,none⟩) [z03 L i]:=λk G O q e v J=>by
 obtain rfl:k=0:=by simpa using G
 cases e;exact h i hi b off rfl v (by simpa using J)
theorem zaw {K:Nat}:∀{L:List Sr},(∀y∈L,y.2.length<=K)->HD.total L<=K*L.length
 | [],_=>by simp[HD.total]
 | y::L,h=>by
  have G:=zaw (L:=L) λz q=>h z (List.mem_cons_of_mem _ q)
  have J:=h y List.mem_cons_self;have e:HD.total (y::L)=y.2.length+HD.total L:=by simp[HD.total]
  rw[e,List.length_cons,Nat.mul_add];omega
def zlS (w:World)(Zh:Nat->Prop)(x:SX.St)(s:Stp)(e:Ending)(w':World):Prop:=
 Below w.heap.size w w'/\∃ra rk rc ok,e= .returned (.tuple #[.slice ra rk rc,.bool ok])/\(ok=true->∃R,SrT w' Zh (.slice ra rk rc) R/\HD.Good R/\∀y,Did s x y->R=SX.all y.s)
theorem zhr {W0 w:World}{bs bd c m a k:Nat}{Zh:Nat->Prop}{D:DK.M}{p:Int}{up:Bool}{x:SX.St}{va so mo:Option Addr}{vk vc sc mc:Nat}{s:Stp}(h:SoL W0.heap.size w bs bd c m Zh D p up x)(hc:SX.Cor a k x)(ha:a+20<=50)(hm:m<=100000)(hv:SrT w Zh (.slice va vk vc) (SX.all x.s))(hI:zeB W0 so sc mo mc s)(hW:Below W0.heap.size W0 w)(hS:shS s.L=true)(hM:shM s.M=true):
  Calls q6 18 #[.slice va vk vc,.pointer (some ⟨bs,0,none⟩),znP so sc mo mc s] w λe w'=>zlS w Zh x s e w':=by
 obtain⟨bw,cnt,Z,dn,hb,bm,BR,vg,od,A5,_⟩:=h;have A9:Below w.heap.size w (w.alloc (.cells #[.int .i64 s.what,.slice so s.L.length sc,.int .i64 s.t,.slice mo s.M.length mc,.int .i64 s.fr,.int .i64 s.tt] 41)):=(Below.refl _ w).alloc (qq _) _;have A1:=qu w (.cells #[.int .i64 s.what,.slice so s.L.length sc,.int .i64 s.t,.slice mo s.M.length mc,.int .i64 s.fr,.int .i64 s.tt] 41);obtain⟨w1,Ai⟩:∃w1,w1=w.alloc (.cells #[.int .i64 s.what,.slice so s.L.length sc,.int .i64 s.t,.slice mo s.M.length mc,.int .i64 s.fr,.int .i64 s.tt] 41):=⟨_,rfl⟩;rw[<-Ai] at A9 A1;have d0:=z01 _ _ _ _ A1 0 _ rfl;have d1:=z01 _ _ _ _ A1 1 _ rfl;have d2:=z01 _ _ _ _ A1 2 _ rfl;have d3:=z01 _ _ _ _ A1 3 _ rfl;have d4:=z01 _ _ _ _ A1 4 _ rfl;have d5:=z01 _ _ _ _ A1 5 _ rfl;have Ac:=hid A9;have Ad:=hid A1;have Aj:=hid (A5.below A9);have G:=hid hc;have HV:=hid (hv.below A9);have AR:∀j,Zh j->j<w.heap.size:=A5.now.hd.lt;have Bu:=hid A5.now.hd.kind;have AD:=hid AR;have HI:=hid hI;have HW:=hid (hW.trans (A9.mono hW.size));have Ar:=hid (qv hS hM);clear A9 A1 A5 hc hv hI hW hS hM AR;obtain⟨sw,L,st,M,sf,se⟩:=s;dsimp only at*;by_cases e0:sw=0
 .subst e0;have AU:=hid (z6B Aj.out);go_enter func18,ntmps18;subst Ai;go_wp2_with fail;generalize w.alloc (.cells #[.int .i64 0,.slice so L.length sc,.int .i64 st,.slice mo M.length mc,.int .i64 sf,.int .i64 se] 41)=w1 at*;refine AU.out.mono ?_;rintro e w2 ⟨rfl,U⟩;have HN:=hid (z6o x.s.mark w2);have Ak:=hid (z0u Ac.out U);have J:=hid ((U.block _ (z00 Ad.out)).trans Ad.out);have Ae:=hid (HV.out.below U);have A4:=hid (HW.out.trans (U.mono HW.out.size));clear U AU Aj Ac Ad HV HW d0 d1 d2 d3 d4 d5;go_wp2_with fail;refine HN.out.mono ?_;rintro e w3 ⟨rfl,rfl⟩;have Au:=hid (HSt.new x.s.mark w2);have Al:Hid (Below w2.heap.size w2 (w2.alloc (.cells #[.int .i64 x.s.mark,.slice none 0 0] 165))):=hid ((Below.refl _ w2).alloc (qq _) _);clear HN;generalize w2.alloc (.cells #[.int .i64 x.s.mark,.slice none 0 0] 165)=w3 at*;have AV:=hid Au.out.hd.tight;have AW:=(of_decide_eq_true Ar.out.1).1;go_wp2_with fail;go_loopw [9,10] (λtv ti wr=>∃(i:Nat) (Zt:Nat->Prop) (Hh out:List Sr) (oa:Option Addr) (ok oc:Nat),i<=L.length/\ti= .int .i64 i/\tv= .slice oa ok oc/\HdT wr w2.heap.size Zt x.s.mark Hh/\(∀j,Zt j->w2.heap.size<=j)/\Below w2.heap.size w2 wr/\SX.Wl1 a x L i Hh out/\SrT wr (λj=>Zt j\/Zh j) (.slice oa ok oc) out) (λ_ ti _=>L.length-(intOf ti).toNat)
  case atStart=>
   obtain⟨Zt,q1,q2⟩:=AV.out;exact⟨0,Zt,[],SX.all x.s,va,vk,vc,qh _,rfl,rfl,q1,λj O=>Au.out.low j (q2 j O),Al.out,SX.Wl1.start G.out L,(Ae.out.wide (Z':=λj=>Zt j\/Zh j) λj O=>O.elim (λe=> .inr (Au.out.low j (q2 j e))) .inl).below Al.out⟩
  case round=>
   obtain⟨i,Zt,Hh,out,oa,ok,oc,hi,rfl,rfl,AX,Az,Y,AY,AZ⟩:=hrel;have A6:=hid ((Y.block _ (z00 J.out)).trans J.out);have Av:=hid (A4.out.trans (Y.mono A4.out.size));have AE:=hid (z0u Ak.out Y);have AF:=hid AX;have A7:=hid Az;have A8:=hid Y;have V:=hid AY;have Aw:=hid AZ;have B0:=hid (Ae.out.below Y);clear AX Az Y AY AZ Al Au AV;have d0:=z01 _ _ _ _ A6.out 0 _ rfl;have d1:=z01 _ _ _ _ A6.out 1 _ rfl;by_cases A2:i<L.length
   .obtain⟨AG,Bv,Af,Bw⟩:=HI.out.zlq;obtain⟨b,off,By,BS,_⟩:=AG i A2;subst By;have AA:z0z wr Zt (some ⟨b,off,none⟩) L:=(z0z.z6x AG λj O=>qi A4.out.size (A7.out j O)).kept (ZFr.below Av.out);have Ag:=(zb8 Ar.out.1 HI.out.rs).2.2;have hR:∀y∈[z03 L i],∀q∈y.2,CL.Rs q:=λy hy=>by rw[qk.1 hy];exact HI.out.rs i A2
    have HC:=hid (z2F w2.heap.size Zt x.s.mark Hh [z03 L i] (some ⟨b,off+i*2,none⟩) (sc-i) wr AF.out.toI V.out.good (AA.one A2) (by simp) (λk hk=>by
     obtain rfl:k=0:=by simpa using hk
     have:=Ag i A2;exact⟨by show(z03 L i).1.length<=1000;omega,by show(z03 L i).2.length<=1000;omega⟩) (λk hk=>hR _ (HD.at_mem _ k hk)))
    have BQ:L.length<=sc:=Af;have BU:0<=(i:Int)/\(i:Int)<(L.length:Int)/\(i:Int)+1<=(sc:Int):=by omega
    clear AA Ag AG Bv Af Bw;go_wp2_with fail;refine HC.out.mono ?_;rintro e w4 ⟨⟨ev,rfl,Ax⟩,B3,AH⟩;have Ah:Below w2.heap.size w2 w4:=A8.out.trans (AH.low A8.out.size A7.out);have B5:=hid Ah;have AB:=hid (z0u Ak.out Ah);have AC:=hid ((Ah.block _ (z00 J.out)).trans J.out);have Bz:=hid (A4.out.trans (Ah.mono A4.out.size));have BA:=hid (Ae.out.below Ah);obtain⟨Z4,B6,Am⟩:=B3.tight;have BB:∀j,(Zt j\/Zh j)->∃cc ee,wr.heap[j]? =some (.cells cc ee)/\(ee=165\/ee=98):=λj O=>by
     rcases O with e|e
     .exact AF.out.kind j e
     .obtain⟨cc,ee,k1,k2⟩:=Bu.out j e;exact⟨cc,ee,(AE.out.block j (AD.out j e)).trans k1,k2⟩
    have AJ:=hid (SrT.step (Z':=λj=>Z4 j\/Zh j) Aw.out BB (ZFr.mono AH λj e=> .inl e) λj O=>by
     rcases O with e|e
     .rcases Am j e with q|q
      .exact .inl (.inl q)
      .exact .inr q
     .exact .inl (.inr e))
    have Ao:∀j,Z4 j->w2.heap.size<=j:=λj O=>by
     rcases Am j O with q|q
     .exact A7.out j q
     .exact qi A8.out.size q.1
    have Ap:=hid B6;have AK:=hid Ao;have HR:=hid hR;clear Ah B3 AH B6 Am Ao hR HC A6 Av AE A8 AF A7 Aw B0 d0 d1;have d0:=z01 _ _ _ _ AC.out 0 _ rfl;have d1:=z01 _ _ _ _ AC.out 1 _ rfl;by_cases ek:(HD.app x.s.mark Hh [z03 L i]).1=(0, -1)
    .have Ba:ev= .nilIface:=by
      rcases Ax with⟨_,e⟩|⟨e,_⟩|⟨_,e,_⟩
      .exact e
      .rw[ek] at e;cases e
      .rw[ek] at e;exact absurd rfl e
     subst Ba;have BC:=hid (V.out.step G.out (λy hy=>by
      obtain⟨j,O,rfl⟩:=HD.z3T hy;exact HI.out.rs j O) A2 ek)
     have Bb:=(SX.zgi ek (HR.out _ (qk.2 rfl))).2.1.good (by omega);obtain⟨BD,BF,eo,r1,r2,r3,r4⟩:=z5i.z08 AJ.out.own;have AL:=(HI.out.below Bz.out).zlq;have Bc:z0z w4 (λ_=>False) (some ⟨b,off,none⟩) L:=z0z.z6x AL.1 λj e=>e.elim
     have AM:=zbr BD (some ⟨b,off+i*2,none⟩) out [z03 L i] BF (sc-i) w4 r1 (Bc.one A2).row (V.out.pts.good (by omega)) Bb r2 (zjp.one AL.2.1 A2) r3 (by show 1<=sc-i;omega) r4 (λe=>by cases e);rw[<-eo] at AM;have Be:=hid AM;clear Ax ek Bb r1 r2 r3 r4 eo AL Bc AM AJ;go_wp2_with fail;refine Be.out.mono ?_;rintro e w5 ⟨r5,rfl,AO,A3⟩;obtain⟨ra,rc,er,_⟩:=z0r.z08 AO;subst er;have BG:=hid (SrT.z08 (Z:=λj=>Z4 j\/Zh j) AO λj O=>O.elim (Ap.out.lt j) λe=>qe (AD.out j e) AB.out.size);have BV:=hid (Ap.out.toI.below A3);have AP:=hid (z0u B5.out A3);have BH:=hid (show HdT w5 w2.heap.size Z4 x.s.mark (HD.app x.s.mark Hh [z03 L i]).2 from Ap.out.kept λg c e _ hg=>A3.block g (z00 hg));clear AO A3 Be Ap B5 d0 d1;go_wp2_with fail;go_roundw
     case rel=>exact⟨i+1,Z4,_,_,ra,_,rc,by omega,by go_num,rfl,BH.out,AK.out,AP.out,BC.out,BG.out⟩
     case measure=>simp[intOf]<;>omega
    .have Bf:∃tv vv,ev= .iface tv vv:=by
      rcases Ax with⟨e,_⟩|⟨_,e⟩|⟨_,_,pp,e,_⟩
      .exact absurd e ek
      .exact⟨_,_,e⟩
      .exact⟨_,_,e⟩
     obtain⟨tv,vv,rfl⟩:=Bf;have HE:Hid (∀y,Did ⟨0,L,st,M,sf,se⟩ x y->SX.all x.s=SX.all y.s):=hid (by
      intro y hd;cases hd with
      | app _ _ h=>exact absurd (V.out.zku G.out (λy hy=>by
        obtain⟨j,O,rfl⟩:=HD.z3T hy;exact HI.out.rs j O) A2 h) ek
      | none _ h=>rw[show L=[] from h] at A2
      | cut h=>cases h
      | del h=>cases h
      | cmp h=>cases h
      | ret h=>cases h
      | not h=>exact absurd rfl h)
     have Aq:=hid (G.out.pts.good (by omega));clear Ax ek AJ Ap;go_wp2_with fail;go_ret2;exact⟨AB.out,_,_,_,_,rfl,λ_=>⟨_,BA.out,Aq.out,HE.out⟩⟩
   .have he:i=L.length:=by omega
    subst he;have BI:=V.out.pts.tot;have BJ:=G.out.pts.tot;have Ag:=zb8 Ar.out.1 HI.out.rs;have hr:=(HI.out.below Av.out).zlq;have Bg:Hid (∀W,Below wr.heap.size wr W->Calls q6 14 #[.slice oa ok oc] W λe w'=>e= .returned (.int .i64 (HD.total out:Int))/\Below wr.heap.size wr w'):=hid λW k=>(z8s ((Aw.out.below k).own) (V.out.pts.good (by omega))).mono λe w' ⟨h1,h2⟩=>⟨h1,by rw[h2];exact k⟩
    have Bh:Hid (∀W,Below wr.heap.size wr W->Calls q6 14 #[.slice va vk vc] W λe w'=>e= .returned (.int .i64 (HD.total (SX.all x.s):Int))/\Below wr.heap.size wr w'):=hid λW k=>(z8s ((B0.out.below k).own) (G.out.pts.good (by omega))).mono λe w' ⟨h1,h2⟩=>⟨h1,by rw[h2];exact k⟩
    have Bi:Hid (∀W,Below wr.heap.size wr W->Calls q6 14 #[.slice so L.length sc] W λe w'=>e= .returned (.int .i64 (HD.total L:Int))/\Below wr.heap.size wr w'):=hid λW k=>(z8w so L sc W ((HI.out.below Av.out).below k).zlq.1 (by omega) (λk hk=>by have:=Ag.2.2 k hk;omega)).mono λe w' ⟨h1,h2⟩=>⟨h1,by rw[h2];exact k⟩
    have Bj:Hid (∀W,Below wr.heap.size wr W->(wZ 39 (.pointer (some ⟨w.heap.size,1,none⟩))).run q6 W= .ok (.slice so L.length sc) W):=hid λW k=>zgp _ _ _ _ _ W ((k.cell (p:=⟨w.heap.size,1,none⟩) (z00 A6.out)).trans d1)
    have HE:Hid (∀y,Did ⟨0,L,st,M,sf,se⟩ x y->out=SX.all y.s):=hid (by
     intro y hd;cases hd with
     | app _ _ h=>exact V.out.done G.out (λy hy=>by
       obtain⟨j,O,rfl⟩:=HD.z3T hy;exact HI.out.rs j O) h
     | none _ h=>
      have hL:L=[]:=h;subst hL;refine SX.ext V.out.pts.nice G.out.pts.nice λM' q=>?_
      have he:(HD.app x.s.mark x.s.H ([]:List Sr)).1=(0, -1):=rfl;rw[(V.out.run he).2];have e0:SX.zhN x.s.mark x.s.H [] ([]:List Sr).length=x.s.H:=rfl;rw[e0];exact⟨λe=>e.elim id (G.out.inH M' q),.inl⟩
     | cut h=>cases h
     | del h=>cases h
     | cmp h=>cases h
     | ret h=>cases h
     | not h=>exact absurd rfl h)
    have BM:=hid (V.out.pts.good (by omega));have Bl:HD.total L<=60*L.length:=zaw λy hy=>by
     obtain⟨j,O,rfl⟩:=HD.z3T hy;exact(Ag.2.2 j O).2
    have Bm:HD.total (SX.all x.s)<=2000:=by omega
    have Bo:HD.total out<=2000:=by omega
    clear BI BJ Ag hr;generalize HD.total L=tL at*;generalize HD.total (SX.all x.s)=tA at*;generalize HD.total out=tO at*;have HT:=hid (qv Bm (qv Bl (qv Bo AW)));clear Bl Bm Bo;go_wp2_with fail;refine z0t (λW=>Below wr.heap.size wr W) (by kernel_rfl) (by kernel_rfl) (Below.refl _ wr).drew ?_;refine z0c (.slice oa ok oc) (by kernel_rfl) (λW _=>by kernel_rfl) ?_;go_frame;refine z0c (.slice oa ok oc) (by kernel_rfl) (λW _=>by kernel_rfl) ?_;go_frame;refine z3n (.int .i64 (tO:Int)) (by kernel_rfl) (λW=>by kernel_rfl) (λW hW=>Bg.out W hW) ?_;go_frame;refine z0c (.slice va vk vc) (by kernel_rfl) (λW _=>by kernel_rfl) ?_;go_frame;refine z3n (.int .i64 (tA:Int)) (by kernel_rfl) (λW=>by kernel_rfl) (λW hW=>Bh.out W hW) ?_;go_frame;refine z0c (.pointer (some ⟨w.heap.size,1,none⟩)) (by kernel_rfl) (λW _=>by kernel_rfl) ?_;go_frame;refine z19 (.slice so L.length sc) (by kernel_rfl) rfl (by kernel_rfl) (λW hW=>Bj.out W hW) ?_;go_frame;refine z3n (.int .i64 (tL:Int)) (by kernel_rfl) (λW=>by kernel_rfl) (λW hW=>Bi.out W hW) ?_;go_frame;refine z0c (.int .i64 (qW.wrap ((tA:Int)+(tL:Int)))) (by kernel_rfl) (λW _=>by go_simp) ?_;go_frame;refine z0c (.bool ((tO:Int)==qW.wrap ((tA:Int)+(tL:Int)))) (by kernel_rfl) (λW _=>by go_simp) ?_;go_frame;refine z0c (.slice oa ok oc) (by kernel_rfl) (λW _=>by kernel_rfl) ?_;go_frame;refine z0c (.bool ((tO:Int)==qW.wrap ((tA:Int)+(tL:Int)))) (by kernel_rfl) (λW _=>by kernel_rfl) ?_;go_frame;refine tM ?_;intro w5 A3;have AP:=hid A3;have Bp:=hid ((Aw.out.wide (Z':=Zh) λj O=> .inl (.inr O)).below A3);clear A3 Bg Bh Bi Bj;generalize ((tO:Int)==qW.wrap ((tA:Int)+(tL:Int)))=q at*;go_wp2_with fail;go_ret2;exact⟨z0u AE.out AP.out,_,_,_,_,rfl,λ_=>⟨_,Bp.out,BM.out,HE.out⟩⟩
 .by_cases e2:sw=2
  .subst e2;have BW:=(of_decide_eq_true Ar.out.2).1;have HA:=hid (z7d mo M mc w1 ((HI.out.below HW.out).mat) (by show M.length<=1000;omega));generalize Bq:LB.asked M=qa at*;have BN:=hid Bq;clear Bq;go_enter func18,ntmps18;subst Ai;go_wp2_with fail;generalize w.alloc (.cells #[.int .i64 2,.slice so L.length sc,.int .i64 st,.slice mo M.length mc,.int .i64 sf,.int .i64 se] 41)=w1 at*;refine HA.out.mono ?_;rintro e w2 ⟨rfl,U⟩;have Ak:=hid (z0u Ac.out U);have Ae:=hid (HV.out.below U);have J:=hid ((U.block _ (z00 Ad.out)).trans Ad.out);have A4:=hid (HW.out.trans (U.mono HW.out.size));have d0:=z01 _ _ _ _ J.out 0 _ rfl;have d1:=z01 _ _ _ _ J.out 1 _ rfl;have d2:=z01 _ _ _ _ J.out 2 _ rfl;have d3:=z01 _ _ _ _ J.out 3 _ rfl;have d4:=z01 _ _ _ _ J.out 4 _ rfl;have d5:=z01 _ _ _ _ J.out 5 _ rfl;have Aq:=hid (G.out.pts.good (by omega));clear U HA Ac Ad HV HW Aj;cases qa with
   | false=>
    have HE:Hid (∀y,Did ⟨2,L,st,M,sf,se⟩ x y->SX.all x.s=SX.all y.s):=hid (by
     intro y hd;cases hd with
     | app h=>cases h
     | none h=>cases h
     | cut h=>cases h
     | del _ h=>rw[show LB.asked M=false from BN.out] at h;cases h
     | cmp h=>cases h
     | ret h=>cases h
     | not _ _ h=>exact absurd rfl h)
    go_wp2_with fail;go_ret2;exact⟨Ak.out,_,_,_,_,rfl,λ_=>⟨_,Ae.out,Aq.out,HE.out⟩⟩
   | true=>
    have HE:Hid (∀y,Did ⟨2,L,st,M,sf,se⟩ x y->HD.kp (SX.goN ⟨M,sf,se⟩) (SX.all x.s)=SX.all y.s):=hid (by
     intro y hd;cases hd with
     | app h=>cases h
     | none h=>cases h
     | cut h=>cases h
     | del _ h=>
      rw[SX.zg3 G.out.fit];exact(SX.zfN G.out.fit.inv _).symm
     | cmp h=>cases h
     | ret h=>cases h
     | not _ _ h=>exact absurd rfl h)
    have Ay:Below w2.heap.size w2 (w2.alloc (.cells #[.slice mo M.length mc,.int .i64 sf,.int .i64 se] 25)):=(Below.refl _ w2).alloc (qq _) _;have Br:=hid λ(cg:Nat)=>z9V (gn:=⟨M,sf,se⟩) (mc:=mc) (cg:=cg) ((Ae.out.below Ay).own) Aq.out (qu w2 (.cells #[.slice mo M.length mc,.int .i64 sf,.int .i64 se] 25)) ((HI.out.below A4.out).mat.below Ay) (by show M.length<=1000;omega)
    have AQ:=hid (z0u Ak.out Ay);have BX:=z9i w.heap.size 3 mo M.length mc sf se w2 d3 d4 d5;clear Ay;go_wp2_with fail;refine(Br.out 1).mono ?_;rintro e w3 ⟨r3,rfl,Af,Bt⟩;obtain⟨ra,rc,er,_⟩:=z0r.z08 Af;subst er;have BO:=hid (SrT.z08 (Z:=Zh) Af λj O=>qe (AD.out j O) AQ.out.size);have Al:=hid (z0u AQ.out Bt);have BP:=hid (HD.z3h (p:=SX.goN ⟨M,sf,se⟩) Aq.out);clear Af Bt Br AQ;go_wp2_with fail;go_ret2;exact⟨Al.out,_,_,_,_,rfl,λ_=>⟨_,BO.out,BP.out,HE.out⟩⟩
  .by_cases e4:sw=4
   .subst e4;go_enter func18,ntmps18;subst Ai;go_wp2_with fail;go_ret2;exact⟨Ac.out,_,_,_,_,rfl,λe=>by cases e⟩
   .have q0:(sw==0)=false:=by simpa using e0
    have q2:(sw==2)=false:=by simpa using e2
    have q4:(sw==4)=false:=by simpa using e4
    have HE:Hid (∀y,Did ⟨sw,L,st,M,sf,se⟩ x y->SX.all x.s=SX.all y.s):=hid (by
     intro y hd;cases hd with
     | app h=>exact absurd h e0
     | none h=>exact absurd h e0
     | cut _ _ _ _=>exact(SX.zeK G.out.fit.inv _).symm
     | del h=>exact absurd h e2
     | cmp _ h=>exact(SX.z7e G.out.fit.inv h).symm
     | ret h=>exact absurd h e4
     | not _ _ _ _ _=>rfl)
    go_enter func18,ntmps18;subst Ai;go_wp2_with fail;go_ret2;exact⟨Ac.out,_,_,_,_,rfl,λ_=>⟨_,HV.out,G.out.pts.good (by omega),HE.out⟩⟩
end
section
open Go.RowKit Go.Extern.Stop Go.Stop Go.Extern
theorem z7x (t:Addr)(w:World):(ReflectliteValue.unpack (.iface 113 (.pointer (some t)))).run q6 w
  = .ok (.agg #[.pointer (some ⟨5,113,none⟩),.pointer (some ⟨w.heap.size,0,none⟩),.int .u64 150]) (w.alloc (.cells #[.pointer (some t)] 113)):=by kernel_rfl
theorem zdf (a:Addr)(w:World):(ReflectliteValue.methodAny (ReflectliteValue.valueError "reflectlite.Value.Type" 0) (λt _ _ _=>ReflectliteType.toType t) #[.agg #[.pointer (some ⟨5,113,none⟩),.pointer (some a),.int .u64 150]]).run q6 w
  = .ok (.iface 227 (.agg #[.pointer (some ⟨5,113,none⟩)])) w:=by kernel_rfl
theorem z4G (h:Value)(w:World):(ug 479 227 (.agg #[h]) "Kind").run q6 w= .ok (283,h) w:=by kernel_rfl
theorem zcq (w:World):((ReflectliteType.abiMethod λt=>(λa:Nat=>wM yR (a:Int))<$>Rtype.kind t) #[.pointer (some ⟨5,113,none⟩)]).run q6 w= .ok (.int .u8 22) w:=by kernel_rfl
theorem zcJ (w:World):((ReflectliteType.abiMethod λt=>(λa:Nat=>wM yR (a:Int))<$>Rtype.kind t) #[.pointer (some ⟨5,56,none⟩)]).run q6 w= .ok (.int .u8 2) w:=by kernel_rfl
theorem rlm (z:Sem Value)(f:qn->Addr->Nat->Nat->Sem Value)(v:Value):
  ReflectliteValue.method z f #[v]=(do match <-ReflectliteValue.parts v with | none=>z | some (t,a,fl)=>f t a fl (fl%32)):=rfl
theorem z9z (a:Addr)(w:World):(ReflectliteValue.parts (.agg #[.pointer (some ⟨5,113,none⟩),.pointer (some a),.int .u64 150])).run q6 w= .ok (some (113,a,150)) w:=by kernel_rfl
theorem zaD (a p:Addr)(W:World)(h:W.cell? a=some (.pointer (some p))):
  (ReflectliteValue.method (ReflectliteValue.valueError "reflectlite.Value.IsNil" 0) ReflectliteValue.isNil #[.agg #[.pointer (some ⟨5,113,none⟩),.pointer (some a),.int .u64 150]]).run q6 W= .ok (.bool false) W:=by
 rw[rlm];simp only[ye,z9z,rr];simp[ReflectliteValue.isNil,pW,isAgg,o7,underlying113,h,rr]
theorem z4q (h:Value)(w:World):(ug 479 227 (.agg #[h]) "Elem").run q6 w= .ok (295,.agg #[h]) w:=by kernel_rfl
theorem z1T (h:Value)(w:World):(ug 479 227 (.agg #[h]) "Implements").run q6 w= .ok (296,.agg #[h]) w:=by kernel_rfl
theorem z1t (h:Value)(w:World):(ug 479 227 (.agg #[h]) "AssignableTo").run q6 w= .ok (293,.agg #[h]) w:=by kernel_rfl
theorem zcn (w:World):(ReflectliteType.method ReflectliteType.elem #[.agg #[.pointer (some ⟨5,113,none⟩)]]).run q6 w= .ok (.iface 227 (.agg #[.pointer (some ⟨5,56,none⟩)])) w:=by kernel_rfl
theorem z3Q (w:World):(ReflectliteType.relation "Implements" ReflectliteType.implements_ #[.agg #[.pointer (some ⟨5,56,none⟩)],.iface 227 (.agg #[.pointer (some ⟨5,35,none⟩)])]).run q6 w= .ok (.bool true) w:=by kernel_rfl
theorem z8c (v:Value)(w:World):(ReflectliteType.typeOf #[.iface 56 v]).run q6 w= .ok (.iface 227 (.agg #[.pointer (some ⟨5,56,none⟩)])) w:=by kernel_rfl
theorem z3O (w:World):(ReflectliteType.relation "AssignableTo" ReflectliteType.assignableTo #[.agg #[.pointer (some ⟨5,56,none⟩)],.iface 227 (.agg #[.pointer (some ⟨5,56,none⟩)])]).run q6 w= .ok (.bool true) w:=by kernel_rfl
theorem z6s (n:Int)(w:World):(ReflectliteValue.unpack (.iface 56 (.int .i64 n))).run q6 w
  = .ok (.agg #[.pointer (some ⟨5,56,none⟩),.pointer (some ⟨w.heap.size,0,none⟩),.int .u64 130]) (w.alloc (.cells #[.int .i64 n] 56)):=by kernel_rfl
theorem zej (w:World):(Rtype.elem? 113).run q6 w= .ok (some 56) w:=by kernel_rfl
theorem zmj (p:Addr)(w:World):(ReflectliteValue.mk 56 p ReflectliteValue.flagAddr).run q6 w= .ok (.agg #[.pointer (some ⟨5,56,none⟩),.pointer (some p),.int .u64 386]) w:=by kernel_rfl
theorem zcR (a p:Addr)(W:World)(h:W.cell? a=some (.pointer (some p))):
  (ReflectliteValue.method (ReflectliteValue.valueError "reflectlite.Value.Elem" 0) ReflectliteValue.elem #[.agg #[.pointer (some ⟨5,113,none⟩),.pointer (some a),.int .u64 150]]).run q6 W
   = .ok (.agg #[.pointer (some ⟨5,56,none⟩),.pointer (some p),.int .u64 386]) W:=by
 rw[rlm];simp only[ye,z9z,rr];simp[ReflectliteValue.elem,pW,isAgg,o7,underlying113,h,rr,zej,zmj]
theorem zdG (a:Addr)(w:World):(ReflectliteValue.parts (.agg #[.pointer (some ⟨5,56,none⟩),.pointer (some a),.int .u64 386])).run q6 w= .ok (some (56,a,386)) w:=by kernel_rfl
theorem zfa (a:Addr)(w:World):(ReflectliteValue.parts (.agg #[.pointer (some ⟨5,56,none⟩),.pointer (some a),.int .u64 130])).run q6 w= .ok (some (56,a,130)) w:=by kernel_rfl
theorem zeb (w:World):(Rtype.directlyAssignable 56 56).run q6 w= .ok true w:=by kernel_rfl
theorem zob (x y:Value)(h:#[x,y].size=2) (q:0<2):#[x,y].getLit 0 h q=x:=rfl
theorem zoc (x y:Value)(h:#[x,y].size=2) (q:1<2):#[x,y].getLit 1 h q=y:=rfl
theorem zjS (h b:Addr)(n:Int)(old:Value)(W:World)(hb:W.cell? b=some (.int .i64 n))(q:W.cell? h=some old)(G:W.frozen? h=false):
  (ReflectliteValue.set #[.agg #[.pointer (some ⟨5,56,none⟩),.pointer (some h),.int .u64 386],.agg #[.pointer (some ⟨5,56,none⟩),.pointer (some b),.int .u64 130]]).run q6 W
   = .ok (.tuple #[]) (W.setCell h (.int .i64 n)):=by
 delta ReflectliteValue.set ReflectliteValue.set.match_3
 dsimp only;rw[dif_pos (by rfl)];simp only[zob,zoc,ye,zdG,zfa,rr];simp[ReflectliteValue.flagAddr,pW,isAgg,o7,underlying56,hb,rr,zeb,storeVar,wQ,storeCells,rz];rw[run_store q6 W h _ _ (by rfl)];simp[q,G]
def zbJ (w:World):Prop:=w.cell? ⟨0,0,none⟩=some (.iface 227 (.agg #[.pointer (some ⟨5,35,none⟩)]))
theorem zmu (n:Int)(t:Addr)(old:Value)(w:World)(h:zbJ w)(q:w.cell? t=some old)(J:w.frozen? t=false):
  Calls q6 52 #[.iface 56 (.int .i64 n),.iface 113 (.pointer (some t))] w λV w'=>V= .returned (.bool true)/\w'=((((w.alloc (.cells #[.pointer (some t)] 113)).alloc (.cells #[.pointer (some ⟨5,113,none⟩),.pointer (some ⟨w.heap.size,0,none⟩),.int .u64 150] 174)).alloc (.cells #[.pointer (some ⟨5,113,none⟩),.pointer (some ⟨w.heap.size,0,none⟩),.int .u64 150] 174)).alloc (.cells #[.int .i64 n] 56)).setCell t (.int .i64 n):=by
 have U:w.cell? ⟨0,0,none⟩=some (.iface 227 (.agg #[.pointer (some ⟨5,35,none⟩)])):=h;have h6:= @qU q6 103 _ (λargs=>ReflectliteValue.unpack (args.getD 0 (.tuple #[]))) func103 (by kernel_rfl) (by kernel_rfl) (by kernel_rfl) (by kernel_rfl);have h7:= @qU q6 104 _ (ReflectliteValue.methodAny (ReflectliteValue.valueError "reflectlite.Value.Type" 0) (λt _ _ _=>ReflectliteType.toType t)) func104 (by kernel_rfl) (by kernel_rfl) (by kernel_rfl) (by kernel_rfl);have h8:= @qU q6 105 _ (ReflectliteValue.method (ReflectliteValue.valueError "reflectlite.Value.IsNil" 0) ReflectliteValue.isNil) func105 (by kernel_rfl) (by kernel_rfl) (by kernel_rfl) (by kernel_rfl);have Y:= @qU q6 283 _ (ReflectliteType.abiMethod λt=>do pure (.int .u8 (<-Rtype.kind t))) func283 (by kernel_rfl) (by kernel_rfl) (by kernel_rfl) (by kernel_rfl);have A1:= @qU q6 295 _ (ReflectliteType.method ReflectliteType.elem) func295 (by kernel_rfl) (by kernel_rfl) (by kernel_rfl) (by kernel_rfl);have A2:= @qU q6 296 _ (ReflectliteType.relation "Implements" ReflectliteType.implements_) func296 (by kernel_rfl) (by kernel_rfl) (by kernel_rfl) (by kernel_rfl);have A3:= @qU q6 152 _ ReflectliteType.typeOf func152 (by kernel_rfl) (by kernel_rfl) (by kernel_rfl) (by kernel_rfl)
 have A4:= @qU q6 293 _ (ReflectliteType.relation "AssignableTo" ReflectliteType.assignableTo) func293 (by kernel_rfl) (by kernel_rfl) (by kernel_rfl) (by kernel_rfl);have A5:= @qU q6 153 _ (ReflectliteValue.method (ReflectliteValue.valueError "reflectlite.Value.Elem" 0) ReflectliteValue.elem) func153 (by kernel_rfl) (by kernel_rfl) (by kernel_rfl) (by kernel_rfl);have A6:= @qU q6 154 _ ReflectliteValue.set func154 (by kernel_rfl) (by kernel_rfl) (by kernel_rfl) (by kernel_rfl);have tO:=z8c;have mA:=z1t;have A7:=z3O;have A8:=z6s;have f6:=z7x;have f7:=zdf;have mK:=z4G;have mE:=z4q;have mI:=z1T;have A9:=zcq;have Ac:=zcJ;have Ad:=zcn;have Ae:=z3Q;have n8:=zaD ⟨w.heap.size,0,none⟩ t ((w.alloc (.cells #[.pointer (some t)] 113)).alloc (.cells #[.pointer (some ⟨5,113,none⟩),.pointer (some ⟨w.heap.size,0,none⟩),.int .u64 150] 174)) (by simp);have O:0<w.heap.size:=qG _ _ U;have Af:((w.alloc (.cells #[.pointer (some t)] 113)).alloc (.cells #[.pointer (some ⟨5,113,none⟩),.pointer (some ⟨w.heap.size,0,none⟩),.int .u64 150] 174)).cell? ⟨0,0,none⟩=some (.iface 227 (.agg #[.pointer (some ⟨5,35,none⟩)])):=by
  rw[qQ _ _ ⟨0,0,none⟩ (by simp<;>omega),qQ _ _ ⟨0,0,none⟩ O];exact U
 have G:t.block<w.heap.size:=qG _ _ q;have el:=zcR ⟨w.heap.size,0,none⟩ t (((w.alloc (.cells #[.pointer (some t)] 113)).alloc (.cells #[.pointer (some ⟨5,113,none⟩),.pointer (some ⟨w.heap.size,0,none⟩),.int .u64 150] 174)).alloc (.cells #[.pointer (some ⟨5,113,none⟩),.pointer (some ⟨w.heap.size,0,none⟩),.int .u64 150] 174)) (by rw[qQ _ _ ⟨w.heap.size,0,none⟩ (by simp<;>omega)];simp);have st:=zjS t ⟨w.heap.size+1+1+1,0,none⟩ n old ((((w.alloc (.cells #[.pointer (some t)] 113)).alloc (.cells #[.pointer (some ⟨5,113,none⟩),.pointer (some ⟨w.heap.size,0,none⟩),.int .u64 150] 174)).alloc (.cells #[.pointer (some ⟨5,113,none⟩),.pointer (some ⟨w.heap.size,0,none⟩),.int .u64 150] 174)).alloc (.cells #[.int .i64 n] 56))
  (by rw[ia _ _ _ _ (by simp)];rfl)
  (by rw[qQ _ _ t (by simp<;>omega),qQ _ _ t (by simp<;>omega),qQ _ _ t (by simp<;>omega),qQ _ _ t G];exact q)
  (by rw[wO _ _ t (by simp<;>omega),wO _ _ t (by simp<;>omega),wO _ _ t (by simp<;>omega),wO _ _ t (pz G)];exact J)
 clear h;go_enter func52,ntmps52;go_wp2;refine oF 1 ?_;rw[rV];go_wp2;go_ret;exact⟨rfl,rfl⟩
theorem zbJ.below {B:Nat}{w w':World}(h:zbJ w)(hb:Below B w w')(q:0<B):zbJ w':=(hb.cell (p:=⟨0,0,none⟩) q).trans h
theorem zbJ.lt {w:World}(h:zbJ w):0<w.heap.size:=qG _ _ h
theorem ziq (w:World):
  Calls q6 21 #[.nilIface] w λe w'=>e= .returned (.int .i64 0)/\w'=w:=by
 go_enter func21,ntmps21;go_wp2;go_ret;exact⟨rfl,rfl⟩
theorem z8o (n:Int)(w:World)(h:zbJ w):
  Calls q6 21 #[.iface 56 (.int .i64 n)] w λe w'=>e= .returned (.int .i64 n)/\Below w.heap.size w w':=by
 have G:=hid (h.below ((Below.refl w.heap.size w).alloc (qq _) (.cells #[.int .i64 0] 56)) h.lt);clear h;go_enter func21,ntmps21;go_wp2_with fail;refine(zmu n ⟨w.heap.size,0,none⟩ (.int .i64 0) _ G.out (by simp) (by simp)).mono ?_;rintro e w' ⟨rfl,q⟩;have O:w'.cell? ⟨w.heap.size,0,none⟩=some (.int .i64 n):=by
  rw[q];refine yo (u:= .int .i64 0) _ _ _ ?_;rw[qQ _ _ ⟨w.heap.size,0,none⟩ (by simp<;>omega),qQ _ _ ⟨w.heap.size,0,none⟩ (by simp<;>omega),qQ _ _ ⟨w.heap.size,0,none⟩ (by simp<;>omega),qQ _ _ ⟨w.heap.size,0,none⟩ (by simp)];simp
 have J:Hid (Below w.heap.size w w'):=by
  show Below _ _ _;rw[q];refine Below.setCell ?_ (by simp) _;refine Below.alloc (Below.alloc (Below.alloc (Below.alloc (Below.alloc (Below.refl _ _) (qq _) _) ?_ _) ?_ _) ?_ _) ?_ _<;>simp<;>omega
 clear q;go_wp2_with fail;go_ret;exact⟨rfl,J.out⟩
theorem ze8 (v:Value)(w:World):(ReflectliteType.typeOf #[.iface 168 v]).run q6 w= .ok (.iface 227 (.agg #[.pointer (some ⟨5,168,none⟩)])) w:=by kernel_rfl
theorem z7G (w:World):(ReflectliteType.relation "AssignableTo" ReflectliteType.assignableTo #[.agg #[.pointer (some ⟨5,168,none⟩)],.iface 227 (.agg #[.pointer (some ⟨5,56,none⟩)])]).run q6 w= .ok (.bool false) w:=by kernel_rfl
theorem z7s (v:Value)(w:World):(ug 479 168 v "Unwrap").run q6 w= .ok (288,v) w:=by kernel_rfl
theorem zoa (h:Addr)(w:World):(yy (.iface 168 (.pointer (some h))) 35 232 true).run q6 w= .ok (.tuple #[.nilIface,.bool false]) w:=
 run_typeAssert_lacksB underlying232 (by kernel_rfl) (by kernel_rfl) _ _ w
theorem zhL (h:Addr)(w:World):(yy (.iface 168 (.pointer (some h))) 35 235 true).run q6 w= .ok (.tuple #[.iface 168 (.pointer (some h)),.bool true]) w:=by kernel_rfl
theorem znu (n:Int)(pa t:Addr)(old:Value)(w:World)(h:w.cell? pa=some (.int .i64 n))(q:zbJ w)(G:w.cell? t=some old)(O:w.frozen? t=false):
  Calls q6 52 #[.iface 168 (.pointer (some pa)),.iface 113 (.pointer (some t))] w λev w'=>ev= .returned (.bool true)/\w'=((((w.alloc (.cells #[.pointer (some t)] 113)).alloc (.cells #[.pointer (some ⟨5,113,none⟩),.pointer (some ⟨w.heap.size,0,none⟩),.int .u64 150] 174)).alloc (.cells #[.pointer (some ⟨5,113,none⟩),.pointer (some ⟨w.heap.size,0,none⟩),.int .u64 150] 174)).alloc (.cells #[.int .i64 n] 56)).setCell t (.int .i64 n):=by
 have Y:w.cell? ⟨0,0,none⟩=some (.iface 227 (.agg #[.pointer (some ⟨5,35,none⟩)])):=q;have h6:= @qU q6 103 _ (λargs=>ReflectliteValue.unpack (args.getD 0 (.tuple #[]))) func103 (by kernel_rfl) (by kernel_rfl) (by kernel_rfl) (by kernel_rfl);have h7:= @qU q6 104 _ (ReflectliteValue.methodAny (ReflectliteValue.valueError "reflectlite.Value.Type" 0) (λt _ _ _=>ReflectliteType.toType t)) func104 (by kernel_rfl) (by kernel_rfl) (by kernel_rfl) (by kernel_rfl);have h8:= @qU q6 105 _ (ReflectliteValue.method (ReflectliteValue.valueError "reflectlite.Value.IsNil" 0) ReflectliteValue.isNil) func105 (by kernel_rfl) (by kernel_rfl) (by kernel_rfl) (by kernel_rfl);have A1:= @qU q6 283 _ (ReflectliteType.abiMethod λt=>do pure (.int .u8 (<-Rtype.kind t))) func283 (by kernel_rfl) (by kernel_rfl) (by kernel_rfl) (by kernel_rfl);have A2:= @qU q6 295 _ (ReflectliteType.method ReflectliteType.elem) func295 (by kernel_rfl) (by kernel_rfl) (by kernel_rfl) (by kernel_rfl);have A3:= @qU q6 296 _ (ReflectliteType.relation "Implements" ReflectliteType.implements_) func296 (by kernel_rfl) (by kernel_rfl) (by kernel_rfl) (by kernel_rfl);have A4:= @qU q6 152 _ ReflectliteType.typeOf func152 (by kernel_rfl) (by kernel_rfl) (by kernel_rfl) (by kernel_rfl)
 have A5:= @qU q6 293 _ (ReflectliteType.relation "AssignableTo" ReflectliteType.assignableTo) func293 (by kernel_rfl) (by kernel_rfl) (by kernel_rfl) (by kernel_rfl);have A6:= @qU q6 153 _ (ReflectliteValue.method (ReflectliteValue.valueError "reflectlite.Value.Elem" 0) ReflectliteValue.elem) func153 (by kernel_rfl) (by kernel_rfl) (by kernel_rfl) (by kernel_rfl);have A7:= @qU q6 154 _ ReflectliteValue.set func154 (by kernel_rfl) (by kernel_rfl) (by kernel_rfl) (by kernel_rfl);have tO:=z8c;have A8:=ze8;have A9:=z7G;have Ac:=zoa pa;have Ad:=zhL pa;have mU:=z7s;have U:pa.block<w.heap.size:=qG _ _ h;have Ae:(((w.alloc (.cells #[.pointer (some t)] 113)).alloc (.cells #[.pointer (some ⟨5,113,none⟩),.pointer (some ⟨w.heap.size,0,none⟩),.int .u64 150] 174)).alloc (.cells #[.pointer (some ⟨5,113,none⟩),.pointer (some ⟨w.heap.size,0,none⟩),.int .u64 150] 174)).cell? pa=some (.int .i64 n):=by
  rw[qQ _ _ pa (by simp<;>omega),qQ _ _ pa (by simp<;>omega),qQ _ _ pa U];exact h
 have mA:=z1t;have Af:=z3O;have Ag:=z6s;have f6:=z7x;have f7:=zdf;have mK:=z4G;have mE:=z4q;have mI:=z1T;have Ah:=zcq;have Ai:=zcJ;have Aj:=zcn;have Ak:=z3Q;have n8:=zaD ⟨w.heap.size,0,none⟩ t ((w.alloc (.cells #[.pointer (some t)] 113)).alloc (.cells #[.pointer (some ⟨5,113,none⟩),.pointer (some ⟨w.heap.size,0,none⟩),.int .u64 150] 174)) (by simp);have V:0<w.heap.size:=qG _ _ Y;have Al:((w.alloc (.cells #[.pointer (some t)] 113)).alloc (.cells #[.pointer (some ⟨5,113,none⟩),.pointer (some ⟨w.heap.size,0,none⟩),.int .u64 150] 174)).cell? ⟨0,0,none⟩=some (.iface 227 (.agg #[.pointer (some ⟨5,35,none⟩)])):=by
  rw[qQ _ _ ⟨0,0,none⟩ (by simp<;>omega),qQ _ _ ⟨0,0,none⟩ V];exact Y
 have J:t.block<w.heap.size:=qG _ _ G;have el:=zcR ⟨w.heap.size,0,none⟩ t (((w.alloc (.cells #[.pointer (some t)] 113)).alloc (.cells #[.pointer (some ⟨5,113,none⟩),.pointer (some ⟨w.heap.size,0,none⟩),.int .u64 150] 174)).alloc (.cells #[.pointer (some ⟨5,113,none⟩),.pointer (some ⟨w.heap.size,0,none⟩),.int .u64 150] 174)) (by rw[qQ _ _ ⟨w.heap.size,0,none⟩ (by simp<;>omega)];simp);have st:=zjS t ⟨w.heap.size+1+1+1,0,none⟩ n old ((((w.alloc (.cells #[.pointer (some t)] 113)).alloc (.cells #[.pointer (some ⟨5,113,none⟩),.pointer (some ⟨w.heap.size,0,none⟩),.int .u64 150] 174)).alloc (.cells #[.pointer (some ⟨5,113,none⟩),.pointer (some ⟨w.heap.size,0,none⟩),.int .u64 150] 174)).alloc (.cells #[.int .i64 n] 56))
  (by rw[ia _ _ _ _ (by simp)];rfl)
  (by rw[qQ _ _ t (by simp<;>omega),qQ _ _ t (by simp<;>omega),qQ _ _ t (by simp<;>omega),qQ _ _ t J];exact G)
  (by rw[wO _ _ t (by simp<;>omega),wO _ _ t (by simp<;>omega),wO _ _ t (by simp<;>omega),wO _ _ t (pz J)];exact O)
 clear q;go_enter func52,ntmps52;go_wp2;refine oF 2 ?_;rw[rV];go_wp2;rw[rV];go_wp2;go_ret;exact⟨rfl,rfl⟩
theorem zkt (n:Int)(h:Addr)(w:World)(q:zbJ w)(G:w.cell? h=some (.int .i64 n)):
  Calls q6 21 #[.iface 168 (.pointer (some h))] w λe w'=>e= .returned (.int .i64 n)/\Below w.heap.size w w':=by
 have O:=hid (q.below ((Below.refl w.heap.size w).alloc (qq _) (.cells #[.int .i64 0] 56)) q.lt);have U:Hid ((w.alloc (.cells #[.int .i64 0] 56)).cell? h=some (.int .i64 n)):=(qQ _ _ h (qG _ _ G)).trans G;clear q G;go_enter func21,ntmps21;go_wp2_with fail;refine(znu n h ⟨w.heap.size,0,none⟩ (.int .i64 0) _ U.out O.out (by simp) (by simp)).mono ?_;rintro e w' ⟨rfl,J⟩;have Y:w'.cell? ⟨w.heap.size,0,none⟩=some (.int .i64 n):=by
  rw[J];refine yo (u:= .int .i64 0) _ _ _ ?_;rw[qQ _ _ ⟨w.heap.size,0,none⟩ (by simp<;>omega),qQ _ _ ⟨w.heap.size,0,none⟩ (by simp<;>omega),qQ _ _ ⟨w.heap.size,0,none⟩ (by simp<;>omega),qQ _ _ ⟨w.heap.size,0,none⟩ (by simp)];simp
 have V:Hid (Below w.heap.size w w'):=by
  show Below _ _ _;rw[J];refine Below.setCell ?_ (by simp) _;refine Below.alloc (Below.alloc (Below.alloc (Below.alloc (Below.alloc (Below.refl _ _) (qq _) _) ?_ _) ?_ _) ?_ _) ?_ _<;>simp<;>omega
 clear J;go_wp2_with fail;go_ret;exact⟨rfl,V.out⟩
end
section
open Go.RowKit Go.Maps
theorem z9O (ao bo:Option Addr)(l m:List Sr)(ca cb:Nat)(w:World)(hA:z0r w ao l)(hB:z0r w bo m)(hl:zfL l)(hm:zfL m):
  Calls q6 12 #[.slice ao l.length ca,.slice bo m.length cb] w λe w'=>(∃q,e= .returned (.bool q))/\Below w.heap.size w w':=by
 have HA:=hid hA;have Ap:=hid hB;have HF:=hid hl;have HG:=hid hm;have Az:=hl.1;have AA:=hm.1;clear hA hB hl hm;by_cases A8:l.length=m.length
 .have A9:=hid A8;rw[<-A8];clear A8;go_enter func12,ntmps12;go_wp2;go_loopw [5] (λti wr=>∃i:Nat,i<=l.length/\ti= .int .i64 i/\Below w.heap.size w wr) (λti _=>l.length-(intOf ti).toNat)
  case atStart=>exact⟨0,by omega,rfl,Below.refl _ _⟩
  case round=>
   obtain⟨i,hi,rfl,U⟩:=hrel;have Ac:=hid U;have AB:=U.size;by_cases Y:i<l.length
   .obtain⟨b1,off,Aq,Ad,lo,lc,so,sc,Ae,Af,Ag,Ah⟩:=HA.out i Y;subst Aq;obtain⟨b2,G,Ar,A6,A2,A3,A4,A5,Ai,Aj,Ak,Al⟩:=Ap.out i (by have:=A9.out;omega);subst Ar;obtain⟨Am,Au⟩:=HF.out.2 i Y;obtain⟨Ao,Av⟩:=HG.out.2 i (by have:=A9.out;omega);have J:Hid (∀W:World,Below w.heap.size w W->W.cell? ⟨b1,off+i*2,none⟩=some (.slice lo (z03 l i).1.length lc)/\W.cell? ⟨b2,G+i*2,none⟩=some (.slice A2 (z03 m i).1.length A3)/\W.cell? ⟨b1,off+i*2+1,none⟩=some (.slice so (z03 l i).2.length sc)/\W.cell? ⟨b2,G+i*2+1,none⟩=some (.slice A4 (z03 m i).2.length A5)):=λW hb=>⟨(hb.cell (p:=⟨b1,off+i*2,none⟩) Ad).trans Ae,(hb.cell (p:=⟨b2,G+i*2,none⟩) A6).trans Ai,(hb.cell (p:=⟨b1,off+i*2+1,none⟩) Ad).trans Af,(hb.cell (p:=⟨b2,G+i*2+1,none⟩) A6).trans Aj⟩
    have Aw:Hid (∀W,Below w.heap.size w W->Calls q6 39 #[.slice lo (z03 l i).1.length lc,.slice A2 (z03 m i).1.length A3] W λe w'=>e= .returned (.int .i64 (LB.cmp (z03 l i).1 (z03 m i).1))/\Below w.heap.size w w'):=λW hb=>by
     have h:=z3X lo A2 (z03 l i).1 (z03 m i).1 lc A3 W (Ag.below hb) (Ak.below hb) Am Ao;exact h.mono (λe w' ⟨h1,h2⟩=>⟨h1,hb.trans (h2.mono hb.size)⟩)
    have Ax:Hid (∀W,Below w.heap.size w W->Calls q6 40 #[.slice so (z03 l i).2.length sc,.slice A4 (z03 m i).2.length A5] W λe w'=>e= .returned (.bool (decide ((z03 l i).2=(z03 m i).2)))/\Below w.heap.size w w'):=λW hb=>
     (zcO so A4 (z03 l i).2 (z03 m i).2 sc A5 W (Ah.below hb) (Al.below hb) (by omega)).mono (λe w' ⟨h1,h2⟩=>⟨h1,hb.trans (h2.mono hb.size)⟩)
    clear Ae Af Ai Aj Ag Ah Ak Al Am Au Ao Av U;generalize (z03 l i).1.length=ln at*;generalize (z03 l i).2.length=sn at*;generalize (z03 m i).1.length=ln2 at*;generalize (z03 m i).2.length=sn2 at*;generalize decide ((z03 l i).2=(z03 m i).2)=q at*;have A7:=LB.z0R.rng (z03 l i).1 (z03 m i).1;generalize LB.cmp (z03 l i).1 (z03 m i).1=c at*;have V:=hid A7;clear A7;go_wp2_with fail;refine z0t (λW=>Below w.heap.size w W) (by kernel_rfl) (by kernel_rfl) Ac.out.drew ?_;refine z0c (.slice (some ⟨b1,off,none⟩) l.length ca) (by kernel_rfl) (λW _=>by kernel_rfl) ?_;go_frame;refine z0c (.int .i64 (i:Int)) (by kernel_rfl) (λW _=>by kernel_rfl) ?_;go_frame;refine z1y (.pointer (some ⟨b1,off+i*2,none⟩)) (by kernel_rfl) rfl (by kernel_rfl) (by kernel_rfl) (z2h b1 off l.length ca i Y) ?_;go_frame;refine z0c (.pointer (some ⟨b1,off+i*2,none⟩)) (by kernel_rfl) (λW _=>by kernel_rfl) ?_;go_frame;refine z19 (.slice lo ln lc) (by kernel_rfl) rfl (by kernel_rfl) (λW hW=>z6f b1 (off+i*2) lo ln lc W (J.out W hW).1) ?_;go_frame;refine z0c (.slice (some ⟨b2,G,none⟩) l.length cb) (by kernel_rfl) (λW _=>by kernel_rfl) ?_;go_frame;refine z0c (.int .i64 (i:Int)) (by kernel_rfl) (λW _=>by kernel_rfl) ?_;go_frame;refine z1y (.pointer (some ⟨b2,G+i*2,none⟩)) (by kernel_rfl) rfl (by kernel_rfl) (by kernel_rfl) (z2h b2 G l.length cb i Y) ?_;go_frame;refine z0c (.pointer (some ⟨b2,G+i*2,none⟩)) (by kernel_rfl) (λW _=>by kernel_rfl) ?_;go_frame;refine z19 (.slice A2 ln2 A3) (by kernel_rfl) rfl (by kernel_rfl) (λW hW=>z6f b2 (G+i*2) A2 ln2 A3 W (J.out W hW).2.1) ?_;go_frame;refine z3n (.int .i64 c) (by kernel_rfl) (λW=>by kernel_rfl) (λW hW=>Aw.out W hW) ?_;go_frame;rcases V.out with rfl|rfl|rfl
    .clear V;refine z0c (.bool true) (by kernel_rfl) (λW _=>by kernel_rfl) ?_;go_frame;refine z5a (.bool true) 12 (by kernel_rfl) (λW _=>by kernel_rfl) (by kernel_rfl) ?_;simp only[iP,um,uf,oI,zlP];go_frame;refine z0c (.bool true) (by kernel_rfl) (λW _=>by kernel_rfl) ?_;go_frame;refine tM ?_;intro w5 O;have A1:=hid O;clear O;go_wp2_with fail;go_ret;exact⟨⟨_,rfl⟩,A1.out⟩
    .clear V;refine z0c (.bool false) (by kernel_rfl) (λW _=>by kernel_rfl) ?_;go_frame;refine z0c (.bool false) (by kernel_rfl) (λW _=>by kernel_rfl) ?_;go_frame;refine z0c (.slice (some ⟨b1,off,none⟩) l.length ca) (by kernel_rfl) (λW _=>by kernel_rfl) ?_;go_frame;refine z0c (.int .i64 (i:Int)) (by kernel_rfl) (λW _=>by kernel_rfl) ?_;go_frame;refine z1y (.pointer (some ⟨b1,off+i*2,none⟩)) (by kernel_rfl) rfl (by kernel_rfl) (by kernel_rfl) (z2h b1 off l.length ca i Y) ?_;go_frame;refine z0c (.pointer (some ⟨b1,off+i*2+1,none⟩)) (by kernel_rfl) (λW _=>by kernel_rfl) ?_;go_frame;refine z19 (.slice so sn sc) (by kernel_rfl) rfl (by kernel_rfl) (λW hW=>z6j b1 (off+i*2+1) so sn sc W (J.out W hW).2.2.1) ?_;go_frame;refine z0c (.slice (some ⟨b2,G,none⟩) l.length cb) (by kernel_rfl) (λW _=>by kernel_rfl) ?_;go_frame;refine z0c (.int .i64 (i:Int)) (by kernel_rfl) (λW _=>by kernel_rfl) ?_;go_frame;refine z1y (.pointer (some ⟨b2,G+i*2,none⟩)) (by kernel_rfl) rfl (by kernel_rfl) (by kernel_rfl) (z2h b2 G l.length cb i Y) ?_;go_frame;refine z0c (.pointer (some ⟨b2,G+i*2+1,none⟩)) (by kernel_rfl) (λW _=>by kernel_rfl) ?_;go_frame;refine z19 (.slice A4 sn2 A5) (by kernel_rfl) rfl (by kernel_rfl) (λW hW=>z6j b2 (G+i*2+1) A4 sn2 A5 W (J.out W hW).2.2.2) ?_;go_frame;refine z3n (.bool q) (by kernel_rfl) (λW=>by kernel_rfl) (λW hW=>Ax.out W hW) ?_;go_frame;refine z0c (.bool (!q)) (by kernel_rfl) (λW _=>by kernel_rfl) ?_;go_frame;refine z0c (.bool (!q)) (by kernel_rfl) (λW _=>by kernel_rfl) ?_;go_frame;refine tM ?_;intro w5 O;have A1:=hid O;clear O;cases q with
     | true=>
      go_wp2_with fail;go_roundw
      case rel=>exact⟨i+1,by omega,by go_num,A1.out⟩
      case measure=>simp[intOf];omega
     | false=>
      go_wp2_with fail;go_ret;exact⟨⟨_,rfl⟩,A1.out⟩
    .clear V;refine z0c (.bool true) (by kernel_rfl) (λW _=>by kernel_rfl) ?_;go_frame;refine z5a (.bool true) 12 (by kernel_rfl) (λW _=>by kernel_rfl) (by kernel_rfl) ?_;simp only[iP,um,uf,oI,zlP];go_frame;refine z0c (.bool true) (by kernel_rfl) (λW _=>by kernel_rfl) ?_;go_frame;refine tM ?_;intro w5 O;have A1:=hid O;clear O;go_wp2_with fail;go_ret;exact⟨⟨_,rfl⟩,A1.out⟩
   .have he:i=l.length:=by omega
    clear U;subst he;go_wp2;go_ret;exact⟨⟨_,rfl⟩,Ac.out⟩
 .have Ay:¬(l.length:Int)=(m.length:Int):=by omega
  go_enter func12,ntmps12;go_wp2;go_ret;exact⟨⟨_,rfl⟩,Below.refl _ _⟩
end
section
open Go.RowKit
def DK.pk (a:Int)(n:Nat):Nat:=(a%18446744073709551616).toNat%n
theorem DK.zeJ (a:Int){n:Nat}(h:0<n):DK.pk a n<n:=pI _ h
theorem zk9 (a:Int)(n:Nat)(w:World)(hn:0<n)(G:n<=1000000):
  Calls q6 20 #[.int .i64 a,.int .i64 n] w λe w'=>e= .returned (.int .i64 (DK.pk a n))/\w'=w:=by
 obtain⟨U,J,h⟩:∃U:Nat,wj.wrap a=(U:Int)/\U=(a%18446744073709551616).toNat:=⟨(a%18446744073709551616).toNat,by rw[eA];omega,rfl⟩;have q:=hid h;have O:U<18446744073709551616:=by rw[eA] at J;omega
 have V:wj.wrap (n:Int)=n:=by rw[eA];omega
 have Y:(U:Int)%n<n:=iX _ (by omega);have A1:0<=(U:Int)%n:=oO _ (by omega);have hm:qW.wrap ((U:Int)%n)=(U:Int)%n:=by rw[IntKind.wrap_i64];omega
 clear h;go_enter func20,ntmps20;go_wp2;go_ret;refine⟨z0G ?_,rfl⟩;unfold DK.pk;rw[<-q.out];simp
end
section
open Go.RowKit
abbrev znQ (name:ByteArray)(t v:Int):List Sr:=[([(⟨#[110]⟩,name)],[(t,v)])]
theorem zia (name:ByteArray)(t v:Int)(w:World):
  Calls q6 25 #[.string name,.int .i64 t,.int .i64 v] w λe w'=>∃u,e= .returned u/\z0a w' w.heap.size u (znQ name t v)/\Below w.heap.size w w':=by
 go_enter func25,ntmps25;go_wp2_with fail;go_ret;obtain⟨h,q,G⟩:=zh5 w (.cells #[.string ⟨#[110]⟩,.string name] 107) (.cells #[.int .i64 t,.int .i64 v] 98) (.cells #[.slice (some ⟨w.heap.size,0,none⟩) 1 1,.slice (some ⟨w.heap.size+1,0,none⟩) 1 1] 93);exact⟨_,rfl,zky h q G (qq _) (wP _) (by omega),(((Below.refl _ w).alloc (qq _) _).alloc (by simp) _).alloc (by simp;omega) _⟩
end
section
open Go.RowKit Go.Maps
abbrev l5:List Sr:=znQ ⟨#[97]⟩ 5 3
theorem zkm:HD.app (-1099511627777) [] l5=((0, -1),l5):=by decide
theorem zmW:HD.kp (SX.lo 5) l5=l5:=by decide
theorem znD:HD.kp (SX.hi 5) l5=[]:=by decide
theorem znA:SX.z6c 5 (SX.zjO l5 SX.first)=⟨⟨5,[],[⟨0,5,l5⟩],1,0⟩,[]⟩:=by
 have e:SX.app l5 SX.first.s=⟨-1099511627777,l5,[],0,0⟩:=by
  show(⟨-1099511627777,(HD.app (-1099511627777) [] l5).2,[],0,0⟩:SX.Sto)=_;rw[zkm]
 show(⟨SX.cut 5 (SX.app l5 SX.first.s),[]⟩:SX.St)=_;rw[e];unfold SX.cut;rw[if_neg (by rw[zmW];simp)];simp only[zmW,znD];rfl
theorem zmi:zjt ⟨5,[],[⟨0,5,l5⟩],1,0⟩ [] 0 9=l5:=by
 have e:HD.kp (pkP [] 0 9) l5=l5:=by decide
 show SX.jns [HD.kp (pkP [] 0 9) l5,HD.kp (pkP [] 0 9) []]=l5;rw[e];show HD.jn (HD.jn [] l5) []=l5;rw[HD.z5d,HD.z6v]
theorem znh:∀k,k<l5.length->∀q∈(z03 l5 k).2,CL.Rs q:=by
 intro k h q G;have:k=0:=by simp at h;omega
 subst this;have e:q=(5,3):=by simpa [z03] using G
 rw[e];unfold CL.Rs;omega
theorem znt:shS l5=true:=by decide
theorem zlm:zfL l5:=⟨by decide,λi hi=>by
 have:i=0:=by simp at hi;omega
 subst this;exact⟨by decide,by decide⟩⟩
theorem ze2 (w:World)(hW:z0X w)(Aj:1<w.heap.size):
  Calls q6 7 #[] w λe w'=>e= .returned (.bool true)/\Below w.heap.size w w':=by
 have HO:=hid (za5 (n:=w.heap.size) hW Aj (qq _));have AP:Hid (Below w.heap.size w (w.alloc (.cells #[.map none,.bool false,.int .i64 0] 32))):=hid ((Below.refl _ w).alloc (qq _) _);have B5:Hid (w.heap.size<=(w.alloc (.cells #[.map none,.bool false,.int .i64 0] 32)).heap.size):=hid (by simp);clear hW Aj;go_enter func7,ntmps7;go_wp2_with fail;refine HO.out.mono ?_;rintro e w1 ⟨bs,Zh,D1,rfl,Ak,Al,Am,AQ,_⟩;have A4:Below w.heap.size w w1:=AP.out.trans Am;have Ao:=hid Ak;have Ap:=hid Al;have Y:=hid A4;have HK:=hid λW=>zia ⟨#[97]⟩ 5 3 W
 clear Ak Al Am AQ A4 HO;go_wp2_with fail;refine(HK.out _).mono ?_;rintro e w2 ⟨u,rfl,hu,A5⟩;have J:∃ao cap,u= .slice ao l5.length cap/\l5.length<=cap/\∀Z':Nat->Prop,(∀j,Z' j->w.heap.size<=j/\j<w1.heap.size)->z0z w2 Z' ao l5:=by
  obtain⟨ao,cap,e,_⟩:=z0z.z08 hu (Z:=λj=>j<w1.heap.size) λj hj=>hj
  subst e;have O:l5.length<=cap:=by
   obtain⟨xs,_,q,_⟩:=hu;rcases q.2 with⟨h0,hn⟩|⟨g,Aq,B6,h0,_,_,q3,_⟩
   .cases hn
   .cases h0;exact q3
  refine⟨ao,cap,rfl,O,λZ' hz=>?_⟩;obtain⟨Ba,Aq,e,q⟩:=z0z.z08 hu (Z:=Z') λj hj=>(hz j hj).2
  cases e;exact q
 obtain⟨ao,cap,rfl,O,J⟩:=J;have HA:=hid (z8i (s:=⟨0,l5,0,[],0,0⟩) (sc:=cap) Ao.out A5 Ap.out (by omega) (by omega) (by omega) (by omega) (by omega) Y.out.size J O znh znt rfl);have Ar:=hid (Y.out.trans (A5.mono Y.out.size));clear hu A5 J O Ao Ap Y;go_wp2_with fail;refine HA.out.mono ?_;rintro e w3 ⟨ev,D',p',Bb,AR,x3,rfl,Au,Av,_,_,_,h3⟩;have AU:AR=true/\ev= .nilIface/\x3=SX.zjO l5 SX.first/\SX.Lv 1 1 D' x3/\p'= -1:=by
  rcases h3 with⟨_,⟨cd,hr,_⟩,_⟩|⟨q1,q2,q3,q4,q5,_⟩|⟨_,_,q,_⟩
  .rcases hr with⟨_,_,e1,e2⟩|⟨e,_⟩|⟨e,_⟩|⟨e,_⟩|⟨e,_⟩
   .exfalso;apply e2;rw[e1];show(HD.app (-1099511627777) [] l5).1=_;rw[zkm]
   .cases e
   .cases e
   .cases e
   .cases e
  .refine⟨q1,q2,?_,q4,q5 rfl⟩;cases q3 with
   | app _ _ _=>rfl
   | none _ h=>cases h
   | cut h=>cases h
   | del h=>cases h
   | cmp h=>cases h
   | ret h=>cases h
   | not h=>exact absurd rfl h
  .exact absurd rfl q
 obtain⟨rfl,rfl,rfl,Aw,rfl⟩:=AU;have A6:=hid (Ar.out.trans Av);have HC:=hid (zjY (s:=⟨1,[],5,[],0,0⟩) Au Aw (by omega) (by omega) (by omega) (by omega) (by omega) A6.out.size rfl);clear h3 Au Aw Av HA Ar;go_wp2_with fail;refine HC.out.mono ?_;rintro e w4 ⟨ev,D4,p4,Bc,AV,x4,rfl,AW,Ax,_,_,_,h4⟩;have AX:AV=true/\ev= .nilIface/\x4=⟨⟨5,[],[⟨0,5,l5⟩],1,0⟩,[]⟩/\SX.Cor 2 2 x4:=by
  rcases h4 with⟨_,⟨cd,hr,_⟩,_⟩|⟨q1,q2,q3,q4,_⟩|⟨_,_,q,_⟩
  .rcases hr with⟨e,_⟩|⟨_,e,_⟩|⟨_,e,_⟩|⟨e,_⟩|⟨e,_⟩
   .cases e
   .exact absurd ⟨by decide,by decide⟩ e
   .exact absurd e (by show ¬(30<=0);omega)
   .cases e
   .cases e
  .refine⟨q1,q2,?_,q4.cor⟩;rw[<-znA];cases q3 with
   | app h=>cases h
   | none h=>cases h
   | cut _ _ _ _=>rfl
   | del h=>cases h
   | cmp h=>cases h
   | ret h=>cases h
   | not _ h=>exact absurd rfl h
  .exact absurd rfl q
 obtain⟨rfl,rfl,e4,U⟩:=AX;have A7:=hid (A6.out.trans Ax);obtain⟨bw,cnt,Z,dn,hb,bm,mc,vg,od,hI,_,_,Ay,_⟩:=AW;subst e4;have HI:=hid hI;have G:=hid U;have Az:=hid (z8d hI (U.fit.inv.asc.imp λk=>k.1) U.fit.thirty (λb hb=>by have:=Cor.num U b hb;omega) (by omega));have AY:=hid Ay;clear h4 hI U Ax Ay HC A6;go_wp2_with fail;refine Az.out.mono ?_;rintro e w5 ⟨na,nc,ta,tc,rfl,AA,AB,A8⟩;have A9:=hid (HI.out.below A8);have HS:=hid (zfd A9.out none [] 0 0 9 (λi hi=>by cases hi) (by simp) G.out.fit.inv.head (λb hb=>(G.out.ptB hb).good (by omega)) (λi=>(G.out.znN _ i).good (by omega)) (G.out.fit.inv.asc.imp λk=>k.1) G.out.fit.thirty (λb hb=>by have:=Cor.num G.out b hb;omega) (by have:=AY.out;omega));have AC:=hid AA;have AD:=hid AB;have Ac:=hid (A7.out.trans (A8.mono A7.out.size));clear AA AB A8 Az HI A7;go_wp2_with fail;refine HS.out.mono ?_;rintro e w6 ⟨V,⟨hf,_⟩|⟨_,v,rfl,hv⟩⟩
 .cases hf
 rw[zmi] at hv;obtain⟨va,vc,e6,AE⟩:=z0r.z08 hv;subst e6;have A1:=AC.out;have A2:=AD.out;simp only[List.map_cons,List.map_nil,List.length_singleton] at A1 A2;obtain⟨gn,cn,B0,en,_,an,_⟩:=z0d A1 (by omega);cases en;have Ad:=A1.cells (g:=gn) rfl 0 (.int .i64 0) rfl;obtain⟨gt,ct,B3,et,_,at',_⟩:=z0d A2 (by omega);cases et;have Ae:=A2.cells (g:=gt) rfl 0 (.int .i64 5) rfl;rw[Addr.add_lit,Nat.zero_add] at Ad Ae;have Be:w6.cell? ⟨gn,0,none⟩=some (.int .i64 0):=(V.cell (p:=⟨gn,0,none⟩) (z00 an)).trans Ad;have Bf:w6.cell? ⟨gt,0,none⟩=some (.int .i64 5):=(V.cell (p:=⟨gt,0,none⟩) (z00 at')).trans Ae;have AF:=hid (A9.out.below V);have Af:=hid (Ac.out.trans (V.mono Ac.out.size));have AG:=hid AE;clear A1 A2 hv AE V HS AC AD Ac A9 an at' Ad Ae;go_wp2_with fail;refine(HK.out _).mono ?_;rintro e w7 ⟨u7,rfl,AH,A3⟩;obtain⟨ua,uc,eu,AJ⟩:=z0r.z08 AH;subst eu;have AK:=hid (z7n va ua l5 vc uc w7 (AG.out.below A3) AJ zlm);have AL:=hid (AF.out.below A3);have Ag:=hid (Af.out.trans (A3.mono Af.out.size));clear AH A3 AJ AG AF Af HK;go_wp2_with fail;refine AK.out.mono ?_;rintro e w8 ⟨rfl,Ah⟩;have AM:=hid (z6B (AL.out.below Ah));have Ai:=hid (Ag.out.trans (Ah.mono Ag.out.size));clear Ah AK AL Ag;go_wp2_with fail;refine AM.out.mono ?_;rintro e w9 ⟨rfl,AO⟩;have AZ:=hid (Ai.out.trans (AO.mono Ai.out.size));clear AO AM Ai;go_wp2_with fail;go_ret;exact⟨rfl,AZ.out⟩
end
section
open Go.RowKit Go.Maps
theorem zl7.below {w w':World}{q:Option Addr}{l:List Stp}(h:zl7 w q l)(k:Below w.heap.size w w'):zl7 w' q l:=λi hi=>by
 obtain⟨b,off,e,hb,so,sc,mo,mc,c0,c1,c2,G,J,O,U⟩:=h i hi;exact⟨b,off,e,qe hb k.size,so,sc,mo,mc,(k.cell (p:=⟨b,_,none⟩) hb).trans c0,(k.cell (p:=⟨b,_,none⟩) hb).trans c1,(k.cell (p:=⟨b,_,none⟩) hb).trans c2,(k.cell (p:=⟨b,_,none⟩) hb).trans G,(k.cell (p:=⟨b,_,none⟩) hb).trans J,(k.cell (p:=⟨b,_,none⟩) hb).trans O,U.below k⟩
theorem zhe (b off n c i:Nat)(h:i<n)(w:World):(yf 22 (.slice (some ⟨b,off,none⟩) n c) (.int .i64 (i:Int))).run q6 w= .ok (.pointer (some ⟨b,off+i*6,none⟩)) w:=by
 have q:0<=(i:Int)/\(i:Int)<(n:Int):=by omega
 have G:q6.cellsOf 41=6:=by kernel_rfl
 go_simp
end
section
open Go.RowKit Go.Maps
def zmB (w:World)(h:Option Addr)(l:List Int):Prop:=∀i,i<l.length->∃b off,h=some ⟨b,off,none⟩/\b<w.heap.size/\w.cell? ⟨b,off+i,none⟩=some (.int .i64 (l.getD i 0))/\i64 (l.getD i 0)
theorem zmB.below {w w':World}{q:Option Addr}{l:List Int}(h:zmB w q l)(k:Below w.heap.size w w'):zmB w' q l:=λi hi=>by
 obtain⟨b,off,e,hb,G,J⟩:=h i hi;exact⟨b,off,e,qe hb k.size,(k.cell (p:=⟨b,_,none⟩) hb).trans G,J⟩
theorem ziN {mark:Int}{S l:List Sr}:(HD.app mark S l).1=(0, -1)\/(HD.app mark S l).1.1=4\/(HD.app mark S l).1.1=1\/(HD.app mark S l).1.1=10\/(HD.app mark S l).1.1=12:=by
 have G:∀(T:List Sr) (y:Sr),HD.err mark T y≠0->HD.err mark T y=1\/HD.err mark T y=10\/HD.err mark T y=12:=λT y h=>by
  unfold HD.err at h ⊢;split
  .exact .inl rfl
  .split
   .exact .inr (.inl rfl)
   .split
    .split
     .exact .inr (.inl rfl)
     .split
      .exact .inr (.inr rfl)
      .rename_i O U V Y h5;rw[if_neg O,if_neg U,if_pos V,if_neg Y,if_neg h5] at h;exact absurd rfl h
    .split
     .exact .inr (.inr rfl)
     .rename_i O U V Y;rw[if_neg O,if_neg U,if_neg V,if_neg Y] at h;exact absurd rfl h
 have J:∀(l S:List Sr) (i:Nat) (c:Int) (j:Nat),(HD.run mark S l i).1=some (c,j)->c=1\/c=10\/c=12:=by
  intro l
  induction l with
  | nil=>intro S i c j h;cases h
  | cons y l ih=>
   intro S i c j h;unfold HD.run at h;by_cases e:HD.err mark S y=0
   .rw[if_pos e] at h;exact ih _ _ _ _ h
   .rw[if_neg e] at h;have h':(HD.err mark S y,i)=(c,j):=qt h;have hc:HD.err mark S y=c:=congrArg Prod.fst h';rw[<-hc];exact G S y e
 unfold HD.app;split
 .exact .inr (.inl rfl)
 .cases hr:HD.run mark S l 0 with
  | mk p T=>
   cases p with
   | none=>exact .inl rfl
   | some q=>
    obtain⟨c,j⟩:=q;rcases J l S 0 c j (by rw[hr]) with e|e|e
    .exact .inr (.inr (.inl e))
    .exact .inr (.inr (.inr (.inl e)))
    .exact .inr (.inr (.inr (.inr e)))
theorem z4V {s:Stp}{x:SX.St}{cd:Int×Int}(h:zny s x cd):cd.1≠0/\cd.1≠14/\i64 cd.1:=by
 unfold i64;rcases h with⟨_,_,e,q⟩|⟨_,_,e⟩|⟨_,_,e⟩|⟨_,_,e⟩|⟨_,_,e⟩
 .rcases ziN (mark:=x.s.mark) (S:=x.s.H) (l:=s.L) with k|k|k|k|k
  .rw[e,k] at q;exact absurd rfl q
  all_goals rw[e,k];omega
 all_goals rw[e];show(_:Int)≠0/\_;omega
theorem zfi {w:World}{cd:Int×Int}{G:Value}(h:zlR w cd G)(J:zbJ w):
  Calls q6 21 #[G] w λe w'=>e= .returned (.int .i64 cd.1)/\Below w.heap.size w w':=by
 rcases h with⟨_,rfl⟩|⟨_,_,p,rfl,O⟩
 .by_cases q:cd.1=0
  .rw[z1R q,q];exact(ziq w).mono λe w' ⟨U,V⟩=>⟨U,by rw[V];exact Below.refl _ _⟩
  .rw[z13 q];exact z8o cd.1 w J
 .exact zkt cd.1 ⟨p,0,none⟩ w J (z01 _ _ _ _ O 0 _ rfl)
theorem zd1 {s:Stp}{x y:SX.St}(h:Did s x y):x.s.mark<=y.s.mark:=by
 cases h with
 | app=>exact eL _
 | none=>exact eL _
 | cut=>
  show x.s.mark<=(SX.cut s.t x.s).mark;rw[SX.zcw];omega
 | del=>exact eL _
 | cmp=>exact eL _
 | ret=>exact eL _
 | not=>exact eL _
theorem zdY {w:World}{v u:Value}{a b:List Sr}{b1 b2:Nat}(h:z0a w b1 v a)(G:z0a w b2 u b)(J:HD.Good a)(hb:HD.Good b):
  Calls q6 12 #[v,u] w λe w'=>(∃q,e= .returned (.bool q))/\Below w.heap.size w w':=by
 obtain⟨O,U,rfl,V⟩:=z0r.z08 h;obtain⟨Y,cb,rfl,hq⟩:=z0r.z08 G;exact z9O O Y a b U cb w V hq (z8P J) (z8P hb)
theorem z4T {n:Nat}{w:World}{bs bd c m:Nat}{Zh:Nat->Prop}{D:DK.M}{p:Int}{up:Bool}{x:SX.St}(h:SoL n w bs bd c m Zh D p up x):
  Calls q6 17 #[.pointer (some ⟨bs,0,none⟩)] w λe w'=>e= .returned (.int .i64 x.s.mark)/\Below w.heap.size w w':=by
 obtain⟨bw,cnt,Z,dn,hb,bm,mc,vg,od,q,_⟩:=h;exact z6B q
theorem zaG {n:Nat}{w:World}{bs bd c m:Nat}{Zh:Nat->Prop}{D:DK.M}{p:Int}{up:Bool}{x:SX.St}(h:SoL n w bs bd c m Zh D p up x):
  Calls q6 22 #[.pointer (some ⟨bs,0,none⟩)] w λe w'=>e= .returned (.bool (!up))/\w'=w:=by
 obtain⟨bw,cnt,Z,dn,hb,bm,mc,vg,od,q,_⟩:=h;exact z1e q
theorem za8 {n:Nat}{w:World}{bs bd c m:Nat}{Zh:Nat->Prop}{D:DK.M}{p:Int}{x:SX.St}(h:SoL n w bs bd c m Zh D p false x):
  Calls q6 23 #[.pointer (some ⟨bs,0,none⟩),.slice none 0 0] w λe w'=>e= .returned (.iface 56 (.int .i64 6))/\w'=w:=by
 obtain⟨bw,cnt,Z,dn,hb,bm,mc,vg,od,q,_⟩:=h;exact zfx q _ 0 0 none rfl
end
section
open Go.RowKit Go.Maps
theorem zes (ao co:Option Addr)(l:List Stp)(cu:List Int)(cl cc:Nat)(w:World)(hW:z0X w)(hE:zbJ w)(Cd:1<w.heap.size)(hL:zl7 w ao l)(hC:zmB w co cu)(Ce:zap l=true)(Eo:cu.length<=30):
  Calls q6 4 #[.slice ao l.length cl,.slice co cu.length cc] w λe w'=>e= .returned (.bool true)/\Below w.heap.size w w':=by
 have Cf:=hid (zaS ao l cl w hL);have Am:=hid (ze2 w hW Cd);rw[Ce] at Cf;have HL:=hid hL;have HC:=hid hC;have HS:=hid Ce;have HW:=hid (qv hW Cd);have Ao:=hid hE;have EM:(cu.length:Int)<=30:=by omega
 clear hL hC Ce Eo hW Cd hE;go_enter func4,ntmps4;go_wp2_with fail;refine Cf.out.mono ?_;rintro e w2 ⟨rfl,rfl⟩;clear Cf;go_wp2_with fail;refine Am.out.mono ?_;rintro e w5 ⟨rfl,Ag⟩;have HO:=hid (za5 (n:=w5.heap.size) (z0X.below HW.out.1 Ag HW.out.2) (qe HW.out.2 Ag.size) (qq _));have By:=hid Ag;have Ep:=hid (HL.out.below Ag);have Er:=hid (HC.out.below Ag);have Bl:=hid (qv (Ao.out.below Ag Ao.out.lt) (qe Ao.out.lt Ag.size));have Cx:Hid (Below w5.heap.size w5 (w5.alloc (.cells #[.map none,.bool false,.int .i64 0] 32))):=hid ((Below.refl _ w5).alloc (qq _) _);clear Ag Am HL HC HW Ao;go_wp2_with fail;refine HO.out.mono ?_;rintro e w7 ⟨Es,Zh,D,rfl,Cy,Cz,CB,Et,_⟩;have CC:=hid (Cx.out.trans CB);have CE:=hid Cy;have CF:=hid Cz;clear Cy Cz CB Et HO Cx;have EN:=(of_decide_eq_true HS.out).1;go_wp2_with fail;go_loopw [6,7,8] (λts te ti wr=>∃(i:Nat) (bs:Nat) (Zh:Nat->Prop) (D:DK.M) (x:SX.St),i<=l.length/\ts= .pointer (some ⟨bs,0,none⟩)/\te= .nilIface/\ti= .int .i64 i/\SoL w5.heap.size wr bs w5.heap.size (204+604*i) (6000+30*i) Zh D (-1) true x/\SX.Lv i i D x/\Below w5.heap.size w5 wr) (λ_ _ ti _=>l.length-(intOf ti).toNat)
 case atStart=>exact⟨0,Es,Zh,D,SX.first,qh _,rfl,rfl,rfl,CE.out.mono (by omega) (by omega),CF.out,CC.out⟩
 case round=>
  obtain⟨i,bs,Zi,Di,xi,hi,rfl,rfl,rfl,hS,hl,hb⟩:=hrel;have Bm:=hid hS;have AB:=hid hl;have Bo:=hid hb;clear hS hl hb CE CF CC;by_cases Cg:i<l.length
  .have HH:=hid (z5Y Bm.out AB.out.cor (by omega) (by omega));have Eu:=hid (AB.out.cor.pts.good (by omega));go_wp2_with fail;refine HH.out.mono ?_;rintro e w8 ⟨Ch,v8,rfl,Ci⟩;obtain⟨va,vc,Ev,_⟩:=z0r.z08 Ci;subst Ev;have CG:=hid (SrT.fresh Bm.out.zlt Ci);have Cj:=hid (Bm.out.below Ch);have Ck:=hid (Bo.out.trans (Ch.mono Bo.out.size));clear Ch Ci HH Bm Bo;have A4:=hid (z4T Cj.out);go_wp2_with fail;refine A4.out.mono ?_;rintro e w9 ⟨rfl,Bp⟩;have Cl:=hid (CG.out.below Bp);have Cm:=hid (Cj.out.below Bp);have AK:=hid (Ck.out.trans (Bp.mono Ck.out.size));clear Bp A4 CG Cj Ck;obtain⟨b,off,Ew,AC,so,sc,Ex,Ey,c0,c1,c2,c3,c4,c5,hI⟩:=Ep.out i Cg;subst Ew;have CH:=(of_decide_eq_true HS.out).2 i Cg;have CI:Hid (∀W,Below w5.heap.size w5 W->W.cell? ⟨b,off+i*6,none⟩=some (.int .i64 (atP l i).what)/\W.cell? ⟨b,off+i*6+1,none⟩=some (.slice so (atP l i).L.length sc)/\W.cell? ⟨b,off+i*6+2,none⟩=some (.int .i64 (atP l i).t)/\W.cell? ⟨b,off+i*6+3,none⟩=some (.slice Ex (atP l i).M.length Ey)/\W.cell? ⟨b,off+i*6+4,none⟩=some (.int .i64 (atP l i).fr)/\W.cell? ⟨b,off+i*6+5,none⟩=some (.int .i64 (atP l i).tt)):=hid λW k=>⟨(k.cell (p:=⟨b,_,none⟩) AC).trans c0,(k.cell (p:=⟨b,_,none⟩) AC).trans c1,(k.cell (p:=⟨b,_,none⟩) AC).trans c2,(k.cell (p:=⟨b,_,none⟩) AC).trans c3,(k.cell (p:=⟨b,_,none⟩) AC).trans c4,(k.cell (p:=⟨b,_,none⟩) AC).trans c5⟩
   have HI:=hid hI;have G:=hid CH;have Ez:=λW=>zhe b off l.length cl i Cg W
   clear hI CH c0 c1 c2 c3 c4 c5;have CJ:=hid (zhr Cm.out AB.out.cor (by omega) (by omega) Cl.out HI.out AK.out G.out.1 G.out.2);generalize atP l i=s at*;obtain⟨sw,sL,st,sM,sf,se⟩:=s;dsimp only at*;obtain⟨g0,g1,g2,g3,g4,g5⟩:=CI.out w9 AK.out;go_wp2_with fail;refine CJ.out.mono ?_;rintro e EA ⟨Aq,ra,rk,rc,ok,rfl,CK⟩;have A8:=hid (Cl.out.below Aq);have A9:=hid (Cm.out.below Aq);have U:=hid (AK.out.trans (Aq.mono AK.out.size));have AD:=hid CK;clear Aq CK CJ Cl Cm AK g0 g1 g2 g3 g4 g5
   go_upto_if 63 with fail
   go_cut [13] from 41 to 196 (λkv wx=>∃(kk:Int) (p:Int),kv= .int .i64 kk/\ -1<=p/\0<=kk/\kk<100/\SoL w5.heap.size wx bs w5.heap.size (204+604*i) (6000+30*i) Zi Di p true xi/\SrT wx Zi (.slice va (SX.all xi.s).length vc) (SX.all xi.s)/\(ok=true->∃R,SrT wx Zi (.slice ra rk rc) R/\HD.Good R/\∀y,Did ⟨sw,sL,st,sM,sf,se⟩ xi y->R=SX.all y.s)/\Below w5.heap.size w5 wx)
   case first=>
    as_aux_lemma=>
     by_cases EB:0<cu.length
     .have Bz:(0:Int)<(cu.length:Int):=by omega
      obtain⟨cb,EP,EC,CM,CN,EQ⟩:=Er.out (i%cu.length) (pI _ EB);subst EC;have gc:=(U.out.cell (p:=⟨cb,_,none⟩) CM).trans CN;generalize cu.getD (i%cu.length) 0=ci at*;have ER:0<=(i:Int)%(cu.length:Int)/\(i:Int)%(cu.length:Int)<(cu.length:Int):=⟨oO _ (by omega),iX _ Bz⟩;have ES:((i:Int)%(cu.length:Int)).toNat=i%cu.length:=by omega
      have CO:=hid (zk9 ci 16 EA (by omega) (by omega));have EO:=DK.zeJ ci (n:=16) (by omega);have CP:=hid λq hq=>zcD A9.out U.out.size q hq
      generalize DK.pk ci 16=pc at*;go_wp2_with fail;refine CO.out.mono ?_;rintro e Bq ⟨rfl,rfl⟩;clear CO;go_wp2_with fail;refine(CP.out _ (by omega)).mono ?_;rintro e Af ⟨rfl,BA,A1,CQ,AL⟩;have Ac:=hid BA;have Ar:=hid (AL _ _ A8.out);have A2:=hid (U.out.trans A1);have CS:Hid (ok=true->∃R,SrT Af Zi (.slice ra rk rc) R/\HD.Good R/\∀y,Did ⟨sw,sL,st,sM,sf,se⟩ xi y->R=SX.all y.s):=hid λq=>by
       obtain⟨R,h,q2,q3⟩:=AD.out q;exact⟨R,AL _ _ h,q2,q3⟩
      have gd:=(A2.out.cell (p:=⟨cb,_,none⟩) CM).trans CN;have CU:=hid λq=>zk9 q 90 Af (by omega) (by omega)
      have ED:=hid λq=>DK.zeJ q (n:=90) (by omega)
      clear BA A1 CQ AL CP gc;go_wp2_with fail;refine(CU.out _).mono ?_;rintro e Ap ⟨rfl,rfl⟩;clear CU;go_wp2_with fail
      go_meet
      case rel=>exact⟨_,_,rfl,by omega,by omega,by have:=ED.out (wrap64 (ci.tdiv 16));omega,Ac.out,Ar.out,CS.out,A2.out⟩
     .have Bz:¬(0:Int)<(cu.length:Int):=by omega
      go_wp2_with fail
      go_meet
      case rel=>exact⟨0, -1,rfl,by decide,by decide,by decide,A9.out,A8.out,AD.out,U.out⟩
   case rest=>
    clear A8 A9 U AD;obtain⟨kk,p,rfl,hp,CV,CW,hS,hT,CX,hB⟩:=hcut;have AD:=hid CX;have A8:=hid hT;have A9:=hid hS;have U:=hid hB;have HK:=hid (qv hp (qv CV CW));have HC:=hid (zj7 A9.out AB.out (by omega) (by omega) (by omega) (by omega) hp HI.out U.out G.out.1 G.out.2);clear CX hT hS hB hp CV CW;obtain⟨g0,g1,g2,g3,g4,g5⟩:=CI.out wc U.out;go_wp2_with fail;refine HC.out.mono ?_;intro e Bq hE;obtain⟨ev,CY,ET,Ah,up,AE,rfl,BB,BC,CZ,AM,E0,BD⟩:=hE;have BF:=hid BB;have BG:=hid (AM _ _ A8.out);have Au:=hid (U.out.trans BC);have AO:Hid (ok=true->∃R,SrT Bq Ah (.slice ra rk rc) R/\HD.Good R/\∀y,Did ⟨sw,sL,st,sM,sf,se⟩ xi y->R=SX.all y.s):=hid λq=>by
     obtain⟨R,h,q2,q3⟩:=AD.out q;exact⟨R,AM _ _ h,q2,q3⟩
    have Av:zbJ Bq:=Bl.out.1.below Au.out Bl.out.2;clear BB BC CZ AM E0 HC g0 g1 g2 g3 g4 g5 Ez AD A8 A9 U;have EE:∃(cd:Int×Int) (Ai:SX.St),zlR Bq cd ev/\i64 cd.1/\((up=true/\cd.1≠0/\cd.1≠14/\AE=xi)\/(up=true/\cd.1=0/\Did ⟨sw,sL,st,sM,sf,se⟩ xi AE)\/(up=false/\cd.1=14/\AE=xi))/\SX.Cor (i+1) (i+1) AE/\DK.Fine 1000000000 CY/\
      SX.Bk (i+1) (i+1) (DK.start CY kk) Ai/\xi.s.mark<=Ai.s.mark/\(cd.1≠14->Ai=AE)/\(cd.1=14->Ai=xi\/Did ⟨sw,sL,st,sM,sf,se⟩ xi Ai):=by
     rcases BD with⟨rfl,⟨cd,h,q2⟩,rfl,rfl,rfl⟩|⟨rfl,h,q2,q3,_⟩|⟨rfl,h,_,rfl,q3,y,q4,q5⟩
     .have AF:=AB.out.mono (wP i) (wP i);exact⟨cd,_,q2,(z4V h).2.2,.inl ⟨rfl,(z4V h).1,(z4V h).2.1,rfl⟩,AF.cor,(AF.fine (by omega)).mono (by omega),AF.start (by omega) kk,eL _,λ_=>rfl,λe=>absurd e (z4V h).2.1⟩
     .exact⟨(0, -1),AE,.inl ⟨rfl,h⟩,by unfold i64;omega,.inr (.inl ⟨rfl,rfl,q2⟩),q3.cor,(q3.fine (by omega)).mono (by omega),q3.start (by omega) kk,zd1 q2,λ_=>rfl,λe=>absurd e (by decide)⟩
     .have AF:=AB.out.mono (wP i) (wP i);rcases q5 kk with q|q
      .exact⟨(14, -1),_,.inl ⟨rfl,h⟩,by unfold i64;omega,.inr (.inr ⟨rfl,rfl,rfl⟩),AF.cor,q3.fine.mono (by omega),q,eL _,λe=>absurd rfl e,λ_=> .inl rfl⟩
      .exact⟨(14, -1),_,.inl ⟨rfl,h⟩,by unfold i64;omega,.inr (.inr ⟨rfl,rfl,rfl⟩),AF.cor,q3.fine.mono (by omega),q,zd1 q4,λe=>absurd rfl e,λ_=> .inr q4⟩
    obtain⟨⟨c,cq⟩,Ai,hv,EU,E1,BH,E2,E3,Cn,E4,E5⟩:=EE;have E6:=hid (zfi hv Av);have Co:=hid E1;have Br:=hid (qv BH E2);have E7:=hid (qv E3 Cn);have HX:=hid (qv E4 E5);clear Av hv E1 BH E2 E3 Cn E4 E5 BD;dsimp only at*;go_wp2_with fail;refine E6.out.mono ?_;rintro e Af ⟨rfl,A1⟩;have Ac:=hid (BF.out.below A1);have Ar:=hid (BG.out.below A1);have A2:=hid (Au.out.trans (A1.mono Au.out.size));have AP:Hid (ok=true->∃R,SrT Af Ah (.slice ra rk rc) R/\HD.Good R/\∀y,Did ⟨sw,sL,st,sM,sf,se⟩ xi y->R=SX.all y.s):=hid λq=>by
     obtain⟨R,h,q2,q3⟩:=AO.out q;exact⟨R,h.below A1,q2,q3⟩
    have Aw:=Bl.out.1.below A2.out Bl.out.2;have Ao:=hid Aw;have E8:=A2.out.size;clear A1 E6 AO Au BG BF Aw
    go_upto_region 19 with fail
    go_cut [105] from 41 to 196 (λbv wx=>bv= .bool false/\Below Af.heap.size Af wx)
    case first=>
     as_aux_lemma=>
      have AG:=hid (zaG Ac.out);have A6:=hid (Below.refl Af.heap.size Af);rcases Co.out with⟨rfl,h0,A7,rfl⟩|⟨rfl,rfl,hd⟩|⟨rfl,rfl,rfl⟩
      .have Cp:(c==14)=false:=by simpa using A7
       go_wp2_with (first | (refine AG.out.mono ?_;rintro e Ap ⟨rfl,rfl⟩) | fail)
       go_meet
       case rel=>exact⟨rfl,A6.out⟩
      .go_wp2_with (first | (refine AG.out.mono ?_;rintro e Ap ⟨rfl,rfl⟩) | fail)
       go_meet
       case rel=>exact⟨rfl,A6.out⟩
      .have EF:=hid (za8 Ac.out);have EG:=hid (z8o 6 Af Ao.out);go_wp2_with (first | (refine AG.out.mono ?_;rintro e Ap ⟨rfl,rfl⟩) | (refine EF.out.mono ?_;rintro e Ap ⟨rfl,rfl⟩) | fail)
       refine EG.out.mono ?_;rintro e Ap ⟨rfl,V⟩;have Y:=hid V;clear V;go_wp2_with fail
       go_meet
       case rel=>exact⟨rfl,Y.out⟩
    case rest=>
     obtain⟨rfl,AQ⟩:=hcut;have Cq:=hid (Ac.out.below AQ);have Cr:=hid (Ar.out.below AQ);have Bt:=hid (A2.out.trans (AQ.mono A2.out.size));have AR:Hid (ok=true->∃R,SrT wc Ah (.slice ra rk rc) R/\HD.Good R/\∀y,Did ⟨sw,sL,st,sM,sf,se⟩ xi y->R=SX.all y.s):=hid λq=>by
      obtain⟨R,h,q2,q3⟩:=AP.out q;exact⟨R,h.below AQ,q2,q3⟩
     clear AQ AP A2 Ar Ac Ao E8;have EH:=Bt.out.size
     go_upto_region 21 with fail
     go_cut [132] from 41 to 196 (λbv wx=>bv= .bool false/\Below wc.heap.size wc wx)
     case first=>
      as_aux_lemma=>
       have A6:=hid (Below.refl wc.heap.size wc);have HH:=hid (z5Y Cq.out Br.out.1 (by omega) (by omega));have BI:=hid (Br.out.1.pts.good (by omega));rcases Co.out with⟨rfl,h0,A7,rfl⟩|⟨rfl,rfl,hd⟩|⟨rfl,rfl,rfl⟩
       .have Cp:(c==14)=false:=by simpa using A7
        have q0:(c==0)=false:=by simpa using h0
        go_wp2_with fail;refine HH.out.mono ?_;rintro e Ap ⟨V,EI,rfl,Aj⟩;have G:=hid (z3f Aj (Cr.out.below V).own BI.out);have Y:=hid V;clear V Aj HH;go_wp2_with fail;refine G.out.mono ?_;rintro e E9 ⟨rfl,O⟩;have A5:=hid (Y.out.trans (O.mono Y.out.size));clear O G Y;go_wp2_with fail
        go_meet
        case rel=>exact⟨rfl,A5.out⟩
       .rcases ok with _|_
        .go_wp2_with fail
         go_meet
         case rel=>exact⟨rfl,A6.out⟩
        .obtain⟨R,h,q2,q3⟩:=AR.out rfl;have q4:=q3 _ hd;subst q4;have HR:=hid h;clear h q2 q3 hd;go_wp2_with fail;refine HH.out.mono ?_;rintro e Ap ⟨V,EI,rfl,Aj⟩;have G:=hid (z3f Aj (HR.out.below V).own BI.out);have Y:=hid V;clear V Aj HH;go_wp2_with fail;refine G.out.mono ?_;rintro e E9 ⟨rfl,O⟩;have A5:=hid (Y.out.trans (O.mono Y.out.size));clear O G Y;go_wp2_with fail
         go_meet
         case rel=>exact⟨rfl,A5.out⟩
       .go_wp2_with fail
        go_meet
        case rel=>exact⟨rfl,A6.out⟩
     case rest=>
      obtain⟨rfl,AU⟩:=hcut;have Am:=hid (Cq.out.below AU);have Ea:=hid (Cr.out.below AU);have Cs:=hid (Bt.out.trans (AU.mono Bt.out.size));have BJ:=hid λ(q:ok=true)=>(AR.out q).elim λR h=>(⟨R,h.1.below AU,h.2⟩:∃R,SrT _ Ah (.slice ra rk rc) R/\HD.Good R/\∀y,Did ⟨sw,sL,st,sM,sf,se⟩ xi y->R=SX.all y.s)
      clear AU AR Bt Cr Cq EH Co;have HH:=hid (z5Y Am.out Br.out.1 (by omega) (by omega));go_wp2_with fail;refine HH.out.mono ?_;rintro e E9 ⟨O,EV,rfl,AV⟩;obtain⟨vx,EW,Eb,_⟩:=z0r.z08 AV;subst Eb;have BM:=hid (SrT.fresh Am.out.zlt AV);have AW:=hid (Am.out.below O);have BN:=hid (Ea.out.below O);have A5:=hid (Cs.out.trans (O.mono Cs.out.size));have AX:=hid λ(q:ok=true)=>(BJ.out q).elim λR h=>(⟨R,h.1.below O,h.2⟩:∃R,SrT _ Ah (.slice ra rk rc) R/\HD.Good R/\∀y,Did ⟨sw,sL,st,sM,sf,se⟩ xi y->R=SX.all y.s)
      clear O AV HH BJ Cs Ea Am;have A4:=hid (z4T AW.out);go_wp2_with fail;refine A4.out.mono ?_;rintro e EX ⟨rfl,Ad⟩;have BO:=hid (BM.out.below Ad);have BP:=hid (AW.out.below Ad);have BQ:=hid (BN.out.below Ad);have AY:=hid (A5.out.trans (Ad.mono A5.out.size));have AZ:=hid λ(q:ok=true)=>(AX.out q).elim λR h=>(⟨R,h.1.below Ad,h.2⟩:∃R,SrT _ Ah (.slice ra rk rc) R/\HD.Good R/\∀y,Did ⟨sw,sL,st,sM,sf,se⟩ xi y->R=SX.all y.s)
      clear Ad A4 AX A5 BN AW BM;have HSt:=hid (zdF BP.out AY.out.size kk (by have:=HK.out;omega) (by have:=HK.out;omega) Br.out.2);go_wp2_with fail;refine HSt.out.mono ?_;rintro e EY ⟨rfl,BR,BS,Ec,Ax⟩;have BU:=hid BR;have BV:=hid (Ax _ _ BO.out);have BW:=hid (Ax _ _ BQ.out);have B0:=hid (AY.out.trans BS);have B3:=hid λ(q:ok=true)=>(AZ.out q).elim λR h=>(⟨R,Ax _ _ h.1,h.2⟩:∃R,SrT _ Ah (.slice ra rk rc) R/\HD.Good R/\∀y,Did ⟨sw,sL,st,sM,sf,se⟩ xi y->R=SX.all y.s)
      clear BR BS Ec Ax HSt AZ AY BQ BP BO;have Ed:=hid (zcD BU.out B0.out.size (-1) (by omega));go_wp2_with fail;refine Ed.out.mono ?_;rintro e EZ ⟨rfl,BX,BZ,Ee,Ay⟩;have C0:=hid BX;have C2:=hid (Ay _ _ BV.out);have C3:=hid (Ay _ _ BW.out);have B5:=hid (B0.out.trans BZ);have B6:=hid λ(q:ok=true)=>(B3.out q).elim λR h=>(⟨R,Ay _ _ h.1,h.2⟩:∃R,SrT _ Ah (.slice ra rk rc) R/\HD.Good R/\∀y,Did ⟨sw,sL,st,sM,sf,se⟩ xi y->R=SX.all y.s)
      clear BX BZ Ee Ay Ed B3 B0 BW BU BV;have Ef:=hid (zgF C0.out B5.out.size E7.out.1 (by omega) (by omega));go_wp2_with fail;refine Ef.out.mono ?_;rintro e F0 ⟨EJ,Z2,D2,rfl,C4,C5,C6,Eg,Az⟩;have Ak:=hid (C4.mono (c':=204+604*(i+1)) (m':=6000+30*(i+1)) (by omega) (by omega));have Ba:=hid C5;have C8:=hid (Az _ _ _ C2.out);have C9:=hid (Az _ _ _ C3.out);have Bb:=hid (B5.out.trans C6);have Bc:=hid λ(q:ok=true)=>(B6.out q).elim λR h=>(⟨R,Az _ _ _ h.1,h.2⟩:∃R,SrT _ Z2 (.slice ra rk rc) R/\HD.Good R/\∀y,Did ⟨sw,sL,st,sM,sf,se⟩ xi y->R=SX.all y.s)
      clear C4 C5 C6 Eg Az Ef B6 B5 C3 C0 C2;have AG:=hid (zaG Ak.out);go_wp2_with fail;refine AG.out.mono ?_;rintro e F1 ⟨rfl,rfl⟩;clear AG;have HH:=hid (z5Y Ak.out Ba.out.cor (by omega) (by omega));go_wp2_with fail;refine HH.out.mono ?_;rintro e AH ⟨Ae,F2,rfl,Be⟩;obtain⟨nx,F3,Eh,_⟩:=z0r.z08 Be;subst Eh;have Bf:=hid (SrT.fresh Ak.out.zlt Be);have Ca:=hid (C8.out.below Ae);have Cb:=hid (C9.out.below Ae);have Bg:=hid (Ak.out.below Ae);have AA:=hid (Bb.out.trans (Ae.mono Bb.out.size));have Bh:=hid λ(q:ok=true)=>(Bc.out q).elim λR h=>(⟨R,h.1.below Ae,h.2⟩:∃R,SrT _ Z2 (.slice ra rk rc) R/\HD.Good R/\∀y,Did ⟨sw,sL,st,sM,sf,se⟩ xi y->R=SX.all y.s)
      clear Ae Be HH Bc Bb C9 Ak C8;have Ei:=AA.out.size;have Bu:=hid (Ba.out.cor.pts.good (by omega))
      go_upto_region 30 with fail
      go_cut [159] from 41 to 196 (λbv wx=>bv= .bool false/\Below AH.heap.size AH wx)
      case first=>
       as_aux_lemma=>
        have A6:=hid (Below.refl AH.heap.size AH);by_cases A7:c=14
        .subst A7;go_wp2_with fail
         go_meet
         case rel=>exact⟨rfl,A6.out⟩
        .have Cp:(c==14)=false:=by simpa using A7
         have hx:=HX.out.1 A7;subst hx;have G:=hid (z3f Bf.out.own Ca.out.own Bu.out);have A4:=hid (λW (k:Below AH.heap.size AH W)=>z4T (Bg.out.below k));go_wp2_with fail;refine G.out.mono ?_;rintro e Ej ⟨rfl,A3⟩;have J:=hid A3;clear A3 G;go_wp2_with fail;refine(A4.out _ J.out).mono ?_;rintro e EK ⟨rfl,Al⟩;have Bi:=hid (J.out.trans (Al.mono J.out.size));clear Al A4 J;go_wp2_with fail
         go_meet
         case rel=>exact⟨rfl,Bi.out⟩
      case rest=>
       obtain⟨rfl,AJ⟩:=hcut;generalize wc=we at*;have Ek:=hid (Bg.out.below AJ);have Bv:=hid (Bf.out.below AJ);have Ct:=hid (Cb.out.below AJ);have Bw:=hid (AA.out.trans (AJ.mono AA.out.size));have Cc:=hid λ(q:ok=true)=>(Bh.out q).elim λR h=>(⟨R,h.1.below AJ,h.2⟩:∃R,SrT _ Z2 (.slice ra rk rc) R/\HD.Good R/\∀y,Did ⟨sw,sL,st,sM,sf,se⟩ xi y->R=SX.all y.s)
       clear AJ Bh AA Cb Bf Bg Ca Ei;have EL:=Bw.out.size
       go_upto_region 32 with fail
       go_cut [174] from 41 to 196 (λbv wx=>bv= .bool false/\Below we.heap.size we wx)
       case first=>
        as_aux_lemma=>
         have A6:=hid (Below.refl we.heap.size we);by_cases A7:c=14
         .subst A7;rcases ok with _|_
          .go_wp2_with fail
           go_meet
           case rel=>exact⟨rfl,A6.out⟩
          .rcases HX.out.2 rfl with rfl|hd
           .have G:=hid (z3f Bv.out.own Ct.out.own Bu.out);go_wp2_with fail;refine G.out.mono ?_;rintro e Ej ⟨rfl,A3⟩;have J:=hid A3;clear A3 G;go_wp2_with fail
            go_meet
            case rel=>exact⟨rfl,J.out⟩
           .obtain⟨R,h,q2,q3⟩:=Cc.out rfl;have q4:=q3 _ hd;subst q4;have HR:=hid h;have G:=hid (zdY Bv.out.own Ct.out.own Bu.out Eu.out);have El:=hid (λW (k:Below we.heap.size we W)=>z3f (Bv.out.below k).own (HR.out.below k).own Bu.out);clear h q2 q3 hd;go_wp2_with fail;refine G.out.mono ?_;rintro e Ej ⟨⟨q,rfl⟩,A3⟩;have J:=hid A3;clear A3 G;rcases q with _|_
            .go_wp2_with fail;refine(El.out _ J.out).mono ?_;rintro e EK ⟨rfl,Al⟩;have Bi:=hid (J.out.trans (Al.mono J.out.size));clear Al El J;go_wp2_with fail
             go_meet
             case rel=>exact⟨rfl,Bi.out⟩
            .go_wp2_with fail
             go_meet
             case rel=>exact⟨rfl,J.out⟩
         .have Cp:(c==14)=false:=by simpa using A7
          go_wp2_with fail
          go_meet
          case rel=>exact⟨rfl,A6.out⟩
       case rest=>
        obtain⟨rfl,Cu⟩:=hcut;have Cv:=hid (Ek.out.below Cu);have Cw:=hid (Bw.out.trans (Cu.mono Bw.out.size));clear Cu Ek Bv Ct Bw Cc EL;have A4:=hid (z4T Cv.out);have Cn:¬Ai.s.mark<xi.s.mark:=by have:=E7.out.2;omega
        go_wp2_with fail;refine A4.out.mono ?_;rintro e F4 ⟨rfl,Bj⟩;have Em:=hid (Cv.out.below Bj);have En:=hid (Cw.out.trans (Bj.mono Cw.out.size));clear Bj A4 Cv Cw;go_wp2_with fail;go_roundw
        case rel=>
         exact⟨i+1,EJ,Z2,D2,Ai,by omega,rfl,rfl,by go_num,Em.out,Ba.out,En.out⟩
        case measure=>simp[intOf];omega
  .have he:i=l.length:=by omega
   subst he;go_wp2_with fail;go_ret;exact⟨rfl,By.out.trans (Bo.out.mono By.out.size)⟩
end
section
open Go.RowKit Go.Maps
theorem zdX (U V:Option Addr)(l:List Stp)(q:List Int)(Y cc:Nat)(w:World)(hW:z0X w)(hE:zbJ w)(G:1<w.heap.size)(hL:zl7 w U l)(hC:zmB w V q):
  Calls q6 4 #[.slice U l.length Y,.slice V q.length cc] w λe w'=>e= .returned (.bool true)/\Below w.heap.size w w':=by
 by_cases hs:zap l=true/\q.length<=30
 .exact zes U V l q Y cc w hW hE G hL hC hs.1 hs.2
 .have J:=hid (zaS U l Y w hL);have O:=hid (Below.refl w.heap.size w);have HN:=hid hs;clear hL hC hs hW G hE;generalize zap l=b1 at*;generalize q.length=k at*;go_enter func4,ntmps4;go_wp2_with fail;refine J.out.mono ?_;rintro e w2 ⟨rfl,rfl⟩;clear J;cases b1 with
  | false=>
   clear HN;go_wp2_with fail;go_ret;exact⟨rfl,O.out⟩
  | true=>
   have hk:30<(k:Int):=by
    rcases Nat.lt_or_ge 30 k with h|h
    .omega
    .exact absurd ⟨rfl,h⟩ HN.out
   clear HN;go_wp2_with fail;go_ret;exact⟨rfl,O.out⟩
end
section
open Go.ChangeShapes Go.WideShapes Go.ChangeAt Go.WideMaps Go.WideElems Go.RowKit
theorem Tryz.own:ownKnob q6.godebug=none:=by kernel_rfl
theorem Tryz.laidOut:laidOutB q6=true:=by kernel_rfl
theorem zr8 {n:Int}(h:(rX .i64 n).wf=true): -9223372036854775808<=n/\n<=9223372036854775807:=by
 have q:qW.min= -9223372036854775808:=rfl;have G:qW.max=9223372036854775807:=rfl;simp only[Lit.wf,Bool.and_eq_true,decide_eq_true_eq] at h;omega
theorem zbg {H:Type}{enc:qn×Value->H}{W:World}{a0:Option Addr}{len cap:Nat}{d:DataW H}{p:List yH}
  (h:td enc q6 W 0 (λ_=>true) true 90 (.slice a0 len cap) d p):
  ∃l:List LB.Lab,len=l.length/\z1w W a0 l:=by
 obtain⟨fuel,hf⟩:=h;rcases ig underlying90 underlying107 (by kernel_rfl) rfl rfl (by kernel_rfl) (by kernel_rfl) hf with⟨q,hx⟩|⟨a,A3,A4,m,nn,V0,V1,D0,D1,P0,P1,q,_,hl,hm,A1,hx,G⟩
 .simp[wQ] at q;obtain⟨rfl,rfl,rfl⟩:=q;exact⟨[],rfl,λi hi=>by simp at hi⟩
 .simp[wQ] at q;obtain⟨rfl,rfl,rfl⟩:=q;simp only[if_true] at A1;have J:∀i,i<len->∃x:LB.Lab,V0 i= .string x.1/\V1 i= .string x.2:=λi hi=>by
   obtain⟨_,_,t0,t1⟩:=G i (by omega);obtain⟨k0,V,_⟩:=tW underlying9 t0;obtain⟨k1,Y,_⟩:=tW underlying9 t1;simp only[tG,and_true] at V Y;exact⟨(k0,k1),V,Y⟩
  obtain⟨X,hX⟩:=tg J;have A2:∀i,i<len->LB.at' ((qN len).map X) i=X i:=λi hi=>by
   simp[LB.at',hi]
  refine⟨(qN len).map X,by simp,λi hi=>?_⟩;have hi:i<len:=by simpa using hi
  rw[A2 i hi];obtain⟨c0,c1,_,_⟩:=G i (by omega);obtain⟨V,Y⟩:=hX i hi;obtain⟨b,off,U⟩:=a;have O:U=none:=by
   have:=ry (G 0 (by omega)).1;simpa [rz] using this
  subst O;rw[add_plain,V] at c0;rw[add_plain,Y] at c1;exact⟨b,off,rfl,c0,c1,qG _ _ c0⟩
theorem z9M {H:Type}{enc:qn×Value->H}{W:World}{a0:Option Addr}{len cap:Nat}{d:DataW H}{p:List yH}
  (h:td enc q6 W 0 (λ_=>true) true 91 (.slice a0 len cap) d p):
  ∃l:List CL.Smp,len=l.length/\z1I W a0 l/\∀s∈l,CL.Rs s:=by
 obtain⟨fuel,hf⟩:=h;rcases ig underlying91 underlying98 (by kernel_rfl) rfl rfl (by kernel_rfl) (by kernel_rfl) hf with⟨q,hx⟩|⟨a,A3,A4,m,nn,V0,V1,D0,D1,P0,P1,q,_,hl,hm,A1,hx,G⟩
 .simp[wQ] at q;obtain⟨rfl,rfl,rfl⟩:=q;exact⟨[],rfl,λi hi=>by simp at hi,λs V=>by simp at V⟩
 .simp[wQ] at q;obtain⟨rfl,rfl,rfl⟩:=q;simp only[if_true] at A1;have J:∀i,i<len->∃x:Int×Int,V0 i= .int .i64 x.1/\V1 i= .int .i64 x.2/\(rX .i64 x.1).wf=true/\(rX .i64 x.2).wf=true:=λi hi=>by
   obtain⟨_,_,t0,t1⟩:=G i (by omega);obtain⟨k0,Y,_,w0⟩:=r8 underlying2 t0;obtain⟨k1,e1,_,w1⟩:=r8 underlying2 t1;simp only[tG,and_true] at Y e1;exact⟨(k0,k1),Y,e1,w0,w1⟩
  obtain⟨X,hX⟩:=tg J;have A2:∀i,i<len->CL.at' ((qN len).map X) i=X i:=λi hi=>by
   simp[CL.at',hi]
  refine⟨(qN len).map X,by simp,λi hi=>?_,λs V=>?_⟩
  .have hi:i<len:=by simpa using hi
   rw[A2 i hi];obtain⟨c0,c1,_,_⟩:=G i (by omega);obtain⟨Y,e1,_,_⟩:=hX i hi;obtain⟨b,off,U⟩:=a;have O:U=none:=by
    have:=ry (G 0 (by omega)).1;simpa [rz] using this
   subst O;rw[add_plain,Y] at c0;rw[add_plain,e1] at c1;exact⟨b,off,rfl,c0,c1,qG _ _ c0⟩
  .rw[qx] at V;obtain⟨i,hi,rfl⟩:=V;obtain⟨_,_,w0,w1⟩:=hX i (by simpa using hi);exact⟨zr8 w0,zr8 w1⟩
end
section
open Go.ChangeShapes Go.WideShapes Go.ChangeAt Go.WideMaps Go.WideElems Go.RowKit
theorem zgl {H:Type}{enc:qn×Value->H}{W:World}{a0:Option Addr}{len cap:Nat}{d:DataW H}{p:List yH}{t e:qn}(O:q6.underlying t=some (.slice e))
  (h:td enc q6 W 0 (λ_=>true) true t (.slice a0 len cap) d p):znb (.slice a0 len cap):=by
 obtain⟨fuel,U⟩:=h;rcases eP O U with⟨q,Y⟩|⟨a,G,J,m,nn,D,Pl,q,_,V,_⟩
 .simp[wQ] at q;obtain⟨rfl,rfl,rfl⟩:=q;intro so n sc e;cases e;exact⟨qq _,λ_=>rfl⟩
 .simp[wQ] at q;obtain⟨rfl,rfl,rfl⟩:=q;intro so n sc e;cases e;exact⟨V,λe=>by cases e⟩
theorem zaM {H:Type}{enc:qn×Value->H}{W:World}{a0:Option Addr}{len cap:Nat}{d:DataW H}{p:List yH}
  (h:td enc q6 W 0 (λ_=>true) true 39 (.slice a0 len cap) d p):
  ∃l:List Sr,len=l.length/\z5i W (.slice a0 len cap) l/\∀i,i<l.length->∀s∈(z03 l i).2,CL.Rs s:=by
 obtain⟨fuel,hf⟩:=h;rcases eP underlying39 hf with⟨J,hx⟩|⟨a,Aj,Ak,m,nn,D,Pl,J,_,hl,hm,A7,hx,A8⟩
 .simp[wQ] at J;obtain⟨rfl,rfl,rfl⟩:=J;exact⟨[],rfl,⟨none,0,rfl,λi hi=>by simp at hi,λi hi=>by simp at hi,qq _,λ_=>rfl⟩,λi hi=>by simp at hi⟩
 .simp[wQ] at J;obtain⟨rfl,rfl,rfl⟩:=J;simp only[if_true] at A7;have ce:q6.cellsOf 93=2:=by kernel_rfl
  have c0:q6.cellsOf 90=1:=by kernel_rfl
  have c1:q6.cellsOf 91=1:=by kernel_rfl
  have A3:∀i,i<len->∃x:((Option Addr×Nat)×(Option Addr×Nat))×Sr,W.cell? (a.add (i*2))=some (.slice x.1.1.1 x.2.1.length x.1.1.2)/\W.cell? (a.add (i*2+1))=some (.slice x.1.2.1 x.2.2.length x.1.2.2)/\z1w W x.1.1.1 x.2.1/\z1I W x.1.2.1 x.2.2/\(∀s∈x.2.2,CL.Rs s)/\znb (.slice x.1.2.1 x.2.2.length x.1.2.2):=λi hi=>by
   obtain⟨A9,h1,h2⟩:=A8 i (by omega);rw[ce] at h1;obtain⟨_,O,U⟩:=yJ h1;obtain⟨xs,k,hk,Am,_,Ac,hf⟩:=tE underlying93 h2
   match xs,Ac,A9,O with
   | [y0,y1],_,[v0,v1],_=>
    have g0:=hf 0 _ rfl;have g1:=hf 1 _ rfl;simp[c0,c1] at g0 g1;have Ad:∃a1 G q,v0= .slice a1 G q:=by
     rcases eP underlying90 g0 with⟨J,_⟩|⟨a1,G,q,_,_,_,_,J,_⟩
     .exact⟨none,0,0,by simpa using J⟩
     .exact⟨some a1,G,q,by simpa using J⟩
    have Ae:∃a1 G q,v1= .slice a1 G q:=by
     rcases eP underlying91 g1 with⟨J,_⟩|⟨a1,G,q,_,_,_,_,J,_⟩
     .exact⟨none,0,0,by simpa using J⟩
     .exact⟨some a1,G,q,by simpa using J⟩
    obtain⟨a1,G,q,rfl⟩:=Ad;obtain⟨a2,A1,V,rfl⟩:=Ae;obtain⟨l1,Af,A4⟩:=zbg (enc:=enc) (W:=W) (a0:=a1) (len:=G) (cap:=q) ⟨_,by simpa [wQ] using g0⟩;obtain⟨l2,Ag,A5,Ah⟩:=z9M (enc:=enc) (W:=W) (a0:=a2) (len:=A1) (cap:=V) ⟨_,by simpa [wQ] using g1⟩;have Ai:=zgl (enc:=enc) (W:=W) (a0:=a2) (len:=A1) (cap:=V) underlying91 ⟨_,by simpa [wQ] using g1⟩;subst Af Ag;have q0:=U 0 (by omega);have q1:=U 1 (by omega);rw[uF] at q0 q1;refine⟨(((a1,q),(a2,V)),(l1,l2)),?_,?_,A4,A5,Ah,Ai⟩
    .simpa using q0
    .simpa using q1
  obtain⟨X,hX⟩:=tg A3;have A6:∀i,i<len->z03 ((qN len).map λi=>(X i).2) i=(X i).2:=λi hi=>by
   simp[z03,hi]
  obtain⟨b,off,A2⟩:=a;have Y:∀i,i<len->A2=none:=λi hi=>by
   have:=ry (hX 0 (by omega)).1;simpa [rz] using this
  have O:((qN len).map λi=>(X i).2).length=len:=by simp
  refine⟨(qN len).map λi=>(X i).2,by simp,⟨some ⟨b,off,A2⟩,cap,by rw[O],λi hi=>?_,λi hi b2 Al e v hv=>?_,by rw[O];exact hl,λe=>by cases e⟩,λi hi=>?_⟩
  .have hi:i<len:=by simpa using hi
   rw[A6 i hi];obtain⟨c0,c1,A4,A5,_⟩:=hX i hi;obtain rfl:=Y i hi;rw[add_plain] at c0 c1;exact⟨b,off,rfl,qG _ _ c0,(X i).1.1.1,(X i).1.1.2,(X i).1.2.1,(X i).1.2.2,c0,c1,A4,A5⟩
  .have hi:i<len:=by simpa using hi
   obtain rfl:=Y i hi;cases e;obtain⟨_,c1,_,_,_,hc⟩:=hX i hi;rw[add_plain] at c1;have e3:off+(i*2+1)=off+i*2+1:=by omega
   first
    | rw[c1] at hv;cases hv;exact hc
    | rw[e3] at c1;rw[c1] at hv;cases hv;exact hc
  .have hi:i<len:=by simpa using hi
   rw[A6 i hi];exact(hX i hi).2.2.2.2.1
theorem z94 {H:Type}{enc:qn×Value->H}{W:World}{a0:Option Addr}{len cap:Nat}{d:DataW H}{p:List yH}
  (h:td enc q6 W 0 (λ_=>true) true 23 (.slice a0 len cap) d p):
  ∃l:List LB.Mat,len=l.length/\z3s W a0 l/\(∀x∈l, -9223372036854775808<=x.op/\x.op<=9223372036854775807)/\l.length<=cap/\(a0=none->cap=0):=by
 obtain⟨fuel,V⟩:=h;rcases eP underlying23 V with⟨G,U⟩|⟨a,A7,A8,m,nn,D,Pl,G,_,hl,hm,A2,U,A3⟩
 .simp[wQ] at G;obtain⟨rfl,rfl,rfl⟩:=G;exact⟨[],rfl,λi hi=>by simp at hi,λx U=>by simp at U,by simp,λ_=>rfl⟩
 .simp[wQ] at G;obtain⟨rfl,rfl,rfl⟩:=G;simp only[if_true] at A2;have ce:q6.cellsOf 62=3:=by kernel_rfl
  have c0:q6.cellsOf 9=1:=by kernel_rfl
  have c1:q6.cellsOf 3=1:=by kernel_rfl
  have J:∀i,i<len->∃x:LB.Mat,W.cell? (a.add (i*3))=some (.string x.nm)/\W.cell? (a.add (i*3+1))=some (.int .i64 x.op)/\W.cell? (a.add (i*3+2))=some (.string x.vl)/\ -9223372036854775808<=x.op/\x.op<=9223372036854775807:=λi hi=>by
   obtain⟨A4,h1,h2⟩:=A3 i (by omega);rw[ce] at h1;obtain⟨_,Y,q⟩:=yJ h1;obtain⟨xs,k,hk,A9,_,A5,V⟩:=tE underlying62 h2
   match xs,A5,A4,Y with
   | [y0,y1,y2],_,[v0,v1,v2],_=>
    have g0:=V 0 _ rfl;have g1:=V 1 _ rfl;have g2:=V 2 _ rfl;simp[c0,c1] at g0 g1 g2;obtain⟨k0,e0,_⟩:=tW underlying9 g0;obtain⟨k1,e1,_,w1⟩:=r8 underlying3 g1;obtain⟨k2,e2,_⟩:=tW underlying9 g2;simp only[tG,and_true] at e0 e1 e2;have q0:=q 0 (by omega);have q1:=q 1 (by omega);have q2:=q 2 (by omega);rw[uF] at q0 q1 q2;refine⟨⟨k0,k1,k2⟩,?_,?_,?_,zr8 w1⟩
    .simpa [e0] using q0
    .simpa [e1] using q1
    .simpa [e2] using q2
  have:Inhabited LB.Mat:=⟨⟨qy,0,qy⟩⟩;obtain⟨X,hX⟩:=tg J;have A6:∀i,i<len->LB.am ((qN len).map X) i=X i:=λi hi=>by
   simp[LB.am,hi]
  refine⟨(qN len).map X,by simp,λi hi=>?_,λx U=>?_,by simpa using hl,λh=>by cases h⟩
  .have hi:i<len:=by simpa using hi
   rw[A6 i hi];obtain⟨c0,c1,c2,_⟩:=hX i hi;obtain⟨b,off,A1⟩:=a;have O:A1=none:=by
    have:=ry (hX 0 (by omega)).1;simpa [rz] using this
   subst O;rw[add_plain] at c0 c1 c2;exact⟨b,off,rfl,c0,c1,c2,qG _ _ c0⟩
  .rw[qx] at U;obtain⟨i,hi,rfl⟩:=U;exact(hX i (by simpa using hi)).2.2.2
end
section
open Go.ChangeShapes Go.WideShapes Go.ChangeAt Go.WideMaps Go.WideElems Go.RowKit
theorem zdI {H:Type}{enc:qn×Value->H}{W:World}{a0:Option Addr}{len cap:Nat}{d:DataW H}{p:List yH}
  (h:td enc q6 W 0 (λ_=>true) true 22 (.slice a0 len cap) d p):
  ∃l:List Stp,len=l.length/\zl7 W a0 l:=by
 obtain⟨fuel,hf⟩:=h;rcases eP underlying22 hf with⟨J,hx⟩|⟨a,Al,Am,m,nn,D,Pl,J,_,hl,hm,A6,hx,A7⟩
 .simp[wQ] at J;obtain⟨rfl,rfl,rfl⟩:=J;exact⟨[],rfl,λi hi=>by simp at hi⟩
 .simp[wQ] at J;obtain⟨rfl,rfl,rfl⟩:=J;simp only[if_true] at A6;have ce:q6.cellsOf 41=6:=by kernel_rfl
  have c0:q6.cellsOf 3=1:=by kernel_rfl
  have c1:q6.cellsOf 39=1:=by kernel_rfl
  have c2:q6.cellsOf 2=1:=by kernel_rfl
  have c3:q6.cellsOf 25=3:=by kernel_rfl
  have c4:q6.cellsOf 23=1:=by kernel_rfl
  have Y:∀i,i<len->∃x:((Option Addr×Nat)×(Option Addr×Nat))×Stp,W.cell? (a.add (i*6))=some (.int .i64 x.2.what)/\W.cell? (a.add (i*6+1))=some (.slice x.1.1.1 x.2.L.length x.1.1.2)/\W.cell? (a.add (i*6+2))=some (.int .i64 x.2.t)/\W.cell? (a.add (i*6+3))=some (.slice x.1.2.1 x.2.M.length x.1.2.2)/\W.cell? (a.add (i*6+4))=some (.int .i64 x.2.fr)/\W.cell? (a.add (i*6+5))=some (.int .i64 x.2.tt)/\zeB W x.1.1.1 x.1.1.2 x.1.2.1 x.1.2.2 x.2:=λi hi=>by
   obtain⟨A8,h1,h2⟩:=A7 i (by omega);rw[ce] at h1;obtain⟨_,A3,O⟩:=yJ h1;obtain⟨xs,k,hk,Ap,_,A9,hf⟩:=tE underlying41 h2
   match xs,A9,A8,A3 with
   | [y0,y1,y2,y3],_,[v0,v1,v2,v3,v4,v5],_=>
    have g0:=hf 0 _ rfl;have g1:=hf 1 _ rfl;have g2:=hf 2 _ rfl;have g3:=hf 3 _ rfl;simp[c0,c1,c2,c3] at g0 g1 g2 g3;obtain⟨n0,e0,_,w0⟩:=r8 underlying3 g0;obtain⟨n2,e2,_,w2⟩:=r8 underlying2 g2;obtain⟨ys,k3,Aq,Ao,_,Ac,hg⟩:=tE underlying25 g3
    match ys,Ac with
    | [z0,z1,z2],_=>
     have s0:=hg 0 _ rfl;have s1:=hg 1 _ rfl;have s2:=hg 2 _ rfl;simp[c2,c4] at s0 s1 s2;obtain⟨n4,e4,_,w4⟩:=r8 underlying2 s1;obtain⟨n5,e5,_,w5⟩:=r8 underlying2 s2;have Ad:∃U G q,v1= .slice U G q:=by
      rcases eP underlying39 g1 with⟨J,_⟩|⟨U,G,q,_,_,_,_,J,_⟩
      .exact⟨none,0,0,by simpa using J⟩
      .exact⟨some U,G,q,by simpa using J⟩
     have Ae:∃U G q,v3= .slice U G q:=by
      rcases eP underlying23 s0 with⟨J,_⟩|⟨U,G,q,_,_,_,_,J,_⟩
      .exact⟨none,0,0,by simpa using J⟩
      .exact⟨some U,G,q,by simpa using J⟩
     obtain⟨U,G,q,rfl⟩:=Ad;obtain⟨a2,A4,V,rfl⟩:=Ae;obtain⟨l1,Af,A1,Ag⟩:=zaM (enc:=enc) (W:=W) (a0:=U) (len:=G) (cap:=q) ⟨_,by simpa [wQ] using g1⟩;obtain⟨l2,Ah,Ai,Aj⟩:=z94 (enc:=enc) (W:=W) (a0:=a2) (len:=A4) (cap:=V) ⟨_,by simpa [wQ] using s0⟩;subst Af Ah;simp only[tG,and_true] at e0 e2 e4 e5;have q0:=O 0 (by omega);have q1:=O 1 (by omega);have q2:=O 2 (by omega);have q3:=O 3 (by omega);have q4:=O 4 (by omega);have q5:=O 5 (by omega);rw[uF] at q0 q1 q2 q3 q4 q5;refine⟨(((U,q),(a2,V)),⟨n0,l1,n2,l2,n4,n5⟩),?_,?_,?_,?_,?_,?_,⟨A1,Ag,Ai,Aj.1,zr8 w2,zr8 w4,zr8 w5,zr8 w0⟩⟩
     .simpa [e0] using q0
     .simpa using q1
     .simpa [e2] using q2
     .simpa using q3
     .simpa [e4] using q4
     .simpa [e5] using q5
  have:Inhabited Stp:=⟨⟨0,[],0,[],0,0⟩⟩;obtain⟨X,hX⟩:=tg Y;have Ak:∀i,i<len->atP ((qN len).map λi=>(X i).2) i=(X i).2:=λi hi=>by
   simp[atP,hi]
  refine⟨(qN len).map λi=>(X i).2,by simp,λi hi=>?_⟩;have hi:i<len:=by simpa using hi
  rw[Ak i hi];obtain⟨c0,c1,c2,c3,c4,c5,A1⟩:=hX i hi;obtain⟨b,off,A5⟩:=a;have A2:A5=none:=by
   have:=ry (hX 0 (by omega)).1;simpa [rz] using this
  subst A2;rw[add_plain] at c0 c1 c2 c3 c4 c5;exact⟨b,off,rfl,qG _ _ c0,(X i).1.1.1,(X i).1.1.2,(X i).1.2.1,(X i).1.2.2,c0,c1,c2,c3,c4,c5,A1⟩
end
section
open Go.ChangeShapes Go.WideShapes Go.ChangeAt Go.WideMaps Go.WideElems Go.RowKit
theorem zm8 {H:Type}{enc:qn×Value->H}{W:World}{a0:Option Addr}{len cap:Nat}{d:DataW H}{p:List yH}
  (h:td enc q6 W 0 (λ_=>true) true 51 (.slice a0 len cap) d p):
  ∃l:List Int,len=l.length/\zmB W a0 l:=by
 obtain⟨fuel,hf⟩:=h;have Y:q6.cellsOf 3=1:=by kernel_rfl
 rcases open_ints underlying51 underlying3 Y hf with⟨q,hx⟩|⟨a,A3,A4,U,q,_,hl,hm,hz,hx,G,A1⟩
 .simp[wQ] at q;obtain⟨rfl,rfl,rfl⟩:=q;exact⟨[],rfl,λi hi=>by simp at hi⟩
 .simp[wQ] at q;obtain⟨rfl,rfl,rfl⟩:=q;simp only[if_true] at hz;refine⟨U.take len,by rw[qb];omega,λi hi=>?_⟩;have A2:i<len:=by rw[qb] at hi;omega
  have e:(U.take len).getD i 0=U[i]'(by omega):=by rw[q7,List.getElem?_take_of_lt A2,qw (by omega)];rfl
  have e2:U.getD i 0=U[i]'(by omega):=by rw[q7,qw (by omega)];rfl
  have J:=G i (by omega);obtain⟨b,off,V⟩:=a;have O:V=none:=by
   have:=ry (G 0 (by omega));simpa [rz] using this
  subst O;rw[add_plain] at J;refine⟨b,off,rfl,qG _ _ J,?_,?_⟩
  .rw[e,<-e2];exact J
  .rw[e];exact zr8 (A1 _ (List.getElem_mem _))
end
end Go.Proofs.YtemeblgngidldaaGreatDoor
