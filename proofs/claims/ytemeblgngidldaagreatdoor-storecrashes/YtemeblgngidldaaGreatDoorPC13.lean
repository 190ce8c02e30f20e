/- Texts put together and made smaller by program: SoWdN SoRef CxShort CsShort SoStp SoUse SoStep ShelfC ChRead CrAll. -/
import Derived.Test.YtemeblgngidldaaGreatDoorPC12
import Derived.Shelf.Pu.Clone
set_option linter.unusedVariables false
set_option linter.unusedSimpArgs false
set_option maxRecDepth 100000
set_option maxHeartbeats 12800000
open BitVec renaming ofInt->ed
open Bool renaming and_eq_true->qI
open Go renaming TypeId->qn,Ending->rO,heap_alloc_new->qu,heap_setCell_same->qo,wpList_append_own->rB,bodyPost_ret->rP,results_cell_row->uu
open Go.BinOp renaming or->uz
open Go.Calls renaming mono->wU
open Go.Instr renaming loadAt->wZ
open Go.IntKind renaming i64->qW,wrap_i64->qY
open Go.Obj renaming cells->uR
open Go.Obj.cells renaming injEq->rI
open Go.Proofs.AnyPu renaming stringslite_Clone->oJ
open Go.Proofs.LaysPu renaming n25->oU
open Go.Value renaming slice->wH
open Go.World renaming frozen?->wz
open Go.World.grownBy renaming refl->iT
open Go.World.ownsRow renaming alloc->uE,lt->ul
open List renaming mem_iff_getElem->eI,getD_eq_getElem?_getD->q7,getElem?_eq_getElem->qw,pairwise_iff_getElem->qV,mem_map->qx,length_map->qz,length_append->q8,mem_append_right->yZ,mem_append_left->ic,mem_singleton->qk,mem_of_mem_take->rE,getElem_mem->qK,length_take->qb
open Nat renaming lt_or_ge->o9,le_trans->qi,le_succ->wP,le_refl->qq,lt_of_lt_of_le->qe
open Option.some renaming inj->qt,injEq->qR
open Go.Proofs.Tryz renaming prog->q6
open Go.Proofs.Tryz
namespace Go.Proofs.YtemeblgngidldaaGreatDoor
namespace SX
def zhN (mark:Int)(H L:List Sr)(i:Nat):List Sr:=(HD.run mark H (L.take i) 0).2
theorem z96 {mark:Int}:∀(l S:List Sr) (k i:Nat),(HD.run mark S l k).1=none->i<l.length->(HD.run mark S (l.take i) k).1=none/\HD.err mark (HD.run mark S (l.take i) k).2 (z03 l i)=0/\(HD.run mark S (l.take (i+1)) k).2=HD.nxt (HD.run mark S (l.take i) k).2 (z03 l i)
 | [],_,_,_,_,h=>by cases h
 | x::l,S,k,i,hn,hi=>by
  unfold HD.run at hn;by_cases e:HD.err mark S x=0
  .rw[if_pos e] at hn;cases i with
   | zero=>
    have q:z03 (x::l) 0=x:=rfl;refine⟨rfl,by rw[q];exact e,?_⟩;rw[q];show(HD.run mark S [x] k).2=HD.nxt S x;unfold HD.run;rw[if_pos e];rfl
   | succ i=>
    have J:=z96 l (HD.nxt S x) (k+1) i hn (by simpa using hi);have O:z03 (x::l) (i+1)=z03 l i:=rfl;rw[O];have G:∀j,HD.run mark S ((x::l).take (j+1)) k=HD.run mark (HD.nxt S x) (l.take j) (k+1):=λj=>by
     rw[List.take_succ_cons]
     conv=>lhs;unfold HD.run
     rw[if_pos e]
    rw[G,G];exact J
  .rw[if_neg e] at hn;cases hn
theorem z9q {mark:Int}{H L:List Sr}(h:(HD.app mark H L).1=(0, -1)):(HD.run mark H L 0).1=none/\(HD.app mark H L).2=(HD.run mark H L 0).2/\HD.total L<=40:=by
 have q:=z7u h;unfold HD.app at h ⊢;rw[if_neg (by omega)] at h ⊢;cases e:HD.run mark H L 0 with
 | mk a b=>
  rw[e] at h;cases a with
  | none=>exact⟨rfl,rfl,q⟩
  | some p=>
   simp only at h;have:=congrArg Prod.snd h;simp only at this;omega
theorem z6m {L:List Sr}{i:Nat}(hi:i<L.length):(z03 L i).2.length<=HD.total L:=by
 have h:=HD.z14 L i hi;have q:=HD.zdd L (i+1);omega
theorem zj3 {mark:Int}{S T:List Sr}{x:Sr}(hS:HD.Good S)(hT:HD.Good T)(Ad:T.length<=60)(hs:∀L q,In S L q->In T L q)(he:HD.err mark T x=0):HD.err mark S x=0:=by
 obtain⟨h1,h2,h3,h4,h5⟩:=HD.z3S he;have Y:=z16.z4b hS;have nT:=z16.z4b hT;have O:HD.there S x.1=true->∃z∈S,z.1=x.1/\z=z03 S (HD.pos S x.1):=λh=>by
  have hp:=of_decide_eq_true h;refine⟨_,HD.at_mem S _ hp.1,?_,rfl⟩;exact HD.cmp_eq hp.2
 have G:∀(U:List Sr),HD.Ord U->(∃z∈U,z.1=x.1)->HD.there U x.1=true:=λU hU ⟨z,J,e⟩=>by
  obtain⟨i,hi,rfl⟩:=HD.z3T J;exact(HD.z2z hU _).2 ⟨i,hi,by rw[e];exact HD.z1A _⟩
 have A1:HD.there S x.1=true->HD.there T x.1=true:=λh=>by
  obtain⟨z,J,e,_⟩:=O h;obtain⟨q,hq⟩:=List.exists_mem_of_length_pos (Y.ne z J);obtain⟨y,hy,e2,_⟩:=hs z.1 q ⟨z,J,rfl,hq⟩;exact G T hT.ord ⟨y,hy,e2.trans e⟩
 unfold HD.err;have q0:¬(LB.right x.1=false\/CL.right x.2=false\/x.2.length=0):=by
  rintro(q|q|q)
  .rw[h1] at q;cases q
  .rw[h2] at q;cases q
  .omega
 have q9:¬HD.firstT x<=mark:=by omega
 rw[if_neg q0,if_neg q9];by_cases ht:HD.there S x.1=true
 .rw[if_pos ht];have A2:=A1 ht;rcases h5 with⟨_,h6,h7⟩|⟨h6,_⟩
  .obtain⟨z,J,e,ez⟩:=O ht;have hp:=of_decide_eq_true A2;have hy:=HD.at_mem T _ hp.1;have ey:(z03 T (HD.pos T x.1)).1=x.1:=HD.cmp_eq hp.2;have V:∀q∈z.2,q∈(z03 T (HD.pos T x.1)).2:=λq hq=>by
    obtain⟨y,A3,e2,A4⟩:=hs z.1 q ⟨z,J,rfl,hq⟩;have:y=z03 T (HD.pos T x.1):=uniq hT.ord A3 hy (by rw[e2,e,ey]);rw[<-this];exact A4
   have Ac:z.2.length<=(z03 T (HD.pos T x.1)).2.length:=z2K _ _ ((Y.ris z J).imp λ{a b} A5 e=>by rw[e] at A5;omega) V;have A6:HD.lastT z<=HD.lastT (z03 T (HD.pos T x.1)):=by
    have A7:=Y.ne z J;have hl:=V _ (zfB A7);obtain⟨i,hi,ei⟩:=eI.1 hl;have hr:=nT.ris _ hy;unfold HD.lastT;rw[<-ei];have e9:CL.at' (z03 T (HD.pos T x.1)).2 ((z03 T (HD.pos T x.1)).2.length-1)=(z03 T (HD.pos T x.1)).2[(z03 T (HD.pos T x.1)).2.length-1]'(by omega):=by unfold CL.at';rw[q7,qw (by omega)];rfl
    rw[e9];rcases o9 i ((z03 T (HD.pos T x.1)).2.length-1) with k|k
    .have:=qV.1 hr i _ hi (by omega) k;omega
    .have:i=(z03 T (HD.pos T x.1)).2.length-1:=by omega
     subst this;exact Int.le_refl _
   rw[<-ez];have q1:¬HD.firstT x<=HD.lastT z:=by omega
   have q2:¬2000<z.2.length+x.2.length:=by omega
   rw[if_neg q1,if_neg q2]
  .rw[A2] at h6;cases h6
 .rw[if_neg ht,if_neg];have Ae:=zfY Y hs;rcases h5 with⟨h6,_⟩|⟨_,h6⟩
  .have hp:=of_decide_eq_true h6;have A8:x.1∉S.map (·.1):=λhm=>ht (by
    obtain⟨z,J,e⟩:=qx.1 hm;exact G S hS.ord ⟨z,J,e⟩)
   have A9:x.1∈T.map (·.1):=qx.2 ⟨_,HD.at_mem T _ hp.1,HD.cmp_eq hp.2⟩;have:=z2K (x.1::S.map (·.1)) (T.map (·.1)) (List.nodup_cons.2 ⟨A8,z8r Y.ord⟩) λL hL=>by
    rcases List.mem_cons.1 hL with rfl|hL
    .exact A9
    .obtain⟨z,J,rfl⟩:=qx.1 hL;obtain⟨q,hq⟩:=Y.some J;exact(hs _ q hq).key
   rw[List.length_cons,qz,qz] at this;omega
  .omega
theorem zjd {a b:List Sr}(h:z16 a)(hb:z16 b):HD.total (HD.jn a b)<=HD.total a+HD.total b:=by
 rw[<-z5h,<-z5h,<-z5h,<-q8];refine z2K _ _ (z9I (z4i h hb)) λ⟨L,s⟩ q=>?_
 rcases(zeq h hb L s).1 (z7q.1 q) with e|⟨e,_⟩
 .exact yZ _ (z7q.2 e)
 .exact ic _ (z7q.2 e)
theorem zmP {a b:List Sr}(h:z16 a)(hb:z16 b):(HD.jn a b).length<=a.length+b.length:=by
 have:=z8F (K:=a.map (·.1)++b.map (·.1)) (z4i h hb) λL s q=>by
  rcases(zeq h hb L s).1 q with e|⟨e,_⟩
  .exact yZ _ e.key
  .exact ic _ e.key
 rwa[q8,qz,qz] at this
theorem zgi {mark:Int}{S:List Sr}{x:Sr}(h:(HD.app mark S [x]).1=(0, -1))(U:∀s∈x.2,CL.Rs s):HD.err mark S x=0/\Pts 1 [x]/\(HD.app mark S [x]).2=HD.nxt S x:=by
 obtain⟨G,V,h3⟩:=z9q h;have J:HD.err mark S x=0:=by
  unfold HD.run at G;by_cases e:HD.err mark S x=0
  .exact e
  .rw[if_neg e] at G;cases G
 obtain⟨Y,k2,k3,_⟩:=HD.z3S J;obtain⟨r1,r2,r3⟩:=(z1c x.2).1 k2;refine⟨J,⟨⟨List.pairwise_singleton _ _,λy q=>by rw[qk.1 q];exact r2,λy q=>by rw[qk.1 q];exact k3⟩,λL s hs=>?_,by omega,by simp⟩,?_⟩
 .obtain⟨y,q,e,O⟩:=hs;rw[qk.1 q] at e O;exact⟨by rw[<-e];exact Y,r3 s O,U s O⟩
 .rw[V];show(HD.run mark S [x] 0).2=_;unfold HD.run;rw[if_pos J];rfl
theorem Pts.join {a b:Nat}{A B:List Sr}(h:Pts a A)(k:Pts b B):Pts (a+b) (HD.jn A B):=by
 refine⟨z4i h.nice k.nice,λL s q=>?_,?_,?_⟩
 .rcases(zeq h.nice k.nice L s).1 q with e|⟨e,_⟩
  .exact k.pt L s e
  .exact h.pt L s e
 .have G:=zjd h.nice k.nice;have:=h.tot;have:=k.tot;omega
 .have G:=zmP h.nice k.nice;have:=h.ser;have:=k.ser;omega
theorem ahead {T:List Sr}{x:Sr}(q:HD.Good T)(Y:(HD.there T x.1=true/\HD.lastT (z03 T (HD.pos T x.1))<HD.firstT x/\(z03 T (HD.pos T x.1)).2.length+x.2.length<=2000)\/(HD.there T x.1=false/\T.length<60)){M:List LB.Lab}{s:CL.Smp}(eM:x.1=M)(hs:In T M s):s.1<HD.firstT x:=by
 obtain⟨y,G,e,J⟩:=hs;have O:HD.there T x.1=true:=by
  obtain⟨i,hi,rfl⟩:=HD.z3T G;exact(HD.z2z q.ord _).2 ⟨i,hi,by rw[e,eM];exact HD.z1A _⟩
 rcases Y with⟨_,h,_⟩|⟨h,_⟩
 .have hp:=of_decide_eq_true O;have U:=HD.at_mem T _ hp.1;have ez:y=z03 T (HD.pos T x.1):=uniq q.ord G U (by rw[e,<-eM];exact(HD.cmp_eq hp.2).symm);rw[ez] at J;have hr:=(z16.z4b q).ris _ U;obtain⟨i,hi,V⟩:=eI.1 J;have e9:CL.at' (z03 T (HD.pos T x.1)).2 ((z03 T (HD.pos T x.1)).2.length-1)=(z03 T (HD.pos T x.1)).2[(z03 T (HD.pos T x.1)).2.length-1]'(by omega):=by unfold CL.at';rw[q7,qw (by omega)];rfl
  unfold HD.lastT at h;rw[e9] at h;rcases o9 i ((z03 T (HD.pos T x.1)).2.length-1) with k|k
  .have:=qV.1 hr i _ hi (by omega) k;rw[V] at this;omega
  .have:i=(z03 T (HD.pos T x.1)).2.length-1:=by omega
   subst this;rw[V] at h;exact h
 .rw[O] at h;cases h
structure Wl1 (a:Nat) (x:St) (L:List Sr) (i:Nat) (Hh out:List Sr):Prop where
 good:HD.Good Hh
 pts:Pts (a+i) out
 run:(HD.app x.s.mark x.s.H L).1=(0, -1)->(∀M q,In Hh M q->In (zhN x.s.mark x.s.H L i) M q)/\∀M q,In out M q↔In (all x.s) M q\/In (zhN x.s.mark x.s.H L i) M q
theorem Wl1.start {a k:Nat}{x:St}(h:Cor a k x)(L:List Sr):Wl1 a x L 0 [] (all x.s):=⟨HD.Good.nil,h.pts,λ_=>⟨λM q e=>absurd e (In.nil M q),λM q=>⟨.inl,λe=>e.elim id (h.inH M q)⟩⟩⟩
theorem zav {mark:Int}{H L:List Sr}(h:HD.Good H)(q:∀x∈L,∀s∈x.2,CL.Rs s)(i:Nat):HD.Good (zhN mark H L i):=HD.z8Z h λx G=>q x (rE G)
theorem Wl1.zku {a k:Nat}{x:St}{L:List Sr}{i:Nat}{q out:List Sr}(h:Wl1 a x L i q out)(hc:Cor a k x)(J:∀y∈L,∀s∈y.2,CL.Rs s)(hi:i<L.length)(G:(HD.app x.s.mark x.s.H L).1=(0, -1)):(HD.app x.s.mark q [z03 L i]).1=(0, -1):=by
 obtain⟨O,Y,r3⟩:=z9q G;obtain⟨_,U,_⟩:=z96 L x.s.H 0 i O hi;have V:=zj3 h.good (zav (mark:=x.s.mark) hc.fit.inv.head J i) (z7A hc.fit.sixty) (h.run G).1 U;have h4:=z6m hi;rw[zfV (by omega) V]
theorem Wl1.step {a k:Nat}{x:St}{L:List Sr}{i:Nat}{Hh out:List Sr}(h:Wl1 a x L i Hh out)(hc:Cor a k x)(hR:∀y∈L,∀s∈y.2,CL.Rs s)(hi:i<L.length)(h1:(HD.app x.s.mark Hh [z03 L i]).1=(0, -1)):Wl1 a x L (i+1) (HD.app x.s.mark Hh [z03 L i]).2 (HD.jn out [z03 L i]):=by
 have J:∀s∈(z03 L i).2,CL.Rs s:=hR _ (HD.at_mem L i hi);obtain⟨e0,hp,en⟩:=zgi h1 J;refine⟨HD.z6g h.good λy O=>by rw[qk.1 O];exact J,?_,λhe=>?_⟩
 .have:=h.pts.join hp;rwa[Nat.add_assoc] at this
 .obtain⟨r1,_,_⟩:=z9q he;obtain⟨_,p2,p3⟩:=z96 L x.s.H 0 i r1 hi;have hg:=zav (mark:=x.s.mark) hc.fit.inv.head hR i;have hS:∀M q,In (zhN x.s.mark x.s.H L (i+1)) M q↔In (zhN x.s.mark x.s.H L i) M q\/((z03 L i).1=M/\q∈(z03 L i).2):=λM q=>by
   unfold zhN;rw[p3];exact zeU hg.ord p2 M q
  have U:∀M q,In [z03 L i] M q↔((z03 L i).1=M/\q∈(z03 L i).2):=λM q=>⟨λ⟨y,O,e,G⟩=>by rw[qk.1 O] at e G;exact⟨e,G⟩,λ⟨e,G⟩=>⟨_,qk.2 rfl,e,G⟩⟩
  obtain⟨q1,q2⟩:=h.run he;refine⟨λM q hq=>?_,λM q=>?_⟩
  .rw[en] at hq;rcases(zeU h.good.ord e0 M q).1 hq with e|e
   .exact(hS M q).2 (.inl (q1 M q e))
   .exact(hS M q).2 (.inr e)
  .obtain⟨k1,k2,k3,k4,k5⟩:=HD.z3S p2;have V:∀s t,In out M s->In [z03 L i] M t->t.1≠s.1:=λs t hs Y=>by
    obtain⟨eM,G⟩:=(U M t).1 Y;have A1:=zcN k2 G;rcases(q2 M s).1 hs with e|e
    .rcases(z2c hc.fit.inv M s).1 e with⟨b,hb,e⟩|e
     .have a1:=hc.fit.inv.tim b hb M s e;have a2:=hc.fit.inv.low b hb;omega
     .have:In (zhN x.s.mark x.s.H L i) M s:=by
       have:=(zcL (mark:=x.s.mark) (l:=L.take i) (i:=0) hc.fit.inv.head (λy O=>hR y (rE O)) (z96 L x.s.H 0 i r1 hi).1 M s).1;exact this.2 (.inl e)
      have:=ahead hg k5 eM this;omega
    .have:=ahead hg k5 eM e;omega
   rw[zeq h.pts.nice hp.nice,hS,q2,U];constructor
   .rintro(e|⟨e|e,_⟩)
    .exact .inr (.inr e)
    .exact .inl e
    .exact .inr (.inl e)
   .rintro(e|e|e)
    .exact .inr ⟨.inl e,λt Y=>V q t ((q2 M q).2 (.inl e)) Y⟩
    .exact .inr ⟨.inr e,λt Y=>V q t ((q2 M q).2 (.inr e)) Y⟩
    .exact .inl e
theorem Wl1.done {a k:Nat}{x:St}{L:List Sr}{V out:List Sr}(h:Wl1 a x L L.length V out)(hc:Cor a k x)(J:∀y∈L,∀s∈y.2,CL.Rs s)(O:(HD.app x.s.mark x.s.H L).1=(0, -1)):out=all (zjO L x).s:=by
 have G:=z7t hc.fit.inv (l:=L) J;refine ext h.pts.nice (z1s G) λM q=>?_
 obtain⟨Y,U,_⟩:=z9q O;have e1:zhN x.s.mark x.s.H L L.length=(HD.app x.s.mark x.s.H L).2:=by unfold zhN;rw[List.take_length,U]
 rw[(h.run O).2,e1];show _↔In (all (app L x.s)) M q;rw[z2c G,z2c hc.fit.inv];show _↔(∃b∈x.s.B,In b.S M q)\/In (HD.app x.s.mark x.s.H L).2 M q;constructor
 .rintro((e|e)|e)
  .exact .inl e
  .refine .inr ?_;rw[U];exact((zcL (mark:=x.s.mark) (l:=L) (i:=0) hc.fit.inv.head J Y M q).1).2 (.inl e)
  .exact .inr e
 .rintro(e|e)
  .exact .inl (.inl e)
  .exact .inr e
end SX
section
open Go.RowKit Go.Maps
section
variable {w : World} {bs bw bd cnt hb bm mc : Nat} {Z Zh : Nat → Prop} {D : DK.M} {p : Int} {dn up : Bool} {vg : Value} {x : SX.St} {od : Int → Int}
theorem zek (h:z0H w bs bw bd cnt Z D p dn true hb bm mc Zh vg x od)(t:Int)(J:¬(-1099511627776<=t/\t<=1099511627776)):
  Calls q6 26 #[.pointer (some ⟨bs,0,none⟩),.int .i64 t] w λe w'=>e= .returned (.iface 56 (.int .i64 2))/\w'=w:=by
 have G:=hid (z1e h);clear h;by_cases O:t< -1099511627776
 .clear J;go_enter func26,ntmps26;go_wp2_with fail;refine G.out.mono ?_;rintro e w0 ⟨rfl,q⟩;have q:=q.symm;subst q;clear G;go_wp2_with fail;go_ret;exact⟨rfl,rfl⟩
 .have U:1099511627776<t:=by omega
  clear J;go_enter func26,ntmps26;go_wp2_with fail;refine G.out.mono ?_;rintro e w0 ⟨rfl,q⟩;have q:=q.symm;subst q;clear G;go_wp2_with fail;go_ret;exact⟨rfl,rfl⟩
theorem zgg (h:z0H w bs bw bd cnt Z D p dn true hb bm mc Zh vg x od)(t:Int)(h1: -1099511627776<=t)(h2:t<=1099511627776)(V:SX.Fit x)(h3:30<=x.s.B.length):
  Calls q6 26 #[.pointer (some ⟨bs,0,none⟩),.int .i64 t] w λe w'=>e= .returned (.iface 56 (.int .i64 12))/\w'=w:=by
 obtain⟨mf,⟨Y,q,U⟩,G⟩:=h.now.mp;have J:=z9g q U (z4c G (V.inv.asc.imp λk=>k.1));rw[qz] at J;have HC:=hid (z1e h);have m4:w.cell? ⟨bs,4,none⟩=some (.map (some bm)):=z01 _ _ _ _ h.box 4 _ rfl;have A1:(30:Int)<=(Maps.size Y:Int):=by omega
 clear h G J V h3 U;go_enter func26,ntmps26;go_wp2_with fail;refine HC.out.mono ?_;rintro e w0 ⟨rfl,O⟩;have O:=O.symm;subst O;clear HC;go_wp2_with (at_len;refine wpList_len_own _ rfl _ 75 rfl 2 123 (by kernel_rfl) _ bm mc Y rfl q ?_)
 go_ret;exact⟨rfl,rfl⟩
theorem zfx (h:z0H w bs bw bd cnt Z D p dn false hb bm mc Zh vg x od)(v:Value)(k c:Nat)(a:Option Addr)(J:v= .slice a k c):
  Calls q6 23 #[.pointer (some ⟨bs,0,none⟩),v] w λe w'=>e= .returned (.iface 56 (.int .i64 6))/\w'=w:=by
 subst J;have G:=hid (z1e h);clear h;go_enter func23,ntmps23;go_wp2_with fail;refine G.out.mono ?_;rintro e w0 ⟨rfl,q⟩;have q:=q.symm;subst q;clear G;go_wp2_with fail;go_ret;exact⟨rfl,rfl⟩
end
end
section
open Go.RowKit
def shL (l:List LB.Lab):Bool:=decide (l.length<=20/\∀i,i<l.length->(LB.at' l i).1.size<=60/\(LB.at' l i).2.size<=60)
def shM (l:List LB.Mat):Bool:=decide (l.length<=20/\∀i,i<l.length->(LB.am l i).nm.size<=60/\(LB.am l i).vl.size<=60)
theorem zlx (ao:Option Addr)(l:List LB.Lab)(cap:Nat)(w:World)(hL:z1w w ao l):
  Calls q6 58 #[.slice ao l.length cap] w λe w'=>e= .returned (.bool (shL l))/\w'=w:=by
 generalize hB:shL l=B;have Y:=hid hB;have HL:=hid hL;clear hB hL;by_cases hs:l.length<=20
 .have A1:¬(20:Int)<(l.length:Int):=by omega
  go_enter func58,ntmps58;go_wp2;go_loopw [3] (λti wr=>∃i:Nat,i<=l.length/\ti= .int .i64 i/\wr=w/\∀j,j<i->(LB.at' l j).1.size<=60/\(LB.at' l j).2.size<=60) (λti _=>l.length-(intOf ti).toNat)
  case atStart=>exact⟨0,by omega,rfl,rfl,by omega⟩
  case round=>
   obtain⟨i,hi,rfl,rfl,q⟩:=hrel;have HO:=hid q;clear q;by_cases G:i<l.length
   .obtain⟨b,off,A2,A3,A4,A5⟩:=HL.out i G;subst A2;have J:Hid (¬((LB.at' l i).1.size<=60/\(LB.at' l i).2.size<=60)->B=false):=λh=>by
     rw[<-Y.out];exact decide_eq_false λh'=>h (h'.2 i G)
    have U:Hid (((LB.at' l i).1.size<=60/\(LB.at' l i).2.size<=60)->∀j,j<i+1->(LB.at' l j).1.size<=60/\(LB.at' l j).2.size<=60):=λh j hj=>by
     by_cases he:j=i
     .subst he;exact h
     .exact HO.out j (by omega)
    generalize (LB.at' l i).1=N at*;generalize (LB.at' l i).2=V at*;by_cases h1:(60:Int)<(N.size:Int)
    .have O:=hid (J.out (by omega));clear J U;go_wp2;go_ret;exact⟨z05 O.out.symm,rfl⟩
    .by_cases h2:(60:Int)<(V.size:Int)
     .have O:=hid (J.out (by omega));clear J U;go_wp2;go_ret;exact⟨z05 O.out.symm,rfl⟩
     .have O:=hid (U.out (by omega));clear J U;go_wp2;go_roundw
      case rel=>exact⟨i+1,by omega,by go_num,by trivial,O.out⟩
      case measure=>simp[intOf];omega
   .have he:i=l.length:=by omega
    have HS:Hid (B=true):=by
     show _=_;rw[<-Y.out];exact decide_eq_true ⟨hs,λj hj=>HO.out j (by omega)⟩
    subst he;go_wp2;go_ret;exact⟨z05 HS.out.symm,rfl⟩
 .have A1:(20:Int)<(l.length:Int):=by omega
  have HS:Hid (B=false):=by
   show _=_;rw[<-Y.out];exact decide_eq_false λh=>hs h.1
  go_enter func58,ntmps58;go_wp2;go_ret;exact⟨z05 HS.out.symm,rfl⟩
theorem zlM (ao:Option Addr)(l:List LB.Mat)(cap:Nat)(w:World)(hL:z3s w ao l):
  Calls q6 6 #[.slice ao l.length cap] w λe w'=>e= .returned (.bool (shM l))/\w'=w:=by
 generalize hB:shM l=B;have Y:=hid hB;have HL:=hid hL;clear hB hL;by_cases hs:l.length<=20
 .have A1:¬(20:Int)<(l.length:Int):=by omega
  go_enter func6,ntmps6;go_wp2;go_loopw [3] (λti wr=>∃i:Nat,i<=l.length/\ti= .int .i64 i/\wr=w/\∀j,j<i->(LB.am l j).nm.size<=60/\(LB.am l j).vl.size<=60) (λti _=>l.length-(intOf ti).toNat)
  case atStart=>exact⟨0,by omega,rfl,rfl,by omega⟩
  case round=>
   obtain⟨i,hi,rfl,rfl,q⟩:=hrel;have HO:=hid q;clear q;by_cases G:i<l.length
   .obtain⟨b,off,A2,A3,A4,A5,A6⟩:=HL.out i G;subst A2;have J:Hid (¬((LB.am l i).nm.size<=60/\(LB.am l i).vl.size<=60)->B=false):=λh=>by
     rw[<-Y.out];exact decide_eq_false λh'=>h (h'.2 i G)
    have U:Hid (((LB.am l i).nm.size<=60/\(LB.am l i).vl.size<=60)->∀j,j<i+1->(LB.am l j).nm.size<=60/\(LB.am l j).vl.size<=60):=λh j hj=>by
     by_cases he:j=i
     .subst he;exact h
     .exact HO.out j (by omega)
    generalize (LB.am l i).nm=N at*;generalize (LB.am l i).vl=V at*;by_cases h1:(60:Int)<(N.size:Int)
    .have O:=hid (J.out (by omega));clear J U;go_wp2;go_ret;exact⟨z05 O.out.symm,rfl⟩
    .by_cases h2:(60:Int)<(V.size:Int)
     .have O:=hid (J.out (by omega));clear J U;go_wp2;go_ret;exact⟨z05 O.out.symm,rfl⟩
     .have O:=hid (U.out (by omega));clear J U;go_wp2;go_roundw
      case rel=>exact⟨i+1,by omega,by go_num,by trivial,O.out⟩
      case measure=>simp[intOf];omega
   .have he:i=l.length:=by omega
    have HS:Hid (B=true):=by
     show _=_;rw[<-Y.out];exact decide_eq_true ⟨hs,λj hj=>HO.out j (by omega)⟩
    subst he;go_wp2;go_ret;exact⟨z05 HS.out.symm,rfl⟩
 .have A1:(20:Int)<(l.length:Int):=by omega
  have HS:Hid (B=false):=by
   show _=_;rw[<-Y.out];exact decide_eq_false λh=>hs h.1
  go_enter func6,ntmps6;go_wp2;go_ret;exact⟨z05 HS.out.symm,rfl⟩
end
section
open Go.RowKit
def shS (l:List Sr):Bool:=decide (l.length<=20/\∀i,i<l.length->shL (z03 l i).1=true/\(z03 l i).2.length<=60)
theorem zlc (ao:Option Addr)(l:List Sr)(cap:Nat)(w:World)(hL:z0r w ao l):
  Calls q6 24 #[.slice ao l.length cap] w λe w'=>e= .returned (.bool (shS l))/\w'=w:=by
 generalize hB:shS l=B;have HB:=hid hB;have HL:=hid hL;clear hB hL;by_cases hs:l.length<=20
 .have A1:¬(20:Int)<(l.length:Int):=by omega
  go_enter func24,ntmps24;go_wp2;go_loopw [3] (λti wr=>∃i:Nat,i<=l.length/\ti= .int .i64 i/\wr=w/\∀j,j<i->shL (z03 l j).1=true/\(z03 l j).2.length<=60) (λti _=>l.length-(intOf ti).toNat)
  case atStart=>exact⟨0,by omega,rfl,rfl,by omega⟩
  case round=>
   obtain⟨i,hi,rfl,rfl,J⟩:=hrel;have HO:=hid J;clear J;by_cases O:i<l.length
   .obtain⟨b,off,A2,A6,lo,lc,so,sc,A7,A8,U,A3⟩:=HL.out i O;subst A2;have V:Hid (¬(shL (z03 l i).1=true/\(z03 l i).2.length<=60)->B=false):=λh=>by
     rw[<-HB.out];exact decide_eq_false λh'=>h (h'.2 i O)
    have Y:Hid (shL (z03 l i).1=true/\(z03 l i).2.length<=60->∀j,j<i+1->shL (z03 l j).1=true/\(z03 l j).2.length<=60):=λh j hj=>by
     by_cases he:j=i
     .subst he;exact h
     .exact HO.out j (by omega)
    have HC:=hid (zlx lo (z03 l i).1 lc wr U);clear U A3;generalize (z03 l i).1=la at*;generalize (z03 l i).2.length=sn at*;generalize hq:shL la=q at*;clear hq;go_wp2_with fail;refine HC.out.mono ?_;rintro e w2 ⟨rfl,rfl⟩;clear HC;cases q with
    | false=>
     have G:=hid (V.out (by simp));clear V Y;go_wp2_with fail;go_ret;exact⟨z05 G.out.symm,rfl⟩
    | true=>
     by_cases h6:sn<=60
     .have A4:¬(60:Int)<(sn:Int):=by omega
      have A5:=hid (Y.out ⟨rfl,h6⟩);clear V Y h6;go_wp2_with fail;go_roundw
      case rel=>exact⟨i+1,by omega,by go_num,by first | rfl | trivial,A5.out⟩
      case measure=>simp[intOf];omega
     .have A4:(60:Int)<(sn:Int):=by omega
      have G:=hid (V.out (λh=>h6 h.2));clear V Y h6;go_wp2_with fail;go_ret;exact⟨z05 G.out.symm,rfl⟩
   .have he:i=l.length:=by omega
    have G:Hid (B=true):=by
     show _=_;rw[<-HB.out];exact decide_eq_true ⟨hs,λj hj=>HO.out j (by omega)⟩
    subst he;go_wp2;go_ret;exact⟨z05 G.out.symm,rfl⟩
 .have A1:(20:Int)<(l.length:Int):=by omega
  have G:Hid (B=false):=by
   show _=_;rw[<-HB.out];exact decide_eq_false λh=>hs h.1
  go_enter func24,ntmps24;go_wp2;go_ret;exact⟨z05 G.out.symm,rfl⟩
end
section
open Go.RowKit
structure Stp where
 what:Int
 L:List Sr
 t:Int
 M:List LB.Mat
 fr:Int
 tt:Int
def atP (l:List Stp)(i:Nat):Stp:=l.getD i ⟨0,[],0,[],0,0⟩
def i64 (n:Int):Prop:= -9223372036854775808<=n/\n<=9223372036854775807
structure zeB (w:World) (so:Option Addr) (sc:Nat) (mo:Option Addr) (mc:Nat) (s:Stp):Prop where
 row:z5i w (.slice so s.L.length sc) s.L
 rs:∀k,k<s.L.length->∀q∈(z03 s.L k).2,CL.Rs q
 mat:z3s w mo s.M
 op:∀x∈s.M,i64 x.op
 t:i64 s.t
 fr:i64 s.fr
 tt:i64 s.tt
 what:i64 s.what
def zl7 (w:World)(h:Option Addr)(l:List Stp):Prop:=∀i,i<l.length->∃b off,h=some ⟨b,off,none⟩/\b<w.heap.size/\∃so sc mo mc,w.cell? ⟨b,off+i*6,none⟩=some (.int .i64 (atP l i).what)/\w.cell? ⟨b,off+i*6+1,none⟩=some (.slice so (atP l i).L.length sc)/\w.cell? ⟨b,off+i*6+2,none⟩=some (.int .i64 (atP l i).t)/\w.cell? ⟨b,off+i*6+3,none⟩=some (.slice mo (atP l i).M.length mc)/\w.cell? ⟨b,off+i*6+4,none⟩=some (.int .i64 (atP l i).fr)/\w.cell? ⟨b,off+i*6+5,none⟩=some (.int .i64 (atP l i).tt)/\zeB w so sc mo mc (atP l i)
theorem zeB.below {w w':World}{so:Option Addr}{sc:Nat}{mo:Option Addr}{mc:Nat}{s:Stp}(h:zeB w so sc mo mc s)(k:Below w.heap.size w w'):zeB w' so sc mo mc s:=
 ⟨h.row.below k,h.rs,h.mat.below k,h.op,h.t,h.fr,h.tt,h.what⟩
theorem zeB.zlq {w:World}{so:Option Addr}{sc:Nat}{mo:Option Addr}{mc:Nat}{s:Stp}(h:zeB w so sc mo mc s):z0r w so s.L/\zjp w so s.L/\s.L.length<=sc/\(so=none->sc=0):=by
 obtain⟨U,cap,e,q,G,J,O⟩:=h.row;cases e;exact⟨q,G,J,O⟩
def zap (l:List Stp):Bool:=decide (l.length<=25/\∀i,i<l.length->shS (atP l i).L=true/\shM (atP l i).M=true)
theorem zaS (ao:Option Addr)(l:List Stp)(cap:Nat)(w:World)(hL:zl7 w ao l):
  Calls q6 5 #[.slice ao l.length cap] w λe w'=>e= .returned (.bool (zap l))/\w'=w:=by
 generalize hB:zap l=B;have HB:=hid hB;have HL:=hid hL;clear hB hL;by_cases hs:l.length<=25
 .have A1:¬(25:Int)<(l.length:Int):=by omega
  go_enter func5,ntmps5;go_wp2;go_loopw [3] (λti wr=>∃i:Nat,i<=l.length/\ti= .int .i64 i/\wr=w/\∀j,j<i->shS (atP l j).L=true/\shM (atP l j).M=true) (λti _=>l.length-(intOf ti).toNat)
  case atStart=>exact⟨0,by omega,rfl,rfl,by omega⟩
  case round=>
   obtain⟨i,hi,rfl,rfl,O⟩:=hrel;have HO:=hid O;clear O;by_cases U:i<l.length
   .obtain⟨b,off,A2,A5,so,sc,mo,mc,_,c1,_,c3,_,_,hI⟩:=HL.out i U;subst A2;have V:Hid (¬(shS (atP l i).L=true/\shM (atP l i).M=true)->B=false):=λh=>by
     rw[<-HB.out];exact decide_eq_false λh'=>h (h'.2 i U)
    have Y:Hid (shS (atP l i).L=true/\shM (atP l i).M=true->∀j,j<i+1->shS (atP l j).L=true/\shM (atP l j).M=true):=λh j hj=>by
     by_cases he:j=i
     .subst he;exact h
     .exact HO.out j (by omega)
    have HC:=hid (zlc so (atP l i).L sc wr hI.zlq.1);have G:=hid (zlM mo (atP l i).M mc wr hI.mat);clear hI;generalize (atP l i).L=la at*;generalize (atP l i).M=lm at*;generalize hq:shS la=q at*;generalize A3:shM lm=q2 at*;clear hq A3;go_wp2_with fail;refine HC.out.mono ?_;rintro e w2 ⟨rfl,rfl⟩;clear HC;cases q with
    | false=>
     have J:=hid (V.out (by simp));clear V Y G;go_wp2_with fail;go_ret;exact⟨z05 J.out.symm,rfl⟩
    | true=>
     go_wp2_with fail;refine G.out.mono ?_;rintro e w3 ⟨rfl,rfl⟩;clear G;cases q2 with
     | true=>
      have A4:=hid (Y.out (by simp));clear V Y;go_wp2_with fail;go_roundw
      case rel=>exact⟨i+1,by omega,by go_num,by first | rfl | trivial,A4.out⟩
      case measure=>simp[intOf];omega
     | false=>
      have J:=hid (V.out (by simp));clear V Y;go_wp2_with fail;go_ret;exact⟨z05 J.out.symm,rfl⟩
   .have he:i=l.length:=by omega
    have J:Hid (B=true):=by
     show _=_;rw[<-HB.out];exact decide_eq_true ⟨hs,λj hj=>HO.out j (by omega)⟩
    subst he;go_wp2;go_ret;exact⟨z05 J.out.symm,rfl⟩
 .have A1:(25:Int)<(l.length:Int):=by omega
  have J:Hid (B=false):=by
   show _=_;rw[<-HB.out];exact decide_eq_false λh=>hs h.1
  go_enter func5,ntmps5;go_wp2;go_ret;exact⟨z05 J.out.symm,rfl⟩
theorem zb8 {l:List Sr}(h:shS l=true)(J:∀i,i<l.length->∀s∈(z03 l i).2,CL.Rs s):z8p l/\l.length<=20/\∀i,i<l.length->(z03 l i).1.length<=20/\(z03 l i).2.length<=60:=by
 have q:=of_decide_eq_true h;have G:∀i,i<l.length->(z03 l i).1.length<=20/\zmz (z03 l i).1:=λi hi=>by
  have h2:=of_decide_eq_true (q.2 i hi).1;exact⟨h2.1,λj O=>by have:=h2.2 j O;omega⟩
 exact⟨⟨by omega,λi hi=>⟨(G i hi).2,(G i hi).1,by have:=(q.2 i hi).2;omega,J i hi⟩⟩,q.1,λi hi=>⟨(G i hi).1,(q.2 i hi).2⟩⟩
end
section
open Go.RowKit Go.Maps
def SoL (n:Nat)(w:World)(bs bd c m:Nat)(Zh:Nat->Prop)(D:DK.M)(p:Int)(up:Bool)(x:SX.St):Prop:=
 ∃bw cnt Z dn hb bm mc vg od,z0H w bs bw bd cnt Z D p dn up hb bm mc Zh vg x od/\(up=true->dn=false)/\cnt<=c/\mc<=m/\∀j,ZS Z Zh bs bm vg j->n<=j
section
variable {n : Nat} {w w' : World} {bs bd c m : Nat} {Zh : Nat → Prop} {D : DK.M} {p : Int} {up : Bool} {x : SX.St}
theorem SoL.below (h:SoL n w bs bd c m Zh D p up x)(k:Below w.heap.size w w'):SoL n w' bs bd c m Zh D p up x:=by
 obtain⟨bw,cnt,Z,dn,hb,bm,mc,vg,od,h1,q⟩:=h;exact⟨bw,cnt,Z,dn,hb,bm,mc,vg,od,h1.below k,q⟩
theorem SoL.mono (h:SoL n w bs bd c m Zh D p up x){c' m':Nat}(O:c<=c')(U:m<=m'):SoL n w bs bd c' m' Zh D p up x:=by
 obtain⟨bw,cnt,Z,dn,hb,bm,mc,vg,od,q,G,V,Y,J⟩:=h;exact⟨bw,cnt,Z,dn,hb,bm,mc,vg,od,q,G,by omega,by omega,J⟩
theorem SoL.zlt (h:SoL n w bs bd c m Zh D p up x):∀j,Zh j->j<w.heap.size:=by
 obtain⟨bw,cnt,Z,dn,hb,bm,mc,vg,od,h1,q⟩:=h;exact h1.now.hd.lt
theorem zmw {S:List Sr}(q:SX.z16 S)(h:∀L s,SX.In S L s-> -1099511627776<=s.1/\s.1<=1099511627776):HD.kp (pkP [] (-1099511627776) 1099511627776) S=S:=by
 refine SX.ext (SX.z3u q _) q λL s=>?_
 rw[SX.z3N];refine⟨λe=>e.1,λe=>⟨e,?_⟩⟩;have:=h L s e;unfold pkP;simp[LB.all];omega
theorem zlH {a k:Nat}(h:SX.Cor a k x):zjt x.s [] (-1099511627776) 1099511627776=SX.all x.s:=by
 unfold zjt SX.all;have e:(SX.rows x.s).map (HD.kp (pkP [] (-1099511627776) 1099511627776))=SX.rows x.s:=by
  conv=>rhs;rw[<-List.map_id (SX.rows x.s)]
  refine List.map_congr_left λR q=>?_
  obtain⟨G,J⟩:=h.rows R q;exact zmw G λL s O=>(h.pts.pt L s (J L s O)).2.1
 rw[e]
theorem Cor.num {a k:Nat}(h:SX.Cor a k x):∀b∈x.s.B,0<=b.n/\b.n<100:=λb hb=>by
 have q:=h.fit.num b hb;have G:=h.fit.inv.num b hb;have J:=h.fit.nx;omega
theorem z5Y (h:SoL n w bs bd c m Zh D p up x){a k:Nat}(hc:SX.Cor a k x)(O:a<=50)(hm:m<=100000):
  Calls q6 10 #[.pointer (some ⟨bs,0,none⟩)] w λe w'=>Below w.heap.size w w'/\∃v,e= .returned v/\z0a w' w.heap.size v (SX.all x.s):=by
 obtain⟨bw,cnt,Z,dn,hb,bm,mc,vg,od,U,V,Y,h4,h5⟩:=h;have G:=hid (zfd U none [] 0 (-1099511627776) 1099511627776 (λi hi=>by cases hi) (by simp) hc.fit.inv.head (λb hb=>(hc.ptB hb).good O) (λi=>(hc.znN _ i).good O) (hc.fit.inv.asc.imp λk=>k.1) hc.fit.thirty (λb hb=>by have:=Cor.num hc b hb;omega) (by omega));rw[zlH hc] at G;clear U V Y h4 h5 hc;go_enter func10,ntmps10;go_wp2_with fail;refine G.out.mono ?_;rintro e w1 ⟨q,⟨hf,_⟩|⟨_,v,rfl,J⟩⟩
 .cases hf
 .have HV:=hid J;have HB:=hid q;obtain⟨sa,sc,ev,_⟩:=z0r.z08 J;subst ev;clear J q G;go_wp2_with fail;go_ret;exact⟨HB.out,_,rfl,HV.out⟩
/-! ## a step -/
inductive Did (s:Stp) (x:SX.St):SX.St->Prop
 | app (h:s.what=0) (h1:s.L≠[]) (h2:(HD.app x.s.mark x.s.H s.L).1=(0, -1)):Did s x (SX.zjO s.L x)
 | none (h:s.what=0) (h1:s.L=[]):Did s x x
 | cut (h:s.what=1) (h1: -1099511627776<=s.t) (h2:s.t<=1099511627776) (h3:x.s.B.length<30):Did s x (SX.z6c s.t x)
 | del (h:s.what=2) (h1:LB.asked s.M=true):Did s x (SX.zl1 ⟨s.M,s.fr,s.tt⟩ x)
 | cmp (h:s.what=3) (h1:x.s.B≠[]):Did s x (SX.z0N x)
 | ret (h:s.what=4):Did s x (SX.z1l s.t x)
 | not (h:s.what≠0) (h1:s.what≠1) (h2:s.what≠2) (h3:s.what≠3) (h4:s.what≠4):Did s x x
def zny (s:Stp)(x:SX.St)(cd:Int×Int):Prop:=
 (s.what=0/\s.L≠[]/\cd=(HD.app x.s.mark x.s.H s.L).1/\cd≠(0, -1))\/(s.what=1/\¬(-1099511627776<=s.t/\s.t<=1099511627776)/\cd=(2, -1))\/
 (s.what=1/\30<=x.s.B.length/\cd=(12, -1))\/(s.what=2/\LB.asked s.M=false/\cd=(1, -1))\/(s.what=3/\x.s.B=[]/\cd=(7, -1))
def zlR (w:World)(cd:Int×Int)(h:Value):Prop:=(cd.2= -1/\h=er cd.1)\/(0<=cd.2/\cd.1≠0/\∃p,h= .iface 168 (.pointer (some ⟨p,0,none⟩))/\w.heap[p]? =some (.cells #[.int .i64 cd.1,.int .i64 cd.2] 170))
theorem zgE.v {w:World}{cd:Int×Int}{q:Value}(h:zgE w cd q):zlR w cd q:=by
 rcases h with⟨rfl,rfl⟩|⟨rfl,rfl⟩|⟨G,J,O⟩
 .exact .inl ⟨rfl,rfl⟩
 .exact .inl ⟨rfl,rfl⟩
 .exact .inr ⟨G,J,O⟩
def z9k (w w':World):Prop:=∀(j:Nat) (c:Array Value) (e:qn),w.heap[j]? =some (.cells c e)->¬KD e->e≠165->e≠98->e≠80->e≠9->w'.heap[j]? =w.heap[j]?
theorem z9k.below (h:Below w.heap.size w w'):z9k w w':=λj _ _ q _ _ _ _ _=>h.block j (z00 q)
theorem z9k.trans {q:World}(h:z9k w w')(k:z9k w' q):z9k w q:=λj c e G J O U V Y=>by
 have e1:=h j c e G J O U V Y;exact(k j c e (e1.trans G) J O U V Y).trans e1
theorem z0H.zf4 {bw cnt hb bm mc:Nat}{Z:Nat->Prop}{dn:Bool}{vg:Value}{od:Int->Int}{G:Nat->Prop}(h:z0H w bs bw bd cnt Z D p dn up hb bm mc Zh vg x od)(k:z1X w (ZS Z Zh bs bm vg) w' G):z9k w w':=λj _ _ q J O U V Y=>k.fr.block j (z00 q) (h.out q J O (λe=>absurd e U) V Y)
def z0W (n:Nat)(w:World)(bs bd c m a k:Nat)(Zh:Nat->Prop)(D:DK.M)(p:Int)(x:SX.St)(s:Stp)(e:rO)(w':World):Prop:=
 ∃ev D' p' Zh' up' x',e= .returned ev/\SoL n w' bs bd (c+400) (m+1) Zh' D' p' up' x'/\Below n w w'/\w.heap.size<=w'.heap.size/\(∀v S,SrT w Zh v S->SrT w' Zh' v S)/\z9k w w'/\
  ((up'=true/\(∃cd,zny s x cd/\zlR w' cd ev)/\D'=D/\p'=p/\x'=x)\/
   (up'=true/\ev= .nilIface/\Did s x x'/\SX.Lv (a+1) (k+1) D' x'/\(p= -1->p'= -1)/\ -1<=p')\/
   (up'=false/\ev=er 14/\p≠ -1/\x'=x/\SX.Siz 100000000 190 D'/\∃y,Did s x y/\∀q,SX.Bk (a+1) (k+1) (DK.start D' q) x\/SX.Bk (a+1) (k+1) (DK.start D' q) y))
theorem z2H (h:SoL n w bs bd c m Zh D p true x)(k:Below w.heap.size w w'){a G:Nat}{s:Stp}{q:Value}{cd:Int×Int}(J:zny s x cd)(O:zlR w' cd q)(U:n<=w.heap.size):z0W n w bs bd c m a G Zh D p x s (.returned q) w':=
 ⟨q,D,p,Zh,true,x,rfl,(h.below k).mono (by omega) (by omega),k.mono U,k.size,λv S V=>V.below k,.below k,.inl ⟨rfl,⟨cd,J,O⟩,rfl,rfl,rfl⟩⟩
end
theorem z2Q {n:Nat}{w w':World}{bs bw bd cnt hb bm mc c m a k:Nat}{Z Zh:Nat->Prop}{D:DK.M}{p:Int}{vg:Value}{x y:SX.St}{od J:Int->Int}{s:Stp}{en:rO}
  (h:z0H w bs bw bd cnt Z D p false true hb bm mc Zh vg x od) (hc:cnt<=c) (hm:mc<=m) (hz:∀j,ZS Z Zh bs bm vg j->n<=j) (hn:n<=w.heap.size) (hd:Did s x y) (hy:∀o,SX.z1z y (z1u x y J) D p o->SX.Chg (a+1) (k+1) x y p o)
  (hE:z2e w bs bw bd cnt Z D p hb bm mc Zh vg x od y J en w'):z0W n w bs bd c m a k Zh D p x s en w':=by
 obtain⟨o,dn',Z',h1,h2,rfl,h3⟩:=hE;have V:=hy o h1;rcases h3 with⟨Y,hS,G⟩|⟨Y,A1,A2,A3,A4,hS,G⟩
 .rcases V with⟨U,_⟩|⟨U,e2,e3,e4⟩
  .exact absurd U Y
  .refine⟨_,o.2.1,o.2.2,Zh,false,x,rfl,⟨bw,_,Z',dn',hb,bm,mc,vg,od,hS,(λq=>by cases q),by omega,by omega,λj O=>?_⟩,G.fr.z3m hz hn,G.fr.size,λv S q=>h.z2v G (λj O=> .inr (.inl O)) q,h.zf4 G,.inr (.inr ⟨rfl,by rw[U],e2,rfl,e3,y,hd,e4⟩)⟩;rcases G.sub j O with q|q
   .exact hz j q
   .omega
 .rcases V with⟨_,e2,e3,e4⟩|⟨U,_⟩
  .refine⟨_,o.2.1,o.2.2,A3,true,y,rfl,⟨bw,_,Z',dn',A1,A2,mc+1,A4,J,hS,(λ_=>h2 Y),by omega,by omega,λj O=>?_⟩,G.fr.z3m hz hn,G.fr.size,λv S q=>h.z2v G (λj O=> .inr (.inl O)) q,h.zf4 G,.inr (.inl ⟨rfl,z1R Y,hd,e2,e3,e4⟩)⟩;rcases G.sub j O with q|q
   .exact hz j q
   .omega
  .rw[Y] at U;cases U
theorem z6M {n:Nat}{w w':World}{bs bw bd cnt hb O bm mc c m a k:Nat}{Z Z' Zh V:Nat->Prop}{D:DK.M}{p:Int}{vg J:Value}{x y:SX.St}{od:Int->Int}{s:Stp}{o:WL.Out}
  (h:z0H w bs bw bd cnt Z D p false true hb bm mc Zh vg x od) (hc:cnt<=c) (hm:mc<=m) (hz:∀j,ZS Z Zh bs bm vg j->n<=j) (hn:n<=w.heap.size) (hd:Did s x y) (A1:SX.Chg (a+1) (k+1) x y p o)
  (hS:z0H w' bs bw bd (cnt+4) Z' o.2.1 o.2.2 (decide (o.1≠0)) (decide (o.1=0)) O bm mc V J (if o.1=0 then y else x) od) (G:z1X w (ZS Z Zh bs bm vg) w' (ZS Z' V bs bm J)):z0W n w bs bd c m a k Zh D p x s (.returned (er o.1)) w':=by
 have Y:∀j,ZS Z' V bs bm J j->n<=j:=λj hj=>by
  rcases G.sub j hj with q|q
  .exact hz j q
  .omega
 have hk:∀v S,SrT w Zh v S->SrT w' V v S:=λv S q=>h.z2v G (λj hj=> .inr (.inl hj)) q
 rcases A1 with⟨U,e2,e3,e4⟩|⟨U,e2,e3,e4⟩
 .have d1:decide (o.1≠0)=false:=by simp[U]
  have d2:decide (o.1=0)=true:=by simp[U]
  rw[d1,d2,if_pos U] at hS;exact⟨_,o.2.1,o.2.2,V,true,y,rfl,⟨bw,_,Z',false,O,bm,mc,J,od,hS,(λ_=>rfl),by omega,by omega,Y⟩,G.fr.z3m hz hn,G.fr.size,hk,h.zf4 G,.inr (.inl ⟨rfl,z1R U,hd,e2,e3,e4⟩)⟩
 .have e0:o.1≠0:=by rw[U];decide
  have d2:decide (o.1=0)=false:=by simp[e0]
  rw[d2,if_neg e0] at hS;exact⟨_,o.2.1,o.2.2,V,false,x,rfl,⟨bw,_,Z',_,O,bm,mc,J,od,hS,(λq=>by cases q),by omega,by omega,Y⟩,G.fr.z3m hz hn,G.fr.size,hk,h.zf4 G,.inr (.inr ⟨rfl,by rw[U],e2,rfl,e3,y,hd,e4⟩)⟩
end
section
open Go.RowKit Go.Maps
abbrev znP (so:Option Addr)(sc:Nat)(mo:Option Addr)(mc:Nat)(s:Stp):Value:= .agg #[.int .i64 s.what,.slice so s.L.length sc,.int .i64 s.t,.slice mo s.M.length mc,.int .i64 s.fr,.int .i64 s.tt]
theorem z3s.lt {w:World}{q:Option Addr}{l:List LB.Mat}(h:z3s w q l):∀a,q=some a->0<l.length->a.block<w.heap.size:=λa G J=>by
 obtain⟨b,off,e,_,_,_,hb⟩:=h 0 J;rw[G] at e;cases e;exact hb
theorem zgs {l:List LB.Mat}(h:LB.asked l=true):l.length<=8:=by
 unfold LB.asked at h;rw[qI] at h;exact of_decide_eq_true h.1
theorem zlr {s:Stp}{w:World}{so:Option Addr}{sc:Nat}{mo:Option Addr}{mc:Nat}(h:zeB w so sc mo mc s)(G:shM s.M=true)(J:LB.asked s.M=true){nx:Int}(O:i64 nx):SX.zjI ⟨nx,⟨s.M,s.fr,s.tt⟩⟩:=by
 have h1:=of_decide_eq_true G;refine⟨?_,O,h.fr,h.tt,λi hi=>⟨?_,?_,?_⟩⟩
 .exact zgs J
 .have:=(h1.2 i hi).1;show(LB.am s.M i).nm.size<=1000;omega
 .have:=(h1.2 i hi).2;show(LB.am s.M i).vl.size<=1000;omega
 .exact h.op _ (by
   have q:i<s.M.length:=hi;show LB.am s.M i∈s.M;unfold LB.am;rw[q7,qw q];exact qK q)
theorem z0W.from {n:Nat}{w J w':World}{bs bd c m a k:Nat}{Zh:Nat->Prop}{D:DK.M}{p:Int}{x:SX.St}{s:Stp}{e:rO}(h:z0W n J bs bd c m a k Zh D p x s e w')(hb:Below w.heap.size w J)(O:n<=w.heap.size):z0W n w bs bd c m a k Zh D p x s e w':=by
 obtain⟨U,D',p',q,G,V,Y,h2,h3,h4,h5,h6,h7⟩:=h;exact⟨U,D',p',q,G,V,Y,h2,(hb.mono O).trans h3,qi hb.size h4,λv S hS=>h5 v S (hS.below hb),(z9k.below hb).trans h6,h7⟩
theorem z9i (b k:Nat)(h:Option Addr)(n c:Nat)(x y:Int)(w:World)(c0:w.cell? ⟨b,k,none⟩=some (.slice h n c))(c1:w.cell? ⟨b,k+1,none⟩=some (.int .i64 x))(c2:w.cell? ⟨b,k+2,none⟩=some (.int .i64 y)):(wZ 25 (.pointer (some ⟨b,k,none⟩))).run q6 w= .ok (.agg #[.slice h n c,.int .i64 x,.int .i64 y]) w:=by
 have q:(q6.info? 25).map (·.size)=some 3:=by kernel_rfl
 go_simp
section
variable {W0 w : World} {bs bd c m : Nat} {Zh : Nat → Prop} {D : DK.M} {p : Int} {x : SX.St} {a k : Nat} {so mo : Option Addr} {sc mc : Nat} {s : Stp}
theorem z0H.zlt {w:World}{bs bw bd cnt hb bm mc:Nat}{Z Zh:Nat->Prop}{D:DK.M}{p:Int}{dn up:Bool}{vg:Value}{x:SX.St}{od:Int->Int}(h:z0H w bs bw bd cnt Z D p dn up hb bm mc Zh vg x od):∀j,ZS Z Zh bs bm vg j->j<w.heap.size:=by
 rintro j (e|e|e|e|e)
 .exact h.wt.lt j e
 .exact h.now.hd.lt j e
 .rw[e];exact z00 h.box
 .rw[e];exact h.now.mlt
 .rcases h.now.gn.2 with⟨q,_⟩|⟨g,cap,G,q,_,J,_⟩
  .rw[q] at e;cases e
  .rw[q] at e;cases e;exact z00 J
theorem z8i {n:Nat}{w1:World}(h:SoL n w1 bs bd c m Zh D p true x)(Y:Below w1.heap.size w1 w)(hl:SX.Lv a k D x)(ha:a+1<=50)(hk:k+1<=60)(hc:c<=80000)(hm:m<=100000)(hp: -1<=p)(A2:n<=w1.heap.size)(J:∀Z':Nat->Prop,(∀j,Z' j->n<=j/\j<w1.heap.size)->z0z w Z' so s.L)(A3:s.L.length<=sc)(O:∀k,k<s.L.length->∀q∈(z03 s.L k).2,CL.Rs q)(hS:shS s.L=true)(h0:s.what=0):
  Calls q6 23 #[.pointer (some ⟨bs,0,none⟩),.slice so s.L.length sc] w λe w'=>z0W n w bs bd c m a k Zh D p x s e w':=by
 have hn:n<=w.heap.size:=qi A2 Y.size;obtain⟨bw,cnt,Z,dn,hb,bm,A4,vg,od,h1,h2,h3,h4,V⟩:=h;have A5:=h2 rfl;subst A5;have A1:=h1.zlt;replace h1:=h1.below Y;obtain⟨q1,q2,q3⟩:=zb8 hS O;have A6:∀y∈s.L,∀q∈y.2,CL.Rs q:=λy hy=>by
  obtain⟨i,hi,rfl⟩:=HD.z3T hy;exact O i hi
 refine(ziL h1 so s.L sc (J Zh λj G=>⟨V j (.inr (.inl G)),A1 j (.inr (.inl G))⟩) (J _ λj G=>⟨V j G,A1 j G⟩) q1 (by omega) A3 (λi hi=>by have:=q3 i hi;omega) O hl.cor.fit (by omega) ((hl.fine (by omega)).mono (by omega)) (by omega) (hl.few.mono (by omega)) (hl.cor.znV (by omega) (by omega) od)
  (λb hb=>?_) (λhe=>?_) (λhe=>?_)).mono ?_
 .have hg:=(hl.cor.ptB hb).good (by omega);refine⟨hg.ord,by have:=hg.few;omega,λi hi=>?_⟩;have:=(SX.z9c (hg.ok _ (HD.at_mem _ i hi)).1).2;omega
 .have t1:=SX.z7i hl.cor.fit.inv;have t2:=hl.cor.pts.tot;have t3:=SX.z7u he;have t4:(x.s.B.map tot).sum=(x.s.B.map λb=>HD.total b.S).sum:=rfl;omega
 .have t3:=SX.z7u he;have t5:=SX.z5k (l:=s.L) λy hy=>by
   have:=zaJ he y hy;unfold okS at this;rw[qI] at this;exact this.2
  omega
 .intro e w' hE;rcases hE with⟨e0,hE⟩|⟨e0,U,ev,Zt,rfl,e3,e4,e5⟩|⟨e0,U,rfl,A7,Z',Zt,e3,e4⟩
  .exact z2Q h1 h3 h4 V hn (.none h0 e0) (λo ho=>by
    have:=(hl.mono (wP a) (qq k)).znr (by omega) (by omega) hp od ho;exact this) hE
  .refine⟨ev,D,p,Zt,true,x,rfl,⟨bw,cnt,Z,false,hb,bm,A4,vg,od,e4,λ_=>rfl,by omega,by omega,λj G=>?_⟩,e5.fr.z3m V hn,e5.fr.size,λv S q=>h1.z2v e5 (λj G=> .inr (.inl G)) q,h1.zf4 e5,.inl ⟨rfl,⟨_,.inl ⟨h0,e0,rfl,U⟩,zgE.v e3⟩,rfl,rfl,rfl⟩⟩;rcases e5.sub j G with q|q
   .exact V j q
   .omega
  .exact z6M h1 h3 h4 V hn (.app h0 e0 U) (hl.znH (by omega) (by omega) hp (wP a) (y:=SX.zjO s.L x) (n:= .came s.L) ⟨⟨U,q1⟩,rfl⟩ (hl.cor.app q2 A6 U) rfl (by
    have t3:=SX.z7u U;have t5:=SX.z5k (l:=s.L) λy hy=>by
     have:=zaJ U y hy;unfold okS at this;rw[qI] at this;exact this.2
    omega)) e3 e4
theorem zfA (h:SoL W0.heap.size w bs bd c m Zh D p true x)(G:SX.Lv a k D x)(J:a+1<=50)(O:k+1<=60)(U:c<=80000)(V:m<=100000)(Y: -1<=p)(q:zeB W0 so sc mo mc s)(hW:Below W0.heap.size W0 w)(hS:shS s.L=true)(h0:s.what=0):
  Calls q6 23 #[.pointer (some ⟨bs,0,none⟩),.slice so s.L.length sc] w λe w'=>z0W W0.heap.size w bs bd c m a k Zh D p x s e w':=
 z8i h (Below.refl _ _) G J O U V Y hW.size (λZ' hz=>(z0z.z6x q.zlq.1 λj hj=>(hz j hj).1).kept (ZFr.below hW)) q.zlq.2.2.1 q.rs hS h0
theorem zjY {n:Nat}(h:SoL n w bs bd c m Zh D p true x)(hl:SX.Lv a k D x)(ha:a+1<=50)(hk:k+1<=60)(hc:c<=80000)(hm:m+1<=100000)(hp: -1<=p)(O:n<=w.heap.size)(U:s.what=1):
  Calls q6 26 #[.pointer (some ⟨bs,0,none⟩),.int .i64 s.t] w λe w'=>z0W n w bs bd c m a k Zh D p x s e w':=by
 have Y:=h;obtain⟨bw,cnt,Z,dn,hb,bm,A1,vg,od,G,h2,h3,h4,h5⟩:=h;have V:=h2 rfl;subst V;by_cases q: -1099511627776<=s.t/\s.t<=1099511627776
 .by_cases J:x.s.B.length<30
  .refine(zim G s.t q.1 q.2 J hl.cor.fit (by omega) ((hl.fine (by omega)).mono (by omega)) (by omega) (hl.few.mono (by omega)) (hl.cor.znW (by omega) hk od q.1 q.2 J)).mono ?_;intro e w' hE;exact z2Q G h3 h4 h5 O (.cut U q.1 q.2 J) (λo ho=>(hl.mono (wP a) (qq k)).zo8 (by omega) (by omega) hp od q.1 q.2 J ho) hE
  .refine(zgg G s.t q.1 q.2 hl.cor.fit (by omega)).mono ?_;rintro e w' ⟨rfl,rfl⟩;exact z2H Y (Below.refl _ _) (cd:=(12, -1)) (.inr (.inr (.inl ⟨U,by omega,rfl⟩))) (.inl ⟨rfl,rfl⟩) O
 .refine(zek G s.t q).mono ?_;rintro e w' ⟨rfl,rfl⟩;exact z2H Y (Below.refl _ _) (cd:=(2, -1)) (.inr (.inl ⟨U,q,rfl⟩)) (.inl ⟨rfl,rfl⟩) O
theorem zm0 (h:SoL W0.heap.size w bs bd c m Zh D p true x)(hl:SX.Lv a k D x)(ha:a+1<=50)(hk:k+1<=60)(hc:c<=80000)(hm:m<=100000)(hp: -1<=p)(G:zeB W0 so sc mo mc s)(hW:Below W0.heap.size W0 w)(hS:shM s.M=true)(h0:s.what=2):
  Calls q6 11 #[.pointer (some ⟨bs,0,none⟩),gnV mo mc ⟨s.M,s.fr,s.tt⟩] w λe w'=>z0W W0.heap.size w bs bd c m a k Zh D p x s e w':=by
 have hn:W0.heap.size<=w.heap.size:=hW.size;have Y:=h;obtain⟨bw,cnt,Z,dn,hb,bm,A3,vg,od,h1,h2,h3,h4,h5⟩:=h;have A1:=h2 rfl;subst A1;have O:=of_decide_eq_true hS;have A4:=hl.cor.fit.nx;have hg:=hl.cor.gl;have q:LB.asked s.M=true->SX.zjI ⟨x.s.nx,⟨s.M,s.fr,s.tt⟩⟩:=λh=>zlr G hS h (by unfold i64;omega)
 refine(ziV h1 ⟨s.M,s.fr,s.tt⟩ mo mc (G.mat.below hW) (λb A2 U hz=>?_) (by show s.M.length<=1000;omega) G.fr G.tt (λi hi=>⟨by have:=(O.2 i hi).1;show(LB.am s.M i).nm.size<=1000;omega,by have:=(O.2 i hi).2;show(LB.am s.M i).vl.size<=1000;omega,G.op _ (by
   have V:i<s.M.length:=hi;show LB.am s.M i∈s.M;unfold LB.am;rw[q7,qw V];exact qK V)⟩) hl.cor.fit (λb hb=>(hl.cor.ptB hb).good (by omega)) (by omega) ((hl.fine (by omega)).mono (by omega)) (by omega) (by omega) (λh=>SX.z5c (q h))).mono ?_
 .have:=z3s.lt G.mat b A2 U;have:=h5 _ hz;omega
 .intro e w' hE;rcases hE with⟨J,rfl,e2⟩|⟨J,rfl,Z',Zt,A5,e3,e4⟩
  .exact z2H Y e2 (cd:=(1, -1)) (.inr (.inr (.inr (.inl ⟨h0,J,rfl⟩)))) (.inl ⟨rfl,rfl⟩) hn
  .exact z6M h1 h3 h4 h5 hn (.del h0 J) (hl.znH (by omega) (by omega) hp (wP a) (y:=SX.zl1 ⟨s.M,s.fr,s.tt⟩ x) (n:= .gone ⟨x.s.nx,⟨s.M,s.fr,s.tt⟩⟩) ⟨q J,rfl⟩ ((hl.cor.del (q J)).mono (wP a) (qq _)) (SX.z5D _ _) (SX.z5c (q J))) e3 e4
theorem zmp {n:Nat}(h:SoL n w bs bd c m Zh D p true x)(hl:SX.Lv a k D x)(ha:a+1<=50)(hk:k+1<=60)(hc:c<=80000)(hm:m+1<=100000)(hp: -1<=p)(hn:n<=w.heap.size)(h0:s.what=3):
  Calls q6 33 #[.pointer (some ⟨bs,0,none⟩)] w λe w'=>z0W n w bs bd c m a k Zh D p x s e w':=by
 have U:=h;obtain⟨bw,cnt,Z,dn,hb,bm,A1,vg,od,h1,h2,h3,h4,h5⟩:=h;have V:=h2 rfl;subst V;have q:x.s.B≠[]->0<=(x.s.B.getD (x.s.B.length-1) ⟨0,0,[]⟩).n/\(x.s.B.getD (x.s.B.length-1) ⟨0,0,[]⟩).n<100:=λO=>by
  have G:x.s.B.length-1<x.s.B.length:=by have:=List.length_pos_iff.2 O;omega
  have e:x.s.B.getD (x.s.B.length-1) ⟨0,0,[]⟩=x.s.B[x.s.B.length-1]:=by rw[q7,qw G];rfl
  rw[e];exact Cor.num hl.cor _ (qK G)
 refine(zi4 h1 hl.cor.fit (λb hb=>(hl.cor.ptB hb).good (by omega)) (λi=>(hl.cor.znM i).good (by omega)) (λb hb=>(Cor.num hl.cor b hb).2) (by omega) ((hl.fine (by omega)).mono (by omega)) (by omega) (hl.few.mono (by omega)) (λO=>hl.cor.znY (by omega) hk od O (by have:=q O;omega))).mono ?_;intro e w' Y;rcases Y with⟨J,rfl,e2⟩|⟨J,Y⟩
 .exact z2H U e2 (cd:=(7, -1)) (.inr (.inr (.inr (.inr ⟨h0,J,rfl⟩)))) (.inl ⟨rfl,rfl⟩) hn
 .exact z2Q h1 h3 h4 h5 hn (.cmp h0 J) (λo ho=>(hl.mono (wP a) (qq k)).zo4 (by omega) (by omega) hp od J (by have:=q J;omega) (q J).2 ho) Y
theorem zrg {n:Nat}(h:SoL n w bs bd c m Zh D p true x)(hl:SX.Lv a k D x)(ha:a+1<=50)(U:k+1<=60)(hc:c<=80000)(hm:m+1<=100000)(V: -1<=p)(Y:n<=w.heap.size)(h0:s.what=4):
  Calls q6 34 #[.pointer (some ⟨bs,0,none⟩),.int .i64 s.t] w λe w'=>∃q G,e= .returned (.tuple #[.int .i64 q,G])/\z0W n w bs bd c m a k Zh D p x s (.returned G) w':=by
 obtain⟨bw,cnt,Z,dn,hb,bm,A1,vg,od,O,h2,h3,h4,h5⟩:=h;have J:=h2 rfl;subst J;refine(zjg O s.t hl.cor.fit (by omega) ((hl.fine (by omega)).mono (by omega)) (by omega) (hl.few.mono (by omega)) (hl.cor.znZ (by omega) U od s.t)).mono ?_;rintro e w' ⟨q,G,rfl,hE⟩;exact⟨q,G,rfl,z2Q O h3 h4 h5 Y (.ret h0) (λo ho=>(hl.mono (wP a) (qq k)).zo2 (by omega) (by omega) V od s.t ho) hE⟩
end
theorem zbL {W0 w w':World}{bs bd c m a k:Nat}{Zh:Nat->Prop}{D:DK.M}{p:Int}{x:SX.St}{s:Stp}(h:SoL W0.heap.size w bs bd c m Zh D p true x)(hl:SX.Lv a k D x)(q: -1<=p)(hW:Below W0.heap.size W0 w)(hb:Below w.heap.size w w')(G:s.what≠0)(J:s.what≠1)(O:s.what≠2)(U:s.what≠3)(V:s.what≠4):z0W W0.heap.size w bs bd c m a k Zh D p x s (.returned .nilIface) w':=
 ⟨_,D,p,Zh,true,x,rfl,(h.below hb).mono (by omega) (by omega),hb.mono hW.size,hb.size,λv S Y=>Y.below hb,.below hb,.inr (.inl ⟨rfl,rfl,.not G J O U V,hl.mono (wP _) (wP _),id,q⟩)⟩
theorem zj7 {W0 w:World}{bs bd c m:Nat}{Zh:Nat->Prop}{D:DK.M}{p:Int}{x:SX.St}{a k:Nat}{so mo:Option Addr}{sc mc:Nat}{s:Stp}(h:SoL W0.heap.size w bs bd c m Zh D p true x)(hl:SX.Lv a k D x)(ha:a+1<=50)(hk:k+1<=60)(hc:c<=80000)(hm:m+1<=100000)(hp: -1<=p)(hI:zeB W0 so sc mo mc s)(hW:Below W0.heap.size W0 w)(hS:shS s.L=true)(hM:shM s.M=true):
  Calls q6 9 #[.pointer (some ⟨bs,0,none⟩),znP so sc mo mc s] w λe w'=>z0W W0.heap.size w bs bd c m a k Zh D p x s e w':=by
 have A1:Below w.heap.size w (w.alloc (.cells #[.int .i64 s.what,.slice so s.L.length sc,.int .i64 s.t,.slice mo s.M.length mc,.int .i64 s.fr,.int .i64 s.tt] 41)):=(Below.refl _ w).alloc (qq _) _;have J:=qu w (.cells #[.int .i64 s.what,.slice so s.L.length sc,.int .i64 s.t,.slice mo s.M.length mc,.int .i64 s.fr,.int .i64 s.tt] 41);obtain⟨w1,O⟩:∃w1,w1=w.alloc (.cells #[.int .i64 s.what,.slice so s.L.length sc,.int .i64 s.t,.slice mo s.M.length mc,.int .i64 s.fr,.int .i64 s.tt] 41):=⟨_,rfl⟩;rw[<-O] at A1 J;have d0:=z01 _ _ _ _ J 0 _ rfl;have d1:=z01 _ _ _ _ J 1 _ rfl;have d2:=z01 _ _ _ _ J 2 _ rfl;have d3:=z01 _ _ _ _ J 3 _ rfl;have d4:=z01 _ _ _ _ J 4 _ rfl;have d5:=z01 _ _ _ _ J 5 _ rfl;have h1:=h.below A1;have U:Below W0.heap.size W0 w1:=hW.trans (A1.mono hW.size);have HA:=hid λh0=>zfA h1 hl ha hk hc (by omega) hp hI U hS h0
 have HC:=hid λh0=>zjY (s:=s) h1 hl ha hk hc hm hp U.size h0
 have HD:=hid λh0=>zm0 h1 hl ha hk hc (by omega) hp hI U hM h0
 have HP:=hid λh0=>zmp (s:=s) h1 hl ha hk hc hm hp U.size h0
 have HR:=hid λh0=>zrg (s:=s) h1 hl ha hk hc hm hp U.size h0
 have HN:=hid λw' hb q1 q2 q3 q4 q5=>zbL (w':=w') (s:=s) h1 hl hp U hb q1 q2 q3 q4 q5
 have Y:=hid λe w' (q:z0W W0.heap.size w1 bs bd c m a k Zh D p x s e w')=>z0W.from q A1 hW.size
 have HG:=hid λ(W:World) (e:W=w1)=>(e▸z9i w.heap.size 3 mo s.M.length mc s.fr s.tt w1 d3 d4 d5:(wZ 25 (.pointer (some ⟨w.heap.size,3,none⟩))).run q6 W= .ok (.agg #[.slice mo s.M.length mc,.int .i64 s.fr,.int .i64 s.tt]) W)
 have A4:=z9i w.heap.size 3 mo s.M.length mc s.fr s.tt w1 d3 d4 d5;clear h h1 hl hW U hI hS hM J A1;obtain⟨what,L,t,M,fr,tt⟩:=s;dsimp only at*;by_cases e0:what=0
 .subst e0;have G:=hid (HA.out rfl);clear HA HC HD HP HR HN;go_enter func9,ntmps9;subst O;go_wp2_with fail;refine G.out.mono ?_;rintro e w2 V;have HE:=hid (Y.out e w2 V);obtain⟨ev,D',p',A2,A3,x',rfl,_⟩:=V;clear Y G;go_wp2_with fail;go_ret;exact HE.out
 by_cases e1:what=1
 .subst e1;have G:=hid (HC.out rfl);clear HA HC HD HP HR HN;go_enter func9,ntmps9;subst O;go_wp2_with fail;refine G.out.mono ?_;rintro e w2 V;have HE:=hid (Y.out e w2 V);obtain⟨ev,D',p',A2,A3,x',rfl,_⟩:=V;clear Y G;go_wp2_with fail;go_ret;exact HE.out
 by_cases e2:what=2
 .subst e2;have G:=hid (HD.out rfl);clear HA HC HD HP HR HN;go_enter func9,ntmps9;subst O;go_wp2_with fail;refine G.out.mono ?_;rintro e w2 V;have HE:=hid (Y.out e w2 V);obtain⟨ev,D',p',A2,A3,x',rfl,_⟩:=V;clear Y G;go_wp2_with fail;go_ret;exact HE.out
 by_cases e3:what=3
 .subst e3;have G:=hid (HP.out rfl);clear HA HC HD HP HR HN;go_enter func9,ntmps9;subst O;go_wp2_with fail;refine G.out.mono ?_;rintro e w2 V;have HE:=hid (Y.out e w2 V);obtain⟨ev,D',p',A2,A3,x',rfl,_⟩:=V;clear Y G;go_wp2_with fail;go_ret;exact HE.out
 by_cases e4:what=4
 .subst e4;have G:=hid (HR.out rfl);clear HA HC HD HP HR HN;go_enter func9,ntmps9;subst O;go_wp2_with fail;refine G.out.mono ?_;rintro e w2 ⟨q,A5,rfl,V⟩;have HE:=hid (Y.out _ w2 V);clear V Y G;go_wp2_with fail;go_ret;exact HE.out
 have q0:decide (what=0)=false:=by simp[e0]
 have q1:decide (what=1)=false:=by simp[e1]
 have q2:decide (what=2)=false:=by simp[e2]
 have q3:decide (what=3)=false:=by simp[e3]
 have q4:decide (what=4)=false:=by simp[e4]
 have HE:=hid (Y.out _ w1 (HN.out w1 (Below.refl _ _) e0 e1 e2 e3 e4));clear HA HC HD HP HR HN Y;go_enter func9,ntmps9;subst O;go_wp2_with fail;go_ret;exact HE.out
end
section
open Go.Shelf
def Tryz.laysC_ren:Go.Shelf.Ren:=⟨fun | 25=>204 | n=>n,fun | 0=>0 | 3=>3 | 4=>4 | 5=>5 | 9=>9 | 37=>102 | 47=>323 | n=>n,fun | n=>n⟩
theorem Tryz.laysC:oU q6 Tryz.laysC_ren:={
 mixed:=by kernel_rfl
 f25:=func204.trans (congrArg some (by kernel_rfl))
 t0:=underlying0
 a0:=isAgg0
 z0:=sizeOf0
 v0:=zeroValue0
 i0:=by kernel_rfl
 t3:=underlying3
 a3:=isAgg3
 z3:=sizeOf3
 v3:=zeroValue3
 i3:=by kernel_rfl
 t4:=underlying4
 a4:=isAgg4
 z4:=sizeOf4
 v4:=zeroValue4
 i4:=by kernel_rfl
 t5:=underlying5
 a5:=isAgg5
 z5:=sizeOf5
 v5:=zeroValue5
 i5:=by kernel_rfl
 t9:=underlying9
 a9:=isAgg9
 z9:=sizeOf9
 v9:=zeroValue9
 i9:=by kernel_rfl
 t37:=underlying102
 a37:=isAgg102
 z37:=sizeOf102
 v37:=zeroValue102
 i37:=by kernel_rfl
 t47:=underlying323
 a47:=isAgg323
 z47:=sizeOf323
 v47:=zeroValue323
 i47:=by kernel_rfl}
open Go.RowKit
theorem zhw (s:ByteArray)(w:World)(q:s.size<=281474976710656):Calls q6 174 #[.string s] w λe w'=>e= .returned (.string s)/\Below w.heap.size w w':=by
 have h:=oJ Tryz.laysC s w q;have h:Go.RowKit.Hid (Calls q6 204 #[.string s] w λe w'=>e= .returned (.string s)/\Below w.heap.size w w'):=h;go_enter func174,ntmps174;go_wp2_with fail;refine h.out.mono ?_;rintro e G ⟨rfl,hb⟩;go_wp2_with fail;go_ret;exact⟨rfl,hb⟩
end
section
open Go.RowKit
theorem zla (b:List Bool)(l:List CL.Smp)(t:List Bool)(h:zhQ b=some (l,t)):(∀s∈l,CL.Rs s)/\l.length<=2000:=by
 unfold zhQ at h;rcases hg:BL.z5n b with _|⟨u,r⟩
 .rw[hg] at h;simp at h
 .rw[hg] at h;simp only[] at h;split at h
  .next hc=>
   obtain⟨_,q,_,G⟩:=CL.zfZ _ _ _ _ _ h (by simp);simp only[List.length_nil,Nat.zero_add] at q;exact⟨G,by omega⟩
  .simp at h
def zlf (w:World)(e:rO)(w':World):Option (List CL.Smp)->Prop
 | none=>e= .returned (.tuple #[.slice none 0 0,.iface 56 (.int .i64 3)])/\Below w.heap.size w w'
 | some l=>∃v,e= .returned (.tuple #[v,.nilIface])/\w'.ownsRow w.heap.size 98 2 v l.length (sv l)/\Below w.heap.size w w'
theorem zmq (s:ByteArray)(w:World)(hs:s.size<=140737488351232)(hW:z0X w)(hG:1<w.heap.size):
  Calls q6 173 #[.string s] w λe w'=>zlf w e w' (CL.z7m (z0w s)):=by
 have A2:=zhl (z0w s);have A8:=hid ((Below.refl w.heap.size w).alloc (qq _) (.cells #[.string s,.int .i64 0] 317));have HC:=hid (zbl w.heap.size s 0 _ (zr4.new s w) hs (hW.alloc hG _) hG);rw[List.drop_zero] at HC;clear hW;rcases hsm:zhQ (z0w s) with _|⟨l,t⟩
 .rw[hsm] at HC A2;rw[A2];clear A2 hsm;go_enter func173,ntmps173;go_wp2_with fail;refine(z6e s _).mono ?_;rintro e w1 ⟨rfl,rfl⟩;go_wp2_with fail;refine wU HC.out ?_;rintro e w2 ⟨rfl,q⟩;have J:=hid (A8.out.trans (q.below (qq _) (by simp)));clear q;go_wp2_with fail;go_ret2;exact⟨rfl,J.out⟩
 .obtain⟨hR,Af⟩:=zla _ _ _ hsm;have HR:=hid hR;rw[hsm] at HC A2;simp only[] at A2;rw[A2];clear A2 hsm hR;by_cases O:t.length<8/\BL.val t=0
  .have A9:Hid (decide (t.length<8/\BL.val t=0)=true):=decide_eq_true O;by_cases hr:CL.right l=true
   .have Ac:=hid hr;rw[if_pos ⟨O.1,O.2,hr⟩];clear O hr;go_enter func173,ntmps173;go_wp2_with fail;refine(z6e s _).mono ?_;rintro e w1 ⟨rfl,rfl⟩;go_wp2_with fail;refine wU HC.out ?_;rintro e w2 ⟨v,p2,rfl,A3,U,V,q⟩;have J:=hid (A8.out.trans (q.below (qq _) (by simp)));have Y:=hid A3;have A6:=hid U;have A7:=hid V;clear q A3 U V;go_wp2_with fail;refine(z7a w.heap.size s p2 t _ A6.out hs A7.out).mono ?_;rintro e w3 ⟨rfl,G⟩;rw[A9.out];have Ag:w.heap.size<=w2.heap.size:=J.out.size;have A1:=hid (z0j Y.out (w':=w3) λk hk=>G.block k (by have:=Y.out.lt k hk;simp at this;omega));have A4:=hid (J.out.trans (G.below (qq _)));clear G;obtain⟨ao,cap,hv,hS⟩:=z1I.z08 A1.out;subst hv;have HS:=hid hS;clear hS;go_wp2_with fail;refine(z2C ao l cap _ HS.out HR.out (by omega)).mono ?_;rintro e w4 ⟨rfl,A5⟩;rw[Ac.out];have Ae:=hid (z0j A1.out (w':=w4) λk hk=>A5.block k (A1.out.lt k hk).2);have Ad:=hid (A4.out.trans (A5.mono A4.out.size));clear A5;go_wp2_with fail;go_ret2;exact⟨_,rfl,Ae.out.mono (by simp),Ad.out⟩
   .have Ac:Hid (CL.right l=false):=by show _=_;simpa using hr
    rw[if_neg (λh=>hr h.2.2)];clear O hr;go_enter func173,ntmps173;go_wp2_with fail;refine(z6e s _).mono ?_;rintro e w1 ⟨rfl,rfl⟩;go_wp2_with fail;refine wU HC.out ?_;rintro e w2 ⟨v,p2,rfl,A3,U,V,q⟩;have J:=hid (A8.out.trans (q.below (qq _) (by simp)));have Y:=hid A3;have A6:=hid U;have A7:=hid V;clear q A3 U V;go_wp2_with fail;refine(z7a w.heap.size s p2 t _ A6.out hs A7.out).mono ?_;rintro e w3 ⟨rfl,G⟩;rw[A9.out];have A1:=hid (z0j Y.out (w':=w3) λk hk=>G.block k (by have:=Y.out.lt k hk;simp at this;omega));have A4:=hid (J.out.trans (G.below (qq _)));clear G;obtain⟨ao,cap,hv,hS⟩:=z1I.z08 A1.out;subst hv;have HS:=hid hS;clear hS;go_wp2_with fail;refine(z2C ao l cap _ HS.out HR.out (by omega)).mono ?_;rintro e w4 ⟨rfl,A5⟩;rw[Ac.out];have Ad:=hid (A4.out.trans (A5.mono A4.out.size));clear A5;go_wp2_with fail;go_ret2;exact⟨rfl,Ad.out⟩
  .have A9:Hid (decide (t.length<8/\BL.val t=0)=false):=decide_eq_false O;rw[if_neg (λh=>O ⟨h.1,h.2.1⟩)];clear O;go_enter func173,ntmps173;go_wp2_with fail;refine(z6e s _).mono ?_;rintro e w1 ⟨rfl,rfl⟩;go_wp2_with fail;refine wU HC.out ?_;rintro e w2 ⟨v,p2,rfl,A3,U,V,q⟩;have J:=hid (A8.out.trans (q.below (qq _) (by simp)));have A6:=hid U;have A7:=hid V;clear q A3 U V;go_wp2_with fail;refine(z7a w.heap.size s p2 t _ A6.out hs A7.out).mono ?_;rintro e w3 ⟨rfl,G⟩;rw[A9.out];have A4:=hid (J.out.trans (G.below (qq _)));clear G;go_wp2_with fail;go_ret2;exact⟨rfl,A4.out⟩
end
section
open Go.RowKit
def RdI (w:World)(h:Nat)(S:List UInt8)(bad:Bool):Prop:=w.heap[h]? =some (.cells #[.string (sb S),.bool bad] 200)
theorem RdI.c {w:World}{q:Nat}{S:List UInt8}{bad:Bool}(h:RdI w q S bad):w.cell? ⟨q,0,none⟩=some (.string (sb S))/\w.cell? ⟨q,1,none⟩=some (.bool bad)/\w.frozen? ⟨q,0,none⟩=false/\w.frozen? ⟨q,1,none⟩=false:=by
 have G:w.heap[q]? =some (.cells #[.string (sb S),.bool bad] 200):=h;refine⟨?_,?_,?_,?_⟩<;>simp[World.cell?,wz,G]
theorem RdI.s0 {w:World}{q:Nat}{S:List UInt8}{bad:Bool}(h:RdI w q S bad)(S':List UInt8):RdI (w.setCell ⟨q,0,none⟩ (.string (sb S'))) q S' bad:=by
 show _=_;rw[qo w q 0 _ _ _ h];rfl
theorem RdI.s1 {w:World}{q:Nat}{S:List UInt8}{bad:Bool}(h:RdI w q S bad)(b:Bool):RdI (w.setCell ⟨q,1,none⟩ (.bool b)) q S b:=by
 show _=_;rw[qo w q 1 _ _ _ h];rfl
theorem RdI.below {w w':World}{q:Nat}{S:List UInt8}{bad:Bool}(h:RdI w q S bad)(hb:Below w.heap.size w w'):RdI w' q S bad:=(hb.block q (z00 h)).trans h
theorem z2G (q:Nat)(S:List UInt8)(bad:Bool)(w:World)(h:RdI w q S bad):
  Calls q6 124 #[.pointer (some ⟨q,0,none⟩)] w λe w'=>e= .returned (.bool bad)/\w'=w:=by
 obtain⟨c0,c1,G,J⟩:=h.c;clear h;go_enter func124,ntmps124;go_wp2_with fail;go_ret;exact⟨rfl,rfl⟩
def z5L (S:List UInt8)(bad:Bool):Nat:=if bad then 0 else S.length
theorem z6k (q:Nat)(S:List UInt8)(bad:Bool)(w:World)(h:RdI w q S bad):
  Calls q6 127 #[.pointer (some ⟨q,0,none⟩)] w λe w'=>e= .returned (.int .i64 (z5L S bad))/\w'=w:=by
 obtain⟨c0,c1,O,U⟩:=h.c;have G:=hid (z2G q S bad w h);have J:=hid (z1b S);clear h;go_enter func127,ntmps127;go_wp2_with fail;refine G.out.mono ?_;rintro e V ⟨rfl,rfl⟩;cases bad with
 | true=>
  go_wp2_with fail;go_ret;exact⟨rfl,rfl⟩
 | false=>
  go_wp2_with fail;go_ret;exact⟨z0G (by rw[J.out];rfl),rfl⟩
theorem z6b (q:Nat)(S:List UInt8)(bad:Bool)(w:World)(h:RdI w q S bad):
  Calls q6 73 #[.pointer (some ⟨q,0,none⟩)] w λe w'=>e= .returned (.bool (!bad&&decide (S=[])))/\w'=w:=by
 have J:=hid (z2G q S bad w h);have G:=hid (z6k q S bad w h);clear h;go_enter func73,ntmps73;go_wp2_with fail;refine J.out.mono ?_;rintro e O ⟨rfl,rfl⟩;cases bad with
 | true=>
  go_wp2_with fail;go_ret;exact⟨rfl,rfl⟩
 | false=>
  go_wp2_with fail;refine G.out.mono ?_;rintro e O ⟨rfl,rfl⟩;go_wp2_with fail;go_ret;refine⟨z05 ?_,rfl⟩;cases S with
  | nil=>rfl
  | cons x S=>
   simp[z5L]
   try omega
def tK (S:List UInt8)(bad:Bool)(k:Nat):List UInt8×List UInt8×Bool:=if bad then([],S,true) else if S.length<k then([],S,true) else(S.take k,S.drop k,false)
theorem zcC (q:Nat)(S:List UInt8)(bad:Bool)(k:Nat)(w:World)(h:RdI w q S bad)(_hS:S.length<=1000000000)(_hk:k<=1000000000):
  Calls q6 123 #[.pointer (some ⟨q,0,none⟩),.int .i64 k] w λe w'=>e= .returned (.string (sb (tK S bad k).1))/\RdI w' q (tK S bad k).2.1 (tK S bad k).2.2/\w.grownBy w' (some q):=by
 obtain⟨c0,c1,f0,f1⟩:=h.c;have U:=hid (z2G q S bad w h);have hz:=z1b S;have V:=hid h;clear h;cases bad with
 | true=>
  go_enter func123,ntmps123;go_wp2_with fail;refine U.out.mono ?_;rintro e w1 ⟨rfl,rfl⟩;go_wp2_with fail;go_ret;exact⟨rfl,V.out,iT _ _⟩
 | false=>
  by_cases G:S.length<k
  .have J:((sb S).size:Int)<(k:Int):=by omega
   have Y:Hid (tK S false k=([],S,true)):=by
    show _=_;unfold tK;rw[if_neg (by decide),if_pos G]
   have HQ:Hid (RdI (w.setCell ⟨q,1,none⟩ (.bool true)) q S true):=V.out.s1 true;generalize tK S false k=O at*;clear hz;go_enter func123,ntmps123;go_wp2_with fail;refine U.out.mono ?_;rintro e w1 ⟨rfl,rfl⟩;go_wp2_with fail;go_ret;rw[Y.out];exact⟨rfl,HQ.out,z7h _ _ _ _⟩
  .have J:¬((sb S).size:Int)<(k:Int):=by omega
   have A1:k<=(sb S).size:=by omega
   have A2:=zkS S k;have A3:=zlI S k (by omega);have Y:Hid (tK S false k=(S.take k,S.drop k,false)):=by
    show _=_;unfold tK;rw[if_neg (by decide),if_neg G]
   have HQ:Hid (RdI (w.setCell ⟨q,0,none⟩ (.string (sb (S.drop k)))) q (S.drop k) false):=V.out.s0 _;generalize tK S false k=O at*;clear hz;go_enter func123,ntmps123;go_wp2_with fail;refine U.out.mono ?_;rintro e w1 ⟨rfl,rfl⟩;go_wp2_with fail;go_ret;rw[Y.out];exact⟨rfl,HQ.out,z7h _ _ _ _⟩
theorem zly (x:Int)(b:Nat)(O:x%256=0)(hb:b<256):bits uz qW x (b:Int)=CL.W (x+b):=by
 obtain⟨Y,h⟩:∃Y:Nat,(x%18446744073709551616).toNat=Y*256:=⟨(x%18446744073709551616).toNat/256,by omega⟩;have q:(ed 64 x).toNat=Y*256:=by
  rw[BitVec.toNat_ofInt,<-h];rfl
 have G:(ed 64 (b:Int)).toNat=b:=by
  rw[BitVec.ofInt_natCast,BitVec.toNat_ofNat];exact Nat.mod_eq_of_lt (by omega)
 show qW.wrap ((ed 64 x||| ed 64 (b:Int)).toNat:Int)=_;rw[BitVec.toNat_or,q,G,qY];have J:Y*256||| b=Y*256+b:=by
  have:=Nat.shiftLeft_add_eq_or_of_lt (i:=8) (b:=b) (by omega) Y;rw[Nat.shiftLeft_eq] at this;exact this.symm
 rw[J];unfold CL.W;omega
theorem zj8 (V b:Nat)(hb:b<256):bits uz qW (qW.wrap (CL.W V*256)) (b:Int)=CL.W ((V*256+b:Nat):Int):=by
 rw[zly _ b (by rw[qY];omega) hb,qY];unfold CL.W;omega
theorem zlV (S:List UInt8)(bad:Bool):(tN S bad).2.1=(tK S bad 8).2.1/\(tN S bad).2.2=(tK S bad 8).2.2/\(((tK S bad 8).2.2=true/\(tN S bad).1=0)\/((tK S bad 8).2.2=false/\(tK S bad 8).1.length=8/\(tN S bad).1=CL.W (CD.v8 (tK S bad 8).1))):=by
 unfold tN tK CD.rN;cases bad with
 | true=>exact⟨rfl,rfl,.inl ⟨rfl,rfl⟩⟩
 | false=>
  simp only[Bool.false_eq_true,if_false];by_cases h:S.length<8
  .rw[if_pos h,if_pos h];exact⟨rfl,rfl,.inl ⟨rfl,rfl⟩⟩
  .rw[if_neg h,if_neg h];exact⟨rfl,rfl,.inr ⟨rfl,by rw[qb];omega,rfl⟩⟩
theorem z0V (G:Nat)(S:List UInt8)(bad:Bool)(w:World)(h:RdI w G S bad)(hS:S.length<=1000000000):
  Calls q6 69 #[.pointer (some ⟨G,0,none⟩)] w λe w'=>e= .returned (.int .i64 (tN S bad).1)/\RdI w' G (tN S bad).2.1 (tN S bad).2.2/\w.grownBy w' (some G):=by
 have V:=hid (zcC G S bad 8 w h hS (by omega));obtain⟨h1,h2,h3⟩:=zlV S bad;rw[h1,h2];clear h h1 h2;generalize (tN S bad).1=n at*;generalize tK S bad 8=O at*;obtain⟨T,R,b⟩:=O;simp only at h3 V ⊢;go_enter func69,ntmps69;go_wp2_with fail;refine V.out.mono ?_;rintro e w1 ⟨rfl,Y,hG⟩;have HI:=hid Y;have HG:=hid hG;have J:=hid (z2G G R b w1 Y);clear Y hG V;go_wp2_with fail;refine J.out.mono ?_;rintro e w2 ⟨rfl,rfl⟩;clear J;rcases h3 with⟨rfl,rfl⟩|⟨rfl,hT,hn⟩
 .go_wp2_with fail;go_ret;exact⟨rfl,HI.out,HG.out⟩
 .have HN:=hid hn;clear hn;go_wp2_with fail;go_loopw [4,5,10] (λt4 _ ti wr=>∃(i:Nat) (z:Int),i<=8/\ti= .int .i64 i/\t4= .int .i64 z/\z=CL.W (CD.v8 (T.take i))/\wr=w2) (λ_ _ ti _=>8-(intOf ti).toNat)
  case atStart=>exact⟨0,0,by omega,rfl,rfl,by simp[CD.v8,CL.W],rfl⟩
  case round=>
   obtain⟨i,z,hi,rfl,rfl,U,rfl⟩:=hrel;by_cases A3:i<8
   .have A4:=zjc T i (by omega);have HS:=hid (zlE T i (by omega));have hb:=UInt8.toNat_lt (T[i]'(by omega));generalize (T[i]'(by omega)).toNat=x at*;have q:=zj8 (CD.v8 (T.take i)) x hb;rw[<-U,<-HS.out] at q;have A1:=CL.z5l (CD.v8 (T.take i));rw[<-U] at A1;clear U hT;have HOr:=hid q;clear q;go_wp2_with fail;refine⟨⟨i+1,_,by omega,by go_num,rfl,?_,by first | rfl | trivial⟩,by simp[intOf];omega⟩;rw[z9o,<-zjL,HOr.out]
   .have he:i=8:=by omega
    subst he;have HZ:=hid U;have A2:Hid (T.take 8=T):=List.take_of_length_le (by omega);clear U hT;go_wp2_with fail;go_ret;refine⟨z0G ?_,HI.out,HG.out⟩;rw[HN.out,HZ.out,A2.out]
def tZ (S:List UInt8)(bad:Bool)(h:Nat):Int×List UInt8×Bool:=
 if(tN S bad).2.2=false/\0<=(tN S bad).1/\(tN S bad).1<=h then((tN S bad).1,(tN S bad).2.1,false) else(0,(tN S bad).2.1,true)
theorem zlg (S:List UInt8)(bad:Bool)(h:(tN S bad).2.2=true):(tN S bad).1=0:=by
 obtain⟨_,G,q⟩:=zlV S bad;rcases q with⟨_,q⟩|⟨q,_⟩
 .exact q
 .rw[G,q] at h;cases h
theorem z2w (U:Nat)(S:List UInt8)(bad:Bool)(q:Nat)(w:World)(h:RdI w U S bad)(hS:S.length<=1000000000)(_hm:q<=1000000000):
  Calls q6 125 #[.pointer (some ⟨U,0,none⟩),.int .i64 q] w λe w'=>e= .returned (.int .i64 (tZ S bad q).1)/\RdI w' U (tZ S bad q).2.1 (tZ S bad q).2.2/\w.grownBy w' (some U):=by
 have HC:=hid (z0V U S bad w h hS);have V:Hid (tZ S bad q=if(tN S bad).2.2=false/\0<=(tN S bad).1/\(tN S bad).1<=q then((tN S bad).1,(tN S bad).2.1,false) else(0,(tN S bad).2.1,true)):=rfl;have G:=zlg S bad;clear h;generalize tZ S bad q=O at*;generalize tN S bad=Q at*;obtain⟨n,R,b⟩:=Q;simp only at V HC G;go_enter func125,ntmps125;go_wp2_with fail;refine HC.out.mono ?_;rintro e w1 ⟨rfl,hI,hG⟩;have HI:=hid hI;have HG:=hid hG;obtain⟨c0,c1,f0,f1⟩:=hI.c;have A1:=hid (z2G U R b w1 hI);clear hI hG HC;go_wp2_with fail;refine A1.out.mono ?_;rintro e w2 ⟨rfl,rfl⟩;clear A1;cases b with
 | true=>
  have J:Hid (O=(0,R,true)):=by
   show _=_;rw[V.out,if_neg (by rintro⟨h,_⟩;cases h)]
  clear V G;go_wp2_with fail;go_ret;rw[J.out];exact⟨rfl,HI.out,HG.out⟩
 | false=>
  have HQ:Hid (RdI (w2.setCell ⟨U,1,none⟩ (.bool true)) U R true/\w.grownBy (w2.setCell ⟨U,1,none⟩ (.bool true)) (some U)):=⟨HI.out.s1 true,HG.out.trans (z7h _ _ _ _)⟩;clear G;by_cases Y:0<=n/\n<=q
  .have A3:¬n<0:=by omega
   have A2:¬(q:Int)<n:=by omega
   have J:Hid (O=(n,R,false)):=by
    show _=_;rw[V.out,if_pos ⟨rfl,Y.1,Y.2⟩]
   clear V Y;go_wp2_with fail;go_ret;rw[J.out];exact⟨rfl,HI.out,HG.out⟩
  .have J:Hid (O=(0,R,true)):=by
    show _=_;rw[V.out,if_neg (λh=>Y h.2)]
   clear V;by_cases h0:n<0
   .clear Y;go_wp2_with fail;go_ret;rw[J.out];exact⟨rfl,HQ.out⟩
   .have A2:(q:Int)<n:=by omega
    clear Y;go_wp2_with fail;go_ret;rw[J.out];exact⟨rfl,HQ.out⟩
theorem znl (S:List UInt8)(bad:Bool):∃k:Nat,(tZ S bad (z5L S bad)).1=k/\k<=S.length/\tT S bad=tK (tZ S bad (z5L S bad)).2.1 (tZ S bad (z5L S bad)).2.2 k:=by
 unfold tZ tT;have V:=zk7 S bad;cases bad with
 | true=>exact⟨0,by rw[zcl];rfl,by omega,by rw[zcl];rfl⟩
 | false=>
  have G:z5L S false=S.length:=rfl;rw[G];generalize tN S false=O at*;obtain⟨n,R,b⟩:=O;simp only at V ⊢;cases b with
  | true=>
   rw[if_neg (by rintro⟨h,_⟩;cases h),if_neg (by rintro⟨h,_⟩;cases h)];exact⟨0,rfl,by omega,rfl⟩
  | false=>
   by_cases q:0<=n
   .by_cases J:n<=R.length
    .rw[if_pos ⟨rfl,q,by omega⟩,if_pos ⟨rfl,q,J⟩];refine⟨n.toNat,by show n=_;omega,by omega,?_⟩;unfold tK;rw[if_neg (by simp),if_neg (by show ¬R.length<n.toNat;omega)]
    .rw[if_neg (show ¬(false=false/\0<=n/\n<=(R.length:Int)) from λh=>J h.2.2)];by_cases U:n<=(S.length:Int)
     .rw[if_pos ⟨rfl,q,U⟩];refine⟨n.toNat,by show n=_;omega,by omega,?_⟩;unfold tK;rw[if_neg (by simp),if_pos (by show R.length<n.toNat;omega)]
     .rw[if_neg (λh=>U h.2.2)];exact⟨0,rfl,by omega,rfl⟩
   .rw[if_neg (λh=>q h.2.1),if_neg (λh=>q h.2.1)];exact⟨0,rfl,by omega,rfl⟩
theorem zml (S:List UInt8)(bad:Bool)(h:Nat):(tZ S bad h).2.1.length<=S.length:=by
 unfold tZ;have:=zk7 S bad;split<;>exact this
theorem z4C (G:Nat)(S:List UInt8)(bad:Bool)(w:World)(h:RdI w G S bad)(hS:S.length<=1000000000):
  Calls q6 129 #[.pointer (some ⟨G,0,none⟩)] w λe w'=>e= .returned (.string (sb (tT S bad).1))/\RdI w' G (tT S bad).2.1 (tT S bad).2.2/\w.grownBy w' (some G):=by
 obtain⟨k,V,A8,Y⟩:=znl S bad;have A4:z5L S bad<=1000000000:=by unfold z5L;split<;>omega
 have A1:=hid (z6k G S bad w h);have q:=hid (z2w G S bad (z5L S bad) w h hS A4);have A5:=zml S bad (z5L S bad);rw[V] at q;rw[Y];clear h V Y;generalize z5L S bad=lf at*;generalize tZ S bad lf=O at*;obtain⟨n,R,b⟩:=O;simp only at q A5 ⊢;have A2:(tK R b k).1.length<=1000000000:=by
  unfold tK;split
  .simp
  .split
   .simp
   .show(R.take k).length<=_;rw[qb];omega
 have A3:=hid A2;clear A2;go_enter func129,ntmps129;go_wp2_with fail;refine A1.out.mono ?_;rintro e w1 ⟨rfl,rfl⟩;clear A1;go_wp2_with fail;refine q.out.mono ?_;rintro e w2 ⟨rfl,hI,hG⟩;have J:=hid (zcC G R b k w2 hI (by omega) (by omega));have HG:=hid hG;clear hI hG q;generalize hO:tK R b k=O at*;obtain⟨T,R',b'⟩:=O;simp only at J A3;have HO:=hid hO;clear hO;go_wp2_with fail;refine J.out.mono ?_;rintro e w3 ⟨rfl,hI,hG⟩;have A6:=hid (zhw (sb T) w3 (by rw[z1b];have:=A3.out;omega));have HI:=hid hI;have A7:=hid (HG.out.trans hG);clear hI hG J;go_wp2_with fail;refine A6.out.mono ?_;rintro e w4 ⟨rfl,hb⟩;have U:=hid hb;clear hb;go_wp2_with fail;go_ret;rw[HO.out];refine⟨rfl,HI.out.below U.out,A7.out.trans ⟨U.out.os,U.out.tape,U.out.output,U.out.size,λj hj _=>U.out.block j hj⟩⟩
def rLs (S:List UInt8):Option (List CD.Lb×List UInt8):=match CD.rN S with
 | none=>none
 | some (k,r1)=>if 0<=k/\k<=8 then(match CD.rL k.toNat r1 with
   | none=>none
   | some (l,r2)=>if lbK l then some (l,r2) else none) else none
theorem zeP {S:List UInt8}(h:CD.rN S=none):rLs S=none:=by unfold rLs;rw[h]
theorem zfU {S q:List UInt8}{k:Int}(h:CD.rN S=some (k,q))(G:¬(0<=k/\k<=8)):rLs S=none:=by
 unfold rLs;rw[h];dsimp only;rw[if_neg G]
theorem zgP {S q:List UInt8}{k:Nat}(h:CD.rN S=some ((k:Int),q))(G:CD.rL k q=none):rLs S=none:=by
 have e:((k:Int)).toNat=k:=by omega
 unfold rLs;rw[h];dsimp only;rw[e,G];split<;>rfl
theorem zf3 {S q G:List UInt8}{k:Nat}{l:List CD.Lb}(h:CD.rN S=some ((k:Int),q))(J:CD.rL k q=some (l,G))(O:lbK l=false):rLs S=none:=by
 have e:((k:Int)).toNat=k:=by omega
 unfold rLs;rw[h];dsimp only;rw[e,J];dsimp only;rw[O];split<;>rfl
theorem zmm {S q G:List UInt8}{k:Nat}{l:List CD.Lb}(U:k<=8)(h:CD.rN S=some ((k:Int),q))(J:CD.rL k q=some (l,G))(O:lbK l=true):rLs S=some (l,G):=by
 have e:((k:Int)).toNat=k:=by omega
 unfold rLs;rw[h];dsimp only;rw[if_pos (by omega),e,J];dsimp only;rw[if_pos O]
theorem zbD {w:World}{G g:Nat}{S:List UInt8}{bad:Bool}{c:Array Value}{e:qn}(O:RdI w G S bad)(J:w.heap[g]? =some (uR c e))(h:g=G)(U:200≠e):False:=by
 subst h;have q:w.heap[g]? =some (.cells #[.string (sb S),.bool bad] 200):=O;rw[q] at J;have:=qt J;simp only[rI] at this;exact U this.2.1
theorem zlu (S:List UInt8)(bad:Bool):∃a R b,tT S bad=(a,R,b)/\R.length<=S.length/\a.length<=S.length/\((b=false/\bad=false/\CD.rT S=some (a,R))\/(b=true/\a=[]/\(bad=true\/CD.rT S=none))):=by
 cases bad with
 | true=>exact⟨_,_,_,zmA S,qq _,by simp,.inr ⟨rfl,rfl,.inl rfl⟩⟩
 | false=>
  cases hr:CD.rT S with
  | none=>
   obtain⟨S',q,h⟩:=zl9 hr;exact⟨_,_,_,q,h,by simp,.inr ⟨rfl,rfl,.inr rfl⟩⟩
  | some p=>
   obtain⟨t,r⟩:=p;have h:=CD.zkn hr;exact⟨t,r,false,zkp hr,by omega,by omega,.inl ⟨rfl,rfl,rfl⟩⟩
theorem zlZ (S:List UInt8)(q:Nat):∃(k:Nat) (R:List UInt8) (b:Bool),tZ S false q=((k:Int),R,b)/\k<=q/\R.length<=S.length/\((b=false/\CD.rN S=some ((k:Int),R))\/(b=true/\k=0/\(CD.rN S=none\/∃n r,CD.rN S=some (n,r)/\¬(0<=n/\n<=(q:Int))))):=by
 unfold tZ;cases hr:CD.rN S with
 | none=>
  rw[zbU hr,if_neg (by rintro⟨h,_⟩;cases h)];exact⟨0,S,true,rfl,by omega,qq _,.inr ⟨rfl,rfl,.inl rfl⟩⟩
 | some p=>
  obtain⟨n,r⟩:=p;have J:=zay hr;rw[z90 hr];by_cases h:0<=n/\n<=(q:Int)
  .obtain⟨k,rfl⟩:∃k:Nat,n=k:=⟨n.toNat,by omega⟩;rw[if_pos ⟨rfl,h.1,h.2⟩];exact⟨k,r,false,rfl,by omega,by omega,.inl ⟨rfl,rfl⟩⟩
  .rw[if_neg (λG=>h G.2)];exact⟨0,r,true,rfl,by omega,by omega,.inr ⟨rfl,rfl,.inr ⟨n,r,rfl,h⟩⟩⟩
def zmN (w:World)(h:Nat)(S:List UInt8)(e:rO)(w':World):Prop:=
 But h w w'/\((∃l r v,rLs S=some (l,r)/\e= .returned v/\RdI w' h r false/\z0x w' w.heap.size v (z3a l)/\r.length<=S.length)\/(rLs S=none/\e= .returned (.slice none 0 0)/\∃S',RdI w' h S' true/\S'.length<=S.length))
theorem zbv (J:Nat)(S:List UInt8)(w:World)(h:RdI w J S false)(hS:S.length<=5000000):
  Calls q6 172 #[.pointer (some ⟨J,0,none⟩)] w λe w'=>zmN w J S e w':=by
 have HC:=z2w J S false 8 w h (by omega) (by omega);obtain⟨k,R,b,hZ,AV,AW,Ad⟩:=zlZ S 8;rw[hZ] at HC;have HC:=hid HC;have Bh:=z00 h;have Av:(b=false/\CD.rN S=some ((k:Int),R))\/(b=true/\k=0/\rLs S=none):=by
  rcases Ad with h0|⟨Y,h2,h3⟩
  .exact .inl h0
  .refine .inr ⟨Y,h2,?_⟩;rcases h3 with h3|⟨n,r,h3,h4⟩
   .exact zeP h3
   .exact zfU h3 h4
 have Ae:=hid Av;obtain⟨ii,Aw,Ax,Ay,Az⟩:=info_parts Tryz.infoLb;have AX:=hid Aw;have AY:=hid Ax;have AZ:=hid Ay;have B0:=hid Az;clear h Av Ad hZ Aw Ax Ay Az;simp only at HC;go_enter func172,ntmps172;go_wp2_with fail;refine HC.out.mono ?_;rintro e w1 ⟨rfl,hI,hG⟩;have AA:=hid hI;have AB:=hid hG;clear hI hG HC;go_wp2_with fail;go_loopw [3,4,7] (λt3 _ t7 wr=>∃(j:Nat) (Sj:List UInt8) (bj:Bool) (la:List CD.Lb) (q:List LB.Lab),t7= .int .i64 j/\RdI wr J Sj bj/\But J w wr/\Sj.length<=S.length/\z0x wr w.heap.size t3 q/\q.length=j/\j<=k/\((bj=false/\q=z3a la/\CD.rN S=some ((k:Int),R)/\CD.z4y k R la (k-j) Sj)\/(bj=true/\rLs S=none))) (λ_ _ t7 _=>k-(intOf t7).toNat)
 case atStart=>
  refine⟨0,R,b,[],[],rfl,AA.out,But.grown AB.out,AW,⟨rfl,.inl ⟨rfl,rfl⟩⟩,rfl,by omega,?_⟩;rcases Ae.out with⟨Y,h2⟩|⟨Y,_,h2⟩
  .exact .inl ⟨Y,rfl,h2,CD.z4y.start _ _⟩
  .exact .inr ⟨Y,h2⟩
 case round=>
  obtain⟨j,Sj,bj,la,q,rfl,AC,Ag,Ah,AD,A6,Bi,Af⟩:=hrel;have A3:=hid AC;have Ai:=hid Ag;have A8:=hid AD;have G:=hid Af;have Bf:=Ag.2.2.2.1;clear AC Ag AD Af Ae AA AB;by_cases Bj:j<k
  .have V:=z4C J Sj bj wr A3.out (by omega);obtain⟨a1,S4,b4,AE,Bl,_,AF⟩:=zlu Sj bj;rw[AE] at V;have V:=hid V;have A9:=hid AF;clear AE AF;go_wp2_with fail;refine V.out.mono ?_;rintro e w4 ⟨rfl,Ac,Aj⟩;dsimp only at Ac ⊢;have AG:z0x w4 w.heap.size u3 q:=z04 A8.out (λg c hg=>Aj.block g (z00 hg) (λe=>zbD A3.out hg (qt e) (by decide)));have B3:=hid (Ai.out.trans (But.grown Aj));have O:=z4C J S4 b4 w4 Ac (by omega);obtain⟨a2,S5,b5,AH,Bm,_,AJ⟩:=zlu S4 b4;rw[AH] at O;have O:=hid O;have Ak:=hid AJ;have B5:=hid Ac;have B6:=hid AG;clear Ac Aj AH AJ AG V;go_wp2_with fail;refine O.out.mono ?_;rintro e w5 ⟨rfl,Al,Am⟩;dsimp only at Al ⊢;have Ao:z0x w5 w.heap.size u3 q:=z04 B6.out (λg c hg=>Am.block g (z00 hg) (λe=>zbD B5.out hg (qt e) (by decide)));have A4:=hid (B3.out.trans (But.grown Am));have A5:=hid Al;have A7:=hid Ao;have Bg:=A4.out.2.2.2.1;obtain⟨Ap,Aq,A2⟩:=z02 Ao;rw[A6] at A2;clear Al Am Ao O;subst A2;go_wp2_with (at_builtin;refine rB _ rfl (.tmp 11) (.tmp 16) 90 rfl w.heap.size 107 ii (.agg #[.string ⟨#[]⟩,.string ⟨#[]⟩]) 2 32 underlying90 AX.out AY.out AZ.out B0.out rfl (by decide) (.slice Ap j Aq) q.length (lv q) rfl (uE A7.out _) ⟨w5.heap.size,0,none⟩ 1 1 [.string (sb a1),.string (sb a2)] rfl rfl (z3I w5 _ _ 107) (by intro u hu;simp at hu;rcases hu with rfl | rfl<;>rfl) (by unfold maxLen;omega) (by omega) (by simp;omega) ?_)
   intro v7 w7 AK Ar _;have Au:z0x w7 w.heap.size v7 (q++[(sb a1,sb a2)]):=by
    show World.ownsRow _ _ _ _ _ _ _;rw[q8,zgG,A6];exact AK
   have A1:∀g,(wH Ap j Aq).ownBlock=some g->w.heap.size<=g:=λg hg=>(ul A7.out g hg).1
   have U:Below w5.heap.size w5 (w5.alloc (.cells #[.string (sb a1),.string (sb a2)] 107)):=(Below.refl _ w5).alloc (qq _) _;have AL:RdI w7 J S5 b5:=(Ar.block J (by have:=U.size;omega) (λe=>by have:=A1 J e.symm;omega)).trans ((U.block J (by omega)).trans A5.out);have AM:But J w w7:=(A4.out.trans (But.below U)).own Ar A1;have HQ:Hid (RdI w7 J S5 b5/\But J w w7/\z0x w7 w.heap.size v7 (q++[(sb a1,sb a2)])):=⟨AL,AM,Au⟩;have AO:Hid ((b5=false/\q++[(sb a1,sb a2)]=z3a (la++[(a1,a2)])/\CD.rN S=some ((k:Int),R)/\CD.z4y k R (la++[(a1,a2)]) (k-(j+1)) S5)\/(b5=true/\rLs S=none)):=by
    have hm:k-j=(k-(j+1))+1:=by omega
    rcases G.out with⟨Y,h2,h3,h4⟩|⟨Y,h2⟩
    .rw[hm] at h4;rcases Ak.out with⟨h5,h6,h7⟩|⟨h5,_,h6⟩
     .refine .inl ⟨h5,by rw[h2];simp[z3a],h3,?_⟩;rcases A9.out with⟨_,_,h8⟩|⟨h8,_⟩
      .exact h4.next h8 h7
      .rw[h6] at h8;cases h8
     .refine .inr ⟨h5,zgP h3 (h4.fail ?_)⟩;rcases A9.out with⟨h8,_,h9⟩|⟨_,_,h9⟩
      .rcases h6 with h6|h6
       .rw[h8] at h6;cases h6
       .exact .inr ⟨_,_,h9,h6⟩
      .rcases h9 with h9|h9
       .rw[Y] at h9;cases h9
       .exact .inl h9
    .refine .inr ⟨?_,h2⟩;rcases Ak.out with⟨_,h6,_⟩|⟨h5,_⟩
     .rcases A9.out with⟨_,h8,_⟩|⟨h8,_⟩
      .rw[Y] at h8;cases h8
      .rw[h6] at h8;cases h8
     .exact h5
   obtain⟨a7,c7,AP⟩:=z02 Au;have Ba:v7= .slice a7 (j+1) c7:=by rw[AP,q8,A6];rfl
   have Bb:S5.length<=S.length:=by omega
   clear AP AK Ar Au A1 U AL AM A7 A5 A4 Ak A9 G;subst Ba;go_wp2_with fail;go_roundw
   case rel=>exact⟨j+1,S5,b5,la++[(a1,a2)],q++[(sb a1,sb a2)],by go_num,HQ.out.1,HQ.out.2.1,Bb,HQ.out.2.2,by rw[q8,A6];rfl,by omega,AO.out⟩
   case measure=>simp[intOf];omega
  .have AQ:k-j=0:=by omega
   have Bc:=hid AQ;clear AQ A6;have V:=hid (z2G J Sj bj wr A3.out);obtain⟨Ap,Aq,A2⟩:=z02 A8.out;go_wp2_with fail;refine V.out.mono ?_;rintro e w4 ⟨rfl,rfl⟩;clear V;cases bj with
   | true=>
    have Be:Hid (rLs S=none):=by
     rcases G.out with⟨Y,_⟩|⟨_,Y⟩
     .cases Y
     .exact Y
    clear G;go_wp2_with fail;go_ret;exact⟨Ai.out,.inr ⟨Be.out,rfl,Sj,A3.out,Ah⟩⟩
   | false=>
    obtain⟨h2,h3,h4⟩:q=z3a la/\CD.rN S=some ((k:Int),R)/\CD.rL k R=some (la,Sj):=by
     rcases G.out with⟨_,h2,h3,h4⟩|⟨Y,_⟩
     .rw[Bc.out] at h4;exact⟨h2,h3,h4.done⟩
     .cases Y
    obtain⟨lo,lc,hv,AR⟩:=z1w.z08 A8.out;have O:=hid (z3J lo q lc w4 AR);have AU:LB.right q=lbK la:=by rw[h2];rfl
    have H2:=hid h2;have H3:=hid h3;have H4:=hid h4;rw[AU] at O;obtain⟨c0,c1,f0,f1⟩:=A3.out.c;clear h2 h3 h4 G A2 AR AU;subst hv;go_wp2_with fail;refine O.out.mono ?_;rintro e w5 ⟨rfl,U⟩;have A5:=hid (A3.out.below U);have A4:=hid (Ai.out.trans (But.below (bt:=J) U));have A7:=hid (z04 A8.out (λg c hg=>U.block g (z00 hg)));obtain⟨d0,d1,g0,g1⟩:=A5.out.c;clear U O;cases hq:lbK la with
    | true=>
     have HR:=hid (zmm AV H3.out H4.out hq);clear hq;go_wp2_with fail;go_ret;refine⟨A4.out,.inl ⟨la,Sj,_,HR.out,rfl,A5.out,?_,Ah⟩⟩;rw[<-H2.out];exact A7.out
    | false=>
     have HR:=hid (zf3 H3.out H4.out hq);have HQ:Hid (RdI (w5.setCell ⟨J,1,none⟩ (.bool true)) J Sj true):=A5.out.s1 true;clear hq;go_wp2_with fail;go_ret;exact⟨A4.out.trans (But.grown (z7h _ _ _ _)),.inr ⟨HR.out,rfl,Sj,HQ.out,Ah⟩⟩
theorem zhn {S O:List UInt8}{G:List CD.Lb}(h:rLs S=some (G,O)):∃(k:Int) (q:List UInt8),CD.rN S=some (k,q)/\(0<=k/\k<=8)/\CD.rL k.toNat q=some (G,O)/\lbK G=true:=by
 unfold rLs at h;split at h
 .cases h
 .rename_i k q U;split at h
  .rename_i V;split at h
   .cases h
   .rename_i l r2 Y;split at h
    .rename_i J;simp only[qR,Prod.mk.injEq] at h;obtain⟨rfl,rfl⟩:=h;exact⟨k,q,U,V,Y,J⟩
    .cases h
  .cases h
theorem zmx {S q G c:List UInt8}{J:List CD.Lb}{x:List CL.Smp}(h:rLs S=some (J,q))(O:CD.rT q=some (c,G))(U:chD c=some x):CD.z4F chD lbK S=some ((J,x),G):=by
 obtain⟨k,r1,V,Y,a3,a4⟩:=zhn h;exact CD.zg6 V Y rfl a3 O a4 U
theorem zkr {S:List UInt8}(h:rLs S=none):CD.z4F chD lbK S=none:=by
 unfold rLs at h;split at h
 .rename_i q;exact CD.zdt q
 .rename_i k U q;split at h
  .split at h
   .rename_i G;exact CD.zef q rfl G
   .rename_i l V G;split at h
    .cases h
    .rename_i J;exact CD.z7Y q rfl G (.inr (.inl (by simpa using J)))
  .rename_i O;exact CD.zdN q O
theorem zgA {S q:List UInt8}{G:List CD.Lb}(h:rLs S=some (G,q))(h2:CD.rT q=none\/∃c r3,CD.rT q=some (c,r3)/\chD c=none):CD.z4F chD lbK S=none:=by
 obtain⟨k,U,J,V,O,Y⟩:=zhn h;exact CD.z7Y J rfl O (h2.elim .inl (λh=> .inr (.inr h)))
theorem z0X.but {G:Nat}{w w':World}(h:z0X w)(hb:But G w w')(J:1<w.heap.size)(q:1≠G):z0X w':=λi hi=>by
 have e:=hb.2.2.2.2 1 J q;have O:=h i hi;exact(World.cell?_of_block (w:=w) e).trans O
def zlX (w:World)(h:Nat)(S:List UInt8)(e:rO)(w':World):Prop:=
 But h w w'/\((∃x r lvv svv,CD.z4F chD lbK S=some (x,r)/\e= .returned (.agg #[lvv,svv])/\RdI w' h r false/\z0x w' w.heap.size lvv (z3a x.1)/\z0h w' w.heap.size svv x.2/\r.length<=S.length)\/(CD.z4F chD lbK S=none/\e= .returned (.agg #[.slice none 0 0,.slice none 0 0])/\∃S',RdI w' h S' true/\S'.length<=S.length))
theorem zbH {J:Nat}{w w1:World}{q:Nat}(h:But J w w1)(O:w.heap.size<=q)(U V:Value):But J w ((w1.setCell ⟨q,0,none⟩ U).setCell ⟨q,1,none⟩ V):=
 (h.own (z7h w1 q 0 U) (λg G=>by cases G;exact O)).own (z7h _ q 1 V) (λg G=>by cases G;exact O)
theorem zga {q G:Nat}{w1:World}{S:List UInt8}{b:Bool}(h:RdI w1 q S b)(J:q≠G)(O U:Value):RdI ((w1.setCell ⟨G,0,none⟩ O).setCell ⟨G,1,none⟩ U) q S b:=
 (Below.heap_setCell _ ⟨G,1,none⟩ U q J).trans ((Below.heap_setCell _ ⟨G,0,none⟩ O q J).trans h)
theorem zfH {w:World}{J q n G:Nat}{e T:qn}{v:Value}{xs:List Value}{a:Array Value}(h:w.ownsRow q e G v n xs)(hX:w.heap[J]? =some (.cells a T))(U:e≠T)(V Y:Value):((w.setCell ⟨J,0,none⟩ V).setCell ⟨J,1,none⟩ Y).ownsRow q e G v n xs:=z04 h λg c hg=>by
 have O:g≠J:=λe2=>by
  subst e2;rw[hX] at hg;have:=qt hg;simp only[rI] at this;exact U this.2.1.symm
 exact(Below.heap_setCell _ ⟨J,1,none⟩ Y g O).trans (Below.heap_setCell _ ⟨J,0,none⟩ V g O)
theorem zi0 (G:Nat)(S:List UInt8)(w:World)(h:RdI w G S false)(hS:S.length<=5000000)(hW:z0X w)(hG:1<w.heap.size)(AH:1≠G):
  Calls q6 128 #[.pointer (some ⟨G,0,none⟩)] w λe w'=>zlX w G S e w':=by
 have Ae:Below w.heap.size w (w.alloc (.cells #[.slice none 0 0,.slice none 0 0] 93)):=(Below.refl _ w).alloc (qq _) _;have AR:=z00 h;have HC:=hid (zbv G S _ (h.below Ae) hS);have Ao:=hid (qu w (.cells #[.slice none 0 0,.slice none 0 0] 93));have Ap:Hid (But G w (w.alloc (.cells #[.slice none 0 0,.slice none 0 0] 93))):=But.below Ae;have HW:=hid hW;clear h Ae hW;go_enter func128,ntmps128;go_wp2_with fail;refine HC.out.mono ?_;rintro e w1 ⟨A1,Ac⟩;have Af:=(A1.2.2.2.2 w.heap.size (by simp) (by omega)).trans Ao.out;have Aq:=hid Af;have Ar:=hid (Ap.out.trans A1);have Au:=z00 Af;clear A1 Af HC Ao Ap;obtain⟨R1,b1,lo,ln,lc,rfl,Ag,AU,A2⟩:∃R1 b1 lo ln lc,e= .returned (.slice lo ln lc)/\RdI w1 G R1 b1/\R1.length<=S.length/\((b1=false/\∃O,rLs S=some (O,R1)/\z0x w1 w.heap.size (.slice lo ln lc) (z3a O))\/(b1=true/\CD.z4F chD lbK S=none)):=by
  rcases Ac with⟨O,r,v,q,rfl,h3,V,h5⟩|⟨q,rfl,S',h3,V⟩
  .obtain⟨va,vc,hv⟩:=z02 V;refine⟨r,false,va,_,vc,by rw[hv],h3,h5,.inl ⟨rfl,O,q,?_⟩⟩;rw[<-hv];exact z07 V (by simp)
  .exact⟨S',true,none,0,0,rfl,h3,V,.inr ⟨rfl,zkr q⟩⟩
 have A3:=z4C G R1 b1 w1 Ag (by omega);obtain⟨c,R2,b2,Av,AV,AW,Aw⟩:=zlu R1 b1;rw[Av] at A3;have A3:=hid A3;have Ad:(b2=false/\∃O,rLs S=some (O,R1)/\z0x w1 w.heap.size (.slice lo ln lc) (z3a O)/\CD.rT R1=some (c,R2))\/(b2=true/\CD.z4F chD lbK S=none):=by
  rcases Aw with⟨q,J,h3⟩|⟨q,_,J⟩
  .rcases A2 with⟨_,O,V,h5⟩|⟨V,_⟩
   .exact .inl ⟨q,O,V,h5,h3⟩
   .rw[J] at V;cases V
  .refine .inr ⟨q,?_⟩;rcases A2 with⟨V,O,h5,_⟩|⟨_,V⟩
   .rcases J with J|J
    .rw[V] at J;cases J
    .exact zgA h5 (.inl J)
   .exact V
 have HSt:=hid Ad;have Ax:=hid Ag;clear Ac Ag A2 Av Aw Ad;go_wp2_with fail;refine A3.out.mono ?_;rintro e w2 ⟨rfl,A7,A8⟩;dsimp only at A7 ⊢;have U:=(A8.block w.heap.size Au (λe=>by have:=qt e;omega)).trans Aq.out;have Ah:=hid U;have A4:=hid (Ar.out.trans (But.grown A8));have Ay:=z00 U;have Ai:=hid A7;have Az:Hid (∀(g:Nat) (cc:Array Value),w1.heap[g]? =some (uR cc 107)->w2.heap[g]? =w1.heap[g]?):=λg cc hg=>A8.block g (z00 hg) (λe=>zbD Ax.out hg (qt e) (by decide))
 have AA:=hid (z2G G R2 b2 w2 A7);have x0:=z01 _ w.heap.size _ _ U 0 _ rfl;have x1:=z01 _ w.heap.size _ _ U 1 _ rfl;have AJ:w2.frozen? ⟨w.heap.size,0,none⟩=false:=by simp[wz,U]
 have AK:w2.frozen? ⟨w.heap.size,1,none⟩=false:=by simp[wz,U]
 clear A7 A8 U A3;go_wp2_with fail;refine AA.out.mono ?_;rintro e w3 ⟨rfl,rfl⟩;clear AA;cases b2 with
 | true=>
  have AL:Hid (CD.z4F chD lbK S=none):=by
   rcases HSt.out with⟨q,_⟩|⟨_,q⟩
   .cases q
   .exact q
  clear HSt;go_wp2_with fail;refine rP (uu (P:=q6) rfl _ _ w.heap.size 93 _ (0,0) _ rfl (qo _ _ 1 _ _ _ (qo _ _ 0 _ _ _ Ah.out)) underlying93 rfl (by kernel_rfl)) rfl ?_;exact⟨zbH A4.out (qq _) _ _,.inr ⟨AL.out,rfl,R2,zga Ai.out (by omega) _ _,by omega⟩⟩
 | false=>
  obtain⟨O,q,J,h3⟩:∃O,rLs S=some (O,R1)/\z0x w1 w.heap.size (.slice lo ln lc) (z3a O)/\CD.rT R1=some (c,R2):=by
   rcases HSt.out with⟨_,q⟩|⟨q,_⟩
   .exact q
   .cases q
  have AB:=hid q;have AC:=hid (z04 J Az.out);have AD:=hid h3;have AE:=hid (zmq (sb c) w3 (by rw[z1b];omega) (HW.out.but A4.out hG AH) (qe hG A4.out.2.2.2.1));clear q J h3 HSt Az Aq Ar Ax;go_wp2_with fail;refine AE.out.mono ?_;intro e w4 A5;obtain⟨Aj,Ak,Al,ev,rfl,A6,AM⟩:∃Aj Ak Al ev,e= .returned (.tuple #[.slice Aj Ak Al,ev])/\Below w3.heap.size w3 w4/\((ev= .nilIface/\∃l,chD c=some l/\z0h w4 w3.heap.size (.slice Aj Ak Al) l)\/(ev= .iface 56 (.int .i64 3)/\chD c=none)):=by
   unfold chD;cases hr:CL.z7m (z0w (sb c)) with
   | none=>
    rw[hr] at A5;obtain⟨q,J⟩:=A5;exact⟨none,0,0,_,q,J,.inr ⟨rfl,rfl⟩⟩
   | some l=>
    rw[hr] at A5;obtain⟨v,q,J,h3⟩:=A5;obtain⟨AX,AY,hv⟩:=z02 J;rw[hv] at q J;exact⟨_,_,_,_,q,h3,.inl ⟨rfl,l,rfl,J⟩⟩
  have Y:=(A6.block w.heap.size Ay).trans Ah.out;have Am:=Ai.out.below A6;have AF:=hid (A4.out.trans (But.below (bt:=G) A6));have AO:=hid (z04 AC.out (λg cc hg=>A6.block g (z00 hg)));have y0:=z01 _ w.heap.size _ _ Y 0 _ rfl;have y1:=z01 _ w.heap.size _ _ Y 1 _ rfl;have AZ:w4.frozen? ⟨w.heap.size,0,none⟩=false:=by simp[wz,Y]
  have B0:w4.frozen? ⟨w.heap.size,1,none⟩=false:=by simp[wz,Y]
  obtain⟨d0,d1,g0,g1⟩:=Am.c;have A9:=hid Y;have AG:=hid Am;clear A5 A6 Y Am AE x0 x1 AJ AK Ah A4 Ai AC;rcases AM with⟨rfl,l,hl,hO⟩|⟨rfl,hl⟩
  .have HR:=hid (zmx AB.out AD.out hl);have HO:=hid hO;clear hl hO;go_wp2_with fail;refine rP (uu (P:=q6) rfl _ _ w.heap.size 93 _ (0,0) _ rfl (qo _ _ 1 _ _ _ (qo _ _ 0 _ _ _ A9.out)) underlying93 rfl (by kernel_rfl)) rfl ?_;refine⟨zbH AF.out (qq _) _ _,.inl ⟨(O,l),R2,_,_,HR.out,rfl,zga AG.out (by omega) _ _,?_,?_,by omega⟩⟩
   .exact zfH AO.out A9.out (by decide) _ _
   .exact zfH (z07 HO.out (by omega)) A9.out (by decide) _ _
  .have HR:=hid (zgA AB.out (.inr ⟨_,_,AD.out,hl⟩));have HQ:Hid (RdI (w4.setCell ⟨G,1,none⟩ (.bool true)) G R2 true):=AG.out.s1 true;have AP:Hid (But G w (w4.setCell ⟨G,1,none⟩ (.bool true))):=AF.out.trans (But.grown (z7h _ _ _ _));have AQ:Hid ((w4.setCell ⟨G,1,none⟩ (.bool true)).heap[w.heap.size]? =some (.cells #[.slice none 0 0,.slice none 0 0] 93)):=(Below.heap_setCell w4 ⟨G,1,none⟩ _ w.heap.size (by show w.heap.size≠G;omega)).trans A9.out;clear hl;go_wp2_with fail;refine rP (uu (P:=q6) rfl _ _ w.heap.size 93 _ (0,0) _ rfl (qo _ _ 1 _ _ _ (qo _ _ 0 _ _ _ AQ.out)) underlying93 rfl (by kernel_rfl)) rfl ?_;exact⟨zbH AP.out (qq _) _ _,.inr ⟨HR.out,rfl,R2,zga HQ.out (by omega) _ _,by omega⟩⟩
def zkP (w:World)(h:Nat)(S:List UInt8)(e:rO)(w':World):Prop:=
 But h w w'/\((∃l r v,CD.z5K chD lbK S=some (l,r)/\e= .returned v/\RdI w' h r false/\z0a w' w.heap.size v (l.map z5H)/\r.length<=S.length)\/(CD.z5K chD lbK S=none/\e= .returned (.slice none 0 0)/\∃S',RdI w' h S' true/\S'.length<=S.length))
theorem zjn (G:Nat)(S:List UInt8)(w:World)(h:RdI w G S true)(hS:S.length<=5000000):
  Calls q6 71 #[.pointer (some ⟨G,0,none⟩)] w λe w'=>e= .returned (.slice none 0 0)/\RdI w' G S true/\But G w w':=by
 have J:=hid (z6k G S true w h);have q:=z2w G S true 0 w h (by omega) (by omega);have O:tZ S true 0=(0,S,true):=by unfold tZ;rw[zcl,if_neg (by rintro⟨h,_⟩;cases h)]
 rw[O] at q;have q:=hid q;clear h O;go_enter func71,ntmps71;go_wp2_with fail;refine J.out.mono ?_;rintro e w1 ⟨rfl,rfl⟩;clear J;go_wp2_with fail;refine q.out.mono ?_;rintro e w2 ⟨rfl,U,V⟩;have Y:=hid U;have HG:=hid V;clear U V q;go_wp2_with fail;refine wp_loop_rounds 1 ?_;rw[rounds_succ];go_wp2_with fail;go_ret;exact⟨rfl,Y.out,But.grown HG.out⟩
theorem zde (V:Nat)(S:List UInt8)(w:World)(h:RdI w V S false)(hS:S.length<=5000000)(hW:z0X w)(hG:1<w.heap.size)(AU:1≠V):
  Calls q6 71 #[.pointer (some ⟨V,0,none⟩)] w λe w'=>zkP w V S e w':=by
 have Ae:=z6k V S false w h;have AV:z5L S false=S.length:=rfl;rw[AV] at Ae;have Ae:=hid Ae;have A7:=z2w V S false S.length w h (by omega) (by omega);obtain⟨k,R,b,hZ,BQ,By,Aw⟩:=zlZ S S.length;rw[hZ] at A7;have A7:=hid A7;have BR:=z00 h;have AW:(b=false/\CD.z5K chD lbK S=CD.rS chD lbK k R)\/(b=true/\k=0/\CD.z5K chD lbK S=none):=by
  unfold CD.z5K;rcases Aw with⟨G,h2⟩|⟨G,h2,h3⟩
  .refine .inl ⟨G,?_⟩;rw[h2];dsimp only;have e:((k:Int)).toNat=k:=by omega
   rw[if_pos (by omega),e]
  .refine .inr ⟨G,h2,?_⟩;rcases h3 with h3|⟨n,r,h3,h4⟩
   .rw[h3]
   .rw[h3];dsimp only;have hl:=zay h3;by_cases AX:0<=n
    .rw[if_pos AX];exact CD.zkT (by omega)
    .rw[if_neg AX]
 have Ax:=hid AW;obtain⟨ii,AY,AZ,B0,B3⟩:=info_parts Tryz.infoSr;have Bz:=hid AY;have BA:=hid AZ;have BB:=hid B0;have BC:=hid B3;have HW:=hid hW;clear h AW Aw hZ AY AZ B0 B3 AV hW;simp only at A7;go_enter func71,ntmps71;go_wp2_with fail;refine Ae.out.mono ?_;rintro e w1 ⟨rfl,rfl⟩;clear Ae;go_wp2_with fail;refine A7.out.mono ?_;rintro e w2 ⟨rfl,hI,B5⟩;have B6:=hid hI;have Ba:=hid B5;clear hI B5 A7;go_wp2_with fail;go_loopw [3,4,9] (λt3 _ t9 wr=>∃(i:Nat) (Si:List UInt8) (bi:Bool),t9= .int .i64 i/\RdI wr V Si bi/\But V w1 wr/\Si.length<=S.length/\i<=k/\((bi=false/\∃L:List (List CD.Lb×List CL.Smp),L.length=i/\CD.z5K chD lbK S=CD.rS chD lbK k R/\CD.z4w chD lbK k R L (k-i) Si/\z0a wr w1.heap.size t3 (L.map z5H))\/(bi=true/\t3= .slice none 0 0/\i=k/\CD.z5K chD lbK S=none))) (λ_ _ t9 _=>k-(intOf t9).toNat)
 case atStart=>
  refine⟨0,R,b,rfl,B6.out,But.grown Ba.out,By,by omega,?_⟩;rcases Ax.out with⟨G,h2⟩|⟨G,h2,h3⟩
  .exact .inl ⟨G,[],rfl,h2,CD.z4w.start _ _,z0a.nil _ _⟩
  .exact .inr ⟨G,rfl,h2.symm,h3⟩
 case round=>
  obtain⟨i,Si,bi,rfl,Bb,AF,Bc,BS,Ay⟩:=hrel;have A8:=hid Bb;have Af:=hid AF;have Be:=AF.2.2.2.1;have Y:=hid Ay;clear Bb AF Ay Ax B6 Ba;by_cases BU:i<k
  .obtain⟨L,A9,Ag,A5,Ah⟩:∃L:List (List CD.Lb×List CL.Smp),L.length=i/\CD.z5K chD lbK S=CD.rS chD lbK k R/\CD.z4w chD lbK k R L (k-i) Si/\z0a wr w1.heap.size u3 (L.map z5H):=by
    rcases Y.out with⟨_,G⟩|⟨_,_,G,_⟩
    .exact G
    .omega
   have Ai:bi=false:=by
    rcases Y.out with⟨G,_⟩|⟨_,_,G,_⟩
    .exact G
    .omega
   subst Ai;have Bf:=hid Ag;have hm:k-i=(k-(i+1))+1:=by omega
   rw[hm] at A5;have Bg:=hid A5;have BV:=hid Ah;have Bh:=hid A9;obtain⟨xs,A2,U,Aj⟩:=Ah;have Ac:(L.map z5H).length=i:=by rw[qz,A9]
   rw[Ac] at A2 U Aj;have BD:=hid A2;have Bi:=hid U;have AG:=hid Aj;obtain⟨va,vc,Aq⟩:=z02 U;have HC:=hid (zi0 V Si wr A8.out (by omega) (HW.out.but Af.out hG AU) (qe hG Be) AU);clear Y A9 Ag A5 A2 U Aj hm Ac;subst Aq;go_wp2_with fail;refine HC.out.mono ?_;rintro e w4 ⟨Ar,Bj⟩;clear HC;rcases Bj with⟨⟨la,l⟩,r,J,O,G,rfl,h3,h4,h5,h6⟩|⟨G,rfl,S',h3,h4⟩
   .obtain⟨AH,AJ,Bl⟩:=z02 h4;obtain⟨AK,AL,Bm⟩:=z02 h5;obtain⟨ln,Bo⟩:∃ln,(z3a la).length=ln:=⟨_,rfl⟩;obtain⟨sn,Bp⟩:∃sn,l.length=sn:=⟨_,rfl⟩;rw[Bo] at Bl;rw[Bp] at Bm;have Bq:=h4;have Br:=h5;have BF:=hid Bq;have BG:=hid Br;have BH:=hid G;have A1:Below w4.heap.size w4 (w4.alloc (.cells #[J,O] 93)):=(Below.refl _ w4).alloc (qq _) _;have AM:=h3.below A1;have AO:=qu w4 (.cells #[J,O] 93);have Ak:But V wr (w4.alloc (.cells #[J,O] 93)):=Ar.trans (But.below A1);have Az:z0x (w4.alloc (.cells #[J,O] 93)) w1.heap.size J (z3a la):=z07 (z04 h4 (λg c q=>A1.block g (z00 q))) (by omega);have AA:z0h (w4.alloc (.cells #[J,O] 93)) w1.heap.size O l:=z07 (z04 h5 (λg c q=>A1.block g (z00 q))) (by omega);have Al:(w4.alloc (.cells #[J,O] 93)).ownsRow w1.heap.size 93 2 (.slice va i vc) i (xs.flatMap λp=>[p.1,p.2]):=z04 Bi.out (λg c q=>Ak.2.2.2.2 g (z00 q) (λe2=>zbD A8.out q e2 (by decide)));have Am:∀i',i'<i->z0x (w4.alloc (.cells #[J,O] 93)) w1.heap.size (xs.getD i' (.nilIface,.nilIface)).1 (z03 (L.map z5H) i').1/\z0h (w4.alloc (.cells #[J,O] 93)) w1.heap.size (xs.getD i' (.nilIface,.nilIface)).2 (z03 (L.map z5H) i').2:=λi' Ao=>⟨z04 (AG.out i' Ao).1 (λg c q=>Ak.2.2.2.2 g (z00 q) (λe2=>zbD A8.out q e2 (by decide))),z04 (AG.out i' Ao).2 (λg c q=>Ak.2.2.2.2 g (z00 q) (λe2=>zbD A8.out q e2 (by decide)))⟩
    have Bt:=hid (z2G V r false _ AM);have y0:(w4.alloc (.cells #[J,O] 93)).cell? ⟨w4.heap.size,0,none⟩=some J:=z01 _ w4.heap.size _ _ AO 0 _ rfl;have y1:(w4.alloc (.cells #[J,O] 93)).cell? ⟨w4.heap.size,1,none⟩=some O:=z01 _ w4.heap.size _ _ AO 1 _ rfl;have A3:=hid AM;have Ap:=hid (Af.out.trans Ak);have AB:=hid Az;have AC:=hid AA;have A6:=hid Al;have AD:=hid Am;have BP:w1.heap.size<=(w4.alloc (.cells #[J,O] 93)).heap.size:=Ap.out.2.2.2.1;clear AM Ak Az AA Al Am G h3 h4 h5 Bq Br A1 AO BF BG Ar Bi AG;clear Bo Bp;subst Bl Bm;go_wp2_with fail;generalize w4.alloc (.cells #[.slice AH ln AJ,.slice AK sn AL] 93)=w5 at*;generalize w4.heap.size=bx at*;refine Bt.out.mono ?_;rintro e w6 ⟨rfl,rfl⟩;clear Bt;go_wp2_with (at_builtin;refine rB _ rfl (.tmp 15) (.tmp 17) 39 rfl w1.heap.size 93 ii (.agg #[.slice none 0 0,.slice none 0 0]) 2 48 underlying39 Bz.out BA.out BB.out BC.out rfl (by decide) (.slice va i vc) i (xs.flatMap λp=>[p.1,p.2]) rfl (uE A6.out _) ⟨w6.heap.size,0,none⟩ 1 1 [.slice AH ln AJ,.slice AK sn AL] rfl rfl (z3I w6 _ _ 93) (by intro u hu;simp at hu;rcases hu with rfl | rfl<;>rfl) (by unfold maxLen;omega) (by omega) (by simp;omega) ?_)
    intro v7 w7 AP Au _;have Av:∀g,(wH va i vc).ownBlock=some g->w1.heap.size<=g/\∃c',w6.heap[g]? =some (uR c' 93):=λg q=>by
     refine⟨(ul A6.out g q).1,?_⟩;rcases A6.out.2 with⟨G,_⟩|⟨g',cap,BI,G,_,h2,_⟩
     .rw[G] at q;cases q
     .rw[G] at q;have:g'=g:=qt q;subst this;exact⟨BI,h2⟩
    have Ad:Below w6.heap.size w6 (w6.alloc (.cells #[.slice AH ln AJ,.slice AK sn AL] 93)):=(Below.refl _ _).alloc (qq _) _;have Bu:RdI w7 V r false:=(Au.block V (qe (z00 A3.out) Ad.size) (λe=>by
     obtain⟨_,c',G⟩:=Av V e.symm;exact zbD A3.out G rfl (by decide))).trans ((Ad.block V (z00 A3.out)).trans A3.out)
    have Bv:But V w1 w7:=(Ap.out.trans (But.below Ad)).own Au (λg q=>(Av g q).1);have A4:∀(g:Nat) (c:Array Value) (e:qn),e≠93->w6.heap[g]? =some (uR c e)->w7.heap[g]? =w6.heap[g]? :=λg c e he q=>by
     refine(Au.block g (qe (z00 q) Ad.size) (λe2=>?_)).trans (Ad.block g (z00 q));obtain⟨_,c',G⟩:=Av g e2.symm;rw[q] at G;have:=qt G;simp only[rI] at this;exact he this.2.1
    have AE:z0a w7 w1.heap.size v7 (L.map z5H++[z5H (la,l)]):=by
     have Ac:(L.map z5H).length=i:=by rw[qz,Bh.out]
     refine z0a.snoc (by rw[Ac];exact BD.out) (by rw[Ac];exact AP) (λi' Ao=>?_) ?_ ?_
     .obtain⟨G,h2⟩:=AD.out i' (by rw[Ac] at Ao;exact Ao);exact⟨z04 G (λg c q=>A4 g c _ (by decide) q),z04 h2 (λg c q=>A4 g c _ (by decide) q)⟩
     .exact z04 AB.out (λg c q=>A4 g c _ (by decide) q)
     .exact z04 AC.out (λg c q=>A4 g c _ (by decide) q)
    obtain⟨a7,c7,BJ⟩:=z02 AP;have HQ:Hid (RdI w7 V r false/\But V w1 w7/\z0a w7 w1.heap.size v7 ((L++[(la,l)]).map z5H)):=⟨Bu,Bv,by rw[List.map_append];exact AE⟩;have BM:r.length<=S.length:=by omega
    clear AP Au Av Ad Bu Bv A4 AE A3 Ap AB AC A6 AD y0 y1;subst BJ;go_wp2_with fail;go_roundw
    case rel=>exact⟨i+1,r,false,by go_num,HQ.out.1,HQ.out.2.1,BM,by omega,.inl ⟨rfl,L++[(la,l)],by rw[q8,Bh.out];rfl,Bf.out,Bg.out.next BH.out,HQ.out.2.2⟩⟩
    case measure=>simp[intOf];omega
   .have A1:Below w4.heap.size w4 (w4.alloc (.cells #[.slice none 0 0,.slice none 0 0] 93)):=(Below.refl _ w4).alloc (qq _) _;have A3:=hid (h3.below A1);have Ap:=hid (Af.out.trans (Ar.trans (But.below (bt:=V) A1)));have BN:=hid (z2G V S' true _ A3.out);have AQ:Hid (CD.z5K chD lbK S=none):=by
     show _=_;rw[Bf.out];exact Bg.out.fail G
    clear A1 h3 Ar G;go_wp2_with fail;refine BN.out.mono ?_;rintro e w6 ⟨rfl,rfl⟩;go_wp2_with fail;go_ret;exact⟨Ap.out,.inr ⟨AQ.out,rfl,S',A3.out,by omega⟩⟩
  .have AR:k-i=0:=by omega
   rcases Y.out with⟨Ai,L,A9,Ag,A5,Ah⟩|⟨Ai,hv,_,Bw⟩
   .subst Ai;rw[AR] at A5;have HE:Hid (CD.z5K chD lbK S=some (L,Si)):=by
     show _=_;rw[Ag];exact A5.done
    have BO:=hid Ah;obtain⟨xs,A2,U,_⟩:=Ah;obtain⟨va,vc,Aq⟩:=z02 U;rw[qz,A9] at Aq;clear A9 Ag A5 A2 U Y AR;subst Aq;go_wp2_with fail;go_ret;exact⟨Af.out,.inl ⟨L,Si,_,HE.out,rfl,A8.out,BO.out,Bc⟩⟩
   .subst Ai hv;have AQ:=hid Bw;clear Y Bw AR;go_wp2_with fail;go_ret;exact⟨Af.out,.inr ⟨AQ.out,rfl,Si,A8.out,Bc⟩⟩
theorem zat (s:ByteArray)(w:World):
  Calls q6 68 #[.string s] w λe w'=>e= .returned (.pointer (some ⟨w.heap.size,0,none⟩))/\w'=w.alloc (.cells #[.string s,.bool false] 200):=by
 go_enter func68,ntmps68;go_wp2_with fail;go_ret;exact⟨rfl,rfl⟩
theorem RdI.new (s:ByteArray)(w:World):RdI (w.alloc (.cells #[.string s,.bool false] 200)) w.heap.size s.data.toList false:=by
 show _=_;rw[zdZ];exact qu w _
end
end Go.Proofs.YtemeblgngidldaaGreatDoor
