/- Texts put together and made smaller by program: BpMeS SoPick SoLists SoSel SoBlk SoCmp SoLw. -/
import Derived.Test.YtemeblgngidldaaGreatDoorPC11
set_option linter.unusedVariables false
set_option linter.unusedSimpArgs false
set_option maxRecDepth 100000
set_option maxHeartbeats 12800000
open And renaming intro->qv
open ByteArray renaming size_append->qC,empty->qy
open Go renaming TypeId->qn,Operand->r9,execOp->eS,heap_alloc_new->qu,wpList->eG,run_append_own_at->p8,resolve->pn,builtin->pQ,heap_setCell_same->qo
open Go.Addr renaming add_lit->qP
open Go.Addr.mk renaming injEq->uD
open Go.Instr renaming indexAt->yf,loadAt->wZ,field->p9
open Go.Lib renaming wpList_append_run->qB,maxOf->pG
open Go.Oper renaming wp->oy
open Go.Result renaming andThen_ok->tF
open Go.Sem renaming run_bind->ye,run_pure->uQ
open Go.Value renaming slice->wH,oneCell'->uo,int->wM
open Go.World renaming cell?_of_block->qj,cell?->qs
open List renaming filterMap_cons->qM,filterMap_nil->wh,getElem?_toArray->qJ,getElem?_cons_zero->qF,getElem?_cons_succ->qA,length_append->q8,length_cons->qf,eq_nil_of_length_eq_zero->eN,nil_append->r6,mem_append->wu,length_take->qb,take_succ_eq_append_getElem->rJ,append_assoc->qm,take_length->qD,getD_eq_getElem?_getD->q7,getElem?_append_left->wD,getElem?_append_right->eW,map_toArray->yh,map_cons->wR,map_nil->yX,length_map->qz,getElem?_map->qZ,getElem?_eq_getElem->qw,take_add_one->wJ,getElem_mem->qK,take_of_length_le->qL,mem_map->qx,map_append->wK,mem_cons_of_mem->qp,mem_cons_self->qd
open Nat renaming le_refl->qq,zero_le->qh,le_trans->qi,lt_of_lt_of_le->qe,zero_add->qT
open Option.some renaming injEq->qR,inj->qt
open Go.Proofs.Tryz renaming prog->q6
open Go.Proofs.Tryz
namespace Go.Proofs.YtemeblgngidldaaGreatDoor
section
open Go.RowKit
theorem zcS {w:World}{Z:Nat->Prop}{G:Option Addr}{x:Sr}{l:List Sr}{cap:Nat}(h:z0z w Z G (x::l))(V:(x::l).length<=cap):
  ∃b off A,G=some ⟨b,off,none⟩/\(if cap=1 then some ⟨b,off,none⟩ else some ⟨b,off+2,none⟩)=A/\z0z w Z A l:=by
 obtain⟨b,off,e,_⟩:=h 0 (by simp);refine⟨b,off,_,e,rfl,λi hi=>?_⟩;obtain⟨b',J,q,hb,Y,lo,lc,so,sc,c0,c1,O,U⟩:=h (i+1) (by simpa using hi);rw[e] at q;simp only[qR,uD,and_true] at q;obtain⟨rfl,rfl⟩:=q;have hn:cap≠1:=by simp at V;omega
 rw[HD.z1n] at c0 c1 O U;refine⟨b,off+2,by rw[if_neg hn],hb,Y,lo,lc,so,sc,?_,?_,O,U⟩
 .have:off+2+i*2=off+(i+1)*2:=by omega
  rw[this];exact c0
 .have:off+2+i*2+1=off+(i+1)*2+1:=by omega
  rw[this];exact c1
theorem zcH {w:World}{Z:Nat->Prop}{b off:Nat}{x:Sr}{l:List Sr}(h:z0z w Z (some ⟨b,off,none⟩) (x::l)):∃lo q so sc,w.cell? ⟨b,off,none⟩=some (.slice lo x.1.length q)/\w.cell? ⟨b,off+1,none⟩=some (.slice so x.2.length sc)/\z9w w Z lo x.1/\z9x w Z so x.2/\b<w.heap.size:=by
 obtain⟨U,G,e,hb,V,lo,q,so,sc,c0,c1,J,O⟩:=h 0 (by simp);cases e;exact⟨lo,q,so,sc,by simpa [HD.z5r] using c0,by simpa [HD.z5r] using c1,by simpa [HD.z5r] using J,by simpa [HD.z5r] using O,hb⟩
theorem z6p {c:Nat}{b off:Nat}{A:Option Addr}(h:(if c=1 then some (⟨b,off,none⟩:Addr) else some ⟨b,off+2,none⟩)=A):A≠none:=by
 rw[<-h];split<;>simp
def zau (w:World)(h:Option Addr)(l:List Sr):Prop:=∀i,i<l.length->∀b off so n sc,h=some ⟨b,off,none⟩->w.cell? ⟨b,off+i*2+1,none⟩=some (.slice so n sc)->n<=sc/\(so=none->sc=0)
theorem zau.tail {w:World}{b off:Nat}{x:Sr}{l:List Sr}{cap:Nat}{A:Option Addr}(h:zau w (some ⟨b,off,none⟩) (x::l))(J:(x::l).length<=cap)(O:(if cap=1 then some (⟨b,off,none⟩:Addr) else some ⟨b,off+2,none⟩)=A):zau w A l:=by
 intro i hi V G so n sc e q;have U:cap≠1:=by simp at J;omega
 rw[<-O,if_neg U] at e;simp only[qR,uD,and_true] at e;obtain⟨rfl,rfl⟩:=e;have:off+2+i*2+1=off+(i+1)*2+1:=by omega
 rw[this] at q;exact h (i+1) (by simpa using hi) b off so n sc rfl q
theorem zau.head {w:World}{b off:Nat}{x:Sr}{l:List Sr}(h:zau w (some ⟨b,off,none⟩) (x::l)){so:Option Addr}{n sc:Nat}(q:w.cell? ⟨b,off+1,none⟩=some (.slice so n sc)):n<=sc/\(so=none->sc=0):=h 0 (by simp) b off so n sc rfl (by simpa using q)
theorem z1j (b off n c:Nat)(w:World):(yf 39 (.slice (some ⟨b,off,none⟩) (n+1) c) (.int .i64 0)).run q6 w= .ok (.pointer (some ⟨b,off,none⟩)) w:=by
 have h:(0:Int)<(n:Int)+1:=by omega
 go_simp
theorem YC.index {P:Program}{C:World->Prop}{o:Oper}{a:Act}{t:qn}{x y:r9}{v u k:Value}(h:o.op= .indexAddr t x y)(q:a.eval x=u)(G:a.eval y=k)(J:∀w,(yf t u k).run P w= .ok v w):YC P C o v a:=λw _=> .inl (by
 unfold eS;rw[h];simp[q,G,J])
abbrev Fr (w:World):World->Prop:=λW=>Below w.heap.size w W
theorem zjW (b k:Nat)(lo so:Option Addr)(h q G sc:Nat)(w:World)(J:w.cell? ⟨b,k,none⟩=some (.slice lo h q))(O:w.cell? ⟨b,k+1,none⟩=some (.slice so G sc)):(wZ 93 (.pointer (some ⟨b,k,none⟩))).run q6 w= .ok (.agg #[.slice lo h q,.slice so G sc]) w:=by
 have U:(q6.info? 93).map (·.size)=some 2:=by kernel_rfl
 go_simp
theorem zjV (b k:Nat)(q:Option Addr)(n c:Nat)(w:World)(h:w.cell? ⟨b,k,none⟩=some (.slice q n c)):(wZ 91 (.pointer (some ⟨b,k,none⟩))).run q6 w= .ok (.slice q n c) w:=by
 have G:(q6.info? 91).map (·.size)=some 1:=by kernel_rfl
 go_simp
theorem zdh {w:World}{q:Option Addr}{a:List Sr}(h:zjp w q a):zau w q a:=λi hi b off so n sc e G=>h i hi b off e _ G so n sc rfl
def zms (v:Value):Nat:=match v with
 | .slice _ n _=>n
 | _=>0
def OkL (l:List Sr):Prop:=∀x∈l,0<x.1.length/\x.1.length<=8/\0<x.2.length/\x.2.length<=2000
theorem OkL.of {l:List Sr}(h:HD.Good l):OkL l:=λx G=>by
 have q:=h.ok x G;have O:=z0T q.1;have J:=z2a q.2.1;exact⟨by omega,by omega,q.2.2.1,J⟩
theorem zbr (ao bo:Option Addr)(a b:List Sr)(ca cb:Nat)(w:World)(hA:z0r w ao a)(hB:z0r w bo b)(ga:HD.Good a)(gb:HD.Good b)(C8:zjp w ao a)(C9:zjp w bo b)(Cr:a.length<=ca)(Cs:b.length<=cb)(Ct:ao=none->ca=0)(Cu:bo=none->cb=0):
  Calls q6 16 #[.slice ao a.length ca,.slice bo b.length cb] w λe w'=>∃v,e= .returned v/\z0a w' w.heap.size v (HD.jn a b)/\Below w.heap.size w w':=by
 have HA:=hid (z0z.z6x (Z:=λ_=>False) hA (λ_ h=>h.elim));have HB:=hid (z0z.z6x (Z:=λ_=>False) hB (λ_ h=>h.elim));have Ca:=hid (OkL.of ga);have Cb:=hid (OkL.of gb);have Br:=hid (zdh C8);have Bt:=hid (zdh C9);have CN:=ga.few;have CO:=gb.few;clear hA hB ga gb C8 C9;go_enter func16,ntmps16;go_wp2_with fail;go_loopw [0,1,5] (λta tb tl wr=>∃(a' b' d:List Sr) (Av Aw:Option Addr) (O U:Nat),ta= .slice Av a'.length O/\tb= .slice Aw b'.length U/\a'.length<=O/\b'.length<=U/\d.length+a'.length+b'.length<=9000/\HD.jn a b=d++HD.jn a' b'/\z0z w (λ_=>False) Av a'/\z0z w (λ_=>False) Aw b'/\(Av=none->O=0)/\(Aw=none->U=0)/\OkL a'/\OkL b'/\zau w Av a'/\zau w Aw b'/\z0a wr w.heap.size tl d/\Below w.heap.size w wr) (λta tb _ _=>zms ta+zms tb)
 case atStart=>exact⟨a,b,[],ao,bo,ca,cb,rfl,rfl,Cr,Cs,by simp;omega,rfl,HA.out,HB.out,Ct,Cu,Ca.out,Cb.out,Br.out,Bt.out,z0a.nil _ _,Below.refl _ _⟩
 case round=>
  obtain⟨a',b',d,Av,Aw,O,U,rfl,rfl,Ax,Ay,BM,hm,Cc,Cd,Bu,Bv,Bw,By,Bz,BA,BN,A8⟩:=hrel;have HM:=hid hm;have BO:=hid Bu;have BP:=hid Bv;have AU:=hid Cc;have AV:=hid Cd;have Al:=hid Bw;have Am:=hid By;have Bl:=hid Bz;have Bm:=hid BA;have AW:=hid BN;have Az:=hid A8;obtain⟨a5,c5,e5⟩:=BN.shape;subst e5;clear hm Bu Bv Cc Cd Bw By Bz BA BN A8 Ca Cb Br Bt;by_cases Ac:0<a'.length/\0<b'.length
  .rcases a' with _|⟨x,a2⟩
   .exact absurd Ac.1 (by simp)
   rcases b' with _|⟨y,b2⟩
   .exact absurd Ac.2 (by simp)
   clear Ac;obtain⟨ba,oa,Aa,rfl,BQ,BB⟩:=zcS AU.out Ax;obtain⟨bb,ob,Ab,rfl,BR,BC⟩:=zcS AV.out Ay;obtain⟨lo,lc,so,sc,d0,d1,hl,hs,BS⟩:=zcH AU.out;obtain⟨AA,AB,AJ,AK,f0,f1,BU,BV,AX⟩:=zcH AV.out;have Ce:(x::a2).length=a2.length+1:=rfl;have BD:(y::b2).length=b2.length+1:=rfl;rw[Ce] at Ax BM ⊢;rw[BD] at Ay BM ⊢;have BF:=hid BB;have BG:=hid BC;have BH:=hid (Bl.out.tail Ax BQ);have BI:=hid (Bm.out.tail Ay BR);have Cf:=hid (Bl.out.head d1);have Cg:=hid (Bm.out.head f1);have CP:=Al.out x (by simp);have CQ:=Am.out y (by simp);have AY:Hid (∀W,Fr w W->W.cell? ⟨ba,oa,none⟩=some (.slice lo x.1.length lc)/\W.cell? ⟨ba,oa+1,none⟩=some (.slice so x.2.length sc)):=λW hW=>⟨(hW.cell (p:=⟨ba,oa,none⟩) BS).trans d0,(hW.cell (p:=⟨ba,oa+1,none⟩) BS).trans d1⟩
   have Bo:Hid (∀W,Fr w W->W.cell? ⟨bb,ob,none⟩=some (.slice AA y.1.length AB)/\W.cell? ⟨bb,ob+1,none⟩=some (.slice AJ y.2.length AK)):=λW hW=>⟨(hW.cell (p:=⟨bb,ob,none⟩) AX).trans f0,(hW.cell (p:=⟨bb,ob+1,none⟩) AX).trans f1⟩
   have Ch:Hid (∀W,Fr w W->Calls q6 39 #[.slice lo x.1.length lc,.slice AA y.1.length AB] W λe w'=>e= .returned (.int .i64 (LB.cmp x.1 y.1))/\Below W.heap.size W w'):=λW hW=>z3X lo AA x.1 y.1 lc AB W (hl.1.below hW) (BU.1.below hW) (by omega) (by omega)
   have Cv:Hid (∀W,Fr w W->Calls q6 41 #[.agg #[.slice lo x.1.length lc,.slice so x.2.length sc]] W λe w'=>∃vl vs,e= .returned (.agg #[vl,vs])/\z0x w' W.heap.size vl x.1/\z0h w' W.heap.size vs x.2/\Below W.heap.size W w'):=λW hW=>z1Q x lo so lc sc W (hl.1.below hW) (hs.1.below hW) (by omega) (by omega) (by omega) (by omega)
   have Cw:Hid (∀W,Fr w W->Calls q6 41 #[.agg #[.slice AA y.1.length AB,.slice AJ y.2.length AK]] W λe w'=>∃vl vs,e= .returned (.agg #[vl,vs])/\z0x w' W.heap.size vl y.1/\z0h w' W.heap.size vs y.2/\Below W.heap.size W w'):=λW hW=>z1Q y AA AJ AB AK W (BU.1.below hW) (BV.1.below hW) (by omega) (by omega) (by omega) (by omega)
   have Cx:Hid (∀W,Fr w W->Calls q6 45 #[.slice lo x.1.length lc] W λen w'=>∃v',en= .returned v'/\z0x w' W.heap.size v' x.1/\Below W.heap.size W w'):=λW hW=>z2r lo x.1 lc W (hl.1.below hW) (by omega) (by omega)
   have Cy:Hid (∀W,Fr w W->Calls q6 46 #[.slice so x.2.length sc,.slice AJ y.2.length AK] W λe w'=>∃v,e= .returned v/\z0h w' W.heap.size v (CL.mrg x.2 y.2)/\Below W.heap.size W w'):=λW hW=>zgJ so AJ x.2 y.2 sc AK W (hs.1.below hW) (BV.1.below hW) Cf.out.1 Cg.out.1 (by omega) (by omega) Cf.out.2 Cg.out.2
   clear BB BC hl hs BU BV d0 d1 f0 f1 Ce BD BS AX;have CS:(1:Int)<=(a2.length:Int)+1:=by omega
   have CU:(1:Int)<=(b2.length:Int)+1:=by omega
   have CV:(0:Int)<(a2.length:Int)+1:=by omega
   have CW:(0:Int)<(b2.length:Int)+1:=by omega
   have CK:1<=O:=by omega
   have CM:1<=U:=by omega
   generalize Ci:LB.cmp x.1 y.1=cm at*;have AZ:=hid Ci;clear Ci;go_wp2_with fail;refine z0t (λW=>Below wr.heap.size wr W) (by kernel_rfl) (by kernel_rfl) (Below.refl _ wr).drew ?_;refine z0c (.slice (some ⟨ba,oa,none⟩) (a2.length+1) O) (by kernel_rfl) (λW _=>by kernel_rfl) ?_;go_frame;refine z1y (.pointer (some ⟨ba,oa,none⟩)) (by kernel_rfl) rfl (by kernel_rfl) (by kernel_rfl) (z1j ba oa a2.length O) ?_;go_frame;refine z0c (.pointer (some ⟨ba,oa,none⟩)) (by kernel_rfl) (λW _=>by kernel_rfl) ?_;go_frame;refine z19 (.slice lo x.1.length lc) (by kernel_rfl) rfl (by kernel_rfl) (λW hW=>z3o ba oa lo x.1.length lc W (AY.out W (z0u Az.out hW)).1) ?_;go_frame;refine z0c (.slice (some ⟨bb,ob,none⟩) (b2.length+1) U) (by kernel_rfl) (λW _=>by kernel_rfl) ?_;go_frame;refine z1y (.pointer (some ⟨bb,ob,none⟩)) (by kernel_rfl) rfl (by kernel_rfl) (by kernel_rfl) (z1j bb ob b2.length U) ?_;go_frame;refine z0c (.pointer (some ⟨bb,ob,none⟩)) (by kernel_rfl) (λW _=>by kernel_rfl) ?_;go_frame;refine z19 (.slice AA y.1.length AB) (by kernel_rfl) rfl (by kernel_rfl) (λW hW=>z3o bb ob AA y.1.length AB W (Bo.out W (z0u Az.out hW)).1) ?_;go_frame;refine z3n (.int .i64 cm) (by kernel_rfl) (λW=>by kernel_rfl) (λW hW=>(Ch.out W (z0u Az.out hW)).mono λe w' h=>⟨h.1,z0u hW h.2⟩) ?_;go_frame;refine z0c (.int .i64 cm) (by kernel_rfl) (λW _=>by kernel_rfl) ?_;go_frame;refine wpQuiet_nil ?_;intro w4 BW;have Cz:=hid (show Fr w w4 from z0u Az.out BW);have B0:=hid (AW.out.below BW);have A9:=hid (show Fr w w4.drew from Cz.out.drew);clear BW AW Az Ch;by_cases Cj:cm<0
   .have CB:=hid Cj;go_wp2_with fail;refine z0U (Fr w) [0,1,2,3,7,8] [4,5,6] [9,10] (by kernel_rfl) (by kernel_rfl) ?_;simp only[qM,wh,qJ,qF,qA];refine zr0.on (v:= .slice a5 d.length c5) (YC.move rfl (by kernel_rfl)) ?_;refine zr0.on (v:= .slice (some ⟨ba,oa,none⟩) (a2.length+1) O) (YC.move rfl (by kernel_rfl)) ?_;refine zr0.on (YC.index rfl (by kernel_rfl) (by kernel_rfl) (z1j ba oa a2.length O)) ?_;refine zr0.on (YC.load rfl (by kernel_rfl) λW hW=>zjW ba oa lo so x.1.length lc x.2.length sc W (AY.out W hW).1 (AY.out W hW).2) ?_;refine zr0.on (v:= .slice (some ⟨ba,oa,none⟩) (a2.length+1) O) (YC.move rfl (by kernel_rfl)) ?_;refine zr0.on (v:= .slice Aa a2.length (O-1)) (λW _=> .inl (by go_simp)) ?_;refine zr0.off (C:=Fr w) A9.out ?_;go_frame;go_wp2_with fail;refine(Cv.out w4.drew A9.out).mono ?_;rintro e w5 ⟨vl,vs,rfl,V,Y,A1⟩;obtain⟨Aj,Ak,el⟩:=z02 V;obtain⟨Ap,Aq,es⟩:=z02 Y;subst el;subst es;have A5:=hid (show Fr w w5 from z0u A9.out A1);have G:Below w5.heap.size w5 (w5.alloc (.cells #[.slice Aj x.1.length Ak,.slice Ap x.2.length Aq] 93)):=(Below.refl _ w5).alloc (qq _) _;have Ad:=hid (show Fr w _ from z0u A5.out G);have A4:w.heap.size<=w4.drew.heap.size:=A9.out.size;obtain⟨pa,pc,w7,A6,AC,Ae,_⟩:=z3F x (((B0.out.below (show Below w4.heap.size w4 w4.drew from(Below.refl _ w4).drew)).below A1).below G) (z07 (z04 V λg _ hg=>G.block g (z00 hg)) A4) (z07 (z04 Y λg _ hg=>G.block g (z00 hg)) A4) (qu w5 _) (by omega) Ad.out.size;have Af:=hid (show Fr w w7 from Ad.out.trans Ae);have B3:=hid AC;clear V Y A1 G AC Ae A4;go_wp2_with fail;refine z0F.on (C:=Fr w) A5.out ?_;go_wp2_with fail;refine z0F.on (C:=Fr w) Ad.out ?_;go_wp2_with (at_builtin;refine qB _ rfl _ _ _ _ rfl _ _ rfl rfl _ _ A6 ?_)
    refine z0F.fin (C:=Fr w) Af.out ?_;refine zr0.on (v:= .slice pa (d.length+1) pc) (λW _=> .inl (by kernel_rfl)) ?_;refine zr0.on (v:= .slice Aa a2.length (O-1)) (λW _=> .inl (by kernel_rfl)) ?_;refine zr0.fin (C:=Fr w) Af.out ?_;go_frame;go_wp2_with fail;refine⟨?rel, ?measure⟩
    case rel=>exact⟨a2,y::b2,d++[x],Aa,some ⟨bb,ob,none⟩,O-1,U,rfl,rfl,by omega,by simpa using Ay,by simp;omega,by rw[HM.out,HD.ziU x y a2 b2 (by rw[AZ.out];exact CB.out)];simp,BF.out,AV.out,λh=>absurd h (z6p BQ),BP.out,λz hz=>Al.out z (by simp[hz]),Am.out,BH.out,Bm.out,by simpa using B3.out,Af.out⟩
    case measure=>simp[zms]
   .by_cases Ck:0<cm
    .have CC:=hid Ck;go_wp2_with fail;refine z0U (Fr w) [0,1,2,3,7,8] [4,5,6] [9,10] (by kernel_rfl) (by kernel_rfl) ?_;simp only[qM,wh,qJ,qF,qA];refine zr0.on (v:= .slice a5 d.length c5) (YC.move rfl (by kernel_rfl)) ?_;refine zr0.on (v:= .slice (some ⟨bb,ob,none⟩) (b2.length+1) U) (YC.move rfl (by kernel_rfl)) ?_;refine zr0.on (YC.index rfl (by kernel_rfl) (by kernel_rfl) (z1j bb ob b2.length U)) ?_;refine zr0.on (YC.load rfl (by kernel_rfl) λW hW=>zjW bb ob AA AJ y.1.length AB y.2.length AK W (Bo.out W hW).1 (Bo.out W hW).2) ?_;refine zr0.on (v:= .slice (some ⟨bb,ob,none⟩) (b2.length+1) U) (YC.move rfl (by kernel_rfl)) ?_;refine zr0.on (v:= .slice Ab b2.length (U-1)) (λW _=> .inl (by go_simp)) ?_;refine zr0.off (C:=Fr w) A9.out ?_;go_frame;go_wp2_with fail;refine(Cw.out w4.drew A9.out).mono ?_;rintro e w5 ⟨vl,vs,rfl,V,Y,A1⟩;obtain⟨Aj,Ak,el⟩:=z02 V;obtain⟨Ap,Aq,es⟩:=z02 Y;subst el;subst es;have A5:=hid (show Fr w w5 from z0u A9.out A1);have G:Below w5.heap.size w5 (w5.alloc (.cells #[.slice Aj y.1.length Ak,.slice Ap y.2.length Aq] 93)):=(Below.refl _ w5).alloc (qq _) _;have Ad:=hid (show Fr w _ from z0u A5.out G);have A4:w.heap.size<=w4.drew.heap.size:=A9.out.size;obtain⟨pa,pc,w7,A6,AC,Ae,_⟩:=z3F y (((B0.out.below (show Below w4.heap.size w4 w4.drew from(Below.refl _ w4).drew)).below A1).below G) (z07 (z04 V λg _ hg=>G.block g (z00 hg)) A4) (z07 (z04 Y λg _ hg=>G.block g (z00 hg)) A4) (qu w5 _) (by omega) Ad.out.size;have Af:=hid (show Fr w w7 from Ad.out.trans Ae);have B3:=hid AC;clear V Y A1 G AC Ae A4;go_wp2_with fail;refine z0F.on (C:=Fr w) A5.out ?_;go_wp2_with fail;refine z0F.on (C:=Fr w) Ad.out ?_;go_wp2_with (at_builtin;refine qB _ rfl _ _ _ _ rfl _ _ rfl rfl _ _ A6 ?_)
     refine z0F.fin (C:=Fr w) Af.out ?_;refine zr0.on (v:= .slice pa (d.length+1) pc) (λW _=> .inl (by kernel_rfl)) ?_;refine zr0.on (v:= .slice Ab b2.length (U-1)) (λW _=> .inl (by kernel_rfl)) ?_;refine zr0.fin (C:=Fr w) Af.out ?_;go_frame;go_wp2_with fail;refine⟨?rel, ?measure⟩
     case rel=>exact⟨x::a2,b2,d++[y],some ⟨ba,oa,none⟩,Ab,O,U-1,rfl,rfl,by simpa using Ax,by omega,by simp;omega,by rw[HM.out,HD.zj4 x y a2 b2 (by rw[AZ.out];exact CC.out)];simp,AU.out,BG.out,BO.out,λh=>absurd h (z6p BR),Al.out,λz hz=>Am.out z (by simp[hz]),Bl.out,BI.out,by simpa using B3.out,Af.out⟩
     case measure=>simp[zms]
    .have hz:cm=0:=by omega
     have HZ:=hid hz;subst hz;go_wp2_with fail;refine z0l (Fr w) [0,1,2,3,4,6,7,8,9,10,11,12,13] [5,14,15,16,17,18] (by kernel_rfl) (by kernel_rfl) ?_;simp only[qM,wh,qJ,qF,qA];refine zr0.on (v:= .slice a5 d.length c5) (YC.move rfl (by kernel_rfl)) ?_;refine zr0.on (v:= .slice (some ⟨ba,oa,none⟩) (a2.length+1) O) (YC.move rfl (by kernel_rfl)) ?_;refine zr0.on (YC.index rfl (by kernel_rfl) (by kernel_rfl) (z1j ba oa a2.length O)) ?_;refine zr0.on (v:= .pointer (some ⟨ba,oa,none⟩)) (λW _=> .inl (by kernel_rfl)) ?_;refine zr0.on (YC.load rfl (by kernel_rfl) λW hW=>z3o ba oa lo x.1.length lc W (AY.out W hW).1) ?_;refine zr0.on (v:= .slice (some ⟨ba,oa,none⟩) (a2.length+1) O) (YC.move rfl (by kernel_rfl)) ?_;refine zr0.on (YC.index rfl (by kernel_rfl) (by kernel_rfl) (z1j ba oa a2.length O)) ?_;refine zr0.on (v:= .pointer (some ⟨ba,oa+1,none⟩)) (λW _=> .inl (by kernel_rfl)) ?_;refine zr0.on (YC.load rfl (by kernel_rfl) λW hW=>zjV ba (oa+1) so x.2.length sc W (AY.out W hW).2) ?_;refine zr0.on (v:= .slice (some ⟨bb,ob,none⟩) (b2.length+1) U) (YC.move rfl (by kernel_rfl)) ?_;refine zr0.on (YC.index rfl (by kernel_rfl) (by kernel_rfl) (z1j bb ob b2.length U)) ?_;refine zr0.on (v:= .pointer (some ⟨bb,ob+1,none⟩)) (λW _=> .inl (by kernel_rfl)) ?_;refine zr0.on (YC.load rfl (by kernel_rfl) λW hW=>zjV bb (ob+1) AJ y.2.length AK W (Bo.out W hW).2) ?_;refine zr0.off (C:=Fr w) A9.out ?_;go_frame;go_wp2_with fail;refine(Cx.out w4.drew A9.out).mono ?_;rintro e w5 ⟨vl,rfl,V,A1⟩;obtain⟨Aj,Ak,el⟩:=z02 V;subst el;have A5:=hid (show Fr w w5 from z0u A9.out A1);have Ag:=hid ((B0.out.below (show Below w4.heap.size w4 w4.drew from(Below.refl _ w4).drew)).below A1);have CE:=hid (show z0x w5 w.heap.size (.slice Aj x.1.length Ak) x.1 from z07 V A9.out.size);clear V A1
     go_wp2_with fail;refine z0F.on (C:=Fr w) A5.out ?_;go_wp2_with fail;refine(Cy.out w5 A5.out).mono ?_;rintro e w6 ⟨vs,rfl,Y,Bp⟩;obtain⟨Ap,Aq,es⟩:=z02 Y;subst es;have Ad:=hid (show Fr w w6 from z0u A5.out Bp);have G:Below w6.heap.size w6 (w6.alloc (.cells #[.slice Aj x.1.length Ak,.slice Ap (CL.mrg x.2 y.2).length Aq] 93)):=(Below.refl _ w6).alloc (qq _) _;have Af:=hid (show Fr w _ from z0u Ad.out G);obtain⟨pa,pc,w8,A6,BJ,Cl,_⟩:=z3F (x.1,CL.mrg x.2 y.2) ((Ag.out.below Bp).below G) (z04 (z04 CE.out λg _ hg=>Bp.block g (z00 hg)) λg _ hg=>G.block g (z00 hg)) (z07 (z04 Y λg _ hg=>G.block g (z00 hg)) A5.out.size) (qu w6 _) (by omega) Af.out.size;have Bq:=hid (show Fr w w8 from Af.out.trans Cl);have Cm:=hid BJ;clear Y Bp G BJ Cl;go_wp2_with fail;refine z0F.on (C:=Fr w) Ad.out ?_;go_wp2_with fail;refine z0F.on (C:=Fr w) Ad.out ?_;go_wp2_with fail;refine z0F.on (C:=Fr w) Af.out ?_;go_wp2_with (at_builtin;refine qB _ rfl _ _ _ _ rfl _ _ rfl rfl _ _ A6 ?_)
     refine z0F.on (C:=Fr w) Bq.out ?_;go_wp2_with fail;refine z0F.done (C:=Fr w) Bq.out ?_;go_wp2_with fail
     go_quiet (fail)
     go_wp2_with fail;refine⟨?rel, ?measure⟩
     case rel=>exact⟨a2,b2,d++[(x.1,CL.mrg x.2 y.2)],Aa,Ab,O-1,U-1,rfl,rfl,by omega,by omega,by rw[q8];simp only[qf,List.length_nil];omega,by rw[HM.out,HD.zib x y a2 b2 AZ.out];simp,BF.out,BG.out,λh=>absurd h (z6p BQ),λh=>absurd h (z6p BR),λz hz=>Al.out z (by simp[hz]),λz hz=>Am.out z (by simp[hz]),BH.out,BI.out,by simpa using Cm.out.below (z0k (Below.refl _ _) _),Bq.out.trans ((z0k (Below.refl _ _) _).mono Bq.out.size)⟩
     case measure=>simp[zms];omega
  .have Cn:Hid (HD.jn a b=d++(a'++b')):=by
    show _=_;rw[HM.out];by_cases h0:0<a'.length
    .have CF:b'=[]:=eN (by omega);rw[CF,HD.z6v,List.append_nil]
    .have CG:a'=[]:=eN (by omega);rw[CG,HD.z5d,r6]
   have G:Below wr.heap.size wr (wr.alloc (.cells #[.slice Av a'.length O,.slice Aw b'.length U] 39)):=(Below.refl _ wr).alloc (qq _) _;have B5:=hid (show Fr w _ from z0u Az.out G);have Ao:=hid (AW.out.below G);have Co:=hid (zdv Av Aw a' b' O U wr.heap.size w _ B5.out AU.out.row AV.out.row BO.out BP.out (by omega) (by omega) (qu wr _));have Cp:Hid (OkL (a'++b')):=λx hx=>by
    rcases wu.1 hx with h|h
    .exact Al.out x h
    .exact Am.out x h
   have CX:(a'++b').length<=9000:=by rw[q8];omega
   have CY:d.length+(a'++b').length<=9000:=by rw[q8];omega
   generalize a'++b'=R at*;have HX:Hid (Calls q6 47 #[.slice (some ⟨wr.heap.size,0,none⟩) 2 2] (wr.alloc (.cells #[.slice Av a'.length O,.slice Aw b'.length U] 39)) _):=Co.out;clear G HM AU AV BO BP Al Am Bl Bm Co;have B6:Hid (0<a'.length->¬0<b'.length):=λh0 h=>Ac ⟨h0,h⟩
   clear Ac Ax Ay BM;generalize a'.length=na at*;generalize b'.length=nb at*;by_cases h0:0<na
   .have CH:0<(na:Int):=by omega
    have CZ:¬0<(nb:Int):=by have:=B6.out h0;omega
    clear h0 B6;go_wp2_with fail;refine HX.out.mono ?_;rintro e w5 ⟨ro,rc,rfl,Ba,AD,A1⟩;have A5:=hid (show Fr w w5 from z0u B5.out A1);have Ag:=hid (Ao.out.below A1);have BX:=hid Ba;have A7:Hid (∀g,(wH a5 d.length c5).ownBlock=some g->∀J,ro=some J->g≠J.block):=λg eg J ea=>by
     have h1:=AD J ea;obtain⟨_,_,h2,_⟩:=Ao.out;have h3:=(h2.lt g eg).2;omega
    clear A1 Ba AD B5 Ao HX Az AW;go_wp2_with fail;go_loopw [5,75] (λt5 ti wq=>∃i:Nat,i<=R.length/\ti= .int .i64 i/\Below w.heap.size w wq/\w5.heap.size<=wq.heap.size/\(∀J,ro=some J->J.block<w5.heap.size->wq.heap[J.block]? =w5.heap[J.block]?)/\z0a wq w.heap.size t5 (d++R.take i)/\∀g,t5.ownBlock=some g->∀J,ro=some J->J.block<w5.heap.size->g≠J.block) (λ_ ti _=>R.length-(intOf ti).toNat)
    case atStart=>exact⟨0,qh _,rfl,A5.out,qq _,λ_ _ _=>rfl,by simpa using Ag.out,λg eg J ea _=>A7.out g eg J ea⟩
    case round=>
     clear Ag A7;obtain⟨i,hi,rfl,A8,AL,AE,Ah,Bb⟩:=hrel;have Ai:=hid A8;have AM:=hid Ah;have AO:=hid AE;have A7:=hid Bb;obtain⟨va,vc,ev⟩:=Ah.shape;subst ev;clear A8 Ah AE Bb;have Cq:(d++R.take i).length<=20000:=by rw[q8,qb];omega
     by_cases Ar:i<R.length
     .obtain⟨g,off,BZ,C0,lo,lc,so,sc,d0,d1,Bc,Be⟩:=BX.out i Ar;subst BZ;have AP:=AO.out _ rfl C0;have c0:=(qj (a:=⟨g,off+i*2,none⟩) AP).trans d0;have c1:=(qj (a:=⟨g,off+i*2+1,none⟩) AP).trans d1;have CI:=Cp.out _ (HD.at_mem R i Ar);have C2:Hid (d++R.take (i+1)=(d++R.take i)++[z03 R i]):=by
       show _=_;rw[rJ Ar,HD.z2d R i Ar,qm]
      generalize d++R.take i=dd at*;generalize z03 R i=x at*;have CJ:0<=(i:Int)/\(i:Int)<(R.length:Int):=by omega
      have AQ:Below wr.heap.size wr (wr.alloc (.cells #[.slice lo x.1.length lc,.slice so x.2.length sc] 93)):=(Below.refl _ wr).alloc (qq _) _;have Au:=hid (z0u Ai.out AQ);have Bf:=hid AQ;have C3:=hid Bc;have C4:=hid Be;clear AQ Bc Be d0 d1 AP;go_wp2_with fail;generalize wr.alloc (.cells #[.slice lo x.1.length lc,.slice so x.2.length sc] 93)=w6 at*;refine(z1Q x lo so lc sc w6 (C3.out.below Au.out) (C4.out.below Au.out) (by omega) (by omega) (by omega) (by omega)).mono ?_;rintro e w7 ⟨vl,vs,rfl,V,Y,Ae⟩;obtain⟨Aj,Ak,el⟩:=z02 V;obtain⟨Ap,Aq,es⟩:=z02 Y;subst el;subst es;have G:Below w7.heap.size w7 (w7.alloc (.cells #[.slice Aj x.1.length Ak,.slice Ap x.2.length Aq] 93)):=(Below.refl _ w7).alloc (qq _) _;have A2:=z0u (z0u Bf.out Ae) G;have A4:w.heap.size<=w6.heap.size:=Au.out.size;have AF:=(z0u Ai.out A2).size;obtain⟨pa,pc,w9,A6,AG,Bg,AR,AH⟩:=z3F x (AM.out.below A2) (z07 (z04 V λg _ hg=>G.block g (z00 hg)) A4) (z07 (z04 Y λg _ hg=>G.block g (z00 hg)) A4) (qu w7 _) (by omega) AF;have Bh:=hid AG;have C5:=hid (show Fr w w9 from(z0u Ai.out A2).trans Bg);have C6:w5.heap.size<=w9.heap.size:=qi AL (qi A2.size AR.size);have Bi:Hid (∀J,(some ⟨g,off,none⟩:Option Addr)=some J->J.block<w5.heap.size->w9.heap[J.block]? =w5.heap[J.block]?):=λJ ea A3=>by
       have h1:J.block<wr.heap.size:=qe A3 AL;refine(AR.block J.block (qe h1 A2.size) (λe=>A7.out _ e.symm J ea A3 rfl)).trans ?_;exact(A2.block _ h1).trans (AO.out J ea A3)
      have Bj:Hid (∀q,(wH pa (dd.length+1) pc).ownBlock=some q->∀J,(some ⟨g,off,none⟩:Option Addr)=some J->J.block<w5.heap.size->q≠J.block):=λq eq J ea A3=>by
       rcases AH with e|e
       .rw[e] at eq;exact A7.out q eq J ea A3
       .rw[e] at eq;have h2:=qi AL A2.size;have h3:=qt eq;omega
      clear V Y Ae G AG Bg AR AH A2 A4 AF AO A7 AM Ai Bf Au;go_wp2_with (at_builtin;refine qB _ rfl _ _ _ _ rfl _ _ rfl rfl _ _ A6 ?_)
      go_wp2_with fail;go_roundw
      case rel=>exact⟨i+1,by omega,by go_num,C5.out,C6,Bi.out,by rw[C2.out];simpa using Bh.out,Bj.out⟩
      case measure=>simp[intOf];omega
     .have he:i=R.length:=by omega
      have HE:Hid (z0a wr w.heap.size (.slice va (d++R.take i).length vc) (HD.jn a b)):=by
       have:=AM.out;rw[Cn.out];rw[he,qD] at this ⊢;exact this
      subst he;go_wp2_with fail;go_ret;exact⟨_,rfl,HE.out,Ai.out⟩
   .have CH:¬0<(na:Int):=by omega
    clear h0 B6;go_wp2_with fail;refine HX.out.mono ?_;rintro e w5 ⟨ro,rc,rfl,Ba,AD,A1⟩;have A5:=hid (show Fr w w5 from z0u B5.out A1);have Ag:=hid (Ao.out.below A1);have BX:=hid Ba;have A7:Hid (∀g,(wH a5 d.length c5).ownBlock=some g->∀J,ro=some J->g≠J.block):=λg eg J ea=>by
     have h1:=AD J ea;obtain⟨_,_,h2,_⟩:=Ao.out;have h3:=(h2.lt g eg).2;omega
    clear A1 Ba AD B5 Ao HX Az AW;go_wp2_with fail;go_loopw [5,75] (λt5 ti wq=>∃i:Nat,i<=R.length/\ti= .int .i64 i/\Below w.heap.size w wq/\w5.heap.size<=wq.heap.size/\(∀J,ro=some J->J.block<w5.heap.size->wq.heap[J.block]? =w5.heap[J.block]?)/\z0a wq w.heap.size t5 (d++R.take i)/\∀g,t5.ownBlock=some g->∀J,ro=some J->J.block<w5.heap.size->g≠J.block) (λ_ ti _=>R.length-(intOf ti).toNat)
    case atStart=>exact⟨0,qh _,rfl,A5.out,qq _,λ_ _ _=>rfl,by simpa using Ag.out,λg eg J ea _=>A7.out g eg J ea⟩
    case round=>
     clear Ag A7;obtain⟨i,hi,rfl,A8,AL,AE,Ah,Bb⟩:=hrel;have Ai:=hid A8;have AM:=hid Ah;have AO:=hid AE;have A7:=hid Bb;obtain⟨va,vc,ev⟩:=Ah.shape;subst ev;clear A8 Ah AE Bb;have Cq:(d++R.take i).length<=20000:=by rw[q8,qb];omega
     by_cases Ar:i<R.length
     .obtain⟨g,off,BZ,C0,lo,lc,so,sc,d0,d1,Bc,Be⟩:=BX.out i Ar;subst BZ;have AP:=AO.out _ rfl C0;have c0:=(qj (a:=⟨g,off+i*2,none⟩) AP).trans d0;have c1:=(qj (a:=⟨g,off+i*2+1,none⟩) AP).trans d1;have CI:=Cp.out _ (HD.at_mem R i Ar);have C2:Hid (d++R.take (i+1)=(d++R.take i)++[z03 R i]):=by
       show _=_;rw[rJ Ar,HD.z2d R i Ar,qm]
      generalize d++R.take i=dd at*;generalize z03 R i=x at*;have CJ:0<=(i:Int)/\(i:Int)<(R.length:Int):=by omega
      have AQ:Below wr.heap.size wr (wr.alloc (.cells #[.slice lo x.1.length lc,.slice so x.2.length sc] 93)):=(Below.refl _ wr).alloc (qq _) _;have Au:=hid (z0u Ai.out AQ);have Bf:=hid AQ;have C3:=hid Bc;have C4:=hid Be;clear AQ Bc Be d0 d1 AP;go_wp2_with fail;generalize wr.alloc (.cells #[.slice lo x.1.length lc,.slice so x.2.length sc] 93)=w6 at*;refine(z1Q x lo so lc sc w6 (C3.out.below Au.out) (C4.out.below Au.out) (by omega) (by omega) (by omega) (by omega)).mono ?_;rintro e w7 ⟨vl,vs,rfl,V,Y,Ae⟩;obtain⟨Aj,Ak,el⟩:=z02 V;obtain⟨Ap,Aq,es⟩:=z02 Y;subst el;subst es;have G:Below w7.heap.size w7 (w7.alloc (.cells #[.slice Aj x.1.length Ak,.slice Ap x.2.length Aq] 93)):=(Below.refl _ w7).alloc (qq _) _;have A2:=z0u (z0u Bf.out Ae) G;have A4:w.heap.size<=w6.heap.size:=Au.out.size;have AF:=(z0u Ai.out A2).size;obtain⟨pa,pc,w9,A6,AG,Bg,AR,AH⟩:=z3F x (AM.out.below A2) (z07 (z04 V λg _ hg=>G.block g (z00 hg)) A4) (z07 (z04 Y λg _ hg=>G.block g (z00 hg)) A4) (qu w7 _) (by omega) AF;have Bh:=hid AG;have C5:=hid (show Fr w w9 from(z0u Ai.out A2).trans Bg);have C6:w5.heap.size<=w9.heap.size:=qi AL (qi A2.size AR.size);have Bi:Hid (∀J,(some ⟨g,off,none⟩:Option Addr)=some J->J.block<w5.heap.size->w9.heap[J.block]? =w5.heap[J.block]?):=λJ ea A3=>by
       have h1:J.block<wr.heap.size:=qe A3 AL;refine(AR.block J.block (qe h1 A2.size) (λe=>A7.out _ e.symm J ea A3 rfl)).trans ?_;exact(A2.block _ h1).trans (AO.out J ea A3)
      have Bj:Hid (∀q,(wH pa (dd.length+1) pc).ownBlock=some q->∀J,(some ⟨g,off,none⟩:Option Addr)=some J->J.block<w5.heap.size->q≠J.block):=λq eq J ea A3=>by
       rcases AH with e|e
       .rw[e] at eq;exact A7.out q eq J ea A3
       .rw[e] at eq;have h2:=qi AL A2.size;have h3:=qt eq;omega
      clear V Y Ae G AG Bg AR AH A2 A4 AF AO A7 AM Ai Bf Au;go_wp2_with (at_builtin;refine qB _ rfl _ _ _ _ rfl _ _ rfl rfl _ _ A6 ?_)
      go_wp2_with fail;go_roundw
      case rel=>exact⟨i+1,by omega,by go_num,C5.out,C6,Bi.out,by rw[C2.out];simpa using Bh.out,Bj.out⟩
      case measure=>simp[intOf];omega
     .have he:i=R.length:=by omega
      have HE:Hid (z0a wr w.heap.size (.slice va (d++R.take i).length vc) (HD.jn a b)):=by
       have:=AM.out;rw[Cn.out];rw[he,qD] at this ⊢;exact this
      subst he;go_wp2_with fail;go_ret;exact⟨_,rfl,HE.out,Ai.out⟩
end
section
open Go.RowKit Go.Maps
theorem SB.at' {w:World}{q:Nat}{v:Value}{xs:List (Value×Value)}{S:List Sr}(h:SB w q v xs S)(i:Nat)(hi:i<S.length):∃b cap lo J so sc,v= .slice (some ⟨b,0,none⟩) S.length cap/\b<w.heap.size/\(atX xs i).1= .slice lo (z03 S i).1.length J/\(atX xs i).2= .slice so (z03 S i).2.length sc/\
  w.cell? ⟨b,i*2,none⟩=some (.slice lo (z03 S i).1.length J)/\w.cell? ⟨b,i*2+1,none⟩=some (.slice so (z03 S i).2.length sc):=by
 obtain⟨O,G,U,V,q1,q2,_⟩:=z0d h.row (by omega);obtain⟨f1,f2⟩:=zr1 xs i (by have:=h.len;omega);have hb:v.ownBlock=some O:=by rw[V];rfl
 have c1:=h.row.cells (g:=O) hb _ _ f1;have c2:=h.row.cells (g:=O) hb _ _ f2;rw[qP,qT] at c1 c2;obtain⟨lo,J,Y⟩:=z02 (h.labs i hi);obtain⟨so,sc,e2⟩:=z02 (h.smps i hi);rw[Y] at c1;rw[e2] at c2;exact⟨O,G,lo,J,so,sc,V,z00 q2,Y,e2,c1,c2⟩
theorem SB.own {w:World}{q:Nat}{v:Value}{xs:List (Value×Value)}{S:List Sr}(h:SB w q v xs S):z0a w 0 v S:=⟨xs,h.len,z07 h.row (qh _),λi hi=>⟨h.labs i hi,h.smps i hi⟩⟩
theorem z0a.sb {w:World}{q:Nat}{v:Value}{S:List Sr}(h:z0a w q v S):∃xs,SB w q v xs S:=by
 obtain⟨xs,J,O,G⟩:=h;exact⟨xs,J,O,λi hi=>z07 (G i hi).1 (qh _),λi hi=>z07 (G i hi).2 (qh _)⟩
abbrev pkP (m:List LB.Mat)(f t:Int):List LB.Lab->Int->Bool:=λL s=>LB.all L m&&decide (f<=s/\s<=t)
theorem ziK (v:Value)(xs:List (Value×Value))(S:List Sr)(mo:Option Addr)(m:List LB.Mat)(mc:Nat)(f t:Int)(w:World)(hS:SB w 0 v xs S)(hM:z3s w mo m)(hm:m.length<=1000)(hG:HD.Good S):
  Calls q6 118 #[v,.slice mo m.length mc,.int .i64 f,.int .i64 t] w λe w'=>∃v' q,e= .returned v'/\SB w' w.heap.size v' q (HD.kp (pkP m f t) S)/\Below w.heap.size w w':=by
 have HS:=hid hS;have HM:=hid hM;have HG:=hid hG;have Aq:=hG.few;obtain⟨va,vc,ev⟩:=z02 hS.row;subst ev;clear hS hM hG;go_enter func118,ntmps118;go_wp2_with fail;go_loopw [9,15] (λt9 ti wr=>∃i:Nat,i<=S.length/\ti= .int .i64 i/\Below w.heap.size w wr/\∃q,SB wr w.heap.size t9 q (HD.kp (pkP m f t) (S.take i))) (λ_ ti _=>S.length-(intOf ti).toNat)
 case atStart=>exact⟨0,qh _,rfl,Below.refl _ _,[],SB.nil _ _⟩
 case round=>
  obtain⟨i,hi,rfl,Ad,q,A1⟩:=hrel;have A2:=hid Ad;have Ah:=hid A1;obtain⟨oa,oc,eo⟩:=z02 A1.row;subst eo;clear Ad A1;by_cases O:i<S.length
  .obtain⟨b,cap,lo,V,so,sc,eb,Ar,x1,x2,c0,c1⟩:=HS.out.at' i O;cases eb;have d0:wr.cell? ⟨b,i*2,none⟩=some (.slice lo (z03 S i).1.length V):=(A2.out.cell (p:=⟨b,_,none⟩) Ar).trans c0;have d1:wr.cell? ⟨b,i*2+1,none⟩=some (.slice so (z03 S i).2.length sc):=(A2.out.cell (p:=⟨b,_,none⟩) Ar).trans c1;have Ai:=HG.out.ok _ (HD.at_mem S i O);have AQ:=z0T Ai.1;have AF:(z03 S i).2.length<=2000:=by
    have:=((CL.z0J _).1 Ai.2.1).1;exact this
   have AR:0<=(i:Int)/\(i:Int)<(S.length:Int):=by omega
   have A3:z0x w 0 (.slice lo (z03 S i).1.length V) (z03 S i).1:=by rw[<-x1];exact HS.out.labs i O
   have Ae:z0h w 0 (.slice so (z03 S i).2.length sc) (z03 S i).2:=by rw[<-x2];exact HS.out.smps i O
   have G:Below wr.heap.size wr (wr.alloc (.cells #[.slice lo (z03 S i).1.length V,.slice so (z03 S i).2.length sc] 93)):=(Below.refl _ wr).alloc (qq _) _;have Aj:=qu wr (.cells #[.slice lo (z03 S i).1.length V,.slice so (z03 S i).2.length sc] 93);have A4:Below w.heap.size w _:=A2.out.trans (G.mono A2.out.size);have e0:qs _ ⟨wr.heap.size,0,none⟩=some (.slice lo (z03 S i).1.length V):=z01 _ _ _ _ Aj 0 _ rfl;obtain⟨AU,AV,el,Au⟩:=z1w.z08 A3;cases el;obtain⟨AW,AX,es,Av⟩:=z1I.z08 Ae;cases es;have Aw:=hid (zbM lo mo (z03 S i).1 m V mc _ (Au.below A4) (HM.out.below A4) (by omega) hm);have Ak:=hid A4;have Al:=hid Aj;have Ax:=hid A3;have AG:=hid Av;have Af:=hid (Ah.out.below G);have AP:=hid G.size;clear c0 c1 x1 x2 Ai A3 Ae G Aj A4 Au Av;go_wp2_with fail;generalize wr.alloc (.cells #[.slice lo (z03 S i).1.length V,.slice so (z03 S i).2.length sc] 93)=w1 at*;refine Aw.out.mono ?_;rintro e w2 ⟨rfl,A5⟩;have A6:=hid (Ak.out.trans (A5.mono Ak.out.size));have A7:=(A5.block _ (z00 Al.out)).trans Al.out;have Ay:=hid A7;have Ag:=hid (Af.out.below A5);have d0:w2.cell? ⟨wr.heap.size,0,none⟩=some (.slice lo (z03 S i).1.length V):=z01 _ _ _ _ A7 0 _ rfl;have d1:w2.cell? ⟨wr.heap.size,1,none⟩=some (.slice so (z03 S i).2.length sc):=z01 _ _ _ _ A7 1 _ rfl;clear A5 A7 Aw Af Ak Al e0;cases G:LB.all (z03 S i).1 m with
   | false=>
    have J:HD.kp (pkP m f t) (S.take (i+1))=HD.kp (pkP m f t) (S.take i):=zfE O (ys:=[]) (List.filter_eq_nil_iff.2 λs _=>by simp[pkP,G]) (by simp);have Am:=hid J;clear G J;go_wp2_with fail;go_roundw
    case rel=>exact⟨i+1,by omega,by go_num,A6.out,q,by rw[Am.out];exact Ag.out⟩
    case measure=>simp[intOf];omega
   | true=>
    have Az:(z03 S i).2.filter (λs=>pkP m f t (z03 S i).1 s.1)=z4l f t (z03 S i).2:=by
     unfold z4l;refine List.filter_congr λs _=>?_
     simp[pkP,G]
    have A8:=hid Az;have AA:=hid (zbm so (z03 S i).2 sc f t w2 (AG.out.below A6.out) (by omega));clear G Az;go_wp2_with fail;refine AA.out.mono ?_;rintro e w3 ⟨bv,rfl,Ao,A9⟩;obtain⟨ba,bc,eb⟩:=z02 Ao;subst eb;have AH:(z4l f t (z03 S i).2).length<=2000:=qi (List.length_filter_le _ _) AF;have Y:=hid (A6.out.trans (A9.mono A6.out.size));have AB:=(A9.block _ (z00 Ay.out)).trans Ay.out;have d0:w3.cell? ⟨wr.heap.size,0,none⟩=some (.slice lo (z03 S i).1.length V):=z01 _ _ _ _ AB 0 _ rfl;have U:=hid (Ag.out.below A9);have AJ:=hid (show z0h w3 0 (.slice ba (z4l f t (z03 S i).2).length bc) (z4l f t (z03 S i).2) from z07 Ao (qh _));clear A9 AB Ao AA d1;by_cases h0:0<(z4l f t (z03 S i).2).length
    .have J:=zcY (p:=pkP m f t) O A8.out h0;have Ap:(HD.kp (pkP m f t) (S.take i)).length<=4000:=z2N _ S i Aq;have h:Below w3.heap.size w3 (w3.alloc (.cells #[.slice lo (z03 S i).1.length V,.slice ba (z4l f t (z03 S i).2).length bc] 93)):=(Below.refl _ w3).alloc (qq _) _;obtain⟨v4,w4,AC,k1,k2,_⟩:=z6z (w3.alloc (.cells #[.slice lo (z03 S i).1.length V,.slice ba (z4l f t (z03 S i).2).length bc] 93)) w.heap.size w3.heap.size (.slice oa (HD.kp (pkP m f t) (S.take i)).length oc) (.slice lo (z03 S i).1.length V) (.slice ba (z4l f t (z03 S i).2).length bc) _ _ (qu w3 _) rfl rfl (U.out.row.alloc _) (by omega) (qi Y.out.size h.size);have Ac:SB w4 w.heap.size v4 (q++[(.slice lo (z03 S i).1.length V,.slice ba (z4l f t (z03 S i).2).length bc)]) (HD.kp (pkP m f t) (S.take i)++[((z03 S i).1,z4l f t (z03 S i).2)]):=
      (U.out.below h).push (z04 (z04 Ax.out λg _ hg=>Y.out.block g (z00 hg)) λg _ hg=>h.block g (z00 hg)) (z04 AJ.out λg _ hg=>h.block g (z00 hg)) k1 k2
     have AD:Below w.heap.size w w4:=(Y.out.trans (h.mono Y.out.size)).grown k2 (qi Y.out.size h.size) (λg e=>(U.out.row.lt g e).1);rw[<-J] at Ac;obtain⟨AY,AZ,AK⟩:=z02 Ac.row;subst AK;have AL:=hid Ac;have AM:=hid AD;clear J Ap h k1 k2 Ac AD A8;generalize B0:(z4l f t (z03 S i).2).length=bn at*;go_wp2_with (at_builtin;refine qB _ rfl _ _ _ _ rfl _ _ rfl rfl _ _ AC ?_)
     go_roundw
     case rel=>exact⟨i+1,by omega,by go_num,AM.out,_,AL.out⟩
     case measure=>simp[intOf];omega
    .have J:=zfE (p:=pkP m f t) O A8.out h0;have Am:=hid J;have AE:(z4l f t (z03 S i).2).length=0:=by omega
     rw[AE];clear J h0 AE A8 AH;go_wp2_with fail;go_roundw
     case rel=>exact⟨i+1,by omega,by go_num,Y.out,q,by rw[Am.out];exact U.out⟩
     case measure=>simp[intOf];omega
  .have he:i=S.length:=by omega
   subst he;have HE:Hid (∃q,SB wr w.heap.size (.slice oa (HD.kp (pkP m f t) (S.take S.length)).length oc) q (HD.kp (pkP m f t) S)):=⟨q,by have h9:=Ah.out;rw[qD] at h9 ⊢;exact h9⟩;clear Ah;go_wp2_with fail;go_ret;obtain⟨AO,h2⟩:=HE.out;exact⟨_,AO,rfl,h2,A2.out⟩
end
section
open Go.RowKit Go.Maps
def LsW (w:World)(h:Nat)(v:Value)(Rs:List (List Sr)):Prop:=
 ∃vs:List Value,vs.length=Rs.length/\w.ownsRow h 39 1 v Rs.length vs/\∀k,k<Rs.length->∃xs,SB w 0 (vs.getD k .nilIface) xs (Rs.getD k [])
theorem LsW.nil (w:World)(h:Nat):LsW w h (.slice none 0 0) []:=⟨[],rfl,⟨rfl,.inl ⟨rfl,rfl⟩⟩,λk q=>by simp at q⟩
theorem LsW.below {w w':World}{q:Nat}{v:Value}{Rs:List (List Sr)}(h:LsW w q v Rs)(k:Below w.heap.size w w'):LsW w' q v Rs:=by
 obtain⟨vs,G,J,O⟩:=h;refine⟨vs,G,z04 J λg _ U=>k.block g (z00 U),λi hi=>?_⟩;obtain⟨xs,V⟩:=O i hi;exact⟨xs,V.below k⟩
theorem LsW.low {w:World}{q base':Nat}{v:Value}{Rs:List (List Sr)}(h:LsW w q v Rs)(k:base'<=q):LsW w base' v Rs:=by
 obtain⟨vs,G,J,O⟩:=h;exact⟨vs,G,z07 J k,O⟩
theorem LsW.own {w:World}{q:Nat}{v:Value}{Rs:List (List Sr)}(h:LsW w q v Rs):∃ao cap,v= .slice ao Rs.length cap:=by
 obtain⟨vs,_,G,_⟩:=h;exact z02 G
theorem SB.kinds {w w':World}{q:Nat}{v:Value}{xs:List (Value×Value)}{L:List Sr}(h:SB w q v xs L)(k:∀(g:Nat) (c:Array Value) (e:qn),(e=93\/e=107\/e=98)->w.heap[g]? =some (.cells c e)->w'.heap[g]? =w.heap[g]?):SB w' q v xs L:=
 ⟨h.len,z04 h.row λg c G=>k g c _ (.inl rfl) G,λi hi=>z04 (h.labs i hi) λg c G=>k g c _ (.inr (.inl rfl)) G,λi hi=>z04 (h.smps i hi) λg c G=>k g c _ (.inr (.inr rfl)) G⟩
theorem z2V {w:World}{ops:Array Oper}{rest:List Oper}{o:Oper}{a:Act}{Q:Exit->Act->World->Prop}(A4:o.guard=none)(s x:r9)
  (ho:o.op= .call {callee:= .builtin .append,args:=#[s,x],argTypes:=#[162,162]}) (G:Nat) (v:Value) (Rs:List (List Sr)) (n:Nat) (hn:Rs.length=n) (hs:a.eval s=v) (O:LsW w G v Rs)
  (g:Nat) (u:Value) (R:List Sr) (hx:a.eval x= .slice (some ⟨g,0,none⟩) 1 1) (hg:w.cell? ⟨g,0,none⟩=some u) (hu:∃xs,SB w 0 u xs R) (hl:Rs.length<=1000000) (J:G<=w.heap.size)
  (h:∀U cap w',LsW w' G (.slice U (n+1) cap) (Rs++[R])->Below G w w'->eG q6 ops Q rest (a.put o.dst (.slice U (n+1) cap)) w'):eG q6 ops Q (o::rest) a w:=by
 subst hn;obtain⟨i,hi,A5,A6,A7⟩:=info_parts (show(q6.info? 39).map (λi=>(i.zero,i.size,i.bytes))=some (some (.slice none 0 0),1,24) by kernel_rfl);obtain⟨vs,k1,k2,k3⟩:=O;obtain⟨xu,V⟩:=hu;obtain⟨Y,uc,rfl⟩:=z02 V.row;refine wpList_plain A4 λK hK=>?_
 obtain⟨v',w',A1,h2,h3,_,h5⟩:=p8 (P:=q6) w G 162 o.type 39 i (.slice none 0 0) 1 24 (by kernel_rfl) hi A5 A6 A7 rfl (by decide) v Rs.length vs k2 ⟨g,0,none⟩ 1 1 [.slice Y R.length uc] rfl (λj y hj=>by
  match j with
  | 0=>simp at hj;subst hj;exact hg
  | j+1=>simp at hj) (by simp[uo]) (by unfold maxLen;omega) (by omega) J
 obtain⟨U,cap,rfl⟩:=z02 h2;have hk:∀(g:Nat) (c:Array Value) (e:qn),(e=93\/e=107\/e=98)->w.heap[g]? =some (.cells c e)->w'.heap[g]? =w.heap[g]? :=λg c e he A2=>h3.block g (z00 A2) (λe2=>z0e k2 A2 (λe3=>by
  rw[<-e3] at he
  revert he;decide) e2.symm)
 have A8:LsW w' G (.slice U (Rs.length+1) cap) (Rs++[R]):=by
  refine⟨vs++[.slice Y R.length uc],by simp[k1],by rw[q8];exact h2,λk A3=>?_⟩;rw[q8] at A3;by_cases e:k<Rs.length
  .obtain⟨xs,q⟩:=k3 k e;refine⟨xs,?_⟩;have e1:(vs++[wH Y R.length uc]).getD k .nilIface=vs.getD k .nilIface:=by
    simp only[q7];rw[wD (by omega)]
   have e2:(Rs++[R]).getD k []=Rs.getD k []:=by
    simp only[q7];rw[wD e]
   rw[e1,e2];exact q.kinds hk
  .have e0:k=Rs.length:=by simp at A3;omega
   subst e0;refine⟨xu,?_⟩;have e1:(vs++[wH Y R.length uc]).getD Rs.length .nilIface= .slice Y R.length uc:=by
    simp only[q7];rw[<-k1,eW (qq _)];simp
   have e2:(Rs++[R]).getD Rs.length []=R:=by
    simp only[q7];rw[eW (qq _)];simp
   rw[e1,e2];exact V.kinds hk
 unfold oy eS;simp only[ho,pn,invoke,pQ,ye,uQ,tF,yh,wR,yX,hs,hx,A1];exact hK _ _ (h U cap w' A8 ((Below.refl G w).grown h3 J (λj e=>(k2.lt j e).1)))
theorem SrT.sb {w:World}{Zh:Nat->Prop}{v:Value}{S:List Sr}(h:SrT w Zh v S):∃xs,SB w 0 v xs S:=by
 obtain⟨xs,q,_⟩:=h;exact⟨xs,q⟩
theorem zke (tp old:Int)(h:Option Addr)(q G:Nat)(W:World):(p9 123 (.agg #[.int .i64 tp,.int .i64 old,.slice h q G]) 2).run q6 W= .ok (.slice h q G) W:=by
 kernel_rfl
theorem ziX (x:SX.Sto)(i:Nat)(h:i<x.B.length):(SX.rows x).take (i+1)=(SX.rows x).take i++[(x.B.getD i ⟨0,0,[]⟩).S]:=by
 have e:(SX.rows x)[i]? =some (x.B.getD i ⟨0,0,[]⟩).S:=by
  unfold SX.rows;rw[wD (by rw[qz];exact h),qZ,qw h,q7,qw h];rfl
 rw[wJ,e];rfl
theorem zgn (hb bm mc:Nat)(Zh:Nat->Prop)(vg:Value)(x:SX.St)(od:Int->Int)(w:World)(h:z1v w hb bm mc Zh vg x od)(hG:HD.Good x.s.H)(hp:x.s.B.Pairwise λb c=>b.n<c.n)(hB:x.s.B.length<=30)(hn:∀b∈x.s.B,0<=b.n/\b.n<1000000)(AR:mc<=100000):
  Calls q6 117 #[.agg (z0L hb bm vg x)] w λe w'=>∃v,e= .returned v/\LsW w' w.heap.size v (SX.rows x.s)/\Below w.heap.size w w':=by
 obtain⟨ga,gc,Az⟩:=z02 h.gn;obtain⟨mf,Af,A4⟩:=h.mp;have AA:=z4c A4 hp;generalize (x.G.map λd=>SX.txt (.gone d)).length=gn at Az;subst Az;have Ak:Below w.heap.size w (w.alloc (.cells (z0L hb bm (.slice ga gn gc) x) 77)):=(Below.refl _ w).alloc (qq _) _;have A3:=qu w (.cells (z0L hb bm (.slice ga gn gc) x) 77);have d0:qs _ ⟨w.heap.size,0,none⟩=some (.pointer (some ⟨hb,0,none⟩)):=z01 _ _ _ _ A3 0 _ rfl;have d1:qs _ ⟨w.heap.size,1,none⟩=some (.map (some bm)):=z01 _ _ _ _ A3 1 _ rfl;have d2:qs _ ⟨w.heap.size,2,none⟩=some (.int .i64 x.s.nx):=z01 _ _ _ _ A3 2 _ rfl;have d3:qs _ ⟨w.heap.size,3,none⟩=some (.slice ga gn gc):=z01 _ _ _ _ A3 3 _ rfl;have HC:=hid (z1P (.pointer (some ⟨hb,0,none⟩)) (.slice ga gn gc) x.s.nx bm mc mf _ (Af.below Ak Af.lt) AR);have HN:=hid h;have AB:=hid Af;have AU:=hid A4;have AV:=hid Ak;have Al:=hid A3;have HT:=hid AA;have HG:=hid hG;have AW:=hid hn;clear h Ak A3 AA Af A4 hG hn hp;go_enter func117,ntmps117;go_wp2_with fail;generalize w.alloc (.cells (z0L hb bm (.slice ga gn gc) x) 77)=w1 at*;refine HC.out.mono ?_;rintro e w2 ⟨nv,ks,rfl,AC,_,A5,Am⟩;obtain rfl:=IT.uniq AC HT.out;have Ag:=hid (z0u AV.out Am);have AD:=(Am.block _ (z00 Al.out)).trans Al.out;have Ah:=hid AD;have A6:=hid Ag.out.size;obtain⟨no,nc,rfl⟩:=z02 A5;have AE:(x.s.B.map (·.n)).length=x.s.B.length:=qz _;have HR:=hid (z07 A5 (qh _));have AF:=hid AE;clear AC A5 Am HC d0 d1 d2 d3 AD Al AE;go_wp2_with fail;go_loopw [2,8] (λt2 ti wr=>∃i:Nat,i<=x.s.B.length/\ti= .int .i64 i/\Below w.heap.size w wr/\Below w2.heap.size w2 wr/\LsW wr w2.heap.size t2 ((SX.rows x.s).take i)) (λ_ ti _=>x.s.B.length-(intOf ti).toNat)
 case atStart=>exact⟨0,qh _,rfl,Ag.out,Below.refl _ _,by rw[List.take_zero];exact LsW.nil _ _⟩
 case round=>
  obtain⟨i,hi,rfl,Y,J,A1⟩:=hrel;obtain⟨oa,oc,eo⟩:=A1.own;subst eo;have O:((SX.rows x.s).take i).length=i:=by
   rw[qb];unfold SX.rows;simp;omega
  by_cases Bb:i<x.s.B.length
  .have A7:i<x.s.B.length:=by omega
   obtain⟨g,Ba,Bc,e0,e1,e2,e3,e4,e5⟩:=z0d HR.out (by rw[AF.out];omega);cases e0;have cc:=HR.out.cells (g:=g) rfl i (.int .i64 (x.s.B.getD i ⟨0,0,[]⟩).n) (by
    rw[qZ,qZ,qw A7,q7,qw A7];rfl)
   rw[qP,qT] at cc;have cc:=(J.cell (p:=⟨g,i,none⟩) (z00 e2)).trans cc;have Ao:x.s.B.getD i ⟨0,0,[]⟩∈x.s.B:=by rw[q7,qw A7];exact qK A7
   have AG:=ziX x.s i A7;generalize x.s.B.getD i ⟨0,0,[]⟩=bb at*;obtain⟨bv,q1,q2,_⟩:=AU.out.1 bb Ao;obtain⟨ba,bc,AX⟩:=q2.sb.elim λxs Ap=>z02 Ap.row
   subst AX;have Be:=AW.out bb Ao;have AH:=AB.out.below Y AB.out.lt;have A8:=(J.block _ (z00 Ah.out)).trans Ah.out;have d1:qs _ ⟨w.heap.size,1,none⟩=some (.map (some bm)):=z01 _ _ _ _ A8 1 _ rfl;have Bf:=zke bb.zto (od bb.n) ba bb.S.length bc wr;have q:Below wr.heap.size wr (wr.alloc (.cells #[.slice ba bb.S.length bc] 39)):=(Below.refl _ wr).alloc (qq _) _;have A9:=qu wr (.cells #[.slice ba bb.S.length bc] 39);have Aq:qs _ ⟨wr.heap.size,0,none⟩=some (.slice ba bb.S.length bc):=z01 _ _ _ _ A9 0 _ rfl;have AJ:∃xs,SB (wr.alloc (.cells #[.slice ba bb.S.length bc] 39)) 0 (.slice ba bb.S.length bc) xs bb.S:=by
    obtain⟨xs,Ap⟩:=((q2.kept λg c e _ hg=>Y.block g (z00 hg)).kept λg c e _ hg=>q.block g (z00 hg)).sb;exact⟨xs,Ap⟩
   have AK:((SX.rows x.s).take i).length<=1000000:=by rw[O];omega
   have Bg:0<=(i:Int)/\(i:Int)<(x.s.B.length:Int):=by omega
   have AY:=hid AH;rw[O] at A1;have Ai:=hid (A1.below q);have Ar:=hid q;have Au:=hid AJ;have Ac:=hid Y;have U:=hid J;have AZ:=hid AG;have B0:=hid q1;have Av:=hid AK;have Aw:=hid O;rw[O];clear AH A1 q AJ Y J AG q1 AK O q2 A9 e1 e2 e3 e4 e5 A8 Ao Ag;go_wp2_with (first
    | (at_lookup;refine z1U rfl (.tmp 14) (.tmp 15) 75 rfl 2 123 zaY zbR _ (z4Q _) bm mc mf rfl AY.out bb.n (wfI (by omega) (by omega)) rfl (zal bb.zto (od bb.n) (.slice ba bb.S.length bc)) (by rw[B0.out];rfl) ?_)
    | (at_builtin;refine z2V rfl (.tmp 12) (.tmp 18) rfl w2.heap.size (.slice oa i oc) _ i Aw.out rfl Ai.out wr.heap.size _ bb.S rfl Aq Au.out Av.out (qi U.out.size Ar.out.size) ?_;intro ao cap w5 V A2;have Ad:=hid V;have Aj:=hid A2;clear V A2))
   go_roundw
   case rel=>
    have A2:Below w2.heap.size w2 w5:=U.out.trans ((Ar.out.mono U.out.size).trans Aj.out);refine⟨i+1,by omega,by go_num,?_,A2,?_⟩
    .refine Ac.out.trans ((Ar.out.mono Ac.out.size).trans (Aj.out.mono ?_));exact A6.out
    .rw[AZ.out];exact Ad.out
   case measure=>simp[intOf];omega
  .have he:i=x.s.B.length:=by omega
   subst he;have AL:(SX.rows x.s).take x.s.B.length++[x.s.H]=SX.rows x.s:=by
    unfold SX.rows;rw[List.take_append_of_le_length (by simp),qL (by simp)]
   have AM:=HN.out.below Y;have A8:=(J.block _ (z00 Ah.out)).trans Ah.out;have d0:qs _ ⟨w.heap.size,0,none⟩=some (.pointer (some ⟨hb,0,none⟩)):=z01 _ _ _ _ A8 0 _ rfl;have AO:=hid (z3C hb Zh x.s.mark x.s.H wr AM.hd.toI HG.out);rw[O] at A1;have Ai:=hid A1;have Ac:=hid Y;have U:=hid J;have B3:=hid AL;have Aw:=hid O;have Av:=hid (show((SX.rows x.s).take x.s.B.length).length<=1000000 by rw[O];omega);rw[O];clear A1 Y J AL O AM A8 Ag AF;go_wp2_with fail;refine AO.out.mono ?_;rintro e w4 ⟨sv,rfl,Ax,Ay⟩;obtain⟨sa,sc,B5,_⟩:=z0r.z08 Ax;subst B5;have q:Below w4.heap.size w4 (w4.alloc (.cells #[.slice sa x.s.H.length sc] 39)):=(Below.refl _ w4).alloc (qq _) _;have A9:=qu w4 (.cells #[.slice sa x.s.H.length sc] 39);have Aq:qs _ ⟨w4.heap.size,0,none⟩=some (.slice sa x.s.H.length sc):=z01 _ _ _ _ A9 0 _ rfl;obtain⟨B6,Ae⟩:=Ax.sb;have Au:=hid (show ∃xs,SB (w4.alloc (.cells #[.slice sa x.s.H.length sc] 39)) 0 (.slice sa x.s.H.length sc) xs x.s.H from⟨B6,⟨(Ae.below q).len,z07 (Ae.below q).row (qh _),(Ae.below q).labs,(Ae.below q).smps⟩⟩);have AP:=hid ((Ai.out.below Ay).below q);have AQ:=hid (show Below wr.heap.size wr _ from z0u Ay q);clear Ax Ay q A9 Ae AO Ai d0;go_wp2_with (at_builtin;refine z2V rfl (.tmp 21) (.tmp 25) rfl w2.heap.size (.slice oa x.s.B.length oc) _ x.s.B.length Aw.out rfl AP.out w4.heap.size _ x.s.H rfl Aq Au.out Av.out (qi U.out.size AQ.out.size) ?_;intro ao cap w5 V A2;have Ad:=hid V;have Aj:=hid A2;clear V A2)
   go_ret;refine⟨.slice ao (x.s.B.length+1) cap,rfl,?_,Ac.out.trans ((AQ.out.mono Ac.out.size).trans (Aj.out.mono A6.out))⟩;have h9:=Ad.out;rw[B3.out] at h9;exact h9.low A6.out
end
section
open Go.RowKit Go.Maps
theorem zgX (xs:List (Value×Value))(u:Value):∀i,(zr2 xs).set (i*2) u=zr2 (xs.set i (u,(atX xs i).2)):=by
 induction xs with
 | nil=>intro i;rfl
 | cons s l ih=>
  intro i
  match i with
  | 0=>rfl
  | i+1=>
   have h:(i+1)*2=(i*2)+2:=by omega
   rw[z4R,h];show s.1::s.2::(zr2 l).set (i*2) u=_;rw[ih i];rfl
theorem z0a.zmJ {w:World}{q g cap i:Nat}{u:Value}{L:List Sr}(h:z0a w q (.slice (some ⟨g,0,none⟩) L.length cap) L)(hi:i<L.length)(hu:z0x w q u (z03 L i).1):z0a (w.setCell ⟨g,i*2,none⟩ u) q (.slice (some ⟨g,0,none⟩) L.length cap) L:=by
 obtain⟨xs,h1,h2,O⟩:=h;obtain⟨g',V,A1,e0,_,Y,_⟩:=z0d h2 (by omega);cases e0;have G:∀{v:Value} {l:List LB.Lab},z0x w q v l->z0x (w.setCell ⟨g,i*2,none⟩ u) q v l:=λ{v l} k=>z0y k (λe=>z0e k Y (by decide) e) _ _
 have J:∀{v:Value} {l:List CL.Smp},z0h w q v l->z0h (w.setCell ⟨g,i*2,none⟩ u) q v l:=λ{v l} k=>z0y k (λe=>z0e k Y (by decide) e) _ _
 refine⟨xs.set i (u,(atX xs i).2),by rw[List.length_set];exact h1,?_,λj U=>?_⟩
 .have h5:=(h2.stored (i*2) u).1;have h6:=zgX xs u i;rw[show(xs.flatMap λp=>[p.1,p.2])=zr2 xs from rfl,h6] at h5;exact h5
 .have e:(xs.set i (u,(atX xs i).2)).getD j (.nilIface,.nilIface)=if j=i then(u,(atX xs i).2) else atX xs j:=z4a xs i j _ (by omega);rw[e];by_cases k:j=i
  .subst k;rw[if_pos rfl];exact⟨G hu,J (O j U).2⟩
  .rw[if_neg k];exact⟨G (O j U).1,J (O j U).2⟩
def zjt (x:SX.Sto)(m:List LB.Mat)(f t:Int):List Sr:=SX.jns ((SX.rows x).map (HD.kp (pkP m f t)))
theorem zca (l:List (List Sr))(R:List Sr):SX.jns (l++[R])=HD.jn (SX.jns l) R:=by
 unfold SX.jns;rw[List.foldl_append];rfl
theorem zer (hb bm mc:Nat)(Zh:Nat->Prop)(vg:Value)(x:SX.St)(od:Int->Int)(mo:Option Addr)(m:List LB.Mat)(mk:Nat)(f t:Int)(w:World)(h:z1v w hb bm mc Zh vg x od)(hM:z3s w mo m)(hm:m.length<=1000)(hG:HD.Good x.s.H)(Ag:∀b∈x.s.B,HD.Good b.S)(Ah:∀i,HD.Good (SX.jns (((SX.rows x.s).take i).map (HD.kp (pkP m f t)))))(hp:x.s.B.Pairwise λb c=>b.n<c.n)(hB:x.s.B.length<=30)(hn:∀b∈x.s.B,0<=b.n/\b.n<1000000)(Az:mc<=100000):
  Calls q6 63 #[.agg (z0L hb bm vg x),.slice mo m.length mk,.int .i64 f,.int .i64 t] w λe w'=>∃v,e= .returned v/\z0a w' w.heap.size v (zjt x.s m f t)/\Below w.heap.size w w':=by
 obtain⟨ga,gc,Ai⟩:=z02 h.gn;generalize (x.G.map λd=>SX.txt (.gone d)).length=gn at Ai;subst Ai;have A8:Below w.heap.size w (w.alloc (.cells (z0L hb bm (.slice ga gn gc) x) 77)):=(Below.refl _ w).alloc (qq _) _;have U:=qu w (.cells (z0L hb bm (.slice ga gn gc) x) 77);have d0:qs _ ⟨w.heap.size,0,none⟩=some (.pointer (some ⟨hb,0,none⟩)):=z01 _ _ _ _ U 0 _ rfl;have d1:qs _ ⟨w.heap.size,1,none⟩=some (.map (some bm)):=z01 _ _ _ _ U 1 _ rfl;have d2:qs _ ⟨w.heap.size,2,none⟩=some (.int .i64 x.s.nx):=z01 _ _ _ _ U 2 _ rfl;have d3:qs _ ⟨w.heap.size,3,none⟩=some (.slice ga gn gc):=z01 _ _ _ _ U 3 _ rfl;have HC:=hid (zgn hb bm mc Zh (.slice ga gn gc) x od _ (h.below A8) hG hp hB hn Az);simp only[z0L] at HC;have AA:=hid A8;have HM:=hid hM;have AB:Hid (∀k,k<(SX.rows x.s).length->HD.Good ((SX.rows x.s).getD k [])):=hid λk hk=>by
  have A6:(SX.rows x.s).getD k []∈SX.rows x.s:=by rw[q7,qw hk];exact qK hk
  generalize (SX.rows x.s).getD k []=R at*;unfold SX.rows at A6;rcases wu.1 A6 with q|q
  .obtain⟨b,hb,rfl⟩:=qx.1 q;exact Ag b hb
  .obtain rfl:=List.mem_singleton.1 q;exact hG
 have AC:=hid Ah;have AR:(SX.rows x.s).length<=31:=by unfold SX.rows;simp;omega
 clear h A8 U hG Ag Ah hM hp hn;go_enter func63,ntmps63;go_wp2_with fail;simp only[z0L] at*;generalize w.alloc (.cells #[.pointer (some ⟨hb,0,none⟩),.map (some bm),.int .i64 x.s.nx,.slice ga gn gc] 77)=w1 at*;refine HC.out.mono ?_;rintro e w2 ⟨v,rfl,A9,Aj⟩;generalize Ak:SX.rows x.s=Rs at*;have AD:=hid Ak;obtain⟨la,lc,AE⟩:=A9.own;subst AE;have AF:=hid (A9.low (qh _));have Al:=hid (z0u AA.out Aj);clear A9 Aj HC d0 d1 d2 d3 Ak;go_wp2_with fail;go_loopw [9,15] (λt9 ti wr=>∃i:Nat,i<=Rs.length/\ti= .int .i64 i/\Below w.heap.size w wr/\Below w2.heap.size w2 wr/\z0a wr w.heap.size t9 (SX.jns ((Rs.take i).map (HD.kp (pkP m f t))))) (λ_ ti _=>Rs.length-(intOf ti).toNat)
 case atStart=>exact⟨0,qh _,rfl,Al.out,Below.refl _ _,z0a.nil _ _⟩
 case round=>
  obtain⟨i,hi,rfl,Am,A7,Ac⟩:=hrel;have Ad:=hid Ac;have V:=hid Am;have O:=hid A7;obtain⟨aa,ac,AG⟩:=Ac.shape;subst AG;clear Ac Am A7;by_cases A4:i<Rs.length
  .obtain⟨vs,k1,k2,k3⟩:=AF.out;obtain⟨xs,A5⟩:=k3 i A4;obtain⟨g,AU,AV,e0,e1,e2,e3,e4,e5⟩:=z0d k2 (by omega);cases e0;have cc:=k2.cells (g:=g) rfl i (vs.getD i .nilIface) (by rw[q7,qw (by omega)];rfl);rw[qP,qT] at cc;have cc:=(O.out.cell (p:=⟨g,i,none⟩) (z00 e2)).trans cc;obtain⟨ra,rc,Ao⟩:=z02 A5.row;rw[Ao] at cc A5;have AW:0<=(i:Int)/\(i:Int)<(Rs.length:Int):=by omega
   have Ae:=AB.out i A4;have Ap:=hid (ziK (.slice ra (Rs.getD i []).length rc) xs (Rs.getD i []) mo m mk f t wr (A5.below O.out) (HM.out.below V.out) hm Ae);have Y:SX.jns ((Rs.take (i+1)).map (HD.kp (pkP m f t)))=HD.jn (SX.jns ((Rs.take i).map (HD.kp (pkP m f t)))) (HD.kp (pkP m f t) (Rs.getD i [])):=by
    rw[wJ,qw A4,wK,q7,qw A4];exact zca _ _
   have AH:=hid Y;have AJ:=hid Ae;have AK:=hid (AC.out i);generalize SX.jns ((Rs.take i).map (HD.kp (pkP m f t)))=J at*;clear k1 k2 k3 A5 e1 e2 e3 e4 e5 Ao Ae Y Al;generalize Rs.getD i []=R at*;generalize Aq:HD.kp (pkP m f t) R=PK at*;have AL:=hid Aq;generalize Ar:SX.jns ((Rs.take (i+1)).map (HD.kp (pkP m f t)))=J1 at*;have AM:=hid Ar;clear Aq Ar;go_wp2_with fail;refine Ap.out.mono ?_;rintro e w3 ⟨v3,AX,rfl,A1,Af⟩;obtain⟨pa,pc,AO⟩:=z02 A1.row;subst AO;obtain⟨AY,AZ,q0,q1,q2,q3,q4⟩:=z5i.z08 (Ad.out.below Af);cases q0;obtain⟨B0,B3,r0,r1,r2,r3,r4⟩:=z5i.z08 A1.own;cases r0;have Au:=hid (zbr aa pa _ _ ac pc w3 q1 r1 AK.out (by rw[<-AL.out];exact HD.z3h AJ.out) q2 r2 q3 r3 q4 r4);have Av:=hid Af;clear q1 q2 q3 q4 r1 r2 r3 r4 A1 Af Ap;go_wp2_with fail;refine Au.out.mono ?_;rintro e w4 ⟨v4,rfl,A2,Aw⟩;have A3:=z0u Av.out Aw;have Ax:=hid (A2.low (qi V.out.size Av.out.size));have AP:=hid (V.out.trans (A3.mono V.out.size));have Ay:=hid (O.out.trans (A3.mono O.out.size));obtain⟨na,nc,AQ⟩:=A2.shape;subst AQ;clear A2 Aw A3 Au;go_wp2_with fail;go_roundw
   case rel=>exact⟨i+1,by omega,by go_num,AP.out,Ay.out,by rw[AM.out,AH.out];exact Ax.out⟩
   case measure=>simp[intOf];omega
  .have he:i=Rs.length:=by omega
   subst he;have HE:Hid (z0a wr w.heap.size (.slice aa (SX.jns ((Rs.take Rs.length).map (HD.kp (pkP m f t)))).length ac) (zjt x.s m f t)):=by
    have h9:=Ad.out;rw[qD] at h9 ⊢;unfold zjt;rw[AD.out];exact h9
   clear Ad;generalize (SX.jns ((Rs.take Rs.length).map (HD.kp (pkP m f t)))).length=jl at*;go_wp2_with fail;go_ret;exact⟨_,rfl,HE.out,V.out⟩
theorem zfd {w:World}{bs bw bd cnt hb bm mc:Nat}{Z Zh:Nat->Prop}{D:DK.M}{p:Int}{dn up:Bool}{vg:Value}{x:SX.St}{od:Int->Int}(h:z0H w bs bw bd cnt Z D p dn up hb bm mc Zh vg x od)(mo:Option Addr)(m:List LB.Mat)(mk:Nat)(f t:Int)(hM:z3s w mo m)(hm:m.length<=1000)(hG:HD.Good x.s.H)(A8:∀b∈x.s.B,HD.Good b.S)(A9:∀i,HD.Good (SX.jns (((SX.rows x.s).take i).map (HD.kp (pkP m f t)))))(hp:x.s.B.Pairwise λb c=>b.n<c.n)(hB:x.s.B.length<=30)(hn:∀b∈x.s.B,0<=b.n/\b.n<1000000)(Aq:mc<=100000):
  Calls q6 28 #[.pointer (some ⟨bs,0,none⟩),.slice mo m.length mk,.int .i64 f,.int .i64 t] w λe w'=>Below w.heap.size w w'/\((LB.asked m=false/\e= .returned (.tuple #[.slice none 0 0,.iface 56 (.int .i64 1)]))\/(LB.asked m=true/\∃v,e= .returned (.tuple #[v,.nilIface])/\z0a w' w.heap.size v (zjt x.s m f t))):=by
 have Ac:=hid (z7d mo m mk w hM hm);have HI:=hid h;have HM:=hid hM;have HG:=hid (qv hG (qv A8 (qv A9 (qv hp hn))));clear h hM hG A8 A9 hp hn;go_enter func28,ntmps28;go_wp2_with fail;refine Ac.out.mono ?_;rintro e w1 ⟨rfl,Ad⟩;have O:=hid Ad;clear Ad Ac;cases hask:LB.asked m with
 | false=>
  have HA:=hid hask;clear hask;go_wp2_with fail;go_ret2;exact⟨O.out,.inl ⟨HA.out,rfl⟩⟩
 | true=>
  have HA:=hid hask;have Ae:=hid (z9a (HI.out.below O.out));clear hask;go_wp2_with fail;refine Ae.out.mono ?_;rintro e w2 ⟨rfl,A3⟩;have A4:=hid (z0u O.out A3);have Af:=(HI.out.below O.out).below A3;have Ag:=hid (zer hb bm mc Zh vg x od mo m mk f t w2 Af.now (HM.out.below A4.out) hm HG.out.1 HG.out.2.1 HG.out.2.2.1 HG.out.2.2.2.1 hB HG.out.2.2.2.2 Aq);clear A3 Af Ae;go_wp2_with fail;refine Ag.out.mono ?_;rintro e w3 ⟨v,rfl,A5,Ah⟩;have Ai:=hid (z0u A4.out Ah);have A6:HD.Good (zjt x.s m f t):=by
   have h9:=HG.out.2.2.1 (SX.rows x.s).length;rw[qD] at h9;exact h9
  generalize Aj:zjt x.s m f t=L at*;have Ar:=hid Aj;have Au:=hid A6;have AB:=A6.few;obtain⟨va,vc,hv⟩:=A5.shape;subst hv;have Ak:=hid (A5.low A4.out.size);clear A5 Ah Ag A6 Aj;go_wp2_with fail;go_loopw [11,24] (λ_ ti wr=>∃i:Nat,i<=L.length/\ti= .int .i64 i/\Below w.heap.size w wr/\z0a wr w.heap.size (.slice va L.length vc) L) (λ_ ti _=>L.length-(intOf ti).toNat)
  case atStart=>exact⟨0,qh _,rfl,Ai.out,Ak.out⟩
  case round=>
   obtain⟨i,hi,rfl,U,q⟩:=hrel;by_cases V:i<L.length
   .obtain⟨xs,Y⟩:=q.sb;obtain⟨g,cap,lo,lc,so,sc,e0,Av,x1,x2,c0,c1⟩:=Y.at' i V;cases e0;have A2:z0x wr 0 (.slice lo (z03 L i).1.length lc) (z03 L i).1:=by rw[<-x1];exact Y.labs i V
    obtain⟨AD,AE,el,Al⟩:=z1w.z08 A2;cases el;have A7:=Au.out.ok _ (HD.at_mem L i V);have AF:=z0T A7.1;have Aw:0<(z03 L i).1.length:=(of_decide_eq_true A7.1).1;have AG:0<=(i:Int)/\(i:Int)<(L.length:Int):=by omega
    have Am:=hid (z2r lo (z03 L i).1 lc wr Al Aw (by omega));obtain⟨g2,AC,AH,q0,q1,q2,_⟩:=z0d (Y.row) (by omega);cases q0;have A1:=hid q;have G:=hid U;have Ao:=hid q2;clear Y x1 x2 c1 A2 Al A7 q1 q2 U q Ak Ai;go_wp2_with fail;refine Am.out.mono ?_;rintro e w5 ⟨u,rfl,hu,J⟩;have Ap:=(J.block _ (z00 Ao.out)).trans Ao.out;have AJ:=(J.cell (p:=⟨g,i*2,none⟩) Av).trans c0;have Ax:=hid ((A1.out.kept λg c e _ hg=>J.block g (z00 hg)).zmJ V (u:=u) (z07 hu G.out.size));have Ay:w.heap.size<=g:=by
     obtain⟨ys,_,y2,_⟩:=A1.out;exact(y2.lt g rfl).1
    have Az:=hid ((G.out.trans (J.mono G.out.size)).setCell (p:=⟨g,i*2,none⟩) Ay u);obtain⟨ua,uc,AA⟩:=z02 hu;subst AA;have f0:=hfz Ap (i*2);clear hu J Ap Am;go_wp2_with fail;go_roundw
    case rel=>exact⟨i+1,by omega,by go_num,Az.out,Ax.out⟩
    case measure=>simp[intOf];omega
   .have he:i=L.length:=by omega
    subst he;have A1:=hid q;have G:=hid U;clear U q;go_wp2_with fail;go_ret2;refine⟨G.out,.inr ⟨HA.out,.slice va L.length vc,rfl,?_⟩⟩;have h9:=A1.out;rw[Ar.out];exact h9
end
section
open Go.RowKit Go.Maps
theorem z5o {w:World}{ops:Array Oper}{rest:List Oper}{o:Oper}{a:Act}{Q:Exit->Act->World->Prop}(V:o.guard=none)(s x:r9)
  (ho:o.op= .call {callee:= .builtin .append,args:=#[s,x],argTypes:=#[65,65]}) (q:Nat) (v:Value) (n:Nat) (A:List Value) (hs:a.eval s=v) (J:w.ownsRow q 2 1 v n A)
  (g:Nat) (t:Int) (hx:a.eval x= .slice (some ⟨g,0,none⟩) 1 1) (hg:w.cell? ⟨g,0,none⟩=some (.int .i64 t)) (hl:n<=1000000) (G:q<=w.heap.size)
  (h:∀U cap w',w'.ownsRow q 2 1 (.slice U (n+1) cap) (n+1) (A++[.int .i64 t])->Below q w w'->eG q6 ops Q rest (a.put o.dst (.slice U (n+1) cap)) w'):eG q6 ops Q (o::rest) a w:=by
 obtain⟨i,hi,Y,A1,A2⟩:=info_parts (show(q6.info? 2).map (λi=>(i.zero,i.size,i.bytes))=some (some (.int .i64 0),1,8) by kernel_rfl);refine wpList_plain V λK hK=>?_
 obtain⟨v',w',O,h2,h3,_,_⟩:=p8 (P:=q6) w q 65 o.type 2 i (.int .i64 0) 1 8 (by kernel_rfl) hi Y A1 A2 rfl (by decide) v n A J ⟨g,0,none⟩ 1 1 [.int .i64 t] rfl (λj y hj=>by
  match j with
  | 0=>simp at hj;subst hj;exact hg
  | j+1=>simp at hj) (by simp[uo]) (by unfold maxLen;omega) (by omega) G
 obtain⟨U,cap,rfl⟩:=z02 h2;unfold oy eS;simp only[ho,pn,invoke,pQ,ye,uQ,tF,yh,wR,yX,hs,hx,O];exact hK _ _ (h U cap w' h2 ((Below.refl q w).grown h3 G (λj e=>(J.lt j e).1)))
theorem zks (tp old:Int)(h:Option Addr)(q G:Nat)(W:World):(p9 123 (.agg #[.int .i64 tp,.int .i64 old,.slice h q G]) 0).run q6 W= .ok (.int .i64 tp) W:=by
 kernel_rfl
theorem zlC (B:List SX.Blk)(i:Nat)(h:i<B.length):(B.take (i+1)).map (λb=>wM .i64 b.zto)=(B.take i).map (λb=>wM .i64 b.zto)++[.int .i64 (B.getD i ⟨0,0,[]⟩).zto]:=by
 rw[wJ,qw h,wK,q7,qw h];rfl
theorem z8d {w:World}{bs bw bd cnt hb bm mc:Nat}{Z Zh:Nat->Prop}{D:DK.M}{p:Int}{dn up:Bool}{vg:Value}{x:SX.St}{od:Int->Int}(h:z0H w bs bw bd cnt Z D p dn up hb bm mc Zh vg x od)(hp:x.s.B.Pairwise λb c=>b.n<c.n)(hB:x.s.B.length<=30)(hn:∀b∈x.s.B,0<=b.n/\b.n<1000000)(AA:mc<=100000):
  Calls q6 27 #[.pointer (some ⟨bs,0,none⟩)] w λe w'=>∃na nc ta tc,e= .returned (.tuple #[.slice na x.s.B.length nc,.slice ta x.s.B.length tc])/\w'.ownsRow w.heap.size 2 1 (.slice na x.s.B.length nc) x.s.B.length (x.s.B.map λb=> .int .i64 b.n)/\w'.ownsRow w.heap.size 2 1 (.slice ta x.s.B.length tc) x.s.B.length (x.s.B.map λb=> .int .i64 b.zto)/\Below w.heap.size w w':=by
 obtain⟨ga,gc,Ah⟩:=z02 h.now.gn;obtain⟨mf,Ai,U⟩:=h.now.mp;have Aj:=z4c U hp;have A7:=hid (z9a h);generalize (x.G.map λd=>SX.txt (.gone d)).length=gn at Ah;subst Ah;have HI:=hid h;have A3:=hid Ai;have AB:=hid U;have HT:=hid Aj;have AC:=hid hn;simp only[z0L] at A7;clear h Ai U Aj hn hp;go_enter func27,ntmps27;go_wp2_with fail;refine A7.out.mono ?_;rintro e w1 ⟨rfl,Ak⟩;have Al:Below w1.heap.size w1 (w1.alloc (.cells #[.pointer (some ⟨hb,0,none⟩),.map (some bm),.int .i64 x.s.nx,.slice ga gn gc] 77)):=(Below.refl _ w1).alloc (qq _) _;have O:=qu w1 (.cells #[.pointer (some ⟨hb,0,none⟩),.map (some bm),.int .i64 x.s.nx,.slice ga gn gc] 77);have A8:=hid (z0u Ak Al);have d0:qs _ ⟨w1.heap.size,0,none⟩=some (.pointer (some ⟨hb,0,none⟩)):=z01 _ _ _ _ O 0 _ rfl;have d1:qs _ ⟨w1.heap.size,1,none⟩=some (.map (some bm)):=z01 _ _ _ _ O 1 _ rfl;have d2:qs _ ⟨w1.heap.size,2,none⟩=some (.int .i64 x.s.nx):=z01 _ _ _ _ O 2 _ rfl;have d3:qs _ ⟨w1.heap.size,3,none⟩=some (.slice ga gn gc):=z01 _ _ _ _ O 3 _ rfl;have HC:=hid (z1P (.pointer (some ⟨hb,0,none⟩)) (.slice ga gn gc) x.s.nx bm mc mf _ (A3.out.below A8.out A3.out.lt) AA);have A9:=hid O;clear Ak Al O A7;go_wp2_with fail;generalize w1.alloc (.cells #[.pointer (some ⟨hb,0,none⟩),.map (some bm),.int .i64 x.s.nx,.slice ga gn gc] 77)=w2 at*;refine HC.out.mono ?_;rintro e w3 ⟨nv,ks,rfl,Am,_,V,Ac⟩;obtain rfl:=IT.uniq Am HT.out;obtain⟨no,nc,rfl⟩:=z02 V;have Ao:(x.s.B.map (·.n)).length=x.s.B.length:=qz _;have HR:=hid (z07 V A8.out.size);have Ap:=hid Ao;have Ad:=hid (z0u A8.out Ac);have Aq:=hid ((Ac.block _ (z00 A9.out)).trans A9.out);clear Am V Ac HC d0 d1 d2 d3 A9 Ao;go_wp2_with fail;go_loopw [3,13] (λt3 ti wr=>∃i:Nat,i<=x.s.B.length/\ti= .int .i64 i/\Below w.heap.size w wr/\Below w3.heap.size w3 wr/\wr.ownsRow w3.heap.size 2 1 t3 i ((x.s.B.take i).map λb=> .int .i64 b.zto)) (λ_ ti _=>x.s.B.length-(intOf ti).toNat)
 case atStart=>exact⟨0,qh _,rfl,Ad.out,Below.refl _ _,⟨rfl,.inl ⟨rfl,rfl⟩⟩⟩
 case round=>
  obtain⟨i,hi,rfl,Y,q,A1⟩:=hrel;obtain⟨ta,tc,AD⟩:=z02 A1;subst AD;by_cases A2:i<x.s.B.length
  .obtain⟨g,AL,AM,e0,e1,e2,e3,e4,e5⟩:=z0d HR.out (by rw[Ap.out];omega);cases e0;have cc:=HR.out.cells (g:=g) rfl i (.int .i64 (x.s.B.getD i ⟨0,0,[]⟩).n) (by
    rw[qZ,qZ,qw A2,q7,qw A2];rfl)
   rw[qP,qT] at cc;have cc:=(q.cell (p:=⟨g,i,none⟩) (z00 e2)).trans cc;have Ae:x.s.B.getD i ⟨0,0,[]⟩∈x.s.B:=by rw[q7,qw A2];exact qK A2
   have Ar:=zlC x.s.B i A2;generalize x.s.B.getD i ⟨0,0,[]⟩=bb at*;obtain⟨bv,q1,q2,_⟩:=AB.out.1 bb Ae;obtain⟨ba,bc,AE⟩:=q2.sb.elim λxs AF=>z02 AF.row
   subst AE;have AO:=AC.out bb Ae;have Au:=A3.out.below Y A3.out.lt;have Av:=(q.block _ (z00 Aq.out)).trans Aq.out;have d1:qs _ ⟨w1.heap.size,1,none⟩=some (.map (some bm)):=z01 _ _ _ _ Av 1 _ rfl;have AP:=zks bb.zto (od bb.n) ba bb.S.length bc wr;have Aw:Below wr.heap.size wr (wr.alloc (.cells #[.int .i64 bb.zto] 2)):=(Below.refl _ wr).alloc (qq _) _;have Ax:=qu wr (.cells #[.int .i64 bb.zto] 2);have AG:qs _ ⟨wr.heap.size,0,none⟩=some (.int .i64 bb.zto):=z01 _ _ _ _ Ax 0 _ rfl;have AQ:0<=(i:Int)/\(i:Int)<(x.s.B.length:Int):=by omega
   have AH:=hid Au;have Af:=hid (A1.alloc (.cells #[.int .i64 bb.zto] 2));have Ag:=hid Aw;have A4:=hid Y;have J:=hid q;have AJ:=hid Ar;have AK:=hid q1;clear Au A1 Aw Y q Ar q1 q2 Ax e1 e2 e3 e4 e5 Av Ae;go_wp2_with (first
    | (at_lookup;refine z1U rfl (.tmp 19) (.tmp 20) 75 rfl 2 123 zaY zbR _ (z4Q _) bm mc mf rfl AH.out bb.n (wfI (by omega) (by omega)) rfl (zal bb.zto (od bb.n) (.slice ba bb.S.length bc)) (by rw[AK.out];rfl) ?_)
    | (at_builtin;refine z5o rfl (.tmp 17) (.tmp 23) rfl w3.heap.size (.slice ta i tc) i _ rfl Af.out wr.heap.size bb.zto rfl AG (by omega) (qi J.out.size Ag.out.size) ?_;intro ao cap w5 A6 A5;have Ay:=hid A6;have Az:=hid A5;clear A6 A5))
   go_roundw
   case rel=>
    have A5:Below w3.heap.size w3 w5:=J.out.trans ((Ag.out.mono J.out.size).trans Az.out);exact⟨i+1,by omega,by go_num,A4.out.trans ((Ag.out.mono A4.out.size).trans (Az.out.mono Ad.out.size)),A5,by rw[AJ.out];exact Ay.out⟩
   case measure=>simp[intOf];omega
  .have he:i=x.s.B.length:=by omega
   subst he;have Af:=hid A1;have A4:=hid Y;have J:=hid q;clear A1 Y q;go_wp2_with fail;go_ret2;refine⟨no,nc,ta,tc,rfl,?_,?_,A4.out⟩
   .have h9:=z04 HR.out λg _ hg=>J.out.block g (z00 hg)
    rw[Ap.out,List.map_map] at h9;exact h9
   .have h9:=z07 Af.out Ad.out.size;rw[qD] at h9;exact h9
end
section
open Go.RowKit Go.Maps
theorem z4I:∀(B:List SX.Blk) (a:Int),B≠[]->(B.map (·.zto)).foldl max a=max a (SX.top B)
 | [b],a,_=>rfl
 | b::c::B,a,_=>by
  have h:=z4I (c::B) (max a b.zto) (by simp);rw[wR,List.foldl_cons,h];show max (max a b.zto) (SX.top (c::B))=max a (max b.zto (SX.top (c::B)));omega
theorem zkE {B:List SX.Blk}(h:B≠[]):pG (B.map (·.zto))=SX.top B:=by
 unfold pG
 match B,h with
 | [b],_=>simp[SX.top]
 | b::c::B,_=>
  rw[z4I (b::c::B) _ (by simp)];have q:SX.top (b::c::B)=max b.zto (SX.top (c::B)):=rfl;rw[q];simp only[wR,List.headD_cons];omega
theorem z8D.cut {w:World}{Zh:Nat->Prop}{od:Int->Int}{f:Int->Option Value}{q:SX.Blk}{B:List SX.Blk}(h:z8D w Zh od f (q::B))(O:(q::B).Pairwise λb c=>b.n<c.n):z8D w Zh od (zhU f q.n) B:=by
 have U:=(List.pairwise_cons.1 O).1;refine⟨λb hb=>?_,λn G=>?_⟩
 .have:=U b hb;rw[z2s _ _ _ (by omega)];exact h.1 b (qp _ hb)
 .by_cases e:n=q.n
  .rw[e,z6J] at G;exact absurd rfl G
  .rw[z2s _ _ _ e] at G;obtain⟨b,hb,J⟩:=h.2 n G;rcases List.mem_cons.1 hb with rfl|hb
   .exact absurd J.symm e
   .exact⟨b,hb,J⟩
theorem z8D.kinds {w w':World}{Zh:Nat->Prop}{od:Int->Int}{f:Int->Option Value}{B:List SX.Blk}(h:z8D w Zh od f B)(k:∀(g:Nat) (c:Array Value) (e:qn),(e=93\/e=107\/(e=98/\¬Zh g))->w.heap[g]? =some (.cells c e)->w'.heap[g]? =w.heap[g]?):z8D w' Zh od f B:=by
 refine⟨λb hb=>?_,h.2⟩;obtain⟨v,q,G,J⟩:=h.1 b hb;exact⟨v,q,G.kept k,J⟩
theorem YC.zo6 {C:World->Prop}{o:Oper}{a:Act}{x:r9}{p:Option Addr}{n c:Nat}(h:o.op= .call {callee:= .builtin .len,args:=#[x],argTypes:=#[65]}) (q:a.eval x= .slice p n c):YC q6 C o (.int .i64 n) a:=λw _=> .inl (by
 unfold eS;simp only[h,pn,invoke,pQ,ye,uQ,tF,yh,wR,yX,q]
 kernel_rfl)
theorem zn1 (g n c i:Nat)(h:i<n)(w:World):(yf 65 (.slice (some ⟨g,0,none⟩) n c) (.int .i64 (i:Int))).run q6 w= .ok (.pointer (some ⟨g,i,none⟩)) w:=by
 have q:0<=(i:Int)/\(i:Int)<(n:Int):=by omega
 go_simp
theorem zi4 {w:World}{bs bw bd cnt hb bm mc:Nat}{Z Zh:Nat->Prop}{D:DK.M}{p:Int}{vg:Value}{x:SX.St}{od:Int->Int}(h:z0H w bs bw bd cnt Z D p false true hb bm mc Zh vg x od)(hF:SX.Fit x)(Bm:∀b∈x.s.B,HD.Good b.S)(Bo:∀i,HD.Good (SX.jns ((x.s.B.take i).map (·.S))))(hn:∀b∈x.s.B,b.n<100)(Cl:cnt<=80000)(Bp:DK.Fine 50000000 D)(CV:mc+1<=100000)(AL:SX.Few 40 D)(hM:x.s.B≠[]->zhV x (SX.z0N x) (z1C od x.s.nx (x.s.B.getD (x.s.B.length-1) ⟨0,0,[]⟩).n)):
  Calls q6 33 #[.pointer (some ⟨bs,0,none⟩)] w λen w'=>(x.s.B=[]/\en= .returned (.iface 56 (.int .i64 7))/\Below w.heap.size w w')\/(x.s.B≠[]/\z2e w bs bw bd cnt Z D p hb bm mc Zh vg x od (SX.z0N x) (z1C od x.s.nx (x.s.B.getD (x.s.B.length-1) ⟨0,0,[]⟩).n) en w'):=by
 obtain⟨ga,gc,Bq⟩:=z02 h.now.gn;generalize (x.G.map λd=>SX.txt (.gone d)).length=gn at Bq;subst Bq;have Am:x.s.B.Pairwise λb c=>b.n<c.n:=hF.inv.asc.imp λk=>k.1
 have AJ:∀b∈x.s.B,0<=b.n/\b.n<1000000:=λb hb=>⟨hF.num b hb,by have:=hn b hb;omega⟩
 have Br:=hid (z1e h);have A8:=hid (z8d h Am hF.thirty AJ (by omega));have HI:=hid h;have HF:=hid hF;have HM:=hid hM;have Cm:=hid Bp;have Cn:=hid AL;have Bt:=hid Am;have Co:=hid Bm;have Cp:=hid Bo;have Cq:=hid hn;have Bu:=hid AJ;have CW:=hF.thirty;clear h hF hM Bp AL Am Bm Bo hn AJ;go_enter func33,ntmps33;go_wp2_with fail;refine Br.out.mono ?_;rintro e w0 ⟨rfl,B5⟩;have B5:=B5.symm;subst B5;clear Br;go_wp2_with fail;refine A8.out.mono ?_;rintro e w1 ⟨na,nc,ta,tc,rfl,Bv,Bw,By⟩;have Bz:=hid (z07 Bv (qh _));have BA:=hid (z07 Bw (qh _));have Ao:=hid By;clear Bv Bw By A8;by_cases Ah:x.s.B=[]
 .have BB:x.s.B.length=0:=by rw[Ah];rfl
  have HE:=hid Ah;rw[BB];clear Ah BB;go_wp2_with fail;go_ret;exact .inl ⟨HE.out,rfl,Ao.out⟩
 .have B6:0<x.s.B.length:=List.length_pos_iff.2 Ah;have HE:=hid Ah;have Ai:=HI.out.below Ao.out;have HA:=hid (z6E hb bm mc Zh (.slice ga gn gc) x od w1 Ai.now HF.out);have m3:w1.cell? ⟨bs,3,none⟩=some (.pointer (some ⟨hb,0,none⟩)):=z01 _ _ _ _ Ai.box 3 _ rfl;have m4:w1.cell? ⟨bs,4,none⟩=some (.map (some bm)):=z01 _ _ _ _ Ai.box 4 _ rfl;have m5:w1.cell? ⟨bs,5,none⟩=some (.int .i64 x.s.nx):=z01 _ _ _ _ Ai.box 5 _ rfl;have m6:w1.cell? ⟨bs,6,none⟩=some (.slice ga gn gc):=z01 _ _ _ _ Ai.box 6 _ rfl;have CK:(0:Int)<(x.s.B.length:Int):=by omega
  have CX:((x.s.B.length:Int)==0)=false:=by simp;omega
  clear Ai Ah;go_wp2_with fail;refine HA.out.mono ?_;rintro e w2 ⟨A9,q,Aj,rfl,BC,Af,CM,BD⟩;have Ba:Below w2.heap.size w2 (w2.alloc (.cells (z0L A9 q (.slice ga gn gc) x) 77)):=(Below.refl _ w2).alloc (qq _) _;have AM:=qu w2 (.cells (z0L A9 q (.slice ga gn gc) x) 77);have Ap:=hid (BC.below Ba);have Ag:=Af.trans (Ba.mono Af.size);have AK:=hid (Ao.out.trans (Ag.mono Ao.out.size));have Aq:=hid (z04 Bz.out λg _ O=>Ag.block g (z00 O));have Ar:=hid (z04 BA.out λg _ O=>Ag.block g (z00 O));have Bb:=hid AM;have BF:=hid BD;have CY:=Ao.out.size;have CZ:=Af.size;clear Ba AM BC Af Ag BD HA m3 m4 m5 m6 Bz BA;simp only[z0L] at*;go_wp2_with fail;generalize w2.alloc (.cells #[.pointer (some ⟨A9,0,none⟩),.map (some q),.int .i64 x.s.nx,.slice ga gn gc] 77)=w3 at*;obtain⟨U,CN,CO,Cr,_,BG,_⟩:=z0d Aq.out B6;cases Cr;obtain⟨Ac,CP,CQ,Cs,_,BH,_⟩:=z0d Ar.out B6;cases Cs;have Bc:∀j,j<x.s.B.length->w3.cell? ⟨U,j,none⟩=some (.int .i64 (x.s.B.getD j ⟨0,0,[]⟩).n):=λj hj=>by
   have cc:=Aq.out.cells (g:=U) rfl j (.int .i64 (x.s.B.getD j ⟨0,0,[]⟩).n) (by
    rw[qZ,qw hj,q7,qw hj];rfl)
   rw[qP,qT] at cc;exact cc
  have BI:∀j,j<(x.s.B.map (·.zto)).length->w3.cell? ⟨Ac,0+j,none⟩=some (.int .i64 ((x.s.B.map (·.zto)).getD j 0)):=λj hj=>by
   have BJ:j<x.s.B.length:=by simpa using hj
   have cc:=Ar.out.cells (g:=Ac) rfl j (.int .i64 ((x.s.B.map (·.zto)).getD j 0)) (by
    rw[qZ,qw BJ,q7,qZ,qw BJ];rfl)
   rw[qP,qT] at cc;rw[qT];exact cc
  have Au:=z00 BG;have BM:=z00 BH;have BN:IntKind.i64.wrap ((x.s.B.length:Int)-1)=((x.s.B.length-1:Nat):Int):=by rw[IntKind.wrap_i64];omega
  have Av:=Bc (x.s.B.length-1) (by omega);generalize BO:x.s.B.getD (x.s.B.length-1) ⟨0,0,[]⟩=bl at*;have BP:Hid (∀W,Below w3.heap.size w3 W->Calls q6 78 #[.slice (some ⟨Ac,0,none⟩) x.s.B.length tc] W λe w'=>e= .returned (.int .i64 (SX.top x.s.B))/\w'=W):=hid λW hW=>by
   have h9:=Tryz.slices_Max_int Ac 0 x.s.B.length tc (x.s.B.map (·.zto)) W B6 (by simp) (by omega) (λj hj=>(hW.cell (p:=⟨Ac,0+j,none⟩) BM).trans (BI j hj));rw[show(x.s.B.map (·.zto)).take x.s.B.length=x.s.B.map (·.zto) from qL (by simp),zkE HE.out] at h9;exact h9
  have Be:=hid Bc;have BQ:=hid Av;have BR:=hid BO;have BS:=hid BN;clear BI BG BH Ar Aq Bc Av BO BN;refine z0l (λW=>Below w3.heap.size w3 W) [0,1,2,3,4,5,6,7,8] [9,10] (by kernel_rfl) (by kernel_rfl) ?_;simp only[qM,wh,qJ,qF,qA];refine zr0.on (v:= .slice (some ⟨Ac,0,none⟩) x.s.B.length tc) (YC.move rfl (by kernel_rfl)) ?_;refine zr0.on (v:= .int .i64 (SX.top x.s.B)) (YC.call (f:=78) (vs:=#[.slice (some ⟨Ac,0,none⟩) x.s.B.length tc]) (λW=>by kernel_rfl) (λW hW=>BP.out W hW)) ?_;refine zr0.on (v:= .slice (some ⟨U,0,none⟩) x.s.B.length nc) (YC.move rfl (by kernel_rfl)) ?_;refine zr0.on (v:= .slice (some ⟨U,0,none⟩) x.s.B.length nc) (YC.move rfl (by kernel_rfl)) ?_;refine zr0.on (v:= .int .i64 (x.s.B.length:Int)) (YC.zo6 (p:=some ⟨U,0,none⟩) (c:=nc) rfl (by kernel_rfl)) ?_;refine zr0.on (v:= .int .i64 ((x.s.B.length-1:Nat):Int)) (λW _=> .inl (by rw[<-BS.out];kernel_rfl)) ?_;refine zr0.on (v:= .pointer (some ⟨U,x.s.B.length-1,none⟩)) (YC.index rfl (by kernel_rfl) (by kernel_rfl) λW=>zn1 U x.s.B.length nc (x.s.B.length-1) (by omega) W) ?_;refine zr0.on (v:= .int .i64 bl.n) (YC.load rfl (by kernel_rfl) λW hW=>zaI U (x.s.B.length-1) bl.n W ((hW.cell (p:=⟨U,_,none⟩) Au).trans BQ.out)) ?_;refine zr0.on (v:= .agg #[.int .i64 (SX.top x.s.B),.int .i64 bl.n,.slice none 0 0]) (λW _=> .inl (by kernel_rfl)) ?_;refine zr0.off (C:=λW=>Below w3.heap.size w3 W) ((Below.refl _ w3).drew) ?_;go_frame;go_wp2_with fail;refine z0F.on (C:=λW=>Below w3.heap.size w3 W) (by exact((Below.refl _ w3).drew).alloc (qq _) _) ?_;go_wp2_with fail;have Aw:Below w3.heap.size w3 ((w3.alloc (.cells #[.int .i64 (SX.top x.s.B),.int .i64 bl.n,.slice none 0 0] 123)).drew):=(((Below.refl _ w3).alloc (qq _) _).drew);have BU:((w3.alloc (.cells #[.int .i64 (SX.top x.s.B),.int .i64 bl.n,.slice none 0 0] 123)).drew).heap[w3.heap.size]? =some (.cells #[.int .i64 (SX.top x.s.B),.int .i64 bl.n,.slice none 0 0] 123):=qu w3 _
  refine z0F.done (C:=λW=>Below w3.heap.size w3 W) Aw ?_;generalize (w3.alloc (.cells #[.int .i64 (SX.top x.s.B),.int .i64 bl.n,.slice none 0 0] 123)).drew=w4 at*;have A3:=hid Aw;have Ct:=hid BU;obtain⟨mf,Ak,Ax⟩:=Ap.out.mp;have Cu:=hid (Ak.below Aw Ak.lt);have BV:Hid (z8D w4 Aj od mf (x.s.B.drop 0)):=hid (by rw[List.drop_zero];exact Ax.kinds λg c e _ O=>Aw.block g (z00 O));have CS:q<w3.heap.size:=Ak.lt;have AO:=z00 Bb.out;have Cv:w2.heap.size≠q:=λe=>by
   obtain⟨es,ck,hm⟩:=Ak.isMap;rw[<-e,Bb.out] at hm;cases hm
  have BW:=hid Ak.isMap;clear Aw BU Ak Ax BQ BP BS;go_wp2_with fail;go_loopw [8,37] (λ_ ti W=>∃(i:Nat) (f:Int->Option Value) (sv:Value),i<=x.s.B.length/\ti= .int .i64 i/\XFr (λj=>j=q\/j=w3.heap.size) w4 W/\W.heap[w3.heap.size]? =some (.cells #[.int .i64 (SX.top x.s.B),.int .i64 bl.n,sv] 123)/\z0a W w4.heap.size sv (SX.jns ((x.s.B.take i).map (·.S)))/\z1x q6 2 W q mc f/\z8D W Aj od f (x.s.B.drop i)) (λ_ ti _=>x.s.B.length-(intOf ti).toNat)
  case atStart=>exact⟨0,mf,.slice none 0 0,qh _,rfl,XFr.refl _ _,Ct.out,z0a.nil _ _,Cu.out,BV.out⟩
  case round=>
   obtain⟨i,f,sv,hi,rfl,hx,A4,Al,Ay,A5⟩:=hrel;obtain⟨sa,sc,Cw⟩:=Al.shape;subst Cw;have A1:=(hx.block w2.heap.size (qe AO A3.out.size) (by rintro(e | e)<;>omega)).trans ((A3.out.block _ AO).trans Bb.out);by_cases A6:i<x.s.B.length
   .have cc:=(qj (a:=⟨U,i,none⟩) (hx.block U (qe Au A3.out.size) (by
     rintro(e|e)
     .obtain⟨es,ck,hm⟩:=BW.out;have h1:=Be.out i A6;rw[e] at h1;simp[qs,hm] at h1
     .omega))).trans ((A3.out.cell (p:=⟨U,i,none⟩) Au).trans (Be.out i A6))
    have hdr:x.s.B.drop i=x.s.B.getD i ⟨0,0,[]⟩::x.s.B.drop (i+1):=by
     rw[List.drop_eq_getElem_cons A6,q7,qw A6];rfl
    have BX:SX.jns ((x.s.B.take (i+1)).map (·.S))=HD.jn (SX.jns ((x.s.B.take i).map (·.S))) (x.s.B.getD i ⟨0,0,[]⟩).S:=by
     rw[wJ,qw A6,wK,q7,qw A6];exact zca _ _
    have Bf:x.s.B.getD i ⟨0,0,[]⟩∈x.s.B:=by rw[q7,qw A6];exact qK A6
    have Bg:(x.s.B.drop i).Pairwise λb c=>b.n<c.n:=Bt.out.sublist (List.drop_sublist _ _)
    have BZ:=Cp.out i;rw[hdr] at A5 Bg;generalize x.s.B.getD i ⟨0,0,[]⟩=bb at*;generalize C0:x.s.B.drop (i+1)=Bd at*;have Cx:=hid C0;clear C0;generalize SX.jns ((x.s.B.take i).map (·.S))=J at*;obtain⟨bv,q1,q2,_⟩:=A5.1 bb qd;obtain⟨E0,E1,e1,r1,r2,r3,r4⟩:=z5i.z08 Al;cases e1;obtain⟨ba,bc,e2,s1,s2,s3,s4⟩:=z5i.z08 q2.own;subst e2;have AJ:=Bu.out bb Bf;have C2:=hid (zbr sa ba J bb.S sc bc wr r1 s1 BZ (Co.out bb Bf) r2 s2 r3 s3 r4 s4);have n2:wr.cell? ⟨w3.heap.size,2,none⟩=some (.slice sa J.length sc):=z01 _ _ _ _ A4 2 _ rfl;have d1:wr.cell? ⟨w2.heap.size,1,none⟩=some (.map (some q)):=z01 _ _ _ _ A1 1 _ rfl;have E2:=zke bb.zto (od bb.n) ba bb.S.length bc wr;have E3:0<=(i:Int)/\(i:Int)<(x.s.B.length:Int):=by omega
    have HX:=hid hx;have C3:=hid A4;have Bh:=hid Ay;have Cy:=hid A5;have HSt:=hid A1;have Cz:=hid BX;have CB:=hid q1;have CC:=hid Bg;clear hx A4 Al Ay A5 A1 hdr BX Bf Bg BZ q1 q2 r1 r2 r3 r4 s1 s2 s3 s4;go_wp2_with (at_lookup;refine z1U rfl (.tmp 44) (.tmp 45) 75 rfl 2 123 zaY zbR _ (z4Q _) q mc f rfl Bh.out bb.n (wfI (by omega) (by omega)) rfl (zal bb.zto (od bb.n) (.slice ba bb.S.length bc)) (by rw[CB.out];rfl) ?_)
    refine C2.out.mono ?_;rintro e w6 ⟨v6,rfl,Az,V⟩;obtain⟨va,vc,CE⟩:=Az.shape;subst CE;generalize E4:HD.jn J bb.S=J6 at*;have A2:=(V.block _ (z00 C3.out)).trans C3.out;have n2:w6.cell? ⟨w3.heap.size,2,none⟩=some (.slice sa J.length sc):=z01 _ _ _ _ A2 2 _ rfl;have f2:=hfz A2 2;have AP:=(V.block _ (z00 HSt.out)).trans HSt.out;have AQ:=(Below.heap_setCell w6 ⟨w3.heap.size,2,none⟩ (.slice va J6.length vc) w2.heap.size (λe=>by simp only at e;omega)).trans AP;have d1:qs _ ⟨w2.heap.size,1,none⟩=some (.map (some q)):=z01 _ _ _ _ AQ 1 _ rfl;have AR:=qo w6 w3.heap.size 2 _ _ (.slice va J6.length vc) A2;have Bi:z1x q6 2 (w6.setCell ⟨w3.heap.size,2,none⟩ (.slice va J6.length vc)) q mc f:=(Bh.out.block (V.block q Bh.out.lt)).block (Below.heap_setCell w6 ⟨w3.heap.size,2,none⟩ _ q (λe=>by simp only at e;omega));obtain⟨w8,AU,C4,A7,_⟩:=Bi.drop zaY zbR (wfI (n:=bb.n) (by omega) (by omega)) 0;have CU:∀ty,(Builtin.delete_ #[75,2] ty #[.map (some q),.int .i64 bb.n]).run q6 (w6.setCell ⟨w3.heap.size,2,none⟩ (.slice va J6.length vc))= .ok (.tuple #[]) w8:=λty=>AU
    have Ad:∀(g:Nat) (c:Array Value) (e:qn),e≠123->w6.heap[g]? =some (.cells c e)->w8.heap[g]? =w6.heap[g]? :=λg c e he O=>by
     have Bj:g≠w3.heap.size:=λe2=>by rw[e2,A2] at O;cases O;exact he rfl
     have h1:=Below.heap_setCell w6 ⟨w3.heap.size,2,none⟩ (.slice va J6.length vc) g Bj;refine(A7.block g (by rw[z0g];exact z00 O) (λe2=>?_)).trans h1;obtain⟨es,ck,hm⟩:=Bi.isMap;have e3:g=q:=qt e2;rw[e3] at h1 O;rw[h1,O] at hm;cases hm
    have C5:XFr (λj=>j=q\/j=w3.heap.size) w4 w8:=HX.out.trans (X':=λj=>j=q\/j=w3.heap.size) ⟨A7.os.trans V.os,A7.tape.trans V.tape,A7.output.trans V.output,qi V.size (by have:=A7.size;rw[z0g] at this;exact this),λj hj hn=>by
     have Bj:j≠w3.heap.size:=λe=>hn (.inr e)
     rw[A7.block j (by rw[z0g];exact qe hj V.size) (λe=>hn (.inl (qt e))),Below.heap_setCell w6 ⟨w3.heap.size,2,none⟩ _ j Bj];exact V.block j hj⟩ (λj hj=> .inl hj)
    have AV:=(A7.block w3.heap.size (by rw[z0g];exact z00 A2) (λe=>by have e2:w3.heap.size=q:=qt e;omega)).trans AR;have AA:=HX.out.size;have AW:z0a w8 w4.heap.size (.slice va J6.length vc) J6:=(Az.low AA).kept λg c e he O=>Ad g c e (by rcases he with rfl | rfl | rfl<;>decide) O
    have AX:z8D w8 Aj od (zhU f bb.n) Bd:=((Cy.out.cut CC.out).kinds λg c e _ O=>V.block g (z00 O)).kinds λg c e he O=>Ad g c e (by rcases he with rfl | rfl | ⟨rfl,_⟩<;>decide) O
    have CF:=hid C5;have CG:=hid AV;have CH:=hid AW;have CI:=hid C4;have C6:=hid AX;clear Az V A2 AP AQ AR Bi AU C4 A7 Ad C5 AV AA AW AX C2;go_wp2_with fail;go_roundw
    case rel=>exact⟨i+1,_,_,by omega,by go_num,CF.out,CG.out,by rw[Cz.out];exact CH.out,CI.out,by rw[Cx.out];exact C6.out⟩
    case measure=>simp[intOf];omega
   .have he:i=x.s.B.length:=by omega
    subst he;have C8:x.s.B.drop x.s.B.length=[]:=List.drop_length;rw[C8] at A5;rw[qD] at Al A4;have C9:SX.jns (x.s.B.map (·.S))=SX.jns (x.s.B.map (·.S)):=rfl;generalize hJ:SX.jns (x.s.B.map (·.S))=J at*;have E5:=HF.out.nx;have AB:∀(g:Nat) (c:Array Value) (e:qn),e≠123->w3.heap[g]? =some (.cells c e)->wr.heap[g]? =w3.heap[g]? :=λg c e he O=>by
     have Ca:=z00 O;refine(hx.block g (qe Ca A3.out.size) ?_).trans (A3.out.block g Ca);rintro(e2|e2)
     .obtain⟨es,ck,hm⟩:=BW.out;rw[e2,hm] at O;cases O
     .omega
    have Cb:z1v wr A9 q mc Aj (.slice ga gn gc) ⟨{x.s with B:=[]},x.G⟩ od:=⟨Ap.out.hd.kept λg c e he O=>AB g c e (by rcases he with rfl | rfl | rfl | rfl<;>decide) O,⟨f,Ay,A5⟩,z04 Ap.out.gn λg c O=>AB g c _ (by decide) O⟩;have Cc:SrT wr Aj (.slice sa J.length sc) J:=SrT.z08 Al (λj hj=>by
     have h1:=Ap.out.hd.lt j hj;have h2:=A3.out.size;omega)
    have AC:bl∈x.s.B:=by rw[<-BR.out,q7,qw (by omega)];exact qK (by omega)
    have Cd:=hid (zcu w2.heap.size A9 q mc x.s.nx (SX.top x.s.B) bl.n ga gn gc sa J.length sc f wr A1 Ay (by omega) (by omega));have Ce:Below w.heap.size w wr:=AK.out.trans ((A3.out.mono AK.out.size).trans ⟨hx.os,hx.tape,hx.output,hx.size,λj hj=>hx.block j (qe (qe hj AK.out.size) A3.out.size) (by
     have:=AK.out.size;rintro(e|e)<;>omega)⟩)
    have e0:wr.cell? ⟨w3.heap.size,0,none⟩=some (.int .i64 (SX.top x.s.B)):=z01 _ _ _ _ A4 0 _ rfl;have e1:wr.cell? ⟨w3.heap.size,1,none⟩=some (.int .i64 bl.n):=z01 _ _ _ _ A4 1 _ rfl;have e2:wr.cell? ⟨w3.heap.size,2,none⟩=some (.slice sa J.length sc):=z01 _ _ _ _ A4 2 _ rfl;have Cf:=hid Cb;have Cg:=hid Cc;have AY:=hid A1;have AZ:=hid A5;have Ch:=hid Ce;have B0:=hid (qv (Bu.out bl AC).1 (Cq.out bl AC));have HJ:=hid hJ;clear C8 A5 Al C9 hJ AB Cb Cc AC A1 Ce hx A4 Ay Ap Be;go_wp2_with fail;refine Cd.out.mono ?_;rintro e w5 ⟨rfl,Ci,AD,Y⟩;have Bl:=Cf.out.put (λb hb=>by cases hb) AY.out AZ.out Cg.out (tp:=SX.top x.s.B) (old:=bl.n) ⟨by have:=B0.out.1;omega,B0.out.2⟩ Ci Y;have m3:w5.cell? ⟨w2.heap.size,3,none⟩=some (.slice ga gn gc):=z01 _ _ _ _ AD 3 _ rfl;have f3:=hfz AD 3;have AE:=qo w5 w2.heap.size 3 _ _ (.slice none 0 0) AD;have d0:qs _ ⟨w2.heap.size,0,none⟩=some (.pointer (some ⟨A9,0,none⟩)):=z01 _ _ _ _ AE 0 _ rfl;have d1:qs _ ⟨w2.heap.size,1,none⟩=some (.map (some q)):=z01 _ _ _ _ AE 1 _ rfl;have d2:qs _ ⟨w2.heap.size,2,none⟩=some (.int .i64 (x.s.nx+1)):=z01 _ _ _ _ AE 2 _ rfl;have d3:qs _ ⟨w2.heap.size,3,none⟩=some (.slice none 0 0):=z01 _ _ _ _ AE 3 _ rfl;have Ae:∀(g:Nat) (c:Array Value) (e:qn),e≠77->w5.heap[g]? =some (.cells c e)->(w5.setCell ⟨w2.heap.size,3,none⟩ (.slice none 0 0)).heap[g]? =w5.heap[g]? :=λg c e he O=>Below.heap_setCell w5 ⟨w2.heap.size,3,none⟩ _ g (λe2=>by
     simp only at e2;rw[e2,AD] at O;cases O;exact he rfl)
    have Cj:z1v (w5.setCell ⟨w2.heap.size,3,none⟩ (.slice none 0 0)) A9 q (mc+1) Aj (.slice none 0 0) (SX.z0N x) (z1C od x.s.nx bl.n):=by
     obtain⟨f5,y1,y2⟩:=Bl.mp;refine⟨Bl.hd.kept λg c e he O=>Ae g c e (by rcases he with rfl | rfl | rfl | rfl<;>decide) O,⟨f5,y1.block (Below.heap_setCell w5 ⟨w2.heap.size,3,none⟩ _ q (λe2=>by
      simp only at e2;omega)),?_⟩,⟨rfl,.inl ⟨rfl,rfl⟩⟩⟩
     have hB:(SX.z0N x).s.B=[]++[⟨x.s.nx,SX.top x.s.B,J⟩]:=by
      show [(⟨x.s.nx,SX.top x.s.B,SX.jns (x.s.B.map (·.S))⟩:SX.Blk)]=_;rw[HJ.out];rfl
     rw[hB];exact y2.kinds λg c e he O=>Ae g c e (by rcases he with rfl | rfl | ⟨rfl,_⟩<;>decide) O
    have AF:Below w.heap.size w (w5.setCell ⟨w2.heap.size,3,none⟩ (.slice none 0 0)):=by
     have h2:w.heap.size<=w2.heap.size:=by omega
     refine Below.setCell (Ch.out.trans ⟨Y.os,Y.tape,Y.output,Y.size,λj hj=>Y.block j (qe hj Ch.out.size) (by rintro(e | e)<;>omega)⟩) (p:=⟨w2.heap.size,3,none⟩) h2 _
    have A8:=hid (z2q (HI.out.below AF) Cj (λe=>by have:=HI.out.wt.lt _ e;omega) (λe=>by have h8:=BF.out _ e;have h9:=HI.out.gl;omega) (λe=>by cases e) Cl Cm.out (by omega) (by omega) (HM.out HE.out) Cn.out);simp only[z0L] at A8;have B3:(SX.z0N x).s.nx=x.s.nx+1:=rfl;rw[B3] at A8;have Ck:=hid AF;clear Ci AD Y Bl AE Ae Cj AF B3 Cd Cf Cg AY AZ e0 e1 e2;go_wp2_with fail;refine A8.out.mono ?_;intro e w7 AG;have AH:=z2e.of (mc:=mc) (vg:= .slice ga gn gc) Ck.out (by omega) (λj hj=>by have:=BF.out j hj;omega) (by omega) (λj hj=>by cases hj) AG;obtain⟨o,_,_,_,_,rfl,_⟩:=id AG;have CJ:=hid AH;clear AG AH A8;generalize er o.1=ev at*;go_wp2_with fail;go_ret;refine .inr ⟨HE.out,?_⟩;rw[BR.out];exact CJ.out
end
section
namespace SX
structure Lv (a k:Nat) (D:DK.M) (x:St):Prop where
 on:On (200+k) D x
 clean:Clean D x
 only:z2b D
 cor:Cor a k x
def zme (D:DK.M):Prop:=∀n,D n≠none->n=kpt\/n=frs\/isB n=true
structure Bk (a k:Nat) (D:DK.M) (x:St):Prop where
 back:zey (200+k) D x
 fine:DK.Fine 100000000 D
 few:Few 190 D
 only:zme D
 cor:Cor a k x
theorem z1H:∀l:List ByteArray,(∀s∈l,s.size<65536)->(WL.joined l).size<=65538*l.length
 | [],_=>qh _
 | s::l,h=>by
  have G:=z1H l λt q=>h t (qp _ q)
  have J:=h s qd;show(WL.enc s++WL.joined l).size<=_;rw[qC,qf];have O:(WL.enc s).size=2+s.size:=by unfold WL.enc;rw[qC];rfl
  omega
theorem zeR {c:Nat}{D:DK.M}{x:St}(h:On c D x):Lie D x:=by
 obtain⟨ns,_,h2,_⟩:=h;exact h2.lie (zgu D)
theorem Lv.fine {a k:Nat}{D:DK.M}{x:St}(h:Lv a k D x)(hk:k<=60):DK.Fine 20000000 D:=by
 intro n f G;rcases h.only n (by rw[G];simp) with e|e
 .obtain⟨ns,h1,_,O,h4⟩:=h.on;subst e;rcases h1.kep with⟨q,_⟩|q
  .rw[G] at q;cases q
  .rw[G] at q;cases q;have V:=z1H _ O;rw[qz] at V;exact⟨DK.z2x.1 h1.nk,by show(WL.joined (ns.map txt)).size<=_;omega,qq _,λe=>by cases e⟩
 .obtain⟨b,hb,rfl⟩:=h.clean n e (by rw[G];simp);obtain⟨J,⟨old,q,_,_,_,_,Y⟩,_⟩:=zeR h.on b hb;have U:D (nm b.n.toNat)=some (fl b.zto old J):=q;have A1:(sb (BK.bytes b.zto old J)).size<=1000000:=Y;rw[G] at U;cases U;have h1:=h.cor.fit.num b hb;have h2:=h.cor.fit.inv.num b hb;have O:=h.cor.fit.nx;exact⟨DK.z2x.1 (zd7 (by omega)),by show(sb (BK.bytes b.zto old J)).size<=_;omega,qq _,λe=>by cases e⟩
theorem Lv.few {a k:Nat}{D:DK.M}{x:St}(h:Lv a k D x):Few 31 D:=by
 refine⟨kpt::x.s.B.map λb=>nm b.n.toNat,by rw[qf,qz];have:=h.cor.fit.thirty;omega,λn q=>?_⟩;rcases h.only n q with e|e
 .rw[e];exact qd
 .obtain⟨b,hb,rfl⟩:=h.clean n e q;exact qp _ (qx.2 ⟨b,hb,rfl⟩)
theorem Lv.mono {a k q G:Nat}{D:DK.M}{x:St}(h:Lv a k D x)(J:a<=q)(O:k<=G):Lv q G D x:=⟨h.on.mono (by omega),h.clean,h.only,h.cor.mono J O⟩
/-! ## what acts make of files: which there are, how great, how many -/
structure Siz (N K:Nat) (D:DK.M):Prop where
 fine:DK.Fine N D
 few:Few K D
 only:zme D
theorem Siz.mono {N K N' q:Nat}{D:DK.M}(h:Siz N K D)(G:N<=N')(J:K<=q):Siz N' q D:=⟨h.fine.mono G,h.few.mono J,h.only⟩
theorem Siz.act {N K:Nat}{D:DK.M}(h:Siz N K D)(a:Nat)(n s:ByteArray)(p:Int)(O:n=kpt\/n=frs\/isB n=true)(U:a=2->s=kpt):Siz (N+s.size) (K+2) (WL.act a n s D p).2.1:=by
 refine⟨DK.z4x h.fine,h.few.act a n s p,λm V=>?_⟩;by_cases G:m=n
 .rw[G];exact O
 have q:DK.z6V a D p n s m≠none:=V;unfold DK.z6V at q;split at q
 .unfold DK.next at q
  split at q
  .rw[DK.z0b _ _ _ _ G] at q;exact h.only m q
  .rw[DK.z0b _ _ _ _ G] at q;exact h.only m q
  .by_cases J:m=s
   .rw[J,U rfl];exact .inl rfl
   .rw[DK.z0b _ _ _ _ J,DK.z0A _ _ _ G] at q;exact h.only m q
  .rw[DK.z0A _ _ _ G] at q;exact h.only m q
 .exact h.only m q
theorem Siz.seq {N K N' q:Nat}{r:WL.Out}{f:DK.M->Int->WL.Out}(h:Siz N K r.2.1)(G:N<=N')(J:K<=q)(O:∀D p,Siz N K D->Siz N' q (f D p).2.1):Siz N' q (WL.seq r f).2.1:=by
 unfold WL.seq;split
 .exact O _ _ h
 .exact h.mono G J
theorem Siz.act0 {N K:Nat}{D:DK.M}(h:Siz N K D)(a:Nat)(n:ByteArray)(p:Int)(q:n=kpt\/n=frs\/isB n=true)(G:a≠2):Siz N (K+2) (WL.act a n qy D p).2.1:=
 (h.act a n qy p q λe=>absurd e G).mono (by rw[DK.z8e];omega) (qq _)
theorem Siz.z1V {N K:Nat}{D:DK.M}(h:Siz N K D)(s:ByteArray)(p:Int):Siz (N+(2+s.size)) (K+4) (WL.z1V kpt s D p).2.1:=by
 have e:(WL.enc s).size=2+s.size:=by unfold WL.enc;rw[qC];rfl
 unfold WL.z1V;refine Siz.seq (N:=N+(2+s.size)) (K:=K+2) (by rw[<-e];exact h.act 0 kpt _ p (.inl rfl) (by omega)) (qq _) (by omega) λD p q=>?_
 exact q.act0 1 kpt p (.inl rfl) (by omega)
theorem Siz.repl {N K : Nat} {D : DK.M} (h : Siz N K D) (t : ByteArray) (p : Int) : Siz (N + t.size + 8) (K + 8) (WL.repl kpt frs t D p).2.1 := by
  unfold WL.repl
  refine Siz.seq (N := N) (K := K + 2) (h.act0 3 frs p (.inr (.inl rfl)) (by omega)) (by omega) (by omega) fun D1 p1 h1 => ?_
  refine Siz.seq (N := N + t.size) (K := K + 4) (h1.act 0 frs t p1 (.inr (.inl rfl)) (by omega)) (by omega) (by omega) fun D2 p2 h2 => ?_
  refine Siz.seq (N := N + t.size) (K := K + 6) (h2.act0 1 frs p2 (.inr (.inl rfl)) (by omega)) (by omega) (by omega) fun D3 p3 h3 => ?_
  exact (h3.act 2 frs kpt p3 (.inr (.inl rfl)) fun _ => rfl).mono (by show N + t.size + kpt.size ≤ _; have : kpt.size ≤ 8 := by decide
                                                                      omega) (by omega)
theorem Siz.z4m {N K:Nat}{D:DK.M}(h:Siz N K D){n:ByteArray}(s:ByteArray)(p:Int)(q:isB n=true):Siz (N+s.size) (K+4) (SX.z4m n s D p).2.1:=by
 unfold SX.z4m;refine Siz.seq (N:=N+s.size) (K:=K+2) (h.act 0 n s p (.inr (.inr q)) (by omega)) (qq _) (by omega) λD p G=>?_
 exact G.act0 1 n p (.inr (.inr q)) (by omega)
theorem Siz.zbF {N K:Nat}{D D':DK.M}{x:St}(h:Siz N K D)(k:z2D x D D'):Siz N K D':=by
 refine⟨λn f G=>?_,?_,λn q=>?_⟩
 .rcases k n with e|⟨e,_⟩
  .exact h.fine n f (by rw[<-e];exact G)
  .rw[G] at e;cases e
 .obtain⟨L,J,O⟩:=h.few;refine⟨L,J,λn q=>?_⟩;rcases k n with e|⟨e,_⟩
  .exact O n (by rw[<-e];exact q)
  .exact absurd e q
 .rcases k n with e|⟨e,_⟩
  .exact h.only n (by rw[<-e];exact q)
  .exact absurd e q
theorem Siz.start {N K:Nat}{D:DK.M}(h:Siz N K D)(c:Int):Siz N K (DK.start D c):=by
 have q:∀n,DK.start D c n≠none->D n≠none:=λn q e=>q (DK.z2u e)
 refine⟨h.fine.start c,?_,λn G=>h.only n (q n G)⟩;obtain⟨L,J,O⟩:=h.few;exact⟨L,J,λn G=>O n (q n G)⟩
theorem Lv.siz {a k:Nat}{D:DK.M}{x:St}(h:Lv a k D x)(q:k<=60):Siz 20000000 31 D:=⟨h.fine q,h.few,λn G=>by
 rcases h.only n G with e|e
 .exact .inl e
 .exact .inr (.inr e)⟩
theorem zam {x:St}(T:List ByteArray){D:DK.M}{p:Int}(G:T.Nodup)(J:∀n∈T,D n≠none)(O: -1<=p):z2D x D (z2f (z1W x) T D p).2.1:=by
 rcases z3p (x:=x) T G J O with⟨D',p',h,q,_⟩|⟨_,D',h,q⟩
 .rw[h];exact q
 .rw[h];exact q
theorem z7g {r:WL.Out}{f:DK.M->Int->WL.Out}(h: -1<=r.2.2)(q:∀D p, -1<=p-> -1<=(f D p).2.2): -1<=(WL.seq r f).2.2:=by
 unfold WL.seq;split
 .exact q _ _ h
 .exact h
theorem z5q (a:Nat)(n s:ByteArray)(D:DK.M){p:Int}(h: -1<=p): -1<=(WL.act a n s D p).2.2:=by
 show-1<=DK.z99 a D p n s;unfold DK.z99 DK.dec;split<;>(try split)<;>omega
theorem zih (t:ByteArray)(D:DK.M){p:Int}(h: -1<=p): -1<=(WL.repl kpt frs t D p).2.2:=by
 unfold WL.repl;refine z7g (z5q 3 _ _ _ h) λD p h=>?_
 refine z7g (z5q 0 _ _ _ h) λD p h=>?_
 refine z7g (z5q 1 _ _ _ h) λD p h=>?_
 exact z5q 2 _ _ _ h
theorem zf2 {a k:Nat}{y:St}{q:List (ByteArray×ByteArray)}{D:DK.M}{p:Int}{o:WL.Out}(h:Siz 20000000 31 D)(J: -1<=p)(hy:Cor a k y)(Y:a<=50)(hk:k<=60)(G:q=[]\/∃n s,q=[(nm n,s)]/\s.size<=1000000)(O:z1z y q D p o):Siz 100000000 190 o.2.1:=by
 have h1:Siz 21000000 35 (z0Y q D p).2.1/\ -1<=(z0Y q D p).2.2:=by
  rcases G with rfl|⟨n,s,rfl,U⟩
  .exact⟨h.mono (by omega) (by omega),J⟩
  .refine⟨Siz.seq (N:=20000000+s.size) (K:=35) (h.z4m s p (za9 n)) (by omega) (by omega) λD p h=>h.mono (by omega) (by omega),?_⟩;refine z7g ?_ λD p h=>h
   unfold z4m;exact z7g (z5q 0 _ _ _ J) λD p h=>z5q 1 _ _ _ h
 obtain⟨n1,n2⟩:=hy.notes Y;have hj:=z1H ((z0n y).map txt) λs U=>by have:=n1 s U;omega
 rw[qz] at hj;have h2:=h1.1.repl (WL.joined ((z0n y).map txt)) (z0Y q D p).2.2;have h3:=zih (WL.joined ((z0n y).map txt)) (z0Y q D p).2.1 h1.2;unfold z1z at O;rcases O with⟨_,rfl⟩|⟨_,⟨_,rfl⟩|⟨_,T,V,rfl⟩⟩
 .exact h1.1.mono (by omega) (by omega)
 .exact h2.mono (by omega) (by omega)
 .refine(h2.zbF (zam (x:=y) (T.map bt) (z9r V) (λn hn=>?_) h3)).mono (by omega) (by omega);obtain⟨l,hl,rfl⟩:=qx.1 hn;exact(V.mem l).1 hl
def Chg (a k:Nat)(x y:St)(p:Int)(o:WL.Out):Prop:=
 (o.1=0/\Lv a k o.2.1 y/\(p= -1->o.2.2= -1)/\ -1<=o.2.2)\/
 (o.1=14/\p≠ -1/\Siz 100000000 190 o.2.1/\∀c,Bk a k (DK.start o.2.1 c) x\/Bk a k (DK.start o.2.1 c) y)
theorem zaO {a k:Nat}{D:DK.M}{x y:St}{p:Int}{q:List (ByteArray×ByteArray)}{o:WL.Out}(h:Lv a k D x)(hy:Cor a (k+1) y)(ha:a<=50)(hk:k+1<=60)(hp: -1<=p)
  (G:q=[]\/∃s,q=[(nm x.s.nx.toNat,s)]) (O:∀s,q=[(nm x.s.nx.toNat,s)]->s.size<=1000000)
  (J:∀E,(∀n,n≠nm x.s.nx.toNat->E n=D n)->(∀s,q=[(nm x.s.nx.toNat,s)]->E (nm x.s.nx.toNat)=some ⟨s,s.size,true⟩)->Lie E y) (hw:z1z y q D p o):Chg a (k+1) x y p o:=by
 obtain⟨n1,n2⟩:=hy.notes ha;have hs:=zf2 (h.siz (by omega)) hp hy ha hk (by
  rcases G with e|⟨s,e⟩
  .exact .inl e
  .exact .inr ⟨_,s,e,O s e⟩) hw
 rcases zeQ (c':=200+(k+1)) h.on h.only h.clean h.cor.fit hy.fit hp (by omega) n1 (by omega) G J hw with⟨U,V,Y,e4,e5,e6⟩|⟨U,V,Y⟩
 .exact .inl ⟨U,⟨V,Y,e4,hy⟩,e5,e6⟩
 .refine .inr ⟨U,V,hs,λc=>?_⟩;have hc:=hs.start c;rcases Y c with e|e
  .exact .inl ⟨e,hc.fine,hc.few,hc.only,h.cor.mono (qq _) (by omega)⟩
  .exact .inr ⟨e,hc.fine,hc.few,hc.only,hy⟩
theorem z5T {q:Int->Bool}{od:Int->Int}:∀{B:List Blk},(∀b∈B,q b.n=true)->news q od B=[]
 | [],_=>rfl
 | b::B,h=>by
  rw[news,if_pos (h b qd)];exact z5T λc G=>h c (qp _ G)
theorem z7k {q:Int->Bool}{od:Int->Int}{b:Blk}(hb:q b.n=false):∀{B:List Blk},(∀c∈B,q c.n=true)->news q od (B++[b])=[(nm b.n.toNat,sb (BK.bytes b.zto (od b.n) b.S))]
 | [],_=>by
  rw[r6,news,if_neg (by rw[hb];simp)];rfl
 | c::B,h=>by
  rw[List.cons_append,news,if_pos (h c qd)];exact z7k hb λd G=>h d (qp _ G)
section
variable {a k : Nat} {D : DK.M} {x : St} {p : Int} {o : WL.Out}
theorem Lv.znr (h:Lv a k D x)(J:a<=50)(O:k+1<=60)(U: -1<=p)(od:Int->Int)(G:z1z x (z1u x x od) D p o):Chg a (k+1) x x p o:=by
 have e:z1u x x od=[]:=z5T λb hb=>z5C hb
 rw[e] at G;exact zaO h (h.cor.mono (qq _) (by omega)) J O U (.inl rfl) (λs h=>by cases h) (λE V _=>(zeR h.on).swap λb hb=>V _ λq=>by
  have Y:=h.cor.fit.inv.num b hb;have h2:=h.cor.fit.num b hb;have h3:=h.cor.fit.nx;have:=zcr (by omega) (by omega) q;omega) G
theorem Lv.znB (h:Lv a k D x){E:DK.M}(G:∀n,n≠nm x.s.nx.toNat->E n=D n):Lie E x:=(zeR h.on).swap λb hb=>G _ λq=>by
 have J:=h.cor.fit.inv.num b hb;have O:=h.cor.fit.num b hb;have U:=h.cor.fit.nx;have:=zcr (by omega) (by omega) q;omega
theorem Lv.zo2 (h:Lv a k D x)(G:a<=50)(J:k+1<=60)(O: -1<=p)(od:Int->Int)(t:Int)(q:z1z (z1l t x) (z1u x (z1l t x) od) D p o):Chg a (k+1) x (z1l t x) p o:=by
 have e:z1u x (z1l t x) od=[]:=z5T λb hb=>z5C (List.mem_filter.1 hb).1
 rw[e] at q;exact zaO h (h.cor.zas t) G J O (.inl rfl) (λs h=>by cases h) (λE U _=>ze5 (h.znB U) t) q
theorem Lv.zo8 (h:Lv a k D x)(O:a<=50)(hk:k+1<=60)(hp: -1<=p)(od:Int->Int){t:Int}(h1: -1099511627776<=t)(h2:t<=1099511627776)(hB:x.s.B.length<30)(J:z1z (z6c t x) (z1u x (z6c t x) (z1C od x.s.nx (-1))) D p o):Chg a (k+1) x (z6c t x) p o:=by
 have hy:=h.cor.cut h1 h2 (by omega) hB;by_cases U:HD.kp (lo t) x.s.H=[]
 .have V:(z6c t x).s.B=x.s.B:=by show(SX.cut t x.s).B=_;unfold SX.cut;rw[if_pos U]
  have e:z1u x (z6c t x) (z1C od x.s.nx (-1))=[]:=by
   unfold z1u;rw[V];exact z5T λb hb=>z5C hb
  rw[e] at J;exact zaO h hy O hk hp (.inl rfl) (λs h=>by cases h) (λE Y _=>zgZ h.cor.fit (h.znB Y) t λq=>absurd U q) J
 .have V:(z6c t x).s.B=x.s.B++[⟨x.s.nx,max x.s.mark t,HD.kp (lo t) x.s.H⟩]:=by show(SX.cut t x.s).B=_;unfold SX.cut;rw[if_neg U]
  have G:=h.cor.zd9 O h1 h2;have e:z1u x (z6c t x) (z1C od x.s.nx (-1))=[(nm x.s.nx.toNat,sb (BK.bytes (max x.s.mark t) (-1) (HD.kp (lo t) x.s.H)))]:=by
   unfold z1u;rw[V,z7k (b:=⟨x.s.nx,max x.s.mark t,HD.kp (lo t) x.s.H⟩) h.cor.fresh λc hc=>z5C hc];unfold z1C;simp only[if_true]
  rw[e] at J;refine zaO h hy O hk hp (.inr ⟨_,rfl⟩) (λs hs=>by cases hs;exact G.2.2.1) (λE Y hF=>zgZ h.cor.fit (h.znB Y) t λ_=>?_) J;exact⟨-1,hF _ rfl,G.1,G.2.1,by omega,by omega,G.2.2.1⟩
theorem Lv.zo4 (h:Lv a k D x)(J:a<=50)(Y:k+1<=60)(hp: -1<=p)(od:Int->Int)(O:x.s.B≠[]){old:Int}(U: -1<=old)(G:old<100)(V:z1z (z0N x) (z1u x (z0N x) (z1C od x.s.nx old)) D p o):Chg a (k+1) x (z0N x) p o:=by
 have hy:=h.cor.compact (by omega) O;have q:=h.cor.za2 J O U;have e:z1u x (z0N x) (z1C od x.s.nx old)=[(nm x.s.nx.toNat,sb (BK.bytes (top x.s.B) old (SX.jns (x.s.B.map (·.S)))))]:=by
  unfold z1u;show news _ _ ([]++[(⟨x.s.nx,top x.s.B,SX.jns (x.s.B.map (·.S))⟩:Blk)])=_;rw[z7k (b:=⟨x.s.nx,top x.s.B,SX.jns (x.s.B.map (·.S))⟩) h.cor.fresh λc hc=>by cases hc];unfold z1C;simp only[if_true]
 rw[e] at V;refine zaO h hy J Y hp (.inr ⟨_,rfl⟩) (λs hs=>by cases hs;exact q.2.2.1) (λE hE hF=>zbO ?_) V;exact⟨old,hF _ rfl,q.1,q.2.1,U,G,q.2.2.1⟩
theorem Lv.znH (h:Lv a k D x)(ha:a<=50)(hk:k+1<=60)(hp: -1<=p){V:Nat}(Y:a<=V){y:St}{n:Nt}(hs:Step D x n y)(hy:Cor V (k+1) y)(hB:y.s.B.map (·.n)=x.s.B.map (·.n))(hz:(txt n).size<=60000):Chg V (k+1) x y p (WL.z1V kpt (txt n) D p):=by
 have A1:=(h.siz (by omega)).z1V (txt n) p;have q:Siz 100000000 190 (WL.z1V kpt (txt n) D p).2.1:=A1.mono (by omega) (by omega);rcases zmo h.on hs (by omega) hp with⟨D',p',e1,J,e3,e4,e5⟩|⟨e0,D',e1,J⟩
 .rw[e1];have hO:z2b D':=λm G=>by
   by_cases O:m=kpt
   .exact .inl O
   .by_cases U:m=frs
    .rw[U,zh9 J] at G;exact absurd rfl G
    .rw[e3 m O U] at G;exact h.only m G
  refine .inl ⟨rfl,⟨J,λm G hD=>?_,hO,hy⟩,e4,e5⟩;have O:m≠kpt:=λe=>by rw[e,z8C] at G;cases G
  have U:m≠frs:=λe=>by rw[e,z9f] at G;cases G
  dsimp only at hD;rw[e3 m O U] at hD;obtain⟨b,hb,e⟩:=h.clean m G hD;have A2:b.n∈y.s.B.map (·.n):=by rw[hB];exact qx.2 ⟨b,hb,rfl⟩
  obtain⟨c,hc,ec⟩:=qx.1 A2;exact⟨c,hc,by rw[e,ec]⟩
 .rw[e1] at q ⊢;refine .inr ⟨rfl,e0,q,λc=>?_⟩;have hc:=q.start c;rcases J c with e|e
  .exact .inl ⟨e.mono (by omega),hc.fine,hc.few,hc.only,h.cor.mono Y (by omega)⟩
  .exact .inr ⟨e.mono (by omega),hc.fine,hc.few,hc.only,hy⟩
end
theorem Lv.start {a k:Nat}{D:DK.M}{x:St}(h:Lv a k D x)(q:k<=60)(c:Int):Bk a k (DK.start D c) x:=by
 have hs:=(h.siz q).start c;exact⟨h.on.start c,hs.fine.mono (by omega),hs.few.mono (by omega),hs.only,h.cor⟩
theorem Bk.opened {a k:Nat}{D D':DK.M}{x:St}(h:Bk a k D x)(G:On (200+k) D' x)(h2:z6X x D')(J:∀n,D' n≠none->n=kpt\/D n≠none):Lv a k D' x:=by
 refine⟨G,h2.clean,λn q=>?_,h.cor⟩;rcases J n q with e|e
 .exact .inl e
 .rcases h.only n e with e|e|e
  .exact .inl e
  .rw[e,zh9 G] at q;exact absurd rfl q
  .exact .inr e
theorem Bk.first:Bk 0 0 (λ_=>none) first:=by
 refine⟨⟨[],⟨by decide,by decide,by decide,λ_ _ _=>rfl,.inl ⟨rfl,rfl⟩⟩,.nil _,⟨(λs h=>absurd h (by simp)),qh _⟩⟩,DK.Fine.none _,⟨[],qh _,λn h=>absurd rfl h⟩,λn h=>absurd rfl h,Cor.first 0 0⟩
end SX
end
end Go.Proofs.YtemeblgngidldaaGreatDoor
