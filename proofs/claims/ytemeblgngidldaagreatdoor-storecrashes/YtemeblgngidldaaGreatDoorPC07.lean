/- Texts put together and made smaller by program: SoPiece HdStS SoHead SoCame SoMap ShelfT WlJoinS WlLookS WlMetS WlOpenS. -/
import Derived.Test.YtemeblgngidldaaGreatDoorPC06
import Derived.RangeFuncFrom
import Derived.Maps.Keyed
import Derived.Shelf.Strings.BuilderK
import Derived.Test.YtemeblgngidldaaGreatDoorProg
import Derived.OneCell
set_option linter.unusedVariables false
set_option linter.unusedSimpArgs false
set_option maxRecDepth 100000
set_option maxHeartbeats 12800000
open And renaming intro->qv
open Array renaming replicate_succ->ie,replicate_zero->ir
open BitVec renaming ofInt->ed,ofInt_natCast->i6,toNat_ofNat->il
open Bool renaming and_eq_true->qI
open ByteArray renaming size_append->qC,empty->qy
open Go renaming Program->rM,Ending->rO,TypeId->qn,heap_alloc_new->qu,maxLen->qS,zeroValue->oW,Operand->r9,wpList->eG,wpList_range_own->pu,wpList_next_ranges->oG,mapKey->iJ,heap_setCell_same->qo,run_index_string->pd
open Go.Addr renaming add_lit->qP
open Go.Builtin renaming delete_->yc
open Go.ChangeMaps renaming setBlock->yt
open Go.DataW renaming held->uI
open Go.DataW.held renaming inj->wF
open Go.Fence renaming wide->yO
open Go.Instr renaming lookup->iE,entry->oC,index->p5
open Go.IntKind renaming i64->qW
open Go.KeepsOthers renaming alloc->yg
open Go.Lib renaming IsBuilderF->eH,byteCells->qH,OthersKept->uv,BuilderAtF->oH,strCells->wW,byteCells_length->yv
open Go.Lib.IsBuilderF renaming of->oM
open Go.Lit renaming sameKey->yD,int->rX
open Go.Proofs renaming enters_of->iw
open Go.Proofs.Builder renaming Extra->uh
open Go.Proofs.Lays renaming n169->oV,n167->oB,n166->oN
open Go.Shelf renaming Ren->uk
open Go.Value renaming oneCell'->uo,int->wM,string->yP
open Go.WideShapes renaming sorted_perm->pT
open Go.World renaming putObj_heap_other->wX,size_alloc->rj,grownBy_alloc->eZ,cell?->qs,frozen?->wz
open List renaming getD_eq_getElem?_getD->q7,getElem?_eq_getElem->qw,mem_cons_self->qd,pairwise_cons->ql,mem_cons_of_mem->qp,size_toArray->ru,length_cons->qf,length_nil->qO,push_toArray->iL,append_toArray->iU,nil_append->r6,cons_append->o5,range->qN,length_take->qb,length_drop->wI,take_add_one->wJ,flatMap_append->tQ,length_append->q8,length_map->qz,map_append->wK,append_assoc->qm,mem_cons->qg,take_length->qD,getElem_mem->qK,mem_singleton->qk,any_eq_true->ya,any_eq_false->tq
open List.Pairwise renaming nil->yd
open Nat renaming lt_of_lt_of_le->qe,le_refl->qq,le_trans->qi,reduceAdd->oZ,reduceSub->oX,zero_add->qT,zero_le->qh,mod_eq_of_lt->oo
open Option.some renaming inj->qt
open Prod renaming fst->y5
open UInt8 renaming ofNat->qX,toNat_ofNat'->wi,toNat_lt->eQ
open Go.Proofs.Tryz renaming prog->q6
open Go.Proofs.Tryz
namespace Go.Proofs.YtemeblgngidldaaGreatDoor
section
open Go.RowKit Go.Shelf
attribute [local go_sem] Oper.semAt_some
structure z7E (w w':World):Prop where
 size:w.heap.size<=w'.heap.size
 cell:∀(a:Addr) (v:Value),w.cell? a=some v->w'.cell? a=some v
theorem z7E.below {w w':World}(h:Below w.heap.size w w'):z7E w w':=⟨h.size,λa v q=>by
 obtain⟨o,G,_⟩:=cells_of_cell q;exact(h.cell (p:=a) (z00 G)).trans q⟩
theorem z7E.grown {W W':World}{row:Option Nat}(G:W.grownBy W' row)(q:∀r,row=some r->∃o:Obj,W.heap[r]? =some o/\o.isCells=false):z7E W W':=
 ⟨G.size,λ_ _ h=>cell_kept h G q⟩
theorem z9w.zli {w w':World}{Z:Nat->Prop}{q:Option Addr}{l:List LB.Lab}(h:z9w w Z q l)(k:z7E w w'):z9w w' Z q l:=⟨λi hi=>by
 obtain⟨b,off,G,J,O,U⟩:=h.1 i hi;exact⟨b,off,G,k.cell _ _ J,k.cell _ _ O,qe U k.size⟩,h.2⟩
theorem z9x.zli {w w':World}{Z:Nat->Prop}{q:Option Addr}{l:List CL.Smp}(h:z9x w Z q l)(k:z7E w w'):z9x w' Z q l:=⟨λi hi=>by
 obtain⟨b,off,G,J,O,U⟩:=h.1 i hi;exact⟨b,off,G,k.cell _ _ J,k.cell _ _ O,qe U k.size⟩,h.2⟩
def z5R (w:World)(Z:Nat->Prop)(h:Option Addr)(ps:List (List Sr)):Prop:=
 ∀i,i<ps.length->∃b off,h=some ⟨b,off,none⟩/\b<w.heap.size/\¬Z b/\∃so sc,w.cell? ⟨b,off+i,none⟩=some (.slice so (ps.getD i []).length sc)/\z0z w Z so (ps.getD i [])
theorem z5R.kept {w w':World}{Z:Nat->Prop}{G:Option Addr}{l:List (List Sr)}(h:z5R w Z G l)(q:ZFr Z w w'):z5R w' Z G l:=by
 intro i hi;obtain⟨b,off,U,J,O,so,sc,V,Y⟩:=h i hi;exact⟨b,off,U,qe J q.size,O,so,sc,(zbn q J O).trans V,Y.kept q⟩
theorem z5R.wide {w:World}{Z Z':Nat->Prop}{q:Option Addr}{l:List (List Sr)}(h:z5R w Z q l)(G:∀j,Z' j->Z j\/w.heap.size<=j):z5R w Z' q l:=by
 intro i hi;obtain⟨b,off,J,O,U,so,sc,V,Y⟩:=h i hi;refine⟨b,off,J,O,λe=>?_,so,sc,V,Y.wide G⟩;rcases G b e with e|e
 .exact U e
 .omega
def ziA (w:World)(Z:Nat->Prop)(h:Nat)(v:Value)(ps:List (List Sr)):Prop:=
 ∃xs:List Value,xs.length=ps.length/\w.ownsRow h 39 1 v ps.length xs/\∀i,i<ps.length->∃so sc,xs.getD i .nilIface= .slice so (ps.getD i []).length sc/\z0z w Z so (ps.getD i [])
theorem ziA.out {w:World}{Z:Nat->Prop}{q:Nat}{v:Value}{ps:List (List Sr)}(h:ziA w Z q v ps)(J:∀j,Z j->j<q):∃ao cap,v= .slice ao ps.length cap/\z5R w Z ao ps:=by
 obtain⟨xs,h1,h2,O⟩:=h;rcases h2.2 with⟨G,U⟩|⟨g,cap,V,G,hg,Y,_⟩
 .exact⟨none,0,by rw[G,U],λi hi=>by omega⟩
 .refine⟨some ⟨g,0,none⟩,cap,G,λi hi=>?_⟩;obtain⟨so,sc,e1,e2⟩:=O i hi;have c:=h2.cells (g:=g) (by rw[G];rfl);have hx:xs[i]? =some (.slice so (ps.getD i []).length sc):=by
   rw[<-e1,q7,qw (by omega)];rfl
  have c1:=c _ _ hx;rw[qP] at c1;exact⟨g,0,rfl,z00 Y,λe=>by have:=J g e;omega,so,sc,c1,e2⟩
def Mks (w:World)(Ds:List Nat):Prop:=Ds.Pairwise (λa b=>b≠a)/\∀D∈Ds,w.heap[D]? =some (.deferred (some []))
def mkD (D:Nat):Deferred:={target:= .collected D,args:=#[]}
def zrf (w:World):List Nat->World
 | []=>w
 | D::Ds=>zrf (w.putObj D (.deferred none)) Ds
theorem z5E {F:Fence}{n:Nat}{P:rM}{q:Func}{tmps:Array Value}{R:rO->World->Prop}:∀(Ds:List Nat) (w:World),Mks w Ds->LeavesInM F n P q tmps R [] .returning (zrf w Ds)->LeavesInM F n P q tmps R (Ds.map mkD) .returning w
 | [],_,_,h=>h
 | D::Ds,w,hm,h=>by
  refine⟨by simp,.inl ⟨D,_,rfl,run_takeDeferred (hm.2 D qd),?_⟩⟩;refine z5E Ds _ ⟨(ql.1 hm.1).2,λE G=>?_⟩ h;rw[wX (λe=>(ql.1 hm.1).1 E G e)];exact hm.2 E (qp _ G)
theorem z8x {B:Nat}:∀(q:List Nat) (w:World),(∀D∈q,B<=D)->Below B w (zrf w q)
 | [],w,_=>Below.refl _ _
 | D::q,w,h=>by
  refine Below.trans ?_ (z8x q _ λE G=>h E (qp _ G));exact⟨rfl,rfl,rfl,by simp[World.putObj],λj J=>wX (by have:=h D qd;omega)⟩
theorem z8n:∀(q:List Nat) (w:World),Mks w q->z7E w (zrf w q)
 | [],w,_=>⟨qq _,λ_ _ h=>h⟩
 | D::q,w,hm=>by
  have h1:z7E w (w.putObj D (.deferred none)):=z7E.grown (grownBy_putObj' _ D _) λr e=>by cases e;exact⟨_,hm.2 D qd,rfl⟩
  have h2:=z8n q (w.putObj D (.deferred none)) ⟨(ql.1 hm.1).2,λE G=>by
   rw[wX (λe=>(ql.1 hm.1).1 E G e)];exact hm.2 E (qp _ G)⟩
  exact⟨qi h1.size h2.size,λa v h=>h2.cell a v (h1.cell a v h)⟩
theorem z4S {P:rM}{fn:Func}{p:Tmp}{q e:qn}(h:fn.results=#[.cell p q]) (tmps:Array Value) (w:World) (g:Nat) (v:Value)
  (J:tmps.getD p undef= .pointer (some ⟨g,0,none⟩)) (O:w.cell? ⟨g,0,none⟩=some v) (U:P.underlying q=some (.slice e)):
  (results fn tmps).run P w= .ok v w:=by
 have G:tmps[p]?.getD undef= .pointer (some ⟨g,0,none⟩):=by simpa using J
 have V:(underlying q).run P w= .ok (.slice e) w:=by simp[underlying,go_sem,U]
 simp[results,h,G,asAddr,loadVar,isAgg,V,O]
theorem z5w:∀(h:List Nat) (w:World),Mks w h->∀{g:Nat} {c:Array Value} {e:qn},w.heap[g]? =some (.cells c e)->(zrf w h).heap[g]? =w.heap[g]?
 | [],w,_,_,_,_,_=>rfl
 | D::h,w,hm,g,c,e,hc=>by
  have q:g≠D:=λO=>by
   have:=hm.2 D qd;rw[<-O,hc] at this;cases this
  have G:=wX (w:=w) (r:=D) (o:= .deferred none) q;have h2:=z5w h (w.putObj D (.deferred none)) ⟨(ql.1 hm.1).2,λE J=>by
   rw[wX (λe=>(ql.1 hm.1).1 E J e)];exact hm.2 E (qp _ J)⟩ (G.trans hc)
  exact h2.trans G
theorem zjG (n:Nat)(so:Option Addr)(k c:Nat)(w:World):
  CallsIn yO n q6 161 #[.slice so k c,.int .i64 40] w λe w'=>e= .returned (.func (.func 195) #[] #[.pointer (some ⟨w.heap.size,0,none⟩),.pointer (some ⟨w.heap.size+1,0,none⟩)])/\w'=(w.alloc (.cells #[.slice so k c] 91)).alloc (.cells #[.int .i64 40] 3):=by
 refine callsIn_of_wp func161 rfl trivial ?_ rfl;simp only[ntmps161,ru,qf,qO,oZ,oX,ie,ir,iL,iU,r6,o5]
 gi_wp2
 go_ret;exact⟨rfl,rfl⟩
theorem zbf (n:Nat)(hn:1<=n)(h q b len cap:Nat)(G:len<=1000000)(O:len<=cap)(w:World)(h1:h<w.heap.size)(h2:q<w.heap.size)(U:w.cell? ⟨h,0,none⟩=some (.slice (some ⟨b,0,none⟩) len cap))(V:w.cell? ⟨q,0,none⟩=some (.int .i64 40)):
  SeqStopsK yO n q6 195 #[.pointer (some ⟨h,0,none⟩),.pointer (some ⟨q,0,none⟩)] (λx:Nat=>#[chV b 0 len x]) (KB h q) (λys=>ys=qN ((len+39)/40)) (λY=>∃k,k<=(len+39)/40/\Y=qN k) ((len+39)/40) w:=λl J Jx W hW hJ A1 hY h0=>
 zeY n hn l h q b 0 len cap G O J Jx (λs W k hs=>hJ s W _ none hs ⟨rfl,rfl,rfl,qq _,λ_ _ _=>rfl⟩ (λr e=>by cases e)) hY W ((hW.cell (p:=⟨h,0,none⟩) h1).trans U) ((hW.cell (p:=⟨q,0,none⟩) h2).trans V) h0
theorem znT {h q:Nat}{w:World}(J:h<w.heap.size)(O:q<w.heap.size)(W:World)(l:Nat)(o G:Obj)(U:w.heap.size<=l)(_:W.heap[l]? =some o)(_:o.isCells=false)(_:o.isWalk=false):KB h q W (W.putObj l G):=
 ⟨wX (by omega),wX (by omega)⟩
def PcW (w W:World)(Z:Nat->Prop)(v:Value)(ps:List (List Sr)):Prop:=
 ∃xs:List Value,xs.length=ps.length/\W.ownsRow w.heap.size 39 1 v ps.length xs/\∀i,i<ps.length->∃q lo lc so sc L c,xs.getD i .nilIface= .slice (some ⟨q,0,none⟩) 1 1/\ps.getD i []=[(L,c)]/\W.heap[q]? =some (.cells #[.slice lo L.length lc,.slice so c.length sc] 93)/\w.heap.size<=q/\z9w w Z lo L/\z9x w Z so c
theorem PcW.kept {w W W':World}{Z:Nat->Prop}{v:Value}{ps:List (List Sr)}(h:PcW w W Z v ps)(k:∀(g:Nat) (c:Array Value),W.heap[g]? =some (.cells c 93)->W'.heap[g]? =W.heap[g]?)(J:∀xs,W.ownsRow w.heap.size 39 1 v ps.length xs->W'.ownsRow w.heap.size 39 1 v ps.length xs):PcW w W' Z v ps:=by
 obtain⟨xs,O,U,V⟩:=h;refine⟨xs,O,J xs U,λi hi=>?_⟩;obtain⟨q,lo,Y,so,sc,L,c,e1,e2,G,e4⟩:=V i hi;exact⟨q,lo,Y,so,sc,L,c,e1,e2,(k q _ G).trans G,e4⟩
theorem PcW.own {w W:World}{Z:Nat->Prop}{v:Value}{ps:List (List Sr)}(h:PcW w W Z v ps)(hb:Below w.heap.size w W)(O:∀j,Z j->j<w.heap.size):ziA W Z w.heap.size v ps:=by
 obtain⟨xs,U,V,Y⟩:=h;refine⟨xs,U,V,λi hi=>?_⟩;obtain⟨q,lo,lc,so,sc,L,c,e1,e2,G,e4,e5,e6⟩:=Y i hi;rw[e2];refine⟨some ⟨q,0,none⟩,1,e1,λk hk=>?_⟩;obtain rfl:k=0:=by simpa using hk
 have J:=z7E.below hb;exact⟨q,0,rfl,z00 G,λe=>by have:=O q e;omega,lo,lc,so,sc,z01 _ _ _ _ G 0 _ rfl,z01 _ _ _ _ G 1 _ rfl,e5.zli J,e6.zli J⟩
structure PcI (w W:World) (Z:Nat->Prop) (ps:List (List Sr)) (Ds:List Nat):Prop where
 row:∃v,Boxed W w.heap.size 162 v/\PcW w W Z v ps
 bel:Below w.heap.size w W
 mks:Mks W Ds
 hi:∀D∈Ds,w.heap.size<=D/\D<W.heap.size
theorem PcI.own {w W W':World}{Z:Nat->Prop}{ps:List (List Sr)}{O:List Nat}{B:Nat}{row:Option Nat}(h:PcI w W Z ps O)(hB:w.heap.size<=B)(hD:∀D∈O,D<B)(J:W.grownBy W' row)(U:∀r,row=some r->B<=r/\∃o:Obj,W.heap[r]? =some o/\o.isCells=false):PcI w W' Z ps O:=by
 obtain⟨v,Y,h2⟩:=h.row;have key:∀(g:Nat) (c:Array Value) (e:qn),W.heap[g]? =some (.cells c e)->W'.heap[g]? =W.heap[g]? :=λg c e G=>J.block g (z00 G) (λe2=>by
  obtain⟨o,ho,hn⟩:=(U g e2.symm).2;rw[G] at ho;cases ho;cases hn)
 refine⟨⟨v,(key _ _ _ Y).trans Y,h2.kept (λg c G=>key g c _ G) λxs hx=>z04 hx (λg c G=>key g c _ G)⟩,h.bel.grown J h.bel.size (λj e=>qi hB (U j e).1),⟨h.mks.1,λD q=>?_⟩,λD q=>⟨(h.hi D q).1,qe (h.hi D q).2 J.size⟩⟩;have V:=(h.hi D q).2;rw[J.block D V (λe=>by have:=(U D e.symm).1;have:=hD D q;omega)];exact h.mks.2 D q
theorem PcI.below {w W W':World}{Z:Nat->Prop}{ps:List (List Sr)}{J:List Nat}(h:PcI w W Z ps J)(k:Below W.heap.size W W'):PcI w W' Z ps J:=by
 obtain⟨v,h1,h2⟩:=h.row;exact⟨⟨v,(k.block _ h1.lt).trans h1,h2.kept (λg c G=>k.block g (z00 G)) λxs O=>z04 O (λg c G=>k.block g (z00 G))⟩,z0u h.bel k,⟨h.mks.1,λD q=>(k.block D (h.hi D q).2).trans (h.mks.2 D q)⟩,λD q=>⟨(h.hi D q).1,qe (h.hi D q).2 k.size⟩⟩
theorem zn7 {w:World}{Z:Nat->Prop}{q g n c:Nat}{l:List CL.Smp}(h:z0h w q (.slice (some ⟨g,0,none⟩) n c) l)(J:¬Z g)(j:Nat):z9x w Z (some ⟨g,0+40*j*2,none⟩) (SX.ch l j):=by
 refine⟨λi hi=>?_,λa O _=>?_⟩
 .have G:40*j+i<l.length:=by
   unfold SX.ch at hi;rw[qb,wI] at hi;omega
  obtain⟨so,sc,U,V⟩:=z1I.z08 h;cases U;obtain⟨b,off,Y,k2,k3,k4⟩:=V (40*j+i) G;cases Y;have e:CL.at' (SX.ch l j) i=CL.at' l (40*j+i):=by
   unfold CL.at' SX.ch;rw[q7,q7,List.getElem?_take,List.getElem?_drop,if_pos (by unfold SX.ch at hi;rw[qb] at hi;omega)]
  refine⟨g,_,rfl,?_,?_,k4⟩
  .rw[e,<-k2];congr 2;omega
  .rw[e,<-k3];congr 2;omega
 .cases O;exact J
theorem z7v (S:List Sr)(i:Nat)(h:i<S.length):SX.pieces (S.take (i+1))=SX.pieces (S.take i)++(qN (((z03 S i).2.length+39)/40)).map λj=>[((z03 S i).1,SX.ch (z03 S i).2 j)]:=by
 have e:S.take (i+1)=S.take i++[z03 S i]:=by
  rw[wJ,qw h];simp[z03,q7,qw h]
 unfold SX.pieces;rw[e,tQ];simp[SX.chs,List.map_map,Function.comp_def]
theorem zcW {α:Type}(a b:List α)(i:Nat)(d:α)(h:i<a.length):(a++b).getD i d=a.getD i d:=by
 rw[q7,q7,List.getElem?_append_left h]
theorem zcE {α:Type}(a:List α)(x d:α):(a++[x]).getD a.length d=x:=by
 rw[q7,List.getElem?_append_right (qq _),Nat.sub_self];rfl
theorem zmk {w:World}{Z:Nat->Prop}{q n c:Nat}{lo:Option Addr}{l:List LB.Lab}(h:z0x w q (.slice lo n c) l)(G:∀g,(Value.slice lo n c).ownBlock=some g->¬Z g):z9w w Z lo l:=by
 obtain⟨J,O,e,U⟩:=z1w.z08 h;cases e;refine⟨U,λa V _ e=>?_⟩;subst V;exact G a.block rfl e
theorem z1i:∀(S:List Sr) (i:Nat),(∀k,k<S.length->(z03 S k).2.length<=100000)->i<=S.length->(SX.pieces (S.take i)).length<=i*2501
 | S,0,_,_=>by simp[SX.pieces]
 | S,i+1,h,hi=>by
  rw[z7v S i (by omega),q8,qz,List.length_range];have q:=z1i S i h (by omega);have G:=h i (by omega);omega
theorem PcW.push {w W W':World}{Z:Nat->Prop}{v':Value}{ps:List (List Sr)}{xs:List Value}{q:Nat}{lo so:Option Addr}{G sc:Nat}{L:List LB.Lab}{c:List CL.Smp}(h1:xs.length=ps.length)(h3:∀i,i<ps.length->∃q lo G so sc L c,xs.getD i .nilIface= .slice (some ⟨q,0,none⟩) 1 1/\ps.getD i []=[(L,c)]/\W.heap[q]? =some (.cells #[.slice lo L.length G,.slice so c.length sc] 93)/\w.heap.size<=q/\z9w w Z lo L/\z9x w Z so c)
  (k:∀(g:Nat) (c:Array Value),W.heap[g]? =some (.cells c 93)->W'.heap[g]? =W.heap[g]?) (hr:W'.ownsRow w.heap.size 39 1 v' (ps.length+1) (xs++[.slice (some ⟨q,0,none⟩) 1 1])) (hq:W'.heap[q]? =some (.cells #[.slice lo L.length G,.slice so c.length sc] 93)) (J:w.heap.size<=q) (hL:z9w w Z lo L) (hc:z9x w Z so c):PcW w W' Z v' (ps++[[(L,c)]]):=by
 refine⟨xs++[.slice (some ⟨q,0,none⟩) 1 1],by simp[h1],by rw[q8];exact hr,λi hi=>?_⟩;rw[q8,List.length_singleton] at hi;by_cases h:i<ps.length
 .obtain⟨q',O,U,V,Y,L',c',e1,e2,e3,e4⟩:=h3 i h;refine⟨q',O,U,V,Y,L',c',?_,?_,(k _ _ e3).trans e3,e4⟩
  .rw[zcW _ _ _ _ (by omega)];exact e1
  .rw[zcW _ _ _ _ h];exact e2
 .obtain rfl:i=ps.length:=by omega
  refine⟨q,lo,G,so,sc,L,c,?_,?_,hq,J,hL,hc⟩
  .rw[<-h1];exact zcE _ _ _
  .exact zcE _ _ _
theorem z7R (Z:Nat->Prop)(G:Nat)(v:Value)(S:List Sr)(wa w:World)(ha:z0a wa G v S)(Ad:Below wa.heap.size wa w)(hz:∀j,Z j->(j<G\/wa.heap.size<=j)/\j<w.heap.size)(hn:S.length<=4000)(hs:∀i,i<S.length->0<(z03 S i).2.length/\(z03 S i).2.length<=100000):
  Calls q6 111 #[v] w λe w'=>∃v',e= .returned v'/\ziA w' Z w.heap.size v' (SX.pieces S)/\Below w.heap.size w w':=by
 obtain⟨xs,Aj,Ak,Al⟩:=ha;have A3:=z04 Ak λg _ U=>Ad.block g (z00 U)
 have Ae:∀i,i<S.length->z0x w G (atX xs i).1 (z03 S i).1/\z0h w G (atX xs i).2 (z03 S i).2/\(∀g,(atX xs i).1.ownBlock=some g->¬Z g)/\∀g,(atX xs i).2.ownBlock=some g->¬Z g:=λi hi=>by
  obtain⟨k1,k2⟩:=Al i hi;refine⟨z04 k1 λg _ U=>Ad.block g (z00 U),z04 k2 λg _ U=>Ad.block g (z00 U),λg U e=>?_,λg U e=>?_⟩
  .have h1:=k1.lt g U;have h2:=(hz g e).1;omega
  .have h1:=k2.lt g U;have h2:=(hz g e).1;omega
 clear Ak Al;obtain⟨ao,cap,rfl⟩:=z02 A3;refine(callsIn_wide (n:=9)).1 ?_;refine callsIn_of_wp_marks func111 rfl trivial ?_ rfl;simp only[ntmps111,ru,qf,qO,oZ,oX,ie,ir,iL,iU,r6,o5]
 gi_wp2
 have HS:=hid hs;have HX:=hid (qv Aj (qv A3 Ae));have Am:∀W:World,Below w.heap.size w W->∀i,i<S.length->∃g off q c2,ao=some ⟨g,off,none⟩/\(atX xs i).2= .slice (some ⟨q,0,none⟩) (z03 S i).2.length c2/\(z03 S i).2.length<=c2/\W.cell? ⟨g,off+i*2,none⟩=some (atX xs i).1/\W.cell? ⟨g,off+i*2+1,none⟩=some (atX xs i).2/\z0x W G (atX xs i).1 (z03 S i).1/\z0h W G (atX xs i).2 (z03 S i).2/\(∀g,(atX xs i).1.ownBlock=some g->¬Z g)/\∀g,(atX xs i).2.ownBlock=some g->¬Z g:=λW hW i hi=>by
  obtain⟨k1,k2,k3,k4⟩:=Ae i hi;obtain⟨g,A4,Bi,e0,e1,e2,e3,e4,e5⟩:=z0d A3 (by omega);obtain⟨q,c2,Bg,f0,f1,f2,f3,f4,f5⟩:=z0d k2 (hs i hi).1;obtain⟨q1,q2⟩:=zr1 xs i (by omega);have c:=A3.cells (g:=g) e1;have c1:=c _ _ q1;have Ao:=c _ _ q2;rw[qP,qT] at c1 Ao;cases e0;exact⟨g,0,q,c2,rfl,f0,f3,by rw[qT];exact(hW.cell (p:=⟨g,_,none⟩) (z00 e2)).trans c1,by rw[qT];exact(hW.cell (p:=⟨g,_,none⟩) (z00 e2)).trans Ao,z04 k1 λg _ U=>hW.block g (z00 U),z04 k2 λg _ U=>hW.block g (z00 U),k3,k4⟩
 have Ap:=hid Am;clear Am hs Aj A3 Ae;refine wpIn_loop (λa W=>∃(i:Nat) (Ds:List Nat) (u4 u9 Aq Ar Au Av Aw Af:Value),i<=S.length/\a={tmps:=#[.slice ao S.length cap,undef,.pointer (some ⟨w.heap.size,0,none⟩),undef,u4,undef,.slice ao S.length cap,.int .i64 (S.length:Int),.int .i64 (i:Int),u9,Aq,Ar,Au,Av,Aw,undef,undef,undef,undef,undef,undef,undef,undef,undef,Af,undef],defers:=Ds.map mkD}/\PcI w W Z (SX.pieces (S.take i)) Ds) (λa _=>S.length-(intOf (a.tmps.getD 8 .nilIface)).toNat) ?start ?round
 case start=>exact⟨0,[],undef,undef,undef,undef,undef,undef,undef,undef,qh _,rfl,⟨⟨_,Boxed.new w _ _,⟨[],rfl,⟨rfl,.inl ⟨rfl,rfl⟩⟩,λi hi=>by simp[SX.pieces] at hi⟩⟩,(Below.refl _ w).alloc (qq _) _,⟨yd,λD O=>by cases O⟩,λD O=>by cases O⟩⟩
 case round=>
  rintro a W ⟨i,Ds,u4,u9,Aq,Ar,Au,Av,Aw,Af,hi,rfl,hI⟩;have HI:=hid hI;by_cases A6:i<S.length
  .obtain⟨g,off,q,c2,rfl,e2,AU,m1,m2,Ax,Bj,_,_⟩:=Ap.out W hI.bel i A6;obtain⟨lo,lc,e1,AV⟩:=z1w.z08 Ax;rw[e1] at m1;rw[e2] at m2;have Bl:0<=(i:Int)/\(i:Int)<(S.length:Int):=by omega
   have Bm:=HS.out i A6;clear hI
   gi_wp2
   refine⟨trivial,(zjG _ _ _ _ _).mono ?_⟩;rintro e w' ⟨rfl,rfl⟩
   gi_wp2
   have Bo:=hid Ax;have Bp:=hid AV;have AW:=hid ((Ap.out w (Below.refl _ _) i A6));have AX:Below W.heap.size W (((W.alloc (.cells #[.slice lo (z03 S i).1.length lc,.slice (some ⟨q,0,none⟩) (z03 S i).2.length c2] 93)).alloc (.cells #[.slice (some ⟨q,0,none⟩) (z03 S i).2.length c2] 91)).alloc (.cells #[.int .i64 40] 3)):=(((Below.refl _ W).alloc (qq _) _).alloc (by simp) _).alloc (by simp;omega) _;have AY:=(Below.heap_alloc _ (.cells #[.int .i64 40] 3) _ (by simp;omega)).trans ((Below.heap_alloc _ (.cells #[.slice (some ⟨q,0,none⟩) (z03 S i).2.length c2] 91) _ (by simp)).trans (qu W (.cells #[.slice lo (z03 S i).1.length lc,.slice (some ⟨q,0,none⟩) (z03 S i).2.length c2] 93)));have Ag:=(Below.heap_alloc _ (.cells #[.int .i64 40] 3) _ (by simp)).trans (qu (W.alloc (.cells #[.slice lo (z03 S i).1.length lc,.slice (some ⟨q,0,none⟩) (z03 S i).2.length c2] 93)) (.cells #[.slice (some ⟨q,0,none⟩) (z03 S i).2.length c2] 91));have Ah:=qu ((W.alloc (.cells #[.slice lo (z03 S i).1.length lc,.slice (some ⟨q,0,none⟩) (z03 S i).2.length c2] 93)).alloc (.cells #[.slice (some ⟨q,0,none⟩) (z03 S i).2.length c2] 91)) (.cells #[.int .i64 40] 3);have Bq:(((W.alloc (.cells #[.slice lo (z03 S i).1.length lc,.slice (some ⟨q,0,none⟩) (z03 S i).2.length c2] 93)).alloc (.cells #[.slice (some ⟨q,0,none⟩) (z03 S i).2.length c2] 91)).alloc (.cells #[.int .i64 40] 3)).heap.size=W.heap.size+3:=by simp
   simp only[rj] at Ag Ah;generalize ((W.alloc (.cells #[.slice lo (z03 S i).1.length lc,.slice (some ⟨q,0,none⟩) (z03 S i).2.length c2] 93)).alloc (.cells #[.slice (some ⟨q,0,none⟩) (z03 S i).2.length c2] 91)).alloc (.cells #[.int .i64 40] 3)=W0 at*;have A7:=HI.out.below AX;have Ay:∀D∈Ds,D<W0.heap.size:=λD O=>(A7.hi D O).2
   refine wpIn_rangeFunc_ownF rfl (by omega) (gf:=195) (lb:=#[.pointer (some ⟨W.heap.size+1,0,none⟩),.pointer (some ⟨W.heap.size+1+1,0,none⟩)]) rfl trivial (iw func195 (by kernel_rfl) rfl)
    (zbf _ (by omega) (W.heap.size+1) (W.heap.size+1+1) q (z03 S i).2.length c2 (by omega) AU W0 (by omega) (by omega) (z01 _ _ _ _ Ag 0 _ rfl) (z01 _ _ _ _ Ah 0 _ rfl)) (λh k=>KB.trans h k) (znT (by omega) (by omega)) (Below.refl _ _) (λ_=>rfl)
    (λpre V=>PcI w V Z (SX.pieces (S.take i)++pre.map λj=>[((z03 S i).1,SX.ch (z03 S i).2 j)]) Ds/\V.heap[W.heap.size]? =some (.cells #[.slice lo (z03 S i).1.length lc,.slice (some ⟨q,0,none⟩) (z03 S i).2.length c2] 93)/\V.heap[W.heap.size+1]? =some (.cells #[.slice (some ⟨q,0,none⟩) (z03 S i).2.length c2] 91)/\V.heap[W.heap.size+1+1]? =some (.cells #[.int .i64 40] 3))
    (λ_ _ _=>False)
    (λs A B row hs U hr=>by
     have AZ:=A7.bel.size;have Br:=hs.1.bel.size;have key:∀(g:Nat) (c:Array Value) (e:qn),A.heap[g]? =some (.cells c e)->B.heap[g]? =A.heap[g]? :=λg c e J=>U.block g (z00 J) (λe2=>by
      obtain⟨o,ho,hn⟩:=(hr g e2.symm).2;rw[J] at ho;cases ho;cases hn)
     exact⟨hs.1.own (B:=W0.heap.size) AZ Ay U hr,(key _ _ _ hs.2.1).trans hs.2.1,(key _ _ _ hs.2.2.1).trans hs.2.2.1,(key _ _ _ hs.2.2.2).trans hs.2.2.2⟩)
    (λ_ _ _ _ _ hs _ _=>hs)
    ⟨by rw[List.map_nil,List.append_nil];exact A7,AY,Ag,Ah⟩
    (λx=>{tmps:=#[.slice (some ⟨g,off,none⟩) S.length cap,undef,.pointer (some ⟨w.heap.size,0,none⟩),undef,.pointer (some ⟨W.heap.size,0,none⟩),chV q 0 (z03 S i).2.length x,.slice (some ⟨g,off,none⟩) S.length cap,.int .i64 (S.length:Int),.int .i64 (i:Int),.bool true,.pointer (some ⟨g,off+i*2,none⟩),.agg #[.slice lo (z03 S i).1.length lc,.slice (some ⟨q,0,none⟩) (z03 S i).2.length c2],.pointer (some ⟨W.heap.size,1,none⟩),.slice (some ⟨q,0,none⟩) (z03 S i).2.length c2,.func (.func 195) #[] #[.pointer (some ⟨W.heap.size+1,0,none⟩),.pointer (some ⟨W.heap.size+1+1,0,none⟩)],chV q 0 (z03 S i).2.length x,undef,undef,undef,undef,undef,undef,undef,undef,Af,undef],defers:=[]}) ?assign ?body ?done ?stop
   case assign=>
    intro l x V K hK
    gi_wp2
    exact hK
   case body=>
    rintro l pre x V ⟨hP,k1,k2,k3⟩ Bt;have HP:=hid hP;have HK:=hid (qv k1 (qv k2 k3));obtain⟨v,hv,ys,Az,Y,AA⟩:=hP.row;obtain⟨a7,c7,rfl⟩:=z02 Y;have m5:=hv.cell;have m6:V.cell? ⟨W.heap.size,0,none⟩=some (.slice lo (z03 S i).1.length lc):=z01 _ _ _ _ k1 0 _ rfl;have AB:chV q 0 (z03 S i).2.length x= .slice (some ⟨q,0+40*x*2,none⟩) (SX.ch (z03 S i).2 x).length (SX.ch (z03 S i).2 x).length:=by
     unfold chV SX.ch;rw[qb,wI]
    rw[AB];clear AB;generalize AC:SX.ch (z03 S i).2 x=cx at*;have Bu:(SX.pieces (S.take i)++pre.map λj=>[((z03 S i).1,SX.ch (z03 S i).2 j)]).length<=500000000:=by
     rw[q8,qz];have h1:=z1i S i (λk hk=>(HS.out k hk).2) hi;omega
    obtain⟨i0,B0,B3,B5,B6⟩:=info_parts (show(q6.info? 39).map (λi=>(i.zero,i.size,i.bytes))=some (some (.slice none 0 0),1,24) by kernel_rfl);generalize AD:(SX.pieces (S.take i)++pre.map λj=>[((z03 S i).1,SX.ch (z03 S i).2 j)])=ps at*;have HY:=hid (qv Az (qv Y AA));have HV:=hid hv;have AE:=hid AC;have Ba:=hid AD;clear Az AA AC AD hP k1 k2 k3 hv
    gi_wp2_with (gi_at_builtin;refine wpListIn_append_own _ rfl (.tmp 16) (.tmp 22) 162 rfl w.heap.size 39 i0 (.slice none 0 0) 1 24 ?e1 B0 B3 B5 B6 ?e2 ?e3 _ ps.length ys rfl ?e4 ⟨V.heap.size+1,0,none⟩ 1 1 [.slice (some ⟨V.heap.size,0,none⟩) 1 1] ?e5 rfl ?e6 ?e7 ?e8 ?e9 ?e10 ?e11)
    case e1=>kernel_rfl
    case e2=>rfl
    case e3=>decide
    case e4=>exact(Y.alloc _).alloc _
    case e5=>rfl
    case e6=>
     have e:=cell_one_new (V.alloc (.cells #[.slice lo (z03 S i).1.length lc,.slice (some ⟨q,40*x*2,none⟩) cx.length cx.length] 93)) (.slice (some ⟨V.heap.size,0,none⟩) 1 1) 39;rw[rj] at e;exact e
    case e7=>simp[uo]
    case e8=>show ps.length+1<=qS;unfold qS;omega
    case e9=>omega
    case e10=>have:=HP.out.bel.size;simp;omega
    case e11=>
     intro v' w1 A1 A2 _;obtain⟨g',A4,rfl⟩:=ownsRow_succ A1;obtain⟨Ai,AF,AG,AH,AJ⟩:=(HV.out.alloc (.cells #[.slice lo (z03 S i).1.length lc,.slice (some ⟨q,40*x*2,none⟩) cx.length cx.length] 93)).appended (by decide) (HY.out.2.1.alloc _) (by have:=HP.out.bel.size;simp;omega) (qq _) A1 A2;have Bv:=Ai.cell;have Bw:=Ai.frozen;have HG:=hid A2;have H2:=hid (qv AF (qv AG (qv AH AJ)));clear Ai AF AG AH AJ A1 A2 Y
     gi_wp2
     have Bh:=HV.out.lt;have Bb:=HI.out.row;have By:w.heap.size<W.heap.size:=by obtain⟨_,hb,_⟩:=Bb;exact hb.lt
     have key:∀(g:Nat) (c:Array Value) (e:qn),V.heap[g]? =some (.cells c e)->e≠39->g≠w.heap.size->(w1.setCell ⟨w.heap.size,0,none⟩ (.slice (some ⟨g',0,none⟩) (ps.length+1) A4)).heap[g]? =V.heap[g]? :=λg c e J h1 h2=>by
      have e1:=(Below.heap_alloc _ (.cells #[.slice (some ⟨V.heap.size,0,none⟩) 1 1] 39) g (by have:=z00 J;simp;omega)).trans (Below.heap_alloc V (.cells #[.slice lo (z03 S i).1.length lc,.slice (some ⟨q,40*x*2,none⟩) cx.length cx.length] 93) g (z00 J));rw[Below.heap_setCell w1 ⟨w.heap.size,0,none⟩ _ g h2,HG.out.block g (by have:=z00 J;simp;omega) (λe2=>z0e ((HY.out.2.1.alloc _).alloc _) (e1.trans J) (λe3=>h1 e3.symm) e2.symm)];exact e1
     have hq:(w1.setCell ⟨w.heap.size,0,none⟩ (.slice (some ⟨g',0,none⟩) (ps.length+1) A4)).heap[V.heap.size]? =some (.cells #[.slice lo (z03 S i).1.length lc,.slice (some ⟨q,0+40*x*2,none⟩) cx.length cx.length] 93):=by
      have e1:=(Below.heap_alloc _ (.cells #[.slice (some ⟨V.heap.size,0,none⟩) 1 1] 39) V.heap.size (by simp)).trans (qu V (.cells #[.slice lo (z03 S i).1.length lc,.slice (some ⟨q,40*x*2,none⟩) cx.length cx.length] 93));rw[Below.heap_setCell w1 ⟨w.heap.size,0,none⟩ _ V.heap.size (by show V.heap.size≠w.heap.size;omega),HG.out.block V.heap.size (by simp;omega) (λe2=>z0e ((HY.out.2.1.alloc _).alloc _) e1 (by decide) e2.symm),e1,qT]
     refine⟨(yg V _).trans H2.out.2.2.1,⟨key _ _ _ HK.out.2.1 (by decide) (by omega),key _ _ _ HK.out.2.2 (by decide) (by omega)⟩,⟨⟨_,H2.out.1,?_⟩,(HP.out.bel.alloc HP.out.bel.size _).trans H2.out.2.2.2,⟨HP.out.mks.1,λD O=>((yg V _).trans H2.out.2.2.1).same D _ (HP.out.mks.2 D O) rfl⟩,λD O=>⟨(HP.out.hi D O).1,qe (HP.out.hi D O).2 ((yg V _).trans H2.out.2.2.1).size⟩⟩,(key _ _ _ HK.out.1 (by decide) (by omega)).trans HK.out.1,(key _ _ _ HK.out.2.1 (by decide) (by omega)).trans HK.out.2.1,(key _ _ _ HK.out.2.2 (by decide) (by omega)).trans HK.out.2.2⟩;rw[wK,<-qm,Ba.out,List.map_singleton,AE.out];obtain⟨_,_,_,_,_,_,_,_,_,AK,AL,AM,AO⟩:=AW.out;rw[e1] at AK AM;rw[e2] at AL AO;have AP:=zn7 AL (AO q rfl) x;rw[AE.out] at AP;exact PcW.push HY.out.1 HY.out.2.2 (λg c J=>key g c _ J (by decide) (λe=>by
      rw[e] at J;have AQ:V.heap[w.heap.size]? =some _:=HV.out;rw[J] at AQ;cases AQ)) H2.out.2.1 hq (by omega) (zmk AK AM) AP
   case done=>
    rintro D ys V O rfl ⟨hP,_,_,_⟩ hK;have AR:PcI w V Z (SX.pieces (S.take (i+1))) (D::Ds):=by
     refine⟨by rw[z7v S i A6];exact hP.row,hP.bel,⟨ql.2 ⟨λE hE e=>?_,hP.mks.1⟩,λE hE=>?_⟩,λE hE=>?_⟩
     .have:=Ay E hE;omega
     .rcases qg.1 hE with rfl|hE
      .exact hK
      .exact hP.mks.2 E hE
     .rcases qg.1 hE with rfl|hE
      .exact⟨by have:=A7.bel.size;omega,z00 hK⟩
      .exact hP.hi E hE
    have Bc:=hid AR;clear AR hP hK
    gi_wp2
    exact⟨⟨i+1,D::Ds,_,_,_,_,_,_,_,_,by omega,rfl,Bc.out⟩,by simp[intOf];omega⟩
   case stop=>
    rintro D c pre V _ _ h _;exact h.elim
  .have he:i=S.length:=by omega
   subst he;have A8:=HI.out;rw[qD] at A8;obtain⟨v,hv,hP⟩:=A8.row;have m5:=hv.cell;have m6:=hv.frozen;obtain⟨_,_,Y,_⟩:=id hP;obtain⟨a7,c7,rfl⟩:=z02 Y;have A5:=hid A8;have HP:=hid hP;have HV:=hid hv;clear A8 hP Y hv hI
   gi_wp2
   have Be:∀D∈Ds,D≠w.heap.size:=λD O e=>by
    have h1:=A5.out.mks.2 D O;have h2:W.heap[w.heap.size]? =some _:=HV.out;rw[e,h2] at h1;cases h1
   have A9:Mks (W.setCell ⟨w.heap.size,0,none⟩ (.slice a7 (SX.pieces S).length c7)) Ds:=⟨A5.out.mks.1,λD O=>(Below.heap_setCell W ⟨w.heap.size,0,none⟩ _ D (Be D O)).trans (A5.out.mks.2 D O)⟩;refine z5E Ds _ A9 ?_;have Bf:=HV.out.set (.slice a7 (SX.pieces S).length c7);have Ac:=(A5.out.bel.setCell (p:=⟨w.heap.size,0,none⟩) (qq _) (.slice a7 (SX.pieces S).length c7)).trans (z8x Ds (W.setCell ⟨w.heap.size,0,none⟩ (.slice a7 (SX.pieces S).length c7)) λD O=>(A5.out.hi D O).1);refine⟨_,z4S (P:=q6) rfl _ _ w.heap.size _ rfl ((z8n Ds _ A9).cell _ _ Bf.cell) (by kernel_rfl:q6.underlying 162=some (.slice 39)),_,rfl,?_,Ac⟩;refine PcW.own (PcW.kept HP.out (W':=zrf (W.setCell ⟨w.heap.size,0,none⟩ (.slice a7 (SX.pieces S).length c7)) Ds) (λg c J=>?_) λxs hx=>?_) Ac (λj hj=>(hz j hj).2)
   .rw[z5w Ds _ A9 (c:=c) (e:=93) ?_]
    .exact Below.heap_setCell W ⟨w.heap.size,0,none⟩ _ g (λe=>by rw[e] at J;have h2:W.heap[w.heap.size]? =some _:=HV.out;rw[J] at h2;cases h2)
    .rw[Below.heap_setCell W ⟨w.heap.size,0,none⟩ _ g (λe=>by rw[e] at J;have h2:W.heap[w.heap.size]? =some _:=HV.out;rw[J] at h2;cases h2)];exact J
   .exact z04 (z0y hx (z0e hx HV.out (by decide)) _ _) λg c J=>z5w Ds _ A9 J
end
section
open Go.RowKit
structure HSt (w0 w:World) (hb:Nat) (Z:Nat->Prop) (mark:Int) (S:List Sr):Prop where
 hd:HdI w hb Z mark S
 bel:Below w0.heap.size w0 w
 low:∀j,Z j->w0.heap.size<=j
section
variable {w0 w w' : World} {hb : Nat} {Z : Nat → Prop} {mark mark' : Int} {S S' : List Sr}
theorem HSt.below (h:HSt w0 w hb Z mark S)(k:Below w.heap.size w w'):HSt w0 w' hb Z mark S:=⟨h.hd.below k,z0u h.bel k,h.low⟩
theorem HSt.step (h:HSt w0 w hb Z mark S)(q:HdI w' hb (wid Z w w') mark' S')(hf:ZFr Z w w'):HSt w0 w' hb (wid Z w w') mark' S':=
 ⟨q,h.bel.trans (hf.low h.bel.size h.low),λj G=>by
  rcases G with e|e
  .exact h.low j e
  .exact qi h.bel.size e.1⟩
end
theorem HSt.new (mark:Int)(w:World):HSt w (w.alloc (.cells #[.int .i64 mark,.slice none 0 0] 165)) w.heap.size (λj=>w.heap.size<=j/\j<w.heap.size+1) mark []:=
 ⟨HdI.new mark w,(Below.refl _ w).alloc (qq _) _,λ_ h=>h.1⟩
end
section
open Go.RowKit
theorem ZFr.mono {Z Z':Nat->Prop}{w w':World}(h:ZFr Z w w')(k:∀j,Z j->Z' j):ZFr Z' w w':=⟨h.os,h.tape,h.output,h.size,λj q G=>h.block j q (λe=>G (k j e))⟩
theorem z5R.step {w w':World}{Z:Nat->Prop}{q:Option Addr}{l:List (List Sr)}(h:z5R w Z q l)(G:ZFr Z w w'):z5R w' (wid Z w w') q l:=
 (h.wide (Z':=wid Z w w') λj J=>by rcases J with e | e;exact .inl e;exact .inr e.1).kept (G.mono λ_ e=> .inl e)
theorem z8l (mark:Int)(O:Nat)(v:Value)(S:List Sr)(w:World)(h:z0a w O v S)(hb:O<=w.heap.size)(hG:HD.Good S)(Ah:S.length<=60)(hm:∀x∈S,∀s∈x.2,mark<s.1):
  Calls q6 57 #[.int .i64 mark,v] w λe w'=>∃hb,e= .returned (.pointer (some ⟨hb,0,none⟩))/\∃Z,HSt w w' hb Z mark S:=by
 have A5:Below w.heap.size w (w.alloc (.cells #[.int .i64 mark,.slice none 0 0] 165)):=(Below.refl _ w).alloc (qq _) _;have HN:=hid (z6o mark w);have A1:∀i,i<S.length->0<(z03 S i).2.length/\(z03 S i).2.length<=100000:=λi hi=>by
  have J:=hG.ok _ (HD.at_mem S i hi);exact⟨J.2.2.1,by have:=z2a J.2.1;omega⟩
 have HP:=hid (z7R (λj=>w.heap.size<=j/\j<w.heap.size+1) O v S w (w.alloc (.cells #[.int .i64 mark,.slice none 0 0] 165)) h A5 (λj hj=>⟨.inr hj.1,by simp;omega⟩) (by omega) A1);have HH:=hid (HSt.new mark w);have q:=SX.z4h (mark:=mark) S [] (by simpa using hG) (by simpa using Ah) hm;have HA:=hid q;have A6:=hid hG;obtain⟨xs,Ai,A7,_⟩:=h;obtain⟨ao,cap,rfl⟩:=z02 A7;clear A5 A1 q Ai A7 hG hm;go_enter func57,ntmps57;go_wp2_with fail;refine HN.out.mono ?_;rintro e w1 ⟨rfl,rfl⟩;go_wp2_with fail;refine HP.out.mono ?_;rintro e w2 ⟨v2,rfl,A8,A9⟩;obtain⟨po,pc,rfl,G⟩:=A8.out (λj hj=>by simp;omega);have A2:=HH.out.below A9;have Aj:=hid (λp (hp:p∈SX.pieces S)=>SX.z3i hp);have Ac:SX.z9y mark (SX.pieces S) []=some S:=by have:=HA.out;rwa[r6] at this
 have Aw:(SX.pieces S).length<=1000000:=by
  have h1:=z1i S S.length (λk hk=>by have:=z2a (A6.out.ok _ (HD.at_mem S k hk)).2.1;omega) (qq _);rw[qD] at h1;omega
 generalize SX.pieces S=ps at*;have Ak:=hid G;have Al:=hid A2;have Am:=hid Ac;clear A8 A9 G A2 Ac HA HP HN HH;generalize w.alloc (.cells #[.int .i64 mark,.slice none 0 0] 165)=w1 at*;go_wp2_with fail;go_loopw [13] (λti wr=>∃(i:Nat) (Z:Nat->Prop) (Si:List Sr),i<=ps.length/\ti= .int .i64 i/\HSt w wr w.heap.size Z mark Si/\HD.Good Si/\z5R wr Z po ps/\SX.z9y mark (ps.drop i) Si=some S) (λti _=>ps.length-(intOf ti).toNat)
 case atStart=>exact⟨0,_,[],qh _,rfl,Al.out,HD.Good.nil,Ak.out,by rw[List.drop_zero];exact Am.out⟩
 case round=>
  obtain⟨i,Z,Si,hi,rfl,U,hg,G,q⟩:=hrel;by_cases V:i<ps.length
  .have A3:ps.getD i []∈ps:=by rw[q7,qw V];exact qK V
   obtain⟨x,Ao,c,Y,Av,Ad⟩:=Aj.out _ A3;have J:=A6.out.ok x Ao;have hdr:ps.drop i=ps.getD i []::ps.drop (i+1):=by
    rw[List.drop_eq_getElem_cons V,q7,qw V];rfl
   rw[hdr,SX.z9y] at q;have Ae:(HD.app mark Si (ps.getD i [])).1=(0, -1):=by
    by_cases e:(HD.app mark Si (ps.getD i [])).1=(0, -1)
    .exact e
    .rw[if_neg e] at q;cases q
   rw[if_pos Ae] at q;obtain⟨b,off,rfl,Ax,_,so,sc,m1,Af⟩:=G i V;have hR:∀y∈ps.getD i [],∀s∈y.2,CL.Rs s:=λy hy s hs=>by
    rw[Y] at hy;obtain rfl:=qk.1 hy;exact J.2.2.2 s (Ad s hs)
   have Ay:=z0T J.1;have HC:=hid (z2F w.heap.size Z mark Si (ps.getD i []) so sc wr U.hd hg Af (by rw[Y];simp) (λk hk=>by
    rw[Y] at hk ⊢;obtain rfl:k=0:=by simpa using hk
    exact⟨by show x.1.length<=1000;omega,by show c.length<=1000;omega⟩) (λk hk=>hR _ (HD.at_mem _ k hk)))
   have HSt:=hid U;have HG:=hid (HD.z6g (mark:=mark) hg hR);have Ap:=hid G;have Aq:=hid q;have Az:0<=(i:Int)/\(i:Int)<(ps.length:Int):=by omega
   clear U hg G q Ae Y Af hdr hR J Ad A3;generalize ps.getD i []=pp at*;go_wp2_with fail;refine HC.out.mono ?_;rintro e w3 ⟨⟨ev,rfl,_⟩,Ag,A4⟩;have Ar:=hid (HSt.out.step Ag A4);have Au:=hid (Ap.out.step A4);clear Ag A4 HC;go_wp2_with fail;go_roundw
   case rel=>exact⟨i+1,_,_,by omega,by go_num,Ar.out,HG.out,Au.out,Aq.out⟩
   case measure=>simp[intOf];omega
  .have he:i=ps.length:=by omega
   subst he;rw[List.drop_length] at q;cases q;have HSt:=hid U;clear U hg G;go_wp2_with fail;go_ret;exact⟨_,rfl,_,HSt.out⟩
end
section
open Go.RowKit
theorem zcA (ao:Option Addr)(l:List Sr)(cap:Nat)(w:World)(hS:z0r w ao l)(G:z8p l)(J:∀i,i<l.length->okS (z03 l i)=true)(hW:z0X w)(hG:1<w.heap.size)(hz:(SX.txt (.came l)).size<=1000000000000):
  Calls q6 56 #[.slice ao l.length cap] w λe w'=>e= .returned (.string (SX.txt (.came l)))/\Below w.heap.size w w':=by
 have O:Below w.heap.size w (w.alloc (.cells #[.slice none 0 0] 148)):=(Below.refl _ w).alloc (qq _) _;have HC:=hid (z0B w.heap.size 2 [] _ (CWr.new w) (by simp) (by omega) (by omega));have U:=hid O;have HS:=hid hS;have A3:=hid G;have A4:=hid J;have A5:=hid hW;have HZ:=hid hz;clear hS G J hW O hz;go_enter func56,ntmps56;go_wp2_with fail;refine HC.out.mono ?_;rintro e w1 ⟨rfl,hw,V⟩;have A6:=hid hw;have h:=U.out.trans V.below;have A7:=hid h;have Y:=hid (zdb ao l cap w1 (HS.out.below h) A3.out (z0X.below A5.out h hG) (qe hG h.size));clear hw V HC U h;go_wp2_with fail;refine Y.out.mono ?_;rintro e w2 ⟨q,⟨_,rfl⟩|⟨i,b,h1,_,h2,_⟩⟩
 .have A1:=hid (z2y w.heap.size _ w2 (A6.out.kept q));have A8:=hid (z0u A7.out q);clear q Y;go_wp2_with fail;refine A1.out.mono ?_;rintro e w3 ⟨rfl,A2⟩;have A9:=hid (z0u A8.out A2);clear A2 A1;have he:sb ([]++CD.wN 2)++sb (CD.z7y chE (l.map z2B))=SX.txt (.came l):=by rw[z4A];rfl
  have hs:¬9223372036854775807<(sb ([]++CD.wN 2)).size+(sb (CD.z7y chE (l.map z2B))).size:=by
   have:=HZ.out;rw[<-he,qC] at this;omega
  have HE:=hid he;clear he;generalize sb ([]++CD.wN 2)=s1 at*;generalize sb (CD.z7y chE (l.map z2B))=s2 at*;go_wp2_with fail;go_ret;exact⟨by rw[<-HE.out];rfl,A9.out⟩
 .rw[A4.out i h1] at h2;cases h2
structure GI (w:World) (o:Obj) (W:World) (L:List UInt8):Prop where
 cw:CWr (w.heap.size+1) W L
 box:W.heap[w.heap.size]? =some o
 bel:Below w.heap.size w W
theorem GI.step {w W W':World}{c:Array Value}{t:qn}{L L':List UInt8}(h:GI w (.cells c t) W L)(q:t≠5)(k:CWr (w.heap.size+1) W' L')(f:WFr (w.heap.size+1) W W'):GI w (.cells c t) W' L':=
 ⟨k,f.other h.box q (by omega),h.bel.trans (f.below.mono (by omega))⟩
theorem GI.below {w W W':World}{o:Obj}{L:List UInt8}(h:GI w o W L)(k:Below W.heap.size W W'):GI w o W' L:=
 ⟨h.cw.kept k,(k.block _ (z00 h.box)).trans h.box,z0u h.bel k⟩
abbrev gnV (mo:Option Addr)(mc:Nat)(g:Gn):Value:= .agg #[.slice mo g.M.length mc,.int .i64 g.fr,.int .i64 g.tt]
theorem zaz (M:List LB.Mat)(i:Nat)(h:i<M.length):(M.take (i+1)).flatMap SX.eM=(M.take i).flatMap SX.eM++SX.eM (LB.am M i):=by
 rw[wJ,qw h,tQ];simp[LB.am,q7,qw h]
theorem ziZ (below:Int)(g:Gn)(mo:Option Addr)(mc:Nat)(w:World)(hM:z3s w mo g.M)(hm:g.M.length<=1000)(h1: -9223372036854775808<=below/\below<=9223372036854775807)(h2: -9223372036854775808<=g.fr/\g.fr<=9223372036854775807)(h3: -9223372036854775808<=g.tt/\g.tt<=9223372036854775807)(h4:∀i,i<g.M.length->(LB.am g.M i).nm.size<=1000/\(LB.am g.M i).vl.size<=1000/\ -9223372036854775808<=(LB.am g.M i).op/\(LB.am g.M i).op<=9223372036854775807):
  Calls q6 36 #[.int .i64 below,gnV mo mc g] w λe w'=>e= .returned (.string (SX.txt (.gone ⟨below,g⟩)))/\Below w.heap.size w w':=by
 obtain⟨M,fr,tt⟩:=g;simp only[gnV] at*;have A5:Below w.heap.size w ((w.alloc (.cells #[.slice mo M.length mc,.int .i64 fr,.int .i64 tt] 25)).alloc (.cells #[.slice none 0 0] 148)):=((Below.refl _ w).alloc (qq _) _).alloc (by simp) _;have G:((w.alloc (.cells #[.slice mo M.length mc,.int .i64 fr,.int .i64 tt] 25)).alloc (.cells #[.slice none 0 0] 148)).heap[w.heap.size]? =some (.cells #[.slice mo M.length mc,.int .i64 fr,.int .i64 tt] 25):=(Below.heap_alloc _ _ _ (by simp)).trans (qu w _);have Y:=CWr.new (w.alloc (.cells #[.slice mo M.length mc,.int .i64 fr,.int .i64 tt] 25));simp only[rj] at Y;have A6:=hid A5;have HX:=hid G;have HM:=hid hM;have H4:=hid h4;have A7:=hid Y;clear hM h4 A5 G Y;go_enter func36,ntmps36;go_wp2_with fail;generalize (w.alloc (.cells #[.slice mo M.length mc,.int .i64 fr,.int .i64 tt] 25)).alloc (.cells #[.slice none 0 0] 148)=w1 at*;have g1:GI w (.cells #[.slice mo M.length mc,.int .i64 fr,.int .i64 tt] 25) w1 []:=⟨A7.out,HX.out,A6.out⟩;refine(z0B (w.heap.size+1) 3 [] w1 g1.cw (by simp) (by omega) (by omega)).mono ?_;rintro e w2 ⟨rfl,A8,A9⟩;have g2:=g1.step (by decide) A8 A9;clear A8 A9 g1 A7 HX A6;have l2:([]++CD.wN 3).length=8:=by rw[r6,CD.z06]
 have q:=hid (z0B (w.heap.size+1) below _ w2 g2.cw (by omega) h1.1 h1.2);have G2:=hid g2;clear g2;go_wp2_with fail;refine q.out.mono ?_;rintro e w3 ⟨rfl,Ac,Ad⟩;have g3:=G2.out.step (by decide) Ac Ad;clear Ac Ad q G2;have l3:(([]++CD.wN 3)++CD.wN below).length=16:=by rw[q8,l2,CD.z06]
 have q:=hid (z0B (w.heap.size+1) fr _ w3 g3.cw (by omega) h2.1 h2.2);have c1:w3.cell? ⟨w.heap.size,1,none⟩=some (.int .i64 fr):=z01 _ _ _ _ g3.box 1 _ rfl;have G3:=hid g3;clear g3;go_wp2_with fail;refine q.out.mono ?_;rintro e w4 ⟨rfl,Ae,Af⟩;have g4:=G3.out.step (by decide) Ae Af;clear Ae Af q G3 c1;have l4:((([]++CD.wN 3)++CD.wN below)++CD.wN fr).length=24:=by rw[q8,l3,CD.z06]
 have q:=hid (z0B (w.heap.size+1) tt _ w4 g4.cw (by omega) h3.1 h3.2);have c1:w4.cell? ⟨w.heap.size,2,none⟩=some (.int .i64 tt):=z01 _ _ _ _ g4.box 2 _ rfl;have G4:=hid g4;clear g4;go_wp2_with fail;refine q.out.mono ?_;rintro e w5 ⟨rfl,Ag,Ah⟩;have g5:=G4.out.step (by decide) Ag Ah;clear Ag Ah q G4 c1;have l5:(((([]++CD.wN 3)++CD.wN below)++CD.wN fr)++CD.wN tt).length=32:=by rw[q8,l4,CD.z06]
 have q:=hid (z0B (w.heap.size+1) (M.length:Int) _ w5 g5.cw (by omega) (by omega) (by omega));have c1:w5.cell? ⟨w.heap.size,0,none⟩=some (.slice mo M.length mc):=z01 _ _ _ _ g5.box 0 _ rfl;have G5:=hid g5;clear g5;go_wp2_with fail;refine q.out.mono ?_;rintro e w6 ⟨rfl,Ai,Aj⟩;have g6:=G5.out.step (by decide) Ai Aj;clear Ai Aj q G5 c1;have c1:w6.cell? ⟨w.heap.size,0,none⟩=some (.slice mo M.length mc):=z01 _ _ _ _ g6.box 0 _ rfl;have hP:((((([]++CD.wN 3)++CD.wN below)++CD.wN fr)++CD.wN tt)++CD.wN (M.length:Int))++M.flatMap SX.eM=SX.enc (.gone ⟨below,⟨M,fr,tt⟩⟩):=by
  simp only[SX.enc,r6,qm]
 have l6:((((([]++CD.wN 3)++CD.wN below)++CD.wN fr)++CD.wN tt)++CD.wN (M.length:Int)).length=40:=by rw[q8,l5,CD.z06]
 generalize ((((([]++CD.wN 3)++CD.wN below)++CD.wN fr)++CD.wN tt)++CD.wN (M.length:Int))=P at*;have G6:=hid g6;have HP:=hid hP;have Ar:P.length<=40:=by omega
 clear g6 l2 l3 l4 l5 hP l6;go_wp2_with fail;go_loopw [24] (λti wr=>∃i:Nat,i<=M.length/\ti= .int .i64 i/\GI w (.cells #[.slice mo M.length mc,.int .i64 fr,.int .i64 tt] 25) wr (P++(M.take i).flatMap SX.eM)/\(P++(M.take i).flatMap SX.eM).length<=40+3000*i) (λti _=>M.length-(intOf ti).toNat)
 case atStart=>exact⟨0,qh _,rfl,by simpa using G6.out,by simpa using Ar⟩
 case round=>
  obtain⟨i,hi,rfl,h,U⟩:=hrel;have Au:=hid h;by_cases A1:i<M.length
  .obtain⟨b,off,rfl,m1,m2,m3,A2⟩:=HM.out i A1;obtain⟨q1,q2,q3,q4⟩:=H4.out i A1;have HF:=hid (zaz M i A1);have Ax:(SX.eM (LB.am M i)).length<=3000:=by
    unfold SX.eM;rw[q8,q8,CD.z0S,CD.z0S,CD.z06,WL.size_data,WL.size_data];omega
   have Ak:Hid (SX.eM (LB.am M i)=CD.wT (LB.am M i).nm.data.toList++(CD.wN (LB.am M i).op++CD.wT (LB.am M i).vl.data.toList)):=rfl;have n1:=(h.bel.cell (p:=⟨b,off+i*3,none⟩) A2).trans m1;have n2:=(h.bel.cell (p:=⟨b,off+i*3+1,none⟩) A2).trans m2;have n3:=(h.bel.cell (p:=⟨b,off+i*3+2,none⟩) A2).trans m3;have Ay:0<=(i:Int)/\(i:Int)<(M.length:Int):=by omega
   generalize LB.am M i=mm at*;obtain⟨nm,op,vl⟩:=mm;simp only at q1 q2 q3 q4 m1 m2 m3 n1 n2 n3 Ak;obtain⟨L,hL⟩:∃L,P++(M.take i).flatMap SX.eM=L:=⟨_,rfl⟩;rw[hL] at h U;have HL:=hid hL;have G:Below wr.heap.size wr (wr.alloc (.cells #[.string nm,.int .i64 op,.string vl] 62)):=(Below.refl _ wr).alloc (qq _) _;have J:=h.below G;have O:(wr.alloc (.cells #[.string nm,.int .i64 op,.string vl] 62)).heap[wr.heap.size]? =some (.cells #[.string nm,.int .i64 op,.string vl] 62):=qu wr _;have Al:wr.heap.size≠w.heap.size+1:=by have:=h.cw.lt;omega
   clear hL m1 m2 m3 h G;have q:=hid (z3y (w.heap.size+1) nm L _ J.cw (by omega) (by omega));have V:=hid J;have GX:=hid O;clear J O;go_wp2_with fail;refine q.out.mono ?_;rintro e wa ⟨rfl,Am,A3⟩;have J:=V.out.step (by decide) Am A3;have O:=A3.other GX.out (by decide) Al;clear Am A3 q V GX;have c3:wa.cell? ⟨wr.heap.size,1,none⟩=some (.int .i64 op):=z01 _ _ _ _ O 1 _ rfl;have la:(L++CD.wT nm.data.toList).length<=100000000:=by rw[q8,CD.z0S,WL.size_data];omega
   have q:=hid (z0B (w.heap.size+1) op _ wa J.cw (by omega) q3 q4);have V:=hid J;have GX:=hid O;clear J O;go_wp2_with fail;refine q.out.mono ?_;rintro e wb ⟨rfl,Ao,A4⟩;have J:=V.out.step (by decide) Ao A4;have O:=A4.other GX.out (by decide) Al;clear Ao A4 q V GX c3;have c3:wb.cell? ⟨wr.heap.size,2,none⟩=some (.string vl):=z01 _ _ _ _ O 2 _ rfl;have lb:((L++CD.wT nm.data.toList)++CD.wN op).length<=100000008:=by rw[q8,CD.z06];omega
   have q:=hid (z3y (w.heap.size+1) vl _ wb J.cw (by omega) (by omega));have V:=hid J;clear J O;go_wp2_with fail;refine q.out.mono ?_;rintro e wc ⟨rfl,Ap,Aq⟩;have gc:=V.out.step (by decide) Ap Aq;have he:((L++CD.wT nm.data.toList)++CD.wN op)++CD.wT vl.data.toList=P++(M.take (i+1)).flatMap SX.eM:=by
    rw[HF.out,<-qm,HL.out,Ak.out];simp only[qm]
   have Av:(P++(M.take (i+1)).flatMap SX.eM).length<=40+3000*(i+1):=by
    rw[HF.out,<-qm,HL.out,q8];omega
   rw[he] at gc;have GC:=hid gc;clear gc Ap Aq q V c3 he la lb;go_wp2_with fail;go_roundw
   case rel=>exact⟨i+1,by omega,by go_num,GC.out,Av⟩
   case measure=>simp[intOf];omega
  .have he:i=M.length:=by omega
   subst he;rw[qD,HP.out] at h;have q:=hid (z2y (w.heap.size+1) _ wr h.cw);have HB:=hid h.bel;clear h Au U;go_wp2_with fail;refine q.out.mono ?_;rintro e w7 ⟨rfl,Aw⟩;go_wp2_with fail;go_ret;exact⟨rfl,z0u HB.out Aw⟩
end
section
open Go.Maps Go.RowKit
abbrev kI (s:Int):Lit:= .int .i64 s
theorem zh6 {s t:Int}(h:kI s=kI t):s=t:=by
 simp only[kI,rX.injEq,true_and] at h;exact h
theorem zkl (s:Int):WideAt.IsKeyLit (kI s):=trivial
theorem zbK (s t:Int):(kI s).sameKey (kI t)=decide (s=t):=by
 by_cases h:s=t
 .subst h;simp[yD]
 .rw[decide_eq_false h];exact sameKey_ne λe=>h (zh6 e)
def z1J (D:DataW Value)(f:Int->Option Value):Prop:=
 IsMap D/\∀s,(f s=none->has D (kI s)=false)/\∀v,f s=some v->has D (kI s)=true/\∀z,D.atKey (kI s) z= .held v
def ze7 (f:Int->Option Value)(s:Int)(v:Value):Int->Option Value:=λt=>if t=s then some v else f t
theorem z4p (f:Int->Option Value)(s:Int)(v:Value):ze7 f s v s=some v:=by unfold ze7;rw[if_pos rfl]
theorem z1m (f:Int->Option Value)(s t:Int)(v:Value)(h:t≠s):ze7 f s v t=f t:=by unfold ze7;rw[if_neg h]
theorem z1J.none:z1J (.map []) λ_=>none:=⟨isMap_empty,λ_=>⟨λ_=>rfl,λ_ h=>by cases h⟩⟩
theorem z1J.put {D:DataW Value}{f:Int->Option Value}(h:z1J D f)(s:Int)(v:Value):z1J (D.put (kI s) (.held v)) (ze7 f s v):=by
 refine⟨h.1.put _ _,λt=>?_⟩;by_cases e:t=s
 .subst e;rw[z4p];refine⟨λh=>(by cases h),λv' G=>?_⟩;cases G;exact⟨has_put_same h.1 (zkl t) _,λz=>atKey_put_same h.1 (zkl t) _ z⟩
 .rw[z1m _ _ _ _ e];have q:kI t≠kI s:=λJ=>e (zh6 J)
  rw[has_put_other q];refine⟨(h.2 t).1,λv' G=>⟨((h.2 t).2 v' G).1,λz=>?_⟩⟩;rw[atKey_put_other q];exact((h.2 t).2 v' G).2 z
def z1x (P:rM)(k:qn)(w:World)(b n:Nat)(f:Int->Option Value):Prop:=∃D,w.ownsMap P k z0D b n D/\z1J D f
section
variable {P : Program} {k : TypeId} {w : World} {b n : Nat} {f : Int → Option Value}
theorem z1x.made (w:World)(P:rM)(k:qn):z1x P k (w.alloc (.map #[] 0)) w.heap.size 0 λ_=>none:=⟨_,World.ownsMap_made w P k z0D,z1J.none⟩
theorem z1x.mono (h:z1x P k w b n f){q:Nat}(G:n<=q):z1x P k w b q f:=by
 obtain⟨D,h1,J⟩:=h;exact⟨D,h1.mono G,J⟩
theorem z1x.lt (h:z1x P k w b n f):b<w.heap.size:=by
 obtain⟨D,h1,_⟩:=h;exact h1.lt
theorem z1x.isMap (h:z1x P k w b n f):∃G q,w.heap[b]? =some (.map G q):=by
 obtain⟨D,⟨G,q,J,_⟩,_⟩:=h;exact⟨G,q,J⟩
theorem z1x.block {w':World}(h:z1x P k w b n f)(hb:w'.heap[b]? =w.heap[b]?):z1x P k w' b n f:=by
 obtain⟨D,⟨G,q,J,O⟩,U⟩:=h;exact⟨D,⟨G,q,hb.trans J,O⟩,U⟩
theorem z1x.kept {w':World}{row:Option Nat}(h:z1x P k w b n f)(G:w.grownBy w' row)(q:some b≠row):z1x P k w' b n f:=h.block (G.block b h.lt q)
theorem z1x.alloc (h:z1x P k w b n f)(o:Obj):z1x P k (w.alloc o) b n f:=h.kept (eZ w o none) (by simp)
theorem z1x.below {w':World}{B:Nat}(h:z1x P k w b n f)(hb:Below B w w')(q:b<B):z1x P k w' b n f:=h.block (hb.block b q)
theorem z1x.look (h:z1x P k w b n f){t e:qn}(q:P.underlying k=some (.int .i64))(U:P.underlying t=some (.map k e)){z:Value}(V:∀W,(oW e).run P W= .ok z W){s:Int}(Y:(rX .i64 s).wf=true){u:Value}(J:(f s).getD z=u):
  (iE t (.map (some b)) (.int .i64 s) false).run P w= .ok u w:=by
 obtain⟨D,h1,h2⟩:=h;obtain⟨v,ps,G,hv⟩:=h1.lookup (int_keyed q) U (V w) (zd:= .held z) (zp:=[]) rfl (key:= .int .i64 s) (keyOf_int_mk q Y);have e1:v=u:=by
  have O:uI v=D.atKey (kI s) (.held z):=congrArg y5 (qt hv);cases hf:f s with
  | none=>
   rw[atKey_of_not_has (((h2.2 s).1 hf))] at O;rw[hf] at J;rw[<-J];exact wF O
  | some v'=>
   rw[((h2.2 s).2 v' hf).2] at O;rw[hf] at J;rw[<-J];exact wF O
 rw[<-e1];exact G
theorem z1U {ops:Array Oper}{rest:List Oper}{o:Oper}{a:Act}{Q:Exit->Act->World->Prop}
  (Y:o.guard=none) (m x:r9) (t:qn) (U:o.op=Op.lookup t m x false)
  (k e:qn) (h:P.underlying k=some (.int .i64)) (ht:P.underlying t=some (.map k e)) (z:Value) (hz:(oW e).run P w= .ok z w) (b n:Nat) (f:Int->Option Value)
  (hm:a.eval m= .map (some b)) (q:z1x P k w b n f) (s:Int) (hs:(rX .i64 s).wf=true) (hx:a.eval x= .int .i64 s) (u:Value) (J:(f s).getD z=u)
  (hK:eG P ops Q rest (a.put o.dst u) w):
  eG P ops Q (o::rest) a w:=by
 refine wpList_plain Y λK' V=>?_
 obtain⟨D,h1,h2⟩:=q;obtain⟨v,ps,G,hv⟩:=h1.lookup (int_keyed h) ht hz (zd:= .held z) (zp:=[]) rfl (key:= .int .i64 s) (keyOf_int_mk h hs);have e1:v=u:=by
  have O:uI v=D.atKey (kI s) (.held z):=congrArg y5 (qt hv);cases hf:f s with
  | none=>
   rw[atKey_of_not_has (((h2.2 s).1 hf))] at O;rw[hf] at J;rw[<-J];exact wF O
  | some v'=>
   rw[((h2.2 s).2 v' hf).2] at O;rw[hf] at J;rw[<-J];exact wF O
 subst e1;unfold Oper.wp;simp[execOp,U,hm,hx,G,Result.andThen];exact V _ _ hK
theorem z2i {ops:Array Oper}{rest:List Oper}{o:Oper}{a:Act}{Q:Exit->Act->World->Prop}
  (J:o.guard=none) (m x v:r9) (t:qn) (G:o.op=Op.mapUpdate t m x v)
  (k e:qn) (h:P.underlying k=some (.int .i64)) (O:P.underlying t=some (.map k e)) (b n:Nat) (f:Int->Option Value)
  (U:a.eval m= .map (some b)) (q:z1x P k w b n f) (V:n<qS) (s:Int) (Y:(rX .i64 s).wf=true) (u:Value) (hx:a.eval x= .int .i64 s) (hv:a.eval v=u)
  (hK:∀w',z1x P k w' b (n+1) (ze7 f s u)->w.grownBy w' (some b)->eG P ops Q rest (a.put o.dst undef) w'):
  eG P ops Q (o::rest) a w:=by
 obtain⟨D,h1,h2⟩:=q;exact wpList_mapUpdate_own w J m x v t G k e (int_keyed h) O z0D b n D U h1 V (.int .i64 s) u (kI s) hx hv (keyOf_int_mk h Y) (.held u) [] rfl
  (λw' h3 h4=>hK w' ⟨_,h3,h2.put s u⟩ h4)
def z9s (f:Int->Option Value)(left:Lit->Bool)(ks:List Int):Prop:=ks.Nodup/\∀s,s∈ks↔(f s≠none/\left (kI s)=false)
theorem z9s.start {D:DataW Value}(h:z1J D f):z9s f (has D) []:=by
 refine⟨List.nodup_nil,λs=>?_⟩;constructor
 .intro h;simp at h
 .rintro⟨G,q⟩;cases hf:f s with
  | none=>exact absurd hf G
  | some v=>rw[((h.2 s).2 v hf).1] at q;cases q
theorem z9s.step {left:Lit->Bool}{G:List Int}(h:z9s f left G){s:Int}{v:Value}(O:f s=some v)(U:left (kI s)=true):z9s f (λz=>left z&& !z.sameKey (kI s)) (G++[s]):=by
 have q:s∉G:=λV=>by have:=((h.2 s).1 V).2;rw[U] at this;cases this
 refine⟨List.nodup_append.2 ⟨h.1,by simp,λa Y b hb=>by simp at hb;subst hb;exact λe=>q (e▸Y)⟩,λt=>?_⟩;rw[List.mem_append,qk,h.2 t];have J:=zbK t s;by_cases e:t=s
 .subst e;simp only[O,J];simp
 .rw[decide_eq_false e] at J;simp[J,e]
theorem z9s.all {left:Lit->Bool}{ks:List Int}(h:z9s f left ks)(q:∀kl,left kl=false):ks.Nodup/\∀s,s∈ks↔f s≠none:=
 ⟨h.1,λs=>by rw[h.2 s,q];simp⟩
def zcQ (P:rM)(k:qn)(w:World)(b r n:Nat)(f:Int->Option Value)(h:List Int)(cnt:Nat):Prop:=
 ∃D left,w.ranges P k z0D b r n D left cnt/\z1J D f/\z9s f left h
theorem zcQ.kept {w':World}{r cnt:Nat}{J:List Int}{row:Option Nat}(h:zcQ P k w b r n f J cnt)(O:w.grownBy w' row)(q:some b≠row)(G:some r≠row):zcQ P k w' b r n f J cnt:=by
 obtain⟨D,left,h1,U,V⟩:=h;exact⟨D,left,h1.kept O q G,U,V⟩
theorem zcQ.alloc {r cnt:Nat}{q:List Int}(h:zcQ P k w b r n f q cnt)(o:Obj):zcQ P k (w.alloc o) b r n f q cnt:=h.kept (eZ w o none) (by simp) (by simp)
theorem zcQ.left {r cnt:Nat}{q:List Int}(h:zcQ P k w b r n f q cnt):w.rangeLeft b r=cnt:=by
 obtain⟨D,left,h1,_⟩:=h;exact h1.left_eq
theorem zcQ.iter {r cnt:Nat}{J:List Int}(h:zcQ P k w b r n f J cnt):∃i s c d,w.heap[r]? =some (.mapIter i s c d):=by
 obtain⟨D,left,⟨U,q,G,seen,c0,_,_,_,_,O,_⟩,_⟩:=h;exact⟨_,_,_,_,O⟩
theorem z7H {ops:Array Oper}{rest:List Oper}{o:Oper}{a:Act}{Q:Exit->Act->World->Prop}
  (O:o.guard=none) (m:r9) (t:qn) (q:o.op=Op.range t m) (k e:qn) (G:P.underlying k=some (.int .i64)) (U:P.underlying t=some (.map k e)) (b n:Nat) (f:Int->Option Value)
  (V:a.eval m= .map (some b)) (h:z1x P k w b n f)
  (Y:∀w' cnt,zcQ P k w' b w.heap.size n f [] cnt->w.grownBy w' none->w'.heap.size=w.heap.size+1->eG P ops Q rest (a.put o.dst (.pointer (some ⟨w.heap.size,0,none⟩))) w'):
  eG P ops Q (o::rest) a w:=by
 obtain⟨D,h1,J⟩:=h;exact pu w O m t q k e (int_keyed G) U z0D b n D V h1 (λw' h3 h4 h5=>Y w' _ ⟨D,_,h3,J,z9s.start J⟩ h4 h5)
theorem z98 {ops:Array Oper}{rest:List Oper}{o:Oper}{a:Act}{Q:Exit->Act->World->Prop}
  (hg:o.guard=none) (it:r9) (A1:o.op=Op.next it false) (k:qn) (G:P.underlying k=some (.int .i64)) (b r n:Nat) (f:Int->Option Value) (ks:List Int) (cnt:Nat)
  (A2:a.eval it= .pointer (some ⟨r,0,none⟩)) (h:zcQ P k w b r n f ks cnt)
  (J:ks.Nodup->(∀s,s∈ks↔f s≠none)->eG P ops Q rest (a.put o.dst (.tuple #[.bool false])) w)
  (O:∀(s:Int) (v:Value) (w':World) (cnt':Nat),(rX .i64 s).wf=true->f s=some v->s∉ks->zcQ P k w' b r n f (ks++[s]) cnt'->cnt'<cnt->
   w.grownBy w' (some r)->w'.heap.size=w.heap.size->(oC (.pointer (some ⟨r,0,none⟩))).run P w'= .ok (.tuple #[.int .i64 s,v]) w'->eG P ops Q rest (a.put o.dst (.tuple #[.bool true,.int .i64 s,v])) w'):
  eG P ops Q (o::rest) a w:=by
 obtain⟨D,left,h1,h2,h3⟩:=h;refine oG w hg it A1 k (int_keyed G) z0D (wM .i64) id (λkey kl hk=>?_) (λv y _=>⟨v,rfl⟩) b r n D left cnt A2 h1 (λ_ hl=>J (h3.all hl).1 (h3.all hl).2) ?_
 .cases key<;>simp[keyOf,G,iJ] at hk
  first | (obtain⟨rfl,_⟩:=hk;exact⟨_,rfl⟩) | (obtain⟨⟨rfl,_⟩,_⟩:=hk;exact⟨_,rfl⟩)
 .intro s v kl y w' cnt' q U hv V A3 A4 A5 A6 A7;have hs:(rX .i64 s).wf=true/\kl=kI s:=by
   simp[keyOf,G,iJ] at q;exact⟨q.1,q.2.symm⟩
  obtain⟨A8,rfl⟩:=hs;have ey:y=(.held v,[]):=(qt hv).symm;subst ey;have Y:f s=some v:=by
   cases Y:f s with
   | none=>
    have:=(h2.2 s).1 Y;rw[has_true_of_atKey V] at this;cases this
   | some v'=>
    have e1:=((h2.2 s).2 v' Y).2 (.nil);rw[V] at e1;rw[wF e1]
  have hn:s∉ks:=λhx=>by have:=((h3.2 s).1 hx).2;rw[U] at this;cases this
  exact O s v w' cnt' A8 Y hn ⟨D,_,A3,h2,h3.step Y U⟩ A4 A5 A6 A7
end
def zhU (f:Int->Option Value)(s:Int):Int->Option Value:=λt=>if t=s then none else f t
theorem z6J (f:Int->Option Value)(s:Int):zhU f s s=none:=by unfold zhU;rw[if_pos rfl]
theorem z2s (f:Int->Option Value)(s t:Int)(h:t≠s):zhU f s t=f t:=by unfold zhU;rw[if_neg h]
theorem z1J.del {D:DataW Value}{f:Int->Option Value}(h:z1J D f)(s:Int):z1J (D.del (kI s)) (zhU f s):=by
 refine⟨h.1.del _,λt=>?_⟩;by_cases e:t=s
 .subst e;rw[z6J];exact⟨λ_=>has_del_same,λv' G=>by cases G⟩
 .rw[z2s _ _ _ e];have q:kI t≠kI s:=λJ=>e (zh6 J)
  rw[has_del_other q];refine⟨(h.2 t).1,λv' G=>⟨((h.2 t).2 v' G).1,λz=>?_⟩⟩;rw[atKey_del_other q];exact((h.2 t).2 v' G).2 z
section
variable {P : Program} {k : TypeId} {w : World} {b n : Nat} {f : Int → Option Value}
theorem z1x.drop (h:z1x P k w b n f){t e:qn}(q:P.underlying k=some (.int .i64))(Y:P.underlying t=some (.map k e)){s:Int}(hs:(rX .i64 s).wf=true)(U:qn):
  ∃w',(yc #[t,k] U #[.map (some b),.int .i64 s]).run P w= .ok (.tuple #[]) w'/\z1x P k w' b n (zhU f s)/\w.grownBy w' (some b)/\w'.heap.size=w.heap.size:=by
 obtain⟨D,h1,h2⟩:=h;obtain⟨w',G,h3,V⟩:=h1.drop (int_keyed q) Y (key:= .int .i64 s) (keyOf_int_mk q hs) U;refine⟨w',G,⟨_,h3,h2.del s⟩,V.grown,?_⟩;obtain⟨es,O,A1,J,hb,rfl⟩:=V;simp[yt]
theorem z1x.look_ok (h:z1x P k w b n f){t e:qn}(O:P.underlying k=some (.int .i64))(ht:P.underlying t=some (.map k e)){z:Value}(hz:∀W,(oW e).run P W= .ok z W){s:Int}(hs:(rX .i64 s).wf=true){u:Value}(U:(f s).getD z=u){ok:Bool}(G:(f s).isSome=ok):
  (iE t (.map (some b)) (.int .i64 s) true).run P w= .ok (.tuple #[u,.bool ok]) w:=by
 obtain⟨D,h1,h2⟩:=h;obtain⟨v,ps,q,hv⟩:=h1.look_ok (int_keyed O) ht (hz w) (zd:= .held z) (zp:=[]) rfl (key:= .int .i64 s) (keyOf_int_mk O hs);have V:uI v=D.atKey (kI s) (.held z):=congrArg y5 (qt hv);cases hf:f s with
 | none=>
  have Y:=(h2.2 s).1 hf;rw[atKey_of_not_has Y] at V;rw[hf] at U G;have J:has D (.int .i64 s)=false:=Y;rw[J] at q;rw[<-U,<-G];rw[wF V] at q;exact q
 | some v'=>
  have Y:=((h2.2 s).2 v' hf).1;rw[((h2.2 s).2 v' hf).2] at V;rw[hf] at U G;have J:has D (.int .i64 s)=true:=Y;rw[J] at q;rw[<-U,<-G];rw[wF V] at q;exact q
def z4k (P:rM)(k:qn)(w:World)(b r n:Nat)(f:Int->Option Value)(left:Int->Bool)(cnt:Nat):Prop:=
 ∃D lf,w.ranges P k z0D b r n D lf cnt/\z1J D f/\(∀s,left s=lf (kI s))/\∀kl,lf kl=true->∃s,kl=kI s
def z0m (left:Int->Bool)(s:Int):Int->Bool:=λt=>left t&& !decide (t=s)
variable {r cnt : Nat} {left : Int → Bool}
theorem z4k.kept {w':World}{row:Option Nat}(h:z4k P k w b r n f left cnt)(J:w.grownBy w' row)(q:some b≠row)(G:some r≠row):z4k P k w' b r n f left cnt:=by
 obtain⟨D,O,h1,U,V⟩:=h;exact⟨D,O,h1.kept J q G,U,V⟩
theorem z4k.block {w':World}(h:z4k P k w b r n f left cnt)(hb:w'.heap[b]? =w.heap[b]?)(J:w'.heap[r]? =w.heap[r]?):z4k P k w' b r n f left cnt:=by
 obtain⟨D,O,⟨U,q,G,seen,c0,V,Y,a3,a4,a5,a6⟩,h2,h3⟩:=h;exact⟨D,O,⟨U,q,G,seen,c0,hb.trans V,Y,a3,a4,J.trans a5,a6⟩,h2,h3⟩
theorem z4k.left_eq (h:z4k P k w b r n f left cnt):w.rangeLeft b r=cnt:=by
 obtain⟨D,q,h1,_⟩:=h;exact h1.left_eq
theorem z4k.lt (h:z4k P k w b r n f left cnt):r<w.heap.size:=by
 obtain⟨D,q,h1,_⟩:=h;exact h1.lt
theorem z4k.map (h:z4k P k w b r n f left cnt):z1x P k w b n f:=by
 obtain⟨D,G,h1,q,_⟩:=h;exact⟨D,h1.owns,q⟩
theorem z4k.iter (h:z4k P k w b r n f left cnt):∃i s c d,w.heap[r]? =some (.mapIter i s c d):=by
 obtain⟨D,O,⟨U,q,G,seen,c0,_,_,_,_,J,_⟩,_⟩:=h;exact⟨_,_,_,_,J⟩
theorem z4k.drop (h:z4k P k w b r n f left cnt){t e:qn}(q:P.underlying k=some (.int .i64))(Y:P.underlying t=some (.map k e)){s:Int}(hs:(rX .i64 s).wf=true)(U:qn):
  ∃w' cnt',(yc #[t,k] U #[.map (some b),.int .i64 s]).run P w= .ok (.tuple #[]) w'/\z4k P k w' b r n (zhU f s) (z0m left s) cnt'/\cnt'<=cnt/\w.grownBy w' (some b)/\w'.heap.size=w.heap.size:=by
 obtain⟨D,lf,h1,h2,h3,h4⟩:=h;obtain⟨w',cnt',G,r1,r2,V⟩:=h1.drop (int_keyed q) Y (key:= .int .i64 s) (keyOf_int_mk q hs) U;refine⟨w',cnt',G,⟨_,_,r1,h2.del s,λt=>?_,λkl hk=>?_⟩,r2,V.grown,?_⟩
 .show(left t&& !decide (t=s))=(lf (kI t)&& !(kI t).sameKey (kI s));rw[h3,zbK]
 .simp only[qI] at hk;exact h4 kl hk.1
 .obtain⟨es,O,A1,J,hb,rfl⟩:=V;simp[yt]
theorem z3P {ops:Array Oper}{rest:List Oper}{o:Oper}{a:Act}{Q:Exit->Act->World->Prop}
  (hg:o.guard=none) (m:r9) (t:qn) (Y:o.op=Op.range t m) (k e:qn) (G:P.underlying k=some (.int .i64)) (ht:P.underlying t=some (.map k e)) (b n:Nat) (f:Int->Option Value)
  (hm:a.eval m= .map (some b)) (J:z1x P k w b n f)
  (hK:∀w' cnt left,z4k P k w' b w.heap.size n f left cnt->(∀s,left s=(f s).isSome)->cnt<=n->w.grownBy w' none->w'.heap.size=w.heap.size+1->eG P ops Q rest (a.put o.dst (.pointer (some ⟨w.heap.size,0,none⟩))) w'):
  eG P ops Q (o::rest) a w:=by
 obtain⟨D,h1,h2⟩:=J;have A1:=h1.size_le;have A2:∀U,has D U=true->∃s,U=kI s:=by
  intro U O;obtain⟨es,A3,_,F,_,hD⟩:=h1;rw[hD,Maps.has_eq,ya] at O;obtain⟨x,hx,V⟩:=O;have A4:=(pT _).mem_iff.1 hx;obtain⟨y,hy,rfl⟩:=List.mem_map.1 A4;obtain⟨z,hz⟩:=F.reads y hy;have h:=WideElems.rd_key hz;rw[WideElems.rg_of hz] at V;generalize y.key=key at h;cases key<;>simp[keyOf,G,iJ] at h;rename_i kd q;obtain⟨A7,hq⟩:=h;rw[<-hq] at V;refine⟨q,?_⟩;cases U<;>simp[yD] at V;obtain⟨A5,A6⟩:=V;subst A5 A6;rfl
 refine pu w hg m t Y k e (int_keyed G) ht z0D b n D hm h1 (λw' h3 h4 h5=>hK w' _ (λs=>has D (kI s)) ⟨D,_,h3,h2,λ_=>rfl,A2⟩ (λs=>?_) A1 h4 h5);cases hf:f s with
 | none=>exact(h2.2 s).1 hf
 | some v=>exact((h2.2 s).2 v hf).1
theorem z4O {ops:Array Oper}{rest:List Oper}{o:Oper}{a:Act}{Q:Exit->Act->World->Prop}
  (hg:o.guard=none) (it:r9) (A1:o.op=Op.next it false) (k:qn) (G:P.underlying k=some (.int .i64)) (b r n:Nat) (f:Int->Option Value) (left:Int->Bool) (cnt:Nat)
  (A2:a.eval it= .pointer (some ⟨r,0,none⟩)) (h:z4k P k w b r n f left cnt)
  (J:(∀s,left s=false)->eG P ops Q rest (a.put o.dst (.tuple #[.bool false])) w)
  (O:∀(s:Int) (v:Value) (w':World) (cnt':Nat),(rX .i64 s).wf=true->f s=some v->left s=true->z4k P k w' b r n f (z0m left s) cnt'->cnt'<cnt->
   w.grownBy w' (some r)->w'.heap.size=w.heap.size->(oC (.pointer (some ⟨r,0,none⟩))).run P w'= .ok (.tuple #[.int .i64 s,v]) w'->eG P ops Q rest (a.put o.dst (.tuple #[.bool true,.int .i64 s,v])) w'):
  eG P ops Q (o::rest) a w:=by
 obtain⟨D,lf,h1,h2,h3,h4⟩:=h;refine oG w hg it A1 k (int_keyed G) z0D (wM .i64) id (λkey V hk=>?_) (λv y _=>⟨v,rfl⟩) b r n D lf cnt A2 h1 (λ_ hl=>J λs=>by rw[h3];exact hl _) ?_
 .cases key<;>simp[keyOf,G,iJ] at hk
  first | (obtain⟨rfl,_⟩:=hk;exact⟨_,rfl⟩) | (obtain⟨⟨rfl,_⟩,_⟩:=hk;exact⟨_,rfl⟩)
 .intro s v V y w' cnt' q A3 hv U A4 A5 A6 A7 A8;have hs:(rX .i64 s).wf=true/\V=kI s:=by
   simp[keyOf,G,iJ] at q;exact⟨q.1,q.2.symm⟩
  obtain⟨A9,rfl⟩:=hs;have ey:y=(.held v,[]):=(qt hv).symm;subst ey;have Y:f s=some v:=by
   cases Y:f s with
   | none=>
    have:=(h2.2 s).1 Y;rw[has_true_of_atKey U] at this;cases this
   | some v'=>
    have e1:=((h2.2 s).2 v' Y).2 (.nil);rw[U] at e1;rw[wF e1]
  refine O s v w' cnt' A9 Y (by rw[h3];exact A3) ⟨D,_,A4,h2,λt=>?_,λV hk=>?_⟩ A5 A6 A7 A8
  .show(left t&& !decide (t=s))=(lf (kI t)&& !(kI t).sameKey (kI s));rw[h3,zbK]
  .simp only[qI] at hk;exact h4 V hk.1
theorem z8Q (left:Int->Bool)(s:Int):z0m (z0m left s) s=z0m left s:=by
 funext t
 unfold z0m;cases left t<;>cases decide (t=s)<;>rfl
end
end
section
open Go.Shelf
def Tryz.lays169_ren:uk:=⟨fun | 169=>215 | n=>n,fun | 0=>0 | 3=>3 | 5=>5 | 9=>9 | 37=>102 | 70=>293 | 72=>295 | 127=>323 | n=>n,fun | n=>n⟩
theorem Tryz.lays169:oV q6 Tryz.lays169_ren:={
 mixed:=by kernel_rfl
 f169:=func215.trans (congrArg some (by kernel_rfl))
 t0:=underlying0
 a0:=isAgg0
 z0:=sizeOf0
 v0:=zeroValue0
 t3:=underlying3
 a3:=isAgg3
 z3:=sizeOf3
 v3:=zeroValue3
 t9:=underlying9
 a9:=isAgg9
 z9:=sizeOf9
 v9:=zeroValue9
 t37:=underlying102
 a37:=isAgg102
 z37:=sizeOf102
 v37:=zeroValue102
 t70:=underlying293
 a70:=isAgg293
 z70:=sizeOf293
 v70:=zeroValue293
 t72:=underlying295
 a72:=isAgg295
 z72:=sizeOf295
 v72:=zeroValue295
 t127:=underlying323
 a127:=isAgg323
 z127:=sizeOf323
 v127:=zeroValue323}
theorem Tryz.Builder_Extra_169:uh q6 Tryz.lays169_ren:={
 sizeBuilder:=by kernel_rfl
 liesBuilder:=by kernel_rfl
 t5:=underlying5
 a5:=isAgg5
 z5:=sizeOf5
 v5:=zeroValue5
 infoByte:=by kernel_rfl
 cellsByte:=by kernel_rfl
 sizeByte:=by kernel_rfl
 neB5:=by decide}
def Tryz.lays167_ren:uk:=⟨fun | 167=>213 | 240=>249 | 276=>266 | n=>n,fun | 0=>0 | 4=>4 | 5=>5 | 9=>9 | 20=>20 | 37=>102 | 70=>293 | 72=>295 | 75=>35 | 80=>150 | 164=>171 | n=>n,fun | n=>n⟩
theorem Tryz.lays167:oB q6 Tryz.lays167_ren:={
 mixed:=by kernel_rfl
 f167:=func213.trans (congrArg some (by kernel_rfl))
 f240:=func249.trans (congrArg some (by kernel_rfl))
 f276:=func266.trans (congrArg some (by kernel_rfl))
 t0:=underlying0
 a0:=isAgg0
 z0:=sizeOf0
 v0:=zeroValue0
 t4:=underlying4
 a4:=isAgg4
 z4:=sizeOf4
 v4:=zeroValue4
 t5:=underlying5
 a5:=isAgg5
 z5:=sizeOf5
 v5:=zeroValue5
 t9:=underlying9
 a9:=isAgg9
 z9:=sizeOf9
 v9:=zeroValue9
 t20:=underlying20
 a20:=isAgg20
 z20:=sizeOf20
 v20:=zeroValue20
 t37:=underlying102
 a37:=isAgg102
 z37:=sizeOf102
 v37:=zeroValue102
 t70:=underlying293
 a70:=isAgg293
 z70:=sizeOf293
 v70:=zeroValue293
 t72:=underlying295
 a72:=isAgg295
 z72:=sizeOf295
 v72:=zeroValue295
 t75:=underlying35
 a75:=isAgg35
 z75:=sizeOf35
 v75:=zeroValue35
 t164:=underlying171
 a164:=isAgg171
 z164:=sizeOf171
 v164:=zeroValue171}
theorem Tryz.Builder_Extra_167:uh q6 Tryz.lays167_ren:={
 sizeBuilder:=by kernel_rfl
 liesBuilder:=by kernel_rfl
 t5:=underlying5
 a5:=isAgg5
 z5:=sizeOf5
 v5:=zeroValue5
 infoByte:=by kernel_rfl
 cellsByte:=by kernel_rfl
 sizeByte:=by kernel_rfl
 neB5:=by decide}
def Tryz.lays166_ren:uk:=⟨fun | 166=>214 | 240=>249 | 276=>266 | n=>n,fun | 0=>0 | 3=>3 | 4=>4 | 5=>5 | 9=>9 | 20=>20 | 37=>102 | 70=>293 | 72=>295 | 75=>35 | 80=>150 | 164=>171 | n=>n,fun | n=>n⟩
theorem Tryz.lays166:oN q6 Tryz.lays166_ren:={
 mixed:=by kernel_rfl
 f166:=func214.trans (congrArg some (by kernel_rfl))
 f240:=func249.trans (congrArg some (by kernel_rfl))
 f276:=func266.trans (congrArg some (by kernel_rfl))
 t0:=underlying0
 a0:=isAgg0
 z0:=sizeOf0
 v0:=zeroValue0
 t3:=underlying3
 a3:=isAgg3
 z3:=sizeOf3
 v3:=zeroValue3
 t4:=underlying4
 a4:=isAgg4
 z4:=sizeOf4
 v4:=zeroValue4
 t9:=underlying9
 a9:=isAgg9
 z9:=sizeOf9
 v9:=zeroValue9
 t20:=underlying20
 a20:=isAgg20
 z20:=sizeOf20
 v20:=zeroValue20
 t37:=underlying102
 a37:=isAgg102
 z37:=sizeOf102
 v37:=zeroValue102
 t70:=underlying293
 a70:=isAgg293
 z70:=sizeOf293
 v70:=zeroValue293
 t72:=underlying295
 a72:=isAgg295
 z72:=sizeOf295
 v72:=zeroValue295
 t75:=underlying35
 a75:=isAgg35
 z75:=sizeOf35
 v75:=zeroValue35
 t164:=underlying171
 a164:=isAgg171
 z164:=sizeOf171
 v164:=zeroValue171}
theorem Tryz.Builder_Extra_166:uh q6 Tryz.lays166_ren:={
 sizeBuilder:=by kernel_rfl
 liesBuilder:=by kernel_rfl
 t5:=underlying5
 a5:=isAgg5
 z5:=sizeOf5
 v5:=zeroValue5
 infoByte:=by kernel_rfl
 cellsByte:=by kernel_rfl
 sizeByte:=by kernel_rfl
 neB5:=by decide}
open Go.RowKit in
theorem Tryz.Builder_String_k (B b:Nat)(l:List UInt8)(w:World)(h:eH 295 5 B b (qH l) w)(q:B<=w.heap.size):
  Calls q6 215 #[.pointer (some ⟨b,0,none⟩)] w λe w'=>e= .returned (.string ⟨l.toArray⟩)/\(eH 295 5 B b (qH l) w'/\Below B w w'/\uv 5 (some b) w w'):=Any.Builder_String_any_k Tryz.lays169 Tryz.Builder_Extra_169 B b l w h q
open Go.RowKit in
theorem Tryz.Builder_WriteByte_k (B b:Nat)(bs:List Value)(c:Int)(w:World)(h:eH 295 5 B b bs w)(q:bs.length+1<=140737488355328)(G:B<=w.heap.size):
  Calls q6 213 #[.pointer (some ⟨b,0,none⟩),.int .u8 c] w λe w'=>e= .returned .nilIface/\(oH 295 5 B b (.pointer (some ⟨b,0,none⟩)) (bs++[.int .u8 c]) w'/\Below B w w'/\uv 5 (some b) w w'):=Any.Builder_WriteByte_k Tryz.lays167 Tryz.Builder_Extra_167 B b bs c w h q G
open Go.RowKit in
theorem Tryz.Builder_WriteString_k (B b:Nat)(bs:List Value)(s:ByteArray)(w:World)(h:eH 295 5 B b bs w)(q:bs.length+s.size<=140737488355328)(G:B<=w.heap.size):
  Calls q6 214 #[.pointer (some ⟨b,0,none⟩),.string s] w λe w'=>e= .returned (.tuple #[.int .i64 s.size,.nilIface])/\(oH 295 5 B b (.pointer (some ⟨b,0,none⟩)) (bs++wW s) w'/\Below B w w'/\uv 5 (some b) w w'):=Any.Builder_WriteString_k Tryz.lays166 Tryz.Builder_Extra_166 B b bs s w h q G
end
section
open Go.RowKit
theorem zlw (l:List ByteArray)(i:Nat)(h:i<l.length):l.take (i+1)=l.take i++[LB.an l i]:=by
 unfold LB.an;rw[wJ,qw h,q7,qw h];rfl
theorem zk3 (l:List ByteArray)(i:Nat)(h:i<l.length):LB.an l i∈l:=by
 unfold LB.an;rw[q7,qw h];exact qK h
theorem z4g (M:Nat):∀(l:List ByteArray),(∀s∈l,s.size<=M)->(WL.joined l).size<=(M+2)*l.length
 | [],_=>by show 0<=_;omega
 | s::l,h=>by
  have G:=z4g M l (λt q=>h t (by simp[q]));have J:=h s (by simp);show(WL.enc s++WL.joined l).size<=_;rw[qC,WL.z1D,qf,Nat.mul_succ];omega
theorem zeM (a s:ByteArray)(h:s.size<65536):qH (a++WL.enc s).data.toList=((qH a.data.toList++[.int .u8 ((s.size:Int)/256)])++[.int .u8 ((s.size:Int)%256)])++wW s:=by
 have q:((qX (s.size/256)).toNat:Int)=(s.size:Int)/256:=by
  rw[wi];omega
 have G:((qX (s.size%256)).toNat:Int)=(s.size:Int)%256:=by
  rw[wi];omega
 rw[WL.data_append,WL.z2O];simp only[qH,wW,wK,List.map_cons,q,G];simp
theorem zeg (ao:Option Addr)(l:List ByteArray)(cap:Nat)(w:World)(hL:zhR w ao l)(hl:l.length<=100000)(hz:∀s∈l,s.size<=60000):
  Calls q6 183 #[.slice ao l.length cap] w λe w'=>e= .returned (.string (WL.joined l))/\Below w.heap.size w w':=by
 have HL:=hid hL;have HZ:=hid hz;clear hL hz;go_enter func183,ntmps183;go_wp2_with fail;go_loopw [8] (λti wr=>∃i:Nat,i<=l.length/\ti= .int .i64 i/\eH 295 5 w.heap.size w.heap.size (qH (WL.joined (l.take i)).data.toList) wr/\Below w.heap.size w wr) (λti _=>l.length-(intOf ti).toNat)
 case atStart=>exact⟨0,by omega,rfl,oM (Lib.fresh_isBuilder _ _ w),(Below.refl _ w).alloc (qq _) _⟩
 case round=>
  obtain⟨i,hi,rfl,A4,q⟩:=hrel;have Y:=hid A4;have A1:=hid q;have A5:=q.size;clear A4 q;by_cases A2:i<l.length
  .obtain⟨b,off,Af,A6,Ag⟩:=HL.out i A2;subst Af;have Ae:=(A1.out.cell (p:=⟨b,off+i,none⟩) Ag).trans A6;clear A6;have Ao:=HZ.out _ (zk3 l i A2);have HJ:Hid (WL.joined (l.take (i+1))=WL.joined (l.take i)++WL.enc (LB.an l i)):=by
    show _=_;rw[zlw l i A2,WL.z1k]
   have Ah:(WL.joined (l.take i)).size<=60002*i:=by
    have:=z4g 60000 (l.take i) (λs hs=>HZ.out s (List.mem_of_mem_take hs));rw[qb] at this;have e:min i l.length=i:=by omega
    rw[e] at this;exact this
   generalize LB.an l i=s at*;have G:(qH (WL.joined (l.take i)).data.toList).length+1<=140737488355328:=by rw[yv,WL.size_data];omega
   go_wp2_with fail;refine(Tryz.Builder_WriteByte_k w.heap.size w.heap.size _ ((s.size:Int)/256) _ Y.out G A5).mono ?_;rintro e w1 ⟨rfl,A7,J,_⟩;have A8:=hid (A1.out.trans J);have Ai:Hid (eH 295 5 w.heap.size w.heap.size (qH (WL.joined (l.take i)).data.toList++[.int .u8 ((s.size:Int)/256)]) w1):= .inr A7;have Aj:=A8.out.size;clear A7 J;have O:(qH (WL.joined (l.take i)).data.toList++[wM .u8 ((s.size:Int)/256)]).length+1<=140737488355328:=by rw[q8,yv,WL.size_data];simp only[qf,qO];omega
   go_wp2_with fail;refine(Tryz.Builder_WriteByte_k w.heap.size w.heap.size _ ((s.size:Int)%256) _ Ai.out O Aj).mono ?_;rintro e w2 ⟨rfl,A9,U,_⟩;have Ac:=hid (A8.out.trans U);have Ak:Hid (eH 295 5 w.heap.size w.heap.size ((qH (WL.joined (l.take i)).data.toList++[.int .u8 ((s.size:Int)/256)])++[.int .u8 ((s.size:Int)%256)]) w2):= .inr A9;have Al:=Ac.out.size;clear A9 U;have V:((qH (WL.joined (l.take i)).data.toList++[wM .u8 ((s.size:Int)/256)])++[wM .u8 ((s.size:Int)%256)]).length+s.size<=140737488355328:=by rw[q8,q8,yv,WL.size_data];simp only[qf,qO];omega
   go_wp2_with fail;refine(Tryz.Builder_WriteString_k w.heap.size w.heap.size _ s _ Ak.out V Al).mono ?_;rintro e w3 ⟨rfl,Ad,h,_⟩;have A3:=hid (Ac.out.trans h);have Am:Hid (eH 295 5 w.heap.size w.heap.size (qH (WL.joined (l.take (i+1))).data.toList) w3):= .inr (by
    rw[HJ.out,zeM _ s (by omega)];exact Ad)
   clear Ad h V O G;go_wp2_with fail;go_roundw
   case rel=>exact⟨i+1,by omega,by go_num,Am.out,A3.out⟩
   case measure=>simp[intOf];omega
  .have he:i=l.length:=by omega
   subst he;have e0:l.take l.length=l:=qD;rw[e0] at Y;clear e0;go_wp2_with fail;refine(Tryz.Builder_String_k w.heap.size w.heap.size _ _ Y.out A5).mono ?_;rintro e w3 ⟨rfl,_,h,_⟩;have A3:=hid (A1.out.trans h);clear h;go_wp2_with fail;go_ret;exact⟨rfl,A3.out⟩
theorem zdC (s:ByteArray)(w:World):Calls q6 181 #[.string s] w λe w'=>e= .returned (.bool (decide (60000<s.size)))/\w'=w:=by
 go_enter func181,ntmps181;go_wp2_with fail;go_ret;refine⟨z05 ?_,rfl⟩;by_cases h:60000<s.size
 .rw[decide_eq_true h,decide_eq_true (by omega)]
 .rw[decide_eq_false h,decide_eq_false (by omega)]
theorem z7F (ao:Option Addr)(m:List ByteArray)(cap:Nat)(w:World)(hM:zhR w ao m)(hl:m.length<=100000):
  Calls q6 212 #[.slice ao m.length cap,.func (.func 181) #[] #[]] w λe w'=>∃n:Int,e= .returned (.int .i64 n)/\decide (0<=n)=m.any (λs=>decide (60000<s.size))/\w'=w:=by
 generalize hB:m.any (λs=>decide (60000<s.size))=B;have HB:=hid hB;have HM:=hid hM;clear hB hM;go_enter func212,ntmps212;go_wp2;go_loopw [8] (λO wr=>∃i:Nat,i<=m.length/\O= .int .i64 i/\wr=w/\∀j,j<i->decide (60000<(LB.an m j).size)=false) (λO _=>m.length-(intOf O).toNat)
 case atStart=>exact⟨0,by omega,rfl,rfl,by omega⟩
 case round=>
  obtain⟨i,hi,rfl,rfl,q⟩:=hrel;have HO:=hid q;clear q;by_cases G:i<m.length
  .obtain⟨b,off,U,A1,A2⟩:=HM.out i G;subst U;have V:Hid (decide (60000<(LB.an m i).size)=true->B=true):=λh=>by
    rw[<-HB.out,ya];exact⟨_,zk3 m i G,h⟩
   have Y:Hid (decide (60000<(LB.an m i).size)=false->∀j,j<i+1->decide (60000<(LB.an m j).size)=false):=λh j hj=>by
    by_cases he:j=i
    .subst he;exact h
    .exact HO.out j (by omega)
   have HC:=hid (zdC (LB.an m i) wr);generalize decide (60000<(LB.an m i).size)=P at*;generalize LB.an m i=x at*;go_wp2_with fail;refine HC.out.mono ?_;rintro e w2 ⟨rfl,rfl⟩;cases P with
   | true=>
    have J:=hid (V.out rfl);clear V Y;go_wp2_with fail;go_ret;refine⟨i,rfl,?_,rfl⟩;rw[J.out];exact decide_eq_true (by omega)
   | false=>
    have J:=hid (Y.out rfl);clear V Y;go_wp2_with fail;go_roundw
    case rel=>exact⟨i+1,by omega,by go_num,by first | rfl | trivial,J.out⟩
    case measure=>simp[intOf];omega
  .have he:i=m.length:=by omega
   have J:Hid (B=false):=by
    show _=_;rw[<-HB.out,tq];intro x hx;obtain⟨j,hj,rfl⟩:=List.mem_iff_getElem.1 hx;have:=HO.out j (by omega);unfold LB.an at this;rw[q7,qw hj] at this;simpa using this
   subst he;go_wp2;go_ret;refine⟨-1,rfl,?_,rfl⟩;rw[J.out];rfl
theorem z9e (h:Option Addr)(m:List ByteArray)(cap:Nat)(w:World)(q:zhR w h m)(O:m.length<=100000):
  Calls q6 180 #[.slice h m.length cap,.func (.func 181) #[] #[]] w λe w'=>e= .returned (.bool (m.any λs=>decide (60000<s.size)))/\w'=w:=by
 have G:=hid (z7F h m cap w q O);clear q;generalize m.any (λs=>decide (60000<s.size))=B at*;go_enter func180,ntmps180;go_wp2_with fail;refine G.out.mono ?_;rintro e V ⟨n,rfl,J,rfl⟩;have U:=hid J;clear J G;go_wp2_with fail;go_ret;exact⟨z05 U.out,rfl⟩
end
section
open Go.RowKit
def tv (l:List ByteArray):List Value:=l.map yP
theorem zmS (l:List ByteArray)(i:Nat)(h:i<l.length):(tv l)[i]? =some (.string (LB.an l i)):=by
 unfold tv LB.an;rw[List.getElem?_map,qw h,q7,qw h];rfl
theorem zlh (l:List ByteArray)(s:ByteArray):tv l++[.string s]=tv (l++[s]):=by simp[tv]
abbrev z5Q (w:World)(h:Nat)(v:Value)(l:List ByteArray):Prop:=w.ownsRow h 9 1 v l.length (tv l)
theorem z5Q.row {w:World}{q:Nat}{v:Value}{l:List ByteArray}(h:z5Q w q v l):∃ao cap,v= .slice ao l.length cap/\zhR w ao l/\l.length<=cap:=by
 rcases h.2 with⟨rfl,G⟩|⟨g,cap,J,rfl,V,O,U,Y,h4,h5⟩
 .exact⟨none,0,by rw[G],λi hi=>by omega,by omega⟩
 .refine⟨_,cap,rfl,λi hi=>⟨g,0,rfl,?_,z00 O⟩,U⟩;have:=h.cells (g:=g) rfl i _ (zmS l i hi);have e:(⟨g,0,none⟩:Addr).add i=⟨g,0+i,none⟩:=by
   unfold Addr.add;by_cases G:i=0
   .subst G;simp
   .simp[G]
  rw[<-e];exact this
theorem z5Q.below {w w':World}{q:Nat}{v:Value}{l:List ByteArray}(h:z5Q w q v l)(hb:Below w.heap.size w w'):z5Q w' q v l:=by
 refine⟨h.1,?_⟩;rcases h.2 with O|⟨g,cap,G,rfl,U,J,V⟩
 .exact .inl O
 .exact .inr ⟨g,cap,G,rfl,U,(hb.block g (z00 J)).trans J,V⟩
theorem z5Q.snoc {w:World}{q:Nat}{v:Value}{l:List ByteArray}{s:ByteArray}(h:w.ownsRow q 9 1 v (l.length+1) (tv l++[.string s])):z5Q w q v (l++[s]):=by
 rw[zlh] at h;show World.ownsRow _ _ _ _ _ _ _;rw[q8];exact h
theorem zkW (W:World)(b:Nat)(s:ByteArray)(h:W.cell? ⟨b,0,none⟩=some (.string s)):∀(j:Nat) (u:Value),[yP s][j]? =some u->W.cell? ((⟨b,0,none⟩:Addr).add j)=some u:=by
 intro j u q
 match j,q with
 | 0,q=>
  have:yP s=u:=by simpa using q
  rw[<-this];exact h
 | j+1,q=>simp at q
theorem Tryz.info9:(q6.info? 9).map (λi=>(i.zero,i.size,i.bytes))=some (some (.string ⟨#[]⟩),1,16):=by kernel_rfl
def zhM (w:World)(h:Nat)(l:List ByteArray):Prop:=∃v,w.heap[h]? =some (.cells #[v] 71)/\z5Q w (h+1) v l
theorem zl4 (s:ByteArray)(q:Nat)(l:List ByteArray)(w:World)(h:zhM w q l)(hl:l.length<=100000000):
  Calls q6 66 #[.string s,.pointer (some ⟨q,0,none⟩)] w λe w'=>e= .returned (.tuple #[])/\zhM w' q (l++[s])/\Below q w w':=by
 obtain⟨v,hb,hO⟩:=h;have Ad:=z00 hb;obtain⟨ao,cap,rfl,_,_⟩:=hO.row;have hc:w.cell? ⟨q,0,none⟩=some (.slice ao l.length cap):=by simp[qs,hb]
 have HO:=hid hO;have HB:=hid hb;obtain⟨ii,A1,A2,A3,A4⟩:=info_parts Tryz.info9;have A6:=hid A1;have A7:=hid A2;have A8:=hid A3;have A9:=hid A4;clear A1 A2 A3 A4 hO hb;go_enter func66,ntmps66;go_wp2_with (at_builtin;refine wpList_append_own _ rfl (.tmp 3) (.tmp 5) 71 rfl (q+1) 9 ii (.string ⟨#[]⟩) 1 16 underlying71 A6.out A7.out A8.out A9.out rfl (by decide) _ l.length (tv l) rfl (HO.out.alloc _) ⟨w.heap.size,0,none⟩ 1 1 [.string s] rfl rfl (zkW _ _ _ (by simp)) (by simp[uo]) (by unfold qS;omega) (by omega) (by simp;omega) ?_)
 intro v' V O J _;have G:=z5Q.snoc O;have Y:Below (q+1) w V:=((Below.refl (q+1) w).alloc (by omega) (.cells #[.string s] 9)).grown J (by simp;omega) (λj hj=>(HO.out.lt j hj).1);have U:=(Y.block q (by omega)).trans HB.out;have Ae:V.cell? ⟨q,0,none⟩=some (.slice ao l.length cap):=by simp[qs,U]
 have Af:V.frozen? ⟨q,0,none⟩=false:=by simp[wz,U]
 have HQ:Hid (zhM (V.setCell ⟨q,0,none⟩ v') q (l++[s])/\Below q w (V.setCell ⟨q,0,none⟩ v')):=by
  refine⟨⟨v',?_,ownsRow_setCell_below G (a:=⟨q,0,none⟩) (by show q<q+1;omega) v'⟩,?_⟩
  .rw[qo V q 0 _ _ _ U];rfl
  .have Ac:Below q w V:=Y.mono (by omega);exact Ac.setCell (p:=⟨q,0,none⟩) (qq _) v'
 obtain⟨a7,c7,A5,_,_⟩:=G.row;rw[q8] at A5;subst A5;clear G Y U O J HO HB;go_wp2
 go_end0
 exact⟨rfl,HQ.out⟩
theorem z1H:∀l:List ByteArray,2*l.length<=(WL.joined l).size
 | []=>by show 0<=_;omega
 | s::l=>by
  have:=z1H l;show _<=(WL.enc s++WL.joined l).size;rw[qC,WL.z1D,qf];omega
theorem zra (r:ByteArray)(h:2<=r.size):∃q G:Nat,q<256/\G<256/\(∀W,(p5 9 (.string r) (.int .i64 0)).run q6 W= .ok (.int .u8 (q:Int)) W)/\
  (∀W,(p5 9 (.string r) (.int .i64 1)).run q6 W= .ok (.int .u8 (G:Int)) W)/\WL.hdr r.data.toList=256*q+G:=by
 refine⟨(r[0]'(by omega)).toNat,(r[1]'(by omega)).toNat,eQ _,eQ _,λW=>?_,λW=>?_,?_⟩
 .rw[pd W 9 r .i64 0 underlying9,dif_pos ⟨by omega,by omega⟩];rfl
 .rw[pd W 9 r .i64 1 underlying9,dif_pos ⟨by omega,by omega⟩];rfl
 .have U:=WL.size_data r;have key:∀(l:List UInt8) (J:0<l.length) (O:1<l.length),WL.hdr l=256*(l[0]'J).toNat+(l[1]'O).toNat
   | [],J,_=>by simp at J
   | [a],_,O=>by simp at O
   | a::b::t,_,_=>rfl
  exact key r.data.toList (by omega) (by omega)
theorem zin (h q:Nat)(G:h<256)(J:q<256):bits BinOp.or qW ((h:Int)*256) (q:Int)=((256*h+q:Nat):Int):=by
 have e:(h:Int)*256=((h*256:Nat):Int):=by omega
 rw[e];have O:(ed 64 ((h*256:Nat):Int)).toNat=h*256:=by
  rw[i6,il];exact oo (by omega)
 have U:(ed 64 (q:Int)).toNat=q:=by
  rw[i6,il];exact oo (by omega)
 show qW.wrap ((ed 64 ((h*256:Nat):Int)||| ed 64 (q:Int)).toNat:Int)=_;rw[BitVec.toNat_or,O,U,IntKind.wrap_i64];have V:h*256||| q=h*256+q:=by
  have:=Nat.shiftLeft_add_eq_or_of_lt (i:=8) (b:=q) (by omega) h;rw[Nat.shiftLeft_eq] at this;exact this.symm
 rw[V];omega
theorem zhM.drewN {w:World}{q:Nat}{l:List ByteArray}(h:zhM w q l)(n:Nat):zhM (w.drewN n) q l:=h
theorem ziP (t:ByteArray)(O:Nat)(w:World)(h:zhM w O [])(ht:t.size<=100000000):
  Calls q6 65 #[.string t,.func (.func 66) #[] #[.pointer (some ⟨O,0,none⟩)]] w λe w'=>
   ∃ns r,t=WL.joined ns++r/\WL.Sm ns/\WL.z9C r/\e= .returned (.int .i64 (WL.joined ns).size)/\zhM w' O ns/\Below O w w':=by
 have H0:=hid h;clear h;go_enter func65,ntmps65;go_wp2_with fail;go_loopw [5] (λt5 wr=>∃ns r,t=WL.joined ns++r/\WL.Sm ns/\t5= .int .i64 (WL.joined ns).size/\zhM wr O ns/\Below O w wr) (λt5 _=>t.size-(intOf t5).toNat)
 case atStart=>exact⟨[],t,(WL.empty_append t).symm,λs hs=>(by cases hs),rfl,H0.out,Below.refl _ _⟩
 case round=>
  obtain⟨ns,r,hr,A2,rfl,A3,G⟩:=hrel;have U:t.size=(WL.joined ns).size+r.size:=by rw[hr,qC]
  have Al:=z1H ns;have Am:(WL.joined ns).size<=t.size:=by omega
  have Ad:t.extract (WL.joined ns).size t.size=r:=by
   rw[U,hr];exact WL.zaf _ _
  have HR:=hid hr;have V:=hid A2;have Y:=hid A3;have A1:=hid G;have Ae:=hid U;clear hr A2 A3 G U;by_cases h2:r.size<2
  .have Ao:(r.size:Int)<2:=by omega
   go_wp2_with fail;go_ret;exact⟨ns,r,HR.out,V.out,by unfold WL.z9C;omega,rfl,Y.out,A1.out⟩
  .obtain⟨x0,x1,A4,A5,Af,Ag,hh⟩:=zra r (by omega);have A6:=zin x0 x1 A4 A5;have HH:=hid hh;have hH:256*x0+x1<65536:=by omega
   clear hh;generalize 256*x0+x1=H at*;have hw:wrap64 (2+(H:Int))=((2+H:Nat):Int):=by unfold wrap64;omega
   go_wp2_with fail
   go_quiet (fail)
   first | simp only[A6,hw] | skip
   clear A6 hw Af Ag A4 A5;by_cases h3:r.size<2+H
   .have Ah:(r.size:Int)<((2+H:Nat):Int):=by omega
    go_wp2_with fail;go_ret;exact⟨ns,r,HR.out,V.out,by unfold WL.z9C;rw[HH.out];exact h3,rfl,Y.out.drewN _,z0k A1.out _⟩
   .have Ah:¬(r.size:Int)<((2+H:Nat):Int):=by omega
    go_wp2_with fail;obtain⟨hs,r',A7⟩:=WL.zjF r H HH.out (by omega) (by omega);have Ai:=hid A7;have HN:Hid (WL.joined (ns++[r.extract 2 (2+H)])=WL.joined ns++WL.enc (r.extract 2 (2+H))):=WL.z1k _ _;have HZ:Hid ((WL.joined (ns++[r.extract 2 (2+H)])).size=(WL.joined ns).size+(2+H)):=by
     show _=_;rw[HN.out,qC,WL.z1D,hs]
    have HT:Hid (t=WL.joined (ns++[r.extract 2 (2+H)])++r'):=by
     show _=_;rw[HN.out,ByteArray.append_assoc,<-Ai.out];exact HR.out
    have A8:Hid (WL.Sm (ns++[r.extract 2 (2+H)])):=V.out.append (WL.Sm.one (by omega));have Aj:ns.length<=100000000:=by omega
    clear A7 HN Ad;generalize r.extract 2 (2+H)=s at*;refine(zl4 s O ns _ (Y.out.drewN nq) Aj).mono ?_;rintro e w2 ⟨rfl,J,q⟩;have A9:=hid J;have Ac:=hid ((z0k A1.out nq).trans q);have Ak:(WL.joined ns).size+(2+H)<=t.size:=by have:=Ae.out;omega
    clear J q;go_wp2_with fail;go_roundw
    case rel=>
     refine⟨ns++[s],r',HT.out,A8.out,?_,A9.out,Ac.out⟩;rw[HZ.out]
     go_num
    case measure=>simp[intOf];omega
end
section
open Go.RowKit Go.Maps Go.Shelf
def Wl (w:World)(Z:Nat->Prop)(bw bd cnt:Nat)(D:DK.M)(p:Int)(dn:Bool):Prop:=
 ∃X,Dk w X bd cnt D p/\w.heap[bw]? =some (.cells #[.pointer (some ⟨bd,0,none⟩),.bool dn] 132)/\¬X bw/\Z bw/\(∀j,X j->Z j)/\∀j,X j->j<w.heap.size
def z2I (w:World)(Z:Nat->Prop)(bw bd cnt:Nat)(D:DK.M)(p:Int)(dn:Bool)(w':World):Prop:=
 ∃Z',Wl w' Z' bw bd cnt D p dn/\XFr Z w w'/\∀j,Z' j->Z j\/w.heap.size<=j
theorem Dk.narrow {w:World}{X:Nat->Prop}{bd cnt:Nat}{D:DK.M}{p:Int}(h:Dk w X bd cnt D p):Dk w (λj=>X j/\j<w.heap.size) bd cnt D p:=by
 obtain⟨mo,fp,fv,e,l,h⟩:=h;exact⟨mo,fp,fv,e,l,h.narrow⟩
theorem Dk.below {W W':World}{X:Nat->Prop}{bd cnt:Nat}{D:DK.M}{p:Int}(h:Dk W X bd cnt D p)(hb:Below W.heap.size W W'):Dk W' X bd cnt D p:=by
 obtain⟨mo,fp,fv,e,l,h⟩:=h;exact⟨mo,fp,fv,e,l,h.below hb⟩
section
variable {w : World} {Z : Nat → Prop} {bw bd cnt : Nat} {D : DK.M} {p : Int} {dn : Bool}
theorem Wl.below {w':World}(h:Wl w Z bw bd cnt D p dn)(hb:Below w.heap.size w w'):Wl w' Z bw bd cnt D p dn:=by
 obtain⟨X,h1,q,G,J,O,U⟩:=h;exact⟨X,h1.below hb,(hb.block bw (z00 q)).trans q,G,J,O,λj V=>qe (U j V) hb.size⟩
theorem Wl.mono {cnt':Nat}(h:Wl w Z bw bd cnt D p dn)(q:cnt<=cnt'):Wl w Z bw bd cnt' D p dn:=by
 obtain⟨X,h1,G⟩:=h;exact⟨X,h1.mono q,G⟩
theorem z2I.same {w':World}(h:Wl w Z bw bd cnt D p dn)(hb:Below w.heap.size w w'){cnt':Nat}(q:cnt<=cnt'):z2I w Z bw bd cnt' D p dn w':=
 ⟨Z,(h.below hb).mono q,XFr.below hb,λ_ G=> .inl G⟩
theorem zf9 (h:w.heap[bw]? =some (.cells #[.pointer (some ⟨bd,0,none⟩),.bool dn] 132)):w.cell? ⟨bw,0,none⟩=some (.pointer (some ⟨bd,0,none⟩))/\w.cell? ⟨bw,1,none⟩=some (.bool dn)/\w.frozen? ⟨bw,1,none⟩=false:=by
 refine⟨?_,?_,?_⟩<;>simp[qs,wz,h]
theorem ziT (h:w.heap[bw]? =some (.cells #[.pointer (some ⟨bd,0,none⟩),.bool dn] 132)):
  Calls q6 182 #[.pointer (some ⟨bw,0,none⟩)] w λe w'=>e= .returned (.bool dn)/\w'=w:=by
 obtain⟨c0,c1,_⟩:=zf9 h;clear h;go_enter func182,ntmps182;go_wp2;go_ret;exact⟨rfl,rfl⟩
def z2U (w:World)(Z:Nat->Prop)(bw bd cnt:Nat)(D:DK.M)(p:Int)(dn:Bool)(h:Bool)(o:WL.Out)(q:rO)(w':World):Prop:=
 (h=true/\q= .returned (er 1)/\z2I w Z bw bd cnt D p dn w')\/(h=false/\dn=true/\q= .returned (er 6)/\z2I w Z bw bd cnt D p dn w')\/
 (h=false/\dn=false/\q= .returned (er o.1)/\z2I w Z bw bd cnt o.2.1 o.2.2 (decide (o.1≠0)) w')
theorem zgT {l:List ByteArray}(h:(l.any λs=>decide (60000<s.size))=false):∀s∈l,s.size<=60000:=by
 intro s q;have:=tq.1 h s q;simp at this;exact this
theorem zaa {X:Nat->Prop}(hD:Dk w X bd cnt D p)(hb:w.heap[bw]? =some (.cells #[.pointer (some ⟨bd,0,none⟩),.bool dn] 132)) (Y:¬X bw) (A1:Z bw) (A2:∀j,X j->Z j) (A3:∀j,X j->j<w.heap.size) (ao:Option Addr) (l:List ByteArray) (cap g:Nat) (lb:Array Value) (o:WL.Out) (hL:zhR w ao l) (hl:l.length<=100000)
  (eg:∀args w,(callFunc g args).run q6 w= .ok (.enter g args) w)
  (U:(∀s∈l,s.size<=60000)->∀W,Below w.heap.size w W->Calls q6 g (#[.string (WL.joined l)]++lb) W λen w'=>zbd W X bd (cnt+4) o en w'):
  Calls q6 138 #[.pointer (some ⟨bw,0,none⟩),.slice ao l.length cap,.func (.func g) #[] lb] w λen w'=>z2U w Z bw bd (cnt+4) D p dn (l.any λs=>decide (60000<s.size)) o en w':=by
 have HW:Hid (Wl w Z bw bd cnt D p dn):=⟨X,hD,hb,Y,A1,A2,A3⟩;have HC:=hid (z9e ao l cap w hL hl);have HL:=hid hL;have HS:=hid (zgT (l:=l));have HP:=hid U;have HD:=hid hD;have HB:=hid hb;have A4:=hid Y;have A5:=hid A1;have A6:=hid A2;have Ag:=hid A3;have Ac:=hid (ziT hb);have Ah:=z00 hb;clear hL U hD hb Y A1 A2 A3;generalize (l.any λs=>decide (60000<s.size))=big at*;go_enter func138,ntmps138;go_wp2_with fail;refine HC.out.mono ?_;rintro en w1 ⟨rfl,rfl⟩;clear HC;cases big with
 | true=>
  have HQ:Hid (z2U w1 Z bw bd (cnt+4) D p dn true o (.returned (.iface 56 (.int .i64 1))) w1):= .inl ⟨rfl,by rw[z2X (by omega)],z2I.same HW.out (Below.refl _ _) (by omega)⟩;go_wp2;go_ret;exact HQ.out
 | false=>
  have A7:Hid (∀s∈l,s.size<=60000):=HS.out rfl;clear HS;go_wp2_with fail;refine Ac.out.mono ?_;rintro en w2 ⟨rfl,rfl⟩;clear Ac;cases dn with
  | true=>
   have HQ:Hid (z2U w2 Z bw bd (cnt+4) D p true false o (.returned (.iface 56 (.int .i64 6))) w2):= .inr (.inl ⟨rfl,rfl,by rw[z2X (by omega)],z2I.same HW.out (Below.refl _ _) (by omega)⟩);go_wp2;go_ret;exact HQ.out
  | false=>
   have HJ:=hid (zeg ao l cap w2 HL.out hl A7.out);have Ad:=hid (HP.out A7.out);clear A7 HP HL;go_wp2_with fail;refine HJ.out.mono ?_;rintro en w3 ⟨rfl,A8⟩;have O:=hid A8;have Ae:=hid (Ad.out w3 A8);clear A8 HJ Ad;generalize WL.joined l=J at*;go_wp2_with fail;refine Ae.out.mono ?_;rintro en w4 ⟨rfl,X4,Af,x4,s4⟩;have Ak:=O.out.size;have q:¬X4 bw:=λhx=>by
    rcases s4 bw hx with h5|h5
    .exact A4.out h5
    .omega
   have A9:w4.heap[bw]? =some (.cells #[.pointer (some ⟨bd,0,none⟩),.bool false] 132):=((x4.block bw (by omega) A4.out).trans (O.out.block bw Ah)).trans HB.out;obtain⟨c0,c1,f1⟩:=zf9 A9;have V:XFr X w2 w4:=(XFr.below O.out).trans x4 (λj G=> .inl G);have key:∀b:Bool,Hid (z2I w2 Z bw bd (cnt+4) o.2.1 o.2.2 b (w4.setCell ⟨bw,1,none⟩ (.bool b))):=λb=>by
    have hg:XFr (λj=>j=bw) w4 (w4.setCell ⟨bw,1,none⟩ (.bool b)):=XFr.setCell w4 ⟨bw,1,none⟩ _ rfl;have Ai:Dk (w4.setCell ⟨bw,1,none⟩ (.bool b)) (λj=>X4 j/\j<w4.heap.size) bd (cnt+4) o.2.1 o.2.2:=by
     obtain⟨mo,fp,fv,e,l',h5⟩:=Af.narrow;refine⟨mo,fp,fv,e,l',h5.kept λj G Aj=>hg.block j Aj (λe=>q (e▸G.1))⟩
    refine⟨λj=>Z j\/w2.heap.size<=j,⟨λj=>X4 j/\j<w4.heap.size,Ai,?_,λhx=>q hx.1,.inl A5.out,λj G=>?_,λj G=>?_⟩,?_,λj G=>G⟩
    .rw[qo w4 bw 1 _ _ _ A9];rfl
    .rcases s4 j G.1 with h5|h5
     .exact .inl (A6.out j h5)
     .exact .inr (by omega)
    .have:(w4.setCell ⟨bw,1,none⟩ (.bool b)).heap.size=w4.heap.size:=by simp
     omega
    .exact((V.mono A6.out).trans hg (λj G=> .inl (G▸A5.out)))
   clear V Af x4 s4 q A9 Ae O HD HB A4 A5 A6 Ag;by_cases h0:o.1=0
   .have hK:=key false;have HQ:Hid (z2U w2 Z bw bd (cnt+4) D p false false o (.returned .nilIface) (w4.setCell ⟨bw,1,none⟩ (.bool false))):=by
     refine .inr (.inr ⟨rfl,rfl,by rw[h0,z1K],?_⟩);rw[decide_eq_false (λh=>h h0)];exact hK.out
    rw[h0,z1K];clear hK key;go_wp2;go_ret;exact HQ.out
   .have hK:=key true;have HQ:Hid (z2U w2 Z bw bd (cnt+4) D p false false o (.returned (.iface 56 (.int .i64 o.1))) (w4.setCell ⟨bw,1,none⟩ (.bool true))):=by
     refine .inr (.inr ⟨rfl,rfl,by rw[z2X h0],?_⟩);rw[decide_eq_true h0];exact hK.out
    rw[z2X h0];clear hK key;go_wp2;go_ret;exact HQ.out
theorem z8O (s:ByteArray):WL.joined [s]=WL.enc s:=WL.append_empty _
theorem ziS {X:Nat->Prop}{N:Nat}(hD:Dk w X bd cnt D p)(hb:w.heap[bw]? =some (.cells #[.pointer (some ⟨bd,0,none⟩),.bool dn] 132)) (Y:¬X bw) {V:Nat} (G:w.heap[V]? =some (.cells #[.pointer (some ⟨bw,0,none⟩)] 70)) (A1:¬X V) (hF:DK.Fine N D) (hN:N<=100000000) (s:ByteArray) (hs:s.size<=60000) (hc:cnt+4<=1000000):
  Calls q6 139 #[.string (WL.enc s),.pointer (some ⟨V,0,none⟩)] w λen w'=>zbd w X bd (cnt+4) (WL.z1V kpt s D p) en w':=by
 have cb:w.cell? ⟨V,0,none⟩=some (.pointer (some ⟨bw,0,none⟩)):=by simp[qs,G]
 obtain⟨c0,_,_⟩:=zf9 hb;have J:=hid G;have HB:=hid hb;have A2:=hid Y;have A3:=hid A1;obtain⟨mo,fp,fv,e,l,h⟩:=hD;have A4:(WL.enc s).size<=100000000:=by rw[WL.z1D];omega
 have HA:=hid (append_any h kpt (WL.enc s) z6w (by omega) (hF.mono hN) A4);have HO:Hid (WL.z1V kpt s D p=WL.seq (WL.act 0 kpt (WL.enc s) D p) λD p=>WL.act 1 kpt qy D p):=rfl;clear h hF G hb Y A1 A4;generalize WL.z1V kpt s D p=O at*;generalize WL.enc s=t at*;go_enter func139,ntmps139;go_wp2_with fail;refine HA.out.mono ?_;rintro en w1 ⟨rfl,X1,⟨A9,Ac,Ad,e1,l1,h1⟩,x1,s1⟩;have ha:WL.act 0 kpt t D p=(DK.code 0 D p kpt t,DK.z6V 0 D p kpt t,DK.z99 0 D p kpt t):=rfl;rw[ha] at HO;generalize DK.code 0 D p kpt t=c1 at*;generalize DK.z6V 0 D p kpt t=D1 at*;generalize DK.z99 0 D p kpt t=p1 at*;have q:=(x1.block V (z00 J.out) A3.out).trans J.out;have A5:=(x1.block bw (z00 HB.out) A2.out).trans HB.out;have Ae:w1.cell? ⟨V,0,none⟩=some (.pointer (some ⟨bw,0,none⟩)):=by simp[qs,q]
 obtain⟨Af,_,_⟩:=zf9 A5;have H1:=hid h1;have A6:=hid x1;have S1:=hid s1;clear h1 x1 s1 ha HA q A5 J HB A2 A3;by_cases U:c1=0
 .subst U;have A7:O=WL.act 1 kpt qy D1 p1:=by rw[HO.out,WL.seq_ok]
  have A8:=hid A7;have HY:=hid (z6q H1.out kpt z6w);clear A7 HO;rw[z1K];go_wp2_with fail;refine HY.out.mono ?_;rintro en w3 ⟨rfl,h3⟩;have HQ:Hid (zbd w X bd (cnt+4) O (.returned (er (DK.code 1 D1 p1 kpt qy))) w3):=by
   rw[A8.out];exact⟨rfl,(z2n.trans A6.out S1.out h3).mono (by omega)⟩
  clear h3 HY A8;generalize er (DK.code 1 D1 p1 kpt qy)=v at*;go_wp2;go_ret;exact HQ.out
 .have HQ:Hid (zbd w X bd (cnt+4) O (.returned (er c1)) w1):=by
   have e0:O=(c1,D1,p1):=by
    rw[HO.out];unfold WL.seq;rw[if_neg U]
   rw[e0];exact⟨rfl,X1,⟨A9,Ac,Ad,e1,l1,H1.out.mono (by omega)⟩,A6.out,S1.out⟩
  rw[z2X U] at HQ ⊢;go_wp2;go_ret;exact HQ.out
theorem zjH {X:Nat->Prop}{N:Nat}(G:Dk w X bd cnt D p)(hb:w.heap[bw]? =some (.cells #[.pointer (some ⟨bd,0,none⟩),.bool dn] 132)) {q:Nat} (h:w.heap[q]? =some (.cells #[.pointer (some ⟨bw,0,none⟩)] 70)) (J:DK.Fine N D) (hN:N<=100000000) (t:ByteArray) (ht:t.size<=100000000) (hc:cnt+4<=1000000):
  Calls q6 190 #[.string t,.pointer (some ⟨q,0,none⟩)] w λU w'=>zbd w X bd (cnt+4) (WL.repl kpt frs t D p) U w':=by
 have cb:w.cell? ⟨q,0,none⟩=some (.pointer (some ⟨bw,0,none⟩)):=by simp[qs,h]
 obtain⟨c0,_,_⟩:=zf9 hb;have V:=hid (z6P G J hN t ht hc);clear G J h hb;generalize WL.repl kpt frs t D p=O at*;go_enter func190,ntmps190;go_wp2_with fail;refine V.out.mono ?_;rintro U w1 ⟨rfl,Y⟩;have HQ:Hid (zbd w X bd (cnt+4) O (.returned (er O.1)) w1):=⟨rfl,Y⟩;clear Y V;generalize er O.1=v at*;go_wp2;go_ret;exact HQ.out
theorem z2U.from {U w':World}{q:Bool}{o:WL.Out}{en:rO}(hb:Below w.heap.size w U)(h:z2U U Z bw bd cnt D p dn q o en w'):z2U w Z bw bd cnt D p dn q o en w':=by
 have key:∀{D:DK.M} {p:Int} {dn:Bool},z2I U Z bw bd cnt D p dn w'->z2I w Z bw bd cnt D p dn w':=by
  rintro D p dn ⟨Z',h1,h2,h3⟩;refine⟨Z',h1,(XFr.below hb).trans h2 (λj V=> .inl V),λj V=>?_⟩;rcases h3 j V with h4|h4
  .exact .inl h4
  .have:=hb.size;exact .inr (by omega)
 rcases h with⟨G,J,O⟩|⟨G,J,O,Y⟩|⟨G,J,O,Y⟩
 .exact .inl ⟨G,J,key O⟩
 .exact .inr (.inl ⟨G,J,O,key Y⟩)
 .exact .inr (.inr ⟨G,J,O,key Y⟩)
theorem zkK {N:Nat}(h:Wl w Z bw bd cnt D p dn)(hF:DK.Fine N D)(hN:N<=100000000)(s:ByteArray)(hc:cnt+4<=1000000):
  Calls q6 86 #[.pointer (some ⟨bw,0,none⟩),.string s] w λen w'=>z2U w Z bw bd (cnt+4) D p dn (decide (60000<s.size)) (WL.z1V kpt s D p) en w':=by
 obtain⟨X,hD,hb,J,Y,A1,U⟩:=h;have V:=z00 hb;have q:Below w.heap.size w ((w.alloc (.cells #[.pointer (some ⟨bw,0,none⟩)] 70)).alloc (.cells #[.string s] 9)):=((Below.refl _ w).alloc (qq _) _).alloc (by simp) _;have A2:((w.alloc (.cells #[.pointer (some ⟨bw,0,none⟩)] 70)).alloc (.cells #[.string s] 9)).heap[w.heap.size]? =some (.cells #[.pointer (some ⟨bw,0,none⟩)] 70):=(Below.heap_alloc _ _ _ (by simp)).trans (qu w _);have G:zhR ((w.alloc (.cells #[.pointer (some ⟨bw,0,none⟩)] 70)).alloc (.cells #[.string s] 9)) (some ⟨w.heap.size+1,0,none⟩) [s]:=by
  intro i hi;have:i=0:=by simpa using hi
  subst this;exact⟨_,_,rfl,by simp[LB.an],by simp⟩
 have e1:([s].any λs=>decide (60000<s.size))=decide (60000<s.size):=by simp
 have HM:=zaa (Z:=Z) (hD.below q) ((q.block bw V).trans hb) J Y A1 (λj hj=>qe (U j hj) q.size) (some ⟨w.heap.size+1,0,none⟩) [s] 1 139 #[.pointer (some ⟨w.heap.size,0,none⟩)] (WL.z1V kpt s D p) G (by simp) (iw func139 (by kernel_rfl) rfl)
  (λA3 W hW=>by
   rw[z8O];exact ziS ((hD.below q).below hW) ((hW.block bw (qe V q.size)).trans ((q.block bw V).trans hb)) J ((hW.block w.heap.size (by simp;omega)).trans A2) (λhx=>by have:=U _ hx;omega) hF hN s (A3 s (by simp)) hc)
 rw[e1] at HM;have HM:=hid HM;have A4:=hid q;clear hD hb J Y A1 U q A2 G e1 hF;generalize WL.z1V kpt s D p=O at*;generalize decide (60000<s.size)=big at*;go_enter func86,ntmps86;go_wp2_with fail;refine HM.out.mono ?_;intro en w1 hQ;have HQ:=hid (z2U.from A4.out hQ);have hv:∃v,en= .returned v:=by
  rcases hQ with⟨_,h,_⟩|⟨_,_,h,_⟩|⟨_,_,h,_⟩<;>exact⟨_,h⟩
 obtain⟨v,rfl⟩:=hv;clear hQ HM;go_wp2;go_ret;exact HQ.out
theorem zle {N:Nat}(h:Wl w Z bw bd cnt D p dn)(hF:DK.Fine N D)(hN:N<=100000000)(ao:Option Addr)(l:List ByteArray)(cap:Nat)(hL:zhR w ao l)(hl:l.length<=1000)(hc:cnt+4<=1000000):
  Calls q6 156 #[.pointer (some ⟨bw,0,none⟩),.slice ao l.length cap] w λen w'=>z2U w Z bw bd (cnt+4) D p dn (l.any λs=>decide (60000<s.size)) (WL.repl kpt frs (WL.joined l) D p) en w':=by
 obtain⟨X,hD,hb,J,U,V,Y⟩:=h;have G:=z00 hb;have q:Below w.heap.size w (w.alloc (.cells #[.pointer (some ⟨bw,0,none⟩)] 70)):=(Below.refl _ w).alloc (qq _) _;have A1:(w.alloc (.cells #[.pointer (some ⟨bw,0,none⟩)] 70)).heap[w.heap.size]? =some (.cells #[.pointer (some ⟨bw,0,none⟩)] 70):=qu w _;have HM:=hid (zaa (Z:=Z) (hD.below q) ((q.block bw G).trans hb) J U V (λj hj=>qe (Y j hj) q.size) ao l cap 190 #[.pointer (some ⟨w.heap.size,0,none⟩)] (WL.repl kpt frs (WL.joined l) D p) (hL.below q) (by omega) (iw func190 (by kernel_rfl) rfl)
  (λA2 W hW=>zjH ((hD.below q).below hW) ((hW.block bw (qe G q.size)).trans ((q.block bw G).trans hb)) ((hW.block w.heap.size (by simp)).trans A1) hF hN _ (by
   have:=z4g 60000 l A2;have h2:(60000+2)*l.length<=60002*1000:=Nat.mul_le_mul_left _ hl;omega) hc))
 have A3:=hid q;clear hD hb J U V Y q A1 hF hL;generalize WL.repl kpt frs (WL.joined l) D p=O at*;generalize (l.any λs=>decide (60000<s.size))=big at*;go_enter func156,ntmps156;go_wp2_with fail;refine HM.out.mono ?_;intro en w1 hQ;have HQ:=hid (z2U.from A3.out hQ);have hv:∃v,en= .returned v:=by
  rcases hQ with⟨_,h,_⟩|⟨_,_,h,_⟩|⟨_,_,h,_⟩<;>exact⟨_,h⟩
 obtain⟨v,rfl⟩:=hv;clear hQ HM;go_wp2;go_ret;exact HQ.out
end
end
section
open Go.RowKit Go.Maps
section
variable {w : World} {Z X : Nat → Prop} {bd cnt N : Nat} {E D : DK.M} {ns : List ByteArray}
def zlU (w:World)(Z:Nat->Prop)(E:DK.M)(bd cnt:Nat)(ns:List ByteArray)(h:rO)(w':World):Prop:=
 ∃bw v D' Z',h= .returned (.tuple #[.pointer (some ⟨bw,0,none⟩),v,.nilIface])/\WL.z8q kpt frs E D' ns/\Wl w' Z' bw bd cnt D' (-1) false/\z5Q w' w.heap.size v ns/\(∀g,v.ownBlock=some g->¬Z' g)/\XFr Z w w'/\∀j,Z' j->Z j\/w.heap.size<=j
theorem zjm (h:Dk w X bd cnt D (-1))(Af:∀j,X j->Z j)(Ag:∀j,X j->j<w.heap.size)(hR:WL.zdi kpt frs E D ns)(hS:WL.Sm ns)(hF:DK.Fine N D)(hN:N<=100000000)(hc:cnt+4<=1000000):
  Calls q6 29 #[.pointer (some ⟨bd,0,none⟩)] w λen w'=>zlU w Z E bd (cnt+4) ns en w':=by
 obtain⟨mo,fp,fv,e,l,h⟩:=h;have HI:=hid h;have Ah:=hid (zdg h kpt z6w);have A8:=hid Af;have Y:=hid Ag;have HR:=hid hR;have HS:=hid hS;have HF:=hid hF;clear h Af Ag hR hS hF;go_enter func29,ntmps29;go_wp2_with fail;refine Ah.out.mono ?_;intro en w1 hh;obtain⟨t,v1,Ao,Ap,ht⟩:∃t v1,en= .returned (.tuple #[.string t,v1])/\w1=w/\((D kpt=none/\t=qy)\/∃f,D kpt=some f/\t=f.b):=by
  rcases hh with⟨⟨h1,V⟩|⟨f,h1,V⟩,h3⟩
  .exact⟨_,_,V,h3,.inl ⟨h1,rfl⟩⟩
  .exact⟨_,_,V,h3,.inr ⟨f,h1,rfl⟩⟩
 subst Ao Ap;have HT:=hid ht;clear hh ht Ah;have Ai:t.size<=100000000:=by
  rcases HT.out with⟨_,V⟩|⟨f,h1,V⟩
  .rw[V];show 0<=_;omega
  .rw[V];have:=(HF.out kpt f h1).2.1;omega
 have A3:zhM (w1.alloc (.cells #[.slice none 0 0] 71)) w1.heap.size []:=⟨_,qu w1 _,⟨rfl,.inl ⟨rfl,rfl⟩⟩⟩;have HL:=hid (ziP t w1.heap.size _ A3 Ai);clear A3;go_wp2_with fail;refine HL.out.mono ?_;rintro en w2 ⟨J,r,h1,V,h3,rfl,h4,h5⟩;have Aq:J=ns:=by
  obtain⟨r0,G,h7⟩:∃r0,t=WL.joined ns++r0/\WL.z9C r0:=by
   rcases HR.out.kep with⟨G,h7⟩|⟨r0,f,G,h7,h8⟩
   .rcases HT.out with⟨_,h8⟩|⟨f,h8,_⟩
    .exact⟨qy,by rw[h8,h7];exact(WL.empty_append _).symm,WL.z9C.empty⟩
    .rw[G] at h8;cases h8
   .rcases HT.out with⟨h9,_⟩|⟨g,h9,Ar⟩
    .rw[G] at h9;cases h9
    .rw[G] at h9;cases h9;exact⟨r0,by rw[Ar,h7],h8⟩
  exact(WL.unique V HS.out h3 h7 (h1.symm.trans G)).1
 subst Aq;have Au:(WL.joined J).size<=t.size:=by rw[h1,qC];omega
 have O:Below w1.heap.size w1 w2:=((Below.refl _ w1).alloc (qq _) (.cells #[.slice none 0 0] 71)).trans h5;obtain⟨D',A4,A5⟩:=WL.zhC HR.out HT.out;have A9:=zel (Dk.below ⟨mo,fp,fv,e,l,HI.out⟩ O) HF.out hN t (WL.joined J).size Au Ai hc;rw[A4] at A9;have HSt:=hid A9;have Aj:=hid h4;have U:=hid O;have A6:=hid A5;clear h1 V h3 h4 h5 A9 A4 A5 O HL HI HR HT;go_wp2_with fail;refine HSt.out.mono ?_;rintro en w3 ⟨rfl,X3,Ak,x3,s3⟩;rw[z1K];obtain⟨v,Ac,A1⟩:=Aj.out;have Av:=z00 Ac;have Ad:=(x3.block _ Av (λhx=>by have:=Y.out _ hx;omega)).trans Ac;have Aw:w3.cell? ⟨w1.heap.size,0,none⟩=some v:=by simp[qs,Ad]
 have Ae:z5Q w3 w1.heap.size v J:=by
  refine⟨A1.1,?_⟩;rcases A1.2 with h0|⟨g,cap,Al,rfl,a1,a2,a3⟩
  .exact .inl h0
  .exact .inr ⟨g,cap,Al,rfl,by omega,(x3.block g (z00 a2) (λhx=>by have:=Y.out _ hx;omega)).trans a2,a3⟩
 have Am:∀g,v.ownBlock=some g->g<w2.heap.size/\w1.heap.size<g:=by
  intro g hg;rcases A1.2 with⟨h0,_⟩|⟨g',cap,Al,h0,a1,a2,a3⟩
  .rw[h0] at hg;cases hg
  .rw[h0] at hg;have:g'=g:=qt hg;subst this;exact⟨z00 a2,by omega⟩
 have A7:XFr X w1 w3:=(XFr.below U.out).trans x3 (λj q=> .inl q);have HQ:∀W:World,W.heap=(w3.alloc (.cells #[.pointer (some ⟨bd,0,none⟩),.bool false] 132)).heap->W.os=w3.os->W.tape=w3.tape->W.output=w3.output->Hid (zlU w1 Z E bd (cnt+4) J (.returned (.tuple #[.pointer (some ⟨w3.heap.size,0,none⟩),v,.nilIface])) W):=by
  intro W e1 e2 e3 e4;have A2:Below w3.heap.size w3 W:=⟨e2,e3,e4,by rw[e1];simp,λj q=>by rw[e1];exact Below.heap_alloc _ _ j q⟩;refine⟨w3.heap.size,v,D',λj=>(X3 j/\j<w3.heap.size)\/j=w3.heap.size,rfl,A6.out,⟨λj=>X3 j/\j<w3.heap.size,Ak.narrow.below A2,?_,λhx=>by omega,.inr rfl,λj q=> .inl q,λj q=>qe q.2 A2.size⟩,?_,?_,?_,?_⟩
  .rw[e1];exact qu w3 _
  .exact z5Q.below Ae A2
  .intro g hg;obtain⟨g1,g2⟩:=Am g hg;rintro(hx|hx)
   .rcases s3 g hx.1 with G|G
    .have:=Y.out g G;omega
    .omega
   .have:=x3.size;omega
  .exact(A7.mono A8.out).trans (XFr.below (X:=Z) A2) (λj q=> .inl q)
  .intro j q;have q1:=U.out.size;have q2:=x3.size;rcases q with q|q
   .rcases s3 j q.1 with G|G
    .exact .inl (A8.out j G)
    .exact .inr (by omega)
   .exact .inr (by omega)
 have Ax:(w3.alloc (.cells #[.pointer (some ⟨bd,0,none⟩),.bool false] 132)).cell? ⟨w1.heap.size,0,none⟩=some v:=(World.cell?_alloc_lt _ _ ⟨w1.heap.size,0,none⟩ (z00 Ad)).trans Aw;obtain⟨av,cv,rfl,_,_⟩:=Ae.row;clear Ae A1 Ac Ad Am A7 Ak x3 s3 HSt Aj U A6 A8 Y HS HF;go_wp2_with fail
 go_region
 go_wp2
 go_ret3
 refine(HQ _ ?_ ?_ ?_ ?_).out<;>rfl
end
end
end Go.Proofs.YtemeblgngidldaaGreatDoor
