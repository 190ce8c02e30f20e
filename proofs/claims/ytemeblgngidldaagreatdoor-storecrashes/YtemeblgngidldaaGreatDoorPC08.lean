/- Texts put together and made smaller by program: SoMem DkKeepS DkStartS DkTxtS DkListS BpRight BpWrite SoDk SoKeys SoAgain BpReg HcMemS HcMergeS. -/
import Derived.Test.YtemeblgngidldaaGreatDoorPC07
import Derived.Sort.KeysCollected
import Derived.Test.YtemeblgngidldaaGreatDoorShelfK
import Derived.Deep.CutRange
import Derived.Test.YtemeblgngidldaaGreatDoorShelfM
import Derived.Lib.SlKeysI
set_option linter.unusedVariables false
set_option linter.unusedSimpArgs false
set_option maxRecDepth 100000
set_option maxHeartbeats 12800000
open And renaming intro->qv
open Bool renaming or_eq_true->og,and_eq_true->qI
open ByteArray renaming data_extract->wA,size_extract->eD,empty->qy
open Go renaming TypeId->qn,heap_alloc_new->qu,maxLen->qS,wpList_append_own->rB,Ending->rO,heap_setCell_same->qo,strKeys->oh,strOf->iy,callsIn_wide->yb,wpQuiet_nil->tM,intKeys->iz,intOf->iu,Program->rM,wpList->eG,yielded->tz
open Go.Act renaming eval->yB
open Go.Addr renaming add_lit->qP
open Go.Addr.mk renaming injEq->uD
open Go.BinOp renaming eql->oD
open Go.Calls renaming mono->wU
open Go.Fence renaming wide->yO
open Go.IntKind renaming i64->qW,wrap_i64->qY
open Go.Lib renaming strCells->wW
open Go.Lit renaming sameKey->yD
open Go.Maps renaming size->rl
open Go.Oper renaming wp->oy,upon->oS
open Go.Region renaming ready->wm,wanted->wy,noSelect->eh
open Go.Value renaming int->wM
open Go.Value.slice renaming injEq->eC
open Go.World renaming grownBy->ub
open Go.World.grownBy renaming refl->iT
open Go.World.ownsRow renaming mono->pg
open Int renaming not_lt->pY
open List renaming mergeSort_perm->rC,pairwise_mergeSort->uX,pairwise_map->eX,any_eq_true->ya,mem_map->qx,length_map->qz,length_mergeSort->rA,length_append->q8,mem_cons_self->qd,pairwise_cons->ql,mem_cons->qg,mem_cons_of_mem->qp,length_nil->qO,append_assoc->qm,getElem_toArray->yk,getElem_cons_succ->y9,getElem_cons_zero->yq
open List.Pairwise renaming nil->yd
open Nat renaming lt_of_lt_of_le->qe,zero_le->qh,le_refl->qq,zero_add->qT,le_trans->qi,add_assoc->yG
open Option.some renaming inj->qt,injEq->qR
open Go.Proofs.Tryz renaming prog->q6
open Go.Proofs.Tryz
namespace Go.Proofs.YtemeblgngidldaaGreatDoor
section
open Go.RowKit Go.Maps
def KD (e:qn):Prop:=e=32\/e=104\/e=5\/e=132
def zdA (w:World)(Z:Nat->Prop):Prop:=∀j,Z j->(∃c e fz,w.heap[j]? =some (.cells c e fz)/\KD e)\/∃es ck,w.heap[j]? =some (.map es ck)
theorem zdA.out {w:World}{Z:Nat->Prop}(h:zdA w Z){j:Nat}{c:Array Value}{e:qn}{J:Nat×Nat}(G:w.heap[j]? =some (.cells c e J))(O:¬KD e):¬Z j:=λU=>by
 rcases h j U with⟨c',e',V,q,Y⟩|⟨es,ck,q⟩
 .rw[G] at q;cases q;exact O Y
 .rw[G] at q;cases q
structure WT (w:World) (Z:Nat->Prop) (bw bd cnt:Nat) (D:DK.M) (p:Int) (dn:Bool):Prop where
 wl:Wl w Z bw bd cnt D p dn
 kind:zdA w Z
 lt:∀j,Z j->j<w.heap.size
theorem Dk.tight {w:World}{X:Nat->Prop}{bd cnt:Nat}{D:DK.M}{p:Int}(h:Dk w X bd cnt D p):∃X',Dk w X' bd cnt D p/\(∀j,X' j->X j)/\zdA w X':=by
 obtain⟨mo,fp,fv,e,l,h⟩:=h;refine⟨λj=>X j/\((∃c e fz,w.heap[j]? =some (.cells c e fz)/\KD e)\/∃J O,w.heap[j]? =some (.map J O)),⟨mo,fp,fv,e,l,?_⟩,λj U=>U.1,λj U=>U.2⟩;refine {xd:=⟨h.xd,.inl ⟨_,_,_,h.dsk,.inl rfl⟩⟩,dsk:=h.dsk,pw:=h.pw,map:=λbm hm=>?_,nomap:=h.nomap,files:={no:=h.files.no,inj:=h.files.inj,body:=λn q f V G=>?_,sep:=h.files.sep}}
 .obtain⟨V,G⟩:=h.map bm hm;refine⟨⟨V,.inr ?_⟩,G⟩;obtain⟨_,⟨J,O,h3,_⟩,_⟩:=G;exact⟨J,O,h3⟩
 .obtain⟨b1,b2,Y,b4⟩:=h.files.body n q f V G;refine⟨⟨b1,.inl ⟨_,_,_,b2,.inr (.inl rfl)⟩⟩,b2,Y,λg hg=>⟨b4 g hg,.inl ?_⟩⟩;obtain⟨A1,hc⟩:=Y.at hg;exact⟨_,_,_,hc,.inr (.inr (.inl rfl))⟩
theorem Wl.tight {w:World}{Z:Nat->Prop}{bw bd cnt:Nat}{D:DK.M}{p:Int}{dn:Bool}(h:Wl w Z bw bd cnt D p dn):∃Z',WT w Z' bw bd cnt D p dn/\∀j,Z' j->Z j:=by
 obtain⟨X,h1,J,U,V,Y,O⟩:=h;obtain⟨X',k1,G,k3⟩:=h1.tight;refine⟨λj=>X' j\/j=bw,⟨⟨X',k1,J,λe=>U (G _ e),.inr rfl,λj q=> .inl q,λj q=>O j (G j q)⟩,λj q=>?_,λj q=>?_⟩,λj q=>?_⟩
 .rcases q with e|rfl
  .exact k3 j e
  .exact .inl ⟨_,_,_,J,.inr (.inr (.inr rfl))⟩
 .rcases q with e|rfl
  .exact O j (G j e)
  .exact z00 J
 .rcases q with e|rfl
  .exact Y j (G j e)
  .exact V
theorem WT.below {w w':World}{Z:Nat->Prop}{bw bd cnt:Nat}{D:DK.M}{p:Int}{dn:Bool}(h:WT w Z bw bd cnt D p dn)(k:Below w.heap.size w w'):WT w' Z bw bd cnt D p dn:=
 ⟨h.wl.below k,λj q=>by rw[k.block j (h.lt j q)];exact h.kind j q,λj q=>qe (h.lt j q) k.size⟩
theorem WT.kept {w w':World}{Z:Nat->Prop}{bw bd cnt:Nat}{D:DK.M}{p:Int}{dn:Bool}(h:WT w Z bw bd cnt D p dn)(J:w.heap.size<=w'.heap.size)(k:∀j,Z j->w'.heap[j]? =w.heap[j]?):WT w' Z bw bd cnt D p dn:=by
 obtain⟨⟨X,⟨mo,fp,fv,e,l,h1⟩,V,Y,O,G,h6⟩,h7,h8⟩:=h;refine⟨⟨X,⟨mo,fp,fv,e,l,{xd:=h1.xd,dsk:=(k _ (G _ h1.xd)).trans h1.dsk,pw:=h1.pw,map:=λbm hm=>?_,nomap:=h1.nomap,files:=h1.files.kept λj q _=>k j (G j q)}⟩,(k _ O).trans V,Y,O,G,λj q=>qe (h6 j q) J⟩,λj q=>by rw[k j q];exact h7 j q,λj q=>qe (h8 j q) J⟩;obtain⟨U,q2⟩:=h1.map bm hm;exact⟨U,q2.block (k bm (G bm U))⟩
def HdT (w:World)(hb:Nat)(Zh:Nat->Prop)(mark:Int)(S:List Sr):Prop:=∃v xs,HdX w hb mark S v xs/\∀j,Zh j↔(j=hb\/∃k,k<S.length/\(atX xs k).2.ownBlock=some j)
theorem HdT.lt {w:World}{hb:Nat}{Zh:Nat->Prop}{mark:Int}{S:List Sr}(h:HdT w hb Zh mark S):∀j,Zh j->j<w.heap.size:=by
 obtain⟨v,xs,h1,q⟩:=h;intro j G;rcases(q j).1 G with rfl|⟨k,J,e⟩
 .exact z00 h1.box
 .exact((h1.smps k J).lt j e).2
theorem HdT.toI {w:World}{hb:Nat}{Zh:Nat->Prop}{mark:Int}{S:List Sr}(h:HdT w hb Zh mark S):HdI w hb Zh mark S:=by
 have q:=h.lt;obtain⟨v,xs,J,G⟩:=h;exact⟨⟨v,xs,J,λi hi g O=>(G g).2 (.inr ⟨i,hi,O⟩)⟩,(G hb).2 (.inl rfl),q⟩
theorem HdI.tight {w:World}{hb:Nat}{Z:Nat->Prop}{mark:Int}{S:List Sr}(h:HdI w hb Z mark S):∃Zh,HdT w hb Zh mark S/\∀j,Zh j->Z j:=by
 obtain⟨⟨v,xs,q,G⟩,J,V⟩:=h;refine⟨λj=>j=hb\/∃k,k<S.length/\(atX xs k).2.ownBlock=some j,⟨v,xs,q,λj=>Iff.rfl⟩,λj O=>?_⟩;rcases O with rfl|⟨k,U,e⟩
 .exact J
 .exact G k U j e
theorem HdT.kind {w:World}{hb:Nat}{Zh:Nat->Prop}{mark:Int}{S:List Sr}(h:HdT w hb Zh mark S):∀j,Zh j->∃c e,w.heap[j]? =some (.cells c e)/\(e=165\/e=98):=by
 obtain⟨v,xs,h1,G⟩:=h;intro j J;rcases(G j).1 J with rfl|⟨k,O,e⟩
 .exact⟨_,_,h1.box,.inl rfl⟩
 .rcases(h1.smps k O).2 with⟨q,_⟩|⟨U,cap,V,q,_,Y,_⟩
  .rw[q] at e;cases e
  .rw[q] at e;have e2:U=j:=qt e;subst e2;exact⟨_,_,Y,.inr rfl⟩
theorem HdT.out {w:World}{hb:Nat}{Zh:Nat->Prop}{mark:Int}{S:List Sr}(h:HdT w hb Zh mark S){j:Nat}{o:Obj}(G:w.heap[j]? =some o)(J:∀c e fz,o= .cells c e fz->e≠165/\e≠98):¬Zh j:=λO=>by
 obtain⟨c,e,q,U⟩:=h.kind j O;rw[G] at q;have:=J c e _ (qt q);rcases U with k|k
 .exact this.1 k
 .exact this.2 k
theorem HdT.kept {w w':World}{hb:Nat}{Zh:Nat->Prop}{mark:Int}{S:List Sr}(h:HdT w hb Zh mark S)(k:∀(g:Nat) (c:Array Value) (e:qn),(e=165\/e=93\/e=107\/e=98)->w.heap[g]? =some (.cells c e)->w'.heap[g]? =w.heap[g]?):HdT w' hb Zh mark S:=by
 obtain⟨v,xs,h1,G⟩:=h;exact⟨v,xs,⟨(k _ _ _ (.inl rfl) h1.box).trans h1.box,h1.len,z04 h1.row λg c q=>k g c _ (.inr (.inl rfl)) q,λi hi=>z04 (h1.labs i hi) λg c q=>k g c _ (.inr (.inr (.inl rfl))) q,λi hi=>z04 (h1.smps i hi) λg c q=>k g c _ (.inr (.inr (.inr rfl))) q,h1.apart⟩,G⟩
def SrT (w:World)(Zh:Nat->Prop)(v:Value)(S:List Sr):Prop:=∃xs,SB w 0 v xs S/\∀i,i<S.length->∀g,(atX xs i).2.ownBlock=some g->¬Zh g
theorem SrT.kept {w w':World}{Zh:Nat->Prop}{v:Value}{S:List Sr}(h:SrT w Zh v S)(k:∀(g:Nat) (c:Array Value) (e:qn),(e=93\/e=107\/(e=98/\¬Zh g))->w.heap[g]? =some (.cells c e)->w'.heap[g]? =w.heap[g]?):SrT w' Zh v S:=by
 obtain⟨xs,h1,J⟩:=h;refine⟨xs,⟨h1.len,z04 h1.row λg c G=>k g c _ (.inl rfl) G,λi hi=>z04 (h1.labs i hi) λg c G=>k g c _ (.inr (.inl rfl)) G,λi hi=>?_⟩,J⟩;have O:=h1.smps i hi;refine⟨O.1,?_⟩;rcases O.2 with V|⟨g,cap,q,e,Y,U,a3⟩
 .exact .inl V
 .exact .inr ⟨g,cap,q,e,Y,(k g q _ (.inr (.inr ⟨rfl,J i hi g (by rw[e];rfl)⟩)) U).trans U,a3⟩
theorem SrT.own {w:World}{Zh:Nat->Prop}{v:Value}{S:List Sr}(h:SrT w Zh v S):z0a w 0 v S:=by
 obtain⟨xs,h1,_⟩:=h;exact⟨xs,h1.len,h1.row,λi hi=>⟨h1.labs i hi,h1.smps i hi⟩⟩
theorem SrT.wide {w:World}{Z Z':Nat->Prop}{v:Value}{S:List Sr}(h:SrT w Z v S)(k:∀j,Z' j->Z j\/w.heap.size<=j):SrT w Z' v S:=by
 obtain⟨xs,h1,G⟩:=h;refine⟨xs,h1,λi hi g q e=>?_⟩;rcases k g e with e|e
 .exact G i hi g q e
 .have:=((h1.smps i hi).lt g q).2;omega
theorem SrT.z08 {w:World}{q:Nat}{Z:Nat->Prop}{v:Value}{S:List Sr}(h:z0a w q v S)(k:∀j,Z j->j<q):SrT w Z v S:=by
 obtain⟨xs,J,O,G⟩:=h;refine⟨xs,⟨J,z07 O (qh _),λi hi=>z07 (G i hi).1 (qh _),λi hi=>z07 (G i hi).2 (qh _)⟩,λi hi g U e=>?_⟩;have V:=((G i hi).2.lt g U).1;have:=k g e;omega
abbrev zal (tp old:Int)(v:Value):Value:= .agg #[.int .i64 tp,.int .i64 old,v]
def z8D (w:World)(Zh:Nat->Prop)(od:Int->Int)(f:Int->Option Value)(B:List SX.Blk):Prop:=
 (∀b∈B,∃v,f b.n=some (zal b.zto (od b.n) v)/\SrT w Zh v b.S/\ -1<=od b.n/\od b.n<100)/\∀n,f n≠none->∃b∈B,b.n=n
structure z1v (w:World) (hb bm cnt:Nat) (Zh:Nat->Prop) (vg:Value) (x:SX.St) (od:Int->Int):Prop where
 hd:HdT w hb Zh x.s.mark x.s.H
 mp:∃f,z1x q6 2 w bm cnt f/\z8D w Zh od f x.s.B
 gn:z5Q w 0 vg (x.G.map λd=>SX.txt (.gone d))
abbrev z0L (hb bm:Nat)(vg:Value)(x:SX.St):Array Value:=#[.pointer (some ⟨hb,0,none⟩),.map (some bm),.int .i64 x.s.nx,vg]
theorem z1v.kept {w w':World}{hb bm cnt:Nat}{Zh:Nat->Prop}{vg:Value}{x:SX.St}{od:Int->Int}(h:z1v w hb bm cnt Zh vg x od)(k:∀(g:Nat) (c:Array Value) (e:qn),(e=165\/e=93\/e=107\/e=98\/e=9)->w.heap[g]? =some (.cells c e)->w'.heap[g]? =w.heap[g]?)(J:w'.heap[bm]? =w.heap[bm]?):z1v w' hb bm cnt Zh vg x od:=by
 obtain⟨f,h1,O,U⟩:=h.mp;refine⟨h.hd.kept λg c e G q=>k g c e (by rcases G with e | e | e | e<;>simp[e]) q,⟨f,h1.block J,λb hb=>?_,U⟩,z04 h.gn λg c q=>k g c _ (by simp) q⟩;obtain⟨v,V,Y,q3⟩:=O b hb;exact⟨v,V,Y.kept λg c e G q=>k g c e (by rcases G with e | e | e<;>simp[e]) q,q3⟩
theorem z1v.mlt {w:World}{hb bm cnt:Nat}{Zh:Nat->Prop}{vg:Value}{x:SX.St}{od:Int->Int}(h:z1v w hb bm cnt Zh vg x od):bm<w.heap.size:=by
 obtain⟨f,h1,_⟩:=h.mp;exact h1.lt
theorem z1v.below {w w':World}{hb bm cnt:Nat}{Zh:Nat->Prop}{vg:Value}{x:SX.St}{od:Int->Int}(h:z1v w hb bm cnt Zh vg x od)(k:Below w.heap.size w w'):z1v w' hb bm cnt Zh vg x od:=
 h.kept (λg _ _ _ q=>k.block g (z00 q)) (k.block bm h.mlt)
theorem z1v.disk {w w':World}{hb bm cnt:Nat}{Zh q:Nat->Prop}{vg:Value}{x:SX.St}{od:Int->Int}(h:z1v w hb bm cnt Zh vg x od)(hk:zdA w q)(O:¬q bm)(G:XFr q w w'):z1v w' hb bm cnt Zh vg x od:=
 h.kept (λg c e U J=>G.block g (z00 J) (hk.out J (λk=>by
  unfold KD at k;rcases U with rfl|rfl|rfl|rfl|rfl<;>revert k<;>decide))) (G.block bm h.mlt O)
theorem z1v.mono {w:World}{hb bm cnt cnt':Nat}{Zh:Nat->Prop}{vg:Value}{x:SX.St}{od:Int->Int}(h:z1v w hb bm cnt Zh vg x od)(q:cnt<=cnt'):z1v w hb bm cnt' Zh vg x od:=by
 obtain⟨f,h1,G⟩:=h.mp;exact⟨h.hd,⟨f,h1.mono q,G⟩,h.gn⟩
end
section
open Go.RowKit Go.Maps
theorem zi8 (a:Addr)(m c:Nat)(W:World):Sem.run q6 (binOp oD 102 (.slice (some a) m c) (.slice none 0 0)) W= .ok (.bool false) W:=by kernel_rfl
theorem zi5 (m c:Nat)(W:World):Sem.run q6 (binOp oD 102 (.slice none m c) (.slice none 0 0)) W= .ok (.bool true) W:=by kernel_rfl
theorem zdE (g m c:Nat)(b:ByteArray)(w:World)(hb:b.size=m)(hc:∀j u,(wW b)[j]? =some u->w.cell? ⟨g,j,none⟩=some u)(hm:m<=1000000000)(hg:g<w.heap.size):
  Calls q6 98 #[.slice (some ⟨g,0,none⟩) m c] w λen w'=>∃G k c',en= .returned (.slice G k c')/\w'.ownsRow w.heap.size 5 1 (.slice G k c') b.size (wW b)/\Below w.heap.size w w':=by
 obtain⟨i,hi,J,O,U⟩:=info_parts Tryz.info5;have A3:=zi8 ⟨g,0,none⟩ m c;have HC:=hid hc;have V:=hid hi;have Y:=hid J;have A1:=hid O;have A2:=hid U;have HB:=hid hb;clear hc hi J O U hb;go_enter func98,ntmps98;have HO:Hid ((w.alloc (.cells #[] 5)).ownsRow w.heap.size 5 1 (.slice (some ⟨w.heap.size,0,none⟩) 0 0) 0 []):=⟨rfl,.inr ⟨w.heap.size,0,#[],rfl,qq _,qu w _,qq _,by unfold qS;omega,rfl,rfl⟩⟩;have HN:Hid (∀j u,(wW b)[j]? =some u->(w.alloc (.cells #[] 5)).cell? ((⟨g,0,none⟩:Addr).add j)=some u):=λj u hj=>by
  have h1:=HC.out j u hj;rw[qP,qT];exact(World.cell?_of_block (w:=w) (w':=w.alloc (.cells #[] 5)) (a:=⟨g,j,none⟩) (Below.heap_alloc w _ g hg)).trans h1
 have HL:Hid ((wW b).length=m*1):=by
  show _=_;rw[Lib.strCells_length,HB.out,Nat.mul_one]
 go_wp2_with (at_builtin;refine rB _ rfl (.tmp 5) (.tmp 6) 102 rfl w.heap.size 5 i (.int .u8 0) 1 1 underlying102 V.out Y.out A1.out A2.out rfl (by decide) _ 0 [] rfl HO.out ⟨g,0,none⟩ m c (wW b) rfl HL.out HN.out (Lib.strCells_oneCell b) (by unfold qS;omega) (by omega) (by simp) ?_)
 intro v' w1 h q _;have HQ:Hid (w1.ownsRow w.heap.size 5 1 v' b.size (wW b)/\Below w.heap.size w w1):=by
  refine⟨?_,((Below.refl w.heap.size w).alloc (qq _) (.cells #[] 5)).grown q (by simp) (λj hj=>by cases hj;exact qq _)⟩;rw[HB.out];simpa using h
 obtain⟨G,k,c',rfl⟩:∃(G:Option Addr) (k c':Nat),v'= .slice G k c':=by
  rcases h.2 with⟨h0,_⟩|⟨_,_,_,h0,_⟩
  .exact⟨_,_,_,h0⟩
  .exact⟨_,_,_,h0⟩
 clear h q HO HN HL;go_wp2;go_ret;exact⟨G,k,c',rfl,HQ.out.1,HQ.out.2⟩
theorem zea (w:World):
  Calls q6 98 #[.slice none 0 0] w λh w'=>h= .returned (.slice none 0 0)/\w'=w:=by
 have q:=zi5 0 0;go_enter func98,ntmps98;go_wp2;go_ret;exact⟨rfl,rfl⟩
def zmE (w:World)(b:ByteArray)(z:Nat)(h:rO)(w':World):Prop:=
 ∃ao k c',h= .returned (.slice ao k c')/\z5U w' (.slice ao k c') (b.extract 0 z)/\(∀g,(Value.slice ao k c').ownBlock=some g->w.heap.size<=g)/\Below w.heap.size w w'
theorem z2R (b:ByteArray)(z:Nat):wW (b.extract 0 z)=(wW b).take z:=by
 unfold wW;rw[<-List.map_take]
 congr 1
 simp[wA]
theorem zgz {J:Option Addr}{cap z:Nat}{b:ByteArray}{w:World}(h:z5U w (.slice J b.size cap) b)(hz:z<=b.size)(hb:b.size<=1000000000):
  Calls q6 98 #[.slice J z cap] w λU w'=>zmE w b z U w':=by
 rcases h.2 with⟨q,h1⟩|⟨g,A2,A3,q,_,hc,_⟩
 .simp only[eC] at q;obtain⟨rfl,_,rfl⟩:=q;have V:z=0:=by omega
  subst V;refine(zea w).mono ?_;rintro U w' ⟨rfl,rfl⟩;refine⟨none,0,0,rfl,?_,λg hg=>(by cases hg),Below.refl _ _⟩;have Y:(b.extract 0 0).size=0:=by rw[eD];omega
  show World.ownsRow _ _ _ _ _ _ _;rw[z2R,Y];exact World.ownsRow_nil w' 0 5 1
 .simp only[eC] at q;obtain⟨rfl,_,rfl⟩:=q;have Y:(b.extract 0 z).size=z:=by rw[eD];omega
  refine(zdE g z cap (b.extract 0 z) w Y (λj u O=>?_) (by omega) (z00 hc)).mono ?_
  .rw[z2R,List.getElem?_take] at O;split at O
   .have:=h.cells (g:=g) rfl j u O;rw[qP,qT] at this;exact this
   .cases O
  .rintro U w' ⟨J,k,c',rfl,ho,G⟩;exact⟨J,k,c',rfl,ho.mono (qh _),λg' A1=>(ho.lt g' A1).1,G⟩
section
variable {w : World} {X : Nat → Prop} {bd cnt : Nat} {D : DK.M} {p : Int} {mo : Option Nat} {fp : ByteArray → Option Nat} {fv : ByteArray → Value} {e : Bool} {l : Int}
def z9u (w:World)(X:Nat->Prop)(bd cnt:Nat)(D:DK.M)(p:Int)(mo:Option Nat)(fp:ByteArray->Option Nat)(fv:ByteArray->Value)(e:Bool)(l:Int)(n:ByteArray)(q:Nat)(f':DK.Fl)(w':World):Prop:=
 (∃v',DkA w' (λj=>X j\/w.heap.size<=j) bd cnt (DK.put D n f') p mo fp (zbj fv n v') e l)/\XFr X w w'/\∀j,j<w.heap.size->j≠q->(∀c,w.heap[j]? ≠some (.cells c 5))->w'.heap[j]? =w.heap[j]?
theorem ziE {w0 w1 w2:World}{n:ByteArray}{q z m:Nat}{f:DK.Fl}{v2 v0:Value}(h:DkA w0 X bd cnt D p mo fp fv e l)(A2:XFr X w w0)(A3:w0.heap.size=w.heap.size)(A4:∀j:Nat,w0.heap[j]? =w.heap[j]?)(hq:fp n=some q)(hD:D n=some f)(hz:f.s+z=(DK.z3t f m).s)
  (A5:∀j,j≠q->w1.heap[j]? =w0.heap[j]?) (G:XFr (λj=>j=q) w0 w1) (hb:Below w1.drew.heap.size w1.drew w2) (V:w2.heap[q]? =some (.cells #[v0,.int .i64 ((f.s:Int)+(z:Int)),.bool true] 104)) (hr:z5U w2 v2 (f.b.extract 0 (f.s+z))) (hn:∀g,v2.ownBlock=some g->w1.drew.heap.size<=g):
  z9u w X bd cnt D p mo fp fv e l n q (DK.z3t f m) (w2.setCell ⟨q,0,none⟩ v2):=by
 obtain⟨b1,b2,b3,b4⟩:=h.files.body n q f hq hD;have A7:w0.heap.size<=w1.drew.heap.size:=G.size;have A8:=hb.size;have Y:∀j,j<w0.heap.size->j≠q->(w2.setCell ⟨q,0,none⟩ v2).heap[j]? =w0.heap[j]? :=λj O J=>(Below.heap_setCell w2 ⟨q,0,none⟩ v2 j J).trans ((hb.block j (by omega)).trans (A5 j J))
 have U:=h.set (w':=w2.setCell ⟨q,0,none⟩ v2) (f':=DK.z3t f m) (v':=v2) hq (by simp;omega) (λj O J _=>Y j O J)
  (by rw[qo w2 q 0 _ _ _ V,<-hz,Int.natCast_add];rfl)
  (by
   have e1:(DK.z3t f m).b=f.b.extract 0 (f.s+z):=by rw[hz];rfl
   rw[e1];exact hr.block λg hg=>Below.heap_setCell w2 ⟨q,0,none⟩ v2 g (λe2=>by
    subst e2;obtain⟨A9,hc⟩:=hr.at hg;rw[V] at hc;simp at hc))
  (λg hg=> .inr (by have:=hn g hg;omega))
 rw[A3] at U;refine⟨⟨v2,U⟩,?_,?_⟩
 .have A6:XFr (λj=>j=q) w1.drew (w2.setCell ⟨q,0,none⟩ v2):=(XFr.below hb).trans (XFr.setCell w2 ⟨q,0,none⟩ v2 (X:=λj=>j=q) rfl) (λj O=> .inl O);have A1:XFr (λj=>j=q) w0 w1.drew:=⟨G.os,G.tape,G.output,G.size,G.block⟩;exact A2.trans ((A1.trans A6 (λj O=> .inl O)).mono (X':=X) (λj O=>by rw[O];exact b1)) (λj O=> .inl O)
 .intro j O J _;rw[Y j (by omega) J,A4]
theorem zhY {n:ByteArray}{q:Nat}{f:DK.Fl}(h:DkA w X bd cnt D p mo fp fv e l)(hq:fp n=some q)(hD:D n=some f)(hs:f.s<=f.b.size)(hb:f.b.size<=1000000000)(m:Nat)(_hm:(m:Int)<=9223372036854775807):
  Calls q6 44 #[.pointer (some ⟨q,0,none⟩),.int .i64 m] w λen w'=>en= .returned (.tuple #[])/\z9u w X bd cnt D p mo fp fv e l n q (DK.z3t f m) w':=by
 obtain⟨b1,b2,b3,b4⟩:=h.files.body n q f hq hD;obtain⟨ao,cap,hv,Av⟩:=b3.shape;have U:=dzcell _ q _ _ b2 0 (fv n) rfl;have A3:=dzcell _ q _ _ b2 1 _ rfl;have A4:=dzcell _ q _ _ b2 2 _ rfl;have A5:=z3w _ q _ _ b2 0;have A6:=z3w _ q _ _ b2 1;have A7:=z3w _ q _ _ b2 2;rw[hv] at U;have HI:=hid h;have V:=hid b2;have Y:=hid b3;have HV:=hid hv;obtain⟨d,hd⟩:∃d:Nat,d=f.b.size-f.s:=⟨_,rfl⟩;have hw:qW.wrap ((f.b.size:Int)-(f.s:Int))=(d:Int):=by rw[qY];omega
 have Af:wrap64 ((f.b.size:Int)-(f.s:Int))=(d:Int):=by unfold wrap64;omega
 have HD:=hid hd;clear h b1 b2 b3 b4 hd hv;go_enter func44,ntmps44;go_wp2_with fail
 go_quiet (fail)
 have A2:(if d<m then(d:Int) else(m:Int))=((min m d:Nat):Int):=by split<;>omega
 first | rw[A2] | rw[show min (m:Int) (d:Int)=((min m d:Nat):Int) by omega]
 have HZ:Hid (f.s+min m d=(DK.z3t f m).s):=by
  show _=_;unfold DK.z3t;rw[HD.out]
 have A8:f.s+min m d<=f.b.size:=by have:=HD.out;omega
 generalize min m d=z at*;have Ag:Hid (DkA (w.drewN nq) X bd cnt D p mo fp fv e l):=HI.out.kept λ_ _ _=>rfl
 have Ah:Hid (XFr X w (w.drewN nq)):=(XFr.refl X w).drewN nq;have Ai:Hid (∀j:Nat,(w.drewN nq).heap[j]? =w.heap[j]?):=λ_=>rfl
 have Aj:Hid ((w.drewN nq).heap.size=w.heap.size):=rfl;replace V:Hid ((w.drewN nq).heap[q]? =_):=V.out;replace Y:Hid (z5U (w.drewN nq) (fv n) f.b):=Y.out.block λ_ _=>rfl
 replace U:(w.drewN nq).cell? _=_:=U;replace A3:(w.drewN nq).cell? _=_:=A3;replace A4:(w.drewN nq).cell? _=_:=A4;replace A5:(w.drewN nq).frozen? _=_:=A5;replace A6:(w.drewN nq).frozen? _=_:=A6;replace A7:(w.drewN nq).frozen? _=_:=A7;generalize w.drewN nq=w0 at*;have Ak:qW.wrap ((f.s:Int)+(z:Int))=((f.s+z:Nat):Int):=by rw[qY];omega
 have A9:wrap64 ((f.s:Int)+(z:Int))=((f.s+z:Nat):Int):=by unfold wrap64;omega
 have J:((w0.setCell ⟨q,1,none⟩ (.int .i64 ((f.s:Int)+(z:Int)))).setCell ⟨q,2,none⟩ (.bool true)).heap[q]? =some (.cells #[fv n,.int .i64 ((f.s:Int)+(z:Int)),.bool true] 104):=by
  rw[qo _ q 2 _ _ _ (qo w0 q 1 _ _ _ V.out)];rfl
 have Ac:Hid (∀j,j≠q->((w0.setCell ⟨q,1,none⟩ (.int .i64 ((f.s:Int)+(z:Int)))).setCell ⟨q,2,none⟩ (.bool true)).heap[j]? =w0.heap[j]?):=λj hj=>(Below.heap_setCell _ ⟨q,2,none⟩ _ j hj).trans (Below.heap_setCell w0 ⟨q,1,none⟩ _ j hj)
 have Al:Hid (XFr (λj=>j=q) w0 ((w0.setCell ⟨q,1,none⟩ (.int .i64 ((f.s:Int)+(z:Int)))).setCell ⟨q,2,none⟩ (.bool true))):=(XFr.setCell w0 ⟨q,1,none⟩ _ (X:=λj=>j=q) rfl).trans (XFr.setCell _ ⟨q,2,none⟩ _ (X:=λj=>j=q) rfl) (λj hj=> .inl hj);go_wp2_with fail;generalize (w0.setCell ⟨q,1,none⟩ (.int .i64 ((f.s:Int)+(z:Int)))).setCell ⟨q,2,none⟩ (.bool true)=w1 at*;have Am:=hid J;have Ao:Hid (z5U w1 (fv n) f.b):=Y.out.block λg hg=>Ac.out g (λe2=>by
  subst e2;obtain⟨Aw,hc⟩:=Y.out.at hg;rw[V.out] at hc;simp at hc)
 rw[HV.out] at J;have Ax:=dzcell _ q _ _ J 0 _ rfl;have Ay:=dzcell _ q _ _ J 1 _ rfl;have Az:=z3w _ q _ _ J 0;have HC:=hid (zgz (w:=w1.drew) (z:=f.s+z) (HV.out▸(Ao.out.block (w':=w1.drew) λ_ _=>rfl)) A8 hb);have Ad:Hid (w1.drew.heap[q]? =_):=Am.out;clear J U A3 A4 A5 A6 A7 hw Af Ak A9 A2;have AA:(0:Int)<=(f.s:Int)+(z:Int)/\(f.s:Int)+(z:Int)<=(cap:Int):=⟨by omega,by omega⟩;have AB:(((f.s:Int)+(z:Int)).toNat)=f.s+z:=by omega
 go_region_with (go_at_call 98;refine HC.out.mono ?_;rintro en w2 ⟨AC,k2,c2,rfl,Ae,O,G⟩;have A1:=(G.block q (z00 Ad.out)).trans Ad.out;have AD:=dzcell _ q _ _ A1 0 _ rfl;have AE:=z3w _ q _ _ A1 0;have Ap:=hid A1;have Aq:=hid Ae;have Ar:=hid O;have Au:=hid G;clear A1 Ae O G)
 all_goals
  go_wp2
  go_end0
  exact⟨rfl,ziE Ag.out Ah.out Aj.out Ai.out hq hD HZ.out Ac.out Al.out Au.out Ap.out Aq.out Ar.out⟩
end
end
section
open Go.RowKit Go.Maps
section
variable {w : World} {X : Nat → Prop} {bd cnt : Nat} {D : DK.M} {p : Int} {mo : Option Nat} {fp : ByteArray → Option Nat} {fv : ByteArray → Value} {e : Bool} {l : Int}
def z0Z (w:World)(X:Nat->Prop)(bd cnt bm r:Nat)(D:DK.M)(c:Int)(e:Bool)(l:Int)(left:ByteArray->Bool)(h:Nat)(W:World):Prop:=
 ∃X' D' fp' fv',DkA W X' bd cnt D' (-1) (some bm) fp' fv' e l/\z7V q6 9 W bm r cnt (pF fp') left h/\XFr X w W/\(∀j,X' j->X j\/w.heap.size<=j)/\¬X' r/\∀s,D' s=if left s then D s else DK.start D c s
theorem z0Z.done {bm r q:Nat}{c:Int}{left:ByteArray->Bool}{W:World}(h:z0Z w X bd cnt bm r D c e l left q W)(G:∀s,left s=false):z2n w X bd cnt (DK.start D c) (-1) W:=by
 obtain⟨X',D',J,O,U,h2,V,Y,h5,h6⟩:=h;have e1:D'=DK.start D c:=by
  funext s
  rw[h6,G];rfl
 subst e1;exact⟨X',⟨_,_,_,_,_,U⟩,V,Y⟩
theorem z0Z.stays {bm r cn q:Nat}{c:Int}{left:ByteArray->Bool}{W4 w5:World}{X':Nat->Prop}{D':DK.M}{h:ByteArray->Option Nat}{U:ByteArray->Value}{s:ByteArray}{f:DK.Fl}
  (O:z7V q6 9 W4 bm r cnt (pF h) (z1a left s) cn) (A2:DkA W4 X' bd cnt D' (-1) (some bm) h U e l) (hx:XFr X w W4) (G:∀j,X' j->X j\/w.heap.size<=j) (hr:¬X' r) (V:∀s,D' s=if left s then D s else DK.start D c s)
  (hq:h s=some q) (hl:left s=true) (hf:D' s=some f) (A3:DK.stay f c=true) (hk:z9u W4 X' bd cnt D' (-1) (some bm) h U e l s q (DK.z3t f c.toNat) w5):z0Z w X bd cnt bm r D c e l (z1a left s) cn w5:=by
 obtain⟨⟨v',k1⟩,k2,k3⟩:=hk;obtain⟨b1,b2,b3,b4⟩:=A2.files.body s q f hq hf;obtain⟨es,A4,Y⟩:=O.map.isMap;obtain⟨i1,i2,i3,i4,A1⟩:=O.iter;have A5:bm≠q:=λe1=>by subst e1;rw[Y] at b2;cases b2
 have A6:r≠q:=λe1=>by subst e1;rw[A1] at b2;cases b2
 have A8:=hx.size;refine⟨_,_,h,_,k1,O.block (k3 bm O.map.lt A5 (by intro c h1;rw[Y] at h1;cases h1)) (k3 r O.lt A6 (by intro c h1;rw[A1] at h1;cases h1)),hx.trans k2 G,?_,?_,?_⟩
 .rintro j (hj|hj)
  .exact G j hj
  .exact .inr (by omega)
 .rintro(hj|hj)
  .exact hr hj
  .have:=O.lt;omega
 .intro t;by_cases et:t=s
  .subst et;have A7:D t=some f:=by rw[<-hf,V t,hl];rfl
   have J:z1a left t t=false:=by unfold z1a;simp
   rw[DK.put_same,J,DK.z1G A7,if_pos A3];rfl
  .rw[DK.z0b _ _ _ _ et,V t];have J:z1a left s t=left t:=by unfold z1a;simp[et]
   rw[J]
theorem z0Z.goes {bm r cn q:Nat}{c:Int}{left:ByteArray->Bool}{Y w5:World}{X':Nat->Prop}{D':DK.M}{h:ByteArray->Option Nat}{U:ByteArray->Value}{s:ByteArray}{f:DK.Fl}
  (J:DkA Y X' bd cnt D' (-1) (some bm) h U e l) (hx:XFr X w Y) (G:∀j,X' j->X j\/w.heap.size<=j) (hr:¬X' r) (V:∀s,D' s=if left s then D s else DK.start D c s)
  (hq:h s=some q) (hl:left s=true) (hf:D' s=some f) (A1:DK.stay f c=false) (h5:z7V q6 9 w5 bm r cnt (zhO (pF h) s) (z1a (z1a left s) s) cn) (hg:Y.grownBy w5 (some bm)):z0Z w X bd cnt bm r D c e l (z1a left s) cn w5:=by
 rw[zr9,<-zfz] at h5;obtain⟨m1,m2⟩:=J.map bm rfl;refine⟨X',DK.del D' s,zdU h s,U,J.zjw rfl hg h5.map (J.files.cut s),h5,hx.trans (XFr.grown (X:=X') hg (λj hj=>by cases hj;exact .inl m1)) G,G,hr,?_⟩;intro t;by_cases et:t=s
 .subst et;have A2:D t=some f:=by rw[<-hf,V t,hl];rfl
  have O:z1a left t t=false:=by unfold z1a;simp
  rw[DK.z2k,O,DK.z1G A2,A1];rfl
 .rw[DK.z0A _ _ _ et,V t];have O:z1a left s t=left t:=by unfold z1a;simp[et]
  rw[O]
theorem z7D {bm:Nat}(h:DkA w X bd cnt D p (some bm) fp fv e l)(c:Int)(AQ: -9223372036854775808<=c)(AR:c<=9223372036854775807)(hF:DK.Fine 1000000000 D):
  Calls q6 15 #[.pointer (some ⟨bd,0,none⟩),.int .i64 c] w λen w'=>en= .returned (.tuple #[])/\z2n w X bd cnt (DK.start D c) (-1) w':=by
 have HC:=hid (z8X h (-1) (by omega));have HF:=hid hF;have AU:=hid h.xd;clear h hF;go_enter func15,ntmps15;go_wp2_with fail;refine HC.out.mono ?_;rintro en w1 ⟨rfl,⟨e1,l1,h1⟩,Au⟩;have c0:=h1.c0;have H1:=hid h1;have HM:=hid (h1.map bm rfl);have A9:=hid (ChEnd.fr (X:=X) Au h1.xd);clear h1 Au HC;go_wp2_with (at_range;refine z7J rfl (.tmp 13) 30 rfl 9 101 underlying9 underlying30 bm cnt (pF fp) rfl HM.out.2 ?_)
 intro w3 cn left Ac U AE Ad Av;have AF:=Ac.lt;have HS:Hid (z0Z w X bd cnt bm w1.heap.size D c e1 l1 left cn w3):=by
  refine⟨λj=>X j/\j<w1.heap.size,D,fp,fv,?_,Ac,A9.out.trans (XFr.grown (X:=X) Ad (λj O=>by cases O)) (λj O=> .inl O),λj O=> .inl O.1,λO=>by omega,?_⟩
  .exact H1.out.narrow.kept λj _ O=>Ad.block j O (by simp)
  .intro s;rw[U s];cases hf:fp s with
   | none=>
    have hn:D s=none:=(H1.out.files.no s).1 hf;rw[DK.z2u hn,hn];rfl
   | some q=>
    rfl
 have AG:w.heap.size<=w1.heap.size:=A9.out.size;clear Ac U AE Ad Av AF HM H1 A9;generalize w1.heap.size=r at*;go_wp2_with fail;go_loopw [15] (λ_ W=>∃left' cn',z0Z w X bd cnt bm r D c e1 l1 left' cn' W) (λ_ W=>W.rangeLeft bm r)
 case atStart=>exact⟨left,cn,HS.out⟩
 case round=>
  obtain⟨lf,cf,X',D',A3,Ae,Af,A4,hx,V,hr,Ag⟩:=hrel;have Ah:=hid Af;have Aw:=hid A4;have Ax:=hid hx;have HSub:=hid V;have HR:=hid hr;have A5:=hid Ag;have AH:Hid (z0Z w X bd cnt bm r D c e1 l1 lf cf wr):=⟨X',D',A3,Ae,Af,A4,hx,V,hr,Ag⟩;have Ai:=hid A4.left_eq;clear Af A4 hx V hr Ag HS;go_wp2_with (at_next;refine z9v rfl (.tmp 14) rfl 9 underlying9 bm r cnt (pF A3) lf cf rfl Aw.out ?_ ?_)
  .intro Ay;have HQ:=hid (AH.out.done Ay);go_wp2
   go_end0
   exact⟨rfl,HQ.out⟩
  .intro s v w4 c4 hs q hq hv Aj A6 A7 Ak Az AV;subst hv;obtain⟨f,hf⟩:=Ah.out.files.zhP hq;have AJ:=HR.out;have H4:Hid (DkA w4 X' bd cnt D' (-1) (some bm) A3 Ae e1 l1):=Ah.out.kept λj O AK=>Ak.block j AK (λe2=>AJ (qt e2▸O))
   have Al:Hid (XFr X w w4):=Ax.out.trans (XFr.grown (X:=λj=>j=r) Ak (λj O=>by cases O;exact .inl rfl)) (λj O=> .inr (by subst O;exact AG));obtain⟨b1,b2,b3,b4⟩:=H4.out.files.body s q f hq hf;have Am:=dzcell _ q _ _ b2 2 _ rfl;have AW:=H4.out.c0;have AA:D s=some f:=by rw[<-hf,A5.out s,Aj];rfl
   obtain⟨_,AB,AC,_⟩:=HF.out s f AA;have Ao:=hid A6;have Ap:=hid hf;have HK:Hid (∀x:Int,x=(c.toNat:Int)->Calls q6 44 #[.pointer (some ⟨q,0,none⟩),.int .i64 x] w4 λen w'=>en= .returned (.tuple #[])/\z9u w4 X' bd cnt D' (-1) (some bm) A3 Ae e1 l1 s q (DK.z3t f c.toNat) w'):=by
    rintro x rfl;exact zhY H4.out hq hf AC AB c.toNat (by omega)
   have Aq:=hid hq;have Ar:=hid Aj;clear b1 b2 b3 b4 A6 Ak Az hf AA AB AC hq Aj Ah Ax Aw;by_cases J:DK.stay f c=true
   .cases hk:f.k with
    | true=>
     rw[hk] at Am;go_wp2_with fail
     all_goals
      refine(HK.out _ (by omega)).mono ?_;rintro en w5 ⟨rfl,Y⟩;have HSt:=hid (z0Z.stays Ao.out H4.out Al.out HSub.out HR.out A5.out Aq.out Ar.out Ap.out J Y);clear Y;have A1:Hid (w5.rangeLeft bm r=c4):=by
       obtain⟨_,_,_,_,_,h2,_⟩:=HSt.out;exact h2.left_eq
      go_wp2_with fail;go_roundw
      case rel=>exact⟨_,_,HSt.out⟩
      case measure=>rw[A1.out,Ai.out];exact A7
    | false=>
     rw[hk] at Am;have AL:0<c:=by
      unfold DK.stay at J;rw[hk] at J;simp at J;omega
     go_wp2_with fail
     all_goals
      refine(HK.out _ (by omega)).mono ?_;rintro en w5 ⟨rfl,Y⟩;have HSt:=hid (z0Z.stays Ao.out H4.out Al.out HSub.out HR.out A5.out Aq.out Ar.out Ap.out J Y);clear Y;have A1:Hid (w5.rangeLeft bm r=c4):=by
       obtain⟨_,_,_,_,_,h2,_⟩:=HSt.out;exact h2.left_eq
      go_wp2_with fail;go_roundw
      case rel=>exact⟨_,_,HSt.out⟩
      case measure=>rw[A1.out,Ai.out];exact A7
   .have G:DK.stay f c=false:=by simpa using J
    have hk:f.k=false:=by
     unfold DK.stay at G;simp at G;exact G.1
    have AM:¬(0<c):=by
     unfold DK.stay at G;simp at G;omega
    rw[hk] at Am;obtain⟨w5,c5,A8,A2,AO,AD,_⟩:=Ao.out.drop underlying9 underlying30 hs 0;have AP:∀ty,(Builtin.delete_ #[30,9] ty #[.map (some bm),.string s]).run q6 w4= .ok (.tuple #[]) w5:=λty=>A8
    have HSt:=hid (z0Z.goes H4.out Al.out HSub.out HR.out A5.out Aq.out Ar.out Ap.out G A2 AD);have A1:=hid A2.left_eq;clear A8 A2 AD J G;go_wp2_with fail;go_roundw
    case rel=>exact⟨_,_,HSt.out⟩
    case measure=>rw[A1.out,Ai.out];omega
theorem z7C (h:DkA w X bd cnt D p none fp fv e l)(c:Int):
  Calls q6 15 #[.pointer (some ⟨bd,0,none⟩),.int .i64 c] w λJ w'=>J= .returned (.tuple #[])/\z2n w X bd cnt (DK.start D c) (-1) w':=by
 have O:=hid (z8X h (-1) (by omega));clear h;go_enter func15,ntmps15;go_wp2_with fail;refine O.out.mono ?_;rintro J w1 ⟨rfl,⟨e1,l1,h1⟩,q⟩;have c0:=h1.c0;have V:Hid (z2n w X bd cnt (DK.start D c) (-1) (w1.alloc (.mapIter none 0 #[] 0))):=by
  have Y:DK.start D c=D:=by
   funext s
   have U:D s=none:=(h1.files.no s).1 (h1.nomap rfl s);rw[DK.z2u U,U]
  rw[Y];exact⟨X,⟨_,_,_,_,_,h1.below ((Below.refl _ _).alloc (qq _) _)⟩,(ChEnd.fr q h1.xd).trans (XFr.alloc X _ _) (λj G=> .inl G),λj G=> .inl G⟩
 have A1:=run_range_nilMap w1 30 9 101 underlying30;clear h1 q O;have A2:=run_next_nilMap (P:=q6) w1;go_wp2_with fail;refine wp_loop_rounds 1 ?_;rw[rounds_succ];go_wp2
 go_end0
 exact⟨rfl,V.out⟩
theorem zgQ (h:DkA w X bd cnt D p mo fp fv e l)(c:Int)(q: -9223372036854775808<=c)(G:c<=9223372036854775807)(J:DK.Fine 1000000000 D):
  Calls q6 15 #[.pointer (some ⟨bd,0,none⟩),.int .i64 c] w λO w'=>O= .returned (.tuple #[])/\z2n w X bd cnt (DK.start D c) (-1) w':=by
 cases mo with
 | none=>exact z7C h c
 | some bm=>exact z7D h c q G J
end
end
section
open Go.RowKit Go.Maps
def ST (T:List (List UInt8))(p:ByteArray->Prop):Prop:=T.Pairwise (· <= ·)/\T.Nodup/\∀s:ByteArray,s.data.toList∈T↔p s
theorem ST.mem {T:List (List UInt8)}{p:ByteArray->Prop}(h:ST T p)(x:List UInt8):x∈T↔p ⟨x.toArray⟩:=by
 have:=h.2.2 ⟨x.toArray⟩;simpa using this
theorem ST.congr {T:List (List UInt8)}{p q:ByteArray->Prop}(h:ST T p)(G:∀s,p s↔q s):ST T q:=⟨h.1,h.2.1,λs=>(h.2.2 s).trans (G s)⟩
theorem ST.nil {p:ByteArray->Prop}(h:∀s,¬p s):ST [] p:=⟨yd,List.nodup_nil,λs=>by simp[h s]⟩
theorem ST.sorted {ss:List (List UInt8)}{p:ByteArray->Prop}(J:ss.Nodup)(O:∀s:ByteArray,s.data.toList∈ss↔p s):ST (ss.mergeSort λx y=>decide (x<=y)) p:=by
 refine⟨?_,(rC ss _).nodup_iff.2 J,λs=>by rw[(rC ss _).mem_iff];exact O s⟩;refine(uX (le:=λx y=>decide (x<=y)) (λa b c q G=>?_) (λa b=>?_) ss).imp λh=>of_decide_eq_true h
 .simp only[decide_eq_true_eq] at q G ⊢;exact List.le_trans q G
 .simp only[og,decide_eq_true_eq];exact List.le_total a b
section
variable {P : Program} {k : TypeId} {R : Value → Option (DataW Value × List MemPlace)} {w : World} {b n : Nat} {D : DataW Value}
theorem z97 (h:w.ownsMap P k R b n D)(hk:P.underlying k=some .string):(oh D).Nodup/\∀x,x∈oh D↔has D (.string x)=true:=by
 obtain⟨es,hD,V,_⟩:=h.entries (string_keyed hk);obtain⟨Y,U,A1⟩:=h.keysOf;obtain rfl:es=Y:=by rw[hD] at U;simpa using U
 subst hD;have J:∀p∈es,∃x,p.1= .string x:=λp hp=>by
  obtain⟨v,hv⟩:=A1 p hp;obtain⟨x,_,hx,_⟩:=Maps.keyOf_str hk hv;exact⟨x,hx⟩
 constructor
 .show(es.map λp=>iy p.1).Nodup;refine eX.2 (V.imp_of_mem λ{p q} G A2 A3 e=>A3 ?_);obtain⟨a,O⟩:=J p G;obtain⟨b,hb⟩:=J q A2;rw[O,hb] at e ⊢;exact congrArg _ e
 .intro x;rw[has_eq,ya];show x∈es.map (λp=>iy p.1)↔_;rw[qx];constructor
  .rintro⟨p,G,rfl⟩;obtain⟨a,O⟩:=J p G;exact⟨p,G,by rw[O];simp[yD,iy]⟩
  .rintro⟨p,G,hs⟩;obtain⟨a,O⟩:=J p G;rw[O] at hs;exact⟨p,G,by rw[O];simpa [yD,iy] using hs⟩
theorem zb1 (h:w.ownsMap P k R b n D):(oh D).length=rl D:=by
 obtain⟨es,rfl⟩:=h.isMap;show(es.map _).length=es.length;rw[qz]
theorem zkQ {f:ByteArray->Option Value}(h:w.ownsMap P k R b n D)(J:P.underlying k=some .string)(G:z5M D f){ss:List (List UInt8)}(hp:ss.Perm (oh D)):ST (ss.mergeSort λx y=>decide (x<=y)) λs=>f s≠none:=by
 obtain⟨O,U⟩:=z97 h J;refine ST.sorted (hp.nodup_iff.2 O) λs=>?_
 rw[hp.mem_iff,U];constructor
 .intro q V;rw[(G.2 s).1 V] at q;cases q
 .intro q;cases hf:f s with
  | none=>exact absurd hf q
  | some v=>exact((G.2 s).2 v hf).1
end
def zhI (p:ByteArray->Prop)(w:World)(e:rO)(w':World):Prop:=∃v T,e= .returned v/\ST T p/\T.length<=100000/\w'.ownsRow w.heap.size 9 1 v T.length (T.map encStr)/\Below w.heap.size w w'
theorem Tryz.infoS:(q6.info? 9).map (λi=>(i.zero,i.size,i.bytes))=some (some (.string ⟨#[]⟩),1,16):=by kernel_rfl
end
section
open Go.RowKit Go.Maps
theorem zj9 {w:World}{X:Nat->Prop}{bd cnt:Nat}{D:DK.M}{p:Int}{mo:Option Nat}{fp:ByteArray->Option Nat}{fv:ByteArray->Value}{e:Bool}{l:Int}(h:DkA w X bd cnt D p mo fp fv e l)(hc:cnt<=100000):
  Calls q6 75 #[.pointer (some ⟨bd,0,none⟩)] w λen w'=>zhI (λn=>D n≠none) w en w':=by
 have O:=hid h;have c0:=h.c0;have V:=hid (yb.1 (Tryz.maps_Keys_132 mo w));have G:=hid ((Below.refl w.heap.size w).alloc (qq _) (.cells #[.map mo] 30));have Y:Hid (Calls q6 131 #[.func (.func 178) #[] #[.pointer (some ⟨w.heap.size,0,none⟩)]] (w.alloc (.cells #[.map mo] 30)) λe w'=>∃v T,e= .returned v/\ST T (λn=>D n≠none)/\T.length<=100000/\w'.ownsRow w.heap.size 9 1 v T.length (T.map encStr)/\Below (w.alloc (.cells #[.map mo] 30)).heap.size (w.alloc (.cells #[.map mo] 30)) w'):=by
  show Calls _ _ _ _ _;cases hm:mo with
  | none=>
   refine(yb.1 (Tryz.slices_Sorted_keys_nil_131_132 w)).mono ?_;rintro e w4 ⟨v,ss,rfl,rfl,q,_,hb⟩;have h5:=pg (base':=w.heap.size) q (by simp);exact⟨v,[],rfl,ST.nil λs h1=>h1 ((O.out.files.no s).1 (O.out.nomap hm s)),by simp,by simpa using h5,hb⟩
  | some b=>
   obtain⟨D1,h1,h2⟩:=(O.out.map b hm).2;have hs:=h1.size_le;refine(yb.1 (Tryz.slices_Sorted_keys_131_132 b cnt D1 z0D w h1 (by unfold qS;omega) (by omega))).mono ?_;rintro e w4 ⟨v,ss,rfl,hp,q,_,hb⟩;refine⟨v,_,rfl,(zkQ h1 underlying9 h2 hp).congr (λs=>?_),?_,?_,hb⟩
   .show(fp s).map _≠none↔_;rw[ne_eq,ne_eq,not_congr (O.out.files.no s).symm];cases fp s<;>simp
   .rw[rA,hp.length_eq,zb1 h1];omega
   .rw[rA];exact q.mono (by simp)
 clear h;go_enter func75,ntmps75;go_wp2_with fail;refine V.out.mono ?_;rintro e w3 ⟨rfl,rfl⟩;clear V c0;go_wp2_with fail;refine Y.out.mono ?_;rintro e w4 ⟨v,T,rfl,hT,J,q,hb⟩;have HT:=hid hT;have U:=hid J;have HO:=hid q;have HB:=hid (G.out.trans (hb.mono G.out.size));clear hT J q hb Y G;go_wp2_with fail;go_ret;exact⟨v,T,rfl,HT.out,U.out,HO.out,HB.out⟩
end
section
open Go.RowKit
theorem zfK (x:Sr)(lo so:Option Addr)(lc sc:Nat)(tp:Int)(w:World)(hL:z1w w lo x.1)(hS:z1I w so x.2)(hR:∀s∈x.2,CL.Rs s)(hl:x.2.length<=100000):
  Calls q6 200 #[.agg #[.slice lo x.1.length lc,.slice so x.2.length sc],.int .i64 tp] w λe w'=>e= .returned (.bool (BK.okS tp x))/\Below w.heap.size w w':=by
 have A2:Below w.heap.size w (w.alloc (.cells #[.slice lo x.1.length lc,.slice so x.2.length sc] 93)):=(Below.refl _ w).alloc (qq _) _;have A3:=hid (qu w (.cells #[.slice lo x.1.length lc,.slice so x.2.length sc] 93));have q:=hid A2;have HL:=hid hL;have HS:=hid hS;have HR:=hid hR;clear A2 hL hS hR;by_cases hz:x.2.length=0
 .have HF:=hid (BK.zir (tp:=tp) hz);have hn:((x.2.length:Int)==0)=true:=by simp[hz]
  have hd:decide ((x.2.length:Int)=0)=true:=by simp[hz]
  generalize x.2.length=n at*;clear hz;go_enter func200,ntmps200;go_wp2_with fail;go_ret;exact⟨by rw[HF.out];rfl,q.out⟩
 .have hn:((x.2.length:Int)==0)=false:=by rw[beq_eq_false_iff_ne];omega
  have O:0<x.2.length:=by omega
  have HP:=hid O;obtain⟨U,h,A6,d0,_,A7⟩:=HS.out (x.2.length-1) (by omega);subst A6;have A9:Hid (∀W:World,(Instr.indexAt 91 (.slice (some ⟨U,h,none⟩) x.2.length sc) (.int .i64 ((x.2.length:Int)-1))).run q6 W= .ok (.pointer (some ⟨U,h+(x.2.length-1)*2,none⟩)) W):=zlT U h x.2.length sc O;go_enter func200,ntmps200;go_wp2_with fail;refine(z3J lo x.1 lc _ (HL.out.below q.out)).mono ?_;rintro e w1 ⟨rfl,V⟩;have G:=hid (q.out.trans (V.mono q.out.size));have J:=(V.block _ (z00 A3.out)).trans A3.out;have x0:w1.cell? ⟨w.heap.size,0,none⟩=some (.slice lo x.1.length lc):=z0O _ _ _ _ J 0 _ rfl;have x1:w1.cell? ⟨w.heap.size,1,none⟩=some (.slice (some ⟨U,h,none⟩) x.2.length sc):=z0O _ _ _ _ J 1 _ rfl;have A4:=hid J;clear V J;rcases h1:LB.right x.1 with _|_
  .have HF:=hid (BK.zlG (tp:=tp) h1);clear h1;go_wp2_with fail;go_ret;exact⟨by rw[HF.out];rfl,G.out⟩
  .have H1:=hid h1;clear h1;go_wp2_with fail;refine(z2C (some ⟨U,h,none⟩) x.2 sc _ (HS.out.below G.out) HR.out (by omega)).mono ?_;rintro e w2 ⟨rfl,Y⟩;have A1:=hid (G.out.trans (Y.mono G.out.size));have A5:=(Y.block _ (z00 A4.out)).trans A4.out;have y1:w2.cell? ⟨w.heap.size,1,none⟩=some (.slice (some ⟨U,h,none⟩) x.2.length sc):=z0O _ _ _ _ A5 1 _ rfl;have yl:w2.cell? ⟨U,h+(x.2.length-1)*2,none⟩=some (.int .i64 (CL.at' x.2 (x.2.length-1)).1):=(A1.out.cell (p:=⟨U,_,none⟩) A7).trans d0;clear Y A5 x0 x1 d0;rcases h2:CL.right x.2 with _|_
   .have HF:=hid (BK.zkL (tp:=tp) h2);clear h2;go_wp2_with fail;go_ret;exact⟨by rw[HF.out];rfl,A1.out⟩
   .have HE:Hid (BK.okS tp x=decide ((CL.at' x.2 (x.2.length-1)).1<=tp)):=by
     show _=_;unfold BK.okS;rw[H1.out,h2,decide_eq_true HP.out];rfl
    clear h2;generalize A8:(CL.at' x.2 (x.2.length-1)).1=lt at*;have e1:((x.2.length:Int)-1)=((x.2.length-1:Nat):Int):=by omega
    have i1:0<=((x.2.length-1:Nat):Int)/\((x.2.length-1:Nat):Int)<(x.2.length:Int):=by omega
    clear A8;go_wp2_with fail;go_ret;exact⟨z05 HE.out.symm,A1.out⟩
theorem z7S (ao:Option Addr)(S:List Sr)(cap:Nat)(tp old:Int)(w:World)(hS:z0r w ao S)(hn:S.length<=5000000)(Ak:∀i,i<S.length->(z03 S i).1.length<=1000/\(z03 S i).2.length<=100000)(hR:∀i,i<S.length->∀s∈(z03 S i).2,CL.Rs s):
  Calls q6 171 #[.agg #[.int .i64 tp,.int .i64 old,.slice ao S.length cap]] w λe w'=>e= .returned (.bool (BK.right tp old S))/\Below w.heap.size w w':=by
 have HS:=hid hS;have Al:=hid Ak;have HR:=hid hR;have Am:Below w.heap.size w (w.alloc (.cells #[.int .i64 tp,.int .i64 old,.slice ao S.length cap] 123)):=(Below.refl _ w).alloc (qq _) _;have HA:=hid (qv Am (qu w (.cells #[.int .i64 tp,.int .i64 old,.slice ao S.length cap] 123)));clear hS Ak hR Am;go_enter func171,ntmps171;by_cases h1:tp< -1099511627776
 .have Y:Hid (BK.right tp old S=false):=by
   show _=_;unfold BK.right;rw[decide_eq_false (show ¬(-1099511627776<=tp/\tp<=1099511627776) by omega)];simp
  go_wp2_with fail;go_ret;exact⟨by rw[Y.out];rfl,HA.out.1⟩
 by_cases h2:1099511627776<tp
 .have Y:Hid (BK.right tp old S=false):=by
   show _=_;unfold BK.right;rw[decide_eq_false (show ¬(-1099511627776<=tp/\tp<=1099511627776) by omega)];simp
  go_wp2_with fail;go_ret;exact⟨by rw[Y.out];rfl,HA.out.1⟩
 by_cases h3:old< -1
 .have Y:Hid (BK.right tp old S=false):=by
   show _=_;unfold BK.right;rw[decide_eq_false (show ¬(-1<=old) by omega)];simp
  go_wp2_with fail;go_ret;exact⟨by rw[Y.out];rfl,HA.out.1⟩
 have HE:Hid (BK.right tp old S=BK.ser tp S):=by
  show _=_;unfold BK.right;rw[decide_eq_true (show(-1099511627776<=tp/\tp<=1099511627776) by omega),decide_eq_true (show(-1<=old) by omega)];simp
 go_wp2_with fail;clear h1 h2 h3;go_loopw [21] (λti wr=>∃i:Nat,i<=S.length/\ti= .int .i64 i/\Below w.heap.size w wr/\wr.heap[w.heap.size]? =some (.cells #[.int .i64 tp,.int .i64 old,.slice ao S.length cap] 123)/\BK.Ok tp S i) (λti _=>S.length-(intOf ti).toNat)
 case atStart=>exact⟨0,qh _,rfl,HA.out.1,HA.out.2,λk hk=>by omega⟩
 case round=>
  clear HA;obtain⟨i,hi,rfl,A9,Ac,Ao⟩:=hrel;have O:=hid A9;have A1:=hid Ac;have Ap:=hid Ao;clear A9 Ac Ao;by_cases U:i<S.length
  .obtain⟨b,off,AF,Ag,lo,lc,so,sc,d0,d1,Aq,Ar⟩:=HS.out i U;subst AF;have c0:wr.cell? ⟨b,off+i*2,none⟩=some (.slice lo (z03 S i).1.length lc):=(O.out.cell (p:=⟨b,_,none⟩) Ag).trans d0;have c1:wr.cell? ⟨b,off+i*2+1,none⟩=some (.slice so (z03 S i).2.length sc):=(O.out.cell (p:=⟨b,_,none⟩) Ag).trans d1;obtain⟨AG,AH⟩:=Al.out i U;have Au:=hid (Aq.below O.out);have Av:=hid (Ar.below O.out);have Aw:=hid (HR.out i U);have Ad:=hid (λh=>BK.zho (tp:=tp) (old:=old) U h);have Ax:=hid (λh=>Ap.out.next (i:=i) h);have Ay:0<i->∃lp J,w.cell? ⟨b,off+(i-1)*2,none⟩=some (.slice lp (z03 S (i-1)).1.length J)/\z1w w lp (z03 S (i-1)).1/\(z03 S (i-1)).1.length<=1000:=λh0=>by
    obtain⟨b2,AO,e,_,lp,J,_,_,e0,_,h3,_⟩:=HS.out (i-1) (by omega);cases e;exact⟨lp,J,e0,h3,(Al.out (i-1) (by omega)).1⟩
   have AJ:=hid Ay;generalize z03 S i=x at*;have AQ:0<=(i:Int)/\(i:Int)<(S.length:Int):=by omega
   have A2:Below wr.heap.size wr (wr.alloc (.cells #[.slice lo x.1.length lc,.slice so x.2.length sc] 93)):=(Below.refl _ wr).alloc (qq _) _;have Ah:=hid (O.out.trans (A2.mono O.out.size));have Ai:=hid (qu wr (.cells #[.slice lo x.1.length lc,.slice so x.2.length sc] 93));have A6:=hid ((A2.block _ (z00 A1.out)).trans A1.out);have A3:=hid (Au.out.below A2);have Ae:=hid (Av.out.below A2);have z0:(wr.alloc (.cells #[.slice lo x.1.length lc,.slice so x.2.length sc] 93)).cell? ⟨w.heap.size,0,none⟩=some (.int .i64 tp):=z0O _ _ _ _ A6.out 0 _ rfl;clear Aq Ar Ay A2 O A1 d0 d1;go_wp2_with fail;generalize wr.alloc (.cells #[.slice lo x.1.length lc,.slice so x.2.length sc] 93)=w1 at*;generalize wr.heap.size=bx at*;refine(zfK x lo so lc sc tp w1 A3.out Ae.out Aw.out AH).mono ?_;rintro e w2 ⟨rfl,A4⟩;have q:=hid (Ah.out.trans (A4.mono Ah.out.size));have Az:=hid ((A4.block _ (z00 Ai.out)).trans Ai.out);have V:=hid ((A4.block _ (z00 A6.out)).trans A6.out);have AA:=hid (A3.out.below A4);clear A4 z0 Ah Ai A6 A3 Ae Au Av c0 c1 Aw;rcases hf:BK.okS tp x with _|_
   .have Y:=hid (Ad.out (.inl hf));clear hf;go_wp2_with fail;go_ret;exact⟨by rw[Y.out];rfl,q.out⟩
   .have Y:=hid hf;clear hf;by_cases h0:i=0
    .have HN:=hid (Ax.out Y.out (λh=>absurd h (by omega)));have hg:decide (0<i)=false:=by simp[h0]
     have AR:=hid h0;clear h0
     go_upto_region 8 with fail
     refine z0t (λW=>Below w2.heap.size w2 W) (by kernel_rfl) (by kernel_rfl) (Below.refl _ w2).drew ?_;refine z0c (.int .i64 (i:Int)) (by kernel_rfl) (λW hW=>by kernel_rfl) ?_;go_frame;refine z0c (.bool false) (by kernel_rfl) (λW hW=>by go_simp) ?_;go_frame;refine z5a (.bool false) 11 (by kernel_rfl) (λW hW=>by kernel_rfl) (by kernel_rfl) ?_;simp only[List.drop_succ_cons,List.drop_zero,List.take_succ_cons,List.take_zero,zlP];go_frame;refine z0c (.bool false) (by kernel_rfl) (λW hW=>by kernel_rfl) ?_;go_frame;refine tM ?_;intro w4 G;have A5:=hid (q.out.trans (G.mono q.out.size));have Aj:=hid ((G.block _ (z00 V.out)).trans V.out);clear G;go_wp2_with fail;go_roundw
     case rel=>exact⟨i+1,by omega,by go_num,A5.out,Aj.out,HN.out⟩
     case measure=>simp[intOf];omega
    .have A7:0<i:=by omega
     obtain⟨lp,J,p0,AB,AC⟩:=AJ.out A7;have Af:=hid (λ(W:World) (hW:Below w2.heap.size w2 W)=>z3X lp lo (z03 S (i-1)).1 x.1 J lc W ((AB.below q.out).below hW) (AA.out.below hW) AC AG);have AD:Hid (∀W,Below w2.heap.size w2 W->W.cell? ⟨b,off+(i-1)*2,none⟩=some (.slice lp (z03 S (i-1)).1.length J)):=λW hW=>((q.out.trans (hW.mono q.out.size)).cell (p:=⟨b,_,none⟩) Ag).trans p0
     have HO:Hid (∀W,Below w2.heap.size w2 W->W.cell? ⟨w.heap.size,2,none⟩=some (.slice (some ⟨b,off,none⟩) S.length cap)):=λW hW=>z0O _ _ _ _ ((hW.block _ (z00 V.out)).trans V.out) 2 _ rfl
     have AE:Hid (∀W,Below w2.heap.size w2 W->W.cell? ⟨bx,0,none⟩=some (.slice lo x.1.length lc)):=λW hW=>z0O _ _ _ _ ((hW.block _ (z00 Az.out)).trans Az.out) 0 _ rfl
     have AU:0<(i:Int):=by omega
     have AV:qW.wrap ((i:Int)-1)=(i:Int)-1:=by rw[qY];omega
     generalize AK:LB.cmp (z03 S (i-1)).1 x.1=cm at*;have A8:Hid (∀W,Below w2.heap.size w2 W->Calls q6 39 #[.slice lp (z03 S (i-1)).1.length J,.slice lo x.1.length lc] W λe w'=>e= .returned (.int .i64 cm)/\Below w2.heap.size w2 w'):=λW hW=>(Af.out W hW).mono λe w' h=>⟨h.1,hW.trans (h.2.mono hW.size)⟩
     clear AK Af p0 AB AC h0;by_cases AL:0<=cm
     .have AM:=hid (Ad.out (.inr ⟨A7,by omega⟩))
      go_upto_region 8 with fail
      refine z0t (λW=>Below w2.heap.size w2 W) (by kernel_rfl) (by kernel_rfl) (Below.refl _ w2).drew ?_;refine z0c (.int .i64 (i:Int)) (by kernel_rfl) (λW hW=>by kernel_rfl) ?_;go_frame;refine z0c (.bool true) (by kernel_rfl) (λW hW=>by go_simp) ?_;go_frame;refine z0c (.bool true) (by kernel_rfl) (λW hW=>by kernel_rfl) ?_;go_frame;refine z0c (.pointer (some ⟨w.heap.size,2,none⟩)) (by kernel_rfl) (λW hW=>by kernel_rfl) ?_;go_frame;refine z19 (.slice (some ⟨b,off,none⟩) S.length cap) (by kernel_rfl) rfl (by kernel_rfl) (λW hW=>zgp _ _ _ _ _ W (HO.out W hW)) ?_;go_frame;refine z0c (.int .i64 (i:Int)) (by kernel_rfl) (λW hW=>by kernel_rfl) ?_;go_frame;refine z0c (.int .i64 ((i:Int)-1)) (by kernel_rfl) (λW hW=>by go_simp) ?_;go_frame;refine z1y (.pointer (some ⟨b,off+(i-1)*2,none⟩)) (by kernel_rfl) rfl (by kernel_rfl) (by kernel_rfl) (zgD b off S.length cap i U A7) ?_;go_frame;refine z0c (.pointer (some ⟨b,off+(i-1)*2,none⟩)) (by kernel_rfl) (λW hW=>by kernel_rfl) ?_;go_frame;refine z19 (.slice lp (z03 S (i-1)).1.length J) (by kernel_rfl) rfl (by kernel_rfl) (λW hW=>zda _ _ _ _ _ W (AD.out W hW)) ?_;go_frame;refine z0c (.pointer (some ⟨bx,0,none⟩)) (by kernel_rfl) (λW hW=>by kernel_rfl) ?_;go_frame;refine z19 (.slice lo x.1.length lc) (by kernel_rfl) rfl (by kernel_rfl) (λW hW=>zda _ _ _ _ _ W (AE.out W hW)) ?_;go_frame;refine z3n (.int .i64 cm) (by kernel_rfl) (λW=>by kernel_rfl) (A8.out) ?_;go_frame;refine z0c (.bool true) (by kernel_rfl) (λW hW=>by go_simp) ?_;go_frame;refine z0c (.bool true) (by kernel_rfl) (λW hW=>by kernel_rfl) ?_;go_frame;refine tM ?_;intro w4 G;have A5:=hid (q.out.trans (G.mono q.out.size));clear G A8;go_wp2_with fail;go_ret;exact⟨by rw[AM.out];rfl,A5.out⟩
     .have AP:¬0<=cm:=AL;have HN:=hid (Ax.out Y.out (λ_=>by omega))
      go_upto_region 8 with fail
      refine z0t (λW=>Below w2.heap.size w2 W) (by kernel_rfl) (by kernel_rfl) (Below.refl _ w2).drew ?_;refine z0c (.int .i64 (i:Int)) (by kernel_rfl) (λW hW=>by kernel_rfl) ?_;go_frame;refine z0c (.bool true) (by kernel_rfl) (λW hW=>by go_simp) ?_;go_frame;refine z0c (.bool true) (by kernel_rfl) (λW hW=>by kernel_rfl) ?_;go_frame;refine z0c (.pointer (some ⟨w.heap.size,2,none⟩)) (by kernel_rfl) (λW hW=>by kernel_rfl) ?_;go_frame;refine z19 (.slice (some ⟨b,off,none⟩) S.length cap) (by kernel_rfl) rfl (by kernel_rfl) (λW hW=>zgp _ _ _ _ _ W (HO.out W hW)) ?_;go_frame;refine z0c (.int .i64 (i:Int)) (by kernel_rfl) (λW hW=>by kernel_rfl) ?_;go_frame;refine z0c (.int .i64 ((i:Int)-1)) (by kernel_rfl) (λW hW=>by go_simp) ?_;go_frame;refine z1y (.pointer (some ⟨b,off+(i-1)*2,none⟩)) (by kernel_rfl) rfl (by kernel_rfl) (by kernel_rfl) (zgD b off S.length cap i U A7) ?_;go_frame;refine z0c (.pointer (some ⟨b,off+(i-1)*2,none⟩)) (by kernel_rfl) (λW hW=>by kernel_rfl) ?_;go_frame;refine z19 (.slice lp (z03 S (i-1)).1.length J) (by kernel_rfl) rfl (by kernel_rfl) (λW hW=>zda _ _ _ _ _ W (AD.out W hW)) ?_;go_frame;refine z0c (.pointer (some ⟨bx,0,none⟩)) (by kernel_rfl) (λW hW=>by kernel_rfl) ?_;go_frame;refine z19 (.slice lo x.1.length lc) (by kernel_rfl) rfl (by kernel_rfl) (λW hW=>zda _ _ _ _ _ W (AE.out W hW)) ?_;go_frame;refine z3n (.int .i64 cm) (by kernel_rfl) (λW=>by kernel_rfl) (A8.out) ?_;go_frame;refine z0c (.bool false) (by kernel_rfl) (λW hW=>by go_simp) ?_;go_frame;refine z0c (.bool false) (by kernel_rfl) (λW hW=>by kernel_rfl) ?_;go_frame;refine tM ?_;intro w4 G;have A5:=hid (q.out.trans (G.mono q.out.size));have Aj:=hid ((G.block _ (z00 V.out)).trans V.out);clear G A8;go_wp2_with fail;go_roundw
      case rel=>exact⟨i+1,by omega,by go_num,A5.out,Aj.out,HN.out⟩
      case measure=>simp[intOf];omega
  .have he:i=S.length:=by omega
   have Y:Hid (BK.right tp old S=true):=by
    show _=_;rw[HE.out];exact BK.zmC (he▸Ap.out)
   subst he;go_wp2_with fail;go_ret;exact⟨by rw[Y.out];rfl,O.out⟩
end
section
open Go.RowKit
theorem zhJ {w W W':World}{B:Nat}(h:Below w.heap.size w W)(q:w.heap.size<=B)(k:WFr B W W'):Below w.heap.size w W':=
 h.trans (k.below.mono q)
theorem zfg (ao:Option Addr)(S:List Sr)(cap:Nat)(tp old:Int)(w:World)(hS:z0r w ao S)(Ae:z8p S)(hW:z0X w)(hG:1<w.heap.size)(h1: -9223372036854775808<=tp/\tp<=9223372036854775807)(h2: -9223372036854775808<=old/\old<=9223372036854775807):
  Calls q6 189 #[.agg #[.int .i64 tp,.int .i64 old,.slice ao S.length cap]] w λe w'=>zmO w tp old S e w':=by
 have Af:Below w.heap.size w (w.alloc (.cells #[.int .i64 tp,.int .i64 old,.slice ao S.length cap] 123)):=(Below.refl _ w).alloc (qq _) _;have A1:=hid (qu w (.cells #[.int .i64 tp,.int .i64 old,.slice ao S.length cap] 123));have HS:=hid hS;have q:=hid Ae;have HW:=hid hW;have HG:=hid hG;have G:=hid (qv h1 h2);have J:=hid Af;clear hS Ae hW hG h1 h2 Af;go_enter func189,ntmps189;go_wp2_with fail;refine(z7S ao S cap tp old _ (HS.out.below J.out) (by have:=q.out.1;omega) (λi hi=>by have:=q.out.2 i hi;omega) (λi hi=>(q.out.2 i hi).2.2.2)).mono ?_;rintro e w1 ⟨rfl,A2⟩;have h:=hid (J.out.trans (A2.mono J.out.size));have O:=hid ((A2.block _ (z00 A1.out)).trans A1.out);clear A2 A1 J;rcases hr:BK.right tp old S with _|_
 .have HR:=hid hr;clear hr;go_wp2_with fail;go_ret2;exact⟨h.out,.inr ⟨HR.out,rfl⟩⟩
 .have HR:=hid hr;clear hr;have z2:w1.cell? ⟨w.heap.size,2,none⟩=some (.slice ao S.length cap):=z0O _ _ _ _ O.out 2 _ rfl;have Ao:=hid (show z0X w1 from λi hi=>(h.out.cell (p:=⟨1,i,none⟩) HG.out).trans (HW.out i hi));have Ap:=hid (qe HG.out h.out.size);go_wp2_with fail;refine(zdb ao S cap w1 (HS.out.below h.out) q.out Ao.out Ap.out).mono ?_;rintro e w2 ⟨A3,Ag⟩;rcases Ag with⟨_,rfl⟩|⟨i,_,hi,_,Y,_⟩
  .have A4:=hid (h.out.trans (A3.mono h.out.size));have U:=hid ((A3.block _ (z00 O.out)).trans O.out);have A5:Below w2.heap.size w2 (w2.alloc (.cells #[.slice none 0 0] 148)):=(Below.refl _ w2).alloc (qq _) _;have A6:=hid (A4.out.trans (A5.mono A4.out.size));have V:=hid ((A5.block _ (z00 U.out)).trans U.out);have A7:=hid (CWr.new w2);have Aw:w.heap.size<w2.heap.size:=z00 U.out;generalize hX:CD.z7y chE (S.map z2B)=X at*;have Aq:X.length<=300000000:=by
    rw[<-hX];have h1:=zkf S q.out S.length (qq _);have h0:=q.out.1;rw[List.take_of_length_le (by simp)] at h1;have h2:CD.z7y chE (S.map z2B)=CD.wN (S.map z2B).length++CD.wS chE (S.map z2B):=rfl;rw[h2,q8,CD.z06];omega
   have Ar:=hid hX;have z0:(w2.alloc (.cells #[.slice none 0 0] 148)).cell? ⟨w.heap.size,0,none⟩=some (.int .i64 tp):=z0O _ _ _ _ V.out 0 _ rfl;clear A3 A5 O h z2 U A4 hX;go_wp2_with fail;generalize w2.alloc (.cells #[.slice none 0 0] 148)=w3 at A6 V A7 z0 ⊢;generalize w2.heap.size=B at*;refine(z0B B tp [] w3 A7.out (by simp) G.out.1.1 G.out.1.2).mono ?_;rintro e w4 ⟨rfl,Ah,A8⟩;have Ai:=hid (zhJ A6.out (by omega) A8);have A9:=A8.other V.out (by decide) (by omega);have Aj:=hid Ah;have Au:=hid A9;have y1:w4.cell? ⟨w.heap.size,1,none⟩=some (.int .i64 old):=z0O _ _ _ _ A9 1 _ rfl;clear Ah A8 A9 z0 V A6 A7;go_wp2_with fail;refine(z0B B old _ w4 Aj.out (by simp[CD.z06]) G.out.2.1 G.out.2.2).mono ?_;rintro e w5 ⟨rfl,Ac,Ak⟩;have Ad:=hid (zhJ Ai.out (by omega) Ak);have Al:Hid (CWr B w5 (CD.wN tp++CD.wN old)):=by rw[List.nil_append] at Ac;exact Ac
   clear Ac Ak y1 Au Ai Aj;go_wp2_with fail;refine(z2y B _ w5 Al.out).mono ?_;rintro e w6 ⟨rfl,Am⟩;have Av:=hid (Ad.out.trans (Am.mono Ad.out.size));clear Am Ad Al;have hz:(sb (CD.wN tp++CD.wN old)).size+(sb X).size<=9223372036854775807:=by rw[z1b,z1b];simp only[q8,CD.z06];omega
   clear Aq;go_wp2_with fail;go_ret2;refine⟨Av.out,.inl ⟨HR.out,?_⟩⟩;unfold BK.bytes;rw[Ar.out];have e1:sb (CD.wN tp++CD.wN old)++sb X=sb (CD.wN tp++(CD.wN old++X)):=by
    rw[<-z4A,<-z4A,<-z4A,ByteArray.append_assoc]
   rw[<-e1];rfl
  .rw[BK.z9G HR.out i hi] at Y;cases Y
end
section
open Go.RowKit Go.Maps
def z6R (w:World)(Z:Nat->Prop)(bw bd cnt:Nat)(D:DK.M)(p:Int)(dn:Bool)(w':World):Prop:=
 ∃Z',WT w' Z' bw bd cnt D p dn/\XFr Z w w'/\∀j,Z' j->Z j\/w.heap.size<=j
section
variable {w w' : World} {Z : Nat → Prop} {bw bd cnt cnt' : Nat} {D D' : DK.M} {p p' : Int} {dn dn' : Bool}
theorem z2I.typed (h:z2I w Z bw bd cnt D p dn w'):z6R w Z bw bd cnt D p dn w':=by
 obtain⟨Z',h1,q,G⟩:=h;obtain⟨J,O,U⟩:=h1.tight;exact⟨J,O,q,λj V=>G j (U j V)⟩
theorem z6R.trans {h:World}{Z':Nat->Prop}(h1:XFr Z w w')(q:∀j,Z' j->Z j\/w.heap.size<=j)(k:z6R w' Z' bw bd cnt D p dn h):z6R w Z bw bd cnt D p dn h:=by
 obtain⟨G,J,O,U⟩:=k;refine⟨G,J,h1.trans O q,λj V=>?_⟩;rcases U j V with e|e
 .exact q j e
 .exact .inr (qi h1.size e)
theorem WT.mono (h:WT w Z bw bd cnt D p dn)(q:cnt<=cnt'):WT w Z bw bd cnt' D p dn:=⟨h.wl.mono q,h.kind,h.lt⟩
theorem z2I.disk {X:Nat->Prop}(hb:w.heap[bw]? =some (.cells #[.pointer (some ⟨bd,0,none⟩),.bool dn] 132)) (G:¬X bw) (U:Z bw) (J:∀j,X j->Z j) (h:z2n w X bd cnt' D' p' w'):z2I w Z bw bd cnt' D' p' dn w':=by
 obtain⟨X',Y,a2,V⟩:=h;refine⟨λj=>(Z j\/w.heap.size<=j),⟨λj=>X' j/\j<w'.heap.size,Y.narrow,(a2.block bw (z00 hb) G).trans hb,?_,.inl U,λj O=>?_,λj O=>O.2⟩,a2.mono J,λj O=>O⟩
 .rintro⟨hx,_⟩;rcases V bw hx with q|q
  .exact G q
  .have:=z00 hb;omega
 .rcases V j O.1 with q|q
  .exact .inl (J j q)
  .exact .inr q
def zaP (w:World)(Z:Nat->Prop)(bw bd cnt:Nat)(dn:Bool)(o:WL.Out)(h:rO)(w':World):Prop:=h= .returned (er o.1)/\z6R w Z bw bd cnt o.2.1 o.2.2 dn w'
theorem zb5 (h:WT w Z bw bd cnt D p dn)(n s:ByteArray)(G:n.size<=qS)(J:cnt<1000000)(O:DK.Fine 100000000 D)(U:s.size<=100000000):
  Calls q6 140 #[.pointer (some ⟨bd,0,none⟩),.string n,.string s] w λq w'=>zaP w Z bw bd (cnt+1) dn (WL.act 0 n s D p) q w':=by
 obtain⟨X,⟨mo,fp,fv,e,l,V⟩,Y,h3,h4,h5,h6⟩:=h.wl;refine(append_any V n s G J O U).mono ?_;rintro q w' ⟨rfl,h7⟩;exact⟨rfl,(z2I.disk Y h3 h4 h5 h7).typed⟩
theorem zhq (h:WT w Z bw bd cnt D p dn)(n:ByteArray)(G:n.size<=qS):
  Calls q6 122 #[.pointer (some ⟨bd,0,none⟩),.string n] w λq w'=>zaP w Z bw bd (cnt+1) dn (WL.act 1 n qy D p) q w':=by
 obtain⟨X,⟨mo,fp,fv,e,l,J⟩,O,U,V,Y,h6⟩:=h.wl;refine(z6q J n G).mono ?_;rintro q w' ⟨rfl,h7⟩;exact⟨rfl,(z2I.disk O U V Y h7).typed⟩
theorem zb9 (h:WT w Z bw bd cnt D p dn)(n:ByteArray)(G:n.size<=qS):
  Calls q6 77 #[.pointer (some ⟨bd,0,none⟩),.string n] w λq w'=>zaP w Z bw bd (cnt+1) dn (WL.act 3 n qy D p) q w':=by
 obtain⟨X,⟨mo,fp,fv,e,l,J⟩,O,U,V,Y,h6⟩:=h.wl;refine(z5x J n G).mono ?_;rintro q w' ⟨rfl,h7⟩;exact⟨rfl,(z2I.disk O U V Y h7).typed⟩
theorem zi3 (h:WT w Z bw bd cnt D p dn)(c:Int)(G:c<=9223372036854775807):
  Calls q6 19 #[.pointer (some ⟨bd,0,none⟩),.int .i64 c] w λq w'=>q= .returned (.tuple #[])/\z6R w Z bw bd cnt D (max c (-1)) dn w':=by
 obtain⟨X,⟨mo,fp,fv,e,l,h1⟩,J,O,U,V,h6⟩:=h.wl;refine(z8X h1 c G).mono ?_;rintro q w' ⟨rfl,⟨Y,l',h7⟩,hg⟩;exact⟨rfl,(z2I.disk J O U V ⟨X,⟨mo,fp,fv,Y,l',h7⟩,ChEnd.fr hg h1.xd,λj hj=> .inl hj⟩).typed⟩
theorem zem (h:WT w Z bw bd cnt D p dn)(c:Int)(q: -9223372036854775808<=c)(G:c<=9223372036854775807)(O:DK.Fine 1000000000 D):
  Calls q6 15 #[.pointer (some ⟨bd,0,none⟩),.int .i64 c] w λJ w'=>J= .returned (.tuple #[])/\z6R w Z bw bd cnt (DK.start D c) (-1) dn w':=by
 obtain⟨X,⟨mo,fp,fv,e,l,U⟩,V,Y,h4,h5,h6⟩:=h.wl;refine(zgQ U c q G O).mono ?_;rintro J w' ⟨rfl,h7⟩;exact⟨rfl,(z2I.disk V Y h4 h5 h7).typed⟩
theorem zgt (h:WT w Z bw bd cnt D p dn)(n:ByteArray)(G:n.size<=qS):
  Calls q6 64 #[.pointer (some ⟨bd,0,none⟩),.string n] w λq w'=>
   ((D n=none/\q= .returned (.tuple #[.string qy,.iface 56 (.int .i64 7)]))\/∃f,D n=some f/\q= .returned (.tuple #[.string f.b,.nilIface]))/\w'=w:=by
 obtain⟨X,⟨mo,fp,fv,e,l,J⟩,O⟩:=h.wl;exact zdg J n G
theorem zh7 (h:WT w Z bw bd cnt D p dn)(q:cnt<=100000):
  Calls q6 75 #[.pointer (some ⟨bd,0,none⟩)] w λG w'=>zhI (λn=>D n≠none) w G w':=by
 obtain⟨X,⟨mo,fp,fv,e,l,J⟩,O⟩:=h.wl;exact zj9 J q
end
theorem z1R {c:Int}(h:c=0):er c= .nilIface:=by unfold er;rw[if_pos h]
theorem z13 {c:Int}(h:c≠0):er c= .iface 56 (.int .i64 c):=by unfold er;rw[if_neg h]
theorem zbi {w:World}{Z:Nat->Prop}{bw bd cnt:Nat}{D:DK.M}{p:Int}{dn:Bool}(h:WT w Z bw bd cnt D p dn)(n:ByteArray)(hn:n.size<=qS)(hc:cnt+2<1000000)(hF:DK.Fine 100000000 D)(tp old:Int)(v:Value)(S:List Sr)(Zh:Nat->Prop)(hS:SrT w Zh v S)(A4:z8p S)(hr:BK.right tp old S=true)(hs:(sb (BK.bytes tp old S)).size<=100000000)(hW:z0X w)(hG:1<w.heap.size)(h1: -9223372036854775808<=tp/\tp<=9223372036854775807)(h2: -9223372036854775808<=old/\old<=9223372036854775807):
  Calls q6 155 #[.pointer (some ⟨bd,0,none⟩),.string n,zal tp old v] w λen w'=>zaP w Z bw bd (cnt+2) dn (SX.z4m n (sb (BK.bytes tp old S)) D p) en w':=by
 obtain⟨ao,cap,rfl,Y⟩:=z0r.z08 hS.own;have q:Below w.heap.size w (w.alloc (.cells #[.int .i64 tp,.int .i64 old,.slice ao S.length cap] 123)):=(Below.refl _ w).alloc (qq _) _;have G:=qu w (.cells #[.int .i64 tp,.int .i64 old,.slice ao S.length cap] 123);have HC:=hid (zfg ao S cap tp old _ (Y.below q) A4 (z0X.below hW q hG) (qe hG q.size) h1 h2);have A5:=h.below q;have d0:=z01 _ _ _ _ G 0 _ rfl;have d1:=z01 _ _ _ _ G 1 _ rfl;have d2:=z01 _ _ _ _ G 2 _ rfl;have Ac:=hid q;have HR:=hid hr;have Ad:=hid A5;have Ae:=hid hs;clear q G A5 h hS A4 hr hs hW Y;generalize Af:w.alloc (.cells #[.int .i64 tp,.int .i64 old,.slice ao S.length cap] 123)=w1 at*;go_enter func155,ntmps155;go_wp2_with fail;refine HC.out.mono ?_;rintro e w2 ⟨A2,⟨_,rfl⟩|⟨hf,_⟩⟩
 .have Ag:=Ae.out;generalize A6:sb (BK.bytes tp old S)=s at*;have A7:=hid A6;clear A6;have Ah:=hid (Ad.out.below A2);have J:=hid (z0u Ac.out A2);have A3:=hid (zb5 Ah.out n s hn (by omega) hF Ag);clear HC A2 d0 d1 d2 Af;go_wp2_with fail;refine A3.out.mono ?_;rintro e w3 ⟨rfl,Z3,O,U,V⟩;by_cases h0:(WL.act 0 n s D p).1=0
  .rw[z1R h0];have A8:=hid (zhq O n hn);have hP:SX.z4m n s D p=WL.act 1 n qy (WL.act 0 n s D p).2.1 (WL.act 0 n s D p).2.2:=by unfold SX.z4m WL.seq;rw[if_pos h0]
   have HP:=hid hP;have HX:=hid (qv ((XFr.below J.out).trans U λj hj=> .inl hj) λj (hj:Z3 j)=>(V j hj).imp id λe=>qi J.out.size e);clear A3 O U V h0 hP;go_wp2_with fail;refine A8.out.mono ?_;rintro e w4 ⟨rfl,A1⟩;have HE:=hid (z6R.trans HX.out.1 HX.out.2 A1);clear A1 A8;go_wp2_with fail;go_ret;rw[A7.out,HP.out];exact⟨rfl,HE.out⟩
  .rw[z13 h0];have hP:SX.z4m n s D p=WL.act 0 n s D p:=by unfold SX.z4m WL.seq;rw[if_neg h0]
   have HP:=hid hP;have HX:=hid (qv ((XFr.below J.out).trans U λj hj=> .inl hj) λj (hj:Z3 j)=>(V j hj).imp id λe=>qi J.out.size e);have Ai:=hid O;have H0:=hid h0;clear A3 O U V h0 hP;generalize A9:(WL.act 0 n s D p).1=cc at*;have Aj:=hid A9;clear A9;go_wp2_with fail;go_ret;rw[A7.out,HP.out];exact⟨by rw[Aj.out,z13 H0.out];rfl,Z3,Ai.out.mono (by omega),HX.out.1,HX.out.2⟩
 .rw[HR.out] at hf;cases hf
end
section
open Go.RowKit Go.Maps Go.Sort Go.Shelf
structure IT (l:List Int) (p:Int->Prop):Prop where
 rise:l.Pairwise λa b=>a<b
 mem:∀n,n∈l↔p n
theorem IT.uniq {p:Int->Prop}:∀{a b:List Int},IT a p->IT b p->a=b:=by
 intro a b ha hb;have U:∀n,n∈a↔n∈b:=λn=>(ha.mem n).trans (hb.mem n).symm
 have key:∀(a b:List Int),a.Pairwise (· < ·)->b.Pairwise (· < ·)->(∀n,n∈a↔n∈b)->a=b:=by
  intro a
  induction a with
  | nil=>
   intro b _ _ h;cases b with
   | nil=>rfl
   | cons y b=>exact absurd ((h y).2 qd) (by simp)
  | cons x a ih=>
   intro b V Y h;cases b with
   | nil=>exact absurd ((h x).1 qd) (by simp)
   | cons y b=>
    obtain⟨J,p2⟩:=ql.1 V;obtain⟨O,q2⟩:=ql.1 Y;have e:x=y:=by
     rcases qg.1 ((h x).1 qd) with e|e
     .exact e
     .rcases qg.1 ((h y).2 qd) with G|G
      .exact G.symm
      .have:=O x e;have:=J y G;omega
    subst e;refine congrArg _ (ih b p2 q2 λn=>⟨λq=>?_,λq=>?_⟩)
    .rcases qg.1 ((h n).1 (qp _ q)) with e|e
     .subst e;exact absurd (J n q) (by omega)
     .exact e
    .rcases qg.1 ((h n).2 (qp _ q)) with e|e
     .subst e;exact absurd (O n q) (by omega)
     .exact e
 exact key a b ha.rise hb.rise U
theorem IT.sorted {ss:List Int}{p:Int->Prop}(G:ss.Nodup)(J:∀n,n∈ss↔p n):IT (ss.mergeSort λx y=>decide (x<=y)) p:=by
 refine⟨?_,λn=>by rw[(rC ss _).mem_iff];exact J n⟩;have h1:(ss.mergeSort λx y=>decide (x<=y)).Pairwise λa b=>a<=b:=by
  refine(uX (le:=λx y=>decide (x<=y)) (λa b c h1 q=>?_) (λa b=>?_) ss).imp λh=>of_decide_eq_true h
  .simp only[decide_eq_true_eq] at h1 q ⊢;omega
  .simp only[og,decide_eq_true_eq];omega
 have q:(ss.mergeSort λx y=>decide (x<=y)).Nodup:=(rC ss _).nodup_iff.2 G;exact(h1.and q).imp λ⟨O,U⟩=>by omega
section
variable {P : Program} {k : TypeId} {R : Value → Option (DataW Value × List MemPlace)} {w : World} {b n : Nat} {D : DataW Value}
theorem z9n (h:w.ownsMap P k R b n D)(hk:P.underlying k=some (.int .i64)):(iz D).Nodup/\∀x,x∈iz D↔has D (.int .i64 x)=true:=by
 obtain⟨es,hD,V,_⟩:=h.entries (int_keyed hk);obtain⟨Y,U,A1⟩:=h.keysOf;obtain rfl:es=Y:=by rw[hD] at U;simpa using U
 subst hD;have J:∀p∈es,∃x,p.1= .int .i64 x:=λp hp=>by
  obtain⟨v,hv⟩:=A1 p hp;cases v<;>simp[keyOf,hk,mapKey] at hv;rename_i kd q;obtain⟨h1,h2⟩:=hv;exact⟨q,by rw[<-h2]⟩
 constructor
 .show(es.map λp=>iu p.1).Nodup;refine eX.2 (V.imp_of_mem λ{p q} G A2 A3 e=>A3 ?_);obtain⟨a,O⟩:=J p G;obtain⟨b,hb⟩:=J q A2;rw[O,hb] at e ⊢;exact congrArg _ e
 .intro x;rw[has_eq,ya];show x∈es.map (λp=>iu p.1)↔_;rw[qx];constructor
  .rintro⟨p,G,rfl⟩;obtain⟨a,O⟩:=J p G;exact⟨p,G,by rw[O];simp[yD,iu]⟩
  .rintro⟨p,G,hs⟩;obtain⟨a,O⟩:=J p G;rw[O] at hs;exact⟨p,G,by rw[O];simpa [yD,iu] using hs⟩
theorem z7b (h:w.ownsMap P k R b n D):(iz D).length=rl D:=by
 obtain⟨es,rfl⟩:=h.isMap;show(es.map _).length=es.length;rw[qz]
theorem zeT {f:Int->Option Value}(h:w.ownsMap P k R b n D)(J:P.underlying k=some (.int .i64))(G:z1J D f){ss:List Int}(hp:ss.Perm (iz D)):IT (ss.mergeSort λx y=>decide (x<=y)) λs=>f s≠none:=by
 obtain⟨O,U⟩:=z9n h J;refine IT.sorted (hp.nodup_iff.2 O) λs=>?_
 rw[hp.mem_iff,U];constructor
 .intro q V;have Y:has D (.int .i64 s)=false:=(G.2 s).1 V;rw[Y] at q;cases q
 .intro q;cases hf:f s with
  | none=>exact absurd hf q
  | some v=>exact((G.2 s).2 v hf).1
end
def zrc (f:Int->Option Value)(cnt:Nat)(w:World)(e:rO)(w':World):Prop:=∃v ks,e= .returned v/\IT ks (λn=>f n≠none)/\ks.length<=cnt/\w'.ownsRow w.heap.size 2 1 v ks.length (ks.map (wM .i64))/\Below w.heap.size w w'
theorem z1P (hp vg:Value)(nx:Int)(bm cnt:Nat)(f:Int->Option Value)(w:World)(h:z1x q6 2 w bm cnt f)(hc:cnt<=100000):
  Calls q6 62 #[.agg #[hp,.map (some bm),.int .i64 nx,vg]] w λe w'=>zrc f cnt w e w':=by
 obtain⟨D1,h1,h2⟩:=h;have O:=h1.size_le;have A3:=h1.lt;have key:∀W,Below w.heap.size w W->W.ownsMap q6 2 z0D bm cnt D1:=λW hW=>by
  obtain⟨es,G,hb,Ft,O,hD⟩:=h1;exact⟨es,G,(hW.block bm A3).trans hb,Ft,O,hD⟩
 have HK:Hid (∀W,Calls q6 116 #[.map (some bm)] W λe w'=>e= .returned (.func (.func 167) #[] #[.pointer (some ⟨W.heap.size,0,none⟩)])/\w'=W.alloc (.cells #[.map (some bm)] 75)):=λW=>
  yb.1 (AnyZI.keys_in Tryz.ikeys yO 5 trivial rfl (some bm) W)
 have HS:Hid (∀W,Below w.heap.size w W->Calls q6 115 #[.func (.func 167) #[] #[.pointer (some ⟨W.heap.size,0,none⟩)]] (W.alloc (.cells #[.map (some bm)] 75)) λe w'=>∃v ks,e= .returned v/\IT ks (λn=>f n≠none)/\ks.length<=cnt/\w'.ownsRow W.heap.size 2 1 v ks.length (ks.map (wM .i64))/\Below W.heap.size W w'):=λW hW=>by
  have q:=key W hW;have A4:=q.lt;have U:SeqGives yO 2 q6 167 #[.pointer (some ⟨W.heap.size,0,none⟩)] encZ (λss=>ss.Perm (iz D1)) (rl D1) (W.alloc (.cells #[.map (some bm)] 75)):=
   AnyZI.keys_gives (ρ:=Tryz.ikeys_ren) {Tryz.ikeys with} yO _ trivial rfl (by omega) W.heap.size bm cnt D1 _ (by simp) (by simp) (by
    obtain⟨es,G,hb,Ft,O,hD⟩:=q;exact⟨es,G,(Below.heap_alloc _ _ bm A4).trans hb,Ft,O,hD⟩)
  have cS:=AnyZI.sorted_in Tryz.isorted yO 5 trivial trivial trivial trivial rfl (by omega) (Tryz.isorts _) (enters_of func166 (by kernel_rfl) rfl) 167 #[.pointer (some ⟨W.heap.size,0,none⟩)] trivial (enters_of func167 (by kernel_rfl) rfl) _ _ (by unfold qS;omega) (by omega) _ U;refine(yb.1 cS).mono ?_;rintro e w' ⟨v,ss,rfl,hp,V,_,hb⟩;refine⟨v,_,rfl,zeT h1 underlying2 h2 hp,?_,?_,((Below.refl _ W).alloc (qq _) _).trans (hb.mono (by simp))⟩
  .rw[rA,hp.length_eq,z7b h1];omega
  .rw[rA];exact V.mono (by simp)
 clear h1 h2 O key;go_enter func62,ntmps62;have Y:Below w.heap.size w (w.alloc (.cells #[hp,.map (some bm),.int .i64 nx,vg] 77)):=(Below.refl _ w).alloc (qq _) _;have J:=hid Y;clear Y;go_wp2_with fail;generalize w.alloc (.cells #[hp,.map (some bm),.int .i64 nx,vg] 77)=w1 at*;refine(HK.out w1).mono ?_;rintro e w3 ⟨rfl,rfl⟩;clear HK;have A1:=hid (HS.out w1 J.out);clear HS;go_wp2_with fail;refine A1.out.mono ?_;rintro e w4 ⟨v,T,rfl,hT,A2,q,hb⟩;have HE:Hid (zrc f cnt w (.returned v) w4):=⟨v,T,rfl,hT,A2,q.mono J.out.size,J.out.trans (hb.mono J.out.size)⟩;clear hT A2 q hb A1;go_wp2_with fail;go_ret;exact HE.out
theorem zdy (bm cnt:Nat)(f:Int->Option Value)(w:World)(h:z1x q6 2 w bm cnt f):
  Calls q6 112 #[.map (some bm)] w λe w'=>e= .returned (.map (some w.heap.size))/\z1x q6 2 w' w.heap.size cnt f/\w'.heap.size=w.heap.size+1/\Below w.heap.size w w':=by
 obtain⟨D,h1,J⟩:=h;have O:=h1.lt;obtain⟨G,q,hb,F,U,V⟩:=h1;refine wU (AnyW.maps_Clone Tryz.iclone bm G q w hb) λe w' ⟨Y,hw⟩=>?_
 subst hw;exact⟨Y,⟨D,⟨G,q,(MapKept.heap_alloc w _).1,F,U,V⟩,J⟩,by simp,(Below.refl _ w).alloc (qq _) _⟩
end
section
open Go.RowKit
theorem z2j (k:Nat)(h:k<4)(W:World)(B:Nat):(Instr.fieldAt 77 (.pointer (some ⟨B,0,none⟩)) k).run q6 W= .ok (.pointer (some ⟨B,k,none⟩)) W:=by
 match k,h with
 | 0,_=>go_simp
 | 1,_=>go_simp
 | 2,_=>go_simp
 | 3,_=>go_simp
theorem z5W (b k hb:Nat)(w:World)(h:w.cell? ⟨b,k,none⟩=some (.pointer (some ⟨hb,0,none⟩))):(Instr.loadAt 74 (.pointer (some ⟨b,k,none⟩))).run q6 w= .ok (.pointer (some ⟨hb,0,none⟩)) w:=by
 have q:(q6.info? 74).map (·.size)=some 1:=by kernel_rfl
 go_simp
theorem zi2 (b k:Nat)(u:Value)(hb:Nat)(w:World)(h:w.cell? ⟨b,k,none⟩=some u)(q:w.frozen? ⟨b,k,none⟩=false):(Instr.storeAt 74 (.pointer (some ⟨b,k,none⟩)) (.pointer (some ⟨hb,0,none⟩))).run q6 w= .ok () (w.setCell ⟨b,k,none⟩ (.pointer (some ⟨hb,0,none⟩))):=by
 have G:(q6.info? 74).map (·.size)=some 1:=by kernel_rfl
 go_simp
def TA (hb B:Nat)(mark:Int)(w1:World)(H:List Sr)(L:Nat->Bool):Nat->World->Value->Prop
 | 0,_,v=>v= .pointer (some ⟨B,0,none⟩)
 | 1,_,v=>v= .pointer (some ⟨hb,0,none⟩)
 | 2,_,v=>v= .int .i64 mark
 | 3,_,v=>v= .pointer (some ⟨B,0,none⟩)
 | 4,_,v=>v= .pointer (some ⟨hb,0,none⟩)
 | 5,W,v=>L 8=false->z0a W w1.heap.size v H
 | 6,W,v=>L 8=false->∃hb' Zh,v= .pointer (some ⟨hb',0,none⟩)/\HdT W hb' Zh mark H/\∀j,Zh j->w1.heap.size<=j
 | 7,_,v=>v= .pointer (some ⟨B,0,none⟩)
 | _,_,_=>True
theorem TA.below {hb B:Nat}{mark:Int}{G:World}{H:List Sr}{L L':Nat->Bool}{i:Nat}{W W':World}{v:Value}(J:L' 8=L 8)(h:TA hb B mark G H L i W v)(k:Below W.heap.size W W'):TA hb B mark G H L' i W' v:=by
 match i with
 | 0=>exact h
 | 1=>exact h
 | 2=>exact h
 | 3=>exact h
 | 4=>exact h
 | 5=>exact λe=>(h (J▸e)).below k
 | 6=>
  intro e;obtain⟨q,Zh,O,h2,U⟩:=h (J▸e);exact⟨q,Zh,O,h2.kept (λg _ _ _ V=>k.block g (z00 V)),U⟩
 | 7=>exact h
 | _+8=>trivial
theorem TA.end {hb B:Nat}{mark:Int}{q:World}{H:List Sr}{L L':Nat->Bool}{i:Nat}{W W':World}{v:Value}(G:L' 8=true)(h:TA hb B mark q H L i W v):TA hb B mark q H L' i W' v:=by
 match i with
 | 0=>exact h
 | 1=>exact h
 | 2=>exact h
 | 3=>exact h
 | 4=>exact h
 | 5=>exact λe=>by rw[G] at e;cases e
 | 6=>exact λe=>by rw[G] at e;cases e
 | 7=>exact h
 | _+8=>trivial
def CA (B:Nat)(mark:Int)(w1:World)(H:List Sr)(L:Nat->Bool)(W:World):Prop:=
 (L 8=false->Below w1.heap.size w1 W)/\(L 8=true->∃W0 hb' Zh,Below w1.heap.size w1 W0/\HdT W0 hb' Zh mark H/\(∀j,Zh j->w1.heap.size<=j)/\W=W0.setCell ⟨B,0,none⟩ (.pointer (some ⟨hb',0,none⟩)))
theorem CA.on {B:Nat}{mark:Int}{w1:World}{H:List Sr}{L L':Nat->Bool}{W:World}(q:L 8=false)(h:Below w1.heap.size w1 W)(G:L' 8=L 8):CA B mark w1 H L' W:=⟨λ_=>h,λe=>by rw[G,q] at e;cases e⟩
theorem z6E (hb bm cnt:Nat)(Zh:Nat->Prop)(vg:Value)(x:SX.St)(od:Int->Int)(w:World)(h:z1v w hb bm cnt Zh vg x od)(hF:SX.Fit x):
  Calls q6 59 #[.agg (z0L hb bm vg x)] w λe w'=>∃U bm' Zh',e= .returned (.agg (z0L U bm' vg x))/\z1v w' U bm' cnt Zh' vg x od/\Below w.heap.size w w'/\w.heap.size<=bm'/\∀j,Zh' j->w.heap.size<=j:=by
 have Af:Below w.heap.size w ((w.alloc (.cells (z0L hb bm vg x) 77)).alloc (.cells #[.pointer none,.map none,.int .i64 0,.slice none 0 0] 77)):=((Below.refl _ w).alloc (qq _) _).alloc (by simp) _;have A2:((w.alloc (.cells (z0L hb bm vg x) 77)).alloc (.cells #[.pointer none,.map none,.int .i64 0,.slice none 0 0] 77)).heap[w.heap.size]? =some (.cells (z0L hb bm vg x) 77):=(Below.heap_alloc _ _ _ (by simp)).trans (qu w _);have A5:=qu (w.alloc (.cells (z0L hb bm vg x) 77)) (.cells #[.pointer none,.map none,.int .i64 0,.slice none 0 0] 77);simp only[World.size_alloc] at A5;have A6:=h.below Af;obtain⟨ga,gc,Ao⟩:=z02 h.gn;obtain⟨mf,Ap,Ad⟩:=h.mp;have Aq:=hid Ap;have HM:=hid Ad;clear Ap Ad;generalize (x.G.map λd=>SX.txt (.gone d)).length=gn at Ao;have AE:=hid Af;have A3:=hid A2;have Ar:=hid A5;have HN:=hid A6;have HF:=hid hF;clear Af A2 A5 A6 h hF;subst Ao;go_enter func59,ntmps59;go_wp2_with fail;generalize Au:(w.alloc (.cells (z0L hb bm (.slice ga gn gc) x) 77)).alloc (.cells #[.pointer none,.map none,.int .i64 0,.slice none 0 0] 77)=w1 at*;have AR:w1.heap.size=w.heap.size+2:=by rw[<-Au];simp
 clear Au;have hG:=HF.out.inv.head;have V:∀L:Nat->Bool,∀i,i≠8->TL.upd L i 8=L 8:=λL i hi=>by unfold TL.upd;rw[if_neg (λe=>hi e.symm)]
 refine TL.zbu [3,4,5,6,7,8,9,10] (CA w.heap.size x.s.mark w1 x.s.H) (TA hb w.heap.size x.s.mark w1 x.s.H) rfl (by kernel_rfl) (by kernel_rfl) 16 rfl (by kernel_rfl) ⟨λ_=>(Below.refl _ w1).drew,λe=>(by cases e)⟩ (TL.z0i ?_ (TL.z0i ?_ (TL.z0i ?_ (TL.z0i ?_ (TL.z0i ?_ (TL.z0i ?_ (TL.z0i ?_ (TL.z0i ?_ (TL.z0i ?_ TL.zgR))))))))) ?_
 .intro L a W hL A1 Y J hC q;have h8:L 8=false:=TL.z0v Y 9 8 0 (by kernel_rfl) hL;exact TL.Does.field rfl (J.keeps 1 (by kernel_rfl)) (z2j 0 (by omega) W w.heap.size) ⟨CA.on h8 (hC.1 h8) (V L 0 (by omega)),rfl,λj _ _ ht=>ht.below (V L 0 (by omega)) (Below.refl _ _)⟩
 .intro L a W hL A1 Y J hC q;have h8:L 8=false:=TL.z0v Y 9 8 1 (by kernel_rfl) hL;have O:=hC.1 h8;exact TL.Does.load rfl ((q 0 (by kernel_rfl)).2) (z5W w.heap.size 0 hb W ((O.cell (p:=⟨w.heap.size,0,none⟩) (z00 A3.out)).trans (z01 _ _ _ _ A3.out 0 _ rfl))) ⟨CA.on h8 O (V L 1 (by omega)),rfl,λj _ _ ht=>ht.below (V L 1 (by omega)) (Below.refl _ _)⟩
 .intro L a W hL A1 Y J hC q;have h8:L 8=false:=TL.z0v Y 9 8 2 (by kernel_rfl) hL;have O:=hC.1 h8;have e1:a.eval (.tmp 4)= .pointer (some ⟨hb,0,none⟩):=(q 1 (by kernel_rfl)).2;refine TL.Does.call (f:=49) (args:=#[a.eval (.tmp 4)]) (by kernel_rfl) ?_;rw[e1];obtain⟨v,xs,hX,_⟩:=(HN.out.below O).hd;refine(z3v hb x.s.mark v W hX.box).mono ?_;rintro e W' ⟨rfl,rfl⟩;exact⟨_,rfl,CA.on h8 O (V L 2 (by omega)),rfl,λj _ _ ht=>ht.below (V L 2 (by omega)) (Below.refl _ _)⟩
 .intro L a W hL A1 Y J hC q;have h8:L 8=false:=TL.z0v Y 9 8 3 (by kernel_rfl) hL;exact TL.Does.field rfl (J.keeps 1 (by kernel_rfl)) (z2j 0 (by omega) W w.heap.size) ⟨CA.on h8 (hC.1 h8) (V L 3 (by omega)),rfl,λj _ _ ht=>ht.below (V L 3 (by omega)) (Below.refl _ _)⟩
 .intro L a W hL A1 Y J hC q;have h8:L 8=false:=TL.z0v Y 9 8 4 (by kernel_rfl) hL;have O:=hC.1 h8;exact TL.Does.load rfl ((q 3 (by kernel_rfl)).2) (z5W w.heap.size 0 hb W ((O.cell (p:=⟨w.heap.size,0,none⟩) (z00 A3.out)).trans (z01 _ _ _ _ A3.out 0 _ rfl))) ⟨CA.on h8 O (V L 4 (by omega)),rfl,λj _ _ ht=>ht.below (V L 4 (by omega)) (Below.refl _ _)⟩
 .intro L a W hL A1 Y J hC q;have h8:L 8=false:=TL.z0v Y 9 8 5 (by kernel_rfl) hL;have O:=hC.1 h8;have e1:a.eval (.tmp 7)= .pointer (some ⟨hb,0,none⟩):=(q 4 (by kernel_rfl)).2;refine TL.Does.call (f:=54) (args:=#[a.eval (.tmp 7)]) (by kernel_rfl) ?_;rw[e1];refine(z3C hb Zh x.s.mark x.s.H W (HN.out.below O).hd.toI hG).mono ?_;rintro e W' ⟨v5,rfl,AF,Av⟩;exact⟨_,rfl,CA.on h8 (z0u O Av) (V L 5 (by omega)),λ_=>AF.low O.size,λj _ _ ht=>ht.below (V L 5 (by omega)) Av⟩
 .intro L a W hL A1 Y J hC q;have h8:L 8=false:=TL.z0v Y 9 8 6 (by kernel_rfl) hL;have O:=hC.1 h8;have e2:a.eval (.tmp 5)= .int .i64 x.s.mark:=(q 2 (by kernel_rfl)).2;have e5:z0a W w1.heap.size (a.eval (.tmp 8)) x.s.H:=(q 5 (by kernel_rfl)).2 h8;refine TL.Does.call (f:=57) (args:=#[a.eval (.tmp 5),a.eval (.tmp 8)]) (by kernel_rfl) ?_;rw[e2];refine(z8l x.s.mark w1.heap.size _ x.s.H W e5 O.size hG HF.out.sixty (λy hy s hs=>HF.out.inv.hd y.1 s ⟨y,hy,rfl,hs⟩)).mono ?_;rintro e W' ⟨AG,rfl,Z6,A9⟩;obtain⟨Zt,Ag,Ah⟩:=A9.hd.tight;exact⟨_,rfl,CA.on h8 (z0u O A9.bel) (V L 6 (by omega)),λ_=>⟨AG,Zt,rfl,Ag,λj hj=>qi O.size (A9.low j (Ah j hj))⟩,λj _ _ ht=>ht.below (V L 6 (by omega)) A9.bel⟩
 .intro L a W hL A1 Y J hC q;have h8:L 8=false:=TL.z0v Y 9 8 7 (by kernel_rfl) hL;exact TL.Does.field rfl (J.keeps 1 (by kernel_rfl)) (z2j 0 (by omega) W w.heap.size) ⟨CA.on h8 (hC.1 h8) (V L 7 (by omega)),rfl,λj _ _ ht=>ht.below (V L 7 (by omega)) (Below.refl _ _)⟩
 .intro L a W hL A1 Y J hC q;have h8:L 8=false:=hL;have O:=hC.1 h8;obtain⟨U,Zt,e6,Ag,Ah⟩:=(q 6 (by kernel_rfl)).2 h8;have A2:=(O.block _ (z00 A3.out)).trans A3.out;exact TL.Does.store rfl ((q 7 (by kernel_rfl)).2) e6 (zi2 w.heap.size 0 _ U W (z01 _ _ _ _ A2 0 _ rfl) (hfz A2 0)) ⟨⟨λe=>(by simp[TL.upd] at e),λ_=>⟨W,U,Zt,O,Ag,Ah,rfl⟩⟩,trivial,λj hj _ ht=>ht.end (by simp[TL.upd])⟩
 .intro L f W hL hC hT;obtain⟨W0,U,Zt,k1,k2,k3,rfl⟩:=hC.2 (hL 8 (by decide));clear hT hL hC;simp only[TL.zaQ];go_frame;have A2:=(k1.block _ (z00 A3.out)).trans A3.out;have A5:=(k1.block _ (z00 Ar.out)).trans Ar.out;have Ai:=HN.out.below k1;have Aj:∀(g:Nat) (c:Array Value) (e:qn),e≠77->W0.heap[g]? =some (.cells c e)->(W0.setCell ⟨w.heap.size,0,none⟩ (.pointer (some ⟨U,0,none⟩))).heap[g]? =W0.heap[g]? :=λg c e he hg=>Below.heap_setCell W0 ⟨w.heap.size,0,none⟩ _ g (λe2=>by rw[e2] at hg;have:=A2;rw[show W0.heap[w.heap.size]? =_ from hg] at this;cases this;exact he rfl)
  have A7:(W0.setCell ⟨w.heap.size,0,none⟩ (.pointer (some ⟨U,0,none⟩))).heap[w.heap.size]? =some (.cells #[.pointer (some ⟨U,0,none⟩),.map (some bm),.int .i64 x.s.nx,.slice ga gn gc] 77):=qo W0 w.heap.size 0 _ _ _ A2;have Ae:(W0.setCell ⟨w.heap.size,0,none⟩ (.pointer (some ⟨U,0,none⟩))).heap[w.heap.size+1]? =some (.cells #[.pointer none,.map none,.int .i64 0,.slice none 0 0] 77):=(Below.heap_setCell W0 ⟨w.heap.size,0,none⟩ _ (w.heap.size+1) (by show w.heap.size+1≠w.heap.size;omega)).trans A5;have A6:z1v (W0.setCell ⟨w.heap.size,0,none⟩ (.pointer (some ⟨U,0,none⟩))) hb bm cnt Zh (.slice ga gn gc) x od:=Ai.kept (λg c e he hg=>Aj g c e (by rcases he with rfl | rfl | rfl | rfl | rfl<;>decide) hg) (Below.heap_setCell W0 ⟨w.heap.size,0,none⟩ _ bm (λe=>by
   obtain⟨f,hm,_⟩:=Ai.mp;obtain⟨es,ck,Aw⟩:=hm.isMap;rw[show bm=w.heap.size from e,A2] at Aw;cases Aw))
  have Ax:HdT (W0.setCell ⟨w.heap.size,0,none⟩ (.pointer (some ⟨U,0,none⟩))) U Zt x.s.mark x.s.H:=k2.kept λg c e he hg=>Aj g c e (by rcases he with rfl | rfl | rfl | rfl<;>decide) hg
  have A8:Below w.heap.size w (W0.setCell ⟨w.heap.size,0,none⟩ (.pointer (some ⟨U,0,none⟩))):=(AE.out.trans (k1.mono (by omega))).setCell (p:=⟨w.heap.size,0,none⟩) (qq _) _;generalize W0.setCell ⟨w.heap.size,0,none⟩ (.pointer (some ⟨U,0,none⟩))=W1 at*;clear Ai Aj A2 A5 k1 k2;have Ay:=Aq.out.below A8 Aq.out.lt;have c1:W1.cell? ⟨w.heap.size,1,none⟩=some (.map (some bm)):=z01 _ _ _ _ A7 1 _ rfl;have HC:=hid (zdy bm cnt mf W1 Ay);have Az:=hid A7;have Ak:=hid Ae;have AH:=hid A6;have AJ:=hid Ax;have AA:=hid A8;clear A7 Ae A6 Ax A8 Ay;go_wp2_with fail;refine HC.out.mono ?_;rintro e W2 ⟨rfl,AB,AK,Ac⟩;have x3:=(Ac.block _ (z00 Az.out)).trans Az.out;have y3:=(Ac.block _ (z00 Ak.out)).trans Ak.out;have AL:=hid AB;have A4:=hid Ac;have c2:W2.cell? ⟨w.heap.size,1,none⟩=some (.map (some bm)):=z01 _ _ _ _ x3 1 _ rfl;have f2:=hfz x3 1;have x4:(W2.setCell ⟨w.heap.size,1,none⟩ (.map (some W1.heap.size))).heap[w.heap.size]? =some (.cells #[.pointer (some ⟨U,0,none⟩),.map (some W1.heap.size),.int .i64 x.s.nx,.slice ga gn gc] 77):=qo W2 w.heap.size 1 _ _ _ x3;have y4:(W2.setCell ⟨w.heap.size,1,none⟩ (.map (some W1.heap.size))).heap[w.heap.size+1]? =some (.cells #[.pointer none,.map none,.int .i64 0,.slice none 0 0] 77):=(Below.heap_setCell W2 ⟨w.heap.size,1,none⟩ _ (w.heap.size+1) (by show w.heap.size+1≠w.heap.size;omega)).trans y3;have AC:∀(g:Nat) (c:Array Value) (e:qn),e≠77->W2.heap[g]? =some (.cells c e)->g≠w.heap.size/\g≠w.heap.size+1:=λg c e he hg=>⟨λe2=>by rw[e2,x3] at hg;cases hg;exact he rfl,λe2=>by rw[e2,y3] at hg;cases hg;exact he rfl⟩
  have AU:=hid x3;have AV:=hid y3;have AW:=hid x4;have AM:=hid y4;have Al:=hid AC;have d0:=z01 _ _ _ _ x4 0 _ rfl;have d1:=z01 _ _ _ _ x4 1 _ rfl;have d2:=z01 _ _ _ _ x4 2 _ rfl;have d3:=z01 _ _ _ _ x4 3 _ rfl;have e0:=z01 _ _ _ _ y4 0 _ rfl;have e1:=z01 _ _ _ _ y4 1 _ rfl;have e2:=z01 _ _ _ _ y4 2 _ rfl;have e3:=z01 _ _ _ _ y4 3 _ rfl;have g0:=hfz y4 0;have g1:=hfz y4 1;have g2:=hfz y4 2;have g3:=hfz y4 3;have AP:=A4.out.size;have AQ:w.heap.size+1<W1.heap.size:=z00 Ak.out;clear AB Ac x3 y3 x4 y4 c1 HC AK AC;go_wp2_with fail;refine bodyPost_ret (results_cell_row (P:=q6) rfl _ _ (w.heap.size+1) 77 _ (0,0) _ rfl (qo _ _ 3 _ _ _ (qo _ _ 2 _ _ _ (qo _ _ 1 _ _ _ (qo _ _ 0 _ _ _ AM.out)))) underlying77 rfl (by kernel_rfl)) rfl ?_;have AD:Below w.heap.size w W2:=AA.out.trans (A4.out.mono (by omega));have key:∀g,g≠w.heap.size->g≠w.heap.size+1->(((((W2.setCell ⟨w.heap.size,1,none⟩ (.map (some W1.heap.size))).setCell ⟨w.heap.size+1,0,none⟩ (.pointer (some ⟨U,0,none⟩))).setCell ⟨w.heap.size+1,1,none⟩ (.map (some W1.heap.size))).setCell ⟨w.heap.size+1,2,none⟩ (.int .i64 x.s.nx)).setCell ⟨w.heap.size+1,3,none⟩ (.slice ga gn gc)).heap[g]? =W2.heap[g]? :=λg h1 h2=>by
   rw[Below.heap_setCell _ ⟨w.heap.size+1,3,none⟩ _ g h2,Below.heap_setCell _ ⟨w.heap.size+1,2,none⟩ _ g h2,Below.heap_setCell _ ⟨w.heap.size+1,1,none⟩ _ g h2,Below.heap_setCell _ ⟨w.heap.size+1,0,none⟩ _ g h2,Below.heap_setCell _ ⟨w.heap.size,1,none⟩ _ g h1]
  refine⟨U,W1.heap.size,Zt,rfl,?_,((((AD.setCell (p:=⟨w.heap.size,1,none⟩) (qq _) _).setCell (p:=⟨w.heap.size+1,0,none⟩) (by simp) _).setCell (p:=⟨w.heap.size+1,1,none⟩) (by simp) _).setCell (p:=⟨w.heap.size+1,2,none⟩) (by simp) _).setCell (p:=⟨w.heap.size+1,3,none⟩) (by simp) _,by omega,λj hj=>by have:=k3 j hj;omega⟩;have AO:=AH.out.below A4.out;refine⟨AJ.out.kept λg c e he hg=>?_,⟨mf,AL.out.block (key _ (by omega) (by omega)),λb hb=>?_,HM.out.2⟩,z04 AO.gn λg c hg=>(let k:=Al.out g c _ (by decide) hg;key g k.1 k.2)⟩
  .have Am:=(A4.out.block g (z00 hg)).trans hg;have k:=Al.out g c e (by rcases he with rfl | rfl | rfl | rfl<;>decide) Am;rw[key g k.1 k.2];exact A4.out.block g (z00 hg)
  .obtain⟨v,q1,q2,q3⟩:=HM.out.1 b hb;refine⟨v,q1,?_,q3⟩;have q4:SrT W1 Zt v b.S:=(q2.wide (Z':=Zt) λj hj=> .inr (by have:=k3 j hj;omega)).kept λg c e _ hg=>AA.out.block g (z00 hg)
   refine q4.kept λg c e he hg=>?_
   have Am:=(A4.out.block g (z00 hg)).trans hg;have k:=Al.out g c e (by rcases he with rfl | rfl | ⟨rfl,_⟩<;>decide) Am;rw[key g k.1 k.2];exact A4.out.block g (z00 hg)
end
section
open Go.RowKit
section
variable {P : Program} {ops : Array Oper} {C : World → Prop} {Q : Exit → Act → World → Prop}
def zdW (P:rM)(ops:Array Oper)(C:World->Prop)(Q:Exit->Act->World->Prop)(h:List Oper):Exit->Act->World->Prop
 | .normal,a,w=>zr0 P C h (λa=>z0F P ops C Q [] .normal a w) a
 | e,a,w=>Q e a w
theorem zdW.outs {q:List Oper}(h:LetsOut (zdW P ops C Q q)):LetsOut Q:=by
 obtain⟨a,w,h⟩:=h;exact⟨a,w,h⟩
theorem zdW.zbc {o:Oper}{G:List Oper}{a:Act}{w:World}{K:Act->World->Prop}(h:o.wp P a w K (zdW P ops C Q G)):o.wp P a w K Q:=by
 unfold oy at*;generalize (execOp a.eval o).run P w=r at*;cases r with
 | ok n w'=>
  cases n<;>simp only[oS] at h ⊢ <;>
   first
    | exact h
    | exact wU h (λe J q=>by
      cases e with
      | returned u=>exact q
      | panicked c=>exact q
      | outgrown=>exact zdW.outs q)
 | halt x w'=>
  cases x<;>simp only[oS] at h ⊢ <;>exact h
def zjB (ops:Array Oper)(h:List Nat):List Nat->Array Bool->Bool
 | [],l=>z7O ops [] h l
 | j::js,l=>decide (wm .any ops l=[j])&&zjB ops h js (l.setIfInBounds j true)
def zdc (ops:Array Oper)(js h:List Nat):List Nat->Array Bool->Bool
 | [],l=>zjB ops h js l
 | i::is,l=>Region.free .any ops l i&&(wm .any ops l).contains i&&zdc ops js h is (l.setIfInBounds i true)
theorem zlA {o:Oper}{os G:List Oper}{i fuel:Nat}{listed:Array Bool}{a:Act}{w:World}(hi:ops[i]? =some o)(Y:o.guard=none)(J:wm .any ops listed=[i])(hC:C w)
  (hk:∀a w,z0F P ops C (zdW P ops C Q G) os .normal a w->z3Y P .any ops C Q fuel (listed.setIfInBounds i true) a w) (h:eG P ops (z0F P ops C (zdW P ops C Q G) os) [o] a w):z3Y P .any ops C Q (fuel+1) listed a w:=by
 refine⟨hC,λO=>(by rw[J] at O;cases O),λj U=>?_⟩;rw[J] at U;have q:j=i:=by simpa using U
 subst q;have V:wy o (tz ops a.tmps)=true:=by unfold wy;rw[Y]
 unfold wpOp;simp only[hi,V,if_true];simp only[eG,V,if_true] at h;exact h.imp (λh=>zdW.zbc (z0F.zbc (os:=os) (Oper.wp_mono hk h))) (λh=>⟨h.1,zdW.outs (z0F.outs h.2)⟩)
theorem zhj (q:eh ops=true)(G:∀c a w,¬Q (.panic c) a w){ks:List Nat}{J:List Oper}(O:z2Z ops ks J):∀{js:List Nat} {os:List Oper} {l:Array Bool} {a:Act} {w:World},z2Z ops js os->zjB ops ks js l=true->z0F P ops C (zdW P ops C Q J) os .normal a w->z3Y P .any ops C Q (js.length+ks.length) l a w
 | [],[],l,a,w,_,hB,h=>by
  have:=z7l (js:=[]) (ps:=[]) q G ⟨rfl,by simp⟩ O hB h.2;simpa using this
 | j::js,o::os,l,a,w,ho,hB,h=>by
  obtain⟨U,V,Y⟩:=ho.cons;simp only[zjB,qI,decide_eq_true_eq] at hB;have e:(j::js).length+ks.length=js.length+ks.length+1:=by simp;omega
  rw[e];exact zlA U V hB.1 h.1 (λa w h=>zhj q G O Y hB.2 h) h.2
 | [],o::os,l,a,w,ho,_,_=>by have:=ho.1;simp at this
 | j::js,[],l,a,w,ho,_,_=>by have:=ho.1;simp at this
theorem z9P (q:eh ops=true)(G:∀c a w,¬Q (.panic c) a w){js ks:List Nat}{ps J:List Oper}(O:z2Z ops js ps)(U:z2Z ops ks J){w:World}:∀{is:List Nat} {os:List Oper} {l:Array Bool} {a:Act},z2Z ops is os->zdc ops js ks is l=true->zr0 P C os (λa=>z0F P ops C (zdW P ops C Q J) ps .normal a w) a->z3Y P .any ops C Q (is.length+(js.length+ks.length)) l a w
 | [],[],l,a,_,hB,h=>by
  rw[qO,qT];exact zhj q G U O hB h
 | i::is,o::os,l,a,ho,hB,h=>by
  obtain⟨V,Y,h3⟩:=ho.cons;simp only[zdc,qI] at hB;obtain⟨v,hy,hk⟩:=h;have e:(i::is).length+(js.length+ks.length)=is.length+(js.length+ks.length)+1:=by simp;omega
  rw[e];exact z3Y.take V Y q hB.1.1 hB.1.2 G hy (z9P q G O U h3 hB.2 hk)
 | [],o::os,l,a,ho,_,_=>by have:=ho.1;simp at this
 | i::is,[],l,a,ho,_,_=>by have:=ho.1;simp at this
theorem z0U {G:Nat}{a:Act}{w:World}(C:World->Prop)(is js ks:List Nat)(J:P.follows .mixedOrders=true)(q:(eh ops&&zdc ops js ks is (Array.replicate ops.size false)&&decide (is.length+(js.length+ks.length)=ops.size)&&z4J ops is&&z4J ops js&&z4J ops ks)=true)
  (h:zr0 P C (is.filterMap λi=>ops[i]?) (λa=>z0F P ops C (zdW P ops C (zr5 Q) (ks.filterMap λi=>ops[i]?)) (js.filterMap λi=>ops[i]?) .normal a w.drew) a):(Code.region G ops true).wp P Q a w:=by
 simp only[qI,decide_eq_true_eq] at q;obtain⟨⟨⟨⟨⟨O,U⟩,V⟩,Y⟩,h5⟩,h6⟩:=q;refine Code.wp_mono (Q:=zr5 Q) (λe a w h=>by obtain⟨rfl,h⟩:=h;exact h) (wp_region_any J ?_);have:=z9P (Q:=zr5 Q) O (λ_ _ _ h=>nomatch h.1) (z2l h5) (z2l h6) (z2l Y) U h;rw[V] at this;exact this.any
theorem z0F.fin {q:List Oper}{a:Act}{w:World}(G:C w)(h:zr0 P C q (λa=>z0F P ops C (zr5 Q) [] .normal a w) a):z0F P ops C (zdW P ops C (zr5 Q) q) [] .normal a w:=⟨G,h⟩
theorem zr0.fin {a:Act}{w:World}(q:C w)(h:Q .normal a w):zr0 P C [] (λa=>z0F P ops C (zr5 Q) [] .normal a w) a:=⟨q,rfl,h⟩
end
end
section
open Go.RowKit
theorem z1I.at {w wr:World}{b off:Nat}{l:List CL.Smp}(h:z1I w (some ⟨b,off,none⟩) l)(hb:Below w.heap.size w wr)(i:Nat)(hi:i<l.length):
  wr.cell? ⟨b,off+i*2,none⟩=some (.int .i64 (CL.at' l i).1)/\wr.cell? ⟨b,off+i*2+1,none⟩=some (.int .i64 (CL.at' l i).2):=by
 obtain⟨V,U,q,J,O,G⟩:=h i hi;simp only[qR,uD,and_true] at q;obtain⟨rfl,rfl⟩:=q;exact⟨(hb.cell (p:=⟨b,_,none⟩) G).trans J,(hb.cell (p:=⟨b,_,none⟩) G).trans O⟩
end
section
open Go.RowKit
theorem z1O {P:rM}{ops:Array Oper}{o:Oper}{a:Act}{w:World}{K:Act->World->Prop}{Q:Exit->Act->World->Prop}{E:Prop}
  (hg:o.guard=none) (s x:Operand) (t:qn) (ho:o.op= .call {callee:= .builtin .append,args:=#[s,x],argTypes:=#[t,t]})
  (q:Nat) (e:qn) (i:TypeInfo) (z:Value) (size bytes:Nat) (ht:P.underlying t=some (.slice e)) (hi:P.info? e=some i) (hz:i.zero=some z)
  (J:i.size=size) (Y:i.bytes=bytes) (A1:z.cells.size=size) (A2:0<size)
  (v:Value) (n:Nat) (xs:List Value) (hs:a.eval s=v) (V:w.ownsRow q e size v n xs)
  (ad:Addr) (m c:Nat) (news:List Value) (hx:a.eval x= .slice (some ad) m c) (hl:news.length=m*size) (O:∀j u,news[j]? =some u->w.cell? (ad.add j)=some u) (h1:∀u∈news,u.oneCell'=true)
  (A3:n+m<=qS) (G:(n+m)*bytes<=140737488355328) (U:q<=w.heap.size)
  (h:∀v' w',w'.ownsRow q e size v' (n+m) (xs++news)->w.grownBy w' v.ownBlock->(v'= .slice none 0 0↔v= .slice none 0 0/\m=0)->K (a.put o.dst v') w'):
  if wy o (tz ops a.tmps)=true then oy P o a w K Q else E:=by
 have hw:wy o (tz ops a.tmps)=true:=by simp[wy,hg]
 rw[if_pos hw];exact wp_append_own w s x t ho q e i z size bytes ht hi hz J Y A1 A2 v n xs hs V ad m c news hx hl O h1 A3 G U h
theorem z9E {w:World}{G:Option Addr}{x:CL.Smp}{l:List CL.Smp}{cap:Nat}(h:z1I w G (x::l))(O:(x::l).length<=cap):
  ∃b off A,G=some ⟨b,off,none⟩/\(if cap=1 then some ⟨b,off,none⟩ else some ⟨b,off+2,none⟩)=A/\z1I w A l:=by
 obtain⟨b,off,e,_⟩:=h 0 (by simp);refine⟨b,off,_,e,rfl,λi hi=>?_⟩;obtain⟨V,J,q,c0,c1,hb⟩:=h (i+1) (by simpa using hi);rw[e] at q;simp only[qR,uD,and_true] at q;obtain⟨rfl,rfl⟩:=q;have U:cap≠1:=by simp at O;omega
 refine⟨b,off+2,by rw[if_neg U],?_,?_,hb⟩
 .have:off+2+i*2=off+(i+1)*2:=by omega
  rw[this];exact c0
 .have:off+2+i*2+1=off+(i+1)*2+1:=by omega
  rw[this];exact c1
theorem z5b {w1 w2 w':World}{row:Option Nat}(h:w1.grownBy w' row)(G:w2.heap=w1.heap)(O:w2.os=w1.os)(U:w2.tape=w1.tape)(hu:w2.output=w1.output):w2.grownBy w' row:=
 ⟨h.os.trans O.symm,h.tape.trans U.symm,h.output.trans hu.symm,by rw[G];exact h.size,λk J q=>by rw[G] at J ⊢;exact h.block k J q⟩
theorem z0p {P:rM}(w:World){ops:Array Oper}{rest:List Oper}{o:Oper}{a:Act}{Q:Exit->Act->World->Prop}
  (Y:o.guard=none) (s x:Operand) (t:qn) (O:o.op=Op.call {callee:=Callee.builtin Builtin.append,args:=#[s,x],argTypes:=#[t,t]})
  (h:Nat) (e:qn) (i:TypeInfo) (z:Value) (size bytes:Nat) (h1:P.underlying t=some (.slice e)) (h2:P.info? e=some i) (h3:i.zero=some z) (h4:i.size=size) (h5:i.bytes=bytes) (h6:z.cells.size=size) (h7:0<size)
  (v:Value) (k:Nat) (xs:List Value) (hs:a.eval s=v) (q:w.ownsRow h e size v k xs) (U:Option Addr) (m c:Nat) (news:List Value) (hx:a.eval x= .slice U m c) (hn:news.length=m*size)
  (G:U=none->m=0/\c=0) (hc:∀ad,U=some ad->∀j u,news[j]? =some u->w.cell? (ad.add j)=some u) (V:∀u∈news,u.oneCell'=true) (b1:k+m<=qS) (b2:(k+m)*bytes<=140737488355328) (b3:h<=w.heap.size)
  (hK:∀v' w',w'.ownsRow h e size v' (k+m) (xs++news)->w.grownBy w' v.ownBlock->eG P ops Q rest (a.put o.dst v') w'):
  eG P ops Q (o::rest) a w:=by
 cases U with
 | some ad=>exact rB w Y s x t O h e i z size bytes h1 h2 h3 h4 h5 h6 h7 v k xs hs q ad m c news hx hn (hc ad rfl) V b1 b2 b3 (λv' w' a b _=>hK v' w' a b)
 | none=>
  obtain⟨rfl,rfl⟩:=G rfl;have J:news=[]:=List.eq_nil_of_length_eq_zero (by simpa using hn);subst J;exact wpList_append_own_none Y s x t O h e i size h1 h2 v k xs hs q hx (hK v w (by simpa using q) (iT _ _))
theorem zcU (l:List CL.Smp):∀u∈sv l,u.oneCell'=true:=by
 intro u h;simp only[sv,List.mem_flatMap,qg,List.not_mem_nil,or_false] at h;obtain⟨s,_,rfl|rfl⟩:=h<;>rfl
theorem z3K {w wr:World}{ao:Option Addr}{l:List CL.Smp}(h:z1I w ao l)(hb:Below w.heap.size w wr):∀V,ao=some V->∀j u,(sv l)[j]? =some u->wr.cell? (V.add j)=some u:=by
 intro V Y j u q;have A1:j<(sv l).length:=(List.getElem?_eq_some_iff.1 q).1;rw[z1d] at A1;obtain⟨b,off,e,c0,c1,G⟩:=h (j/2) (by omega);rw[Y] at e;obtain rfl:=qt e;obtain⟨g0,g1⟩:=z6Y l (j/2) (by omega);rcases Nat.mod_two_eq_zero_or_one j with hp|hp
 .have U:j=j/2*2:=by omega
  rw[<-U] at g0;rw[g0] at q;have J:=(hb.cell (p:=⟨b,_,none⟩) G).trans c0;rw[<-U] at J;rw[<-q,qP];exact J
 .have U:j=j/2*2+1:=by omega
  rw[<-U] at g1;rw[g1] at q;have O:=(hb.cell (p:=⟨b,_,none⟩) G).trans c1;have e2:off+j/2*2+1=off+j:=by omega
  rw[e2] at O;rw[<-q,qP];exact O
theorem z9b {p:Prop} [Decidable p]{x y:Addr}{A:Option Addr}(h:(if p then some x else some y)=A):A≠none:=by
 subst h;split<;>simp
theorem zdl (a b:List CL.Smp)(h:a=[]\/b=[]):CL.mrg a b=a++b:=by
 rcases h with rfl|rfl
 .rw[CL.mrg];rfl
 .cases a with
  | nil=>rw[CL.mrg];rfl
  | cons x a=>rw[CL.mrg];simp
def zm3:Value->Nat
 | .slice _ n _=>n
 | _=>0
theorem zgJ (ao bo:Option Addr)(a b:List CL.Smp)(ca cb:Nat)(w:World)(hA:z1I w ao a)(hB:z1I w bo b)(AO:a.length<=ca)(AP:b.length<=cb)(AY:a.length<=2000)(AZ:b.length<=2000)(AQ:ao=none->ca=0)(AR:bo=none->cb=0):
  Calls q6 46 #[.slice ao a.length ca,.slice bo b.length cb] w λe w'=>∃v,e= .returned v/\w'.ownsRow w.heap.size 98 2 v (CL.mrg a b).length (sv (CL.mrg a b))/\Below w.heap.size w w':=by
 have HA:=hid hA;have HB:=hid hB;clear hA hB;obtain⟨ii,hi,AC⟩:=Option.map_eq_some_iff.1 Tryz.info98;simp only[Prod.mk.injEq] at AC;obtain⟨AD,AE,AF⟩:=AC;have A4:=hid hi;have A5:=hid AD;have A6:=hid AE;have A7:=hid AF;clear hi AD AE AF;go_enter func46,ntmps46;go_wp2_with (at_make;refine wpList_make_own _ rfl _ _ 91 rfl w.heap.size 98 ii (.agg #[.int .i64 0,.int .i64 0]) 2 underlying91 A4.out A5.out A6.out .i64 .i64 _ (a.length+b.length) rfl rfl (by omega) (by rw[A7.out];omega) (by unfold qS;omega) (qq _) ?_;intro w0 Aj Ac)
 have AU:=hid Aj;have AV:=hid ((Below.refl w.heap.size w).grown Ac (qq _) (λk hk=>by cases hk));clear Aj Ac;go_wp2_with fail;go_loopw [0,1,5] (λta tb tl wr=>∃(a' b' d:List CL.Smp) (Ae Af:Option Addr) (A2 A3:Nat),ta= .slice Ae a'.length A2/\tb= .slice Af b'.length A3/\a'.length<=A2/\b'.length<=A3/\d.length+a'.length+b'.length<=4000/\CL.mrg a b=d++CL.mrg a' b'/\z1I w Ae a'/\z1I w Af b'/\(Ae=none->A2=0)/\(Af=none->A3=0)/\wr.ownsRow w.heap.size 98 2 tl d.length (sv d)/\Below w.heap.size w wr) (λta tb _ _=>zm3 ta+zm3 tb)
 case atStart=>exact⟨a,b,[],ao,bo,ca,cb,rfl,rfl,AO,AP,by simp;omega,rfl,HA.out,HB.out,AQ,AR,AU.out,AV.out⟩
 case round=>
  obtain⟨a',b',d,Ae,Af,A2,A3,rfl,rfl,A8,Ad,Ao,hm,AG,AH,Ap,Aq,Ar,Ak⟩:=hrel;have HM:=hid hm;have Al:=hid Ap;have Am:=hid Aq;clear Ap Aq;have Ag:=hid AG;have Ah:=hid AH;have HO:=hid Ar;have V:=hid Ak;have A9:=Ak.size;clear hm AG AH Ar Ak;rcases a' with _|⟨x,a2⟩
  .simp only[qO] at A8 Ao ⊢;have Ay:=hid (zdl [] b' (.inl rfl));go_wp2_with (first | (at_builtin;refine z0p _ rfl (.tmp 56) (.tmp 57) 91 rfl w.heap.size 98 ii (.agg #[.int .i64 0,.int .i64 0]) 2 16 underlying91 A4.out A5.out A6.out A7.out rfl (by decide) u5 d.length (sv d) rfl HO.out Ae 0 A2 (sv []) rfl (z1d _) (λh=>⟨by have:=Al.out h;omega,Al.out h⟩) (z3K Ag.out V.out) (zcU _) (by unfold qS;omega) (by omega) A9 ?_;intro v7 w7 q O;have Y:=hid q;have J:=hid (V.out.grown O A9 (λj hj=>(HO.out.lt j hj).1));clear q O) | (at_builtin;refine z0p _ rfl (.tmp 59) (.tmp 60) 91 rfl w.heap.size 98 ii (.agg #[.int .i64 0,.int .i64 0]) 2 16 underlying91 A4.out A5.out A6.out A7.out rfl (by decide) v7 (d.length+0) (sv d++sv []) rfl Y.out Af b'.length A3 (sv b') rfl (z1d _) (λh=>⟨by have:=Am.out h;omega,Am.out h⟩) (z3K Ah.out J.out) (zcU _) (by unfold qS;omega) (by omega) J.out.size ?_;intro v8 w8 A1 U;have Az:=hid A1;have AA:=hid (J.out.grown U J.out.size (λj hj=>(Y.out.lt j hj).1));clear A1 U))
   go_ret;refine⟨_,rfl,?_,AA.out⟩;rw[HM.out,Ay.out,q8,q8,z0P,z0P,<-qm,<-yG];exact Az.out
  .rcases b' with _|⟨y,b2⟩
   .simp only[qO,List.length_cons] at A8 Ad Ao ⊢;have Ay:=hid (zdl (x::a2) [] (.inr rfl));go_wp2_with (first | (at_builtin;refine z0p _ rfl (.tmp 56) (.tmp 57) 91 rfl w.heap.size 98 ii (.agg #[.int .i64 0,.int .i64 0]) 2 16 underlying91 A4.out A5.out A6.out A7.out rfl (by decide) u5 d.length (sv d) rfl HO.out Ae (a2.length+1) A2 (sv (x::a2)) rfl (z1d _) (λh=>⟨by have:=Al.out h;omega,Al.out h⟩) (z3K Ag.out V.out) (zcU _) (by unfold qS;omega) (by omega) A9 ?_;intro v7 w7 q O;have Y:=hid q;have J:=hid (V.out.grown O A9 (λj hj=>(HO.out.lt j hj).1));clear q O) | (at_builtin;refine z0p _ rfl (.tmp 59) (.tmp 60) 91 rfl w.heap.size 98 ii (.agg #[.int .i64 0,.int .i64 0]) 2 16 underlying91 A4.out A5.out A6.out A7.out rfl (by decide) v7 (d.length+(a2.length+1)) (sv d++sv (x::a2)) rfl Y.out Af 0 A3 (sv []) rfl (z1d _) (λh=>⟨by have:=Am.out h;omega,Am.out h⟩) (z3K Ah.out J.out) (zcU _) (by unfold qS;omega) (by omega) J.out.size ?_;intro v8 w8 A1 U;have Az:=hid A1;have AA:=hid (J.out.grown U J.out.size (λj hj=>(Y.out.lt j hj).1));clear A1 U))
    go_ret;refine⟨_,rfl,?_,AA.out⟩;rw[HM.out,Ay.out,q8,q8,z0P,z0P,<-qm,<-yG];exact Az.out
   .obtain⟨ba,oa,Aa,rfl,AJ,Au⟩:=z9E Ag.out A8;obtain⟨bb,ob,Ab,rfl,AK,Av⟩:=z9E Ah.out Ad;have Aw:=hid Au;have Ax:=hid Av;have c0:=(Ag.out.at V.out 0 (by simp)).1;have c1:=(Ag.out.at V.out 0 (by simp)).2;have e0:=(Ah.out.at V.out 0 (by simp)).1;have e1:=(Ah.out.at V.out 0 (by simp)).2;have ea:CL.at' (x::a2) 0=x:=rfl;have eb:CL.at' (y::b2) 0=y:=rfl;rw[ea] at c0 c1;rw[eb] at e0 e1;simp only[Nat.zero_mul,Nat.add_zero] at c0 c1 e0 e1;have AL:(x::a2).length=a2.length+1:=rfl;have AM:(y::b2).length=b2.length+1:=rfl;rw[AL] at A8 Ao ⊢;rw[AM] at Ad Ao ⊢;clear Au Av ea eb AL AM;have B0:(1:Int)<=(a2.length:Int)+1:=by omega
    have B3:(1:Int)<=(b2.length:Int)+1:=by omega
    have AW:1<=A2:=by omega
    have AX:1<=A3:=by omega
    by_cases AB:x.1<y.1
    .go_wp2_with fail
     go_quiet (fail)
     go_wp2_with fail
     go_region_law ((refine z1O rfl (.tmp 29) (.tmp 33) 91 rfl w.heap.size 98 ii (.agg #[.int .i64 0,.int .i64 0]) 2 16 underlying91 A4.out A5.out A6.out A7.out rfl (by decide) u5 d.length (sv d) (by simp[yB]) (z2L (HO.out.alloc (z3b x.1 x.2)) rfl) ⟨wr.heap.size,0,none⟩ 1 1 [.int .i64 x.1,.int .i64 x.2] (by simp[yB]) rfl (λj u hj=>z3I wr _ _ 98 j u hj) (z6I _ _) (by unfold qS;omega) (by omega) (by simp;omega) ?_;intro v7 w7 q G _))
     have Y:=hid q;have J:=hid (((show Below w.heap.size w (wr.alloc (z3b x.1 x.2)) from V.out.alloc A9 _)).grown (w':=w7) (row:=u5.ownBlock) (show ub _ _ _ from z5b G rfl rfl rfl rfl) (by simp;omega) (λj hj=>(HO.out.lt j hj).1));clear q G;simp only[yk,y9,yq];go_frame;go_wp2_with fail;refine⟨?rel, ?measure⟩
     case rel=>
      refine⟨a2,y::b2,d++[x],Aa,some ⟨bb,ob,none⟩,A2-1,A3,rfl,rfl,by omega,by simpa using Ad,by simp;omega,?_,Aw.out,Ah.out,?_,Am.out,?_,J.out⟩
      .rw[HM.out]
       conv=>lhs;rw[CL.mrg]
       rw[if_pos AB];simp
      .exact λh=>absurd h (z9b AJ)
      .rw[q8,z0P];exact Y.out
     case measure=>simp[zm3]
    .by_cases Ai:x.1=y.1
     .have hq:(x.1==y.1)=true:=by simp[Ai]
      have HQ:=hid Ai;clear Ai;go_wp2_with fail
      go_quiet (fail)
      go_wp2_with fail
      go_quiet (fail)
      go_wp2_with fail
      go_region_law ((refine z1O rfl (.tmp 48) (.tmp 52) 91 rfl w.heap.size 98 ii (.agg #[.int .i64 0,.int .i64 0]) 2 16 underlying91 A4.out A5.out A6.out A7.out rfl (by decide) u5 d.length (sv d) (by simp[yB]) (z2L (HO.out.alloc (z3b y.1 y.2)) rfl) ⟨wr.heap.size,0,none⟩ 1 1 [.int .i64 y.1,.int .i64 y.2] (by simp[yB]) rfl (λj u hj=>z3I wr _ _ 98 j u hj) (z6I _ _) (by unfold qS;omega) (by omega) (by simp;omega) ?_;intro v7 w7 q G _))
      have Y:=hid q;have J:=hid (((show Below w.heap.size w (wr.alloc (z3b y.1 y.2)) from V.out.alloc A9 _)).grown (w':=w7) (row:=u5.ownBlock) (show ub _ _ _ from z5b G rfl rfl rfl rfl) (by simp;omega) (λj hj=>(HO.out.lt j hj).1));clear q G;simp only[yk,y9,yq];go_frame;go_wp2_with fail;refine⟨?rel, ?measure⟩
      case rel=>
       refine⟨a2,b2,d++[y],Aa,Ab,A2-1,A3-1,rfl,rfl,by omega,by omega,by simp;omega,?_,Aw.out,Ax.out,?_,?_,?_,J.out⟩
       .rw[HM.out]
        conv=>lhs;rw[CL.mrg]
        rw[if_neg (pY.2 AB),if_pos HQ.out];simp
       .exact λh=>absurd h (z9b AJ)
       .exact λh=>absurd h (z9b AK)
       .rw[q8,z0P];exact Y.out
      case measure=>simp[zm3];omega
     .have hq:(x.1==y.1)=false:=by simp[Ai]
      have HQ:=hid Ai;clear Ai;go_wp2_with fail
      go_quiet (fail)
      go_wp2_with fail
      go_quiet (fail)
      go_wp2_with fail
      go_region_law ((refine z1O rfl (.tmp 48) (.tmp 52) 91 rfl w.heap.size 98 ii (.agg #[.int .i64 0,.int .i64 0]) 2 16 underlying91 A4.out A5.out A6.out A7.out rfl (by decide) u5 d.length (sv d) (by simp[yB]) (z2L (HO.out.alloc (z3b y.1 y.2)) rfl) ⟨wr.heap.size,0,none⟩ 1 1 [.int .i64 y.1,.int .i64 y.2] (by simp[yB]) rfl (λj u hj=>z3I wr _ _ 98 j u hj) (z6I _ _) (by unfold qS;omega) (by omega) (by simp;omega) ?_;intro v7 w7 q G _))
      have Y:=hid q;have J:=hid (((show Below w.heap.size w (wr.alloc (z3b y.1 y.2)) from V.out.alloc A9 _)).grown (w':=w7) (row:=u5.ownBlock) (show ub _ _ _ from z5b G rfl rfl rfl rfl) (by simp;omega) (λj hj=>(HO.out.lt j hj).1));clear q G;simp only[yk,y9,yq];go_frame;go_wp2_with fail;refine⟨?rel, ?measure⟩
      case rel=>
       refine⟨x::a2,b2,d++[y],some ⟨ba,oa,none⟩,Ab,A2,A3-1,rfl,rfl,by simpa using A8,by omega,by simp;omega,?_,Ag.out,Ax.out,Al.out,?_,?_,J.out⟩
       .rw[HM.out]
        conv=>lhs;rw[CL.mrg]
        rw[if_neg (pY.2 AB),if_neg HQ.out];simp
       .exact λh=>absurd h (z9b AK)
       .rw[q8,z0P];exact Y.out
      case measure=>simp[zm3]
end
end Go.Proofs.YtemeblgngidldaaGreatDoor
