/- Texts put together and made smaller by program: SoGone BpRead EwReg SoRdSt SoRead SoFirst SoGood SoOpen SoAnew ChSame. -/
import Derived.Test.YtemeblgngidldaaGreatDoorPC13
set_option linter.unusedVariables false
set_option linter.unusedSimpArgs false
set_option maxRecDepth 100000
set_option maxHeartbeats 12800000
open And renaming intro->qv
open Bool renaming and_eq_true->qI
open Go renaming heap_alloc_new->qu,heap_setCell_same->qo,bodyPost_ret->rP,results_cell_row->uu
open Go.Addr renaming add_lit->qP
open Go.Obj.cells renaming injEq->rI
open Go.Oper renaming upon->oS
open Go.Region renaming ready->wm,wanted->wy,noSelect->eh
open Go.Value renaming string->yP,slice->wH,int->wM
open Go.Value.slice renaming injEq->eC,inj->yA
open Go.World renaming frozen?->wz,cell?->qs,cell?_of_block->qj
open Go.World.ownsRow renaming cells->tC,lt->ul
open List renaming append_assoc->qm,length_append->q8,flatMap_append->tQ,drop_zero->um,drop_eq_getElem_cons->rm,flatMap_cons->rU,getD_eq_getElem?_getD->q7,getElem?_eq_getElem->qw,take_add_one->wJ,take_append_drop->r7,take_length->qD,drop_length->uy,length_map->qz,length_nil->qO,length_cons->qf,getElem_mem->qK,mem_cons_self->qd,map_cons->wR,filterMap_cons->qM,filterMap_nil->wh,getElem?_toArray->qJ,getElem?_cons_zero->qF,getElem?_cons_succ->qA,append_nil->tB,mem_map->qx,getElem?_map->qZ
open List.Pairwise renaming nil->yd
open Nat renaming zero_add->qT,le_refl->qq,zero_le->qh,le_trans->qi,lt_of_lt_of_le->qe
open Option.some renaming inj->qt,injEq->qR
open Go.Proofs.Tryz renaming prog->q6
open Go.Proofs.Tryz
namespace Go.Proofs.YtemeblgngidldaaGreatDoor
section
open Go.RowKit Go.Maps
theorem zeE (n:Int)(h: -9223372036854775808<=n)(q:n<=9223372036854775807)(R:List UInt8):tN (CD.wN n++R) false=(n,R,false):=by
 unfold tN;rw[CD.zdo n h q];rfl
theorem znS (k q:Nat)(h:k<=q)(G:q<=1000000000)(R:List UInt8):tZ (CD.wN (k:Int)++R) false q=((k:Int),R,false):=by
 unfold tZ;rw[zeE _ (by omega) (by omega),if_pos ⟨rfl,by omega,by omega⟩]
theorem znG (t:List UInt8)(h:t.length<=1000000000)(R:List UInt8):tT (CD.wT t++R) false=(t,R,false):=by
 unfold tT CD.wT;rw[qm,zeE _ (by omega) (by omega)];rw[if_pos ⟨rfl,by omega,by show(t.length:Int)<=((t++R).length:Int);rw[q8];omega⟩];simp
def mcl (l:List LB.Mat):List Value:=l.flatMap λm=>[.string m.nm,.int .i64 m.op,.string m.vl]
theorem zgI:∀(l:List LB.Mat) (i:Nat),i<l.length->(mcl l)[i*3]? =some (.string (LB.am l i).nm)/\(mcl l)[i*3+1]? =some (.int .i64 (LB.am l i).op)/\(mcl l)[i*3+2]? =some (.string (LB.am l i).vl)
 | m::l,0,_=>⟨rfl,rfl,rfl⟩
 | m::l,i+1,h=>by
  obtain⟨q,G,J⟩:=zgI l i (by simpa using h);have e:(i+1)*3=i*3+3:=by omega
  have O:mcl (m::l)= .string m.nm:: .int .i64 m.op:: .string m.vl::mcl l:=rfl;rw[e,O];exact⟨q,G,J⟩
def z4P (w:World)(h:Nat)(v:Value)(l:List LB.Mat):Prop:=w.ownsRow h 62 3 v l.length (mcl l)
theorem z4P.row {w:World}{q:Nat}{v:Value}{l:List LB.Mat}(h:z4P w q v l):∃ao cap,v= .slice ao l.length cap/\z3s w ao l/\∀a,ao=some a->q<=a.block:=by
 rcases h.2 with⟨J,O⟩|⟨g,cap,U,J,hb,V,_⟩
 .refine⟨none,0,by rw[J,O],λi hi=>by omega,λa e=>by cases e⟩
 .refine⟨some ⟨g,0,none⟩,cap,J,λi hi=>?_,λa e=>by cases e;exact hb⟩;obtain⟨Y,f1,f2⟩:=zgI l i hi;have G:v.ownBlock=some g:=by rw[J];rfl
  have c0:=tC h (g:=g) G _ _ Y;have c1:=tC h (g:=g) G _ _ f1;have c2:=tC h (g:=g) G _ _ f2;rw[qP,qT] at c0 c1 c2;exact⟨g,0,rfl,by rw[qT];exact c0,by rw[qT];exact c1,by rw[qT];exact c2,z00 V⟩
theorem zcI (w:World)(b:Nat):(Instr.fieldAt 25 (.pointer (some ⟨b,0,none⟩)) 0).run q6 w= .ok (.pointer (some ⟨b,0,none⟩)) w:=by
 go_simp
theorem zng (b k:Nat)(q:Option Addr)(n c:Nat)(w:World)(h:w.cell? ⟨b,k,none⟩=some (.slice q n c)):(Instr.loadAt 23 (.pointer (some ⟨b,k,none⟩))).run q6 w= .ok (.slice q n c) w:=by
 have G:(q6.info? 23).map (·.size)=some 1:=by kernel_rfl
 go_simp
theorem znw (b k:Nat)(u:Value)(h:Option Addr)(n c:Nat)(w:World)(c0:w.cell? ⟨b,k,none⟩=some u)(q:w.frozen? ⟨b,k,none⟩=false):(Instr.storeAt 23 (.pointer (some ⟨b,k,none⟩)) (.slice h n c)).run q6 w= .ok () (w.setCell ⟨b,k,none⟩ (.slice h n c)):=by
 have G:(q6.info? 23).map (·.size)=some 1:=by kernel_rfl
 go_simp
theorem znv (W:World)(nm h:ByteArray)(q:Int):(Instr.build 62 #[(0,.string nm),(1,.int .i64 q),(2,.string h)]).run q6 W= .ok (.agg #[.string nm,.int .i64 q,.string h]) W:=by
 kernel_rfl
theorem znz (W:World)(nm h:ByteArray)(q:Int):(Instr.buildSlice 23 1 #[(0,.agg #[.string nm,.int .i64 q,.string h])]).run q6 W= .ok (.slice (some ⟨W.heap.size,0,none⟩) 1 1) (W.alloc (.cells #[.string nm,.int .i64 q,.string h] 62)):=by
 go_simp
theorem zn8 (W:World)(q:Nat)(v:Value)(A:List LB.Mat)(x:LB.Mat)(g:Nat)(h:z4P W q v A)(O:W.heap[g]? =some (.cells #[.string x.nm,.int .i64 x.op,.string x.vl] 62)) (hl:A.length<=1000000) (hb:q<=W.heap.size):
  ∃v' W',(Builtin.append_ #[23,23] 23 #[v,.slice (some ⟨g,0,none⟩) 1 1]).run q6 W= .ok v' W'/\z4P W' q v' (A++[x])/\W.grownBy W' v.ownBlock/\(v'.ownBlock=v.ownBlock\/v'.ownBlock=some W.heap.size):=by
 obtain⟨i,hi,U,V,Y⟩:=info_parts (show(q6.info? 62).map (λi=>(i.zero,i.size,i.bytes))=some (some (.agg #[.string ⟨#[]⟩,.int .i64 0,.string ⟨#[]⟩]),3,40) by kernel_rfl);obtain⟨v',W',J,h2,h3,_,h5⟩:=run_append_own_at (P:=q6) W q 23 23 62 i (.agg #[.string ⟨#[]⟩,.int .i64 0,.string ⟨#[]⟩]) 3 40 (by kernel_rfl) hi U V Y rfl (by decide) v A.length (mcl A) h ⟨g,0,none⟩ 1 1 [.string x.nm,.int .i64 x.op,.string x.vl] rfl (λj y G=>by
  match j with
  | 0=>simp at G;subst G;exact z01 _ _ _ _ O 0 _ rfl
  | 1=>simp at G;subst G;exact z01 _ _ _ _ O 1 _ rfl
  | 2=>simp at G;subst G;exact z01 _ _ _ _ O 2 _ rfl
  | j+3=>simp at G) (by simp[Value.oneCell']) (by unfold maxLen;omega) (by omega) hb
 refine⟨v',W',J,?_,h3,h5⟩;unfold z4P;have e:mcl (A++[x])=mcl A++[.string x.nm,.int .i64 x.op,.string x.vl]:=by unfold mcl;rw[tQ];rfl
 rw[e,q8];exact h2
def zeF (h q G J:List UInt8)(L:Nat->Bool):List UInt8:=if L 7 then J else if L 5 then G else if L 3 then q else h
def TR (w:World)(h q G:Nat)(mv:Value)(A:List LB.Mat)(x:LB.Mat)(L:Nat->Bool)(i:Nat)(W:World)(v:Value):Prop:=match i with
 | 0=>v= .pointer (some ⟨G,0,none⟩)
 | 1=>v=mv
 | 2=>v= .pointer (some ⟨q,0,none⟩)
 | 3=>v= .string x.nm
 | 4=>v= .pointer (some ⟨q,0,none⟩)
 | 5=>v= .int .i64 x.op
 | 6=>v= .pointer (some ⟨q,0,none⟩)
 | 7=>v= .string x.vl
 | 8=>v= .agg #[.string x.nm,.int .i64 x.op,.string x.vl]
 | 9=>L 10=false->∃g,v= .slice (some ⟨g,0,none⟩) 1 1/\w.heap.size<=g/\W.heap[g]? =some (.cells #[.string x.nm,.int .i64 x.op,.string x.vl] 62)
 | 10=>L 12=false->z4P W h v (A++[x])/\(v.ownBlock=mv.ownBlock\/∃g,v.ownBlock=some g/\w.heap.size<=g)
 | 11=>v= .pointer (some ⟨G,0,none⟩)
 | _=>True
theorem TR.zto {w W W':World}{q G J:Nat}{mv:Value}{A:List LB.Mat}{x:LB.Mat}{L L':Nat->Bool}:∀{i:Nat} {v:Value},(i=9->TR w q G J mv A x L 9 W v->TR w q G J mv A x L' 9 W' v)->(i=10->TR w q G J mv A x L 10 W v->TR w q G J mv A x L' 10 W' v)->TR w q G J mv A x L i W v->TR w q G J mv A x L' i W' v:=by
 intro i v U O h
 match i,h with
 | 0,h=>exact h
 | 1,h=>exact h
 | 2,h=>exact h
 | 3,h=>exact h
 | 4,h=>exact h
 | 5,h=>exact h
 | 6,h=>exact h
 | 7,h=>exact h
 | 8,h=>exact h
 | 9,h=>exact U rfl h
 | 10,h=>exact O rfl h
 | 11,h=>exact h
 | _+12,_=>trivial
structure CR (w:World) (base br bg:Nat) (mv:Value) (fr tt:Int) (A:List LB.Mat) (x:LB.Mat) (S0 S1 S2 S3:List UInt8) (L:Nat->Bool) (W:World):Prop where
 rd:RdI W br (zeF S0 S1 S2 S3 L) false
 frm:XFr (λj=>j=br\/j=bg\/mv.ownBlock=some j) w W
 box:L 12=false->W.heap[bg]? =some (.cells #[mv,.int .i64 fr,.int .i64 tt] 25)
 row:L 10=false->z4P W base mv A
 fin:L 12=true->∃v',W.heap[bg]? =some (.cells #[v',.int .i64 fr,.int .i64 tt] 25)/\z4P W base v' (A++[x])/\(v'.ownBlock=mv.ownBlock\/∃g,v'.ownBlock=some g/\w.heap.size<=g)
theorem z8E {h q G J:List UInt8}{L:Nat->Bool}{i:Nat}(O:i≠3)(U:i≠5)(V:i≠7):zeF h q G J (TL.upd L i)=zeF h q G J L:=by
 unfold zeF TL.upd;simp[O.symm,U.symm,V.symm]
theorem CR.same {w W:World}{q V Y:Nat}{mv:Value}{fr tt:Int}{A:List LB.Mat}{x:LB.Mat}{S0 S1 S2 S3:List UInt8}{L:Nat->Bool}{i:Nat}(h:CR w q V Y mv fr tt A x S0 S1 S2 S3 L W)(h3:i≠3)(h5:i≠5)(h7:i≠7)(J:i≠10)(O:i≠12):CR w q V Y mv fr tt A x S0 S1 S2 S3 (TL.upd L i) W:=by
 have U:TL.upd L i 10=L 10:=by unfold TL.upd;simp[J.symm]
 have G:TL.upd L i 12=L 12:=by unfold TL.upd;simp[O.symm]
 exact⟨by rw[z8E h3 h5 h7];exact h.rd,h.frm,by rw[G];exact h.box,by rw[U];exact h.row,by rw[G];exact h.fin⟩
theorem TR.same {w W:World}{q V Y:Nat}{mv:Value}{A:List LB.Mat}{x:LB.Mat}{L:Nat->Bool}{i j:Nat}{v:Value}(G:i≠10)(J:i≠12)(h:TR w q V Y mv A x L j W v):TR w q V Y mv A x (TL.upd L i) j W v:=by
 have O:TL.upd L i 10=L 10:=by unfold TL.upd;simp[G.symm]
 have U:TL.upd L i 12=L 12:=by unfold TL.upd;simp[J.symm]
 exact h.zto (λ_ k e=>k (by rw[<-O];exact e)) (λ_ k e=>k (by rw[<-U];exact e))
theorem CR.call {w W W':World}{q G O:Nat}{mv:Value}{fr tt:Int}{A:List LB.Mat}{x:LB.Mat}{U V Y S3 S':List UInt8}{L L':Nat->Bool}(h:CR w q G O mv fr tt A x U V Y S3 L W)(A1:O≠G)(A2:L 12=false)(A3:L 10=false)(A4:L' 12=false)(hs:zeF U V Y S3 L'=S')(hr:RdI W' G S' false)(hg:W.grownBy W' (some G)):CR w q G O mv fr tt A x U V Y S3 L' W':=by
 have hb:=h.box A2;have ho:=h.row A3;refine⟨by rw[hs];exact hr,h.frm.trans (XFr.grown (X:=λj=>j=G) hg (λj hj=> .inl (qt hj).symm)) (λj hj=> .inl (.inl hj)),λ_=>(hg.block O (z00 hb) (λe=>A1 (qt e))).trans hb,λ_=>z04 ho λg c J=>hg.block g (z00 J) (λe=>?_),λe=>by rw[A4] at e;cases e⟩;have e2:=qt e;have h3:=h.rd;unfold RdI at h3;rw[<-e2,J] at h3;cases h3
theorem zhu (br:Nat)(g:Gn)(T:List UInt8)(w:World)(hM:g.M.length<=8)(h2: -9223372036854775808<=g.fr/\g.fr<=9223372036854775807)(h3: -9223372036854775808<=g.tt/\g.tt<=9223372036854775807)(h4:∀i,i<g.M.length->(LB.am g.M i).nm.size<=1000/\(LB.am g.M i).vl.size<=1000/\ -9223372036854775808<=(LB.am g.M i).op/\(LB.am g.M i).op<=9223372036854775807)(hT:T.length<=100000000)
  (h:RdI w br (CD.wN g.fr++(CD.wN g.tt++(CD.wN (g.M.length:Int)++(g.M.flatMap SX.eM++T)))) false) (hl:(g.M.flatMap SX.eM++T).length<=500000000):
  Calls q6 72 #[.pointer (some ⟨br,0,none⟩)] w λe w'=>∃mo mk,e= .returned (gnV mo mk g)/\z3s w' mo g.M/\RdI w' br T false/\But br w w'/\∀a,mo=some a->w.heap.size<=a.block:=by
 obtain⟨M,fr,tt⟩:=g;simp only[gnV] at*;have Bq:br<w.heap.size:=z00 h;have AB:Below w.heap.size w (w.alloc (.cells #[.slice none 0 0,.int .i64 0,.int .i64 0] 25)):=(Below.refl _ w).alloc (qq _) _;have AJ:=h.below AB;have AK:=qu w (.cells #[.slice none 0 0,.int .i64 0,.int .i64 0] 25);have Ag:=z0V br _ false _ AJ (by simp only[q8,CD.z06] at hl ⊢;omega);rw[zeE _ h2.1 h2.2] at Ag;have Ag:=hid Ag;have Ad:=hid AB;have AL:=hid AK;have H4:=hid h4;have AM:w.heap.size<(w.alloc (.cells #[.slice none 0 0,.int .i64 0,.int .i64 0] 25)).heap.size:=by simp
 clear h AB AJ AK h4;go_enter func72,ntmps72;go_wp2_with fail;generalize w.alloc (.cells #[.slice none 0 0,.int .i64 0,.int .i64 0] 25)=w1 at*;refine Ag.out.mono ?_;rintro e w2 ⟨rfl,AO,AP⟩;have Ah:=z0V br _ false w2 AO (by simp only[q8,CD.z06] at hl ⊢;omega);rw[zeE _ h3.1 h3.2] at Ah;have Ah:=hid Ah;have A6:=hid AP;clear AO AP Ag;go_wp2_with fail;refine Ah.out.mono ?_;rintro e w3 ⟨rfl,AQ,A7⟩;have Ar:Below w3.heap.size w3 (w3.alloc (.cells #[.slice none 0 0,.int .i64 fr,.int .i64 tt] 25)):=(Below.refl _ w3).alloc (qq _) _;have AR:=qu w3 (.cells #[.slice none 0 0,.int .i64 fr,.int .i64 tt] 25);have AU:=AQ.below Ar;have Ai:=z2w br _ false 8 _ AU (by simp only[q8,CD.z06] at hl ⊢;omega) (by omega);rw[znS M.length 8 hM (by omega)] at Ai;have Ai:=hid Ai;have Ax:But br w (w3.alloc (.cells #[.slice none 0 0,.int .i64 fr,.int .i64 tt] 25)):=⟨A7.os.trans (A6.out.os.trans Ad.out.os),A7.tape.trans (A6.out.tape.trans Ad.out.tape),A7.output.trans (A6.out.output.trans Ad.out.output),by have a1:=Ad.out.size;have a2:=A6.out.size;have a3:=A7.size;simp;omega,λj hj A5=>by
  have a1:=Ad.out.size;have a2:=A6.out.size;have a3:=A7.size;rw[Ar.block j (by omega),A7.block j (by omega) (λe=>A5 (qt e)),A6.out.block j (by omega) (λe=>A5 (qt e))];exact Ad.out.block j hj⟩
 have A3:(w3.alloc (.cells #[.slice none 0 0,.int .i64 fr,.int .i64 tt] 25)).heap[w.heap.size]? =some (.cells #[.slice none 0 0,.int .i64 0,.int .i64 0] 25):=by
  have a2:=A6.out.size;have a3:=A7.size;rw[Ar.block _ (by omega),A7.block _ (by omega) (λe=>by have:=qt e;omega),A6.out.block _ (by omega) (λe=>by have:=qt e;omega)];exact AL.out
 have Br:w.heap.size<w3.heap.size:=by have a2:=A6.out.size;have a3:=A7.size;omega
 have AC:=hid AR;have Ae:=hid Ax;have A8:=hid A3;clear AQ A7 Ar AR AU Ax A3 Ah A6 Ad AL AM;go_wp2_with fail;generalize w3.alloc (.cells #[.slice none 0 0,.int .i64 fr,.int .i64 tt] 25)=w4 at*;refine Ai.out.mono ?_;rintro e w5 ⟨rfl,AV,A9⟩;have AD:=hid AV;have AW:=(A9.block _ (z00 AC.out) (λe=>by have:=qt e;omega)).trans AC.out;have Ay:=(A9.block _ (z00 A8.out) (λe=>by have:=qt e;omega)).trans A8.out;have Az:=Ae.out.trans (⟨A9.os,A9.tape,A9.output,A9.size,λj hj A5=>A9.block j hj (λe=>A5 (qt e))⟩:But br w4 w5);have AE:=hid AW;have Aj:=hid Ay;have Ak:=hid Az;clear AV A9 AW Ay Az Ai AC A8 Ae;generalize Bb:w3.heap.size=bg at*;clear Bb;go_wp2_with fail;go_loopw [11] (λti W=>∃(k:Nat) (mv:Value),k<=M.length/\ti= .int .i64 k/\RdI W br ((M.drop k).flatMap SX.eM++T) false/\W.heap[bg]? =some (.cells #[mv,.int .i64 fr,.int .i64 tt] 25)/\z4P W w.heap.size mv (M.take k)/\W.heap[w.heap.size]? =some (.cells #[.slice none 0 0,.int .i64 0,.int .i64 0] 25)/\But br w W) (λti _=>M.length-(intOf ti).toNat)
 case atStart=>exact⟨0,.slice none 0 0,qh _,rfl,by rw[um];exact AD.out,AE.out,⟨rfl,.inl ⟨rfl,rfl⟩⟩,Aj.out,Ak.out⟩
 case round=>
  obtain⟨k,mv,hk,rfl,O,U,A4,A3,Au⟩:=hrel;obtain⟨oa,oc,rfl⟩:=z02 A4;by_cases Al:k<M.length
  .obtain⟨x,hx⟩:∃x,x=LB.am M k:=⟨_,rfl⟩;have AX:(M.drop k).flatMap SX.eM++T=CD.wT x.nm.data.toList++(CD.wN x.op++(CD.wT x.vl.data.toList++((M.drop (k+1)).flatMap SX.eM++T))):=by
    rw[rm Al,rU];have e:M[k]=x:=by rw[hx];simp[LB.am,q7,qw Al]
    rw[e];unfold SX.eM;simp only[qm]
   have AY:M.take (k+1)=M.take k++[x]:=by
    rw[wJ,qw Al,hx];simp[LB.am,q7,qw Al]
   have Am:(M.take k).length=k:=by rw[List.length_take];omega
   have Av:=H4.out k Al;rw[<-hx] at Av;have Bt:x.nm.data.toList.length<=1000:=by have:=WL.size_data x.nm;omega
   have Bu:x.vl.data.toList.length<=1000:=by have:=WL.size_data x.vl;omega
   have Bo:((M.drop (k+1)).flatMap SX.eM++T).length<=500000000:=by
    refine qi ?_ hl;rw[q8,q8];have e:M.flatMap SX.eM=(M.take (k+1)).flatMap SX.eM++(M.drop (k+1)).flatMap SX.eM:=by rw[<-tQ,r7]
    rw[e,q8];omega
   rw[AX] at O;generalize AZ:(M.drop (k+1)).flatMap SX.eM++T=S3 at*;have Bc:=hid AZ;clear AZ;have Bv:(CD.wT x.vl.data.toList++S3).length<=600000000:=by unfold CD.wT;simp only[q8,CD.z06];omega
   have AM:(CD.wN x.op++(CD.wT x.vl.data.toList++S3)).length<=700000000:=by rw[q8,CD.z06];omega
   have Bw:(CD.wT x.nm.data.toList++(CD.wN x.op++(CD.wT x.vl.data.toList++S3))).length<=800000000:=by
    rw[q8];have:(CD.wT x.nm.data.toList).length<=1008:=by unfold CD.wT;rw[q8,CD.z06];omega
    omega
   generalize B0:CD.wT x.vl.data.toList++S3=S2 at*;generalize B3:CD.wN x.op++S2=S1 at*;generalize B5:CD.wT x.nm.data.toList++S1=S0 at*;generalize hA:M.take k=A at*;rw[Am] at U A4;have A5:bg≠br:=λe=>by
    unfold RdI at O;rw[e,O] at U;cases U
   have Be:Hid (tT S0 false=(x.nm.data.toList,S1,false)):=hid (by rw[<-B5];exact znG _ (by omega) _);have Bf:Hid (tN S1 false=(x.op,S2,false)):=hid (by rw[<-B3];exact zeE _ Av.2.2.1 Av.2.2.2 _);have Bg:Hid (tT S2 false=(x.vl.data.toList,S3,false)):=hid (by rw[<-B0];exact znG _ (by omega) _);have AF:Hid (CR wr w.heap.size br bg (.slice oa k oc) fr tt A x S0 S1 S2 S3 (λ_=>false) wr.drew):=hid ⟨O,XFr.below ((Below.refl _ wr).drew),λ_=>U,λ_=>by unfold z4P;rw[Am];unfold z4P at A4;rw[Am] at A4;exact A4,λe=>by cases e⟩;have Bh:=hid AY;have Bi:=hid Am;have Ae:=hid Au;have A8:=hid A3;have Bp:bg<wr.heap.size:=z00 U;have Bj:w.heap.size<wr.heap.size:=z00 A3;clear AX AY Am Av B0 B3 B5 O U A4 Au A3 hx AE Aj Ak AD;go_wp2_with fail;refine TL.zbu [13,14,15,16,17,18,19,20,21,22,23,24] (CR wr w.heap.size br bg (.slice oa k oc) fr tt A x S0 S1 S2 S3) (TR wr w.heap.size br bg (.slice oa k oc) A x) rfl (by kernel_rfl) (by kernel_rfl) 27 rfl (by kernel_rfl) AF.out (TL.z0i ?_ (TL.z0i ?_ (TL.z0i ?_ (TL.z0i ?_ (TL.z0i ?_ (TL.z0i ?_ (TL.z0i ?_ (TL.z0i ?_ (TL.z0i ?_ (TL.z0i ?_ (TL.z0i ?_ (TL.z0i ?_ (TL.z0i ?_ TL.zgR))))))))))))) ?_
   .intro L a W hL A1 J G hC q;exact TL.Does.field rfl (G.keeps 3 (by kernel_rfl)) (zcI W bg) ⟨hC.same (by omega) (by omega) (by omega) (by omega) (by omega),rfl,λj hj _ ht=>ht.same (by omega) (by omega)⟩
   .intro L a W hL A1 J G hC q;have V:L 12=false:=TL.z0v J 13 12 1 (by kernel_rfl) hL;exact TL.Does.load rfl (q 0 (by kernel_rfl)).2 (zng bg 0 oa k oc W (z01 _ _ _ _ (hC.box V) 0 _ rfl)) ⟨hC.same (by omega) (by omega) (by omega) (by omega) (by omega),rfl,λj hj _ ht=>ht.same (by omega) (by omega)⟩
   .intro L a W hL A1 J G hC q;exact TL.Does.move (u:= .pointer (some ⟨br,0,none⟩)) rfl (G.keeps 0 (by kernel_rfl)) ⟨hC.same (by omega) (by omega) (by omega) (by omega) (by omega),rfl,λj hj _ ht=>ht.same (by omega) (by omega)⟩
   .intro L a W hL A1 J G hC q;have V:L 12=false:=TL.z0v J 13 12 3 (by kernel_rfl) hL;have A2:L 10=false:=TL.z0v J 13 10 3 (by kernel_rfl) hL;have h9:L 9=false:=TL.z0v J 13 9 3 (by kernel_rfl) hL;have h7:L 7=false:=TL.z0v J 13 7 3 (by kernel_rfl) hL;have h5:L 5=false:=TL.z0v J 13 5 3 (by kernel_rfl) hL;have h3:L 3=false:=hL;have e2:a.eval (.tmp 15)= .pointer (some ⟨br,0,none⟩):=(q 2 (by kernel_rfl)).2;refine TL.Does.call (f:=129) (args:=#[a.eval (.tmp 15)]) (by kernel_rfl) ?_;rw[e2];have O:RdI W br S0 false:=by have:=hC.rd;unfold zeF at this;rw[h7,h5,h3] at this;exact this
    have Ac:=z4C br S0 false W O (by omega);rw[Be.out] at Ac;refine Ac.mono ?_;rintro e W' ⟨rfl,Ao,Ap⟩;refine⟨_,rfl,hC.call A5 V A2 (by simp[TL.upd,V]) (by unfold zeF;simp[TL.upd,h7,h5]) Ao Ap,?_,λj hj Y ht=>ht.zto (λe=>by subst e;rw[h9] at Y;cases Y) (λe=>by subst e;rw[A2] at Y;cases Y)⟩;show yP (sb x.nm.data.toList)= .string x.nm;rw[zdZ]
   .intro L a W hL A1 J G hC q;exact TL.Does.move (u:= .pointer (some ⟨br,0,none⟩)) rfl (G.keeps 0 (by kernel_rfl)) ⟨hC.same (by omega) (by omega) (by omega) (by omega) (by omega),rfl,λj hj _ ht=>ht.same (by omega) (by omega)⟩
   .intro L a W hL A1 J G hC q;have V:L 12=false:=TL.z0v J 13 12 5 (by kernel_rfl) hL;have A2:L 10=false:=TL.z0v J 13 10 5 (by kernel_rfl) hL;have h9:L 9=false:=TL.z0v J 13 9 5 (by kernel_rfl) hL;have h7:L 7=false:=TL.z0v J 13 7 5 (by kernel_rfl) hL;have h5:L 5=false:=hL;have h3:L 3=true:=(q 3 (by kernel_rfl)).1;have e2:a.eval (.tmp 17)= .pointer (some ⟨br,0,none⟩):=(q 4 (by kernel_rfl)).2;refine TL.Does.call (f:=69) (args:=#[a.eval (.tmp 17)]) (by kernel_rfl) ?_;rw[e2];have O:RdI W br S1 false:=by have:=hC.rd;unfold zeF at this;rw[h7,h5,h3] at this;exact this
    have Ac:=z0V br S1 false W O (by omega);rw[Bf.out] at Ac;refine Ac.mono ?_;rintro e W' ⟨rfl,Ao,Ap⟩;exact⟨_,rfl,hC.call A5 V A2 (by simp[TL.upd,V]) (by unfold zeF;simp[TL.upd,h7]) Ao Ap,rfl,λj hj Y ht=>ht.zto (λe=>by subst e;rw[h9] at Y;cases Y) (λe=>by subst e;rw[A2] at Y;cases Y)⟩
   .intro L a W hL A1 J G hC q;exact TL.Does.move (u:= .pointer (some ⟨br,0,none⟩)) rfl (G.keeps 0 (by kernel_rfl)) ⟨hC.same (by omega) (by omega) (by omega) (by omega) (by omega),rfl,λj hj _ ht=>ht.same (by omega) (by omega)⟩
   .intro L a W hL A1 J G hC q;have V:L 12=false:=TL.z0v J 13 12 7 (by kernel_rfl) hL;have A2:L 10=false:=TL.z0v J 13 10 7 (by kernel_rfl) hL;have h9:L 9=false:=TL.z0v J 13 9 7 (by kernel_rfl) hL;have h7:L 7=false:=hL;have h5:L 5=true:=(q 5 (by kernel_rfl)).1;have e2:a.eval (.tmp 19)= .pointer (some ⟨br,0,none⟩):=(q 6 (by kernel_rfl)).2;refine TL.Does.call (f:=129) (args:=#[a.eval (.tmp 19)]) (by kernel_rfl) ?_;rw[e2];have O:RdI W br S2 false:=by have:=hC.rd;unfold zeF at this;rw[h7,h5] at this;exact this
    have Ac:=z4C br S2 false W O (by omega);rw[Bg.out] at Ac;refine Ac.mono ?_;rintro e W' ⟨rfl,Ao,Ap⟩;refine⟨_,rfl,hC.call A5 V A2 (by simp[TL.upd,V]) (by unfold zeF;simp[TL.upd]) Ao Ap,?_,λj hj Y ht=>ht.zto (λe=>by subst e;rw[h9] at Y;cases Y) (λe=>by subst e;rw[A2] at Y;cases Y)⟩;show yP (sb x.vl.data.toList)= .string x.vl;rw[zdZ]
   .intro L a W hL A1 J G hC q;have e3:a.eval (.tmp 16)= .string x.nm:=(q 3 (by kernel_rfl)).2;have e5:a.eval (.tmp 18)= .int .i64 x.op:=(q 5 (by kernel_rfl)).2;have e7:a.eval (.tmp 20)= .string x.vl:=(q 7 (by kernel_rfl)).2;exact TL.Does.build rfl (ps:=#[(0,.string x.nm),(1,.int .i64 x.op),(2,.string x.vl)]) (by simp[e3,e5,e7]) (znv W x.nm x.vl x.op) ⟨hC.same (by omega) (by omega) (by omega) (by omega) (by omega),rfl,λj hj _ ht=>ht.same (by omega) (by omega)⟩
   .intro L a W hL A1 J G hC q;have A2:L 10=false:=TL.z0v J 13 10 9 (by kernel_rfl) hL;have V:L 12=false:=TL.z0v J 13 12 9 (by kernel_rfl) hL;have e8:a.eval (.tmp 21)= .agg #[.string x.nm,.int .i64 x.op,.string x.vl]:=(q 8 (by kernel_rfl)).2;have hb:Below W.heap.size W (W.alloc (.cells #[.string x.nm,.int .i64 x.op,.string x.vl] 62)):=(Below.refl _ W).alloc (qq _) _;refine TL.Does.zm6 rfl (ps:=#[(0,.agg #[.string x.nm,.int .i64 x.op,.string x.vl])]) (by simp[e8]) (znz W x.nm x.vl x.op) ⟨⟨by rw[z8E (by omega) (by omega) (by omega)];exact hC.rd.below hb,hC.frm.trans (XFr.below (X:=λj=>j=br\/j=bg\/(wH oa k oc).ownBlock=some j) hb) (λj hj=> .inl hj),λ_=>(hb.block bg (z00 (hC.box V))).trans (hC.box V),λ_=>z04 (hC.row A2) λg c hg=>hb.block g (z00 hg),λe=>by simp[TL.upd,V] at e⟩,λ_=>⟨W.heap.size,rfl,hC.frm.size,qu W _⟩,λj hj Y ht=>ht.zto (λe=>absurd e hj) (λe=>by subst e;rw[A2] at Y;cases Y)⟩
   .intro L a W hL A1 J G hC q;have V:L 12=false:=TL.z0v J 13 12 10 (by kernel_rfl) hL;have A2:L 10=false:=hL;have e1:a.eval (.tmp 14)= .slice oa k oc:=(q 1 (by kernel_rfl)).2;obtain⟨g,e9,By,hg⟩:=(q 9 (by kernel_rfl)).2 A2;have ho:=hC.row A2;have U:=hC.box V;obtain⟨v',W',B6,k1,k2,k3⟩:=zn8 W w.heap.size (.slice oa k oc) A x g ho hg (by have:=Bi.out;omega) (qi (Nat.le_of_lt Bj) hC.frm.size);refine TL.Does.append rfl e1 e9 B6 ⟨⟨by
      rw[z8E (by omega) (by omega) (by omega)];have O:=hC.rd;exact(k2.block br (z00 O) (λe=>z0e ho O (by decide) e.symm)).trans O,hC.frm.trans (XFr.grown (X:=λj=>j=br\/j=bg\/(wH oa k oc).ownBlock=some j) k2 (λj hj=> .inl (.inr (.inr hj)))) (λj hj=> .inl hj),λ_=>(k2.block bg (z00 U) (λe=>z0e ho U (by decide) e.symm)).trans U,λe=>by simp[TL.upd] at e,λe=>by simp[TL.upd,V] at e⟩,λ_=>⟨k1,k3.imp id λe=>⟨_,e,hC.frm.size⟩⟩,λj hj Y ht=>ht.zto (λe k e2=>by simp[TL.upd] at e2) (λe=>absurd e hj)⟩
   .intro L a W hL A1 J G hC q;exact TL.Does.field rfl (G.keeps 3 (by kernel_rfl)) (zcI W bg) ⟨hC.same (by omega) (by omega) (by omega) (by omega) (by omega),rfl,λj hj _ ht=>ht.same (by omega) (by omega)⟩
   .intro L a W hL A1 J G hC q;have V:L 12=false:=hL;have A2:L 10=true:=(q 10 (by kernel_rfl)).1;have hq:TR wr w.heap.size br bg (.slice oa k oc) A x L 10 W (a.eval (.tmp 23)):=(q 10 (by kernel_rfl)).2;obtain⟨k1,k2⟩:=hq V;have U:=hC.box V;obtain⟨va,vc,hv⟩:=z02 k1;rw[hv] at k1 k2;have O:=hC.rd;refine TL.Does.store rfl (q 11 (by kernel_rfl)).2 hv (znw bg 0 _ va _ vc W (z01 _ _ _ _ U 0 _ rfl) (hfz U 0)) ⟨⟨by
     rw[z8E (by omega) (by omega) (by omega)];exact(Below.heap_setCell W ⟨bg,0,none⟩ _ br (λe=>A5 e.symm)).trans O,hC.frm.trans (XFr.setCell (X:=λj=>j=br\/j=bg\/(wH oa k oc).ownBlock=some j) W ⟨bg,0,none⟩ _ (.inr (.inl rfl))) (λj hj=> .inl hj),λe=>by simp[TL.upd] at e,λe=>by simp[TL.upd,A2] at e,λ_=>⟨_,qo W bg 0 _ _ _ U,z0y k1 (λe=>z0e k1 U (by decide) e) _ _,k2⟩⟩,trivial,λj hj Y ht=>ht.zto (λe k e2=>by simp[TL.upd,A2] at e2) (λe k e2=>by simp[TL.upd] at e2)⟩
   .intro L f W hL hC hT;obtain⟨v',q1,q2,q3⟩:=hC.fin (hL 12 (by decide));have O:RdI W br S3 false:=by have:=hC.rd;unfold zeF at this;rw[hL 7 (by decide)] at this;exact this
    have Ba:=hC.frm;have AG:=hid O;have Af:=hid Ba;have HQ:=hid (qv q1 (qv q2 q3));clear hT hL hC O Ba q1 q2 q3;simp only[TL.zaQ];go_frame;generalize f 13=g13;generalize f 14=g14;generalize f 15=g15;generalize f 16=g16;generalize f 17=g17;generalize f 18=g18;generalize f 19=g19;generalize f 20=g20;generalize f 21=g21;generalize f 22=g22;generalize f 23=g23;generalize f 24=g24;go_wp2_with fail;go_roundw
    case rel=>
     have Aq:=A8.out;refine⟨k+1,v',by omega,by go_num,by rw[Bc.out];exact AG.out,HQ.out.1,by rw[Bh.out];exact HQ.out.2.1,?_,?_⟩
     .refine(Af.out.block _ (z00 Aq) ?_).trans Aq;rintro(e|e|e)
      .omega
      .omega
      .exact z0e (AF.out.row rfl) (show wr.drew.heap[w.heap.size]? =_ from Aq) (by decide) e
     .obtain⟨b1,b2,b3,b4,b5⟩:=Ae.out;refine⟨Af.out.os.trans b1,Af.out.tape.trans b2,Af.out.output.trans b3,qi b4 Af.out.size,λj hj hn=>(Af.out.block j (qe hj b4) ?_).trans (b5 j hj hn)⟩;rintro(e|e|e)
      .exact hn e
      .omega
      .have:=(ul (AF.out.row rfl) j e).1;omega
    case measure=>simp[intOf];omega
  .have he:k=M.length:=by omega
   subst he;rw[qD] at A4;rw[uy] at O;have Aw:=hid A4;have AG:=hid O;have Ae:=hid Au;have Bz:=hid U;have A8:=hid A3;have c0:wr.cell? ⟨bg,0,none⟩=some (.slice oa M.length oc):=by rw[qD] at U;exact z01 _ _ _ _ U 0 _ rfl
   have c1:wr.cell? ⟨bg,1,none⟩=some (.int .i64 fr):=z01 _ _ _ _ U 1 _ rfl;have c2:wr.cell? ⟨bg,2,none⟩=some (.int .i64 tt):=z01 _ _ _ _ U 2 _ rfl;have x0:wr.cell? ⟨w.heap.size,0,none⟩=some (.slice none 0 0):=z01 _ _ _ _ A3 0 _ rfl;have x1:wr.cell? ⟨w.heap.size,1,none⟩=some (.int .i64 0):=z01 _ _ _ _ A3 1 _ rfl;have x2:wr.cell? ⟨w.heap.size,2,none⟩=some (.int .i64 0):=z01 _ _ _ _ A3 2 _ rfl;have f0:=hfz A3 0;have f1:=hfz A3 1;have f2:=hfz A3 2;clear A4 O Au U A3 AE Aj Ak AD;go_wp2_with fail;refine rP (uu (P:=q6) rfl _ _ w.heap.size 25 _ (0,0) _ rfl (qo _ _ 2 _ _ _ (qo _ _ 1 _ _ _ (qo _ _ 0 _ _ _ A8.out))) underlying25 rfl (by kernel_rfl)) rfl ?_;have A5:∀v:Value,z4P wr w.heap.size v M->v.ownBlock≠some w.heap.size:=λv k e=>z0e k A8.out (by decide) e
   have Bl:z4P (((wr.setCell ⟨w.heap.size,0,none⟩ (.slice oa M.length oc)).setCell ⟨w.heap.size,1,none⟩ (.int .i64 fr)).setCell ⟨w.heap.size,2,none⟩ (.int .i64 tt)) w.heap.size (.slice oa M.length oc) M:=z0y (z0y (z0y Aw.out (A5 _ Aw.out) _ _) (A5 _ Aw.out) _ _) (A5 _ Aw.out) _ _;obtain⟨ao,cap,e,Bm,AH⟩:=z4P.row Bl;cases e;have AA:∀j,j≠w.heap.size->(((wr.setCell ⟨w.heap.size,0,none⟩ (.slice oa M.length oc)).setCell ⟨w.heap.size,1,none⟩ (.int .i64 fr)).setCell ⟨w.heap.size,2,none⟩ (.int .i64 tt)).heap[j]? =wr.heap[j]? :=λj hj=>by
    rw[Below.heap_setCell _ ⟨w.heap.size,2,none⟩ _ j hj,Below.heap_setCell _ ⟨w.heap.size,1,none⟩ _ j hj,Below.heap_setCell _ ⟨w.heap.size,0,none⟩ _ j hj]
   obtain⟨b1,b2,b3,b4,b5⟩:=Ae.out;refine⟨oa,oc,rfl,Bm,(AA br (by omega)).trans AG.out,⟨b1,b2,b3,by simp only[z0g];exact b4,λj hj hn=>(AA j (by omega)).trans (b5 j hj hn)⟩,AH⟩
end
section
open Go.RowKit
theorem z3z {W:World}{q b o:Nat}{v u:Value}{l:List Sr}{c:Array Value}(h:z0a W q v l)(hb:W.heap[b]? =some (.cells c 123)):z0a (W.setCell ⟨b,o,none⟩ u) q v l:=h.kept λg c e O G=>by
 have J:g≠b:=λU=>by
  subst U;rw[hb] at G;simp only[qR,rI] at G;rw[<-G.2.1] at O
  revert O
  decide
 exact Below.heap_setCell _ ⟨b,o,none⟩ _ _ J
theorem zah {W:World}{G b:Nat}{v x y z p q s:Value}{l:List Sr}(h:z0a W G v l)(hb:W.heap[b]? =some (.cells #[x,y,z] 123)):z0a (((W.setCell ⟨b,0,none⟩ p).setCell ⟨b,1,none⟩ q).setCell ⟨b,2,none⟩ s) G v l:=
 z3z (z3z (z3z h hb) (qo _ _ 0 _ _ _ hb)) (qo _ _ 1 _ _ _ (qo _ _ 0 _ _ _ hb))
structure PdB (w W:World) (bb:Nat) (x y z:Value) (S:List UInt8) (bad:Bool):Prop where
 res:W.heap[w.heap.size]? =some (.cells #[.int .i64 0,.int .i64 0,.slice none 0 0] 123)
 tk:RdI W (w.heap.size+1) S bad
 box:W.heap[bb]? =some (.cells #[x,y,z] 123)
 far:w.heap.size+1<bb
 bel:Below w.heap.size w W
theorem PdB.but {w W W':World}{G:Nat}{x y z:Value}{S S':List UInt8}{bad q:Bool}(h:PdB w W G x y z S bad)(hb:But (w.heap.size+1) W W')(O:RdI W' (w.heap.size+1) S' q):PdB w W' G x y z S' q:=
 ⟨(hb.2.2.2.2 _ (z00 h.res) (by omega)).trans h.res,O,(hb.2.2.2.2 _ (z00 h.box) (by have:=h.far;omega)).trans h.box,h.far,⟨hb.1.trans h.bel.os,hb.2.1.trans h.bel.tape,hb.2.2.1.trans h.bel.output,qi h.bel.size hb.2.2.2.1,λj J=>(hb.2.2.2.2 j (qe J h.bel.size) (by omega)).trans (h.bel.block j J)⟩⟩
theorem PdB.put {w W:World}{q:Nat}{x y z G J O:Value}{S:List UInt8}{bad:Bool}{o:Nat}{u:Value}(h:PdB w W q x y z S bad)(e:(#[x,y,z]:Array Value).setIfInBounds o u=#[G,J,O]):PdB w (W.setCell ⟨q,o,none⟩ u) q G J O S bad:=by
 have U:=h.far;have V:w.heap.size≠q:=by omega
 have Y:w.heap.size+1≠q:=by omega
 exact⟨(Below.heap_setCell _ ⟨q,o,none⟩ _ _ V).trans h.res,(Below.heap_setCell _ ⟨q,o,none⟩ _ _ Y).trans h.tk,by rw[<-e];exact qo _ _ o _ _ _ h.box,U,h.bel.setCell (p:=⟨q,o,none⟩) (by show w.heap.size<=q;omega) _⟩
theorem zlK {S r:List UInt8}{l:List (List CD.Lb×List CL.Smp)}(h:CD.z5K chD lbK S=some (l,r))(Y:S.length<=5000000):(l.map z5H).length<=5000000/\∀i,i<(l.map z5H).length->((z03 (l.map z5H) i).1.length<=1000/\(z03 (l.map z5H) i).2.length<=100000)/\∀s∈(z03 (l.map z5H) i).2,CL.Rs s:=by
 obtain⟨h1,q⟩:=zi6 h;refine⟨by rw[qz];omega,λi hi=>?_⟩;rw[qz] at hi;obtain⟨x,G,e⟩:=zjr l i hi;obtain⟨J,h4,O⟩:=q x G;have U:=zn3 O;rw[e];have V:LB.right (z3a x.1)=true:=J;have h8:=(of_decide_eq_true V).2.1;exact⟨⟨by show(z3a x.1).length<=1000;omega,by show x.2.length<=100000;omega⟩,U.2.2⟩
theorem zgV (s:List UInt8)(w:World)(hs:s.length<=5000000)(hW:z0X w)(hG:1<w.heap.size):
  Calls q6 126 #[.string (sb s)] w λe w'=>zlY w s e w':=by
 have Aw:Below w.heap.size w ((w.alloc (.cells #[.int .i64 0,.int .i64 0,.slice none 0 0] 123)).alloc (.cells #[.string (sb s),.bool false] 200)):=((Below.refl _ w).alloc (qq _) _).alloc (by simp) _;have Am:(w.alloc (.cells #[.int .i64 0,.int .i64 0,.slice none 0 0] 123)).heap.size=w.heap.size+1:=by simp
 have Ax:RdI ((w.alloc (.cells #[.int .i64 0,.int .i64 0,.slice none 0 0] 123)).alloc (.cells #[.string (sb s),.bool false] 200)) (w.heap.size+1) s false:=by
  have:=qu (w.alloc (.cells #[.int .i64 0,.int .i64 0,.slice none 0 0] 123)) (.cells #[.string (sb s),.bool false] 200);rw[Am] at this;exact this
 have Ay:((w.alloc (.cells #[.int .i64 0,.int .i64 0,.slice none 0 0] 123)).alloc (.cells #[.string (sb s),.bool false] 200)).heap[w.heap.size]? =some (.cells #[.int .i64 0,.int .i64 0,.slice none 0 0] 123):=(Below.heap_alloc _ _ _ (by omega)).trans (qu w _);have A8:=hid Aw;have A2:=hid Ax;have A9:=hid Ay;have HF:=hid (zat (sb s) (w.alloc (.cells #[.int .i64 0,.int .i64 0,.slice none 0 0] 123)));have AU:=hid hW;have Ao:=hid hG;clear Aw Ax Ay hW hG;go_enter func126,ntmps126;go_wp2_with fail;refine HF.out.mono ?_;rintro e w0 ⟨rfl,rfl⟩;rw[Am];clear HF Am;generalize (w.alloc (.cells #[.int .i64 0,.int .i64 0,.slice none 0 0] 123)).alloc (.cells #[.string (sb s),.bool false] 200)=w1 at A8 A2 A9 ⊢;have A3:Hid (PdB w (w1.alloc (.cells #[.int .i64 0,.int .i64 0,.slice none 0 0] 123)) w1.heap.size (.int .i64 0) (.int .i64 0) (.slice none 0 0) s false):=by
  have Ap:Below w1.heap.size w1 (w1.alloc (.cells #[.int .i64 0,.int .i64 0,.slice none 0 0] 123)):=(Below.refl _ w1).alloc (qq _) _;exact⟨(Ap.block _ (z00 A9.out)).trans A9.out,(Ap.block _ (z00 A2.out)).trans A2.out,qu w1 _,z00 A2.out,A8.out.trans (Ap.mono A8.out.size)⟩
 clear A8 A2 A9;go_wp2_with fail;generalize w1.alloc (.cells #[.int .i64 0,.int .i64 0,.slice none 0 0] 123)=w2 at A3 ⊢;generalize w1.heap.size=bb at A3 ⊢;refine(z0V (w.heap.size+1) s false w2 A3.out.tk (by omega)).mono ?_;rintro e w3 ⟨rfl,Ac,Az⟩;obtain⟨n1,S1,b1,AA,AZ,B0,AX,AB⟩:=zg9 s false;rw[AA] at Ac ⊢;dsimp only at Ac ⊢;have Ad:=hid (A3.out.but (But.grown Az) Ac);have Ae:Hid ((b1=false/\CD.rN s=some (n1,S1))\/(b1=true/\CD.rN s=none)):=by
  rcases AB with⟨h1,_,h2⟩|⟨h1,h2⟩
  .exact .inl ⟨h1,h2⟩
  .rcases h2 with h2|h2
   .cases h2
   .exact .inr ⟨h1,h2⟩
 clear AA Ac Az A3 AB;have q0:w3.cell? ⟨bb,0,none⟩=some (.int .i64 0):=z0O _ _ _ _ Ad.out.box 0 _ rfl;have f0:w3.frozen? ⟨bb,0,none⟩=false:=by have:=Ad.out.box;simp[wz,this]
 have Af:Hid (PdB w (w3.setCell ⟨bb,0,none⟩ (.int .i64 n1)) bb (.int .i64 n1) (.int .i64 0) (.slice none 0 0) S1 b1):=Ad.out.put rfl;clear Ad;go_wp2_with fail;generalize w3.setCell ⟨bb,0,none⟩ (.int .i64 n1)=w3' at Af ⊢;clear q0 f0;refine(z0V (w.heap.size+1) S1 b1 w3' Af.out.tk (by omega)).mono ?_;rintro e w4 ⟨rfl,Ag,AC⟩;obtain⟨n2,S2,b2,AD,B3,B5,AY,AE⟩:=zg9 S1 b1;rw[AD] at Ag ⊢;dsimp only at Ag ⊢;have Ah:=hid (Af.out.but (But.grown AC) Ag);have Ai:=hid AE;clear AD Ag AC Af AE;have q1:w4.cell? ⟨bb,1,none⟩=some (.int .i64 0):=z0O _ _ _ _ Ah.out.box 1 _ rfl;have f1:w4.frozen? ⟨bb,1,none⟩=false:=by have:=Ah.out.box;simp[wz,this]
 have O:Hid (PdB w (w4.setCell ⟨bb,1,none⟩ (.int .i64 n2)) bb (.int .i64 n1) (.int .i64 n2) (.slice none 0 0) S2 b2):=Ah.out.put rfl;clear Ah;go_wp2_with fail;generalize w4.setCell ⟨bb,1,none⟩ (.int .i64 n2)=w5 at O ⊢;clear q1 f1;have AF:=hid (show z0X w5 from λi hi=>(O.out.bel.cell (p:=⟨1,i,none⟩) Ao.out).trans (AU.out i hi));have AG:=hid (qe Ao.out O.out.bel.size);have Ak:Hid (Calls q6 71 #[.pointer (some ⟨w.heap.size+1,0,none⟩)] w5 λe w6=>∃Y ln cap,e= .returned (.slice Y ln cap)/\∃S3 b3,RdI w6 (w.heap.size+1) S3 b3/\But (w.heap.size+1) w5 w6/\((b3=false/\b2=false/\∃l,CD.z5K chD lbK S2=some (l,S3)/\z0a w6 w5.heap.size (.slice Y ln cap) (l.map z5H))\/(b3=true/\(b2=true\/CD.z5K chD lbK S2=none)))):=by
  rcases b2 with _|_
  .refine(zde (w.heap.size+1) S2 w5 O.out.tk (by omega) AF.out AG.out (by have:=Ao.out;omega)).mono ?_;rintro e w6 ⟨G,⟨l,r,v,h1,rfl,h3,h4,_⟩|⟨h1,rfl,S',h3,_⟩⟩
   .obtain⟨Y,cap,ev⟩:=z02 h4.choose_spec.2.1;exact⟨Y,(l.map z5H).length,cap,by rw[ev],r,false,h3,G,.inl ⟨rfl,rfl,l,h1,by rw[<-ev];exact h4⟩⟩
   .exact⟨none,0,0,rfl,S',true,h3,G,.inr ⟨rfl,.inr h1⟩⟩
  .refine(zjn (w.heap.size+1) S2 w5 O.out.tk (by omega)).mono ?_;rintro e w6 ⟨rfl,h3,G⟩;exact⟨none,0,0,rfl,S2,true,h3,G,.inr ⟨rfl,.inl rfl⟩⟩
 refine Ak.out.mono ?_;rintro e w6 ⟨Y,ln,cap,rfl,S3,b3,AH,G,AJ⟩;have A4:=hid (O.out.but G AH);have AV:=O.out.bel.size;have AK:=hid AJ;clear AH G Ak O AJ AF AG;have q2:w6.cell? ⟨bb,2,none⟩=some (.slice none 0 0):=z0O _ _ _ _ A4.out.box 2 _ rfl;have f2:w6.frozen? ⟨bb,2,none⟩=false:=by have:=A4.out.box;simp[wz,this]
 have q:Hid (PdB w (w6.setCell ⟨bb,2,none⟩ (.slice Y ln cap)) bb (.int .i64 n1) (.int .i64 n2) (.slice Y ln cap) S3 b3):=A4.out.put rfl;have A5:Hid ((b3=false/\b2=false/\∃l,CD.z5K chD lbK S2=some (l,S3)/\z0a (w6.setCell ⟨bb,2,none⟩ (.slice Y ln cap)) w.heap.size (.slice Y ln cap) (l.map z5H))\/(b3=true/\(b2=true\/CD.z5K chD lbK S2=none))):=by
  rcases AK.out with⟨h1,h2,l,h3,h4⟩|h
  .exact .inl ⟨h1,h2,l,h3,z3z (h4.low AV) A4.out.box⟩
  .exact .inr h
 clear A4 AK;go_wp2_with fail;generalize w6.setCell ⟨bb,2,none⟩ (.slice Y ln cap)=w7 at q A5 ⊢;clear q2 f2;refine(z6b (w.heap.size+1) S3 b3 w7 q.out.tk).mono ?_;rintro e J ⟨rfl,rfl⟩;have m0:J.cell? ⟨bb,0,none⟩=some (.int .i64 n1):=z0O _ _ _ _ q.out.box 0 _ rfl;have m1:J.cell? ⟨bb,1,none⟩=some (.int .i64 n2):=z0O _ _ _ _ q.out.box 1 _ rfl;have m2:J.cell? ⟨bb,2,none⟩=some (.slice Y ln cap):=z0O _ _ _ _ q.out.box 2 _ rfl;have r0:J.cell? ⟨w.heap.size,0,none⟩=some (.int .i64 0):=z0O _ _ _ _ q.out.res 0 _ rfl;have r1:J.cell? ⟨w.heap.size,1,none⟩=some (.int .i64 0):=z0O _ _ _ _ q.out.res 1 _ rfl;have r2:J.cell? ⟨w.heap.size,2,none⟩=some (.slice none 0 0):=z0O _ _ _ _ q.out.res 2 _ rfl;have g0:J.frozen? ⟨w.heap.size,0,none⟩=false:=by have:=q.out.res;simp[wz,this]
 have g1:J.frozen? ⟨w.heap.size,1,none⟩=false:=by have:=q.out.res;simp[wz,this]
 have g2:J.frozen? ⟨w.heap.size,2,none⟩=false:=by have:=q.out.res;simp[wz,this]
 rcases b3 with _|_
 .obtain⟨_,AL,l,Aq,A6⟩|⟨h,_⟩:=A5.out
  .have Ar:=hid (zaT Ae.out Ai.out AL Aq);obtain⟨AM,Au⟩:=zlK Aq (by omega);obtain⟨vo,vc,ev,AO⟩:=z0r.z08 A6;simp only[eC] at ev;obtain⟨e1,e2,e3⟩:=ev;subst e1 e2 e3;have AP:=hid A6;have Av:=hid (z7S Y (l.map z5H) cap n1 n2 J AO AM (λi hi=>(Au i hi).1) (λi hi=>(Au i hi).2));clear AO A6 Aq Au A5 Ae Ai AL AM;generalize AQ:l.map z5H=LL at*;have AW:=hid AQ;clear AQ;rcases S3 with _|⟨x,S3⟩
   .have e0:(!false&&decide (([]:List UInt8)=[]))=true:=by simp
    rw[e0];go_wp2_with fail;refine Av.out.mono ?_;rintro e w8 ⟨rfl,A7⟩;have A1:=hid (q.out.bel.trans (A7.mono q.out.bel.size));have U:=(A7.block _ (z00 q.out.res)).trans q.out.res;have Aj:=(A7.block _ (z00 q.out.box)).trans q.out.box;have V:=hid U;have k0:w8.cell? ⟨bb,0,none⟩=some (.int .i64 n1):=z0O _ _ _ _ Aj 0 _ rfl;have k1:w8.cell? ⟨bb,1,none⟩=some (.int .i64 n2):=z0O _ _ _ _ Aj 1 _ rfl;have k2:w8.cell? ⟨bb,2,none⟩=some (.slice Y LL.length cap):=z0O _ _ _ _ Aj 2 _ rfl;have t0:w8.cell? ⟨w.heap.size,0,none⟩=some (.int .i64 0):=z0O _ _ _ _ U 0 _ rfl;have t1:w8.cell? ⟨w.heap.size,1,none⟩=some (.int .i64 0):=z0O _ _ _ _ U 1 _ rfl;have t2:w8.cell? ⟨w.heap.size,2,none⟩=some (.slice none 0 0):=z0O _ _ _ _ U 2 _ rfl;have y0:w8.frozen? ⟨w.heap.size,0,none⟩=false:=by simp[wz,U]
    have y1:w8.frozen? ⟨w.heap.size,1,none⟩=false:=by simp[wz,U]
    have y2:w8.frozen? ⟨w.heap.size,2,none⟩=false:=by simp[wz,U]
    have AR:=hid (AP.out.below A7);clear A7 U Aj Av q m0 m1 m2 r0 r1 r2 g0 g1 g2 e0;rcases hrt:BK.right n1 n2 LL with _|_
    .have HN:=hid (show zhS s=none by rw[Ar.out,if_neg (by simp[hrt])]);clear hrt;go_wp2_with fail;refine rP (z11 (P:=q6) rfl _ _ w.heap.size 123 _ (0,0) _ rfl (z4E V.out) underlying123 rfl (by kernel_rfl)) rfl ?_;exact⟨z4z A1.out,.inr ⟨HN.out,rfl⟩⟩
    .have HY:=hid (show zhS s=some (n1,n2,l) by rw[Ar.out,if_pos (by simp[hrt])]);clear hrt;go_wp2_with fail;refine rP (z11 (P:=q6) rfl _ _ w.heap.size 123 _ (0,0) _ rfl (z4E V.out) underlying123 rfl (by kernel_rfl)) rfl ?_;exact⟨z4z A1.out,.inl ⟨n1,n2,l,_,HY.out,rfl,by rw[AW.out];exact zah AR.out V.out⟩⟩
   .have e0:(!false&&decide (x::S3=[]))=false:=by simp
    rw[e0];have HN:=hid (show zhS s=none by rw[Ar.out,if_neg (by simp)]);have V:=hid q.out.res;have A1:=hid q.out.bel;clear q Av e0;go_wp2_with fail;refine rP (z11 (P:=q6) rfl _ _ w.heap.size 123 _ (0,0) _ rfl (z4E V.out) underlying123 rfl (by kernel_rfl)) rfl ?_;exact⟨z4z A1.out,.inr ⟨HN.out,rfl⟩⟩
  .cases h
 .obtain⟨h,_⟩|⟨_,Al⟩:=A5.out
  .cases h
  .have HN:=hid (zfs Ae.out Ai.out Al);have V:=hid q.out.res;have A1:=hid q.out.bel;simp only[Bool.not_true,Bool.false_and];clear q A5 Al Ae Ai;go_wp2_with fail;refine rP (z11 (P:=q6) rfl _ _ w.heap.size 123 _ (0,0) _ rfl (z4E V.out) underlying123 rfl (by kernel_rfl)) rfl ?_;exact⟨z4z A1.out,.inr ⟨HN.out,rfl⟩⟩
end
section
open Go.RowKit
section
variable {P : Program} {ops : Array Oper} {C : World → Prop} {Q : Exit → Act → World → Prop}
def PhQ (P:Program)(ops:Array Oper)(C:World->Prop)(Q:Exit->Act->World->Prop):List (List Oper×List Oper)->Exit->Act->World->Prop
 | [],.normal,a,w=>C w/\Q .normal a w
 | p::ps,.normal,a,w=>zr0 P C p.1 (λa=>z0F P ops C (PhQ P ops C Q ps) p.2 .normal a w) a
 | _,e,a,w=>Q e a w
theorem PhQ.outs {ps:List (List Oper×List Oper)}(h:LetsOut (PhQ P ops C Q ps)):LetsOut Q:=by
 obtain⟨a,w,h⟩:=h;cases ps<;>exact⟨a,w,h⟩
theorem PhQ.zbc {o:Oper}{ps:List (List Oper×List Oper)}{a:Act}{w:World}{K:Act->World->Prop}(h:o.wp P a w K (PhQ P ops C Q ps)):o.wp P a w K Q:=by
 unfold Oper.wp at*;generalize (execOp a.eval o).run P w=r at*;cases r with
 | ok n w'=>
  cases n<;>simp only[oS] at h ⊢ <;>
   first
    | exact h
    | exact Calls.mono h (λe G q=>by
      cases e with
      | returned u=>exact q
      | panicked c=>cases ps<;>exact q
      | outgrown=>exact PhQ.outs q)
 | halt x w'=>
  cases x<;>simp only[oS] at h ⊢ <;>
   first
    | exact h
    | (cases ps<;>exact h)
def zhW (ops:Array Oper)(k:Array Bool->Bool):List Nat->Array Bool->Bool
 | [],l=>k l
 | i::is,l=>Region.free .any ops l i&&(wm .any ops l).contains i&&zhW ops k is (l.setIfInBounds i true)
def zfS (ops:Array Oper)(k:Array Bool->Bool):List Nat->Array Bool->Bool
 | [],l=>k l
 | j::js,l=>decide (wm .any ops l=[j])&&zfS ops k js (l.setIfInBounds j true)
def phB (ops:Array Oper):List (List Nat×List Nat)->Array Bool->Bool
 | [],l=>decide (wm .any ops l=[])
 | p::ps,l=>zhW ops (zfS ops (phB ops ps) p.2) p.1 l
def phN:List (List Nat×List Nat)->Nat
 | []=>0
 | p::ps=>p.1.length+(p.2.length+phN ps)
def zl3 (ops:Array Oper):List (List Nat×List Nat)->List (List Oper×List Oper)->Prop
 | [],[]=>True
 | p::ps,o::os=>z2Z ops p.1 o.1/\z2Z ops p.2 o.2/\zl3 ops ps os
 | _,_=>False
theorem zmh {o:Oper}{os:List Oper}{G:List (List Oper×List Oper)}{i fuel:Nat}{listed:Array Bool}{a:Act}{w:World}(hi:ops[i]? =some o)(Y:o.guard=none)(J:wm .any ops listed=[i])(hC:C w)
  (hk:∀a w,z0F P ops C (PhQ P ops C Q G) os .normal a w->z3Y P .any ops C Q fuel (listed.setIfInBounds i true) a w) (h:wpList P ops (z0F P ops C (PhQ P ops C Q G) os) [o] a w):z3Y P .any ops C Q (fuel+1) listed a w:=by
 refine⟨hC,λO=>(by rw[J] at O;cases O),λj U=>?_⟩;rw[J] at U;have q:j=i:=by simpa using U
 subst q;have V:wy o (yielded ops a.tmps)=true:=by unfold wy;rw[Y]
 unfold wpOp;simp only[hi,V,if_true];simp only[wpList,V,if_true] at h;exact h.imp (λh=>PhQ.zbc (z0F.zbc (os:=os) (Oper.wp_mono hk h))) (λh=>⟨h.1,PhQ.outs (z0F.outs h.2)⟩)
theorem zfn {q:List (List Oper×List Oper)}{n:Nat}{k:Array Bool->Bool}(G:∀(l:Array Bool) (a:Act) (w:World),C w->k l=true->PhQ P ops C Q q .normal a w->z3Y P .any ops C Q n l a w):∀{js:List Nat} {os:List Oper} {l:Array Bool} {a:Act} {w:World},z2Z ops js os->zfS ops k js l=true->z0F P ops C (PhQ P ops C Q q) os .normal a w->z3Y P .any ops C Q (js.length+n) l a w
 | [],[],l,a,w,_,hB,h=>by
  rw[qO,qT];exact G l a w h.1 hB h.2
 | j::js,o::os,l,a,w,ho,hB,h=>by
  obtain⟨J,O,U⟩:=ho.cons;simp only[zfS,qI,decide_eq_true_eq] at hB;have e:(j::js).length+n=js.length+n+1:=by simp;omega
  rw[e];exact zmh J O hB.1 h.1 (λa w h=>zfn G U hB.2 h) h.2
 | [],o::os,l,a,w,ho,_,_=>by have:=ho.1;simp at this
 | j::js,[],l,a,w,ho,_,_=>by have:=ho.1;simp at this
theorem zg2 (q:eh ops=true)(G:∀c a w,¬Q (.panic c) a w){n:Nat}{k:Array Bool->Bool}{K:Act->Prop}{w:World}(J:∀(l:Array Bool) (a:Act),k l=true->K a->z3Y P .any ops C Q n l a w):∀{is:List Nat} {os:List Oper} {l:Array Bool} {a:Act},z2Z ops is os->zhW ops k is l=true->zr0 P C os K a->z3Y P .any ops C Q (is.length+n) l a w
 | [],[],l,a,_,hB,h=>by
  rw[qO,qT];exact J l a hB h
 | i::is,o::os,l,a,ho,hB,h=>by
  obtain⟨O,U,V⟩:=ho.cons;simp only[zhW,qI] at hB;obtain⟨v,Y,hk⟩:=h;have e:(i::is).length+n=is.length+n+1:=by simp;omega
  rw[e];exact z3Y.take O U q hB.1.1 hB.1.2 G Y (zg2 q G J V hB.2 hk)
 | [],o::os,l,a,ho,_,_=>by have:=ho.1;simp at this
 | i::is,[],l,a,ho,_,_=>by have:=ho.1;simp at this
theorem zjX (q:eh ops=true)(G:∀c a w,¬Q (.panic c) a w):∀{ps:List (List Nat×List Nat)} {os:List (List Oper×List Oper)} {l:Array Bool} {a:Act} {w:World},zl3 ops ps os->phB ops ps l=true->PhQ P ops C Q os .normal a w->z3Y P .any ops C Q (phN ps) l a w
 | [],[],l,a,w,_,hB,h=>⟨h.1,by simpa [phB] using hB,h.2⟩
 | p::ps,o::os,l,a,w,ho,hB,h=>by
  obtain⟨J,O,U⟩:=ho;exact zg2 q G (k:=zfS ops (phB ops ps) p.2) (λl a V Y=>zfn (k:=phB ops ps) (λl a w _ hb hq=>zjX q G U hb hq) O V Y) J hB h
 | [],_::_,_,_,_,ho,_,_=>ho.elim
 | _::_,[],_,_,_,ho,_,_=>ho.elim
def zlF (ops:Array Oper)(ps:List (List Nat×List Nat)):List (List Oper×List Oper):=ps.map λp=>(p.1.filterMap λi=>ops[i]?,p.2.filterMap λi=>ops[i]?)
def zbN (ops:Array Oper)(ps:List (List Nat×List Nat)):Bool:=ps.all λp=>z4J ops p.1&&z4J ops p.2
theorem zcd:∀{ps:List (List Nat×List Nat)},zbN ops ps=true->zl3 ops ps (zlF ops ps)
 | [],_=>trivial
 | p::ps,h=>by
  simp only[zbN,List.all_cons,qI] at h;exact⟨z2l h.1.1,z2l h.1.2,zcd h.2⟩
theorem za3 {G:Nat}{a:Act}{w:World}(C:World->Prop)(ps:List (List Nat×List Nat))(J:P.follows .mixedOrders=true)(q:(eh ops&&phB ops ps (Array.replicate ops.size false)&&decide (phN ps=ops.size)&&zbN ops ps)=true)
  (h:PhQ P ops C (zr5 Q) (zlF ops ps) .normal a w.drew):(Code.region G ops true).wp P Q a w:=by
 simp only[qI,decide_eq_true_eq] at q;obtain⟨⟨⟨O,U⟩,V⟩,Y⟩:=q;refine Code.wp_mono (Q:=zr5 Q) (λe a w h=>by obtain⟨rfl,h⟩:=h;exact h) (wp_region_any J ?_);have:=zjX (Q:=zr5 Q) O (λ_ _ _ h=>nomatch h.1) (zcd Y) U h;rw[V] at this;exact this.any
theorem PhQ.off {o:Oper}{os:List Oper}{q:List (List Oper×List Oper)}{a:Act}{w:World}(G:C w)(h:wpList P ops (z0F P ops C (PhQ P ops C Q q) os) [o] a w):zr0 P C [] (λa=>z0F P ops C (PhQ P ops C Q q) (o::os) .normal a w) a:=⟨G,h⟩
theorem PhQ.next {p:List Oper×List Oper}{q:List (List Oper×List Oper)}{a:Act}{w:World}(G:C w)(h:zr0 P C p.1 (λa=>z0F P ops C (PhQ P ops C Q q) p.2 .normal a w) a):z0F P ops C (PhQ P ops C Q (p::q)) [] .normal a w:=⟨G,h⟩
theorem PhQ.done {a:Act}{w:World}(q:C w)(h:Q .normal a w):z0F P ops C (PhQ P ops C (zr5 Q) []) [] .normal a w:=⟨q,q,rfl,h⟩
end
end
section
open Go.RowKit Go.Maps
theorem z0H.zfF {w w':World}{bs bw bd cnt hb bm mc q O:Nat}{Z Zh G:Nat->Prop}{D:DK.M}{p:Int}{dn up:Bool}{vg:Value}{x y:SX.St}{od U:Int->Int}(h:z0H w bs bw bd cnt Z D p dn up hb bm mc Zh vg x od)(hx:XFr (λj=>j=bs\/j=bm) w w')(V:w'.heap[bs]? =some (.cells (z3E bd bw up q bm vg y) 80))(hn:z1v w' q bm O G vg y U)(A2:¬G 1):z0H w' bs bw bd cnt Z D p dn up q bm O G vg y U:=by
 have A3:∀j,Z j->j≠bs:=λj J e=>h.wt.kind.out h.box (by unfold KD;decide) (e▸J)
 have A4:∀j,Z j->j≠bm:=λj J e=>h.zm (e▸J)
 have A5:w'.heap[1]? =w.heap[1]? :=hx.block _ h.gl (by
  have Y:=h.wid 0 (by omega);rintro(e|e)
  .rw[e] at Y;have h9:w.cell? ⟨bs,0,none⟩=some (.pointer (some ⟨bd,0,none⟩)):=z01 _ _ _ _ h.box 0 _ rfl;rw[h9] at Y;cases Y
  .obtain⟨f,hm,_⟩:=h.now.mp;obtain⟨es,ck,A6⟩:=hm.isMap;rw[e] at Y;simp[qs,A6] at Y)
 exact⟨h.wt.kept hx.size λj J=>hx.block j (h.wt.lt j J) (by
  rintro(e|e)
  .exact A3 j J e
  .exact A4 j J e),V,hn,h.zm,h.zg,A2,h.zgv,λi hi=>(qj (a:=⟨1,i,none⟩) A5).trans (h.wid i hi),qe h.gl hx.size⟩
theorem z1v.boxed {w w':World}{bs hb bm cnt:Nat}{Zh:Nat->Prop}{vg:Value}{x:SX.St}{od:Int->Int}{c:Array Value}(h:z1v w hb bm cnt Zh vg x od)(q:w.heap[bs]? =some (.cells c 80))(U:∀j,j<w.heap.size->j≠bs->w'.heap[j]? =w.heap[j]?):z1v w' hb bm cnt Zh vg x od:=
 h.kept (λg c2 e V J=>U g (z00 J) (λO=>by
  rw[O,q] at J;cases J;rcases V with e|e|e|e|e<;>revert e<;>decide)) (U bm h.mlt (λO=>by
  obtain⟨f,hm,_⟩:=h.mp;obtain⟨Y,ck,G⟩:=hm.isMap;rw[O,q] at G;cases G))
theorem za0 {tp old:Int}{S:List Sr}(h:BK.right tp old S=true): -9223372036854775808<=tp/\tp<=9223372036854775807:=by
 unfold BK.right at h;simp only[qI,decide_eq_true_eq] at h;omega
theorem z0H.rd {w w':World}{bs bw bd cnt hb bm mc O:Nat}{Z Zh:Nat->Prop}{D:DK.M}{p:Int}{dn up:Bool}{vg:Value}{x:SX.St}{od:Int->Int}{S:List UInt8}{bad:Bool}(h:z0H w bs bw bd cnt Z D p dn up hb bm mc Zh vg x od)(q:RdI w O S bad)(hs:w.heap.size<=w'.heap.size)(U:∀j,j<w.heap.size->j≠O->w'.heap[j]? =w.heap[j]?):z0H w' bs bw bd cnt Z D p dn up hb bm mc Zh vg x od:=by
 unfold RdI at q;have hk:∀(g:Nat) (c:Array Value) (e:TypeId),e≠200->w.heap[g]? =some (.cells c e)->w'.heap[g]? =w.heap[g]? :=λg c e V G=>U g (z00 G) (λe2=>by rw[e2,q] at G;cases G;exact V rfl)
 have Y:bm≠O:=λe=>by
  obtain⟨f,hm,_⟩:=h.now.mp;obtain⟨es,ck,J⟩:=hm.isMap;rw[e,q] at J;cases J
 have A1:w'.heap[1]? =w.heap[1]? :=U _ h.gl (λe=>by
  have h0:=h.wid 0 (by omega);rw[e] at h0;have h9:=z01 w O _ _ q 0 _ rfl;rw[h9] at h0;cases h0)
 exact⟨h.wt.kept hs λj hz=>U j (h.wt.lt j hz) (λe=>h.wt.kind.out q (by unfold KD;decide) (e▸hz)),(hk bs _ _ (by decide) h.box).trans h.box,h.now.kept (λg c e V G=>hk g c e (by rcases V with rfl | rfl | rfl | rfl | rfl<;>decide) G) (U bm h.now.mlt Y),h.zm,h.zg,h.zgh,h.zgv,λi hi=>(qj (a:=⟨1,i,none⟩) A1).trans (h.wid i hi),qe h.gl hs⟩
theorem zjo {E:DK.M}{B:List SX.Blk}(h:∀b∈B,SX.File E b)(J:B.Pairwise λb c=>b.n<c.n):∃od:Int->Int,∀b∈B,E (nm b.n.toNat)=some (SX.fl b.zto (od b.n) b.S)/\BK.right b.zto (od b.n) b.S=true/\z8p b.S/\ -1<=od b.n/\od b.n<100/\(sb (BK.bytes b.zto (od b.n) b.S)).size<=1000000:=by
 classical
 refine⟨λn=>if q:∃b,b∈B/\b.n=n then(h q.choose q.choose_spec.1).choose else 0,λb hb=>?_⟩;have q:∃c,c∈B/\c.n=b.n:=⟨b,hb,rfl⟩;simp only[dif_pos q];have e:q.choose=b:=z4U J q.choose_spec.1 hb q.choose_spec.2;have G:=(h q.choose q.choose_spec.1).choose_spec;generalize (h q.choose q.choose_spec.1).choose=o at*;rw[e] at G;exact G
theorem z1v.zlp {w w':World}{hb bm cnt G:Nat}{Zh:Nat->Prop}{vg:Value}{m nx:Int}{B:List SX.Blk}{b:SX.Blk}{od:Int->Int}{f:Int->Option Value}{v:Value}(h:z1v w hb bm cnt Zh vg ⟨⟨m,[],B,nx,0⟩,[]⟩ od)(hf:z1x q6 2 w bm cnt f)(J:z8D w Zh od f B)(hm:z1x q6 2 w' bm (cnt+1) (ze7 f b.n (zal b.zto (od b.n) v)))(hg:w.grownBy w' (some bm))(hs:z0a w G v b.S)(hz:∀j,Zh j->j<G)(ho: -1<=od b.n/\od b.n<100)(O:∀c∈B,c.n<b.n):z1v w' hb bm (cnt+1) Zh vg ⟨⟨m,[],B++[b],nx,0⟩,[]⟩ od:=by
 have k:∀(g:Nat) (c:Array Value) (e:TypeId),w.heap[g]? =some (.cells c e)->w'.heap[g]? =w.heap[g]? :=λg c e q=>hg.block g (z00 q) (λV=>by
  obtain⟨es,ck,Y⟩:=hf.isMap;cases V;rw[Y] at q;cases q)
 refine⟨h.hd.kept λg c e _ q=>k g c e q,⟨_,hm,λc hc=>?_,λn hn=>?_⟩,z04 h.gn λg c q=>k g c _ q⟩
 .rcases List.mem_append.1 hc with U|U
  .obtain⟨v',q1,q2,q3⟩:=J.1 c U;have A1:c.n≠b.n:=by have:=O c U;omega
   exact⟨v',(z1m _ _ _ _ A1).trans q1,q2.kept λg c e _ q=>k g c e q,q3⟩
  .have h2:c=b:=by simpa using U
   subst h2;exact⟨v,z4p _ _ _,(SrT.z08 hs hz).kept λg c e _ q=>k g c e q,ho⟩
 .by_cases e:n=b.n
  .exact⟨b,by simp,e.symm⟩
  .rw[z1m _ _ _ _ e] at hn;obtain⟨c,hc,V⟩:=J.2 n hn;exact⟨c,List.mem_append_left _ hc,V⟩
theorem zdO {w:World}{bs bw bd cnt hb bm mc:Nat}{Z Zh:Nat->Prop}{D:DK.M}{p:Int}{dn up:Bool}{vg:Value}{x:SX.St}{od O:Int->Int}(h:z0H w bs bw bd cnt Z D p dn up hb bm mc Zh vg x od)(hB:x.s.B=[])(hG:x.G=[])(V:Nat)(m nx:Int)(q:List SX.Blk)(hm: -9223372036854775808<=m/\m<=9223372036854775807)(CK:0<=nx/\nx<100)(Cl:q.length<=30)(hn:∀b∈q,0<=b.n/\b.n<100)(hp:q.Pairwise λb c=>b.n<c.n)
  (hF:∀b∈q,D (nm b.n.toNat)=some (SX.fl b.zto (O b.n) b.S)/\BK.right b.zto (O b.n) b.S=true/\z8p b.S/\ -1<=O b.n/\O b.n<100/\(sb (BK.bytes b.zto (O b.n) b.S)).size<=1000000) (CM:mc+30<=100000)
  (hr:RdI w V (CD.wN m++(CD.wN nx++(CD.wN (q.length:Int)++(q.map (·.n)).flatMap CD.wN))) false):
  Calls q6 70 #[.pointer (some ⟨bs,3,none⟩),.pointer (some ⟨V,0,none⟩),.pointer (some ⟨bd,0,none⟩)] w λe w'=>e= .returned .nilIface/\RdI w' V [] false/\∃hb' Zh',z0H w' bs bw bd cnt Z D p dn up hb' bm (mc+30) Zh' vg ⟨⟨m,[],q,nx,0⟩,[]⟩ O/\XFr (λj=>j=bs\/j=bm\/j=V) w w'/\∀j,Zh' j->w.heap.size<=j:=by
 obtain⟨ga,gc,Bp⟩:=z02 h.now.gn;generalize Cm:(x.G.map λd=>SX.txt (.gone d)).length=gn at Bp;subst Bp;have CF:V<w.heap.size:=z00 hr;have CG:bs<w.heap.size:=z00 h.box;have CH:=h.gl;have CI:bm<w.heap.size:=h.now.mlt;have Bq:bs≠bm:=λe=>by
  obtain⟨f0,Ba,_⟩:=h.now.mp;obtain⟨es,ck,Au⟩:=Ba.isMap;rw[<-e,h.box] at Au;cases Au
 have AE:V≠bs:=λe=>by
  unfold RdI at hr;rw[e,h.box] at hr;cases hr
 have Br:V≠bm:=λe=>by
  obtain⟨f0,Ba,_⟩:=h.now.mp;obtain⟨es,ck,Au⟩:=Ba.isMap;unfold RdI at hr;rw[e,Au] at hr;cases hr
 have A6:((q.map (·.n)).flatMap CD.wN).length<=1000:=by
  have:∀l:List Int,(l.flatMap CD.wN).length=l.length*8:=λl=>by
   induction l with
   | nil=>rfl
   | cons a l ih=>rw[rU,q8,ih,CD.z06,qf];omega
  rw[this,qz];omega
 have Ae:=z0V V _ false w hr (by simp only[q8,CD.z06];omega);rw[zeE _ hm.1 hm.2] at Ae;have Ae:=hid Ae;have HI:=hid h;have Bt:=hid hr;have Cn:=hid hF;have Co:=hid hn;have Cp:=hid hp;have Bu:=hid (qv hB hG);have Bb:=hid A6;clear h hF hn hp hB hG hr Cm A6;go_enter func70,ntmps70;go_wp2_with fail;refine Ae.out.mono ?_;rintro e w1 ⟨rfl,Bv,Bw⟩;have By:=hid (z6o m w1);have Bz:=hid Bv;have Af:=hid Bw;clear Bv Bw Ae;go_wp2_with fail;refine By.out.mono ?_;rintro e w2 ⟨rfl,Cq⟩;have BA:=HI.out.rd (S:=CD.wN m++(CD.wN nx++(CD.wN (q.length:Int)++(q.map (·.n)).flatMap CD.wN))) (bad:=false) Bt.out Af.out.size (λj J A1=>Af.out.block j J (λe=>A1 (qt e)));subst Cq;have U:Below w1.heap.size w1 (w1.alloc (.cells #[.int .i64 m,.slice none 0 0] 165)):=(Below.refl _ w1).alloc (qq _) _;have BB:=qu w1 (.cells #[.int .i64 m,.slice none 0 0] 165);have Av:=BA.below U;have BC:=Bz.out.below U;have m3:qs _ ⟨bs,3,none⟩=some (.pointer (some ⟨hb,0,none⟩)):=z01 _ _ _ _ Av.box 3 _ rfl;have f3:=hfz Av.box 3;have CN:=Af.out.size;have A8:=hid Av;have BD:=hid BC;have BF:=hid BB;have AF:XFr (λj=>j=bs\/j=bm\/j=V) w (w1.alloc (.cells #[.int .i64 m,.slice none 0 0] 165)):=(XFr.grown (X:=λj=>j=bs\/j=bm\/j=V) Af.out (λj J=> .inl (.inr (.inr (qt J).symm)))).trans (XFr.below (X:=λj=>j=bs\/j=bm\/j=V) U) (λj J=> .inl J);have AG:=hid AF;clear BA U BB Av BC AF By Bz Af HI Bt;go_wp2_with fail;generalize w1.alloc (.cells #[.int .i64 m,.slice none 0 0] 165)=w2 at*;obtain⟨Zt,Bc⟩:∃Zt:Nat->Prop,Zt=λj=>j=w1.heap.size\/∃k,k<([]:List Sr).length/\(atX [] k).2.ownBlock=some j:=⟨_,rfl⟩
 have BG:HdT w2 w1.heap.size Zt m []:=⟨.slice none 0 0,[],⟨BF.out,rfl,⟨rfl,.inl ⟨rfl,rfl⟩⟩,λi hi=>by simp at hi,λi hi=>by simp at hi,λi j hi=>by simp at hi⟩,λj=>by rw[Bc]⟩;have Be:∀j,Zt j->j=w1.heap.size:=λj J=>by
  rw[Bc] at J;rcases J with e|⟨k,hk,_⟩
  .exact e
  .simp at hk
 have BH:XFr (λj=>j=bs\/j=bm) w2 (w2.setCell ⟨bs,3,none⟩ (.pointer (some ⟨w1.heap.size,0,none⟩))):=XFr.setCell (X:=λj=>j=bs\/j=bm) w2 ⟨bs,3,none⟩ _ (.inl rfl);have BI:z1v w2 w1.heap.size bm mc Zt (.slice ga gn gc) ⟨⟨m,[],[],x.s.nx,0⟩,[]⟩ O:=by
  obtain⟨f,q1,q2,q3⟩:=A8.out.now.mp;rw[Bu.out.1] at q3;refine⟨BG,⟨f,q1,(λb hb=>by cases hb),(λn hn=>by obtain⟨b,hb,_⟩:=q3 n hn;cases hb)⟩,?_⟩;have h9:=A8.out.now.gn;rw[Bu.out.2] at h9;exact h9
 have BJ:=A8.out.zfF (y:=⟨⟨m,[],[],x.s.nx,0⟩,[]⟩) BH (qo w2 bs 3 _ _ _ A8.out.box) (BI.boxed A8.out.box λj J A1=>Below.heap_setCell w2 ⟨bs,3,none⟩ _ j A1) (λe=>by have:=Be _ e;omega);have Bf:RdI (w2.setCell ⟨bs,3,none⟩ (.pointer (some ⟨w1.heap.size,0,none⟩))) V (CD.wN nx++(CD.wN (q.length:Int)++(q.map (·.n)).flatMap CD.wN)) false:=(Below.heap_setCell w2 ⟨bs,3,none⟩ _ V AE).trans BD.out;have AH:=AG.out.trans (XFr.setCell (X:=λj=>j=bs\/j=bm\/j=V) w2 ⟨bs,3,none⟩ (.pointer (some ⟨w1.heap.size,0,none⟩)) (.inl rfl)) (λj J=> .inl J);have Ag:=z0V V _ false _ Bf (by have:=Bb.out;simp only[q8,CD.z06];omega);rw[zeE _ (by omega) (by omega)] at Ag;have Ag:=hid Ag;have BM:=hid BJ;have BN:=hid Bf;have AJ:=hid AH;have Cr:=hid Be;clear Bc BG Be BH BI BJ Bf AH AG BD A8 BF m3 f3;go_wp2_with fail;generalize Cs:w2.setCell ⟨bs,3,none⟩ (.pointer (some ⟨w1.heap.size,0,none⟩))=w3 at*;clear Cs;generalize CO:w1.heap.size=U at*;refine Ag.out.mono ?_;rintro e w4 ⟨rfl,BO,Aw⟩;have Ax:=BM.out.rd BN.out Aw.size (λj J A1=>Aw.block j J (λe=>A1 (qt e)));have m5:w4.cell? ⟨bs,5,none⟩=some (.int .i64 x.s.nx):=z01 _ _ _ _ Ax.box 5 _ rfl;have f5:=hfz Ax.box 5;have A2:=hid Ax;have BP:=hid BO;have AK:=hid (AJ.out.trans (XFr.grown (X:=λj=>j=bs\/j=bm\/j=V) Aw (λj J=> .inl (.inr (.inr (qt J).symm)))) (λj J=> .inl J));clear Ax BO Aw Ag BM BN AJ;go_wp2_with fail;have BQ:XFr (λj=>j=bs\/j=bm) w4 (w4.setCell ⟨bs,5,none⟩ (.int .i64 nx)):=XFr.setCell (X:=λj=>j=bs\/j=bm) w4 ⟨bs,5,none⟩ _ (.inl rfl);have BR:z1v w4 U bm mc Zt (.slice ga gn gc) ⟨⟨m,[],[],nx,0⟩,[]⟩ O:=⟨A2.out.now.hd,A2.out.now.mp,A2.out.now.gn⟩;have BS:=A2.out.zfF (y:=⟨⟨m,[],[],nx,0⟩,[]⟩) BQ (qo w4 bs 5 _ _ _ A2.out.box) (BR.boxed A2.out.box λj J A1=>Below.heap_setCell w4 ⟨bs,5,none⟩ _ j A1) A2.out.zgh;have Bg:RdI (w4.setCell ⟨bs,5,none⟩ (.int .i64 nx)) V (CD.wN (q.length:Int)++(q.map (·.n)).flatMap CD.wN) false:=(Below.heap_setCell w4 ⟨bs,5,none⟩ _ V AE).trans BP.out
 have AL:=AK.out.trans (XFr.setCell (X:=λj=>j=bs\/j=bm\/j=V) w4 ⟨bs,5,none⟩ (.int .i64 nx) (.inl rfl)) (λj J=> .inl J);have Ah:=z2w V _ false 30 _ Bg (by have:=Bb.out;simp only[q8,CD.z06];omega) (by omega);rw[znS q.length 30 Cl (by omega)] at Ah;have Ah:=hid Ah;have BU:=hid BS;have BV:=hid Bg;have AM:=hid AL;clear BQ BR BS Bg AL AK BP A2 m5 f5;go_wp2_with fail;generalize Ct:w4.setCell ⟨bs,5,none⟩ (.int .i64 nx)=w5 at*;clear Ct;refine Ah.out.mono ?_;rintro e w6 ⟨rfl,BW,Ay⟩;have BX:=hid (BU.out.rd BV.out Ay.size (λj J A1=>Ay.block j J (λe=>A1 (qt e))));have BZ:=hid BW;have AO:=hid (AM.out.trans (XFr.grown (X:=λj=>j=bs\/j=bm\/j=V) Ay (λj J=> .inl (.inr (.inr (qt J).symm)))) (λj J=> .inl J));clear BW Ay Ah BU BV AM;go_wp2_with fail;go_loopw [7,8,9,23] (λ_ _ _ ti W=>∃k:Nat,k<=q.length/\ti= .int .i64 k/\RdI W V (((q.drop k).map (·.n)).flatMap CD.wN) false/\z0H W bs bw bd cnt Z D p dn up U bm (mc+k) Zt (.slice ga gn gc) ⟨⟨m,[],q.take k,nx,0⟩,[]⟩ O/\XFr (λj=>j=bs\/j=bm\/j=V) w W) (λ_ _ _ ti _=>q.length-(intOf ti).toNat)
 case atStart=>exact⟨0,qh _,rfl,BZ.out,BX.out,AO.out⟩
 case round=>
  obtain⟨k,hk,rfl,A3,Ai,Az⟩:=hrel;by_cases A9:k<q.length
  .have hdr:q.drop k=q.getD k ⟨0,0,[]⟩::q.drop (k+1):=by
    rw[rm A9,q7,qw A9];rfl
   have C0:q.take (k+1)=q.take k++[q.getD k ⟨0,0,[]⟩]:=by
    rw[wJ,qw A9,q7,qw A9];rfl
   have Aj:q.getD k ⟨0,0,[]⟩∈q:=by rw[q7,qw A9];exact qK A9
   have AP:∀c∈q.take k,c.n<(q.getD k ⟨0,0,[]⟩).n:=λc hc=>by
    have h1:=Cp.out;rw[<-r7 k q,hdr] at h1;exact(List.pairwise_append.1 h1).2.2 c hc _ qd
   rw[hdr,wR,rU] at A3;have CP:(((q.drop (k+1)).map (·.n)).flatMap CD.wN).length<=1000:=by
    have e:(q.map (·.n)).flatMap CD.wN=((q.take (k+1)).map (·.n)).flatMap CD.wN++((q.drop (k+1)).map (·.n)).flatMap CD.wN:=by rw[<-tQ,<-List.map_append,r7]
    have h1:=Bb.out;rw[e,q8] at h1;omega
   generalize q.getD k ⟨0,0,[]⟩=b at*;generalize hR:((q.drop (k+1)).map (·.n)).flatMap CD.wN=R at*;obtain⟨f1,f2,f3,f4,f5,f6⟩:=Cn.out b Aj;have CQ:=Co.out b Aj;obtain⟨kn,C2⟩:∃kn:Nat,b.n=(kn:Int):=⟨b.n.toNat,by omega⟩;have Cu:b.n.toNat=kn:=by omega
   rw[Cu] at f1;have C3:kn<100:=by omega
   have Ak:=z0V V _ false wr A3 (by rw[q8,CD.z06];omega);rw[zeE _ (by omega) (by omega)] at Ak;have Ak:=hid Ak;have Cv:=za0 f2;have HSt:=hid Ai;have AA:=hid A3;have AB:=hid Az;have Cw:=hid C0;have Cx:=hid AP;have Cy:=hid hR;have C4:=hid f1;have Ac:=hid (qv f2 (qv f3 (qv f4 (qv f5 f6))));clear Ai A3 Az C0 AP hR f1 f2 f3 f4 f5 f6 hdr BZ BX AO Aj;go_wp2_with fail;refine Ak.out.mono ?_;rintro e w7 ⟨rfl,C5,AC⟩;rw[C2];have Al:=hid (HSt.out.rd AA.out AC.size (λj J A1=>AC.block j J (λe=>A1 (qt e))));have C6:=hid C5;have Cz:=hid (AB.out.trans (XFr.grown (X:=λj=>j=bs\/j=bm\/j=V) AC (λj J=> .inl (.inr (.inr (qt J).symm)))) (λj J=> .inl J));have C8:=hid (z6K kn C3 w7);have CS:=z6Z C3;have C9:=hid (zgt Al.out.wt (nm kn) (by unfold maxLen;omega));clear C5 AC Ak HSt AA AB;go_wp2_with fail;refine C8.out.mono ?_;rintro e w8 ⟨rfl,Bh⟩;have Bh:=Bh.symm;subst Bh;clear C8;go_wp2_with fail;refine C9.out.mono ?_;rintro e w9 ⟨Am,Bi⟩;have Bi:=Bi.symm;subst Bi;have he:e= .returned (.tuple #[.string (sb (BK.bytes b.zto (O b.n) b.S)),.nilIface]):=by
    rcases Am with⟨h0,_⟩|⟨f,h0,h1⟩
    .rw[C4.out] at h0;cases h0
    .rw[C4.out] at h0;cases h0;exact h1
   obtain⟨tx,AD⟩:∃tx,sb (BK.bytes b.zto (O b.n) b.S)=tx:=⟨_,rfl⟩;rw[AD] at he;subst he;clear Am C9;go_wp2_with fail;have Bj:Below w7.heap.size w7 w7.drew:=(Below.refl _ w7).drew;have Ao:=Al.out.below Bj;have AQ:(BK.bytes b.zto (O b.n) b.S).length<=5000000:=by
    have h6:=Ac.out.2.2.2.2;have h7:=z1b (BK.bytes b.zto (O b.n) b.S);omega
   have Bl:=zgV (BK.bytes b.zto (O b.n) b.S) w7.drew AQ Ao.wid Ao.gl;rw[AD] at Bl;have Ca:=hid Bl;clear Bl;have CU:=hid AD;clear AD;have Cb:=hid (zdD Ac.out.2.1 Ac.out.1 Cv (by have:=Ac.out.2.2;omega));have Cc:=hid Bj;clear Bj Ao AQ;refine za3 (λW=>W.heap[bs]? =some (.cells (z3E bd bw up U bm (.slice ga gn gc) ⟨⟨m,[],q.take k,nx,0⟩,[]⟩) 80)) [([0,1,2,3,4,5],[6]),([7,8,9],[10,11])] (by kernel_rfl) (by kernel_rfl) ?_;simp only[PhQ,zlF,wR,List.map_nil,qM,wh,qJ,qF,qA];refine zr0.on (v:= .pointer (some ⟨bs,3,none⟩)) (YC.move rfl (by kernel_rfl)) ?_;refine zr0.on (v:= .pointer (some ⟨bs,3,none⟩)) (λW _=> .inl (by kernel_rfl)) ?_;refine zr0.on (v:= .pointer (some ⟨bs,4,none⟩)) (YC.field rfl (by kernel_rfl) λW=>z1L 1 (by omega) W bs) ?_;refine zr0.on (v:= .map (some bm)) (YC.load rfl (by kernel_rfl) λW hW=>z4X bs 4 bm W (z01 _ _ _ _ hW 4 _ rfl)) ?_;refine zr0.on (v:= .int .i64 (kn:Int)) (YC.move rfl (by kernel_rfl)) ?_;refine zr0.on (v:= .string tx) (YC.move rfl (by kernel_rfl)) ?_;refine PhQ.off (C:=λW=>W.heap[bs]? =some (.cells (z3E bd bw up U bm (.slice ga gn gc) ⟨⟨m,[],q.take k,nx,0⟩,[]⟩) 80)) Al.out.box ?_;go_frame;go_wp2_with fail;refine Ca.out.mono ?_;rintro e Bm ⟨AR,AU⟩;have Cd:∃v,e= .returned (.tuple #[.agg #[.int .i64 b.zto,.int .i64 (O b.n),v],.nilIface])/\z0a Bm w7.drew.heap.size v b.S:=by
    rcases AU with⟨tp,old,l,v,q1,q2,q3⟩|⟨q1,_⟩
    .rw[Cb.out] at q1;cases q1;rw[z6S] at q3;exact⟨v,q2,q3⟩
    .rw[Cb.out] at q1;cases q1
   obtain⟨v,rfl,Bo⟩:=Cd;obtain⟨va,vc,hv⟩:=Bo.shape;subst hv;have A4:Below w7.heap.size w7 Bm:=z0u Cc.out AR;have AV:=Al.out.below A4;have Y:=hid AV;have CB:=hid Bo;have A5:=hid A4;obtain⟨mf,Ce,Cf⟩:=Y.out.now.mp;have AW:=hid Ce;have CC:=hid Cf;have Cg:∀j,Zt j->j<w7.drew.heap.size:=λj J=>qe ((Al.out.now.hd).lt j J) Cc.out.size
   have CE:=hid Cg;clear AU AR Bo A4 AV Ca Ce Cf Cg;go_wp2_with fail;refine PhQ.next (C:=λW=>W.heap[bs]? =some (.cells (z3E bd bw up U bm (.slice ga gn gc) ⟨⟨m,[],q.take k,nx,0⟩,[]⟩) 80)) Y.out.box ?_
   refine zr0.on (v:= .tuple #[.agg #[.int .i64 b.zto,.int .i64 (O (kn:Int)),.slice va b.S.length vc],.nilIface]) (λW _=> .inl (by kernel_rfl)) ?_;refine zr0.on (v:= .agg #[.int .i64 b.zto,.int .i64 (O (kn:Int)),.slice va b.S.length vc]) (λW _=> .inl (by kernel_rfl)) ?_;refine zr0.on (v:= .nilIface) (λW _=> .inl (by kernel_rfl)) ?_;refine PhQ.off (C:=λW=>W.heap[bs]? =some (.cells (z3E bd bw up U bm (.slice ga gn gc) ⟨⟨m,[],q.take k,nx,0⟩,[]⟩) 80)) Y.out.box ?_;go_frame;have CJ:(0:Int)<=(kn:Int)/\(kn:Int)<1000000:=by omega
   go_wp2_with (at_mapUpdate;refine z2i rfl _ _ _ 75 rfl 2 123 zaY zbR bm (mc+k) mf rfl AW.out (by unfold maxLen;omega) (kn:Int) (wfI (by omega) (by omega)) _ rfl rfl ?_;intro Ad AX AY;have Ch:=hid AX;have A7:=hid AY;clear AX AY)
   have Ap:XFr (λj=>j=bs\/j=bm) Bm Ad:=XFr.grown (X:=λj=>j=bs\/j=bm) A7.out (λj J=> .inl (.inr (qt J).symm));have Aq:Ad.heap[bs]? =some (.cells (z3E bd bw up U bm (.slice ga gn gc) ⟨⟨m,[],q.take k,nx,0⟩,[]⟩) 80):=(A7.out.block bs (z00 Y.out.box) (λe=>Bq (qt e))).trans Y.out.box;have Ar:=Ch.out;rw[<-C2] at Ar;have AZ:z1v Ad U bm (mc+(k+1)) Zt (.slice ga gn gc) ⟨⟨m,[],q.take (k+1),nx,0⟩,[]⟩ O:=by
    rw[Cw.out];exact Y.out.now.zlp AW.out CC.out Ar A7.out CB.out CE.out ⟨Ac.out.2.2.1,Ac.out.2.2.2.1⟩ Cx.out
   have B0:z0H Ad bs bw bd cnt Z D p dn up U bm (mc+(k+1)) Zt (.slice ga gn gc) ⟨⟨m,[],q.take (k+1),nx,0⟩,[]⟩ O:=Y.out.zfF Ap Aq AZ Y.out.zgh;have B3:RdI Ad V (((q.drop (k+1)).map (·.n)).flatMap CD.wN) false:=by
    rw[Cy.out];exact(A7.out.block V (z00 (C6.out.below A5.out)) (λe=>Br (qt e))).trans (C6.out.below A5.out)
   have B5:XFr (λj=>j=bs\/j=bm\/j=V) w Ad:=(Cz.out.trans (XFr.below (X:=λj=>j=bs\/j=bm\/j=V) A5.out) (λj J=> .inl J)).trans Ap (λj J=> .inl (J.elim .inl (λe=> .inr (.inl e))));have Ci:=hid B0;have Cj:=hid B3;have Ck:=hid B5;have B6:=hid Aq;clear Ap Aq Ar AZ B0 B3 B5;refine z0F.on (C:=λW=>W.heap[bs]? =some (.cells (z3E bd bw up U bm (.slice ga gn gc) ⟨⟨m,[],q.take k,nx,0⟩,[]⟩) 80)) B6.out ?_;go_wp2_with fail;refine PhQ.done (C:=λW=>W.heap[bs]? =some (.cells (z3E bd bw up U bm (.slice ga gn gc) ⟨⟨m,[],q.take k,nx,0⟩,[]⟩) 80)) B6.out ?_;go_wp2_with fail;go_roundw
   case rel=>exact⟨k+1,by omega,by go_num,Cj.out,Ci.out,Ck.out⟩
   case measure=>simp[intOf];omega
  .have he:k=q.length:=by omega
   subst he;rw[uy] at A3;rw[qD] at Ai;have HSt:=hid Ai;have AA:=hid A3;have AB:=hid Az;clear Ai A3 Az;go_wp2_with fail;go_ret;refine⟨rfl,AA.out,U,Zt,⟨HSt.out.wt,HSt.out.box,HSt.out.now.mono (by omega),HSt.out.zm,HSt.out.zg,HSt.out.zgh,HSt.out.zgv,HSt.out.wid,HSt.out.gl⟩,AB.out,λj J=>by have:=Cr.out j J;omega⟩
end
section
open Go.RowKit Go.Maps
theorem zhh {mark:Int}:∀{l S:List Sr} {i:Nat},(HD.run mark S l i).1=none->l.length<=HD.total l
 | [],_,_,_=>qh _
 | y::l,S,i,h=>by
  unfold HD.run at h;by_cases q:HD.err mark S y=0
  .rw[if_pos q] at h;obtain⟨_,_,G,_⟩:=HD.z3S q;have J:=zhh h;show l.length+1<=_;simp only[HD.total,wR,List.sum_cons] at*;omega
  .rw[if_neg q] at h;cases h
theorem zlL {mark:Int}{S l:List Sr}(h:(HD.app mark S l).1=(0, -1)):l.length<=40:=by
 unfold HD.app at h;split at h
 .cases h
 .rename_i q;cases hr:HD.run mark S l 0 with
  | mk a b=>
   rw[hr] at h;cases a with
   | none=>
    have:=zhh (i:=0) (l:=l) (S:=S) (mark:=mark) (by rw[hr]);omega
   | some p=>
    simp only at h;have:=congrArg Prod.snd h;simp only at this;omega
theorem zeH {mark:Int}{S l:List Sr}(h:(HD.app mark S l).1=(0, -1))(i:Nat)(hi:i<l.length):(z03 l i).2.length<=40:=by
 unfold HD.app at h;split at h
 .cases h
 .rename_i q;have G:=HD.z14 l i hi;have J:=HD.zdd l (i+1);omega
theorem zfc {w:World}{bs bw bd cnt hb bm mc:Nat}{Z Zh:Nat->Prop}{D:DK.M}{p:Int}{dn up:Bool}{vg:Value}{x y:SX.St}{od:Int->Int}(h:z0H w bs bw bd cnt Z D p dn up hb bm mc Zh vg x od)(n:SX.Nt)(Bc:SX.Step D x n y)(hH:HD.Good x.s.H)(hB:∀b∈x.s.B,HD.Good b.S)(AK:x.s.B.Pairwise λb c=>b.n<c.n)(Be:mc+30<=100000)(hG:x.G.length<=1000)(Bf:(SX.txt n).size<=70000):
  Calls q6 31 #[.pointer (some ⟨bs,3,none⟩),.string (SX.txt n),.pointer (some ⟨bd,0,none⟩)] w λe w'=>e= .returned .nilIface/\∃hb' Zh' Av AM,z0H w' bs bw bd cnt Z D p dn up hb' bm (mc+30) Zh' Av y AM/\z1X w (ZS Z Zh bs bm vg) w' (ZS Z Zh' bs bm Av):=by
 obtain⟨U,AF⟩:∃U,U=w.heap.size:=⟨_,rfl⟩;have hf:=zat (SX.txt n) w;rw[<-AF] at hf;have HF:=hid hf;clear hf;have HI:=hid h;have HS:=hid Bc;have HG:=hid (qv hH (qv hB (qv AK (qv Be (qv hG Bf)))));clear h Bc hH hB AK Be hG Bf;go_enter func31,ntmps31;go_wp2_with fail;refine HF.out.mono ?_;rintro e w1 ⟨rfl,rfl⟩;have Aw:Below w.heap.size w (w.alloc (.cells #[.string (SX.txt n),.bool false] 200)):=(Below.refl _ w).alloc (qq _) _;have Bg:=HI.out.below Aw;have q:=RdI.new (SX.txt n) w;have Bh:(SX.txt n).data.toList=SX.enc n:=z5f _;rw[Bh] at q;have Bi:(SX.enc n).length<=70000:=by
  have h1:=HG.out.2.2.2.2.2;have h2:=z1b (SX.enc n);rw[<-h2];exact h1
 generalize w.alloc (.cells #[.string (SX.txt n),.bool false] 200)=w1 at*;rw[<-AF] at q;have A8:=hid AF;clear AF;have Ax:=hid Aw;have AO:=hid Bg;have Am:=hid q;have Ao:=hid Bi;clear Aw Bg q Bh Bi HF;cases n with
 | st m nx ns=>
  obtain⟨hx,bl,Bj,BV,Bl,⟨Bm,hm,Bo⟩,AP,hy⟩:=HS.out;subst BV;subst hy;obtain⟨AM,Bp⟩:=zjo Bj AP;have A9:=Ao.out;have A3:SX.enc (.st m nx (bl.map (·.n)))=CD.wN 1++(CD.wN m++(CD.wN nx++(CD.wN ((bl.map (·.n)).length:Int)++(bl.map (·.n)).flatMap CD.wN))):=rfl;have q:RdI w1 U (CD.wN 1++(CD.wN m++(CD.wN nx++(CD.wN (bl.length:Int)++(bl.map (·.n)).flatMap CD.wN)))) false:=by
   have:=Am.out;rw[A3,qz] at this;exact this
  have Bq:(CD.wN m++(CD.wN nx++(CD.wN (bl.length:Int)++(bl.map (·.n)).flatMap CD.wN))).length<=70000:=by
   rw[A3,qz,q8] at A9;omega
  have J:=z0V U _ false w1 q (by rw[q8,CD.z06];omega);rw[zeE 1 (by omega) (by omega)] at J;have J:=hid J;have A7:=hid q;have HSt:=hid (qv hx (qv hm (qv Bo (qv Bl (qv Bm AP)))));have BW:=hid Bp;clear hx Bj Bl Bm hm Bo AP Bp A9 A3 q HS Ao Am;generalize hT:(CD.wN m++(CD.wN nx++(CD.wN (bl.length:Int)++(bl.map (·.n)).flatMap CD.wN)))=T at*;have HT:=hid hT;clear hT;have Br:=hid Bq;clear Bq;generalize SX.txt (.st m nx (bl.map (·.n)))=tx at*;go_wp2_with fail;refine J.out.mono ?_;rintro e w2 ⟨rfl,A4,V⟩;have Ac:=AO.out.rd A7.out V.size (λj O A5=>V.block j O (λe=>A5 (qt e)));have Ag:XFr (ZS Z Zh bs bm vg) w w2:=(XFr.below (X:=ZS Z Zh bs bm vg) Ax.out).trans (XFr.grown (X:=λj=>j=U) V (λj O=> .inl (qt O).symm)) (λj O=> .inr (by have:=A8.out;omega));have A2:RdI w2 U (CD.wN m++(CD.wN nx++(CD.wN (bl.length:Int)++(bl.map (·.n)).flatMap CD.wN))) false:=by rw[HT.out];exact A4
  have HC:=hid (zdO Ac (by rw[HSt.out.1];rfl) (by rw[HSt.out.1];rfl) U m nx bl HSt.out.2.1 HSt.out.2.2.1 HSt.out.2.2.2.1 HSt.out.2.2.2.2.1 HSt.out.2.2.2.2.2 BW.out HG.out.2.2.2.1 A2);have Ap:=hid Ag;have BX:U<w2.heap.size:=z00 A4;have BZ:=hid (show w.heap.size<=w2.heap.size by have:=A8.out;omega);clear Ac Ag A2 A4 V BX J;go_wp2_with fail;refine HC.out.mono ?_;rintro e w3 ⟨rfl,A2,C0,Z3,Ad,Ah,Bt⟩;have A6:=z6b U [] false w3 A2;rw[show(!false&&decide (([]:List UInt8)=[]))=true from rfl] at A6;have Ai:=hid A6;clear A6;have Aj:=hid Ad;have Aq:=hid Ah;have C2:=hid Bt;clear A2 Ad Ah Bt HC;go_wp2_with fail;refine Ai.out.mono ?_;rintro e w4 ⟨rfl,AQ⟩;have AQ:=AQ.symm;subst AQ;clear Ai;go_wp2_with fail;go_ret;refine⟨rfl,C0,Z3,vg,AM,Aj.out,Ap.out.trans Aq.out ?_,?_⟩
  .rintro j (e|e|e)
   .exact .inl (.inr (.inr (.inl e)))
   .exact .inl (.inr (.inr (.inr (.inl e))))
   .exact .inr (by have:=A8.out;omega)
  .rintro j (e|e|e)
   .exact .inl (.inl e)
   .exact .inr (qi BZ.out (C2.out j e))
   .exact .inl (.inr (.inr e))
 | came l=>
  obtain⟨⟨Ay,AR⟩,hy⟩:=HS.out;subst hy;have A9:=Ao.out;have A3:SX.enc (.came l)=CD.wN 2++CD.z7y chE (l.map z2B):=rfl;rw[A3,q8] at A9;have q:=Am.out;rw[A3] at q;have J:=z0V U _ false w1 q (by rw[q8];omega);rw[zeE 2 (by omega) (by omega)] at J;have J:=hid J;have A7:=hid q;have Ar:=hid (qv Ay AR);have Br:=hid (show(CD.z7y chE (l.map z2B)).length<=70000 by omega);have Bu:=hid (z88 AR (λi hi=>zaJ Ay _ (HD.at_mem l i hi)));clear Ay AR A9 A3 q HS Ao Am;generalize hA:CD.z7y chE (l.map z2B)=A at*;clear hA;generalize SX.txt (.came l)=tx at*;go_wp2_with fail;refine J.out.mono ?_;rintro e w2 ⟨rfl,A4,V⟩;have Ac:=AO.out.rd A7.out V.size (λj O A5=>V.block j O (λe=>A5 (qt e)));have Ag:XFr (ZS Z Zh bs bm vg) w w2:=(XFr.below (X:=ZS Z Zh bs bm vg) Ax.out).trans (XFr.grown (X:=λj=>j=U) V (λj O=> .inl (qt O).symm)) (λj O=> .inr (by have:=A8.out;omega));have AG:Below w2.heap.size w2 w2.drew:=(Below.refl _ w2).drew;have Ap:=hid (Ag.trans (XFr.below (X:=ZS Z Zh bs bm vg) AG) (λj O=> .inl O));have C3:=hid Ac.box;have Ak:=hid (Ac.below AG);have Az:RdI w2.drew U A false:=(AG.block U (z00 A4)).trans A4;have AU:=hid Az;have Bv:=hid (zde U A w2.drew Az (by have:=Br.out;omega) Ak.out.wid Ak.out.gl (by have h1:=HI.out.gl;have h2:=A8.out;omega));clear Ac Ag A4 V AG Az J;go_wp2_with fail;refine z0l (λW=>W.heap[bs]? =some (.cells (z3E bd bw up hb bm vg x) 80)) [0,1,2,3,4] [5,6,7] (by kernel_rfl) (by kernel_rfl) ?_;simp only[qM,wh,qJ,qF,qA];refine zr0.on (v:= .pointer (some ⟨bs,3,none⟩)) (YC.move rfl (by kernel_rfl)) ?_;refine zr0.on (v:= .pointer (some ⟨bs,3,none⟩)) (λW _=> .inl (by kernel_rfl)) ?_;refine zr0.on (v:= .pointer (some ⟨bs,3,none⟩)) (YC.field rfl (by kernel_rfl) λW=>z1L 0 (by omega) W bs) ?_
  refine zr0.on (v:= .pointer (some ⟨hb,0,none⟩)) (YC.load rfl (by kernel_rfl) λW hW=>z5W bs 3 hb W (z01 _ _ _ _ hW 3 _ rfl)) ?_;refine zr0.on (v:= .pointer (some ⟨U,0,none⟩)) (YC.move rfl (by kernel_rfl)) ?_;refine zr0.off (C:=λW=>W.heap[bs]? =some (.cells (z3E bd bw up hb bm vg x) 80)) Ak.out.box ?_;generalize w2.drew=w2d at*;go_frame;go_wp2_with fail;refine Bv.out.mono ?_;rintro e w3 ⟨Y,Bw⟩;have By:∃v,e= .returned v/\RdI w3 U [] false/\z0a w3 w2d.heap.size v l:=by
   rcases Bw with⟨l',r',v,q1,q2,q3,q4,_⟩|⟨q1,_⟩
   .rw[Bu.out] at q1;cases q1;rw[z6S] at q4;exact⟨v,q2,q3,q4⟩
   .rw[Bu.out] at q1;cases q1
  obtain⟨v,rfl,A2,AL⟩:=By;have Ad:=Ak.out.rd AU.out Y.2.2.2.1 (λj O A5=>Y.2.2.2.2 j O A5);obtain⟨ao,cap,rfl,Bz⟩:=z0z.z08 AL (Ak.out.now.hd.lt);have BA:=hid (z2F hb Zh x.s.mark x.s.H l ao cap w3 Ad.now.hd.toI HG.out.1 Bz (by have:=zlL Ar.out.1;omega) (λi hi=>⟨by have:=(Ar.out.2.2 i hi).2.1;omega,by have:=zeH Ar.out.1 i hi;omega⟩) (λi hi=>(Ar.out.2.2 i hi).2.2.2));have Ah:XFr (ZS Z Zh bs bm vg) w w3:=Ap.out.trans (X':=λj=>j=U) ⟨Y.1,Y.2.1,Y.2.2.1,Y.2.2.2.1,Y.2.2.2.2⟩ (λj O=> .inr (by have:=A8.out;omega));have Aj:=hid Ad;have AV:=hid A2;have Aq:=hid Ah;clear Bw Y A2 AL Ad Bz Ah Bv Ap Ak C3;go_wp2_with fail;refine z0F.on (C:=λW=>W.heap[bs]? =some (.cells (z3E bd bw up hb bm vg x) 80)) Aj.out.box ?_;go_wp2_with fail;refine BA.out.mono ?_;rintro e w4 ⟨⟨ev,rfl,BB⟩,Au,AW⟩;have BC:ev= .nilIface:=by
   rcases BB with⟨_,e⟩|⟨e,_⟩|⟨e,_⟩
   .exact e
   .rw[Ar.out.1] at e;cases e
   .rw[Ar.out.1] at e;exact absurd e (by decide)
  subst BC;obtain⟨Zt,BD,BF⟩:=Au.tight;obtain⟨AX,AY⟩:=Aj.out.head AW BD BF;have AA:RdI w4 U [] false:=(AW.block U (z00 AV.out) (Aj.out.now.hd.out AV.out (λc e fz k=>by cases k;decide))).trans AV.out;have BG:w4.heap[bs]? =some (.cells (z3E bd bw up hb bm vg x) 80):=AX.box;have Ae:=hid AX;have C4:=hid (z1X.mk (Aq.out.trans AY.fr (λj O=> .inl O)) (λj O=>(AY.sub j O).imp id (λe=>qi Aq.out.size e)):z1X w (ZS Z Zh bs bm vg) w4 (ZS Z Zt bs bm vg));have BH:=hid BG;have A6:=z6b U [] false w4 AA;rw[show(!false&&decide (([]:List UInt8)=[]))=true from rfl] at A6;have Ai:=hid A6;clear BB Au AW BD BF AX AY AA BG A6 BA;go_wp2_with fail;refine z0F.on (C:=λW=>W.heap[bs]? =some (.cells (z3E bd bw up hb bm vg x) 80)) BH.out ?_;go_wp2_with fail;refine z0F.done (C:=λW=>W.heap[bs]? =some (.cells (z3E bd bw up hb bm vg x) 80)) BH.out ?_;go_wp2_with fail;refine Ai.out.mono ?_;rintro e w5 ⟨rfl,AZ⟩;have AZ:=AZ.symm;subst AZ;clear Ai;go_wp2_with fail;go_ret;exact⟨rfl,hb,Zt,vg,⟨od,⟨Ae.out.wt,Ae.out.box,Ae.out.now.mono (by omega),Ae.out.zm,Ae.out.zg,Ae.out.zgh,Ae.out.zgv,Ae.out.wid,Ae.out.gl⟩⟩,C4.out⟩
 | gone d=>
  obtain⟨C5,hy⟩:=HS.out;subst hy;obtain⟨g8,gb,gf,gt,gm⟩:=C5;have A9:=Ao.out;have A3:SX.enc (.gone d)=CD.wN 3++(CD.wN d.below++(CD.wN d.g.fr++(CD.wN d.g.tt++(CD.wN (d.g.M.length:Int)++d.g.M.flatMap SX.eM)))):=rfl;rw[A3] at A9;have q:=Am.out;rw[A3] at q;have B0:(CD.wN d.below++(CD.wN d.g.fr++(CD.wN d.g.tt++(CD.wN (d.g.M.length:Int)++d.g.M.flatMap SX.eM)))).length<=70000:=by rw[q8] at A9;omega
  have B3:(CD.wN d.g.fr++(CD.wN d.g.tt++(CD.wN (d.g.M.length:Int)++d.g.M.flatMap SX.eM))).length<=70000:=by rw[q8] at B0;omega
  have BI:(d.g.M.flatMap SX.eM).length<=70000:=by simp only[q8] at B3;omega
  have J:=z0V U _ false w1 q (by omega);rw[zeE 3 (by omega) (by omega)] at J;have J:=hid J;have A7:=hid q;have Al:=hid (qv g8 (qv gb (qv gf (qv gt gm))));have B5:=hid (qv B0 (qv B3 BI));clear g8 gb gf gt gm A9 A3 B0 B3 BI q HS Ao Am;obtain⟨tx,B6⟩:∃tx,SX.txt (.gone d)=tx:=⟨_,rfl⟩;rw[B6];have C6:=hid B6;clear B6;obtain⟨R2,Ba⟩:∃R,(CD.wN d.g.fr++(CD.wN d.g.tt++(CD.wN (d.g.M.length:Int)++d.g.M.flatMap SX.eM)))=R:=⟨_,rfl⟩;rw[Ba] at J A7 B5;have AU:=hid Ba;clear Ba;go_wp2_with fail;refine J.out.mono ?_;rintro e w2 ⟨rfl,A4,V⟩;have Ac:=AO.out.rd A7.out V.size (λj O A5=>V.block j O (λe=>A5 (qt e)));have Ag:XFr (ZS Z Zh bs bm vg) w w2:=(XFr.below (X:=ZS Z Zh bs bm vg) Ax.out).trans (XFr.grown (X:=λj=>j=U) V (λj O=> .inl (qt O).symm)) (λj O=> .inr (by have:=A8.out;omega));have AB:=z0V U _ false w2 A4 (by have:=B5.out.1;omega);rw[zeE d.below (by have:=Al.out.2.1;omega) (by have:=Al.out.2.1;omega)] at AB;have AB:=hid AB;have Ak:=hid Ac;have Ap:=hid Ag;have BJ:=hid A4;clear Ac Ag A4 V J;go_wp2_with fail;refine AB.out.mono ?_;rintro e w3 ⟨rfl,A2,AH⟩;have Ad:=Ak.out.rd BJ.out AH.size (λj O A5=>AH.block j O (λe=>A5 (qt e)));have Ah:XFr (ZS Z Zh bs bm vg) w w3:=Ap.out.trans (XFr.grown (X:=λj=>j=U) AH (λj O=> .inl (qt O).symm)) (λj O=> .inr (by have:=A8.out;omega));have AC:=A2;rw[<-AU.out,<-tB (d.g.M.flatMap SX.eM)] at AC;have BM:=hid (zhu U d.g [] w3 Al.out.1 Al.out.2.2.1 Al.out.2.2.2.1 Al.out.2.2.2.2 (by simp) AC (by rw[tB];have:=B5.out.2.2;omega));have Aj:=hid Ad;have Aq:=hid Ah;have BN:=hid A2;clear Ad Ah A2 AC AH AB;go_wp2_with fail;refine BM.out.mono ?_;rintro e w4 ⟨mo,mk,rfl,BO,AA,A1,BP⟩;have Au:=Aj.out.rd BN.out A1.2.2.2.1 (λj O A5=>A1.2.2.2.2 j O A5);have BQ:XFr (ZS Z Zh bs bm vg) w w4:=Aq.out.trans (X':=λj=>j=U) ⟨A1.1,A1.2.1,A1.2.2.1,A1.2.2.2.1,A1.2.2.2.2⟩ (λj O=> .inr (by have:=A8.out;omega))
  have AD:=z7o Au d mo mk BO (λa ha _ hz=>by have h1:=BP a ha;have h2:=Aj.out.now.hd.lt _ hz;omega) (by have:=Al.out.1;omega) HG.out.1 HG.out.2.1 HG.out.2.2.1 (by have:=HG.out.2.2.2.1;omega) HG.out.2.2.2.2.1;rw[C6.out] at AD;have AD:=hid AD;have C8:=hid Au;have BR:=hid BQ;have AE:=hid AA;clear Au BQ AA BO A1 BP BM;go_wp2_with fail;refine AD.out.mono ?_;rintro e w5 ⟨rfl,Zt,Av,BS,AJ⟩;have BU:RdI w5 U [] false:=(AJ.fr.block U (z00 AE.out) (C8.out.out AE.out (by unfold KD;decide) (by decide) (λe=>absurd e (by decide)) (by decide) (by decide))).trans AE.out;have A6:=z6b U [] false w5 BU;rw[show(!false&&decide (([]:List UInt8)=[]))=true from rfl] at A6;have Ai:=hid A6;have Af:=hid BS;have C9:=hid (z1X.mk (BR.out.trans AJ.fr (λj O=> .inl O)) (λj O=>(AJ.sub j O).imp id (λe=>qi BR.out.size e)):z1X w (ZS Z Zh bs bm vg) w5 (ZS Z Zt bs bm Av));clear BU A6 BS AJ AD;go_wp2_with fail;refine Ai.out.mono ?_;rintro e w6 ⟨rfl,Bb⟩;have Bb:=Bb.symm;subst Bb;clear Ai;go_wp2_with fail;go_ret;exact⟨rfl,hb,Zt,Av,od,⟨Af.out.wt,Af.out.box,Af.out.now.mono (by omega),Af.out.zm,Af.out.zg,Af.out.zgh,Af.out.zgv,Af.out.wid,Af.out.gl⟩,C9.out⟩
end
section
open Go.RowKit Go.Maps
theorem zf5 (w:World)(od:Int->Int):Calls q6 30 #[] w λe w'=>∃hb bm Zt,e= .returned (.agg (z0L hb bm (.slice none 0 0) SX.first))/\z1v w' hb bm 0 Zt (.slice none 0 0) SX.first od/\Below w.heap.size w w'/\w.heap.size<=bm/\∀j,Zt j->w.heap.size<=j:=by
 have G:=hid (z6o (-1099511627777) (w.alloc (.cells #[.pointer none,.map none,.int .i64 0,.slice none 0 0] 77)));go_enter func30,ntmps30
 go_wp2_with fail;refine G.out.mono ?_;rintro e w1 ⟨rfl,rfl⟩;have J:= @run_makeMap q6;go_wp2_with fail;have O:∀(a b c:Obj),((((w.alloc a).alloc b).alloc c).heap[w.heap.size]? =some a)/\((((w.alloc a).alloc b).alloc c).heap[w.heap.size+1]? =some b):=λa b c=>by
  refine⟨?_,?_⟩
  .exact(Below.heap_alloc _ _ _ (by simp;omega)).trans ((Below.heap_alloc _ _ _ (by simp)).trans (qu w a))
  .refine(Below.heap_alloc _ _ _ (by simp)).trans ?_;have:=qu (w.alloc a) b;rwa[World.size_alloc] at this
 have h:∀(a b:Obj),z1x q6 2 (((w.alloc a).alloc b).alloc (.map #[] 0)) (w.heap.size+2) 0 λ_=>none:=λa b=>by
  have:=z1x.made ((w.alloc a).alloc b) q6 2;simpa using this
 have q:∀(a b c:Obj),Below w.heap.size w (((w.alloc a).alloc b).alloc c):=λa b c=>(((Below.refl _ w).alloc (qq _) _).alloc (by simp) _).alloc (by simp;omega) _
 obtain⟨U,V⟩:=O (.cells #[.pointer (some ⟨w.heap.size+1,0,none⟩),.map (some (w.heap.size+1+1)),.int .i64 0,.slice none 0 0] 77) (.cells #[.int .i64 (-1099511627777),.slice none 0 0] 165) (.map #[] 0);have Y:=h (.cells #[.pointer (some ⟨w.heap.size+1,0,none⟩),.map (some (w.heap.size+1+1)),.int .i64 0,.slice none 0 0] 77) (.cells #[.int .i64 (-1099511627777),.slice none 0 0] 165);have x4:=q (.cells #[.pointer (some ⟨w.heap.size+1,0,none⟩),.map (some (w.heap.size+1+1)),.int .i64 0,.slice none 0 0] 77) (.cells #[.int .i64 (-1099511627777),.slice none 0 0] 165) (.map #[] 0);refine rP (uu (P:=q6) rfl _ _ w.heap.size 77 _ (0,0) _ rfl U underlying77 rfl (by kernel_rfl)) rfl ?_;refine⟨w.heap.size+1,w.heap.size+2,λj=>j=w.heap.size+1\/∃k,k<([]:List Sr).length/\(atX [] k).2.ownBlock=some j,rfl,⟨?_,⟨_,Y,(λb hb=>by cases hb),(λn hn=>absurd rfl hn)⟩,⟨rfl,.inl ⟨rfl,rfl⟩⟩⟩,x4,by omega,λj hj=>?_⟩
 .exact⟨.slice none 0 0,[],⟨V,rfl,⟨rfl,.inl ⟨rfl,rfl⟩⟩,λi hi=>by simp[SX.first,SX.new] at hi,λi hi=>by simp[SX.first,SX.new] at hi,λi j hi=>by simp[SX.first,SX.new] at hi⟩,λj=>Iff.rfl⟩
 .rcases hj with e|⟨k,hk,_⟩
  .omega
  .simp at hk
end
section
open Go.RowKit Go.Maps
namespace SX
structure Gds (g:Nat) (x:St):Prop where
 hd:HD.Good x.s.H
 bl:∀b∈x.s.B,HD.Good b.S
 asc:x.s.B.Pairwise λb c=>b.n<c.n
 gn:x.G.length<=g
theorem Gds.first:Gds 0 first:=⟨HD.Good.nil,(λb h=>by cases h),yd,qq _⟩
theorem Gds.step {E:DK.M}{g:Nat}{x y:St}{n:Nt}(h:Gds g x)(k:Step E x n y):Gds (g+1) y:=by
 cases n with
 | st m nx ns=>
  obtain⟨_,bs,U,_,_,_,V,rfl⟩:=k;refine⟨HD.Good.nil,λb hb=>?_,V,qh _⟩;obtain⟨old,_,h2,J,_⟩:=U b hb;exact zdS h2 (by have:=J.1;omega) λi hi=>(J.2 i hi).2.2.2
 | came l=>
  obtain⟨⟨_,h2⟩,rfl⟩:=k;refine⟨HD.z6g h.hd λz Y=>?_,h.bl,h.asc,qi h.gn (Nat.le_succ _)⟩;obtain⟨i,hi,rfl⟩:=List.mem_iff_getElem.1 Y;have:=(h2.2 i hi).2.2.2;rw[<-HD.z2d l i hi] at this;exact this
 | gone d=>
  obtain⟨_,rfl⟩:=k;refine⟨HD.z3h h.hd,λb hb=>?_,?_,?_⟩
  .obtain⟨c,O,rfl⟩:=qx.1 hb;unfold takeB;split
   .exact HD.z3h (h.bl c O)
   .exact h.bl c O
  .show(x.s.B.map (takeB d)).Pairwise _;refine List.pairwise_map.2 (h.asc.imp λ{a b} q=>?_);have e:∀c:Blk,(takeB d c).n=c.n:=λc=>by unfold takeB;split<;>rfl
   rw[e,e];exact q
  .show(x.G++[d]).length<=_;rw[q8];have:=h.gn;simpa using this
end SX
end
section
open Go.RowKit Go.Maps
def zkc (w:World)(bd cnt c:Nat)(X:Nat->Prop)(D:DK.M)(x:SX.St)(e:Ending)(w':World):Prop:=
 ∃bs bw hb bm Z Zh vg od D',e= .returned (.tuple #[.pointer (some ⟨bs,0,none⟩),.nilIface])/\z0H w' bs bw bd (cnt+204) Z D' (-1) false true hb bm (30*c) Zh vg x od/\SX.On c D' x/\SX.z6X x D'/\(∀n,D' n≠none->n=kpt\/D n≠none)/\XFr X w w'/\∀j,ZS Z Zh bs bm vg j->X j\/w.heap.size<=j
theorem zhB {w:World}{bd cnt c N:Nat}{X:Nat->Prop}{D:DK.M}{x:SX.St}(h:Dk w X bd cnt D (-1))(AP:∀j,X j->j<w.heap.size)(hb:SX.zey c D x)(hc:c<=900)(BS:cnt<=80000)(hW:z0X w)(AQ:1<w.heap.size)(AR:¬X 1)(AB:DK.Fine N D)(hN:N<=100000000)(hF:SX.Fit x)(Al:SX.Few 190 D):
  Calls q6 8 #[.pointer (some ⟨bd,0,none⟩)] w λe w'=>zkc w bd cnt c X D x e w':=by
 obtain⟨ns,hR,Am,AC,Bt⟩:=hb;have HO:=hid (zjm (Z:=X) h (λj hj=>hj) AP hR AC AB hN (by omega));have AU:=hid Am;have AV:=hid AC;have HW:=hid hW;have HF:=hid hF;have Bu:=hid Al;have Bv:=hid AB;clear h hR Am AC AP hW AB hF Al;go_enter func8,ntmps8;go_wp2_with fail;refine HO.out.mono ?_;rintro e w1 ⟨bw,v,D1,Z1,rfl,Ao,AW,A6,AX,AY,AZ⟩;obtain⟨Z2,B0,B3⟩:=AW.tight;obtain⟨no,nc,rfl⟩:=z02 A6;have Ap:=hid (zf5 w1 (λ_=>0));have A2:=hid Ao;have B5:=hid B0;have Aq:=hid A6;have Bw:=hid AX;have J:=hid AY;have By:=hid AZ;have B6:=hid B3;clear Ao AW B0 A6 AX AY AZ B3 HO;go_wp2_with fail;refine Ap.out.mono ?_;rintro e w2 ⟨hb,bm,Zt,rfl,Ba,Bb,Ar,Au⟩;have Bc:=hid Ba;have Ah:=hid Bb;have A4:=hid (qv Ar Au);clear Ba Bb Ar Au Ap;simp only[z0L] at*;go_wp2_with fail;have AD:∀j,Z2 j->X j\/w.heap.size<=j:=λj hj=>By.out j (B6.out j hj)
 have AE:Below w2.heap.size w2 (w2.alloc (.cells #[.pointer (some ⟨bd,0,none⟩),.pointer (some ⟨bw,0,none⟩),.bool true,.pointer (some ⟨hb,0,none⟩),.map (some bm),.int .i64 SX.first.s.nx,.slice none 0 0] 80)):=(Below.refl _ w2).alloc (qq _) _;have AF:=qu w2 (.cells #[.pointer (some ⟨bd,0,none⟩),.pointer (some ⟨bw,0,none⟩),.bool true,.pointer (some ⟨hb,0,none⟩),.map (some bm),.int .i64 SX.first.s.nx,.slice none 0 0] 80);generalize w2.alloc (.cells #[.pointer (some ⟨bd,0,none⟩),.pointer (some ⟨bw,0,none⟩),.bool true,.pointer (some ⟨hb,0,none⟩),.map (some bm),.int .i64 SX.first.s.nx,.slice none 0 0] 80)=w3 at*;obtain⟨bs,Be⟩:∃bs,bs=w2.heap.size:=⟨_,rfl⟩;rw[<-Be] at AF;have U:Below w1.heap.size w1 w3:=z0u Ah.out AE;have Bf:z0H w3 bs bw bd (cnt+4) Z2 D1 (-1) false true hb bm 0 Zt (.slice none 0 0) SX.first (λ_=>0):=by
  refine⟨B5.out.below U,AF,Bc.out.below AE,λe=>?_,λe=>?_,λe=>?_,(λe=>by cases e),λi hi=>?_,?_⟩
  .have h1:=B5.out.lt _ e;have h2:=A4.out.1;omega
  .rcases AD _ e with k|k
   .exact AR k
   .omega
  .have h2:=A4.out.2 _ e;have h3:=J.out.size;omega
  .have Bz:w3.heap[1]? =w.heap[1]? :=(U.block _ (qe AQ J.out.size)).trans (J.out.block _ AQ AR);exact(qj (a:=⟨1,i,none⟩) Bz).trans (HW.out i hi)
  .have h3:=J.out.size;have h4:=U.size;omega
 have A7:=Aq.out;simp only[z5Q,qz] at A7;have Av:w3.ownsRow 0 9 1 (.slice no ns.length nc) ns.length (tv (ns.map SX.txt)):=z07 (z04 A7 λg c hg=>U.block g (z00 hg)) (qh _);clear A7;have Bg:∀g,(wH no ns.length nc).ownBlock=some g->¬ZS Z2 Zt bs bm (.slice none 0 0) g:=by
  intro g hg hz;have BU:g<w1.heap.size:=by
   rcases Aq.out.2 with⟨h0,_⟩|⟨g',cap,AG,h0,a1,a2,_⟩
   .rw[(yA h0).1] at hg;cases hg
   .rw[(yA h0).1] at hg;cases hg;exact z00 a2
  rcases hz with k|k|k|k|k
  .refine Bw.out g ?_ (B6.out g k);simpa using hg
  .have:=A4.out.2 g k;omega
  .have:=Ah.out.size;omega
  .have:=A4.out.1;omega
  .cases k
 have A8:SX.Run D1 SX.first ns x:=AU.out.swap λn _=>A2.out.oth _ (zeG _) (zg4 _)
 have BA:=hid Bf;have Aw:=hid Av;have BB:=hid Bg;have A9:=hid A8;have BC:=hid SX.Gds.first
 have Ax:=hid U;have AH:=hid AD;have Ay:w.heap.size<=bs:=by
  have h1:=J.out.size;have h2:=Ah.out.size;omega
 have A5:=hid (qv Ay A4.out);subst Be;clear AD AE AF U Bf Av Bg A8 Ay Bc Ah A4;generalize w2.heap.size=bs at*;go_loopw [9,10,28] (λ_ _ ti W=>∃(i:Nat) (m:SX.St) (Ac:Nat) (Zh:Nat->Prop) (vg:Value) (od:Int->Int),i<=ns.length/\ti= .int .i64 i/\z0H W bs bw bd (cnt+4) Z2 D1 (-1) false true Ac bm (30*i) Zh vg m od/\SX.Gds i m/\SX.Run D1 m (ns.drop i) x/\z1X w3 (ZS Z2 Zt bs bm (.slice none 0 0)) W (ZS Z2 Zh bs bm vg)) (λ_ _ ti _=>ns.length-(intOf ti).toNat)
 case atStart=>exact⟨0,SX.first,hb,Zt,.slice none 0 0,λ_=>0,qh _,rfl,BA.out,BC.out,by rw[um];exact A9.out,⟨XFr.refl _ _,λj hj=> .inl hj⟩⟩
 case round=>
  obtain⟨i,m,Ac,Zh,vg,od,hi,rfl,q,Y,V,Ad⟩:=hrel;by_cases AJ:i<ns.length
  .have AK:wr.ownsRow 0 9 1 (.slice no ns.length nc) ns.length (tv (ns.map SX.txt)):=by
    refine⟨Aw.out.1,?_⟩;rcases Aw.out.2 with h0|⟨g,cap,AG,h0,a1,a2,a3⟩
    .exact .inl h0
    .refine .inr ⟨g,cap,AG,h0,a1,(Ad.fr.block g (z00 a2) (BB.out g ?_)).trans a2,a3⟩;rw[(yA h0).1];rfl
   have hdr:ns.drop i=ns[i]::ns.drop (i+1):=rm AJ;rw[hdr] at V;obtain⟨m2,A1,Ae⟩:∃m2,SX.Step D1 m ns[i] m2/\SX.Run D1 m2 (ns.drop (i+1)) x:=by
    cases V with
    | cons h k=>exact⟨_,h,k⟩
   have Az:(SX.txt ns[i]).size<=70000:=by
    have:=AV.out (SX.txt ns[i]) (qx.2 ⟨ns[i],qK AJ,rfl⟩);omega
   obtain⟨g,BR,AG,e0,e1,e2,e3,e4,e5⟩:=z0d AK (by omega);cases e0;have cc:=AK.cells (g:=g) rfl i (.string (SX.txt ns[i])) (by unfold tv;rw[qZ,qZ,qw AJ];rfl);rw[qP,qT] at cc;have AA:=Y.step A1;have Bh:=hid (zfc q ns[i] A1 Y.hd Y.bl Y.asc (by omega) (by have:=Y.gn;omega) Az);have BV:0<=(i:Int)/\(i:Int)<(ns.length:Int):=by omega
   generalize SX.txt ns[i]=tx at*;have Ai:=hid Ad;have Bi:=hid AA;have AL:=hid Ae;have HSt:=hid q;clear AK hdr V A1 Ae Az AA Y Ad q e1 e2 e3 e4 e5;go_wp2_with fail;refine Bh.out.mono ?_;rintro e w4 ⟨rfl,BD,BF,BG,BH,Bj,Bl⟩;have BI:=hid Bj;have BJ:=hid Bl;clear Bj Bl Bh;go_wp2_with fail;go_roundw
   case rel=>exact⟨i+1,m2,BD,BF,BG,BH,by omega,by go_num,by rw[show 30*(i+1)=30*i+30 by omega];exact BI.out,Bi.out,AL.out,Ai.out.trans BJ.out⟩
   case measure=>simp[intOf];omega
  .have he:i=ns.length:=by omega
   subst he;rw[uy] at V;have BM:m=x:=by cases V;rfl
   subst BM;obtain⟨ga,gc,Bm⟩:=z02 q.now.gn;generalize (m.G.map λd=>SX.txt (.gone d)).length=gn at Bm;subst Bm;have m3:wr.cell? ⟨bs,3,none⟩=some (.pointer (some ⟨Ac,0,none⟩)):=z01 _ _ _ _ q.box 3 _ rfl;have m4:wr.cell? ⟨bs,4,none⟩=some (.map (some bm)):=z01 _ _ _ _ q.box 4 _ rfl;have m5:wr.cell? ⟨bs,5,none⟩=some (.int .i64 m.s.nx):=z01 _ _ _ _ q.box 5 _ rfl;have m6:wr.cell? ⟨bs,6,none⟩=some (.slice ga gn gc):=z01 _ _ _ _ q.box 6 _ rfl;have Aj:∀n,D1 n≠none->n=kpt\/D n≠none:=λn hn=>by
    by_cases e1:n=kpt
    .exact .inl e1
    .by_cases e2:n=frs
     .rw[e2] at hn;exact absurd A2.out.nof hn
     .rw[A2.out.oth n e1 e2] at hn;exact .inr hn
   have AM:=zaj q.wt (by omega) Ac bm _ Zh _ m od q.now HF.out (by omega) (λn hn=>by
    rcases Aj n hn with e|e
    .rw[e];decide
    .cases hq:D n with
     | none=>exact absurd hq e
     | some f=>have:=(Bv.out n f hq).1.2;omega) (λT hT=>by
    obtain⟨L,BW,BN⟩:=Bu.out;have h9:SX.Few 191 D1:=⟨kpt::L,by rw[qf];omega,λn hn=>by
     rcases Aj n hn with e|e
     .rw[e];exact qd
     .exact List.mem_cons_of_mem _ (BN n e)⟩
    have:=h9.st hT;omega)
   simp only[z0L] at AM;have Bo:=hid AM;have HSt:=hid q;have Ai:=hid Ad;have BO:=hid Aj;clear AM q Ad Y V Aj;go_wp2_with fail;refine Bo.out.mono ?_;rintro e w5 ⟨T,hT,rfl,Z5,A3,Af,Ak⟩;have Bp:∀n∈T.map bt,D1 n≠none:=λn BP=>by
    obtain⟨l,hl,rfl⟩:=qx.1 BP;exact(hT.mem l).1 hl
   rcases SX.z3p (x:=m) (T.map bt) (D:=D1) (p:= -1) (SX.z9r hT) Bp (by omega) with⟨D',p',s1,s2,s3,s4,s5⟩|⟨e,_⟩
   .have BQ:p'= -1:=s4 rfl;subst BQ;rw[s1] at A3 ⊢;dsimp only at A3 ⊢;rw[z1R rfl];have AO:XFr X w wr:=(J.out.trans (XFr.below (X:=X) Ax.out) (λj hj=> .inl hj)).trans Ai.out.fr (by
     rintro j (k|k|k|k|k)
     .exact AH.out j k
     .have h1:=A5.out.2.2 j k;have h2:=J.out.size;exact .inr (by omega)
     .have h1:=A5.out.1;exact .inr (by omega)
     .have h1:=A5.out.2.1;have h2:=J.out.size;exact .inr (by omega)
     .cases k)
    have Ag:=(Af.block bs (z00 HSt.out.box) (HSt.out.wt.kind.out HSt.out.box (by unfold KD;decide))).trans HSt.out.box;have O:=HSt.out.reset A3 Af Ak rfl (λ_ _=>rfl) Ag (HSt.out.now.disk HSt.out.wt.kind HSt.out.zm Af) (HSt.out.mz (w':=w5) Ak HSt.out.now.mlt HSt.out.zm) HSt.out.zgh HSt.out.zgv;have Bq:SX.On c D1 m:=⟨ns,SX.z8q.self A2.out,A9.out,AV.out,Bt⟩;have Br:Hid (zkc w bd cnt c X D m (.returned (.tuple #[.pointer (some ⟨bs,0,none⟩),.nilIface])) w5):=hid ⟨bs,bw,Ac,bm,Z5,Zh,.slice ga gn gc,od,D',rfl,⟨O.wt,O.box,O.now.mono (by omega),O.zm,O.zg,O.zgh,O.zgv,O.wid,O.gl⟩,Bq.zbF s2,SX.z7T hT s2 s3,(λn hn=>by
     rcases s2 n with e|⟨e,_⟩
     .exact BO.out n (by rw[<-e];exact hn)
     .exact absurd e hn),AO.trans Af (λj hj=>AH.out j hj),by
     intro j hj;have hq:ZS Z2 Zh bs bm (.slice ga gn gc) j\/wr.heap.size<=j:=by
      rcases hj with k|k
      .rcases Ak j k with k|k
       .exact .inl (.inl k)
       .exact .inr k
      .exact .inl (.inr k)
     rcases hq with k|k
     .rcases Ai.out.sub j k with k|k
      .rcases k with k|k|k|k|k
       .exact AH.out j k
       .have h1:=A5.out.2.2 j k;have h2:=J.out.size;exact .inr (by omega)
       .have h1:=A5.out.1;exact .inr (by omega)
       .have h1:=A5.out.2.1;have h2:=J.out.size;exact .inr (by omega)
       .cases k
      .have h1:=Ax.out.size;have h2:=J.out.size;exact .inr (by omega)
     .exact .inr (qi AO.size k)⟩
    clear AO Ag O Bq s1 s2 s3 s4 s5 Bp A3 Af Ak hT Bo m3 m4 m5 m6;go_wp2_with fail;go_ret2;exact Br.out
   .exact(e rfl).elim
end
section
open Go.RowKit Go.Maps
theorem z0H.disk {w w':World}{bs bw bd cnt cnt' hb bm mc:Nat}{Z Z' Zh:Nat->Prop}{D D':DK.M}{p p':Int}{dn dn' up:Bool}{vg:Value}{x:SX.St}{od:Int->Int}(h:z0H w bs bw bd cnt Z D p dn up hb bm mc Zh vg x od)(J:WT w' Z' bw bd cnt' D' p' dn')(h2:XFr Z w w')(G:∀j,Z' j->Z j\/w.heap.size<=j):
  z0H w' bs bw bd cnt' Z' D' p' dn' up hb bm mc Zh vg x od/\z1X w (ZS Z Zh bs bm vg) w' (ZS Z' Zh bs bm vg):=by
 have q:=(h2.block bs (z00 h.box) (h.wt.kind.out h.box (by unfold KD;decide))).trans h.box;refine⟨h.reset J h2 G rfl (λ_ _=>rfl) q (h.now.disk h.wt.kind h.zm h2) (h.mz (w':=w') G h.now.mlt h.zm) h.zgh h.zgv,⟨h2.mono λj O=> .inl O,?_⟩⟩;rintro j (e|e)
 .rcases G j e with e|e
  .exact .inl (.inl e)
  .exact .inr e
 .exact .inl (.inr e)
section
variable {n : Nat} {w w' : World} {bs bd c m : Nat} {Zh : Nat → Prop} {D : DK.M} {p : Int} {up : Bool} {x : SX.St}
theorem zcD (h:SoL n w bs bd c m Zh D p up x)(V:n<=w.heap.size)(q:Int)(Y:q<=9223372036854775807):
  Calls q6 19 #[.pointer (some ⟨bd,0,none⟩),.int .i64 q] w λe w'=>e= .returned (.tuple #[])/\SoL n w' bs bd c m Zh D (max q (-1)) up x/\Below n w w'/\w.heap.size<=w'.heap.size/\∀v S,SrT w Zh v S->SrT w' Zh v S:=by
 obtain⟨bw,cnt,Z,dn,hb,bm,mc,vg,od,h1,h2,h3,h4,O⟩:=h;refine(zi3 h1.wt q Y).mono ?_;rintro e w' ⟨rfl,Z',k1,U,k3⟩;obtain⟨q1,G⟩:=h1.disk k1 U k3;refine⟨rfl,⟨bw,cnt,Z',dn,hb,bm,mc,vg,od,q1,h2,h3,h4,λj J=>?_⟩,G.fr.z3m O V,U.size,λv S e=>h1.z2v G (λj J=> .inr (.inl J)) e⟩;rcases G.sub j J with e|e
 .exact O j e
 .omega
theorem zdF (h:SoL n w bs bd c m Zh D p up x)(Y:n<=w.heap.size)(q:Int)(G: -9223372036854775808<=q)(hq:q<=9223372036854775807)(hF:DK.Fine 1000000000 D):
  Calls q6 15 #[.pointer (some ⟨bd,0,none⟩),.int .i64 q] w λe w'=>e= .returned (.tuple #[])/\SoL n w' bs bd c m Zh (DK.start D q) (-1) up x/\Below n w w'/\w.heap.size<=w'.heap.size/\∀v S,SrT w Zh v S->SrT w' Zh v S:=by
 obtain⟨bw,cnt,Z,dn,hb,bm,mc,vg,od,h1,h2,h3,h4,U⟩:=h;refine(zem h1.wt q G hq hF).mono ?_;rintro e w' ⟨rfl,Z',k1,V,k3⟩;obtain⟨q1,J⟩:=h1.disk k1 V k3;refine⟨rfl,⟨bw,cnt,Z',dn,hb,bm,mc,vg,od,q1,h2,h3,h4,λj O=>?_⟩,J.fr.z3m U Y,V.size,λv S e=>h1.z2v J (λj O=> .inr (.inl O)) e⟩;rcases J.sub j O with e|e
 .exact U j e
 .omega
end
def zh2 (n:Nat)(w:World)(bd c a k:Nat)(x:SX.St)(e:Ending)(w':World):Prop:=
 ∃bs Zh D',e= .returned (.tuple #[.pointer (some ⟨bs,0,none⟩),.nilIface])/\SoL n w' bs bd (c+204) (30*(200+k)) Zh D' (-1) true x/\SX.Lv a k D' x/\Below n w w'/\w.heap.size<=w'.heap.size/\∀Z0 v S,SrT w Z0 v S->SrT w' Zh v S
theorem zk0 {n:Nat}{w:World}{bd cnt c a k:Nat}{X:Nat->Prop}{D:DK.M}{x:SX.St}(h:Dk w X bd cnt D (-1))(hc:cnt<=c)(O:∀j,X j->n<=j/\j<w.heap.size)(hk:zdA w X)(hW:z0X w)(U:1<w.heap.size)(V:¬X 1)(hn:n<=w.heap.size)(hb:SX.Bk a k D x)(A1:c<=80000)(A2:k<=60):
  Calls q6 8 #[.pointer (some ⟨bd,0,none⟩)] w λe w'=>zh2 n w bd c a k x e w':=by
 refine(zhB h (λj J=>(O j J).2) hb.back (by omega) (by omega) hW U V hb.fine (by omega) hb.cor.fit hb.few).mono ?_;rintro e w' ⟨bs,bw,Y,bm,Z,Zh,vg,od,D',rfl,hS,ho,q,hd,hf,hs⟩;refine⟨bs,Zh,D',rfl,⟨bw,_,Z,false,Y,bm,_,vg,od,hS,(λ_=>rfl),by omega,qq _,λj J=>?_⟩,hb.opened ho q hd,hf.z3m (λj J=>(O j J).1) hn,hf.size,λZ0 v S hv=>?_⟩
 .rcases hs j J with e|e
  .exact(O j e).1
  .omega
 .have h1:SrT w (λ_=>False) v S:=by
   obtain⟨xs,G,_⟩:=hv;exact⟨xs,G,λ_ _ _ _ e=>e⟩
  have h2:SrT w' (λ_=>False) v S:=h1.kept λg cc e he q=>hf.block g (z00 q) (hk.out q (by rcases he with rfl | rfl | ⟨rfl,_⟩<;>(unfold KD;decide)))
  obtain⟨xs,G,_⟩:=h1;obtain⟨A3,A4,_⟩:=h2;refine⟨xs,?_,λi hi g q e=>?_⟩
  .refine⟨G.len,?_,λi hi=>?_,λi hi=>?_⟩
   .exact z04 G.row λg cc q=>hf.block g (z00 q) (hk.out q (by unfold KD;decide))
   .exact z04 (G.labs i hi) λg cc q=>hf.block g (z00 q) (hk.out q (by unfold KD;decide))
   .exact z04 (G.smps i hi) λg cc q=>hf.block g (z00 q) (hk.out q (by unfold KD;decide))
  .have A5:=((G.smps i hi).lt g q).2;rcases hs g (.inr (.inl e)) with e2|e2
   .rcases(G.smps i hi).2 with h0|⟨g',cap,A6,e3,a1,a2,a3⟩
    .rw[h0.1] at q;cases q
    .rw[e3] at q;have e4:g'=g:=qt q;subst e4;exact hk.out a2 (by unfold KD;decide) e2
   .omega
theorem zgF {n:Nat}{w:World}{bs bd c m a k:Nat}{Zh:Nat->Prop}{D:DK.M}{up:Bool}{U x:SX.St}(h:SoL n w bs bd c m Zh D (-1) up U)(V:n<=w.heap.size)(hb:SX.Bk a k D x)(J:c<=80000)(O:k<=60):
  Calls q6 8 #[.pointer (some ⟨bd,0,none⟩)] w λe w'=>zh2 n w bd c a k x e w':=by
 obtain⟨bw,cnt,Z,dn,Y,bm,mc,vg,od,h1,h2,h3,h4,h5⟩:=h;obtain⟨X,hX,_,_,_,q,_⟩:=h1.wt.wl;exact zk0 hX h3 (λj G=>⟨h5 j (.inl (q j G)),h1.wt.lt j (q j G)⟩) (λj G=>h1.wt.kind j (q j G)) h1.wid h1.gl (λe=>h1.zg (q _ e)) V hb J O
theorem Dk.znE (w:World):Dk (w.alloc (.cells #[.map none,.bool false,.int .i64 0] 32)) (λj=>j=w.heap.size) w.heap.size 0 (λ_=>none) (-1):=by
 have q:=qu w (.cells #[.map none,.bool false,.int .i64 0] 32);refine⟨none,λ_=>none,λ_=> .slice none 0 0,false,0,?_⟩;exact {xd:=rfl,dsk:=q,pw:= .inr ⟨rfl,rfl⟩,map:=λbm h=>(by cases h),nomap:=λ_ _=>rfl,files:={no:=λ_=>⟨λ_=>rfl,λ_=>rfl⟩,inj:=λ_ _ _ h=>(by cases h),body:=λ_ _ _ h=>(by cases h),sep:=λ_ _ _ h=>absurd rfl h}}
theorem za5 {n:Nat}{w:World}(O:z0X w)(h:1<w.heap.size)(U:n<=w.heap.size):
  Calls q6 8 #[.pointer (some ⟨w.heap.size,0,none⟩)] (w.alloc (.cells #[.map none,.bool false,.int .i64 0] 32)) λe w'=>zh2 n (w.alloc (.cells #[.map none,.bool false,.int .i64 0] 32)) w.heap.size 0 0 0 SX.first e w':=by
 have hb:=qu w (.cells #[.map none,.bool false,.int .i64 0] 32);have q:Below w.heap.size w (w.alloc (.cells #[.map none,.bool false,.int .i64 0] 32)):=(Below.refl _ w).alloc (qq _) _;have G:(w.alloc (.cells #[.map none,.bool false,.int .i64 0] 32)).heap.size=w.heap.size+1:=by simp
 refine zk0 (Dk.znE w) (qq _) (λj J=>by rw[J,G];omega) (λj J=> .inl ⟨#[.map none,.bool false,.int .i64 0],32,(0,0),by rw[J];exact hb,.inl rfl⟩) (z0X.below O q h) (by omega) (by omega) (by omega) SX.Bk.first (by omega) (by omega)
end
section
open Go.RowKit
theorem zr7 {B:Nat}{a w:World}(h:Below B a w)(n:Nat):Below B a (w.drewN n):=⟨h.os,h.tape,h.output,h.size,h.block⟩
theorem zdT (a b:List CL.Smp)(i:Nat)(h:CL.at' a i≠CL.at' b i):decide (a=b)=false:=by
 rw[decide_eq_false_iff_not];intro e;subst e;exact h rfl
theorem zex (a b:List CL.Smp)(G:a.length=b.length)(h:∀i,i<a.length->CL.at' a i=CL.at' b i):decide (a=b)=true:=by
 rw[decide_eq_true_iff];apply List.ext_getElem G;intro i q J;have:=h i q;simpa [CL.at',q,J] using this
theorem neS (a b c d:Int)(w:World):(binOp .neq 98 (.agg #[.int .i64 a,.int .i64 b]) (.agg #[.int .i64 c,.int .i64 d])).run q6 w= .ok (.bool (!(a==c&&b==d))) w:=by
 rw[run_neq_struct,run_equalIn_struct w 9999 98 _ _ (by kernel_rfl) (by kernel_rfl)];have h:∀w,(part 2 #[wM .i64 a,wM .i64 b] 0).run q6 w= .ok (.int .i64 a) w:=λw=>by kernel_rfl
 have q:∀w,(part 2 #[wM .i64 a,wM .i64 b] 1).run q6 w= .ok (.int .i64 b) w:=λw=>by kernel_rfl
 have G:∀w,(part 2 #[wM .i64 c,wM .i64 d] 0).run q6 w= .ok (.int .i64 c) w:=λw=>by kernel_rfl
 have J:∀w,(part 2 #[wM .i64 c,wM .i64 d] 1).run q6 w= .ok (.int .i64 d) w:=λw=>by kernel_rfl
 have O:∀(x y:Int) w,(Op.equalIn 9999 2 (.int .i64 x) (.int .i64 y)).run q6 w= .ok (x==y) w:=λx y w=>run_equalIn_int w 9998 2 .i64 .i64 x y underlying2
 simp only[Program.fieldsOf,underlying98,Op.eqFields,Sem.run_bind,Sem.run_ite,h,q,G,J,O,Result.andThen_ok,Sem.run_pure];by_cases U:a=c<;>by_cases V:b=d<;>simp[U,V]
theorem egS (x y:Operand)(xs ys:Array Value)(w:World):(eqGuard .neq 98 x y (.agg xs) (.agg ys)).run q6 w= .ok () w:=run_eqGuard_agg w .neq 98 x y xs ys (by kernel_rfl)
theorem zcO (ao bo:Option Addr)(a b:List CL.Smp)(ca cb:Nat)(w:World)(hA:z1I w ao a)(hB:z1I w bo b)(hl:a.length<=140737488351232):
  Calls q6 40 #[.slice ao a.length ca,.slice bo b.length cb] w λe w'=>e= .returned (.bool (decide (a=b)))/\Below w.heap.size w w':=by
 by_cases J:a.length=b.length
 .have HA:=hid hA;have HB:=hid hB;have HL:=hid J;have A6:(a.length:Int)<=b.length/\(b.length:Int)<=a.length:=by omega
  have A3:((a.length:Int) != (b.length:Int))=false:=by simp[J]
  clear hA hB J;generalize hD:decide (a=b)=D;have HD:=hid hD;clear hD;go_enter func40,ntmps40;go_wp2_with fail;go_loopw [5] (λti wr=>∃i:Nat,i<=a.length/\ti= .int .i64 i/\(∀j,j<i->CL.at' a j=CL.at' b j)/\Below w.heap.size w wr) (λti _=>a.length-(intOf ti).toNat)
  case atStart=>exact⟨0,by omega,rfl,by omega,Below.refl _ _⟩
  case round=>
   obtain⟨i,hi,rfl,U,O⟩:=hrel;have HE:=hid U;have q:=hid O;clear U O;by_cases V:i<a.length
   .obtain⟨b1,o1,e1,c0,c1,Y⟩:=HA.out i V;obtain⟨b2,o2,e2,d0,d1,A1⟩:=HB.out i (by rw[<-HL.out];exact V);subst e1 e2;have c0:=(q.out.cell (p:=⟨b1,_,none⟩) Y).trans c0;have c1:=(q.out.cell (p:=⟨b1,_,none⟩) Y).trans c1;have d0:=(q.out.cell (p:=⟨b2,_,none⟩) A1).trans d0;have d1:=(q.out.cell (p:=⟨b2,_,none⟩) A1).trans d1;have A4:=hid (zdT a b i);have HQ:Hid (CL.at' a i=CL.at' b i->∀j,j<i+1->CL.at' a j=CL.at' b j):=λh j hj=>by
     by_cases he:j=i
     .subst he;exact h
     .exact HE.out j (by omega)
    generalize CL.at' a i=x at*;generalize CL.at' b i=y at*;have A7:(i:Int)<(b.length:Int):=by omega
    obtain⟨x1,x2⟩:=x;obtain⟨y1,y2⟩:=y;simp only at c0 c1 d0 d1;have A8:=egS;by_cases G:x1=y1/\x2=y2
    .have A2:∀w,(binOp .neq 98 (.agg #[.int .i64 x1,.int .i64 x2]) (.agg #[.int .i64 y1,.int .i64 y2])).run q6 w= .ok (.bool false) w:=λw=>by
      rw[neS];simp[G.1,G.2]
     have A5:Hid ((x1,x2)=(y1,y2)):=by show _=_;rw[G.1,G.2]
     clear G;go_wp2_with fail
     go_quiet (fail)
     go_wp2_with fail;refine⟨⟨i+1,by omega,by go_num,HQ.out A5.out,zr7 q.out _⟩,?_⟩;simp[intOf];omega
    .have A2:∀w,(binOp .neq 98 (.agg #[.int .i64 x1,.int .i64 x2]) (.agg #[.int .i64 y1,.int .i64 y2])).run q6 w= .ok (.bool true) w:=λw=>by
      rw[neS];by_cases h1:x1=y1<;>by_cases h2:x2=y2<;>simp_all
     have HF:Hid (D=false):=by
      show _=_;rw[<-HD.out];refine A4.out (λe=>G ?_);simpa using e
     clear G;go_wp2_with fail
     go_quiet (fail)
     go_wp2_with fail;go_ret;exact⟨z05 HF.out.symm,zr7 q.out _⟩
   .have he:i=a.length:=by omega
    have HT:Hid (D=true):=by
     show _=_;rw[<-HD.out];exact zex a b HL.out (λj hj=>HE.out j (by omega))
    subst he;go_wp2_with fail;go_ret;exact⟨z05 HT.out.symm,q.out⟩
 .have A3:((a.length:Int) != (b.length:Int))=true:=by simp;omega
  have HF:Hid (decide (a=b)=false):=by
   show _=_;rw[decide_eq_false_iff_not];intro e;exact J (by rw[e])
  clear J;go_enter func40,ntmps40;go_wp2_with fail;go_ret;exact⟨z05 HF.out.symm,Below.refl _ _⟩
end
end Go.Proofs.YtemeblgngidldaaGreatDoor
