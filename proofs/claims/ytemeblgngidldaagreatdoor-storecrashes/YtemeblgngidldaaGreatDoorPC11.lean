/- Texts put together and made smaller by program: SoTake BmAskedS SoDel SoRet SoLv HcBetwS BpCatS. -/
import Derived.Test.YtemeblgngidldaaGreatDoorPC10
set_option linter.unusedVariables false
set_option linter.unusedSimpArgs false
set_option maxRecDepth 100000
set_option maxHeartbeats 12800000
open And renaming intro->qv
open Bool renaming and_eq_true->qI
open Go renaming maxLen->qS,TypeId->qn,heap_alloc_new->qu,heap_setCell_same->qo,wp_loop_rounds->oF,rounds_succ->rV
open Go.Addr renaming add_lit->qP,add->rz
open Go.Builtin renaming len_->uW,zeroCells->wv
open Go.IntKind renaming i64->qW,wrap_i64->qY
open Go.Maps renaming size->rl
open Go.Result renaming andThen_ok->tF
open Go.Sem renaming run_bind->ye,run_pure->uQ
open Go.Value renaming slice->wH,agg->uw
open Go.World renaming cell?_of_block->qj,cell?->qs,size_alloc->rj
open Go.World.ownsMap renaming len->uO
open Int renaming le_refl->eL
open List renaming map_toArray->yh,map_cons->wR,map_nil->yX,mem_cons->qg,mem_map->qx,length_map->qz,filterMap_cons->qM,filterMap_nil->wh,getElem?_toArray->qJ,getElem?_cons_zero->qF,getElem?_cons_succ->qA,mem_filter->wE,mem_append->wu,mem_singleton->qk,mem_of_mem_take->rE,length_append->q8,range->qN,getElem?_eq_some_iff->eE,getD_eq_getElem?_getD->q7,getElem?_append_left->wD,getElem?_append_right->eW
open Nat renaming lt_of_lt_of_le->qe,le_refl->qq,le_trans->qi,zero_le->qh,mod_two_eq_zero_or_one->yp
open Option.some renaming inj->qt
open Go.Proofs.Tryz renaming prog->q6
open Go.Proofs.Tryz
namespace Go.Proofs.YtemeblgngidldaaGreatDoor
section
open Go.RowKit Go.Maps
theorem zkB (W:World)(b:Nat)(s:ByteArray)(h:W.cell? ⟨b,0,none⟩=some (.string s)):∀(j:Nat) (u:Value),[Value.string s][j]? =some u->W.cell? ((⟨b,0,none⟩:Addr).add j)=some u:=by
 intro j u q
 match j with
 | 0=>simp at q;subst q;exact h
 | j+1=>simp at q
theorem z4K {w:World}{ops:Array Oper}{rest:List Oper}{o:Oper}{a:Act}{Q:Exit->Act->World->Prop}(U:o.guard=none)(s x:Operand)
  (ho:o.op= .call {callee:= .builtin .append,args:=#[s,x],argTypes:=#[71,71]}) (q:Nat) (v:Value) (A:List ByteArray) (hs:a.eval s=v) (J:z5Q w q v A)
  (g:Nat) (t:ByteArray) (hx:a.eval x= .slice (some ⟨g,0,none⟩) 1 1) (hg:w.cell? ⟨g,0,none⟩=some (.string t)) (hl:A.length<=1000000) (G:q<=w.heap.size)
  (h:∀v' w',z5Q w' q v' (A++[t])->w.grownBy w' v.ownBlock->(v'.ownBlock=v.ownBlock\/v'.ownBlock=some w.heap.size)->wpList q6 ops Q rest (a.put o.dst v') w'):wpList q6 ops Q (o::rest) a w:=by
 obtain⟨i,hi,V,Y,A1⟩:=info_parts Tryz.info9;refine wpList_plain U λK hK=>?_
 obtain⟨v',w',O,h2,h3,_,h5⟩:=run_append_own_at (P:=q6) w q 71 o.type 9 i (.string ⟨#[]⟩) 1 16 underlying71 hi V Y A1 rfl (by decide) v A.length (tv A) J ⟨g,0,none⟩ 1 1 [.string t] rfl (zkB _ _ _ hg) (by simp[Value.oneCell']) (by unfold qS;omega) (by omega) G;unfold Oper.wp execOp;simp only[ho,resolve,invoke,builtin,ye,uQ,tF,yh,wR,yX,hs,hx,O];exact hK _ _ (h v' w' (z5Q.snoc h2) h3 h5)
theorem zcs (g:Gn):BK.z4d goG [g]=SX.goN g:=by
 funext L t
 unfold BK.z4d SX.goN;simp
theorem zez.one {w:World}{b:Nat}{mo:Option Addr}{mc:Nat}{g:Gn}(hb:w.heap[b]? =some (.cells #[.slice mo g.M.length mc,.int .i64 g.fr,.int .i64 g.tt] 25)) (q:z3s w mo g.M):zez w (some ⟨b,0,none⟩) [g]:=λi hi=>by
 have h:i=0:=by simp at hi;omega
 subst h;exact⟨b,0,rfl,z00 hb,mo,mc,z01 _ _ _ _ hb 0 _ rfl,z01 _ _ _ _ hb 1 _ rfl,z01 _ _ _ _ hb 2 _ rfl,q⟩
def za7 (w:World)(Zh:Nat->Prop)(od:Int->Int)(d:SX.Gd)(left:Int->Bool)(f:Int->Option Value)(B:List SX.Blk):Prop:=
 (∀b∈B,∃v,f b.n=some (zal b.zto (od b.n) v)/\SrT w Zh v (if left b.n then b.S else(SX.takeB d b).S)/\ -1<=od b.n/\od b.n<100)/\∀n,f n≠none->∃b∈B,b.n=n
theorem z1L (k:Nat)(h:k<4)(W:World)(B:Nat):(Instr.fieldAt 77 (.pointer (some ⟨B,3,none⟩)) k).run q6 W= .ok (.pointer (some ⟨B,3+k,none⟩)) W:=by
 match k,h with
 | 0,_=>go_simp
 | 1,_=>go_simp
 | 2,_=>go_simp
 | 3,_=>go_simp
theorem z8B (b:Nat)(mo:Option Addr)(q mc:Nat)(fr G:Int)(w:World)(h:w.heap[b]? =some (.cells #[.slice mo q mc,.int .i64 fr,.int .i64 G] 25)):(Instr.loadAt 25 (.pointer (some ⟨b,0,none⟩))).run q6 w= .ok (.agg #[.slice mo q mc,.int .i64 fr,.int .i64 G]) w:=by
 have J:(q6.info? 25).map (·.size)=some 3:=by kernel_rfl
 have O:w.cell? ⟨b,0,none⟩=some (.slice mo q mc):=z01 _ _ _ _ h 0 _ rfl;have U:w.cell? ⟨b,1,none⟩=some (.int .i64 fr):=z01 _ _ _ _ h 1 _ rfl;have V:w.cell? ⟨b,2,none⟩=some (.int .i64 G):=z01 _ _ _ _ h 2 _ rfl;clear h
 go_simp
theorem z3s.zkH {w w':World}{q:Option Addr}{l:List LB.Mat}(h:z3s w q l)(J:w.heap.size<=w'.heap.size)(k:∀a,q=some a->0<l.length->w'.heap[a.block]? =w.heap[a.block]?):z3s w' q l:=by
 intro i hi;obtain⟨b,off,G,O,U,V,Y⟩:=h i hi;have e:w'.heap[b]? =w.heap[b]? :=k _ G (by omega);exact⟨b,off,G,(qj (a:=⟨b,off+i*3,none⟩) e).trans O,(qj (a:=⟨b,off+i*3+1,none⟩) e).trans U,(qj (a:=⟨b,off+i*3+2,none⟩) e).trans V,qe Y J⟩
theorem z3s.zno {w:World}{a:Addr}{l:List LB.Mat}(h:z3s w (some a) l)(q:0<l.length){G:Array MapEntry}{J:Nat}(O:w.heap[a.block]? =some (.map G J)):False:=by
 obtain⟨b,off,U,V,_⟩:=h 0 q;cases U;simp[qs,O] at V
theorem z4U {B:List SX.Blk}(h:B.Pairwise λb c=>b.n<c.n){b c:SX.Blk}(hb:b∈B)(J:c∈B)(e:b.n=c.n):b=c:=by
 induction B with
 | nil=>cases hb
 | cons x B ih=>
  obtain⟨O,U⟩:=List.pairwise_cons.1 h;rcases qg.1 hb with rfl|G
  .rcases qg.1 J with rfl|q
   .rfl
   .have:=O c q;omega
  .rcases qg.1 J with rfl|q
   .have:=O b G;omega
   .exact ih U G q
theorem za7.start {w:World}{Zh:Nat->Prop}{od:Int->Int}{d:SX.Gd}{left:Int->Bool}{f:Int->Option Value}{B:List SX.Blk}(h:z8D w Zh od f B)(G:∀s,left s=(f s).isSome):za7 w Zh od d left f B:=by
 refine⟨λb hb=>?_,h.2⟩;obtain⟨v,q,J,O⟩:=h.1 b hb;refine⟨v,q,?_,O⟩;rw[G,q];exact J
theorem za7.done {w:World}{Zh:Nat->Prop}{od:Int->Int}{d:SX.Gd}{left:Int->Bool}{f:Int->Option Value}{B:List SX.Blk}(h:za7 w Zh od d left f B)(G:∀s,left s=false):z8D w Zh od f (B.map (SX.takeB d)):=by
 refine⟨λc J=>?_,λn O=>?_⟩
 .obtain⟨b,hb,rfl⟩:=qx.1 J;obtain⟨v,U,q,V⟩:=h.1 b hb;rw[G,if_neg (by decide)] at q;rw[SX.z5j,SX.z6d];exact⟨v,U,q,V⟩
 .obtain⟨b,hb,e⟩:=h.2 n O;exact⟨SX.takeB d b,List.mem_map_of_mem hb,by rw[SX.z5j];exact e⟩
theorem za7.kept {w w':World}{Zh:Nat->Prop}{od:Int->Int}{d:SX.Gd}{left:Int->Bool}{f:Int->Option Value}{B:List SX.Blk}(h:za7 w Zh od d left f B)(k:∀(g:Nat) (c:Array Value) (e:qn),(e=93\/e=107\/(e=98/\¬Zh g))->w.heap[g]? =some (.cells c e)->w'.heap[g]? =w.heap[g]?):za7 w' Zh od d left f B:=by
 refine⟨λb hb=>?_,h.2⟩;obtain⟨v,q,G,J⟩:=h.1 b hb;exact⟨v,q,G.kept k,J⟩
theorem za7.pass {w:World}{Zh:Nat->Prop}{od:Int->Int}{d:SX.Gd}{left:Int->Bool}{f:Int->Option Value}{B:List SX.Blk}(h:za7 w Zh od d left f B)(V:B.Pairwise λb c=>b.n<c.n){q:SX.Blk}(J:q∈B)(Y:¬q.n<d.below):za7 w Zh od d (z0m left q.n) f B:=by
 refine⟨λb hb=>?_,h.2⟩;obtain⟨v,q1,G,q3⟩:=h.1 b hb;refine⟨v,q1,?_,q3⟩;by_cases e:b.n=q.n
 .have e2:=z4U V hb J e;subst e2;have O:z0m left b.n b.n=false:=by simp[z0m]
  have U:SX.takeB d b=b:=by unfold SX.takeB;rw[if_neg Y]
  rw[O,if_neg (by decide),U];rw[U] at G;split at G<;>exact G
 .have O:z0m left q.n b.n=left b.n:=by simp[z0m,e]
  rw[O];exact G
theorem za7.put {w:World}{Zh:Nat->Prop}{od:Int->Int}{d:SX.Gd}{left:Int->Bool}{f:Int->Option Value}{B:List SX.Blk}(h:za7 w Zh od d left f B)(U:B.Pairwise λb c=>b.n<c.n){q:SX.Blk}(G:q∈B)(V:q.n<d.below){v':Value}(Y:SrT w Zh v' (HD.kp (SX.goN d.g) q.S))(ho: -1<=od q.n/\od q.n<100):za7 w Zh od d (z0m left q.n) (ze7 f q.n (zal q.zto (od q.n) v')) B:=by
 refine⟨λb hb=>?_,λn J=>?_⟩
 .by_cases e:b.n=q.n
  .have e2:=z4U U hb G e;subst e2;have O:z0m left b.n b.n=false:=by simp[z0m]
   refine⟨v',z4p _ _ _,?_,ho⟩;rw[O,if_neg (by decide)];unfold SX.takeB;rw[if_pos V];exact Y
  .obtain⟨v,q1,q2,q3⟩:=h.1 b hb;have O:z0m left q.n b.n=left b.n:=by simp[z0m,e]
   refine⟨v,(z1m _ _ _ _ e).trans q1,?_,q3⟩;rw[O];exact q2
 .by_cases e:n=q.n
  .exact⟨q,G,e.symm⟩
  .rw[z1m _ _ _ _ e] at J;exact h.2 n J
theorem z4k.zk4 {P:Program}{k:qn}{w:World}{b r n cnt:Nat}{f:Int->Option Value}{left:Int->Bool}(h:z4k P k w b r n f left cnt)(o:Obj):z4k P k (w.alloc o) b r n f left cnt:=
 h.kept (World.grownBy_alloc w o none) (by simp) (by simp)
theorem z7o {w:World}{bs bw bd cnt hb bm mc:Nat}{Z Zh:Nat->Prop}{D:DK.M}{p:Int}{dn up:Bool}{vg:Value}{x:SX.St}{od:Int->Int}(h:z0H w bs bw bd cnt Z D p dn up hb bm mc Zh vg x od)(d:SX.Gd)(mo:Option Addr)(mk:Nat)(hM:z3s w mo d.g.M)(Ca:∀a,mo=some a->0<d.g.M.length->¬Zh a.block)(Cb:d.g.M.length<=1000)(hH:HD.Good x.s.H)(hB:∀b∈x.s.B,HD.Good b.S)(Bc:x.s.B.Pairwise λb c=>b.n<c.n)(En:mc<=100000)(hG:x.G.length<=1000):
  Calls q6 38 #[.pointer (some ⟨bs,3,none⟩),.string (SX.txt (.gone d)),.int .i64 d.below,gnV mo mk d.g] w λe w'=>e= .returned (.tuple #[])/\∃Zt vg',z0H w' bs bw bd cnt Z D p dn up hb bm mc Zt vg' (SX.z0Q d x) od/\z1X w (ZS Z Zh bs bm vg) w' (ZS Z Zt bs bm vg'):=by
 obtain⟨below,M,fr,V⟩:=d;simp only[gnV] at*;obtain⟨ga,gc,Cc⟩:=z02 h.now.gn;generalize Av:(x.G.map λd=>SX.txt (.gone d)).length=gn at Cc;subst Cc;have Eo:gn<=1000:=by rw[<-Av,qz];exact hG
 have AR:Below w.heap.size w (w.alloc (.cells #[.slice mo M.length mk,.int .i64 fr,.int .i64 V] 25)):=(Below.refl _ w).alloc (qq _) _;have Cd:=qu w (.cells #[.slice mo M.length mk,.int .i64 fr,.int .i64 V] 25);have Ep:=hid h;have AU:=hid (h.below AR);have AV:=hid AR;have Ae:=hid Cd;have BH:=hid (hM.below AR);have Ce:=hid Ca;have Be:=hid (show ∀a,mo=some a->0<M.length->a.block<w.heap.size from λa e Y=>by
  obtain⟨b,off,h1,_,_,_,h4⟩:=hM 0 Y;rw[h1] at e;cases e;exact h4)
 have HH:=hid hH;have E0:=hid hB;have Bf:=hid Bc;have E1:=hid Av;have Cf:bs<w.heap.size:=z00 h.box;have Ek:bm<w.heap.size:=h.now.mlt;have Aj:bs≠bm:=λe=>by
  obtain⟨f0,Ax,_⟩:=h.now.mp;obtain⟨es,ck,AW⟩:=Ax.isMap;rw[<-e,h.box] at AW;cases AW
 clear h hM Ca hH hB Bc hG AR Cd Av;go_enter func38,ntmps38;go_wp2_with fail;generalize w.alloc (.cells #[.slice mo M.length mk,.int .i64 fr,.int .i64 V] 25)=w1 at*;have AX:Below w1.heap.size w1 w1.drew:=(Below.refl _ w1).drew;have Cg:=hid (zil hb Zh x.s.mark fr V x.s.H mo M mk w1.drew (AU.out.below AX).now.hd.toI HH.out (BH.out.below AX) Cb);have A9:=hid AX;clear AX;refine z0l (λW=>W.heap[bs]? =some (.cells (z3E bd bw up hb bm (.slice ga gn gc) x) 80)/\W.heap[w.heap.size]? =some (.cells #[.slice mo M.length mk,.int .i64 fr,.int .i64 V] 25)) [0,1,2,3,4] [5] (by kernel_rfl) (by kernel_rfl) ?_;simp only[qM,wh,qJ,qF,qA];refine zr0.on (v:= .pointer (some ⟨bs,3,none⟩)) (YC.move rfl (by kernel_rfl)) ?_;refine zr0.on (v:= .pointer (some ⟨bs,3,none⟩)) (λW _=> .inl (by kernel_rfl)) ?_;refine zr0.on (v:= .pointer (some ⟨bs,3,none⟩)) (YC.field rfl (by kernel_rfl) λW=>z1L 0 (by omega) W bs) ?_;refine zr0.on (v:= .pointer (some ⟨hb,0,none⟩)) (YC.load rfl (by kernel_rfl) λW hW=>z5W bs 3 hb W (z01 _ _ _ _ hW.1 3 _ rfl)) ?_;refine zr0.on (v:= .agg #[.slice mo M.length mk,.int .i64 fr,.int .i64 V]) (YC.load rfl (by kernel_rfl) λW hW=>z8B w.heap.size mo M.length mk fr V W hW.2) ?_;refine zr0.off (C:=λW=>W.heap[bs]? =some (.cells (z3E bd bw up hb bm (.slice ga gn gc) x) 80)/\W.heap[w.heap.size]? =some (.cells #[.slice mo M.length mk,.int .i64 fr,.int .i64 V] 25)) ⟨AU.out.box,Ae.out⟩ ?_;go_frame;go_wp2_with fail;refine Cg.out.mono ?_;rintro e w2 ⟨rfl,e2, -, -,Aw,v2,Z1, -, -,Ch,Ci, -⟩;obtain⟨Zt,Cj,Ck⟩:=Ch.tight;have A7:=AU.out.below A9.out;obtain⟨BI,Cl⟩:=A7.head Aw Cj (λj hj=>Ci j (Ck j hj));have AY:w2.heap[w.heap.size]? =some (.cells #[.slice mo M.length mk,.int .i64 fr,.int .i64 V] 25):=(Aw.block _ (qe (z00 Ae.out) A9.out.size) (A7.now.hd.out ((A9.out.block _ (z00 Ae.out)).trans Ae.out) (λc e fz k=>by cases k;decide))).trans ((A9.out.block _ (z00 Ae.out)).trans Ae.out)
 have Ak:w2.heap[bs]? =some (.cells (z3E bd bw up hb bm (.slice ga gn gc) x) 80):=(Aw.block _ (qe Cf (qi AV.out.size A9.out.size)) (A7.now.hd.out A7.box (λc e fz k=>by cases k;decide))).trans A7.box;have Cm:z3s w2 mo M:=(BH.out.below A9.out).zkH Aw.size λa e Y=>Aw.block _ (qe (Be.out a e Y) (qi AV.out.size A9.out.size)) (Ce.out a e Y)
 have Cn:z1X w (ZS Z Zh bs bm (.slice ga gn gc)) w2 (ZS Z Zt bs bm (.slice ga gn gc)):=z1X.below AV.out (z1X.below A9.out Cl);go_wp2_with fail;refine z0F.done (C:=λW=>W.heap[bs]? =some (.cells (z3E bd bw up hb bm (.slice ga gn gc) x) 80)/\W.heap[w.heap.size]? =some (.cells #[.slice mo M.length mk,.int .i64 fr,.int .i64 V] 25)) ⟨Ak,AY⟩ ?_;have m4:w2.cell? ⟨bs,4,none⟩=some (.map (some bm)):=z01 _ _ _ _ Ak 4 _ rfl;obtain⟨mf,Co,Ay⟩:=BI.now.mp;have J:=hid BI;have E2:=hid Cn;have Cp:=hid AY;have A4:=hid Ak;have BJ:=hid Cm;have Ac:=hid Co;have Az:=hid Ay;have El:w.heap.size<w2.heap.size:=z00 AY;clear Aw Ch Ci Cj Ck A7 BI Cl AY Ak Cm Cn Co Ay Cg AU Ae BH Ce Be AV A9;go_wp2_with (at_range;refine z3P rfl (.tmp 19) 75 rfl 2 123 zaY zbR bm mc mf rfl Ac.out ?_)
 intro w3 c3 AA Cq Cr Cs BM E3;have Ct:=hid Cq;have Cu:XFr (λj=>j=bm) w2 w3:=XFr.grown (X:=λj=>j=bm) BM (λj hj=>by cases hj);have Bg:Hid (za7 w3 Zt od ⟨below,⟨M,fr,V⟩⟩ AA mf x.s.B):=hid ((za7.start (d:=⟨below,⟨M,fr,V⟩⟩) Az.out Cr).kept λg c e _ q=>BM.block g (z00 q) (by simp));have Bh:=hid Cu;have Er:w2.heap.size<=w2.heap.size:=qq _;clear Cq Cr Cs BM Cu E3 m4 Ac Az;go_wp2_with fail;generalize Cv:w2.heap.size=r at*;have E4:=hid Cv;clear Cv;go_loopw [8] (λ_ W=>∃(f:Int->Option Value) (left:Int->Bool) (cn:Nat),z4k q6 2 W bm r mc f left cn/\za7 W Zt od ⟨below,⟨M,fr,V⟩⟩ left f x.s.B/\XFr (λj=>j=bm) w2 W) (λ_ W=>W.rangeLeft bm r)
 case atStart=>exact⟨mf,AA,c3,Ct.out,Bg.out,Bh.out⟩
 case round=>
  obtain⟨f,left,cn,BN,Cw,Cx⟩:=hrel;have AZ:=hid BN;have AB:=hid Cw;have A1:=hid Cx;have BO:=hid BN.left_eq;clear BN Cw Cx Ct Bg Bh;go_wp2_with (at_next;refine z4O rfl (.tmp 20) rfl 2 zaY bm r mc f left cn rfl AZ.out ?_ ?_)
  .intro AC;have Bi:=AB.out.done AC;have Cy:=AZ.out.map;have BP:∃es ck,w2.heap[bm]? =some (.map es ck):=by
    obtain⟨f0,Ax,_⟩:=J.out.now.mp;exact Ax.isMap
   have AD:=(A1.out.block bs (z00 A4.out) Aj).trans A4.out;have Cz:z5Q wr 0 (.slice ga gn gc) (x.G.map λd=>SX.txt (.gone d)):=z04 J.out.now.gn λg c q=>A1.out.block g (z00 q) (λe=>by
    obtain⟨es,ck,hm⟩:=BP;rw[e,hm] at q;cases q)
   have m6:wr.cell? ⟨bs,6,none⟩=some (.slice ga gn gc):=z01 _ _ _ _ AD 6 _ rfl;have A6:Below wr.heap.size wr (wr.alloc (.cells #[.string (SX.txt (.gone ⟨below,⟨M,fr,V⟩⟩))] 9)):=(Below.refl _ wr).alloc (qq _) _;have Af:=qu wr (.cells #[.string (SX.txt (.gone ⟨below,⟨M,fr,V⟩⟩))] 9);have CB:qs _ ⟨wr.heap.size,0,none⟩=some (.string (SX.txt (.gone ⟨below,⟨M,fr,V⟩⟩))):=z01 _ _ _ _ Af 0 _ rfl;have CC:=z04 Cz λg c q=>A6.block g (z00 q)
   have Av:=E1.out;have Az:=hid Bi;have Ac:=hid Cy;have CE:=hid BP;have AE:=hid AD;have A2:=hid A6;have BQ:=hid CC;have Em:=hid AC;have CF:(x.G.map λd=>SX.txt (.gone d)).length<=1000000:=by rw[Av];omega
   have E5:=hid CF;clear Bi Cy BP AD Cz A6 Af CC Av AC CF AZ AB BO;go_wp2_with (at_builtin;refine z4K rfl (.tmp 45) (.tmp 47) rfl 0 (.slice ga gn gc) (x.G.map λd=>SX.txt (.gone d)) rfl BQ.out wr.heap.size _ rfl CB E5.out (qh _) ?_)
   intro v7 w7 Ag B0 Bj;have BR:∀(g:Nat) (c:Array Value) (e:qn),e≠9->(wr.alloc (.cells #[.string (SX.txt (.gone ⟨below,⟨M,fr,V⟩⟩))] 9)).heap[g]? =some (.cells c e)->w7.heap[g]? =(wr.alloc (.cells #[.string (SX.txt (.gone ⟨below,⟨M,fr,V⟩⟩))] 9)).heap[g]? :=λg c e he q=>B0.block g (z00 q) (λe2=>z0e BQ.out q (λe3=>he e3.symm) e2.symm)
   have Al:=(BR bs _ _ (by decide) ((A2.out.block bs (z00 AE.out)).trans AE.out)).trans ((A2.out.block bs (z00 AE.out)).trans AE.out);have Bl:w7.heap[bm]? =wr.heap[bm]? :=(B0.block bm (qe Ac.out.lt A2.out.size) (λe=>by
    obtain⟨es,ck,hm⟩:=Ac.out.isMap;rcases BQ.out.2 with⟨Y,_⟩|⟨g',cap,CG,Y,_,a2,_⟩
    .rw[Y] at e;cases e
    .rw[Y] at e;have e2:bm=g':=qt e;rw[<-e2,A2.out.block bm Ac.out.lt,hm] at a2;cases a2)).trans (A2.out.block bm Ac.out.lt)
   have m6:w7.cell? ⟨bs,6,none⟩=some (.slice ga gn gc):=z01 _ _ _ _ Al 6 _ rfl;have f6:=hfz Al 6;obtain⟨a7,c7,BS⟩:=z02 Ag;have BU:=hid BS;have E6:=hid Ag;have AF:=hid B0;have BV:=hid Bj;have E7:=hid BR;have Bm:=hid Al;have CH:=hid Bl;generalize BW:((x.G.map λd=>SX.txt (.gone d))++[SX.txt (.gone ⟨below,⟨M,fr,V⟩⟩)]).length=n7 at BS;subst BS;clear Ag B0 Bj BR Al Bl CB;go_wp2_with fail
   go_end0
   have BX:wr.heap.size<=w7.heap.size:=qi A2.out.size AF.out.size;have B3:∀j,j<w2.heap.size->j≠bm->j≠bs->(wH ga gn gc).ownBlock≠some j->(w7.setCell ⟨bs,6,none⟩ (.slice a7 n7 c7)).heap[j]? =w2.heap[j]? :=λj hj h1 h2 h3=>by
    rw[Below.heap_setCell w7 ⟨bs,6,none⟩ _ j h2];have CI:=qe hj A1.out.size;exact((AF.out.block j (qe CI A2.out.size) (λe=>h3 e.symm)).trans (A2.out.block j CI)).trans (A1.out.block j hj h1)
   have A8:∀(g:Nat) (c:Array Value) (e:qn),e≠9->e≠80->w2.heap[g]? =some (.cells c e)->(w7.setCell ⟨bs,6,none⟩ (.slice a7 n7 c7)).heap[g]? =w2.heap[g]? :=λg c e h1 h2 q=>B3 g (z00 q) (λe2=>by
    obtain⟨es,ck,hm⟩:=CE.out;rw[e2,hm] at q;cases q) (λe2=>by
    rw[e2,A4.out] at q;cases q;exact h2 rfl) (λe2=>z0e J.out.now.gn q (λe3=>h1 e3.symm) e2)
   have E8:∀(g:Nat) (c:Array Value) (e:qn),e≠9->e≠80->wr.heap[g]? =some (.cells c e)->(w7.setCell ⟨bs,6,none⟩ (.slice a7 n7 c7)).heap[g]? =wr.heap[g]? :=λg c e h1 h2 q=>by
    have E9:g≠bs:=λe2=>by rw[e2,AE.out] at q;cases q;exact h2 rfl
    have h3:=A2.out.block g (z00 q);rw[Below.heap_setCell w7 ⟨bs,6,none⟩ _ g E9,E7.out g c e h1 (h3.trans q),h3]
   have Ea:XFr (ZS Z Zt bs bm (.slice ga gn gc)) w2 (w7.setCell ⟨bs,6,none⟩ (.slice a7 n7 c7)):=⟨AF.out.os.trans (A2.out.os.trans A1.out.os),AF.out.tape.trans (A2.out.tape.trans A1.out.tape),AF.out.output.trans (A2.out.output.trans A1.out.output),by rw[z0g];exact qi A1.out.size BX,λj hj hn=>B3 j hj (λe=>hn (.inr (.inr (.inr (.inl e))))) (λe=>hn (.inr (.inr (.inl e)))) (λe=>hn (.inr (.inr (.inr (.inr e)))))⟩;have Eb:∀j,Z j->(w7.setCell ⟨bs,6,none⟩ (.slice a7 n7 c7)).heap[j]? =w2.heap[j]? :=λj hj=>B3 j (J.out.wt.lt j hj) (λe=>J.out.zm (e▸hj)) (λe=>J.out.wt.kind.out A4.out (by unfold KD;decide) (e▸hj)) (λe=>by
    rcases J.out.now.gn.2 with⟨Y,_⟩|⟨g',cap,CG,Y,_,a2,_⟩
    .rw[Y] at e;cases e
    .rw[Y] at e;have e2:g'=j:=qt e;exact J.out.wt.kind.out a2 (by unfold KD;decide) (e2▸hj))
   have Ec:(w7.setCell ⟨bs,6,none⟩ (.slice a7 n7 c7)).heap[1]? =w2.heap[1]? :=B3 _ J.out.gl (λe=>by
    obtain⟨es,ck,hm⟩:=CE.out;have Y:=J.out.wid 0 (by omega);rw[e] at Y;simp[qs,hm] at Y) (λe=>by
    have Y:=J.out.wid 0 (by omega);rw[e] at Y;have h9:w2.cell? ⟨bs,0,none⟩=some (.pointer (some ⟨bd,0,none⟩)):=z01 _ _ _ _ A4.out 0 _ rfl;rw[h9] at Y;cases Y) (λe=>by
    rcases J.out.now.gn.2 with⟨Y,_⟩|⟨g',cap,CG,Y,_,a2,a3⟩
    .rw[Y] at e;cases e
    .exact J.out.zgv e)
   have CJ:(wH a7 n7 c7).ownBlock≠some 1:=λe=>by
    have h1:=BV.out;rw[BU.out,BW] at h1;rcases h1 with k|k
    .exact J.out.zgv (k.symm.trans e)
    .rw[k] at e;have e2:=qt e;have h5:=A1.out.size;have h6:=J.out.gl;have e3:wr.heap.size+1=1:=by simpa using e2
     omega
   refine⟨rfl,Zt,.slice a7 n7 c7,⟨J.out.wt.kept (by rw[z0g];exact qi A1.out.size BX) Eb,qo w7 bs 6 _ _ _ Bm.out,⟨J.out.now.hd.kept λg c e he q=>A8 g c e (by rcases he with rfl | rfl | rfl | rfl<;>decide) (by rcases he with rfl | rfl | rfl | rfl<;>decide) q,⟨f,Ac.out.block ((Below.heap_setCell w7 ⟨bs,6,none⟩ _ bm (λe=>Aj e.symm)).trans CH.out),?_⟩,?_⟩,J.out.zm,J.out.zg,J.out.zgh,CJ,λi hi=>(qj (a:=⟨1,i,none⟩) Ec).trans (J.out.wid i hi),by rw[z0g];exact qe J.out.gl (qi A1.out.size BX)⟩,E2.out.trans ⟨Ea,?_⟩⟩
   .refine⟨λc hc=>?_,Az.out.2⟩;obtain⟨v,q1,q2,q3⟩:=Az.out.1 c hc;exact⟨v,q1,q2.kept λg c e he q=>E8 g c e (by rcases he with rfl | rfl | ⟨rfl,_⟩<;>decide) (by rcases he with rfl | rfl | ⟨rfl,_⟩<;>decide) q,q3⟩
   .have hO:z5Q w7 0 (.slice a7 n7 c7) ((x.G.map λd=>SX.txt (.gone d))++[SX.txt (.gone ⟨below,⟨M,fr,V⟩⟩)]):=by
     have Y:=E6.out;rw[BU.out,BW] at Y;exact Y
    have hE:((SX.z0Q ⟨below,⟨M,fr,V⟩⟩ x).G.map λd=>SX.txt (.gone d))=(x.G.map λd=>SX.txt (.gone d))++[SX.txt (.gone ⟨below,⟨M,fr,V⟩⟩)]:=by
     show((x.G++[(⟨below,⟨M,fr,V⟩⟩:SX.Gd)]).map λd=>SX.txt (.gone d))=_;rw[List.map_append];rfl
    rw[hE];exact z04 hO λg c q=>Below.heap_setCell w7 ⟨bs,6,none⟩ _ g (λe=>by
     rw[e,Bm.out] at q;cases q)
   .rintro j (e|e|e|e|e)
    .exact .inl (.inl e)
    .exact .inl (.inr (.inl e))
    .exact .inl (.inr (.inr (.inl e)))
    .exact .inl (.inr (.inr (.inr (.inl e))))
    .rw[BU.out,BW] at BV;rcases BV.out with k|k
     .exact .inl (.inr (.inr (.inr (.inr (k.symm.trans e)))))
     .rw[k] at e;have e2:=qt e;have h5:=A1.out.size;have e3:wr.heap.size+1=j:=by simpa using e2
      exact .inr (by omega)
  .intro s v U c5 hs hf hl AG Bo B5 Bp Es;obtain⟨O,B6,rfl⟩:=AB.out.2 s (by rw[hf];simp);obtain⟨bv,q1,q2,q3⟩:=AB.out.1 O B6;rw[hf] at q1;have hv:=qt q1;subst hv;rw[hl,if_pos rfl] at q2;have A8:∀(g:Nat) (c:Array Value) (e:qn),wr.heap[g]? =some (.cells c e)->U.heap[g]? =wr.heap[g]? :=λg c e q=>B5.block g (z00 q) (λe2=>by
    have e3:g=r:=(qt e2).symm▸rfl;obtain⟨_,_,_,_,e4⟩:=AZ.out.iter;rw[<-e3,q] at e4;cases e4)
   have q5:SrT U Zt bv O.S:=q2.kept λg c e _ q=>A8 g c e q
   obtain⟨bo,bc,CK,BZ⟩:=z0r.z08 q5.own;subst CK;have AH:=AB.out.kept λg c e _ q=>A8 g c e q
   have Ah:XFr (λj=>j=bm) w2 U:=A1.out.trans (XFr.grown (X:=λj=>j=r) B5 (λj hj=>by cases hj;exact .inl rfl)) (λj hj=> .inr (by rw[hj,E4.out];exact qq _));have A6:Below U.heap.size U (U.alloc (.cells #[.int .i64 O.zto,.int .i64 (od O.n),.slice bo O.S.length bc] 123)):=(Below.refl _ U).alloc (qq _) _;have Af:=qu U (.cells #[.int .i64 O.zto,.int .i64 (od O.n),.slice bo O.S.length bc] 123);have Am:=(Ah.block _ (z00 Cp.out) (by omega)).trans Cp.out;have AJ:=(Ah.block _ (z00 A4.out) Aj).trans A4.out;have Ad:=(A6.block _ (z00 Am)).trans Am;have C0:z3s U mo M:=BJ.out.zkH Ah.size λa e Y=>Ah.block _ (by
    obtain⟨b,off,k1,_,_,_,k4⟩:=BJ.out 0 Y;rw[k1] at e;cases e;exact k4) (λe2=>by
    obtain⟨f0,Ax,_⟩:=J.out.now.mp;obtain⟨es,ck,AW⟩:=Ax.isMap;subst e;exact BJ.out.zno Y (by rw[e2];exact AW))
   have Ao:=hid AG;have Bq:=hid AH;have C2:=hid Ah;have A2:=hid A6;have Et:=hid q5;by_cases Ed:O.n<below
   .have n2:qs _ ⟨U.heap.size,2,none⟩=some (.slice bo O.S.length bc):=z01 _ _ _ _ Af 2 _ rfl;have g0:qs _ ⟨w.heap.size,0,none⟩=some (.slice mo M.length mk):=z01 _ _ _ _ Ad 0 _ rfl;have g1:qs _ ⟨w.heap.size,1,none⟩=some (.int .i64 fr):=z01 _ _ _ _ Ad 1 _ rfl;have g2:qs _ ⟨w.heap.size,2,none⟩=some (.int .i64 V):=z01 _ _ _ _ Ad 2 _ rfl;have Ap:Below U.heap.size U ((U.alloc (.cells #[.int .i64 O.zto,.int .i64 (od O.n),.slice bo O.S.length bc] 123)).alloc (.cells #[.slice mo M.length mk,.int .i64 fr,.int .i64 V] 25)):=A6.alloc (by simp) _;have C3:=qu (U.alloc (.cells #[.int .i64 O.zto,.int .i64 (od O.n),.slice bo O.S.length bc] 123)) (.cells #[.slice mo M.length mk,.int .i64 fr,.int .i64 V] 25);simp only[rj] at C3;have HC:=zhK bo (some ⟨U.heap.size+1,0,none⟩) O.S [⟨M,fr,V⟩] bc 1 _ (BZ.below Ap) (E0.out O B6) (zez.one (g:=⟨M,fr,V⟩) C3 (C0.below Ap)) (by simp) (λi hi=>by
     have Ee:i=0:=by simp at hi;omega
     subst Ee;exact Cb)
    rw[zcs] at HC;have HC:=hid HC;have CM:=(Below.heap_alloc _ (.cells #[.slice mo M.length mk,.int .i64 fr,.int .i64 V] 25) U.heap.size (by simp)).trans Af;have AK:=hid Ap;have C4:=hid CM;have Aq:=hid AJ;have Ef:=hid (show f O.n≠none from by rw[hf];simp);clear A6 Af Am AJ Ad C0 AG AH Ah q5 q2 BZ Ap C3 CM q1 Bp hf A8 B5;go_wp2_with fail;refine HC.out.mono ?_;rintro e w8 ⟨v8,rfl,Ai,C5⟩;obtain⟨vo,vc,rfl,Eg⟩:=z0r.z08 Ai;generalize CN:HD.kp (SX.goN ⟨M,fr,V⟩) O.S=N8 at*;have AL:Below U.heap.size U w8:=AK.out.trans (C5.mono AK.out.size);have Ba:=(C5.block _ (z00 C4.out)).trans C4.out;have Br:=(AL.block _ (z00 Aq.out)).trans Aq.out;have n2:w8.cell? ⟨U.heap.size,2,none⟩=some (.slice bo O.S.length bc):=z01 _ _ _ _ Ba 2 _ rfl;have f2:=hfz Ba 2;have C6:=hid Ba;have Bt:=hid Br;have CO:=hid Ai;have Bu:=hid AL;have Eh:=hid CN;clear Ba Br Ai AL Eg CN C5 HC g0 g1 g2;go_wp2_with fail;have CP:=qo w8 U.heap.size 2 _ _ (.slice vo N8.length vc) C6.out;have Bv:=(Below.heap_setCell w8 ⟨U.heap.size,2,none⟩ (.slice vo N8.length vc) bs (λe=>by have:=z00 Aq.out;simp only at e;omega)).trans Bt.out;have Ar:Below U.heap.size U (w8.setCell ⟨U.heap.size,2,none⟩ (.slice vo N8.length vc)):=Bu.out.trans ((Below.refl _ w8).setCell (p:=⟨U.heap.size,2,none⟩) (qq _) _);have Bw:SrT (w8.setCell ⟨U.heap.size,2,none⟩ (.slice vo N8.length vc)) Zt (.slice vo N8.length vc) N8:=(SrT.z08 CO.out (λj hj=>by
     have h1:=J.out.now.hd.lt j hj;have h2:=C2.out.size;simp only[rj];omega)).kept λg c e he q=>Below.heap_setCell w8 ⟨U.heap.size,2,none⟩ _ g (λe2=>by
      simp only at e2;rw[e2,C6.out] at q;cases q;rcases he with e|e|⟨e,_⟩<;>revert e<;>decide)
    have C8:=hid CP;have By:=hid Bv;have A5:=hid Ar;have CQ:=hid Bw;have CS:=Ao.out.map.lt;have CU:=Ao.out.lt;have CV:=z00 Aq.out;have Bz:=hid (Ao.out.block (Ar.block bm CS) (Ar.block r CU));clear CP Bv Ar Bw C6 Bt CO Bu n2 f2 C4 AK;generalize w8.setCell ⟨U.heap.size,2,none⟩ (.slice vo N8.length vc)=w9 at*;refine z0l (λW=>W.heap[bs]? =some (.cells (z3E bd bw up hb bm (.slice ga gn gc) x) 80)/\W.heap[U.heap.size]? =some (.cells #[.int .i64 O.zto,.int .i64 (od O.n),.slice vo N8.length vc] 123)) [0,1,2,3,4,5] [6] (by kernel_rfl) (by kernel_rfl) ?_;simp only[qM,wh,qJ,qF,qA];refine zr0.on (v:= .pointer (some ⟨bs,3,none⟩)) (YC.move rfl (by kernel_rfl)) ?_;refine zr0.on (v:= .pointer (some ⟨bs,3,none⟩)) (λW _=> .inl (by kernel_rfl)) ?_;refine zr0.on (v:= .pointer (some ⟨bs,4,none⟩)) (YC.field rfl (by kernel_rfl) λW=>z1L 1 (by omega) W bs) ?_;refine zr0.on (v:= .map (some bm)) (YC.load rfl (by kernel_rfl) λW hW=>z4X bs 4 bm W (z01 _ _ _ _ hW.1 4 _ rfl)) ?_;refine zr0.on (v:= .int .i64 O.n) (YC.move rfl (by kernel_rfl)) ?_;refine zr0.on (v:=zal O.zto (od O.n) (.slice vo N8.length vc)) (YC.load rfl (by kernel_rfl) λW hW=>zjN U.heap.size O.zto (od O.n) vo N8.length vc W hW.2) ?_;refine zr0.off (C:=λW=>W.heap[bs]? =some (.cells (z3E bd bw up hb bm (.slice ga gn gc) x) 80)/\W.heap[U.heap.size]? =some (.cells #[.int .i64 O.zto,.int .i64 (od O.n),.slice vo N8.length vc] 123)) ⟨By.out,C8.out⟩ ?_;go_frame;go_wp2_with (at_mapUpdate;refine z4n rfl _ _ _ 75 rfl 2 123 zaY zbR bm r mc f (z0m left O.n) c5 rfl (Bz.out.block (w':=w9.drew) rfl rfl) (by unfold qS;omega) O.n hs _ rfl rfl Ef.out ?_;intro Bb BA BB CW;have BC:=hid BA;have A3:=hid BB;clear BA BB CW)
    have Au:=A5.out.size;have AM:=(A3.out.block bs (qe CV Au) (λe=>Aj (qt e))).trans By.out;have BD:=(A3.out.block U.heap.size (z00 C8.out) (λe=>by have e2:U.heap.size=bm:=qt e;omega)).trans C8.out;refine z0F.done (C:=λW=>W.heap[bs]? =some (.cells (z3E bd bw up hb bm (.slice ga gn gc) x) 80)/\W.heap[U.heap.size]? =some (.cells #[.int .i64 O.zto,.int .i64 (od O.n),.slice vo N8.length vc] 123)) ⟨AM,BD⟩ ?_;have AO:∃es ck,w9.heap[bm]? =some (.map es ck):=Bz.out.map.isMap;have key:∀(g:Nat) (c:Array Value) (e:qn),w9.heap[g]? =some (.cells c e)->Bb.heap[g]? =w9.heap[g]? :=λg c e q=>A3.out.block g (z00 q) (λe2=>by
     obtain⟨es,ck,hm⟩:=AO;have e3:g=bm:=qt e2;rw[e3,hm] at q;cases q)
    have AP:SrT Bb Zt (.slice vo N8.length vc) N8:=CQ.out.kept λg c e _ q=>key g c e q
    have AQ:za7 Bb Zt od ⟨below,⟨M,fr,V⟩⟩ left f x.s.B:=Bq.out.kept λg c e _ q=>(key g c e ((A5.out.block g (z00 q)).trans q)).trans (A5.out.block g (z00 q))
    have C9:=hid (AQ.put Bf.out B6 Ed (by rw[Eh.out];exact AP) q3);have BF:XFr (λj=>j=bm) w2 Bb:=C2.out.trans (X':=λj=>j=bm) ⟨A3.out.os.trans A5.out.os,A3.out.tape.trans A5.out.tape,A3.out.output.trans A5.out.output,qi Au A3.out.size,λj hj hn=>(A3.out.block j (qe hj Au) (λe=>hn (qt e))).trans (A5.out.block j hj)⟩ (λj hj=> .inl hj);have CX:=hid BF;have CY:=hid BC.out.left_eq;clear Au AM BD AO key AP AQ BF;go_wp2_with fail;go_roundw
    case rel=>exact⟨_,z0m left O.n,c5,BC.out,C9.out,CX.out⟩
    case measure=>rw[CY.out,BO.out];exact Bo
   .have CZ:=hid A6;clear A6 Af Am AJ Ad C0 AG AH Ah q5 q2 BZ q1 Bp hf A8 B5;go_wp2_with fail;have BG:=hid (Ao.out.zk4 (.cells #[.int .i64 O.zto,.int .i64 (od O.n),.slice bo O.S.length bc] 123));have Ei:=hid BG.out.left_eq;have Ej:=hid ((Bq.out.pass Bf.out B6 (show ¬O.n<below by omega)).kept λg c e _ q=>CZ.out.block g (z00 q));go_roundw
    case rel=>exact⟨f,z0m left O.n,c5,BG.out,Ej.out,C2.out.trans (XFr.below (X:=λj=>j=bm) CZ.out) (λj hj=> .inl hj)⟩
    case measure=>rw[Ei.out,BO.out];exact Bo
end
section
open Go.RowKit
theorem zdp (x:LB.Mat)(w:World):Calls q6 79 #[mv x] w λe w'=>e= .returned (.bool (!LB.zln x))/\Below w.heap.size w w':=by
 have Y:Hid (LB.zln x=(LB.name x.nm&&LB.zjQ x.vl&&decide (0<=x.op/\x.op<=3))):=rfl;generalize LB.zln x=B at*;obtain⟨nm,op,vl⟩:=x;simp only at Y;go_enter func79,ntmps79;go_wp2_with fail;refine(zdm nm _).mono ?_;rintro e w2 ⟨rfl,h⟩;have G:=hid (((Below.refl _ w).alloc (qq _) (.cells #[.string nm,.int .i64 op,.string vl] 62)).trans (h.mono (by simp)));have U:w2.cell? ⟨w.heap.size,1,none⟩=some (.int .i64 op):=(h.cell (p:=⟨w.heap.size,1,none⟩) (by simp)).trans (by simp);have A1:w2.cell? ⟨w.heap.size,2,none⟩=some (.string vl):=(h.cell (p:=⟨w.heap.size,2,none⟩) (by simp)).trans (by simp);have A2:=G.out.size;have A3:w.heap.size<w2.heap.size:=qe (by simp) h.size;clear h;cases hn:LB.name nm with
 | false=>
  have J:Hid (B=false):=by show _=_;rw[Y.out,hn];rfl
  go_wp2_with fail;go_ret;exact⟨z05 (by rw[J.out];rfl),G.out⟩
 | true=>
  go_wp2_with fail;refine(z8t vl _).mono ?_;rintro e w3 ⟨rfl,O⟩;have q:=hid (G.out.trans (O.mono A2));have A4:w3.cell? ⟨w.heap.size,1,none⟩=some (.int .i64 op):=(O.cell (p:=⟨w.heap.size,1,none⟩) A3).trans U;clear O U A1;cases hv:LB.zjQ vl with
  | false=>
   have J:Hid (B=false):=by show _=_;rw[Y.out,hn,hv];rfl
   go_wp2_with fail;go_ret;exact⟨z05 (by rw[J.out];rfl),q.out⟩
  | true=>
   have J:Hid (B=decide (0<=op/\op<=3)):=by show _=_;rw[Y.out,hn,hv];rfl
   by_cases h1:op<0
   .have V:Hid (B=false):=by show _=_;rw[J.out];exact decide_eq_false (by omega)
    go_wp2_with fail;go_ret;exact⟨z05 (by rw[V.out];rfl),q.out⟩
   .by_cases h2:3<op
    .have V:Hid (B=false):=by show _=_;rw[J.out];exact decide_eq_false (by omega)
     go_wp2_with fail;go_ret;exact⟨z05 (by rw[V.out];rfl),q.out⟩
    .have V:Hid (B=true):=by show _=_;rw[J.out];exact decide_eq_true (by omega)
     go_wp2_with fail;go_ret;exact⟨z05 (by rw[V.out,decide_eq_false (by omega),decide_eq_false (by omega)];rfl),q.out⟩
theorem z7d (G:Option Addr)(m:List LB.Mat)(cap:Nat)(w:World)(J:z3s w G m)(hl:m.length<=1000):
  Calls q6 35 #[.slice G m.length cap] w λe w'=>e= .returned (.bool (LB.asked m))/\Below w.heap.size w w':=by
 by_cases q:m.length<=8
 .have O:(m.length:Int)<=8:=by omega
  have U:Hid (LB.asked m= !m.any λx=> !LB.zln x):=by
   show _=_;rw[zgc,LB.asked,decide_eq_true q];rfl
  have Y:=hid (z2W G m cap 79 #[] (λx=> !LB.zln x) w J hl (enters_of func79 (by kernel_rfl) rfl) (λW _ x _=>zdp x W));clear J q;generalize LB.asked m=B at*;generalize (m.any λx=> !LB.zln x)=C at*;go_enter func35,ntmps35;go_wp2_with fail;refine Y.out.mono ?_;rintro e w2 ⟨rfl,h⟩;have V:=hid h;clear h Y;go_wp2_with fail;go_ret;exact⟨z05 U.out.symm,V.out⟩
 .have O:¬(m.length:Int)<=8:=by omega
  have U:Hid (LB.asked m=false):=by
   show _=_;rw[LB.asked,decide_eq_false q];rfl
  clear J q;generalize LB.asked m=B at*;go_enter func35,ntmps35;go_wp2_with fail;go_ret;exact⟨z05 U.out.symm,Below.refl _ _⟩
end
section
open Go.RowKit Go.Maps
def zbs (w:World)(bs bw bd cnt:Nat)(Z:Nat->Prop)(D:DK.M)(p:Int)(hb bm mc:Nat)(Zh:Nat->Prop)(vg:Value)(x:SX.St)(od:Int->Int)(g:Gn)(h:Ending)(w':World):Prop:=
 (LB.asked g.M=false/\h= .returned (.iface 56 (.int .i64 1))/\Below w.heap.size w w')\/
 (LB.asked g.M=true/\h= .returned (er (WL.z1V kpt (SX.txt (.gone ⟨x.s.nx,g⟩)) D p).1)/\∃Z' Zt vg',
  z0H w' bs bw bd (cnt+4) Z' (WL.z1V kpt (SX.txt (.gone ⟨x.s.nx,g⟩)) D p).2.1 (WL.z1V kpt (SX.txt (.gone ⟨x.s.nx,g⟩)) D p).2.2 (decide ((WL.z1V kpt (SX.txt (.gone ⟨x.s.nx,g⟩)) D p).1≠0)) (decide ((WL.z1V kpt (SX.txt (.gone ⟨x.s.nx,g⟩)) D p).1=0)) hb bm mc Zt vg' (if(WL.z1V kpt (SX.txt (.gone ⟨x.s.nx,g⟩)) D p).1=0 then SX.zl1 g x else x) od/\z1X w (ZS Z Zh bs bm vg) w' (ZS Z' Zt bs bm vg'))
theorem ziV {w:World}{bs bw bd cnt hb bm mc:Nat}{Z Zh:Nat->Prop}{D:DK.M}{p:Int}{vg:Value}{x:SX.St}{od:Int->Int}(h:z0H w bs bw bd cnt Z D p false true hb bm mc Zh vg x od)(g:Gn)(mo:Option Addr)(q:Nat)(hM:z3s w mo g.M)(Av:∀a,mo=some a->0<g.M.length->¬ZS Z Zh bs bm vg a.block)(Ad:g.M.length<=1000)
  (h2: -9223372036854775808<=g.fr/\g.fr<=9223372036854775807) (h3: -9223372036854775808<=g.tt/\g.tt<=9223372036854775807) (h4:∀i,i<g.M.length->(LB.am g.M i).nm.size<=1000/\(LB.am g.M i).vl.size<=1000/\ -9223372036854775808<=(LB.am g.M i).op/\(LB.am g.M i).op<=9223372036854775807)
  (hF:SX.Fit x) (hB:∀b∈x.s.B,HD.Good b.S) (B5:cnt<=80000) (Aw:DK.Fine 50000000 D) (AP:mc<=100000) (hG:x.G.length<200) (Ax:LB.asked g.M=true->(SX.txt (.gone ⟨x.s.nx,g⟩)).size<=60000):
  Calls q6 11 #[.pointer (some ⟨bs,0,none⟩),gnV mo q g] w λen w'=>zbs w bs bw bd cnt Z D p hb bm mc Zh vg x od g en w':=by
 obtain⟨M,fr,tt⟩:=g;simp only[gnV] at*;obtain⟨ga,gc,Ay⟩:=z02 h.now.gn;generalize Az:(x.G.map λd=>SX.txt (.gone d)).length=gn at Ay;subst Ay;have B6:(gn:Int)<200:=by rw[<-Az,qz];omega
 have A1:Below w.heap.size w (w.alloc (.cells #[.slice mo M.length q,.int .i64 fr,.int .i64 tt] 25)):=(Below.refl _ w).alloc (qq _) _;have Ae:=qu w (.cells #[.slice mo M.length q,.int .i64 fr,.int .i64 tt] 25);have h1:=h.below A1;have AA:=hM.below A1;have AB:=hid (z1e h1);have AC:=hid (z7d mo M q _ AA Ad);have c0:qs _ ⟨w.heap.size,0,none⟩=some (.slice mo M.length q):=z01 _ _ _ _ Ae 0 _ rfl;have AD:=hid h1;have Af:=hid A1;have Ag:=hid Ae;have HM:=hid hM;have AE:=hid Av;have HF:=hid hF;have AQ:=hid Aw;have AR:=hid hB;have AU:=hid Ax;have H4:=hid h4;have Ah:=hid hG;have B3:bs<w.heap.size:=z00 h.box;clear h hM Av hF Aw hB Ax h4 A1 Ae h1 AA Az hG;go_enter func11,ntmps11;go_wp2_with fail;generalize w.alloc (.cells #[.slice mo M.length q,.int .i64 fr,.int .i64 tt] 25)=w1 at*;refine AB.out.mono ?_;rintro e w0 ⟨rfl,Ai⟩;have Ai:=Ai.symm;subst Ai;clear AB;go_wp2_with fail;refine AC.out.mono ?_;rintro e w2 ⟨rfl,A2⟩;have A3:=AD.out.below A2;have AF:=(A2.block _ (z00 Ag.out)).trans Ag.out;have A7:=Af.out.trans (A2.mono Af.out.size);have m5:w2.cell? ⟨bs,5,none⟩=some (.int .i64 x.s.nx):=z01 _ _ _ _ A3.box 5 _ rfl;have m6:w2.cell? ⟨bs,6,none⟩=some (.slice ga gn gc):=z01 _ _ _ _ A3.box 6 _ rfl;have AG:=hid A3;have A4:=hid AF;have Aj:=hid A7;clear A3 AF A7 A2 AC AD Ag Af c0;cases hask:LB.asked M with
 | false=>
  have HA:=hid hask;clear hask;go_wp2_with fail;go_ret;exact .inl ⟨HA.out,rfl,Aj.out⟩
 | true=>
  have HA:=hid hask;clear hask;have Ba:=HF.out.nx;go_wp2_with fail;have hdr:Below w2.heap.size w2 w2.drew:=(Below.refl _ w2).drew;have AH:=hid (ziZ x.s.nx ⟨M,fr,tt⟩ mo q w2.drew ((HM.out.below Aj.out).below hdr) Ad (by omega) h2 h3 H4.out);have AJ:=hid hdr;clear hdr;refine z0l (λW=>Below w2.heap.size w2 W) [0,1,2,3,4,5] [6,7] (by kernel_rfl) (by kernel_rfl) ?_;simp only[qM,wh,qJ,qF,qA];refine zr0.on (v:= .pointer (some ⟨bs,0,none⟩)) (YC.move rfl (by kernel_rfl)) ?_;refine zr0.on (v:= .pointer (some ⟨bs,0,none⟩)) (λW _=> .inl (by kernel_rfl)) ?_;refine zr0.on (v:= .pointer (some ⟨bs,3,none⟩)) (YC.field rfl (by kernel_rfl) λW=>z2M 3 (by omega) W bs) ?_;refine zr0.on (v:= .pointer (some ⟨bs,5,none⟩)) (YC.field rfl (by kernel_rfl) λW=>z1L 2 (by omega) W bs) ?_;refine zr0.on (v:= .int .i64 x.s.nx) (YC.load rfl (by kernel_rfl) λW hW=>zaI bs 5 x.s.nx W ((hW.cell (p:=⟨bs,5,none⟩) (z00 AG.out.box)).trans m5)) ?_;refine zr0.on (v:= .agg #[.slice mo M.length q,.int .i64 fr,.int .i64 tt]) (YC.load rfl (by kernel_rfl) λW hW=>z8B w.heap.size mo M.length q fr tt W ((hW.block _ (z00 A4.out)).trans A4.out)) ?_;refine zr0.off (C:=λW=>Below w2.heap.size w2 W) (by exact AJ.out) ?_;go_frame;go_wp2_with fail;refine AH.out.mono ?_;rintro e w3 ⟨rfl,AK⟩;have V:=hid (show Below w2.heap.size w2 w3 from z0u AJ.out AK);clear AK AH;go_wp2_with fail;refine z0F.on (C:=λW=>Below w2.heap.size w2 W) V.out ?_;have Ak:=AG.out.below V.out;have Al:=hid (zcc Ak (SX.txt (.gone ⟨x.s.nx,⟨M,fr,tt⟩⟩)) (AU.out HA.out) AQ.out (by omega) (by omega));have AV:=hid Ak;clear Ak;go_wp2_with fail;refine z0F.done (C:=λW=>Below w2.heap.size w2 W) V.out ?_;go_wp2_with fail;refine Al.out.mono ?_;rintro e w5 ⟨rfl,Z5,O,A5⟩;have U:z1X w (ZS Z Zh bs bm (.slice ga gn gc)) w5 (ZS Z5 Zh bs bm (.slice ga gn gc)):=z1X.below Aj.out (z1X.below V.out A5)
  have Y:=(V.out.block _ (z00 A4.out)).trans A4.out;have Am:=(A5.fr.block _ (z00 Y) (AV.out.out Y (by unfold KD;decide) (by decide) (λe=>by cases e) (by decide) (by decide))).trans Y;have Ao:z3s w5 mo M:=HM.out.zkH U.fr.size λa e h0=>U.fr.block _ (by
   obtain⟨b,off,k1,_,_,_,k4⟩:=HM.out 0 h0;rw[k1] at e;cases e;exact k4) (AE.out a e h0)
  by_cases h0:(WL.z1V kpt (SX.txt (.gone ⟨x.s.nx,⟨M,fr,tt⟩⟩)) D p).1=0
  .have A8:∀a,mo=some a->0<M.length->¬Zh a.block:=λa e h0 k=>AE.out a e h0 (.inr (.inl k))
   have m5:w5.cell? ⟨bs,5,none⟩=some (.int .i64 x.s.nx):=z01 _ _ _ _ O.box 5 _ rfl;have A6:Below w5.heap.size w5 w5.drew:=(Below.refl _ w5).drew;have AL:=hid (z7o (O.below A6) ⟨x.s.nx,⟨M,fr,tt⟩⟩ mo q (Ao.below A6) A8 Ad HF.out.inv.head AR.out (HF.out.inv.asc.imp λk=>k.1) AP (by have:=Ah.out;omega));have AW:=hid O;have Ap:=hid A6;have AX:=hid U;have Aq:=hid Am;have H0:=hid h0;rw[z1R h0];clear h0 O A5 U Y Am Ao A8 A6 Al;go_wp2_with fail;refine z0l (λW=>W.cell? ⟨bs,5,none⟩=some (.int .i64 x.s.nx)/\W.heap[w.heap.size]? =some (.cells #[.slice mo M.length q,.int .i64 fr,.int .i64 tt] 25)) [0,1,2,3,4,5,6,7,8,9] [10] (by kernel_rfl) (by kernel_rfl) ?_;simp only[qM,wh,qJ,qF,qA];refine zr0.on (v:= .pointer (some ⟨bs,0,none⟩)) (YC.move rfl (by kernel_rfl)) ?_;refine zr0.on (v:= .pointer (some ⟨bs,0,none⟩)) (λW _=> .inl (by kernel_rfl)) ?_;refine zr0.on (v:= .pointer (some ⟨bs,3,none⟩)) (YC.field rfl (by kernel_rfl) λW=>z2M 3 (by omega) W bs) ?_;refine zr0.on (v:= .string (SX.txt (.gone ⟨x.s.nx,⟨M,fr,tt⟩⟩))) (YC.move rfl (by kernel_rfl)) ?_;refine zr0.on (v:= .pointer (some ⟨bs,0,none⟩)) (YC.move rfl (by kernel_rfl)) ?_;refine zr0.on (v:= .pointer (some ⟨bs,0,none⟩)) (λW _=> .inl (by kernel_rfl)) ?_;refine zr0.on (v:= .pointer (some ⟨bs,3,none⟩)) (YC.field rfl (by kernel_rfl) λW=>z2M 3 (by omega) W bs) ?_;refine zr0.on (v:= .pointer (some ⟨bs,5,none⟩)) (YC.field rfl (by kernel_rfl) λW=>z1L 2 (by omega) W bs) ?_;refine zr0.on (v:= .int .i64 x.s.nx) (YC.load rfl (by kernel_rfl) λW hW=>zaI bs 5 x.s.nx W hW.1) ?_;refine zr0.on (v:= .agg #[.slice mo M.length q,.int .i64 fr,.int .i64 tt]) (YC.load rfl (by kernel_rfl) λW hW=>z8B w.heap.size mo M.length q fr tt W hW.2) ?_;refine zr0.off (C:=λW=>W.cell? ⟨bs,5,none⟩=some (.int .i64 x.s.nx)/\W.heap[w.heap.size]? =some (.cells #[.slice mo M.length q,.int .i64 fr,.int .i64 tt] 25)) ⟨by exact m5,Aq.out⟩ ?_
   go_frame;go_wp2_with fail;refine AL.out.mono ?_;rintro e w6 ⟨rfl,AY,AZ,Ar,Au⟩;have A9:=AW.out.below Ap.out;have J:=(Ap.out.block _ (z00 Aq.out)).trans Aq.out;have AM:=(Au.fr.block _ (z00 J) (A9.out J (by unfold KD;decide) (by decide) (λe=>by cases e) (by decide) (by decide))).trans J;have AO:w6.cell? ⟨bs,5,none⟩=some (.int .i64 x.s.nx):=z01 _ _ _ _ Ar.box 5 _ rfl;have HQ:Hid (zbs w bs bw bd cnt Z D p hb bm mc Zh (.slice ga gn gc) x od ⟨M,fr,tt⟩ (.returned .nilIface) w6):=hid (.inr ⟨HA.out,by rw[z1R H0.out],Z5,AY,AZ,by rw[if_pos H0.out];exact Ar,AX.out.trans (z1X.below Ap.out Au)⟩);have B0:=hid (qv AO AM);clear Ar Au A9 J AM AO AL;go_wp2_with fail;refine z0F.done (C:=λW=>W.cell? ⟨bs,5,none⟩=some (.int .i64 x.s.nx)/\W.heap[w.heap.size]? =some (.cells #[.slice mo M.length q,.int .i64 fr,.int .i64 tt] 25)) B0.out ?_;go_wp2_with fail;go_ret;exact HQ.out
  .have Ac:Hid (zbs w bs bw bd cnt Z D p hb bm mc Zh (.slice ga gn gc) x od ⟨M,fr,tt⟩ (.returned (er (WL.z1V kpt (SX.txt (.gone ⟨x.s.nx,⟨M,fr,tt⟩⟩)) D p).1)) w5):=hid (.inr ⟨HA.out,rfl,Z5,Zh,.slice ga gn gc,by rw[if_neg h0];exact O,U⟩);rw[z13 h0] at Ac ⊢;clear h0 O A5 U Y Am Ao Al;go_wp2_with fail;go_ret;exact Ac.out
end
section
open Go.RowKit Go.Maps
def zaX (w:World)(Zh:Nat->Prop)(od:Int->Int)(t:Int)(left:Int->Bool)(f:Int->Option Value)(B:List SX.Blk):Prop:=
 (∀b∈B,(left b.n=true\/t<b.zto)->∃v,f b.n=some (zal b.zto (od b.n) v)/\SrT w Zh v b.S/\ -1<=od b.n/\od b.n<100)/\∀n,f n≠none->∃b∈B,b.n=n/\(left n=true\/t<b.zto)
section
variable {w w' : World} {Zh : Nat → Prop} {od : Int → Int} {t : Int} {left : Int → Bool} {f : Int → Option Value} {B : List SX.Blk}
theorem zaX.start (h:z8D w Zh od f B)(G:∀s,left s=(f s).isSome):zaX w Zh od t left f B:=by
 refine⟨λb hb _=>h.1 b hb,λn q=>?_⟩;obtain⟨b,hb,e⟩:=h.2 n q;refine⟨b,hb,e,.inl ?_⟩;rw[G];cases hf:f n with
 | none=>exact absurd hf q
 | some v=>rfl
theorem zaX.done (h:zaX w Zh od t left f B)(q:∀s,left s=false):z8D w Zh od f (B.filter λb=>decide (t<b.zto)):=by
 refine⟨λb hb=>?_,λn G=>?_⟩
 .obtain⟨J,O⟩:=wE.1 hb;exact h.1 b J (.inr (of_decide_eq_true O))
 .obtain⟨b,hb,e,k⟩:=h.2 n G;rcases k with k|k
  .rw[q] at k;cases k
  .exact⟨b,wE.2 ⟨hb,decide_eq_true k⟩,e⟩
theorem zaX.kept (h:zaX w Zh od t left f B)(k:∀(g:Nat) (c:Array Value) (e:qn),(e=93\/e=107\/(e=98/\¬Zh g))->w.heap[g]? =some (.cells c e)->w'.heap[g]? =w.heap[g]?):zaX w' Zh od t left f B:=by
 refine⟨λb hb q=>?_,h.2⟩;obtain⟨v,G,J,O⟩:=h.1 b hb q;exact⟨v,G,J.kept k,O⟩
theorem zaX.pass (h:zaX w Zh od t left f B)(O:B.Pairwise λb c=>b.n<c.n){q:SX.Blk}(G:q∈B)(U:t<q.zto):zaX w Zh od t (z0m left q.n) f B:=by
 refine⟨λb hb V=>h.1 b hb ?_,λn J=>?_⟩
 .rcases V with k|k
  .exact .inl (by unfold z0m at k;simp only[qI] at k;exact k.1)
  .exact .inr k
 .obtain⟨b,hb,e,k⟩:=h.2 n J;by_cases Y:n=q.n
  .have:=z4U O hb G (by omega);subst this;exact⟨b,hb,e,.inr U⟩
  .refine⟨b,hb,e,?_⟩;rcases k with k|k
   .exact .inl (by simp[z0m,k,Y])
   .exact .inr k
theorem zaX.drop (h:zaX w Zh od t left f B)(V:B.Pairwise λb c=>b.n<c.n){G:SX.Blk}(O:G∈B)(Y:¬t<G.zto):zaX w Zh od t (z0m left G.n) (zhU f G.n) B:=by
 refine⟨λb hb U=>?_,λn q=>?_⟩
 .by_cases J:b.n=G.n
  .have:=z4U V hb O J;subst this;rcases U with k|k
   .simp[z0m] at k
   .exact absurd k Y
  .rw[z2s _ _ _ J];refine h.1 b hb ?_;rcases U with k|k
   .exact .inl (by unfold z0m at k;simp only[qI] at k;exact k.1)
   .exact .inr k
 .by_cases J:n=G.n
  .rw[J,z6J] at q;exact absurd rfl q
  .rw[z2s _ _ _ J] at q;obtain⟨b,hb,e,k⟩:=h.2 n q;refine⟨b,hb,e,?_⟩;rcases k with k|k
   .exact .inl (by simp[z0m,k,J])
   .exact .inr k
end
theorem YC.len {C:World->Prop}{o:Oper}{a:Act}{x:Operand}{b:Nat}{n:Int}(h:o.op= .call {callee:= .builtin .len,args:=#[x],argTypes:=#[75]}) (q:a.eval x= .map (some b)) (G:∀w,C w->∀ty,(uW #[75] ty #[.map (some b)]).run q6 w= .ok (.int .i64 n) w):YC q6 C o (.int .i64 n) a:=λw J=> .inl (by
 unfold execOp;simp only[h,resolve,invoke,builtin,ye,uQ,tF,yh,wR,yX,q,G w J])
theorem zjg {w:World}{bs bw bd cnt hb bm mc:Nat}{Z Zh:Nat->Prop}{D:DK.M}{p:Int}{vg:Value}{x:SX.St}{od:Int->Int}(h:z0H w bs bw bd cnt Z D p false true hb bm mc Zh vg x od)(t:Int)(hF:SX.Fit x)(BC:cnt<=80000)(AX:DK.Fine 50000000 D)(C3:mc+1<=100000)(Av:SX.Few 40 D)(hM:zhV x (SX.z1l t x) od):
  Calls q6 34 #[.pointer (some ⟨bs,0,none⟩),.int .i64 t] w λen w'=>∃c ev,en= .returned (.tuple #[.int .i64 c,ev])/\z2e w bs bw bd cnt Z D p hb bm mc Zh vg x od (SX.z1l t x) od (.returned ev) w':=by
 obtain⟨ga,gc,AY⟩:=z02 h.now.gn;generalize (x.G.map λd=>SX.txt (.gone d)).length=gn at AY;subst AY;have AZ:=hid (z1e h);have HA:=hid (z6E hb bm mc Zh (.slice ga gn gc) x od w h.now hF);have m3:w.cell? ⟨bs,3,none⟩=some (.pointer (some ⟨hb,0,none⟩)):=z01 _ _ _ _ h.box 3 _ rfl;have m4:w.cell? ⟨bs,4,none⟩=some (.map (some bm)):=z01 _ _ _ _ h.box 4 _ rfl;have m5:w.cell? ⟨bs,5,none⟩=some (.int .i64 x.s.nx):=z01 _ _ _ _ h.box 5 _ rfl;have m6:w.cell? ⟨bs,6,none⟩=some (.slice ga gn gc):=z01 _ _ _ _ h.box 6 _ rfl;have HI:=hid h;have HF:=hid hF;have Aw:=hid (hF.inv.asc.imp (λk=>k.1):x.s.B.Pairwise λb c=>b.n<c.n);have HM:=hid hM;have BD:=hid AX;have BF:=hid Av;clear h hF hM AX Av;go_enter func34,ntmps34;go_wp2_with fail;refine AZ.out.mono ?_;rintro e w0 ⟨rfl,AJ⟩;have AJ:=AJ.symm;subst AJ;clear AZ;go_wp2_with fail;refine HA.out.mono ?_;rintro e w1 ⟨J,q,AK,rfl,AL,A4,B0,B3⟩;have AM:Below w1.heap.size w1 (w1.alloc (.cells (z0L J q (.slice ga gn gc) x) 77)):=(Below.refl _ w1).alloc (qq _) _;have A9:=qu w1 (.cells (z0L J q (.slice ga gn gc) x) 77);have AO:=AL.below AM;have Ax:Below w.heap.size w (w1.alloc (.cells (z0L J q (.slice ga gn gc) x) 77)):=A4.trans (AM.mono A4.size);have d1:qs _ ⟨w1.heap.size,1,none⟩=some (.map (some q)):=z01 _ _ _ _ A9 1 _ rfl;obtain⟨mf,B5,Ac⟩:=AO.mp;have Am:=hid AO;have A8:=hid Ax;have Ao:=hid A9;have BG:=hid (show(w1.alloc (.cells (z0L J q (.slice ga gn gc) x) 77)).heap.size=w1.heap.size+1 by simp);have B6:=hid B5;have Ba:=hid Ac;have C4:=A4.size;have BX:=AL.mlt;have Bb:=hid B3;clear AM A9 AO Ax AL A4 HA m3 m4 m5 m6 B5 Ac B3;simp only[z0L];go_wp2_with (at_range;refine z3P rfl (.tmp 20) 75 rfl 2 123 zaY zbR q mc mf rfl B6.out ?_)
 generalize w1.alloc (.cells #[.pointer (some ⟨J,0,none⟩),.map (some q),.int .i64 x.s.nx,.slice ga gn gc] 77)=w2 at*;intro w3 c3 Ad Bc Be Bf AP BH;have Bg:=hid Bc;have Bh:XFr (λj=>j=q) w2 w3:=XFr.grown (X:=λj=>j=q) AP (λj V=>by cases V);have Ay:Hid (zaX w3 AK od t Ad mf x.s.B):=hid ((zaX.start (t:=t) Ba.out Be).kept λg c e _ O=>AP.block g (z00 O) (by simp));have Az:=hid Bh;clear Bc Be Bf AP Bh BH d1 B6 Ba;go_wp2_with fail;generalize BI:w1.heap.size+1=r at*;have BZ:w1.heap.size<r:=by omega
 clear BI;go_loopw [7] (λ_ W=>∃(f:Int->Option Value) (left:Int->Bool) (cn:Nat),z4k q6 2 W q r mc f left cn/\zaX W AK od t left f x.s.B/\XFr (λj=>j=q) w2 W) (λ_ W=>W.rangeLeft q r)
 case atStart=>exact⟨mf,Ad,c3,Bg.out,Ay.out,Az.out⟩
 case round=>
  obtain⟨f,left,cn,AQ,Bi,Bj⟩:=hrel;have Ap:=hid AQ;have Ae:=hid Bi;have A1:=hid Bj;have Bl:=hid AQ.left_eq;clear AQ Bi Bj Bg Ay Az;go_wp2_with (at_next;refine z4O rfl (.tmp 21) rfl 2 zaY q r mc f left cn rfl Ap.out ?_ ?_)
  .intro AA;have hblk:=Ae.out.done AA;have Bm:=Ap.out.map;have BJ:∀j,j<w.heap.size->j≠q:=λj V e=>by omega
   have A5:Below w.heap.size w wr:=⟨A1.out.os.trans A8.out.os,A1.out.tape.trans A8.out.tape,A1.out.output.trans A8.out.output,qi A8.out.size A1.out.size,λj V=>(A1.out.block j (qe V A8.out.size) (BJ j V)).trans (A8.out.block j V)⟩;have Bo:=HI.out.zjK (A5.trans ((Below.refl _ wr).drew));have AB:=(A1.out.block w1.heap.size (z00 Ao.out) (by omega)).trans Ao.out;have Bp:∃es ck,w2.heap[q]? =some (.map es ck):=by
    obtain⟨f0,BM,_⟩:=Am.out.mp;exact BM.isMap
   have U:∀(g:Nat) (c:Array Value) (e:qn),w2.heap[g]? =some (.cells c e)->wr.heap[g]? =w2.heap[g]? :=λg c e O=>A1.out.block g (z00 O) (λe2=>by
    obtain⟨es,ck,hm⟩:=Bp;rw[e2,hm] at O;cases O)
   have Bq:z1v wr.drew J q mc AK (.slice ga gn gc) (SX.z1l t x) od:=⟨Am.out.hd.kept λg c e _ O=>U g c e O,⟨f,Bm.block rfl,λb hb=>by obtain⟨v,r1,r2,r3⟩:=hblk.1 b hb;exact⟨v,r1,r2.below ((Below.refl _ wr).drew),r3⟩,hblk.2⟩,z04 Am.out.gn λg c O=>U g c _ O⟩;obtain⟨f0,⟨D0,A3,_⟩,_⟩:=HI.out.now.mp;obtain⟨D2,Af,_⟩:=Bm;have A6:wr.heap[bm]? =w.heap[bm]? :=A5.block bm A3.lt;have Ag:∀W:World,W.heap[bm]? =w.heap[bm]? ->∀ty,(uW #[75] ty #[.map (some bm)]).run q6 W= .ok (.int .i64 (rl D0)) W:=λW hW ty=>by
    obtain⟨es,ck,q1,q2⟩:=A3;exact uO (P:=q6) (k:=2) (R:=z0D) (n:=mc) (D:=D0) ⟨es,ck,hW.trans q1,q2⟩ zbR ty
   have Ah:∀W:World,W.heap[q]? =wr.heap[q]? ->∀ty,(uW #[75] ty #[.map (some q)]).run q6 W= .ok (.int .i64 (rl D2)) W:=λW hW ty=>by
    obtain⟨es,ck,q1,q2⟩:=Af;exact uO (P:=q6) (k:=2) (R:=z0D) (n:=mc) (D:=D2) ⟨es,ck,hW.trans q1,q2⟩ zbR ty
   have Br:=hid Bo;have HSt:=hid AB;have BN:=hid Bq;have BO:=hid A6;have Bt:=hid Ag;have Bu:=hid Ah;have Bv:=hid A5;clear hblk A5 Bo AB Bp U Bq A3 Af A6 Ag Ah AA Ap Ae Am;generalize (rl D0:Int)=q0 at*;generalize (rl D2:Int)=q2 at*;go_wp2_with fail;refine z0l (λW=>W.heap[bs]? =some (.cells (z3E bd bw true hb bm (.slice ga gn gc) x) 80)/\W.heap[w1.heap.size]? =some (.cells (z0L J q (.slice ga gn gc) x) 77)/\W.heap[bm]? =w.heap[bm]? /\W.heap[q]? =wr.heap[q]?) [0,1,2,3,4,5,6,7,8,9,10] [] (by kernel_rfl) (by kernel_rfl) ?_;simp only[qM,wh,qJ,qF,qA];refine zr0.on (v:= .pointer (some ⟨bs,0,none⟩)) (YC.move rfl (by kernel_rfl)) ?_;refine zr0.on (v:= .pointer (some ⟨bs,0,none⟩)) (λW _=> .inl (by kernel_rfl)) ?_;refine zr0.on (v:= .pointer (some ⟨bs,3,none⟩)) (YC.field rfl (by kernel_rfl) λW=>z2M 3 (by omega) W bs) ?_;refine zr0.on (v:= .pointer (some ⟨bs,4,none⟩)) (YC.field rfl (by kernel_rfl) λW=>z1L 1 (by omega) W bs) ?_;refine zr0.on (v:= .map (some bm)) (YC.load rfl (by kernel_rfl) λW hW=>z4X bs 4 bm W (z01 _ _ _ _ hW.1 4 _ rfl)) ?_;refine zr0.on (v:= .int .i64 q0) (YC.len rfl (by kernel_rfl) λW hW=>Bt.out W hW.2.2.1) ?_;refine zr0.on (v:= .pointer (some ⟨w1.heap.size,1,none⟩)) (YC.field rfl (by kernel_rfl) λW=>z2j 1 (by omega) W w1.heap.size) ?_;refine zr0.on (v:= .map (some q)) (YC.load rfl (by kernel_rfl) λW hW=>z4X w1.heap.size 1 q W (z01 _ _ _ _ hW.2.1 1 _ rfl)) ?_;refine zr0.on (v:= .int .i64 q2) (YC.len rfl (by kernel_rfl) λW hW=>Bu.out W hW.2.2.2) ?_;refine zr0.on (v:= .int .i64 (qW.wrap (q0-q2))) (λW _=> .inl (by kernel_rfl)) ?_;refine zr0.on (v:= .int .i64 (qW.wrap (q0-q2))) (λW _=> .inl (by kernel_rfl)) ?_;refine zr0.fin (C:=λW=>W.heap[bs]? =some (.cells (z3E bd bw true hb bm (.slice ga gn gc) x) 80)/\W.heap[w1.heap.size]? =some (.cells (z0L J q (.slice ga gn gc) x) 77)/\W.heap[bm]? =w.heap[bm]? /\W.heap[q]? =wr.heap[q]?) ⟨Br.out.box,HSt.out,BO.out,rfl⟩ ?_
   go_frame;generalize qW.wrap (q0-q2)=qc at*;have A2:wr.drew.heap[w1.heap.size]? =some (.cells (z0L J q (.slice ga gn gc) x) 77):=HSt.out;have d0:qs _ ⟨w1.heap.size,0,none⟩=some (.pointer (some ⟨J,0,none⟩)):=z01 _ _ _ _ A2 0 _ rfl;have d1:qs _ ⟨w1.heap.size,1,none⟩=some (.map (some q)):=z01 _ _ _ _ A2 1 _ rfl;have d2:qs _ ⟨w1.heap.size,2,none⟩=some (.int .i64 x.s.nx):=z01 _ _ _ _ A2 2 _ rfl;have d3:qs _ ⟨w1.heap.size,3,none⟩=some (.slice ga gn gc):=z01 _ _ _ _ A2 3 _ rfl;have Aq:=hid (z2q Br.out BN.out (λe=>by have:=HI.out.wt.lt _ e;omega) (λe=>by have h8:=Bb.out _ e;have h9:=HI.out.gl;omega) HI.out.zgv BC BD.out (by omega) (by omega) HM.out BF.out);simp only[z0L] at Aq;have AC:(SX.z1l t x).s.nx=x.s.nx:=rfl;rw[AC] at Aq;have BP:=hid (show Below w.heap.size w wr.drew from Bv.out.trans ((Below.refl _ wr).drew));clear A2 AC;generalize wr.drew=wd at*;go_wp2_with fail;refine Aq.out.mono ?_;intro e w4 Ai;have Aj:=z2e.of (mc:=mc) BP.out (by omega) Bb.out B0 (λj V=>V) Ai;obtain⟨o,_,_,_,_,rfl,_⟩:=id Ai;have HE:=hid Aj;clear Ai Aj Aq;by_cases h0:o.1=0
   .rw[z1R h0] at HE ⊢;clear h0;go_wp2_with fail;go_ret2;exact⟨qc,.nilIface,rfl,HE.out⟩
   .rw[z13 h0] at HE ⊢;generalize o.1=ec at*;clear h0;go_wp2_with fail;go_ret2;exact⟨0,.iface 56 (.int .i64 ec),rfl,HE.out⟩
  .intro s v w5 c5 hs hf hl AD Bw AR By C5;obtain⟨Y,AU,e0,_⟩:=Ae.out.2 s (by rw[hf];simp);subst e0;obtain⟨bv,q1,q2,q3⟩:=Ae.out.1 Y AU (.inl hl);rw[hf] at q1;have hv:=qt q1;subst hv;obtain⟨bo,bc,Bz,_⟩:=z0r.z08 q2.own;subst Bz;have U:∀(g:Nat) (c:Array Value) (e:qn),wr.heap[g]? =some (.cells c e)->w5.heap[g]? =wr.heap[g]? :=λg c e O=>AR.block g (z00 O) (λe2=>by
    have e3:g=r:=(qt e2).symm▸rfl;obtain⟨_,_,_,_,e4⟩:=Ap.out.iter;rw[<-e3,O] at e4;cases e4)
   have AE:=Ae.out.kept λg c e _ O=>U g c e O
   have AV:XFr (λj=>j=q) w2 w5:=A1.out.trans (XFr.grown (X:=λj=>j=r) AR (λj V=>by cases V;exact .inl rfl)) (λj V=> .inr (by rw[V,BG.out];exact qq _));have Ar:Below w5.heap.size w5 (w5.alloc (.cells #[.int .i64 Y.zto,.int .i64 (od Y.n),.slice bo Y.S.length bc] 123)):=(Below.refl _ w5).alloc (qq _) _;have BA:=qu w5 (.cells #[.int .i64 Y.zto,.int .i64 (od Y.n),.slice bo Y.S.length bc] 123);have n0:qs _ ⟨w5.heap.size,0,none⟩=some (.int .i64 Y.zto):=z01 _ _ _ _ BA 0 _ rfl;have Ak:=(AV.block w1.heap.size (z00 Ao.out) (by omega)).trans Ao.out;have AF:=(Ar.block _ (z00 Ak)).trans Ak;have d1:qs _ ⟨w1.heap.size,1,none⟩=some (.map (some q)):=z01 _ _ _ _ AF 1 _ rfl;have A7:=hid (AD.zk4 (.cells #[.int .i64 Y.zto,.int .i64 (od Y.n),.slice bo Y.S.length bc] 123));have AG:=hid (AE.kept λg c e _ O=>Ar.block g (z00 O));have BB:=hid (AV.trans (XFr.below (X:=λj=>j=q) Ar) (λj V=> .inl V));clear Ar BA Ak AF AD AE AV q2 q1 By hf U AR;by_cases C6:Y.zto<=t
   .obtain⟨w7,c7,AH,Au,C0,AW,_⟩:=A7.out.drop zaY zbR hs 0;have C2:∀ty,(Builtin.delete_ #[75,2] ty #[.map (some q),.int .i64 Y.n]).run q6 (w5.alloc (.cells #[.int .i64 Y.zto,.int .i64 (od Y.n),.slice bo Y.S.length bc] 123))= .ok (.tuple #[]) w7:=λty=>AH
    rw[z8Q] at Au;have Al:=A7.out.map.isMap;have BQ:=hid Au;have BR:=hid Au.left_eq;have BS:=hid ((AG.out.drop Aw.out AU (by omega)).kept λg c e _ O=>AW.block g (z00 O) (λe2=>by
     obtain⟨es,ck,hm⟩:=Al;rw[qt e2,hm] at O;cases O))
    have BU:=hid (BB.out.trans (XFr.grown (X:=λj=>j=q) AW (λj V=> .inl (qt V).symm)) (λj V=> .inl V));clear AH Au AW Al;go_wp2_with fail;go_roundw
    case rel=>exact⟨_,z0m left Y.n,c7,BQ.out,BS.out,BU.out⟩
    case measure=>rw[BR.out,Bl.out];omega
   .have BV:=hid A7.out.left_eq;have BW:=hid (AG.out.pass Aw.out AU (by omega));go_wp2_with fail;go_roundw
    case rel=>exact⟨f,z0m left Y.n,c5,A7.out,BW.out,BB.out⟩
    case measure=>rw[BV.out,Bl.out];exact Bw
end
section
namespace SX
structure Cor (a k:Nat) (x:St):Prop where
 fit:Fit x
 pts:Pts a (all x.s)
 nx:x.s.nx<=k
 gl:x.G.length<=k
 mark: -1099511627777<=x.s.mark/\x.s.mark<=1099511627776
 low:∀b∈x.s.B, -1099511627776<=b.zto
theorem Fit.first:Fit first:=⟨zkZ,rfl,qh _,qh _,(λb h=>by cases h),⟨eL _,by show(0:Int)<100;omega⟩,(λd h=>by cases h),(λd h=>by cases h),by show-9223372036854775808<=(-1099511627777:Int)/\(-1099511627777:Int)<=9223372036854775807;omega⟩
theorem zhF:all first.s=[]:=by
 show HD.jn [] []=[];rw[HD.z6v]
theorem Cor.first (a k:Nat):Cor a k first:=⟨Fit.first,by rw[zhF];exact Pts.nil a,by show(0:Int)<=k;omega,qh _,by show-1099511627777<=(-1099511627777:Int)/\(-1099511627777:Int)<=1099511627776;omega,λb h=>by cases h⟩
theorem Cor.mono {a k q G:Nat}{x:St}(h:Cor a k x)(J:a<=q)(O:k<=G):Cor q G x:=⟨h.fit,h.pts.mono J,by have:=h.nx;omega,qi h.gl O,h.mark,h.low⟩
section
variable {a k : Nat} {x : St}
theorem Cor.inH (h:Cor a k x):∀L s,In x.s.H L s->In (all x.s) L s:=λL s q=>(z2c h.fit.inv L s).2 (.inr q)
theorem Cor.inB (h:Cor a k x){b:Blk}(hb:b∈x.s.B):∀L s,In b.S L s->In (all x.s) L s:=λL s q=>(z2c h.fit.inv L s).2 (.inl ⟨b,hb,q⟩)
theorem Cor.ptH (h:Cor a k x):Pts a x.s.H:=h.pts.sub (z16.z4b h.fit.inv.head) h.inH
theorem Cor.ptB (h:Cor a k x){b:Blk}(hb:b∈x.s.B):Pts a b.S:=h.pts.sub (h.fit.inv.blk b hb) (h.inB hb)
theorem Cor.rows (h:Cor a k x):∀R∈rows x.s,z16 R/\∀L s,In R L s->In (all x.s) L s:=λR q=>by
 rcases wu.1 q with e|e
 .obtain⟨b,hb,rfl⟩:=qx.1 e;exact⟨h.fit.inv.blk b hb,h.inB hb⟩
 .rw[qk.1 e];exact⟨z16.z4b h.fit.inv.head,h.inH⟩
theorem z8h {A:List Sr}:∀(l:List (List Sr)) (R:List Sr),z16 R->(∀L s,In R L s->In A L s)->(∀y∈l,z16 y/\∀L s,In y L s->In A L s)->z16 (l.foldl HD.jn R)/\∀L s,In (l.foldl HD.jn R) L s->In A L s
 | [],R,h1,h2,_=>⟨h1,h2⟩
 | y::l,R,h1,h2,h3=>by
  obtain⟨h,q⟩:=h3 y List.mem_cons_self;refine z8h l (HD.jn R y) (z4i h1 h) (λL s G=>?_) λz J=>h3 z (List.mem_cons_of_mem _ J)
  rcases(zeq h1 h L s).1 G with e|⟨e,_⟩
  .exact q L s e
  .exact h2 L s e
theorem Pts.jns {A:List Sr}(h:Pts a A){l:List (List Sr)}(q:∀y∈l,z16 y/\∀L s,In y L s->In A L s):Pts a (jns l):=by
 obtain⟨G,J⟩:=z8h l [] z16.nil (λL s e=>absurd e (In.nil L s)) q;exact h.sub G J
theorem Cor.znM (h:Cor a k x)(i:Nat):Pts a (jns ((x.s.B.take i).map (·.S))):=h.pts.jns λy q=>by
 obtain⟨b,hb,rfl⟩:=qx.1 q;exact⟨h.fit.inv.blk b (rE hb),h.inB (rE hb)⟩
theorem Cor.znN (h:Cor a k x)(p:List LB.Lab->Int->Bool)(i:Nat):Pts a (jns (((SX.rows x.s).take i).map (HD.kp p))):=h.pts.jns λy q=>by
 obtain⟨R,G,rfl⟩:=qx.1 q;obtain⟨J,O⟩:=h.rows R (rE G);exact⟨z3u J p,λL s U=>O L s ((z3N p L s).1 U).1⟩
/-! ## what each call makes -/
theorem z7u {mark:Int}{S l:List Sr}(h:(HD.app mark S l).1=(0, -1)):HD.total l<=40:=by
 unfold HD.app at h;split at h
 .cases h
 .omega
theorem zji {mark:Int}{S l:List Sr}(h:(HD.app mark S l).1=(0, -1)){L:List LB.Lab}{s:CL.Smp}(q:In l L s):LB.right L=true/\ -1099511627776<=s.1/\s.1<=1099511627776:=by
 obtain⟨y,G,rfl,J⟩:=q;have h1:=zaJ h y G;unfold okS at h1;rw[qI] at h1;exact⟨h1.2,((z1c y.2).1 h1.1).2.2 s J⟩
theorem Cor.app (h:Cor a k x){l:List Sr}(hl:l.length<=20)(J:∀y∈l,∀s∈y.2,CL.Rs s)(U:(HD.app x.s.mark x.s.H l).1=(0, -1)):Cor (a+1) (k+1) (zjO l x):=by
 have O:=zdz h.fit.inv J U;have q:=z7t h.fit.inv (l:=l) J;refine⟨zll h.fit J,⟨z1s q,λL s V=>?_,?_,?_⟩,by have:=h.nx;show x.s.nx<=_;omega,by have:=h.gl;show x.G.length<=_;omega,h.mark,h.low⟩
 .rcases(O L s).1 V with e|e
  .exact h.pts.pt L s e
  .obtain⟨k1,k2⟩:=zji U e;obtain⟨y,hy,_,hm⟩:=e;exact⟨k1,k2,J y hy s hm⟩
 .have Y:=z6u h.fit.inv J U;have h2:=z7u U;have h3:=h.pts.tot;show HD.total (all (SX.app l x.s))<=_;omega
 .have Y:=z8F (K:=(all x.s).map (·.1)++l.map (·.1)) (z1s q) λL s V=>by
   rcases(O L s).1 V with e|e
   .exact List.mem_append_left _ e.key
   .exact List.mem_append_right _ e.key
  have h3:=h.pts.ser;rw[q8,qz,qz] at Y;show(all (SX.app l x.s)).length<=_;omega
theorem Cor.del (h:Cor a k x){g:Gn}(q:zjI ⟨x.s.nx,g⟩):Cor a (k+1) (zl1 g x):=by
 have e:=zg3 h.fit g;refine⟨zlj h.fit g q,?_,?_,?_,?_,λb hb=>?_⟩
 .rw[e,zfN h.fit.inv];exact h.pts.sub (z3u h.pts.nice _) λL s J=>((z3N _ L s).1 J).1
 .have:=h.nx;show x.s.nx<=_;omega
 .show(x.G++[_]).length<=_;rw[q8];have:=h.gl;simp;omega
 .exact h.mark
 .obtain⟨c,O,rfl⟩:=qx.1 (show b∈x.s.B.map (takeB ⟨x.s.nx,g⟩) from hb);rw[z6d];exact h.low c O
theorem zcw (t:Int)(s:Sto):(cut t s).mark=max s.mark t:=by unfold cut;split<;>rfl
theorem zlW (t:Int)(s:Sto):(cut t s).nx<=s.nx+1:=by
 unfold cut;split
 .show s.nx<=_;omega
 .exact eL _
theorem Cor.cut (h:Cor a k x){t:Int}(O: -1099511627776<=t)(U:t<=1099511627776)(V:k+1<100)(J:x.s.B.length<30):Cor a (k+1) (z6c t x):=by
 have Y:=h.nx;refine⟨zkG h.fit t (by omega) J (by omega),?_,?_,?_,?_,λb hb=>?_⟩
 .show Pts a (all (SX.cut t x.s));rw[zeK h.fit.inv];exact h.pts
 .have:=zlW t x.s;show(SX.cut t x.s).nx<=_;omega
 .have:=h.gl;show x.G.length<=_;omega
 .show-1099511627777<=(SX.cut t x.s).mark/\(SX.cut t x.s).mark<=1099511627776;rw[zcw];have:=h.mark;omega
 .have q:b∈(SX.cut t x.s).B:=hb;unfold SX.cut at q;split at q
  .exact h.low b q
  .rcases wu.1 q with e|e
   .exact h.low b e
   .rw[qk.1 e];show-1099511627776<=max x.s.mark t;omega
theorem Cor.compact (h:Cor a k x)(J:k+1<100)(q:x.s.B≠[]):Cor a (k+1) (z0N x):=by
 have O:=h.nx;refine⟨zbS h.fit q (by omega),?_,?_,qh _,h.mark,λb hb=>?_⟩
 .show Pts a (all (SX.compact x.s));rw[z7e h.fit.inv q];exact h.pts
 .show x.s.nx+1<=_;omega
 .rw[qk.1 (show b∈[(⟨x.s.nx,top x.s.B,SX.jns (x.s.B.map (·.S))⟩:Blk)] from hb)];obtain⟨c,G,e⟩:=z9d x.s.B q;show-1099511627776<=top x.s.B;rw[e];exact h.low c G
theorem Cor.zas (h:Cor a k x)(t:Int):Cor a (k+1) (z1l t x):=by
 have q:=z81 h.fit.inv t;refine⟨ze6 h.fit t,h.pts.sub (z1s q) λL s J=>?_,?_,?_,h.mark,λb hb=>h.low b (wE.1 hb).1⟩
 .rcases(z2c q L s).1 J with⟨b,hb,e⟩|e
  .exact h.inB (wE.1 hb).1 L s e
  .exact h.inH L s e
 .have:=h.nx;show x.s.nx<=_;omega
 .have:=h.gl;show x.G.length<=_;omega
/-! ## what may be written -/
theorem Cor.notes (h:Cor a k x)(q:a<=50):(∀s∈(z0n x).map txt,s.size<=60000)/\(z0n x).length<=111+k:=by
 refine⟨zbW h.fit,zfh h.fit h.gl ?_⟩;have:=h.ptH.tot;omega
theorem zna {y:St}{od:Int->Int}(h:Fit x)(hy:Cor a k y)(q:a<=50)(O:k<=60)(G:∀b∈y.s.B,(x.s.B.any λc=>decide (c.n=b.n))=false->WOk b (od b.n)):zhV x y od:=by
 obtain⟨J,U⟩:=hy.notes q;have V:=hy.mark;have Y:=hy.gl;refine⟨h,hy.fit,G,by omega,by omega,J,?_⟩;rw[qz];omega
theorem z5C {B:List Blk}{b:Blk}(h:b∈B):(B.any λc=>decide (c.n=b.n))=true:=List.any_eq_true.2 ⟨b,h,by simp⟩
theorem Cor.znV (h:Cor a k x)(q:a<=50)(G:k<=60)(od:Int->Int):zhV x x od:=zna h.fit h q G λb hb e=>by rw[z5C hb] at e;cases e
theorem Cor.fresh (h:Cor a k x):(x.s.B.any λc=>decide (c.n=x.s.nx))=false:=List.any_eq_false.2 λc q=>by
 have:=h.fit.inv.num c q;simp only[decide_eq_true_eq];omega
theorem lo_le {t:Int}{S:List Sr}:∀L s,In (HD.kp (lo t) S) L s->s.1<=t:=λL s h=>by
 have:=((z3N _ L s).1 h).2;simpa [lo] using this
theorem Cor.zd9 (h:Cor a k x)(G:a<=50){t:Int}(J: -1099511627776<=t)(O:t<=1099511627776):WOk ⟨x.s.nx,max x.s.mark t,HD.kp (lo t) x.s.H⟩ (-1):=by
 have U:=h.mark;refine Pts.block (a:=a) (h.ptH.sub (z3u h.ptH.nice _) λL s q=>((z3N _ L s).1 q).1) G (λL s q=>?_) (by omega) (by omega);have:=lo_le L s q;omega
theorem Cor.znW (h:Cor a k x)(J:a<=50)(V:k+1<=60)(od:Int->Int){t:Int}(O: -1099511627776<=t)(U:t<=1099511627776)(Y:x.s.B.length<30):zhV x (z6c t x) (z1C od x.s.nx (-1)):=by
 refine zna h.fit (h.cut O U (by omega) Y) J V λb hb e=>?_
 have G:b∈(SX.cut t x.s).B:=hb;unfold SX.cut at G;split at G
 .rw[z5C G] at e;cases e
 .rcases wu.1 G with q|q
  .rw[z5C q] at e;cases e
  .rw[qk.1 q];unfold z1C;rw[if_pos rfl];exact h.zd9 J O U
theorem Cor.zo7 (h:Cor a k x)(G:x.s.B≠[]): -1099511627776<=top x.s.B/\top x.s.B<=1099511627776:=by
 obtain⟨c,q,e⟩:=z9d x.s.B G;rw[e];have J:=h.low c q;have O:=h.fit.inv.low c q;have U:=h.mark;omega
theorem Cor.za2 (h:Cor a k x)(G:a<=50)(J:x.s.B≠[]){old:Int}(O: -1<=old):WOk ⟨x.s.nx,top x.s.B,SX.jns (x.s.B.map (·.S))⟩ old:=by
 have q:=h.znM x.s.B.length;rw[List.take_length] at q;refine Pts.block q G (λL s U=>?_) (h.zo7 J) O;obtain⟨b,hb,e⟩:=(z6Q h.fit.inv L s).1 U;have V:=h.fit.inv.tim b hb L s e;have Y:=zh0 x.s.B b hb;omega
theorem Cor.znY (h:Cor a k x)(q:a<=50)(J:k+1<=60)(od:Int->Int)(G:x.s.B≠[]){old:Int}(O: -1<=old):zhV x (z0N x) (z1C od x.s.nx old):=by
 refine zna h.fit (h.compact (by omega) G) q J λb hb _=>?_
 rw[qk.1 (show b∈[(⟨x.s.nx,top x.s.B,SX.jns (x.s.B.map (·.S))⟩:Blk)] from hb)];unfold z1C;rw[if_pos rfl];exact h.za2 q G O
theorem Cor.znZ (h:Cor a k x)(q:a<=50)(G:k+1<=60)(od:Int->Int)(t:Int):zhV x (z1l t x) od:=
 zna h.fit (h.zas t) q G λb hb e=>by rw[z5C (wE.1 hb).1] at e;cases e
end
end SX
end
section
open Go.RowKit
def z4l (f t:Int)(l:List CL.Smp):List CL.Smp:=l.filter λs=>decide (f<=s.1/\s.1<=t)
theorem zhz (f t:Int)(l:List CL.Smp)(i:Nat)(h:i<l.length):z4l f t (l.take (i+1))=z4l f t (l.take i)++(if f<=(CL.at' l i).1/\(CL.at' l i).1<=t then [CL.at' l i] else []):=by
 have e:CL.at' l i=l[i]:=by simp[CL.at',h]
 unfold z4l;rw[List.take_succ_eq_append_getElem h,List.filter_append,e]
 congr 1
 by_cases q:f<=l[i].1/\l[i].1<=t
 .rw[if_pos q];simp[q]
 .rw[if_neg q];simp[q]
theorem ziu (f t:Int)(l:List CL.Smp):(z4l f t l).length<=l.length:=List.length_filter_le _ _
theorem zbm (ao:Option Addr)(l:List CL.Smp)(cap:Nat)(f t:Int)(w:World)(hS:z1I w ao l)(hl:l.length<=1000000):
  Calls q6 168 #[.slice ao l.length cap,.int .i64 f,.int .i64 t] w λe w'=>∃v,e= .returned v/\w'.ownsRow w.heap.size 98 2 v (z4l f t l).length (sv (z4l f t l))/\Below w.heap.size w w':=by
 have HS:=hid hS;clear hS;obtain⟨ii,hi,A2⟩:=Option.map_eq_some_iff.1 Tryz.info98;simp only[Prod.mk.injEq] at A2;obtain⟨A3,A4,A5⟩:=A2;have A6:=hid hi;have A7:=hid A3;have A8:=hid A4;have A9:=hid A5;clear hi A3 A4 A5;go_enter func168,ntmps168;go_wp2_with fail;go_loopw [7,12] (λtl ti wr=>∃k:Nat,k<=l.length/\ti= .int .i64 k/\wr.ownsRow w.heap.size 98 2 tl (z4l f t (l.take k)).length (sv (z4l f t (l.take k)))/\Below w.heap.size w wr) (λ_ ti _=>l.length-(intOf ti).toNat)
 case atStart=>exact⟨0,by omega,rfl,World.ownsRow_nil _ _ _ _,Below.refl _ _⟩
 case round=>
  obtain⟨k,hk,rfl,V,q⟩:=hrel;have HO:=hid V;have HB:=hid q;have Y:=q.size;clear V q;by_cases A1:k<l.length
  .obtain⟨b,off,Ac,_,_,_⟩:=HS.out k A1;subst Ac;obtain⟨c0,c1⟩:=HS.out.at HB.out k A1;have HT:=hid (zhz f t l k A1);have Ai:(z4l f t (l.take k)).length<=1000000:=by
    have h1:=ziu f t (l.take k);have h2:(l.take k).length<=k:=List.length_take_le _ _;omega
   generalize CL.at' l k=x at*;obtain⟨x1,x2⟩:=x;simp only at c0 c1;by_cases G:f<=x1/\x1<=t
   .obtain⟨Ad,Ae⟩:=G;have U:Hid (z4l f t (l.take (k+1))=z4l f t (l.take k)++[(x1,x2)]):=by
     show _=_;rw[HT.out,if_pos ⟨Ad,Ae⟩]
    go_wp2_with (at_builtin;refine wpList_append_own _ rfl (.tmp 26) (.tmp 28) 91 rfl w.heap.size 98 ii (.agg #[.int .i64 0,.int .i64 0]) 2 16 underlying91 A6.out A7.out A8.out A9.out rfl (by decide) _ (z4l f t (l.take k)).length (sv (z4l f t (l.take k))) rfl ((HO.out.alloc _).alloc _) ⟨wr.heap.size+1,0,none⟩ 1 1 [.int .i64 x1,.int .i64 x2] rfl rfl (z9D _ _ (by simp) _ _ _) (z6I _ _) (by unfold qS;omega) (by omega) (by simp;omega) ?_)
    intro v7 w7 J O _;have Af:=hid J;have Ag:=hid (((HB.out.alloc Y _).alloc (by simp;omega) _).grown O (by simp;omega) (λj hj=>(HO.out.lt j hj).1));clear J O;go_wp2_with fail;go_roundw
    case rel=>
     refine⟨k+1,by omega,by go_num,?_,Ag.out⟩;rw[U.out,q8,z0P];exact Af.out
    case measure=>simp[intOf];omega
   .have U:Hid (z4l f t (l.take (k+1))=z4l f t (l.take k)):=by
     show _=_;rw[HT.out,if_neg G,List.append_nil]
    by_cases h1:f<=x1
    .have h2:¬x1<=t:=λh=>G ⟨h1,h⟩
     clear G;go_wp2_with fail;go_roundw
     case rel=>
      refine⟨k+1,by omega,by go_num,?_,HB.out.alloc Y _⟩;rw[U.out];exact HO.out.alloc _
     case measure=>simp[intOf];omega
    .clear G;go_wp2_with fail;go_roundw
     case rel=>
      refine⟨k+1,by omega,by go_num,?_,HB.out.alloc Y _⟩;rw[U.out];exact HO.out.alloc _
     case measure=>simp[intOf];omega
  .have he:k=l.length:=by omega
   subst he;have Ah:Hid (wr.ownsRow w.heap.size 98 2 u7 (z4l f t l).length (sv (z4l f t l))):=by
    show World.ownsRow _ _ _ _ _ _ _;have:=HO.out;rw[List.take_of_length_le (qq _)] at this;exact this
   go_wp2_with fail;go_ret;exact⟨_,rfl,Ah.out,HB.out⟩
end
section
open Go.RowKit Go.Lib
theorem z0z.zjU {w:World}{Z:Nat->Prop}{U:Option Addr}{S:List Sr}(h:z0z w Z U S):∃xs:List (Value×Value),xs.length=S.length/\(∀a,U=some a->∀j u,(zr2 xs)[j]? =some u->w.cell? (a.add j)=some u)/\(U=none->S.length=0)/\
  (∀i,i<S.length->∃lo G,(atX xs i).1= .slice lo (z03 S i).1.length G/\z9w w Z lo (z03 S i).1)/\∀i,i<S.length->∃so sc,(atX xs i).2= .slice so (z03 S i).2.length sc/\z9x w Z so (z03 S i).2:=by
 have key:∀i,i<S.length->∃p:Value×Value,(∀a,U=some a->w.cell? (a.add (i*2))=some p.1/\w.cell? (a.add (i*2+1))=some p.2)/\(∃lo G,p.1= .slice lo (z03 S i).1.length G/\z9w w Z lo (z03 S i).1)/\∃so sc,p.2= .slice so (z03 S i).2.length sc/\z9x w Z so (z03 S i).2:=by
  intro i hi;obtain⟨b,off,q,_,_,lo,G,so,sc,d0,d1,hL,hS⟩:=h i hi;refine⟨(.slice lo (z03 S i).1.length G,.slice so (z03 S i).2.length sc),λa V=>?_,⟨lo,G,rfl,hL⟩,⟨so,sc,rfl,hS⟩⟩;rw[q] at V;cases V;rw[qP,qP];exact⟨d0,d1⟩
 obtain⟨f,Y⟩:∃f:Nat->Value×Value,∀i,i<S.length->(∀a,U=some a->w.cell? (a.add (i*2))=some (f i).1/\w.cell? (a.add (i*2+1))=some (f i).2)/\(∃lo G,(f i).1= .slice lo (z03 S i).1.length G/\z9w w Z lo (z03 S i).1)/\∃so sc,(f i).2= .slice so (z03 S i).2.length sc/\z9x w Z so (z03 S i).2:=
  ⟨λi=>if hi:i<S.length then(key i hi).choose else znj,λi hi=>by simp only[dif_pos hi];exact(key i hi).choose_spec⟩
 have J:∀i,i<S.length->atX ((qN S.length).map f) i=f i:=λi hi=>by simp[atX,hi]
 refine⟨(qN S.length).map f,by simp,λa V j u O=>?_,λhn=>?_,λi hi=>by rw[J i hi];exact(Y i hi).2.1,λi hi=>by rw[J i hi];exact(Y i hi).2.2⟩
 .have A1:j<S.length*2:=by
   have:=(eE.1 O).1;rw[z1M] at this;simpa using this
  have hi:j/2<S.length:=by omega
  obtain⟨q1,q2⟩:=zr1 ((qN S.length).map f) (j/2) (by simpa using hi);obtain⟨c1,c2⟩:=(Y (j/2) hi).1 a V;rw[J _ hi] at q1 q2;rcases yp j with e|e
  .have e2:j=j/2*2:=by omega
   rw[e2] at O ⊢;rw[q1] at O;cases O;exact c1
  .have e2:j=j/2*2+1:=by omega
   rw[e2] at O ⊢;rw[q2] at O;cases O;exact c2
 .by_cases h0:0<S.length
  .obtain⟨b,off,q,_⟩:=h 0 h0;rw[hn] at q;cases q
  .omega
theorem z5I {w:World}{Z:Nat->Prop}{xs:List (Value×Value)}{S:List Sr}(J:xs.length=S.length)(U:∀i,i<S.length->∃lo q,(atX xs i).1= .slice lo (z03 S i).1.length q/\z9w w Z lo (z03 S i).1)(V:∀i,i<S.length->∃so sc,(atX xs i).2= .slice so (z03 S i).2.length sc/\z9x w Z so (z03 S i).2):∀u∈zr2 xs,u.oneCell'=true:=by
 intro u Y;obtain⟨j,O,e⟩:=List.mem_iff_getElem.1 Y;rw[z1M,J] at O;have hi:j/2<S.length:=by omega
 obtain⟨q1,q2⟩:=zr1 xs (j/2) (by omega);have h:(zr2 xs)[j]? =some u:=by rw[eE];exact⟨by rw[z1M,J];exact O,e⟩
 rcases yp j with e2|e2
 .rw[show j=j/2*2 by omega,q1] at h;cases h;obtain⟨lo,q,G,_⟩:=U _ hi;rw[G];rfl
 .rw[show j=j/2*2+1 by omega,q2] at h;cases h;obtain⟨lo,q,G,_⟩:=V _ hi;rw[G];rfl
theorem zne:q6.underlying 3=some (.int .i64):=by kernel_rfl
theorem zif (n:Nat)(w:World)(hn:n<=100000):
  Calls q6 99 #[.slice none 0 0,.int .i64 n] w λe w'=>∃ao cap,e= .returned (.slice ao 0 cap)/\w'.ownsRow w.heap.size 93 2 (.slice ao 0 cap) 0 []/\Below w.heap.size w w':=by
 by_cases h0:n=0
 .subst h0;go_enter func99,ntmps99;go_wp2;go_ret;exact⟨none,0,rfl,⟨rfl,.inl ⟨rfl,rfl⟩⟩,Below.refl _ _⟩
 .obtain⟨i0,V,Y,A1,q⟩:=z6r;obtain⟨G,U⟩:∃G,G=grownCap w n 0 93:=⟨_,rfl⟩;have A2:n<=G:=by rw[U];exact grownCap_ge w _ _ _
  have J:G<=maxLen:=by rw[U];exact grownCap_le_maxLen w _ _ _ (by unfold qS;omega)
  have h:=Lib.run_append_grow_zeros (P:=q6) w 39 3 39 93 i0 _ .i64 .i64 Tryz.uSrs zne V Y none 0 0 [] (run_firstCells_none w.drew i0.size 0 0 0) n (by omega) (by omega) (by omega) (by omega) (by rw[q];omega) (by rw[q];exact growslice_fits (by omega) (by omega));rw[Nat.zero_add,<-U] at h;generalize O:(([]:List Value).toArray++wv (uw #[.slice none 0 0,.slice none 0 0]).cells n++wv (uw #[.slice none 0 0,.slice none 0 0]).cells (G-n))=cs at h;have HE:Hid ((w.drew.alloc (.cells cs 93)).ownsRow w.heap.size 93 2 (.slice (some ⟨w.heap.size,0,none⟩) 0 G) 0 []/\Below w.heap.size w (w.drew.alloc (.cells cs 93))):=by
   refine⟨⟨rfl,.inr ⟨w.heap.size,G,cs,rfl,qq _,qu w.drew _,qh _,J,?_,by simp⟩⟩,((Below.refl w.heap.size w).drew).alloc (qq _) _⟩;rw[<-O];simp only[Array.size_append,List.size_toArray,List.length_nil,size_zeroCells];show 0+n*2+(G-n)*2=G*2;omega
  have A3:0<(n:Int):=by omega
  have A4:qW.wrap (n:Int)=(n:Int):=by rw[qY];omega
  clear O J U;go_enter func99,ntmps99;go_wp2_with (at_builtin;refine Lib.wpList_append_run _ rfl _ _ _ _ rfl _ _ rfl rfl _ _ h ?_)
  go_wp2_with fail;go_ret;exact⟨_,_,rfl,HE.out.1,HE.out.2⟩
def zm2 (w W:World)(h:Option Addr)(l:List Sr):Prop:=∀i,i<l.length->∃b off,h=some ⟨b,off,none⟩/\b<W.heap.size/\∃lo lc so sc,W.cell? ⟨b,off+i*2,none⟩=some (.slice lo (z03 l i).1.length lc)/\W.cell? ⟨b,off+i*2+1,none⟩=some (.slice so (z03 l i).2.length sc)/\z1w w lo (z03 l i).1/\z1I w so (z03 l i).2
theorem zkJ {w W:World}{O n:Nat}{v:Value}{G J:List (Value×Value)}{a b:List Sr}(ha:G.length=a.length)(hb:J.length=b.length)(hn:n=a.length+b.length)(h:W.ownsRow O 93 2 v n (zr2 G++zr2 J))
  (a1:∀i,i<a.length->∃lo q,(atX G i).1= .slice lo (z03 a i).1.length q/\z9w w (λ_=>False) lo (z03 a i).1) (a2:∀i,i<a.length->∃so sc,(atX G i).2= .slice so (z03 a i).2.length sc/\z9x w (λ_=>False) so (z03 a i).2)
  (b1:∀i,i<b.length->∃lo q,(atX J i).1= .slice lo (z03 b i).1.length q/\z9w w (λ_=>False) lo (z03 b i).1) (b2:∀i,i<b.length->∃so sc,(atX J i).2= .slice so (z03 b i).2.length sc/\z9x w (λ_=>False) so (z03 b i).2):
  ∃Y rc,v= .slice Y (a++b).length rc/\zm2 w W Y (a++b)/\∀ad,Y=some ad->O<=ad.block:=by
 subst hn;obtain⟨Y,rc,e⟩:=z02 h;refine⟨Y,rc,by rw[e,q8],λi hi=>?_,λad ea=>(h.lt ad.block (by rw[e,ea];rfl)).1⟩;rw[<-z7z] at h;have A2:i<(G++J).length:=by rw[q8] at hi ⊢;omega
 have A1:0<a.length+b.length:=by rw[q8] at hi;omega
 obtain⟨g,cap,A3,e2,e3,hg,_⟩:=z0d h A1;obtain⟨f0,f1⟩:=zr1 (G++J) i A2;have c0:=h.cells (g:=g) e3 _ _ f0;have c1:=h.cells (g:=g) e3 _ _ f1;rw[qP] at c0 c1;rw[e] at e2;cases e2;have key:∃lo q so sc,atX (G++J) i=(.slice lo (z03 (a++b) i).1.length q,.slice so (z03 (a++b) i).2.length sc)/\z1w w lo (z03 (a++b) i).1/\z1I w so (z03 (a++b) i).2:=by
  by_cases V:i<a.length
  .have q1:atX (G++J) i=atX G i:=by
    unfold atX;rw[q7,q7,wD (by omega)]
   have q2:z03 (a++b) i=z03 a i:=by
    unfold z03;rw[q7,q7,wD V]
   obtain⟨lo,q,r1,r2⟩:=a1 i V;obtain⟨so,sc,r3,r4⟩:=a2 i V;rw[q1,q2];exact⟨lo,q,so,sc,by rw[<-r1,<-r3],r2.1,r4.1⟩
  .have q1:atX (G++J) i=atX J (i-a.length):=by
    unfold atX;rw[q7,q7,eW (by omega),ha]
   have q2:z03 (a++b) i=z03 b (i-a.length):=by
    unfold z03;rw[q7,q7,eW (by omega)]
   have U:i-a.length<b.length:=by rw[q8] at hi;omega
   obtain⟨lo,q,r1,r2⟩:=b1 _ U;obtain⟨so,sc,r3,r4⟩:=b2 _ U;rw[q1,q2];exact⟨lo,q,so,sc,by rw[<-r1,<-r3],r2.1,r4.1⟩
 obtain⟨lo,q,so,sc,r1,r2,r3⟩:=key;rw[r1] at c0 c1;refine⟨g,0,rfl,z00 hg,lo,q,so,sc,c0,?_,r2,r3⟩;rw[Nat.add_assoc];exact c1
theorem zdv (Y V:Option Addr)(a b:List Sr)(ca cb B:Nat)(w0 w:World)(Ah:Below w0.heap.size w0 w)(hA:z0r w0 Y a)(hB:z0r w0 V b)(Ai:Y=none->ca=0)(Aj:V=none->cb=0)(AY:a.length<=20000)(AZ:b.length<=20000)(hX:w.heap[B]? =some (.cells #[.slice Y a.length ca,.slice V b.length cb] 39)):
  Calls q6 47 #[.slice (some ⟨B,0,none⟩) 2 2] w λe w'=>∃ro rc,e= .returned (.slice ro (a++b).length rc)/\zm2 w0 w' ro (a++b)/\(∀q,ro=some q->w.heap.size<=q.block)/\Below w.heap.size w w':=by
 have Ak:=hid Ah;obtain⟨xa,A1,Al,Am,A5,A6⟩:=(z0z.z6x (Z:=λ_=>False) hA (λ_ h=>h.elim)).zjU;obtain⟨xb,A2,Ao,Ap,A7,A8⟩:=(z0z.z6x (Z:=λ_=>False) hB (λ_ h=>h.elim)).zjU;obtain⟨i0,Aq,Ar,Au,Av⟩:=z6r;have HI:=hid (qv Aq (qv Ar (qv Au Av)));have k0:w.cell? ⟨B,0,none⟩=some (.slice Y a.length ca):=z01 _ _ _ _ hX 0 _ rfl;have k1:w.cell? ⟨B,1,none⟩=some (.slice V b.length cb):=z01 _ _ _ _ hX 1 _ rfl;have HX:=hid hX;have AH:=hid (show Y=none->a.length=0/\ca=0 from λe=>⟨Am e,Ai e⟩);have AJ:=hid (show V=none->b.length=0/\cb=0 from λe=>⟨Ap e,Aj e⟩);have AK:=hid Al;have AL:=hid Ao;have AM:=hid (z5I A1 A5 A6);have AO:=hid (z5I A2 A7 A8);have Aw:=hid (λ(W:World) (Ax:Nat) (v:Value) (h:W.ownsRow Ax 93 2 v (a.length+b.length) (zr2 xa++zr2 xb))=>zkJ A1 A2 rfl h A5 A6 A7 A8);have Ay:(zr2 xa).length=a.length*2:=by rw[z1M,A1]
 have Az:(zr2 xb).length=b.length*2:=by rw[z1M,A2]
 have AA:=hid Ay;have AB:=hid Az;have AP:=hid (show ∀q,Y=some q->0<a.length->q.block<w0.heap.size from λq e h=>by
  obtain⟨b',off,e',hb,_⟩:=hA 0 h;rw[e] at e';cases e';exact hb)
 have AQ:=hid (show ∀q,V=some q->0<b.length->q.block<w0.heap.size from λq e h=>by
  obtain⟨b',off,e',hb,_⟩:=hB 0 h;rw[e] at e';cases e';exact hb)
 clear Ah hA hB Ai Aj Aq Ar Au Av A1 Al Am A5 A6 A2 Ao Ap A7 A8 Ay Az hX;generalize a.length=J at*;generalize b.length=nb at*;go_enter func47,ntmps47;have n1:¬(J:Int)<0:=by omega
 have n2:¬(J:Int)+(nb:Int)<0:=by omega
 have n3:qW.wrap (J:Int)=(J:Int):=by rw[qY];omega
 have n4:qW.wrap ((J:Int)+(nb:Int))=(J:Int)+(nb:Int):=by rw[qY];omega
 go_wp2_with fail;refine oF 3 ?_;rw[rV];go_wp2_with fail;rw[rV];go_wp2_with fail;rw[rV];go_wp2_with fail;have A9:=zif (J+nb) w (by omega);rw[Int.natCast_add] at A9;refine A9.mono ?_;rintro e w1 ⟨ro,rc,rfl,AC,A3⟩;have q0:w1.cell? ⟨B,0,none⟩=some (.slice Y J ca):=(A3.cell (p:=⟨B,0,none⟩) (z00 HX.out)).trans k0;have q1:w1.cell? ⟨B,1,none⟩=some (.slice V nb cb):=(A3.cell (p:=⟨B,1,none⟩) (z00 HX.out)).trans k1;have O:=hid A3;have Ac:=hid AC;have AD:Hid (∀q,Y=some q->∀j u,(zr2 xa)[j]? =some u->w1.cell? (q.add j)=some u):=λq e j u hj=>by
  have U:0<J:=by
   have:=(eE.1 hj).1;rw[AA.out] at this;omega
  have Ad:(q.add j).block=q.block:=by unfold rz;split<;>rfl
  exact(qj (a:=q.add j) (by rw[Ad];exact(z0u Ak.out O.out).block _ (AP.out q e U))).trans (AK.out q e j u hj)
 clear A9 A3 AC k0 k1 n1 n2 n3 n4;go_wp2_with fail;refine oF 3 ?_;rw[rV];go_wp2_with (at_builtin;refine z0p _ rfl (.tmp 31) (.tmp 32) 39 rfl w.heap.size 93 i0 (.agg #[.slice none 0 0,.slice none 0 0]) 2 48 Tryz.uSrs HI.out.1 HI.out.2.1 HI.out.2.2.1 HI.out.2.2.2 rfl (by decide) _ 0 [] rfl Ac.out Y J ca (zr2 xa) rfl AA.out AH.out AD.out AM.out (by unfold qS;omega) (by omega) O.out.size ?_)
 intro v2 w2 Ae AE;have A4:∀g,(wH ro 0 rc).ownBlock=some g->w.heap.size<=g:=λg e=>(Ac.out.lt g e).1
 have G:=hid (O.out.grown AE O.out.size A4);have Af:=hid Ae;have AR:=z00 HX.out;have r1:w2.cell? ⟨B,1,none⟩=some (.slice V nb cb):=(G.out.cell (p:=⟨B,1,none⟩) AR).trans (z01 _ _ _ _ HX.out 1 _ rfl);have AF:Hid (∀q,V=some q->∀j u,(zr2 xb)[j]? =some u->w2.cell? (q.add j)=some u):=λq e j u hj=>by
  have U:0<nb:=by
   have:=(eE.1 hj).1;rw[AB.out] at this;omega
  have Ad:(q.add j).block=q.block:=by unfold rz;split<;>rfl
  exact(qj (a:=q.add j) (by rw[Ad];exact(z0u Ak.out G.out).block _ (AQ.out q e U))).trans (AL.out q e j u hj)
 obtain⟨va,vc,ev⟩:=z02 Ae;subst ev;clear AE Ae A4 AD Ac O q0 q1;go_wp2_with fail;rw[rV];go_wp2_with (at_builtin;refine z0p _ rfl (.tmp 31) (.tmp 32) 39 rfl w.heap.size 93 i0 (.agg #[.slice none 0 0,.slice none 0 0]) 2 48 Tryz.uSrs HI.out.1 HI.out.2.1 HI.out.2.2.1 HI.out.2.2.2 rfl (by decide) _ J (zr2 xa) rfl Af.out V nb cb (zr2 xb) rfl AB.out AJ.out AF.out AO.out (by unfold qS;omega) (by omega) G.out.size ?_)
 intro v3 w3 Ag AG;have AU:=hid (G.out.grown AG G.out.size (λg e=>(Af.out.lt g e).1));have AV:=hid (Aw.out w3 _ _ Ag);obtain⟨vb,vd,ev⟩:=z02 Ag;subst ev;clear AG Ag AF Af G r1;go_wp2_with fail;rw[rV];go_wp2_with fail;go_ret;obtain⟨AW,AX,e1,e2,e3⟩:=AV.out;exact⟨AW,AX,by rw[<-e1];rfl,e2,e3,AU.out⟩
end
end Go.Proofs.YtemeblgngidldaaGreatDoor
