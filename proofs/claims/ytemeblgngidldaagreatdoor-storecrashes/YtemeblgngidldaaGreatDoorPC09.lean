/- Texts put together and made smaller by program: SoNotes SoSweep SoWrite SoSto SoAct SoCut. -/
import Derived.Test.YtemeblgngidldaaGreatDoorPC08
set_option linter.unusedVariables false
set_option linter.unusedSimpArgs false
set_option maxRecDepth 100000
set_option maxHeartbeats 12800000
open And renaming intro->qv
open ByteArray renaming empty->qy
open Go renaming TypeId->qn,heap_alloc_new->qu,wpList_len_own->pU,maxLen->qS,heap_setCell_same->qo
open Go.Addr renaming add_lit->qP
open Go.Instr renaming loadAt->wZ
open Go.IntKind renaming i64->qW
open Go.Maps renaming size->rl
open Go.Value renaming int->wM,string->yP,slice->wH
open Go.World renaming size_alloc->rj,ownsRow->yL,cell?->qs,cell?_of_block->qj
open List renaming pairwise_map->eX,mem_map->qx,length_take->qb,take_add_one->wJ,getElem?_eq_getElem->qw,getD_eq_getElem?_getD->q7,length_map->qz,map_append->wK,getElem_mem->qK,nil_append->r6,length_append->q8,append_assoc->qm,getElem?_map->qZ,take_length->qD,filterMap_cons->qM,filterMap_nil->wh,getElem?_toArray->qJ,getElem?_cons_zero->qF,getElem?_cons_succ->qA,length_cons->qf,map_cons->wR,mem_singleton->qk,length_nil->qO,drop_zero->um,drop_eq_getElem_cons->rm,mem_cons_of_mem->qp,mem_cons_self->qd,any_eq_false->tq,mem_map_of_mem->iI,mem_append_right->yZ
open Nat renaming le_refl->qq,zero_le->qh,zero_add->qT,lt_of_lt_of_le->qe,le_trans->qi
open Option.some renaming inj->qt
open Go.Proofs.Tryz renaming prog->q6
open Go.Proofs.Tryz
namespace Go.Proofs.YtemeblgngidldaaGreatDoor
section
open Go.RowKit Go.Maps
theorem z4c {w:World}{Zh:Nat->Prop}{od:Int->Int}{f:Int->Option Value}{B:List SX.Blk}(h:z8D w Zh od f B)(J:B.Pairwise λb c=>b.n<c.n):IT (B.map (·.n)) (λn=>f n≠none):=by
 refine⟨eX.2 J,λn=>⟨λG=>?_,λG=>?_⟩⟩
 .obtain⟨b,hb,rfl⟩:=qx.1 G;obtain⟨v,q,_⟩:=h.1 b hb;rw[q];simp
 .obtain⟨b,hb,e⟩:=h.2 n G;exact qx.2 ⟨b,hb,e⟩
theorem z9g {w:World}{b n:Nat}{D:DataW Value}{f:Int->Option Value}{ks:List Int}(h:w.ownsMap q6 2 z0D b n D)(q:z1J D f)(G:IT ks λs=>f s≠none):rl D=ks.length:=by
 have e:=zeT h (by kernel_rfl) q (List.Perm.refl (intKeys D));have J:=IT.uniq e G;rw[<-z7b h,<-J,List.length_mergeSort]
theorem zb6 {S:List Sr}(U:HD.Good S){p:List Sr}(q:p∈SX.pieces S):z8p p/\(∀i,i<p.length->okS (z03 p i)=true)/\p.length=1:=by
 unfold SX.pieces at q;obtain⟨x,V,q⟩:=List.mem_flatMap.1 q;obtain⟨c,G,rfl⟩:=qx.1 q;unfold SX.chs at G;obtain⟨j,hj,rfl⟩:=qx.1 G;have h:=U.ok x V;have hl:=z0T h.1;have Y:(SX.ch x.2 j).length<=40:=by unfold SX.ch;rw[qb];omega
 have J:∀i,i<[(x.1,SX.ch x.2 j)].length->z03 [(x.1,SX.ch x.2 j)] i=(x.1,SX.ch x.2 j):=λi hi=>by
  obtain rfl:i=0:=by simpa using hi
  rfl
 refine⟨⟨by simp,λi hi=>?_⟩,λi hi=>?_,rfl⟩
 .rw[J i hi];exact⟨z4Z h.1,by show x.1.length<=20;omega,by show(SX.ch x.2 j).length<=2000;omega,λs O=>h.2.2.2 s (by
   unfold SX.ch at O;exact List.mem_of_mem_drop (List.mem_of_mem_take O))⟩
 .rw[J i hi];unfold okS;rw[SX.zdk h.2.1 j,h.1];rfl
theorem zar (ns:List Int)(i:Nat)(h:i<ns.length):(ns.take (i+1)).flatMap CD.wN=(ns.take i).flatMap CD.wN++CD.wN (ns.getD i 0):=by
 rw[wJ,qw h,List.flatMap_append];simp[q7,qw h]
theorem zlk {w:World}{q n c:Nat}{e:qn}{J:Option Addr}{xs:List Value}(h:w.ownsRow q e 1 (.slice J n c) n xs):(J=none->n=0/\c=0)/\∀G,J=some G->∀j u,xs[j]? =some u->w.cell? (G.add j)=some u:=by
 rcases h.2 with⟨O,Y⟩|⟨g,cap,U,O,_⟩
 .cases O;exact⟨λ_=>⟨rfl,rfl⟩,λG e=>(by cases e)⟩
 .cases O;refine⟨λe=>(by cases e),λG e j u V=>?_⟩;cases e;exact h.cells (g:=g) rfl j u V
theorem zi1 (b k:Nat)(q:Option Addr)(n c:Nat)(w:World)(h:w.cell? ⟨b,k,none⟩=some (.slice q n c)):(wZ 71 (.pointer (some ⟨b,k,none⟩))).run q6 w= .ok (.slice q n c) w:=by
 have G:(q6.info? 71).map (·.size)=some 1:=by kernel_rfl
 go_simp
theorem zm4 (l:List ByteArray):(tv l).length=l.length:=by unfold tv;rw[qz]
theorem zn2 (a b:List ByteArray):tv (a++b)=tv a++tv b:=by unfold tv;rw[wK]
theorem zht (hb bm cnt:Nat)(Zh:Nat->Prop)(vg:Value)(x:SX.St)(od:Int->Int)(w:World)(h:z1v w hb bm cnt Zh vg x od)(hF:SX.Fit x)(Bb: -9223372036854775808<=x.s.mark/\x.s.mark<=9223372036854775807)(Bc:cnt<=100000)(C5:x.G.length<=1000)(hW:z0X w)(hG:1<w.heap.size)(A8:∀p∈SX.pieces x.s.H,(SX.txt (.came p)).size<=1000000000000):
  Calls q6 157 #[.agg (z0L hb bm vg x)] w λe w'=>∃v,e= .returned v/\z5Q w' w.heap.size v ((SX.z0n x).map SX.txt)/\Below w.heap.size w w':=by
 have Be:Below w.heap.size w ((w.alloc (.cells (z0L hb bm vg x) 77)).alloc (.cells #[.slice none 0 0] 148)):=((Below.refl _ w).alloc (qq _) _).alloc (by simp) _;have Bf:((w.alloc (.cells (z0L hb bm vg x) 77)).alloc (.cells #[.slice none 0 0] 148)).heap[w.heap.size]? =some (.cells (z0L hb bm vg x) 77):=(Below.heap_alloc _ _ _ (by simp)).trans (qu w _);have AK:=CWr.new (w.alloc (.cells (z0L hb bm vg x) 77));simp only[rj] at AK;have g1:GI w (.cells (z0L hb bm vg x) 77) _ []:=⟨AK,Bf,Be⟩;obtain⟨ga,gc,Bg⟩:=z02 h.gn;obtain⟨mf,⟨Dd,A9,A7⟩,Az⟩:=h.mp;have AL:=z4c Az (hF.inv.asc.imp λk=>k.1);have A2:=z9g A9 A7 AL;have C6:x.s.B.map (·.n)≠[]\/True:= .inr trivial;have HT:=hid AL;have HO:=hid A9;have Ac:=hid A7;have Bh:=hid A2;have HN:=hid h;have HF:=hid hF;have C8:=hid hW;have C9:=hid A8;have G1:=hid g1;have AA:∀i,i<(x.s.B.map (·.n)).length->0<=(x.s.B.map (·.n)).getD i 0/\(x.s.B.map (·.n)).getD i 0<100:=λi hi=>by
  have hm:(x.s.B.map (·.n)).getD i 0∈x.s.B.map (·.n):=by rw[q7,qw hi];exact qK hi
  obtain⟨b,hb,e⟩:=qx.1 hm;rw[<-e];have h1:=hF.inv.num b hb;have h2:=hF.num b hb;have h3:=hF.nx;exact⟨h2,by show b.n<100;omega⟩
 have Bi:=hid AA;have CF:=hF.nx;have Ca:x.s.B.length<=30:=hF.thirty;clear Be Bf AK g1 A9 A7 AL A2 h hF hW A8 C6 Az AA;generalize Bj:(x.G.map λd=>SX.txt (.gone d)).length=gn at Bg;have Ad:=hid Bj;subst Bg;clear Bj;go_enter func157,ntmps157;go_wp2_with fail;generalize (w.alloc (.cells (z0L hb bm (.slice ga gn gc) x) 77)).alloc (.cells #[.slice none 0 0] 148)=w1 at*;refine(z0B (w.heap.size+1) 1 [] w1 G1.out.cw (by simp) (by omega) (by omega)).mono ?_;rintro e w2 ⟨rfl,Bl,Bm⟩;have g2:=G1.out.step (by decide) Bl Bm;have l2:([]++CD.wN 1).length=8:=by rw[r6,CD.z06]
 have c0:w2.cell? ⟨w.heap.size,0,none⟩=some (.pointer (some ⟨hb,0,none⟩)):=z01 _ _ _ _ g2.box 0 _ rfl;obtain⟨v,xs,hX,_⟩:=(HN.out.kept (λg _ _ _ hg=>g2.bel.block g (z00 hg)) (g2.bel.block bm HN.out.mlt)).hd;have HM:=hid (z3v hb x.s.mark v w2 hX.box);have G2:=hid g2;clear Bl Bm G1 g2 hX;go_wp2_with fail;refine HM.out.mono ?_;rintro e Cb ⟨rfl,rfl⟩;have HC:=hid (z0B (w.heap.size+1) x.s.mark _ Cb G2.out.cw (by omega) Bb.1 Bb.2);clear HM;go_wp2_with fail;refine HC.out.mono ?_;rintro e w3 ⟨rfl,Bo,Bp⟩;have g3:=G2.out.step (by decide) Bo Bp;clear Bo Bp HC G2 c0;have l3:(([]++CD.wN 1)++CD.wN x.s.mark).length=16:=by rw[q8,l2,CD.z06]
 have HC:=hid (z0B (w.heap.size+1) x.s.nx _ w3 g3.cw (by omega) (by omega) (by omega));have c1:w3.cell? ⟨w.heap.size,2,none⟩=some (.int .i64 x.s.nx):=z01 _ _ _ _ g3.box 2 _ rfl;have G3:=hid g3;clear g3;go_wp2_with fail;refine HC.out.mono ?_;rintro e w4 ⟨rfl,Bq,Br⟩;have g4:=G3.out.step (by decide) Bq Br;clear Bq Br HC G3 c1;have l4:((([]++CD.wN 1)++CD.wN x.s.mark)++CD.wN x.s.nx).length=24:=by rw[q8,l3,CD.z06]
 have c1:w4.cell? ⟨w.heap.size,1,none⟩=some (.map (some bm)):=z01 _ _ _ _ g4.box 1 _ rfl;have Ae:w4.ownsMap q6 2 z0D bm cnt Dd:=by
  obtain⟨es,A4,q1,q2⟩:=HO.out;exact⟨es,A4,(g4.bel.block bm HN.out.mlt).trans q1,q2⟩
 have HC:=hid (z0B (w.heap.size+1) (rl Dd:Int) _ w4 g4.cw (by omega) (by omega) (by have:=Bh.out;rw[qz] at this;omega));have G4:=hid g4;clear g4;go_wp2_with (at_len;refine pU _ rfl _ 75 rfl 2 123 (by kernel_rfl) _ bm cnt Dd rfl Ae ?_)
 refine HC.out.mono ?_;rintro e w5 ⟨rfl,Bt,Bu⟩;have g5:=G4.out.step (by decide) Bt Bu;clear Bt Bu HC G4 c1;have l5:(((([]++CD.wN 1)++CD.wN x.s.mark)++CD.wN x.s.nx)++CD.wN (rl Dd:Int)).length=32:=by rw[q8,l4,CD.z06]
 have A2:=Bh.out;have Bv:((((([]++CD.wN 1)++CD.wN x.s.mark)++CD.wN x.s.nx)++CD.wN (rl Dd:Int))++(x.s.B.map (·.n)).flatMap CD.wN)=SX.enc (.st x.s.mark x.s.nx (x.s.B.map (·.n))):=by
  rw[A2];simp only[SX.enc,r6,qm]
 generalize (((([]++CD.wN 1)++CD.wN x.s.mark)++CD.wN x.s.nx)++CD.wN (rl Dd:Int))=P at*;have Cc:P.length<=32:=by omega
 have Cd:=hid Bv;have AB:z1x q6 2 w5 bm cnt mf:=by
  refine⟨Dd,?_,Ac.out⟩;obtain⟨es,A4,q1,q2⟩:=HO.out;exact⟨es,A4,(g5.bel.block bm HN.out.mlt).trans q1,q2⟩
 have HC:=hid (z1P (.pointer (some ⟨hb,0,none⟩)) (.slice ga gn gc) x.s.nx bm cnt mf w5 AB Bc);have d0:=z01 _ _ _ _ g5.box 0 _ rfl;have d1:=z01 _ _ _ _ g5.box 1 _ rfl;have d2:=z01 _ _ _ _ g5.box 2 _ rfl;have d3:=z01 _ _ _ _ g5.box 3 _ rfl;have G5:=hid g5;clear A2 Bv AB g5 l2 l3 l4 l5 HO Ac Ae;go_wp2_with fail;refine HC.out.mono ?_;rintro e w6 ⟨nv,ks,rfl,Bw,_,J,By⟩;obtain rfl:=IT.uniq Bw HT.out;have g6:=G5.out.below By;generalize AM:x.s.B.map (·.n)=ns at*;have CG:ns.length<=30:=by rw[<-AM,qz];exact Ca
 have Ce:=hid AM;have G6:=hid g6;obtain⟨no,nc,rfl⟩:=z02 J;have HR:=hid J;have Cf:=z07 J (qh _);clear AM Bw By G5 HC d0 d1 d2 d3 J g6 Cf;go_wp2_with fail;go_loopw [24] (λti wr=>∃i:Nat,i<=ns.length/\ti= .int .i64 i/\GI w (.cells (z0L hb bm (.slice ga gn gc) x) 77) wr (P++(ns.take i).flatMap CD.wN)/\(P++(ns.take i).flatMap CD.wN).length<=32+8*i/\wr.ownsRow w5.heap.size 2 1 (.slice no ns.length nc) ns.length (ns.map (wM .i64))) (λti _=>ns.length-(intOf ti).toNat)
 case atStart=>exact⟨0,qh _,rfl,by simpa using G6.out,by simpa using Cc,HR.out⟩
 case round=>
  obtain⟨i,hi,rfl,V,A3,Af⟩:=hrel;by_cases Y:i<ns.length
  .obtain⟨g,CB,CH,e0,e1,e2,e3,e4,e5⟩:=z0d Af (by omega);cases e0;have cc:=Af.cells (g:=g) rfl i (.int .i64 (ns.getD i 0)) (by rw[qZ,qw Y,q7,qw Y];rfl);rw[qP,qT] at cc;have CI:=Bi.out i Y;have Bz:=hid (zar ns i Y);have CJ:0<=(i:Int)/\(i:Int)<(ns.length:Int):=by omega
   have Cg:=hid Af;have CK:g≠w.heap.size+1:=λe=>by
    obtain⟨v,hv,_⟩:=V.cw;rw[<-e,e2] at hv;cases hv
   have CM:=hid e2;generalize ns.getD i 0=nn at*;have HC:=hid (z0B (w.heap.size+1) nn _ wr V.cw (by omega) (by omega) (by omega));have O:=hid V;clear V Af e1 e2 e3 e4 e5;go_wp2_with fail;refine HC.out.mono ?_;rintro e wa ⟨rfl,BA,AO⟩;have ga:=O.out.step (by decide) BA AO;have AC:wa.ownsRow w5.heap.size 2 1 (.slice (some ⟨g,0,none⟩) ns.length nc) ns.length (ns.map (wM .i64)):=z04 Cg.out λg' c hg=>(AO.other hg (by decide) (λe=>by
    obtain⟨v,hv,_⟩:=O.out.cw;rw[e,hv] at hg;cases hg)).trans hg.symm
   have Ch:(P++(ns.take (i+1)).flatMap CD.wN).length<=32+8*(i+1):=by
    rw[Bz.out,<-qm,q8,CD.z06];omega
   rw[qm,<-Bz.out] at ga;have GA:=hid ga;have Ci:=hid AC;clear ga BA AO HC AC;go_wp2_with fail;go_roundw
   case rel=>exact⟨i+1,by omega,by go_num,GA.out,Ch,Ci.out⟩
   case measure=>simp[intOf];omega
  .rename World=>q
   have he:i=ns.length:=by omega
   subst he;rw[qD,Cd.out] at V;have d3:q.cell? ⟨w.heap.size,3,none⟩=some (.slice ga gn gc):=z01 _ _ _ _ V.box 3 _ rfl;have d0:q.cell? ⟨w.heap.size,0,none⟩=some (.pointer (some ⟨hb,0,none⟩)):=z01 _ _ _ _ V.box 0 _ rfl;have HC:=hid (λW (hW:Below q.heap.size q W)=>z2y (w.heap.size+1) _ W (V.cw.kept hW));have O:=hid V;clear V Af A3;go_wp2_with fail;have BB:z5Q q 0 (.slice ga gn gc) (x.G.map λd=>SX.txt (.gone d)):=z04 HN.out.gn λg _ hg=>O.out.bel.block g (z00 hg)
   have BC:=Ad.out;generalize AP:(x.G.map λd=>SX.txt (.gone d))=GT at*;have Cj:=hid AP;have Ck:=hid BB;have CC:gn<=1000:=by rw[<-BC,<-AP,qz];exact C5
   obtain⟨i0,AQ,AR,AU,AV⟩:=info_parts (show(q6.info? 9).map (λi=>(i.zero,i.size,i.bytes))=some (some (.string ⟨#[]⟩),1,16) by kernel_rfl);have BD:Below q.heap.size q q.drew:=(Below.refl _ q).drew;have AW:=hid BD;clear AP BB BC BD;refine z0U (λW=>Below q.heap.size q W) [2,3] [0,1,4] [5] (by kernel_rfl) (by kernel_rfl) ?_;simp only[qM,wh,qJ,qF,qA];refine zr0.on (v:= .pointer (some ⟨w.heap.size,3,none⟩)) (YC.field rfl (by kernel_rfl) λW=>z2j 3 (by omega) W w.heap.size) ?_;refine zr0.on (v:= .slice ga gn gc) (YC.load rfl (by kernel_rfl) λW hW=>zi1 w.heap.size 3 ga gn gc W ((hW.cell (p:=⟨w.heap.size,3,none⟩) (z00 O.out.box)).trans d3)) ?_;refine zr0.off (C:=λW=>Below q.heap.size q W) AW.out ?_;go_frame;go_wp2_with fail;refine(HC.out q.drew AW.out).mono ?_;rintro e w7 ⟨rfl,BF⟩;have AD:=z0u AW.out BF;have Ag:=hid AD;clear BF AD;go_wp2_with fail;refine z0F.on (C:=λW=>Below q.heap.size q W) Ag.out ?_;go_wp2_with fail;generalize BG:sb (SX.enc (.st x.s.mark x.s.nx ns))=se at*;have AX:Below q.heap.size q (w7.alloc (.cells #[.string se] 9)):=Ag.out.alloc Ag.out.size _;have Ar:=hid AX;have Cl:=hid BG;have AE:(w7.alloc (.cells #[.string se] 9)).ownsRow q.heap.size 9 1 (.slice (some ⟨w7.heap.size,0,none⟩) 1 1) 1 [.string se]:=⟨rfl,.inr ⟨w7.heap.size,1,#[.string se],rfl,Ag.out.size,qu w7 _,qq _,by decide,rfl,rfl⟩⟩;have AF:(w7.alloc (.cells #[.string se] 9)).ownsRow 0 9 1 (.slice ga gn gc) gn (tv GT):=by
    have h8:(w7.alloc (.cells #[.string se] 9)).ownsRow 0 9 1 (.slice ga gn gc) GT.length (tv GT):=z04 Ck.out λg _ hg=>AX.block g (z00 hg)
    rw[Ad.out] at h8;exact h8
   have Ah:=zlk AF;clear AX BG;refine z0F.on (C:=λW=>Below q.heap.size q W) Ar.out ?_;go_wp2_with (at_builtin;refine z0p _ rfl (.tmp 32) (.tmp 34) 71 rfl q.heap.size 9 i0 (.string ⟨#[]⟩) 1 16 (by kernel_rfl) AQ AR AU AV rfl (by decide) _ 1 [.string se] rfl AE ga gn gc (tv GT) rfl ?a1 ?a2 ?a3 ?a4 ?a5 ?a6 ?a7 ?a8)
   case a1=>rw[zm4,Ad.out,Nat.mul_one]
   case a2=>exact Ah.1
   case a3=>exact Ah.2
   case a4=>
    intro u hu;unfold tv at hu;obtain⟨t,_,rfl⟩:=qx.1 hu;rfl
   case a5=>show 1+gn<=qS;unfold qS;omega
   case a6=>omega
   case a7=>exact Ar.out.size
   case a8=>
    intro v9 w9 A5 AG;have BH:Below q.heap.size q w9:=Ar.out.grown AG Ar.out.size (λj hj=>by
     have e:w7.heap.size=j:=qt hj;rw[<-e];exact Ag.out.size)
    obtain⟨a9,c9,rfl⟩:=z02 A5;have Ai:=hid BH;have Cm:=hid A5;clear BH A5 AG Ah AE AF;go_wp2_with fail;refine z0F.fin (C:=λW=>Below q.heap.size q W) Ai.out ?_;refine zr0.on (v:= .slice a9 (1+gn) c9) (λW _=> .inl (by kernel_rfl)) ?_;refine zr0.fin (C:=λW=>Below q.heap.size q W) Ai.out ?_;go_frame;have BI:z5Q w9 q.heap.size (.slice a9 (1+gn) c9) (SX.txt (.st x.s.mark x.s.nx ns)::GT):=by
     have h9:=Cm.out;have e1:1+gn=(SX.txt (.st x.s.mark x.s.nx ns)::GT).length:=by rw[qf,Ad.out];omega
     have e2:yP se::tv GT=tv (SX.txt (.st x.s.mark x.s.nx ns)::GT):=by rw[<-Cl.out];rfl
     rw[e2] at h9;show yL _ _ _ _ _ _ _;rw[<-e1];exact h9
    have BJ:(SX.z0n x).map SX.txt=(SX.txt (.st x.s.mark x.s.nx ns)::GT)++(SX.pieces x.s.H).map λp=>SX.txt (.came p):=by
     unfold SX.z0n;rw[Ce.out,<-Cj.out];simp only[wR,wK,List.map_map,Function.comp_def,List.cons_append]
    have A7:(SX.txt (.st x.s.mark x.s.nx ns)::GT).length=1+gn:=by rw[qf,Ad.out];omega
    generalize SX.txt (.st x.s.mark x.s.nx ns)::GT=T0 at*;have Au:Below w.heap.size w w9:=O.out.bel.trans (Ai.out.mono O.out.bel.size);have BM:=HN.out.kept (λg _ _ _ hg=>Au.block g (z00 hg)) (Au.block bm HN.out.mlt);have d9:w9.cell? ⟨w.heap.size,0,none⟩=some (.pointer (some ⟨hb,0,none⟩)):=(Ai.out.cell (p:=⟨w.heap.size,0,none⟩) (z00 O.out.box)).trans d0;have Av:=HF.out.inv.head;have BN:=hid (z3C hb Zh x.s.mark x.s.H w9 BM.hd.toI Av);have AY:=hid BI;have Cn:=hid BJ;have Ac:=hid A7;have CN:=hid Au;have Co:=hid (λp (hp:p∈SX.pieces x.s.H)=>zb6 Av hp);have A3:∀i,i<x.s.H.length->0<(z03 x.s.H i).2.length/\(z03 x.s.H i).2.length<=100000:=λi hi=>by
     have Aj:=Av.ok _ (HD.at_mem x.s.H i hi);exact⟨Aj.2.2.1,by have:=z2a Aj.2.1;omega⟩
    have CO:(SX.pieces x.s.H).length<=1000000:=by
     have h1:=z1i x.s.H x.s.H.length (λk hk=>(A3 k hk).2) (qq _);rw[qD] at h1;have:=HF.out.sixty;omega
    have Cp:=hid A3;have CP:=HF.out.sixty;clear BI BJ A7 Au BM Av d0 d3 A3;go_wp2_with fail;refine BN.out.mono ?_;rintro e wa ⟨va,rfl,AZ,B0⟩;have BO:=hid (z7R (λj=>(wH a9 (1+gn) c9).ownBlock=some j) w9.heap.size va x.s.H wa wa AZ (Below.refl _ _) (λj hj=>by have h1:=(AY.out.lt j hj).2;have h2:=B0.size;exact⟨.inl h1,by omega⟩) (by omega) Cp.out);obtain⟨aa,ca,rfl⟩:∃aa ca,va= .slice aa x.s.H.length ca:=by
     obtain⟨_,_,h2,_⟩:=AZ;exact z02 h2
    have B3:=hid B0;clear AZ B0 BN;go_wp2_with fail;refine BO.out.mono ?_;rintro e wp ⟨vp,rfl,BP,B5⟩;obtain⟨po,pc,rfl,A6⟩:=BP.out (λj hj=>by have h1:=(AY.out.lt j hj).2;have h2:=B3.out.size;omega);generalize SX.pieces x.s.H=ps at*;have BQ:z5Q wp q.heap.size (.slice a9 (1+gn) c9) (T0++(ps.take 0).map λp=>SX.txt (.came p)):=by
     rw[List.take_zero,List.map_nil,List.append_nil];exact(AY.out.below B3.out).below B5
    have Cq:=hid BQ;have Cr:=hid (z0u (z0u Ai.out B3.out) B5);have Cs:=hid A6;clear BP B5 A6 BQ BO;go_wp2_with fail;go_loopw [6,41] (λt6 ti W=>∃(j:Nat) (aj:Option Addr) (cj:Nat) (Zj:Nat->Prop),j<=ps.length/\ti= .int .i64 j/\t6= .slice aj (1+gn+j) cj/\z5Q W q.heap.size (.slice aj (1+gn+j) cj) (T0++(ps.take j).map λp=>SX.txt (.came p))/\z5R W Zj po ps/\(∀k,(wH aj (1+gn+j) cj).ownBlock=some k->Zj k)/\Below q.heap.size q W) (λ_ ti _=>ps.length-(intOf ti).toNat)
    case atStart=>exact⟨0,a9,c9,_,qh _,rfl,rfl,Cq.out,Cs.out,λk hk=>hk,Cr.out⟩
    case round=>
     obtain⟨j,aj,cj,Zj,hj,rfl,rfl,J,A6,BR,Ak⟩:=hrel;by_cases Y:j<ps.length
     .obtain⟨b,off,rfl,CE,_,so,sc,m1,BS⟩:=A6 j Y;have Al:ps.getD j []∈ps:=by rw[q7,qw Y];exact qK Y
      obtain⟨BU,Aj,Ct⟩:=Co.out _ Al;have A8:=C9.out _ Al;have BV:(ps.take (j+1)).map (λp=>SX.txt (.came p))=(ps.take j).map (λp=>SX.txt (.came p))++[SX.txt (.came (ps.getD j []))]:=by
       rw[wJ,qw Y,wK,q7,qw Y];rfl
      have Am:Below w.heap.size w wr:=O.out.bel.trans (Ak.mono O.out.bel.size);have HC:=hid (zcA so (ps.getD j []) sc wr BS.row BU Aj (z0X.below C8.out Am hG) (qe hG Am.size) A8);have Ao:=hid J;have BW:=hid A6;have Aw:=hid Ak;have Cu:=hid BV;have CQ:0<=(j:Int)/\(j:Int)<(ps.length:Int):=by omega
      clear J A6 Ak BU Aj A8 BV Am BS Al Ct;generalize ps.getD j []=pp at*;generalize SX.txt (.came pp)=tp at*;obtain⟨i0,AQ,AR,AU,AV⟩:=info_parts (show(q6.info? 9).map (λi=>(i.zero,i.size,i.bytes))=some (some (.string ⟨#[]⟩),1,16) by kernel_rfl);go_wp2_with fail;refine HC.out.mono ?_;rintro e wb ⟨rfl,Ax⟩;have Ap:Below wb.heap.size wb (wb.alloc (.cells #[.string tp] 9)):=(Below.refl _ wb).alloc (qq _) _;have B6:(wb.alloc (.cells #[.string tp] 9)).ownsRow q.heap.size 9 1 (.slice aj (1+gn+j) cj) (1+gn+j) (tv (T0++(ps.take j).map λp=>SX.txt (.came p))):=by
       have h1:=(Ao.out.below Ax).below Ap;have e1:(T0++(ps.take j).map λp=>SX.txt (.came p)).length=1+gn+j:=by
        rw[q8,Ac.out,qz,qb];omega
       have h2:yL _ _ _ _ _ _ _:=h1;rw[e1] at h2;exact h2
      have Aq:∀i u,[yP tp][i]? =some u->(wb.alloc (.cells #[.string tp] 9)).cell? (Addr.add ⟨wb.heap.size,0,none⟩ i)=some u:=cell_one_new _ _ _;have AH:q.heap.size<=(wb.alloc (.cells #[.string tp] 9)).heap.size:=by
       have:=Aw.out.size;have:=Ax.size;simp;omega
      have Ba:=hid Ax;clear Ax HC Ap;go_wp2_with (at_builtin;refine wpList_append_own_at _ rfl (.tmp 45) (.tmp 48) 71 rfl q.heap.size 9 i0 (.string ⟨#[]⟩) 1 16 (by kernel_rfl) AQ AR AU AV rfl (by decide) _ (1+gn+j) _ rfl B6 ⟨wb.heap.size,0,none⟩ 1 1 [.string tp] rfl rfl Aq ?b1 ?b2 ?b3 AH ?b4)
      case b1=>
       intro u hu;obtain rfl:=qk.1 hu;rfl
      case b2=>show 1+gn+j+1<=qS;unfold qS;omega
      case b3=>omega
      case b4=>
       intro v' w' A1 U _ BX;obtain⟨ar,cr,rfl⟩:=z02 A1;have Ap:Below wb.heap.size wb (wb.alloc (.cells #[.string tp] 9)):=(Below.refl _ wb).alloc (qq _) _;have BZ:Below q.heap.size q w':=(z0u (z0u Aw.out Ba.out) Ap).grown U AH (λk hk=>(B6.lt k hk).1);have C0:z5Q w' q.heap.size (.slice ar (1+gn+(j+1)) cr) (T0++(ps.take (j+1)).map λp=>SX.txt (.came p)):=by
        rw[Cu.out,<-qm];show yL _ _ _ _ _ _ _;have e1:((T0++(ps.take j).map λp=>SX.txt (.came p))++[tp]).length=1+gn+j+1:=by
         rw[q8,q8,Ac.out,qz,qb];simp only[qf,qO];omega
        rw[e1,zn2];have h3:=A1;rw[<-List.map_take] at h3;exact h3
       have Cv:=Ba.out.size;have C2:=U.size;rw[rj] at C2;have C3:ZFr Zj wr w':=by
        have Ay:=z0u Ba.out Ap;refine⟨U.os.trans Ay.os,U.tape.trans Ay.tape,U.output.trans Ay.output,by omega,λk hk hn=>?_⟩;rw[U.block k (by simp;omega) (λe=>hn (BR k e.symm))];exact Ay.block k hk
       have AJ:=BW.out.step C3;have C4:∀k,(wH ar (1+gn+(j+1)) cr).ownBlock=some k->wid Zj wr w' k:=λk hk=>by
        rcases BX with e|e
        .exact .inl (BR k (by rw[<-e];exact hk))
        .have e2:(wH ar (1+gn+j+1) cr).ownBlock=some k:=hk;rw[e] at e2;have e3:=qt e2;have:=(A1.lt k hk).2;exact .inr ⟨by omega,by omega⟩
       have Cw:=hid C4;clear C4 C3 Cv C2;have Cx:=hid C0;have Cy:=hid BZ;have Cz:=hid AJ;clear C0 BZ AJ A1 U B6 Aq BX;go_wp2_with fail;go_roundw
       case rel=>exact⟨j+1,ar,cr,_,by omega,by go_num,rfl,Cx.out,Cz.out,Cw.out,Cy.out⟩
       case measure=>simp[intOf];omega
     .have he:j=ps.length:=by omega
      subst he;rw[qD,<-Cn.out] at J;have Ao:=hid J;have Aw:=hid Ak;clear J Ak A6;go_wp2_with fail;go_ret;exact⟨_,rfl,z07 Ao.out O.out.bel.size,O.out.bel.trans (Aw.out.mono O.out.bel.size)⟩
end
section
open Go.RowKit Go.Maps
theorem z1F {P:Program}{ops:Array Oper}{rest:List Oper}{o:Oper}{a:Act}{w:World}{Q:Exit->Act->World->Prop}(O:o.guard=none)(m x:Operand)(t:qn)(h:o.op=Op.lookup t m x true)
  (G J:Value) (U:a.eval m=G) (V:a.eval x=J) (u:Value) (Y:(Instr.lookup t G J true).run P w= .ok u w) (hK:wpList P ops Q rest (a.put o.dst u) w):wpList P ops Q (o::rest) a w:=by
 refine wpList_plain O λK' q=>?_
 unfold Oper.wp;simp[execOp,h,U,V,Y,Result.andThen];exact q _ _ hK
namespace SX
def z1W (x:St)(n:ByteArray):Bool:=x.s.B.any (λb=>decide (n=nm b.n.toNat))|| !isB n
def z2f (keep:ByteArray->Bool):List ByteArray->DK.M->Int->WL.Out
 | [],D,p=>(0,D,p)
 | n::T,D,p=>if keep n then z2f keep T D p else WL.seq (WL.act 3 n qy D p) λD p=>z2f keep T D p
end SX
abbrev bt (l:List UInt8):ByteArray:=⟨l.toArray⟩
theorem zjC:∀W,(zeroValue 2).run q6 W= .ok (.int .i64 0) W:=λW=>by
 go_simp
theorem zi7 (ns:List Int)(i:Nat)(h:i<ns.length)(q:Int->Bool):(ns.take (i+1)).any q=((ns.take i).any q||q (ns.getD i 0)):=by
 rw[wJ,qw h,List.any_append,q7,qw h];simp
theorem zaj {w:World}{Z:Nat->Prop}{bw bd cnt:Nat}{D:DK.M}{p:Int}{dn:Bool}(h:WT w Z bw bd cnt D p dn)(BH:cnt<=90000)(hb bm mc:Nat)(Zh:Nat->Prop)(vg:Value)(x:SX.St)(od:Int->Int)(hN:z1v w hb bm mc Zh vg x od)(hF:SX.Fit x)(Be:mc<=100000)(AJ:∀n,D n≠none->n.size<=1000)(Aq:∀T,ST T (λn=>D n≠none)->T.length<=200):
  Calls q6 32 #[.pointer (some ⟨bd,0,none⟩),.agg (z0L hb bm vg x)] w λen w'=>∃T,ST T (λn=>D n≠none)/\zaP w Z bw bd (cnt+200) dn (SX.z2f (SX.z1W x) (T.map bt) D p) en w':=by
 obtain⟨ga,gc,AK⟩:=z02 hN.gn;obtain⟨mf,Av,Ar⟩:=hN.mp;have AL:=z4c Ar (hF.inv.asc.imp λk=>k.1);generalize (x.G.map λd=>SX.txt (.gone d)).length=gn at AK;subst AK;have Aw:Below w.heap.size w ((w.alloc (.cells (z0L hb bm (.slice ga gn gc) x) 77)).alloc (.map #[] 0)):=((Below.refl _ w).alloc (qq _) _).alloc (by simp) _;have A7:((w.alloc (.cells (z0L hb bm (.slice ga gn gc) x) 77)).alloc (.map #[] 0)).heap[w.heap.size]? =some (.cells (z0L hb bm (.slice ga gn gc) x) 77):=(Below.heap_alloc _ _ _ (by simp)).trans (qu w _);have A1:=z2g.made (w.alloc (.cells (z0L hb bm (.slice ga gn gc) x) 77)) q6 9;simp only[rj] at A1;have HW:=hid h;have Ax:=hid A1;have Bf:=hid Aw;have HT:=hid AL;have AM:=hid Aq;have Bg:=hid AJ;have d0:qs _ ⟨w.heap.size,0,none⟩=some (.pointer (some ⟨hb,0,none⟩)):=z01 _ _ _ _ A7 0 _ rfl;have d1:qs _ ⟨w.heap.size,1,none⟩=some (.map (some bm)):=z01 _ _ _ _ A7 1 _ rfl;have d2:qs _ ⟨w.heap.size,2,none⟩=some (.int .i64 x.s.nx):=z01 _ _ _ _ A7 2 _ rfl;have d3:qs _ ⟨w.heap.size,3,none⟩=some (.slice ga gn gc):=z01 _ _ _ _ A7 3 _ rfl;have HC:=hid (z1P (.pointer (some ⟨hb,0,none⟩)) (.slice ga gn gc) x.s.nx bm mc mf _ (Av.below Aw Av.lt) Be);have Au:∀i,i<(x.s.B.map (·.n)).length->0<=(x.s.B.map (·.n)).getD i 0/\(x.s.B.map (·.n)).getD i 0<100:=λi hi=>by
  have hm:(x.s.B.map (·.n)).getD i 0∈x.s.B.map (·.n):=by rw[q7,qw hi];exact qK hi
  obtain⟨b,hb,e⟩:=qx.1 hm;rw[<-e];have h1:=hF.inv.num b hb;have h2:=hF.num b hb;have h3:=hF.nx;exact⟨h2,by show b.n<100;omega⟩
 have AO:=hid Au;have Bh:x.s.B.length<=30:=hF.thirty;clear h Aw A7 A1 AL Aq AJ hN Av Ar Au hF;go_enter func32,ntmps32;have BI:= @run_makeMap q6;go_wp2_with fail;generalize (w.alloc (.cells (z0L hb bm (.slice ga gn gc) x) 77)).alloc (.map #[] 0)=w1 at*;refine HC.out.mono ?_;rintro e w2 ⟨nv,ks,rfl,AP,_,O,Af⟩;obtain rfl:=IT.uniq AP HT.out;have Bi:=hid (Ax.out.below Af Ax.out.lt);have Bj:=hid (z0u Bf.out Af);have AQ:w.heap.size+1<w2.heap.size:=qe Ax.out.lt Af.size;have A8:∀n,SX.z1W x n=((x.s.B.map (·.n)).any (λk=>decide (n=nm k.toNat))|| !isB n):=λn=>by
  unfold SX.z1W;rw[List.any_map];rfl
 have Bl:=hid A8;have BJ:(x.s.B.map (·.n)).length<=30:=by rw[qz];exact Bh
 generalize x.s.B.map (·.n)=ns at*;obtain⟨no,nc,rfl⟩:=z02 O;have HR:=hid (z07 O (qh _));clear AP O Af A8 HC d0 d1 d2 d3;go_wp2_with fail;go_loopw [17] (λti wr=>∃(i:Nat) (f:ByteArray->Option Value),i<=ns.length/\ti= .int .i64 i/\z2g q6 9 wr (w.heap.size+1) i f/\(∀n,(f n).isSome=(ns.take i).any λk=>decide (n=nm k.toNat))/\Below w.heap.size w wr/\w.heap.size+1<wr.heap.size/\wr.ownsRow 0 2 1 (.slice no ns.length nc) ns.length (ns.map (wM .i64))) (λti _=>ns.length-(intOf ti).toNat)
 case atStart=>exact⟨0,_,qh _,rfl,Bi.out,λn=>by simp,Bj.out,AQ,HR.out⟩
 case round=>
  obtain⟨i,f,hi,rfl,hM,hf,A3,AR,A9⟩:=hrel;by_cases U:i<ns.length
  .obtain⟨g,AU,Bm,e0,e1,e2,e3,e4,e5⟩:=z0d A9 (by omega);cases e0;have cc:=A9.cells (g:=g) rfl i (.int .i64 (ns.getD i 0)) (by rw[qZ,qw U,q7,qw U];rfl);rw[qP,qT] at cc;have BM:=AO.out i U;have Bo:=hid (λq=>zi7 ns i U q);have BN:0<=(i:Int)/\(i:Int)<(ns.length:Int):=by omega
   generalize ns.getD i 0=nn at*;obtain⟨kn,Bp⟩:∃kn:Nat,nn=(kn:Int):=⟨nn.toNat,by omega⟩;subst Bp;have AV:kn<100:=by omega
   have HC:=hid (z6K kn AV wr);have HM:=hid hM;have Ay:=hid hf;have V:=hid A3;have Bq:=hid A9;have BO:=z6Z AV;clear hM hf A3 A9 e1 e2 e3 e4 e5;go_wp2_with (first
    | (go_at_call 74;refine HC.out.mono ?_;rintro e w' ⟨rfl,rfl⟩)
    | (at_mapUpdate;refine z4M rfl _ _ _ 138 rfl 9 2 underlying9 (by kernel_rfl) (w.heap.size+1) i f rfl HM.out (by unfold qS;omega) (nm kn) (by unfold qS;omega) _ rfl rfl ?_;intro w6 AW AX;have Br:=hid AW;have Az:=hid AX;clear AW AX))
   go_roundw
   case rel=>
    refine⟨i+1,_,by omega,by go_num,Br.out,λn=>?_,V.out.grown Az.out V.out.size (λj hj=>by cases hj;omega),qe AR Az.out.size,z04 Bq.out λg' c hg=>Az.out.block g' (z00 hg) (λe=>?_)⟩
    .rw[Bo.out,<-Ay.out n];unfold upd;by_cases e:n=nm kn
     .rw[if_pos e];simp[e]
     .rw[if_neg e];simp[e]
    .cases e;obtain⟨es,ck,hm⟩:=HM.out.isMap;rw[hm] at hg;cases hg
   case measure=>simp[intOf];omega
  .rename World=>wq
   have he:i=ns.length:=by omega
   subst he;rw[qD] at hf;have AA:WT wq Z bw bd cnt D p dn:=HW.out.kept A3.size λj hj=>A3.block j (HW.out.lt j hj)
   have HC:=hid (zh7 AA (by omega));have HM:=hid hM;have Ay:=hid hf;have V:=hid A3;have Bt:=hid AA;clear hM hf A3 A9 AA;go_wp2_with fail;refine HC.out.mono ?_;rintro e w3 ⟨BP,T,rfl,hT,_,O,Y⟩;have BQ:=AM.out T hT;have AY:∀j,j<T.length->(bt (T.getD j [])).size<=1000:=λj hj=>Bg.out _ ((hT.mem _).1 (by rw[q7,qw hj];exact qK hj))
   have Bu:=hid AY;have AZ:=hid hT;have BR:=hid Y;have Bv:Hid (XFr Z w w3):=hid ⟨Y.os.trans V.out.os,Y.tape.trans V.out.tape,Y.output.trans V.out.output,qi V.out.size Y.size,λk hk _=>(Y.block k (qe hk V.out.size)).trans (V.out.block k hk)⟩;have Bw:=hid (HM.out.below Y HM.out.lt);have By:=hid (Bt.out.below Y);obtain⟨ta,tc,rfl⟩:=z02 O;have Bz:=hid (z07 O (qh _));have BS:=Y.size;have BU:=HM.out.lt;have BV:=V.out.size;clear hT Y O HC AY;go_wp2_with fail;go_loopw [29] (λti wr=>∃(j:Nat) (Zj:Nat->Prop) (Dj:DK.M) (pj:Int),j<=T.length/\ti= .int .i64 j/\WT wr Zj bw bd (cnt+j) Dj pj dn/\XFr Z w wr/\w3.heap.size<=wr.heap.size/\(∀k,Zj k->Z k\/w3.heap.size<=k)/\SX.z2f (SX.z1W x) ((T.drop j).map bt) Dj pj=SX.z2f (SX.z1W x) (T.map bt) D p/\z2g q6 9 wr (w.heap.size+1) ns.length f/\wr.ownsRow 0 9 1 (.slice ta T.length tc) T.length (T.map encStr)) (λti _=>T.length-(intOf ti).toNat)
   case atStart=>exact⟨0,Z,D,p,qh _,rfl,By.out,Bv.out,qq _,λk hk=> .inl hk,by rw[um],Bw.out,Bz.out⟩
   case round=>
    obtain⟨j,Zj,Dj,pj,hj,rfl,Ag,Ah,Ac,Ai,A4,Aj,Ad⟩:=hrel;by_cases U:j<T.length
    .obtain⟨g,AU,Bm,e0,e1,e2,e3,e4,e5⟩:=z0d Ad (by omega);cases e0;have cc:=Ad.cells (g:=g) rfl j (.string (bt (T.getD j []))) (by rw[qZ,qw U,q7,qw U];rfl);rw[qP,qT] at cc;have BW:=Bu.out j U;have hdr:(T.drop j).map bt=bt (T.getD j [])::(T.drop (j+1)).map bt:=by
      rw[rm U,wR,q7,qw U];rfl
     rw[hdr,SX.z2f] at A4;have BX:0<=(j:Int)/\(j:Int)<(T.length:Int):=by omega
     have B0:=Ay.out (bt (T.getD j []));have AB:=Bl.out (bt (T.getD j []));rw[<-B0] at AB;generalize bt (T.getD j [])=fn at*;have Ak:=z2g.look_ok Aj underlying9 (by kernel_rfl:q6.underlying 138=some (.map 9 2)) zjC (s:=fn) (by unfold qS;omega) rfl rfl;generalize (f fn).getD (.int .i64 0)=u0 at Ak;generalize BA:(f fn).isSome=ok at*;have A5:=hid Ag;have Ae:=hid Ah;have A2:=hid Ai;have Al:=hid A4;have Am:=hid Aj;have AC:=hid Ad;have B3:=hid AB;clear Ag Ah Ai A4 Aj Ad AB B0 BA e1 e2 e3 e4 e5 hdr;have BB:=hid (Tryz.strings_HasPrefix fn zre wr);cases ok with
     | true=>
      have hk:SX.z1W x fn=true:=by rw[B3.out];rfl
      have J:=Al.out;rw[if_pos hk] at J;have Ao:=hid J;clear J hk;go_wp2_with (at_lookup;refine z1F rfl _ _ 138 rfl _ _ rfl rfl _ Ak ?_)
      go_roundw
      case rel=>exact⟨j+1,Zj,Dj,pj,by omega,by go_num,A5.out.mono (by omega),Ae.out,Ac,A2.out,Ao.out,Am.out,AC.out⟩
      case measure=>simp[intOf];omega
     | false=>
      go_wp2_with (at_lookup;refine z1F rfl _ _ 138 rfl _ _ rfl rfl _ Ak ?_)
      refine BB.out.mono ?_;rintro e w' ⟨rfl,rfl⟩;have hk:SX.z1W x fn= !isB fn:=by rw[B3.out];rfl
      have hq:Lib.hasPrefix fn.data.toList zre.data.toList=isB fn:=rfl;rw[hq];have J:=Al.out;rw[hk] at J;generalize isB fn=q at*;have Ao:=hid J;clear J hk hq Ak;cases q with
      | false=>
       go_wp2_with fail;go_roundw
       case rel=>exact⟨j+1,Zj,Dj,pj,by omega,by go_num,A5.out.mono (by omega),Ae.out,Ac,A2.out,by have:=Ao.out;rw[if_pos (by rfl)] at this;exact this,Am.out,AC.out⟩
       case measure=>simp[intOf];omega
      | true=>
       have HC:=hid (zb9 A5.out fn (by unfold qS;omega));go_wp2_with fail;refine HC.out.mono ?_;rintro e w4 ⟨rfl,Z4,AD,A6,AE⟩;have J:=Ao.out;rw[if_neg (by simp)] at J;unfold WL.seq at J;have AF:XFr Z w w4:=Ae.out.trans A6 λk hk=>(A2.out k hk).imp id λe=>by omega
       have Ap:∀k,Z4 k->Z k\/w3.heap.size<=k:=λk hk=>by
        rcases AE k hk with e|e
        .exact A2.out k e
        .exact .inr (by omega)
       have BC:w3.heap.size<=w4.heap.size:=qi Ac A6.size;have B5:=hid AF;have B6:=hid AD;by_cases h0:(WL.act 3 fn qy Dj pj).1=0
       .rw[if_pos h0] at J;rw[z1R h0];have Ba:z2g q6 9 w4 (w.heap.size+1) ns.length f:=Am.out.block (A6.block _ Am.out.lt (λe=>by
         rcases A2.out _ e with e|e
         .have:=HW.out.lt _ e;omega
         .omega))
        have Bb:=z04 AC.out λg' c hg=>A6.block g' (z00 hg) (A5.out.kind.out hg (by unfold KD;decide))
        have AG:=hid J;have AH:=hid Ap;have BD:=hid Ba;have BF:=hid Bb;clear J AF Ap Ba Bb h0 AD A6 AE HC;go_wp2_with fail;go_roundw
        case rel=>exact⟨j+1,Z4,_,_,by omega,by go_num,B6.out,B5.out,BC,AH.out,AG.out,BD.out,BF.out⟩
        case measure=>simp[intOf];omega
       .rw[if_neg h0] at J;rw[z13 h0];have AG:=hid J;have H0:=hid h0;have AH:=hid Ap;clear J AF Ap h0 AD A6 AE HC;generalize Bc:(WL.act 3 fn qy Dj pj).1=cc at*;have BG:=hid Bc;clear Bc;go_wp2_with fail;go_ret;refine⟨T,AZ.out,?_⟩;rw[<-AG.out];exact⟨by rw[BG.out,z13 H0.out];rfl,Z4,B6.out.mono (by omega),B5.out,λk hk=>(AH.out k hk).imp id λe=>by omega⟩
    .have he:j=T.length:=by omega
     subst he;rw[List.drop_length] at A4;have A5:=hid Ag;have Ae:=hid Ah;have A2:=hid Ai;have Al:=hid A4;clear Ag Ah Ai A4 Aj Ad;go_wp2_with fail;go_ret;refine⟨T,AZ.out,?_⟩;rw[<-Al.out];exact⟨rfl,Zj,A5.out.mono (by omega),Ae.out,λk hk=>(A2.out k hk).imp id λe=>by omega⟩
end
section
open Go.RowKit Go.Maps
abbrev z3E (bd bw:Nat)(up:Bool)(hb bm:Nat)(vg:Value)(x:SX.St):Array Value:=#[.pointer (some ⟨bd,0,none⟩),.pointer (some ⟨bw,0,none⟩),.bool up,.pointer (some ⟨hb,0,none⟩),.map (some bm),.int .i64 x.s.nx,vg]
namespace SX
def news (h:Int->Bool)(od:Int->Int):List Blk->List (ByteArray×ByteArray)
 | []=>[]
 | b::B=>if h b.n then news h od B else(nm b.n.toNat,sb (BK.bytes b.zto (od b.n) b.S))::news h od B
def z0Y:List (ByteArray×ByteArray)->DK.M->Int->WL.Out
 | [],D,p=>(0,D,p)
 | (n,s)::l,D,p=>WL.seq (z4m n s D p) λD p=>z0Y l D p
def z1z (y:St)(h:List (ByteArray×ByteArray))(D:DK.M)(p:Int)(o:WL.Out):Prop:=
 ((z0Y h D p).1≠0/\o=z0Y h D p)\/((z0Y h D p).1=0/\
  (((WL.repl kpt frs (WL.joined ((z0n y).map txt)) (z0Y h D p).2.1 (z0Y h D p).2.2).1≠0/\o=WL.repl kpt frs (WL.joined ((z0n y).map txt)) (z0Y h D p).2.1 (z0Y h D p).2.2)\/
   ((WL.repl kpt frs (WL.joined ((z0n y).map txt)) (z0Y h D p).2.1 (z0Y h D p).2.2).1=0/\∃T,ST T (λn=>(WL.repl kpt frs (WL.joined ((z0n y).map txt)) (z0Y h D p).2.1 (z0Y h D p).2.2).2.1 n≠none)/\
   o=z2f (z1W y) (T.map bt) (WL.repl kpt frs (WL.joined ((z0n y).map txt)) (z0Y h D p).2.1 (z0Y h D p).2.2).2.1 (WL.repl kpt frs (WL.joined ((z0n y).map txt)) (z0Y h D p).2.1 (z0Y h D p).2.2).2.2)))
end SX
namespace SX
def Few (K:Nat)(D:DK.M):Prop:=∃L:List ByteArray,L.length<=K/\∀n,D n≠none->n∈L
theorem Few.mono {K q:Nat}{D:DK.M}(h:Few K D)(k:K<=q):Few q D:=by
 obtain⟨L,G,J⟩:=h;exact⟨L,qi G k,J⟩
theorem Few.act {K:Nat}{D:DK.M}(h:Few K D)(a:Nat)(n s:ByteArray)(p:Int):Few (K+2) (WL.act a n s D p).2.1:=by
 obtain⟨L,V,J⟩:=h;refine⟨n::s::L,by simp;omega,λm O=>?_⟩;by_cases q:m=n
 .simp[q]
 by_cases G:m=s
 .simp[G]
 have U:D m≠none:=λe=>O (by
  show DK.z6V a D p n s m=none;unfold DK.z6V;split
  .unfold DK.next
   split
   .rw[DK.z0b _ _ _ _ q];exact e
   .rw[DK.z0b _ _ _ _ q];exact e
   .rw[DK.z0b _ _ _ _ G,DK.z0A _ _ _ q];exact e
   .rw[DK.z0A _ _ _ q];exact e
  .exact e)
 simp[J m U]
theorem Few.seq {K q:Nat}{r:WL.Out}{f:DK.M->Int->WL.Out}(h:Few K r.2.1)(G:K<=q)(J:∀D p,Few K D->Few q (f D p).2.1):Few q (WL.seq r f).2.1:=by
 unfold WL.seq;split
 .exact J _ _ h
 .exact h.mono G
theorem Few.z4m {K:Nat}{D:DK.M}(h:Few K D)(n s:ByteArray)(p:Int):Few (K+4) (SX.z4m n s D p).2.1:=
 Few.seq (h.act 0 n s p) (by omega) λ_ _ h=>h.act 1 n _ _
theorem Few.repl {K:Nat}{D:DK.M}(h:Few K D)(t:ByteArray)(p:Int):Few (K+8) (WL.repl kpt frs t D p).2.1:=by
 unfold WL.repl;refine Few.seq (K:=K+2) (h.act 3 frs qy p) (by omega) λU q h1=>?_
 refine Few.seq (K:=K+4) (h1.act 0 frs t q) (by omega) λV G h2=>?_
 refine Few.seq (K:=K+6) (h2.act 1 frs qy G) (by omega) λY J O=>?_
 exact O.act 2 frs kpt J
theorem z2K {α:Type}:∀(a b:List α),a.Nodup->(∀x∈a,x∈b)->a.length<=b.length
 | [],_,_,_=>qh _
 | x::a,b,h,hs=>by
  classical
  have h1:=List.nodup_cons.1 h;have:=z2K a (b.erase x) h1.2 λy q=>(List.mem_erase_of_ne (λe=>h1.1 (by rw[<-e];exact q))).2 (hs y (qp _ q))
  rw[List.length_erase_of_mem (hs x qd)] at this;have G:=List.length_pos_of_mem (hs x qd);rw[qf];omega
theorem Few.st {K:Nat}{D:DK.M}(h:Few K D){T:List (List UInt8)}(J:ST T λn=>D n≠none):T.length<=K:=by
 obtain⟨L,Y,O⟩:=h;have q:(T.map bt).Nodup:=eX.2 (J.2.1.imp λ{a b} G e=>G (by
  have:=congrArg (λb=>b.data.toList) e;simpa [bt] using this))
 have U:∀n∈T.map bt,n∈L:=λn q=>by
  obtain⟨l,V,rfl⟩:=qx.1 q;exact O _ ((J.mem l).1 V)
 have:(T.map bt).length<=L.length:=z2K _ _ q U;rw[qz] at this;omega
end SX
theorem z4Q:∀W,(zeroValue 123).run q6 W= .ok (.agg #[.int .i64 0,.int .i64 0,.slice none 0 0]) W:=λW=>by
 go_simp
theorem wfI {n:Int}(h: -9223372036854775808<=n)(q:n<=9223372036854775807):(Lit.int .i64 n).wf=true:=by
 have G:qW.min= -9223372036854775808:=rfl;have J:qW.max=9223372036854775807:=rfl;simp only[Lit.wf,Bool.and_eq_true,decide_eq_true_eq];omega
theorem zbR:q6.underlying 75=some (.map 2 123):=by kernel_rfl
theorem zaY:q6.underlying 2=some (.int .i64):=by kernel_rfl
theorem z2M (k:Nat)(h:k<4)(W:World)(B:Nat):(Instr.fieldAt 80 (.pointer (some ⟨B,0,none⟩)) k).run q6 W= .ok (.pointer (some ⟨B,k,none⟩)) W:=by
 match k,h with
 | 0,_=>go_simp
 | 1,_=>go_simp
 | 2,_=>go_simp
 | 3,_=>go_simp
theorem zd8 (b k q:Nat)(w:World)(h:w.cell? ⟨b,k,none⟩=some (.pointer (some ⟨q,0,none⟩))):(wZ 29 (.pointer (some ⟨b,k,none⟩))).run q6 w= .ok (.pointer (some ⟨q,0,none⟩)) w:=by
 have G:(q6.info? 29).map (·.size)=some 1:=by kernel_rfl
 go_simp
theorem zlD (b k q:Nat)(w:World)(h:w.cell? ⟨b,k,none⟩=some (.pointer (some ⟨q,0,none⟩))):(wZ 70 (.pointer (some ⟨b,k,none⟩))).run q6 w= .ok (.pointer (some ⟨q,0,none⟩)) w:=by
 have G:(q6.info? 70).map (·.size)=some 1:=by kernel_rfl
 go_simp
theorem z4X (b k q:Nat)(w:World)(h:w.cell? ⟨b,k,none⟩=some (.map (some q))):(wZ 75 (.pointer (some ⟨b,k,none⟩))).run q6 w= .ok (.map (some q)) w:=by
 have G:(q6.info? 75).map (·.size)=some 1:=by kernel_rfl
 go_simp
theorem zd2 (b hb bm:Nat)(nx:Int)(q:Option Addr)(gn G:Nat)(w:World)(h:w.heap[b]? =some (.cells #[.pointer (some ⟨hb,0,none⟩),.map (some bm),.int .i64 nx,.slice q gn G] 77)):(wZ 77 (.pointer (some ⟨b,0,none⟩))).run q6 w= .ok (.agg #[.pointer (some ⟨hb,0,none⟩),.map (some bm),.int .i64 nx,.slice q gn G]) w:=by
 have Y:(q6.info? 77).map (·.size)=some 4:=by kernel_rfl
 have J:=z01 _ _ _ _ h 0 _ rfl;have O:=z01 _ _ _ _ h 1 _ rfl;have U:=z01 _ _ _ _ h 2 _ rfl;have V:=z01 _ _ _ _ h 3 _ rfl;clear h;simp only[List.getElem_toArray,List.getElem_cons_zero,List.getElem_cons_succ] at J O U V
 go_simp
def WOk (b:SX.Blk)(old:Int):Prop:=BK.right b.zto old b.S=true/\z8p b.S/\(sb (BK.bytes b.zto old b.S)).size<=1000000/\ -9223372036854775808<=b.zto/\b.zto<=9223372036854775807
theorem ze0:∀{l:List (ByteArray×ByteArray)} {D:DK.M} {p:Int} {N:Nat},DK.Fine N D->(∀x∈l,x.2.size<=1000000)->DK.Fine (N+l.length*1000000) (SX.z0Y l D p).2.1:=by
 intro l
 induction l with
 | nil=>intro D p N h _;simpa [SX.z0Y] using h
 | cons a l ih=>
  intro D p N h G;obtain⟨n,s⟩:=a;rw[SX.z0Y];have h1:DK.Fine (N+1000000) (SX.z4m n s D p).2.1:=by
   have q:=G _ qd;simp only at q;unfold SX.z4m WL.seq;have k1:DK.Fine (N+s.size) (WL.act 0 n s D p).2.1:=DK.z4x h;split
   .have J:DK.Fine (N+s.size+qy.size) (WL.act 1 n qy (WL.act 0 n s D p).2.1 (WL.act 0 n s D p).2.2).2.1:=DK.z4x k1;exact J.mono (by have:qy.size=0:=rfl;omega)
   .exact k1.mono (by omega)
  unfold WL.seq;split
  .exact(ih h1 (λx O=>G x (qp _ O))).mono (by rw[qf];omega)
  .exact h1.mono (by rw[qf];omega)
theorem z6A {r:WL.Out}{f:DK.M->Int->WL.Out}(h:∃N,DK.Fine N r.2.1)(q:∀D p,(∃N,DK.Fine N D)->∃N,DK.Fine N (f D p).2.1):∃N,DK.Fine N (WL.seq r f).2.1:=by
 unfold WL.seq;split
 .exact q _ _ h
 .exact h
theorem z4t {D:DK.M}(h:∃N,DK.Fine N D)(a:Nat)(n s:ByteArray)(p:Int):∃N,DK.Fine N (WL.act a n s D p).2.1:=by
 obtain⟨N,h⟩:=h;exact⟨N+s.size,DK.z4x h⟩
theorem ze4 {D:DK.M}(h:∃N,DK.Fine N D)(t:ByteArray)(p:Int):∃N,DK.Fine N (WL.repl kpt frs t D p).2.1:=by
 unfold WL.repl;exact z6A (r:=WL.bear (WL.act 3 frs qy D p)) (z4t h 3 frs qy p) λY q G=>z6A (z4t G 0 frs t q) λD2 J O=>z6A (z4t O 1 frs qy J) λD3 U V=>z4t V 2 frs kpt U
theorem zhd {w:World}{Zh:Nat->Prop}{od:Int->Int}{f:Int->Option Value}{B:List SX.Blk}(h:z8D w Zh od f B)(n:Int):(f n).isSome=B.any λc=>decide (c.n=n):=by
 cases e:B.any λc=>decide (c.n=n) with
 | true=>
  obtain⟨c,G,J⟩:=List.any_eq_true.1 e;obtain⟨v,q,_⟩:=h.1 c G;have O:c.n=n:=by simpa using J
  rw[<-O,q];rfl
 | false=>
  cases hf:f n with
  | none=>rfl
  | some v=>
   obtain⟨c,G,J⟩:=h.2 n (by rw[hf];simp);have:=tq.1 e c G;simp[J] at this
theorem zic {w:World}{Zh:Nat->Prop}{od:Int->Int}{f:Int->Option Value}{B:List SX.Blk}(h:z8D w Zh od f B)(n:Int):∃t o G k c,(f n).getD (.agg #[.int .i64 0,.int .i64 0,.slice none 0 0])= .agg #[.int .i64 t,.int .i64 o,.slice G k c]:=by
 cases hf:f n with
 | none=>exact⟨0,0,none,0,0,rfl⟩
 | some v=>
  obtain⟨c,O,J⟩:=h.2 n (by rw[hf];simp);obtain⟨u,q,⟨xs,U,_⟩,_⟩:=h.1 c O;rw[J,hf] at q;obtain⟨G,cap,V⟩:=z02 U.row;have Y:=qt q;exact⟨c.zto,od c.n,G,c.S.length,cap,by rw[Y,V,J];rfl⟩
theorem zdJ {w:World}{Z:Nat->Prop}{bw bd cnt:Nat}{D:DK.M}{p:Int}(h:WT w Z bw bd cnt D p false)(EK:cnt<=80000)(C6:DK.Fine 50000000 D)(bs hb bm mc A2 J Ao:Nat)(Zh Ax:Nat->Prop)(vg C8:Value)(up:Bool)(x y:SX.St)(od O:Int->Int)
  (C9:w.heap[bs]? =some (.cells (z3E bd bw up hb bm vg x) 80)) (hN:z1v w hb bm mc Zh vg x od) (AU:z1v w A2 J Ao Ax C8 y O) (Ca:¬Z bm) (AV:¬Z J) (hF:SX.Fit x) (AW:SX.Fit y) (EL:mc<=100000) (Ay:Ao<=100000)
  (Cb:∀b∈y.s.B,(x.s.B.any λc=>decide (c.n=b.n))=false->WOk b (O b.n)) (Ek: -9223372036854775808<=y.s.mark/\y.s.mark<=9223372036854775807) (El:y.G.length<=1000) (hW:z0X w) (hG:1<w.heap.size) (Cc:¬Z 1) (Cd:∀s∈(SX.z0n y).map SX.txt,s.size<=60000) (Em:((SX.z0n y).map SX.txt).length<=1000)
  (Bf:SX.Few 40 D):
  Calls q6 107 #[.pointer (some ⟨bs,0,none⟩),.agg (z0L A2 J C8 y)] w λen w'=>∃o dn',SX.z1z y (SX.news (λn=>x.s.B.any λc=>decide (c.n=n)) O y.s.B) D p o/\(o.1=0->dn'=false)/\en= .returned (er o.1)/\z6R w Z bw bd (cnt+400) o.2.1 o.2.2 dn' w':=by
 obtain⟨ga,gc,Ce⟩:=z02 hN.gn;obtain⟨A4,A5,Bg⟩:=z02 AU.gn;generalize (x.G.map λd=>SX.txt (.gone d)).length=gn at Ce;generalize (y.G.map λd=>SX.txt (.gone d)).length=gn2 at Bg;subst Ce;subst Bg;obtain⟨mf,Cf,Bh⟩:=hN.mp;obtain⟨Cg,AX,Ah⟩:=AU.mp;have Bi:=z4c Ah (AW.inv.asc.imp λk=>k.1);have BN:Below w.heap.size w (w.alloc (.cells (z0L A2 J (.slice A4 gn2 A5) y) 77)):=(Below.refl _ w).alloc (qq _) _;have Ap:=qu w (.cells (z0L A2 J (.slice A4 gn2 A5) y) 77);have d0:qs _ ⟨w.heap.size,0,none⟩=some (.pointer (some ⟨A2,0,none⟩)):=z01 _ _ _ _ Ap 0 _ rfl;have d1:qs _ ⟨w.heap.size,1,none⟩=some (.map (some J)):=z01 _ _ _ _ Ap 1 _ rfl;have d2:qs _ ⟨w.heap.size,2,none⟩=some (.int .i64 y.s.nx):=z01 _ _ _ _ Ap 2 _ rfl;have d3:qs _ ⟨w.heap.size,3,none⟩=some (.slice A4 gn2 A5):=z01 _ _ _ _ Ap 3 _ rfl;have HC:=hid (z1P (.pointer (some ⟨A2,0,none⟩)) (.slice A4 gn2 A5) y.s.nx J Ao Cg _ (AX.below BN AX.lt) Ay);have En:=hid BN;have Ch:=hid Ap;have HT:=hid Bi;have HW:=hid h;have HN:=hid hN;have Ci:=hid AU;have A8:=hid C9;have Cj:=hid Bh;have Ck:=hid Ah;have HM:=hid Cf;have Cl:=hid AX;have HF:=hid hF;have Az:=hid AW;have Eo:=hid Cb;have Cm:=hid hW;have Cn:=hid Cd;have Co:=hid Bf;have Ep:=hid C6;have EM:y.s.B.length<=30:=AW.thirty;clear h hN AU C9 Bh Ah Cf AX hF AW Cb hW Cd Bf C6 BN Ap Bi;go_enter func107,ntmps107;go_wp2_with fail;generalize w.alloc (.cells (z0L A2 J (.slice A4 gn2 A5) y) 77)=w1 at*;refine HC.out.mono ?_;rintro e w2 ⟨nv,ks,rfl,Cp,_,AA,znd⟩;obtain rfl:=IT.uniq Cp HT.out;have Cq:=hid (z0u En.out znd);have Cr:=hid ((znd.block _ (z00 Ch.out)).trans Ch.out);have Er:=hid (HW.out.below Cq.out);have EN:w.heap.size<w2.heap.size:=z00 Cr.out
 have Cs:(y.s.B.map (·.n)).length=y.s.B.length:=qz _;have Bj:∀i,i<y.s.B.length->(y.s.B.map (·.n)).getD i 0=(y.s.B.getD i ⟨0,0,[]⟩).n:=λi hi=>by
  rw[q7,qZ,qw hi,q7,qw hi];rfl
 have Ct:=hid Bj;obtain⟨no,nc,rfl⟩:=z02 AA;have HR:=hid (z07 AA (qh _));clear Cp AA znd HC d0 d1 d2 d3 Bj;generalize BO:y.s.B.map (·.n)=ns at*;have EO:=hid BO;have EP:ns.length<=30:=by omega
 have Cu:=hid Cs;clear BO Cs;go_wp2_with fail;go_loopw [14] (λti wr=>∃(i:Nat) (Zj:Nat->Prop) (V:DK.M) (Y:Int),i<=ns.length/\ti= .int .i64 i/\WT wr Zj bw bd (cnt+2*i) V Y false/\XFr Z w wr/\w2.heap.size<=wr.heap.size/\(∀k,Zj k->Z k\/w2.heap.size<=k)/\SX.z0Y (SX.news (λn=>x.s.B.any λc=>decide (c.n=n)) O (y.s.B.drop i)) V Y=SX.z0Y (SX.news (λn=>x.s.B.any λc=>decide (c.n=n)) O y.s.B) D p/\DK.Fine (50000000+i*1000000) V/\SX.Few (40+i*4) V/\wr.heap[w.heap.size]? =some (.cells (z0L A2 J (.slice A4 gn2 A5) y) 77)/\wr.ownsRow 0 2 1 (.slice no ns.length nc) ns.length (ns.map (wM .i64))) (λti _=>ns.length-(intOf ti).toNat)
 case atStart=>exact⟨0,Z,D,p,qh _,rfl,Er.out,XFr.below Cq.out,qq _,λk hk=> .inl hk,by rw[um],Ep.out.mono (by omega),Co.out,Cr.out,HR.out⟩
 case round=>
  obtain⟨i,Zj,V,Y,hi,rfl,AY,A6,Cv,AZ,Aq,B0,B3,Al,AB⟩:=hrel;by_cases Cw:i<ns.length
  .obtain⟨g,EH,EQ,e0,e1,e2,e3,e4,e5⟩:=z0d AB (by omega);cases e0;have cc:=AB.cells (g:=g) rfl i (.int .i64 (ns.getD i 0)) (by rw[qZ,qw Cw,q7,qw Cw];rfl);rw[qP,qT] at cc;have AC:i<y.s.B.length:=by have:=Cu.out;omega
   have Ad:y.s.B.getD i ⟨0,0,[]⟩∈y.s.B:=by rw[q7,qw AC];exact qK AC
   have hdr:y.s.B.drop i=y.s.B.getD i ⟨0,0,[]⟩::y.s.B.drop (i+1):=by
    rw[rm AC,q7,qw AC];rfl
   rw[hdr,SX.news] at Aq;rw[Ct.out i AC] at cc;have ER:=Az.out.inv.num _ Ad;have EI:=Az.out.num _ Ad;have EJ:=Az.out.nx;have ES:0<=(i:Int)/\(i:Int)<(ns.length:Int):=by omega
   obtain⟨bv,Cx,Cy,ET⟩:=Ck.out.1 _ Ad;have Bl:=Eo.out _ Ad;generalize y.s.B.getD i ⟨0,0,[]⟩=bb at*;obtain⟨bn,A3,bS⟩:=bb;dsimp only at*;obtain⟨U,Es⟩:∃U:Nat,bn=(U:Int):=⟨bn.toNat,by omega⟩;subst Es;have Cz:=HN.out.disk HW.out.kind Ca A6;have AD:wr.heap[bs]? =some (.cells (z3E bd bw up hb bm (.slice ga gn gc) x) 80):=(A6.block bs (z00 A8.out) (HW.out.kind.out A8.out (by unfold KD;decide))).trans A8.out;have CB:z1x q6 2 wr bm mc mf:=HM.out.block (A6.block bm HM.out.lt Ca);have m4:wr.cell? ⟨bs,4,none⟩=some (.map (some bm)):=z01 _ _ _ _ AD 4 _ rfl;have Ai:=z1x.look_ok CB zaY zbR z4Q (s:=(U:Int)) (wfI (by omega) (by omega)) rfl rfl;rw[zhd Cj.out (U:Int)] at Ai;obtain⟨t0,o0,a0,k0,c0,hu⟩:=zic Cj.out (U:Int);rw[hu] at Ai;have EU:=hid Cz;have CC:=hid AD;have CE:=hid AY;have CF:=hid A6;have B5:=hid AZ;have BP:=hid Aq;have BQ:=hid B0;have CG:=hid B3;have B6:=hid Al;have CH:=hid AB;have CI:=hid Bl;have Et:=hid Cx;have CJ:=hid Cy;clear Cz AD CB AY A6 AZ Aq B0 B3 Al AB e1 e2 e3 e4 e5 hdr hu Bl Cx Cy Ad;cases hth:x.s.B.any λc=>decide (c.n=(U:Int)) with
   | true=>
    rw[hth] at Ai;have A7:=BP.out;rw[if_pos hth] at A7;have AE:Below wr.heap.size wr (wr.alloc (.cells #[.int .i64 t0,.int .i64 o0,.slice a0 k0 c0] 123)):=(Below.refl _ wr).alloc (qq _) _;have A1:=hid AE;have BR:=hid A7;clear A7 hth AE;go_wp2_with (at_lookup;refine z1F rfl _ _ 75 rfl _ _ rfl rfl _ Ai ?_)
    go_roundw
    case rel=>exact⟨i+1,Zj,V,Y,by omega,by go_num,(CE.out.below A1.out).mono (by omega),CF.out.trans (XFr.below (X:=Z) A1.out) (λk hk=> .inl hk),qi Cv A1.out.size,B5.out,BR.out,BQ.out.mono (by omega),CG.out.mono (by omega),(A1.out.block _ (z00 B6.out)).trans B6.out,z04 CH.out λg' c hg=>A1.out.block g' (z00 hg)⟩
    case measure=>simp[intOf];omega
   | false=>
    rw[hth] at Ai;have A7:=BP.out;rw[if_neg (by rw[hth];simp)] at A7;have Ae:=CI.out hth;have AE:Below wr.heap.size wr (wr.alloc (.cells #[.int .i64 t0,.int .i64 o0,.slice a0 k0 c0] 123)):=(Below.refl _ wr).alloc (qq _) _;have A1:=hid AE;have BR:=hid A7;have Bm:=hid Ae;clear A7 hth AE Ae CI BP;go_wp2_with (at_lookup;refine z1F rfl _ _ 75 rfl _ _ rfl rfl _ Ai ?_)
    have CK:U<100:=by omega
    have BO:=z6Z CK;generalize Eu:wr.alloc (.cells #[.int .i64 t0,.int .i64 o0,.slice a0 k0 c0] 123)=w5 at*;have AF:=CE.out.below A1.out;have CM:=(A1.out.block _ (z00 CC.out)).trans CC.out;have A9:=(A1.out.block _ (z00 B6.out)).trans B6.out;have CN:J<w.heap.size:=Cl.out.lt;have CO:¬Zj J:=λe=>by
     rcases B5.out J e with e|e
     .exact AV e
     .omega
    have AG:XFr Z w w5:=CF.out.trans (XFr.below (X:=Z) A1.out) (λk hk=> .inl hk);have BS:z1x q6 2 w5 J Ao Cg:=Cl.out.block (AG.block J CN AV);have Aj:=hid AF;have BU:=hid CM;have Ac:=hid A9;have Ev:=hid BS;have Ba:=hid AG;have Ew:J<w5.heap.size:=BS.lt;have Bb:Hid (XFr Zj w5 w5.drew):=hid ⟨rfl,rfl,rfl,qq _,λ_ _ _=>rfl⟩;clear AF CM A9 BS AG Eu Ai m4 cc;refine z0U (λW=>XFr Zj w5 W) [0,1,2,3,4,6,7,8,9] [5,10] [11] (by kernel_rfl) (by kernel_rfl) ?_;simp only[qM,wh,qJ,qF,qA];refine zr0.on (v:= .pointer (some ⟨bs,0,none⟩)) (YC.move rfl (by kernel_rfl)) ?_;refine zr0.on (v:= .pointer (some ⟨bs,0,none⟩)) (λW _=> .inl (by kernel_rfl)) ?_;refine zr0.on (v:= .pointer (some ⟨bs,0,none⟩)) (YC.field rfl (by kernel_rfl) λW=>z2M 0 (by omega) W bs) ?_;refine zr0.on (v:= .pointer (some ⟨bd,0,none⟩)) (YC.load rfl (by kernel_rfl) λW hW=>zd8 bs 0 bd W (z01 _ _ _ _ ((hW.block bs (z00 BU.out) (Aj.out.kind.out BU.out (by unfold KD;decide))).trans BU.out) 0 _ rfl)) ?_;refine zr0.on (v:= .int .i64 (U:Int)) (YC.move rfl (by kernel_rfl)) ?_;refine zr0.on (v:= .pointer (some ⟨w.heap.size,1,none⟩)) (YC.field rfl (by kernel_rfl) λW=>z2j 1 (by omega) W w.heap.size) ?_;refine zr0.on (v:= .map (some J)) (YC.load rfl (by kernel_rfl) λW hW=>z4X w.heap.size 1 J W (z01 _ _ _ _ ((hW.block _ (z00 Ac.out) (Aj.out.kind.out Ac.out (by unfold KD;decide))).trans Ac.out) 1 _ rfl)) ?_;refine zr0.on (v:= .int .i64 (U:Int)) (YC.move rfl (by kernel_rfl)) ?_;refine zr0.on (v:=zal A3 (O (U:Int)) bv) (YC.lookup rfl (by kernel_rfl) (by kernel_rfl) λW hW=>z1x.look (Ev.out.block (hW.block J Ew CO)) zaY zbR z4Q (s:=(U:Int)) (wfI (by omega) (by omega)) (by rw[Et.out];rfl)) ?_;refine zr0.off (C:=λW=>XFr Zj w5 W) Bb.out ?_;go_frame;have CP:=hid (z6K U CK w5.drew)
    go_wp2_with fail;refine CP.out.mono ?_;rintro e w6 ⟨rfl,rfl⟩;go_wp2_with fail;refine z0F.on (C:=λW=>XFr Zj w5 W) Bb.out ?_;have AH:Below w5.heap.size w5 w5.drew:=(Below.refl _ w5).drew;have Bo:SrT w5.drew Ax bv bS:=(CJ.out.kept (w':=w5) λg c e he hg=>Ba.out.block g (z00 hg) (HW.out.kind.out hg (λk=>by
     unfold KD at k;rcases he with rfl|rfl|⟨rfl,_⟩<;>revert k<;>decide))).kept λg c e he hg=>AH.block g (z00 hg)
    have Bp:z0X w5.drew:=λi hi=>(qj (a:=⟨1,i,none⟩) (Ba.out.block _ hG Cc)).trans (Cm.out i hi)
    have Ex:1<w5.drew.heap.size:=qe hG (qi Ba.out.size (qq _));have Ae:=Bm.out;have CQ:=hid (zbi (Aj.out.below AH) (nm U) (by unfold qS;omega) (by omega) (BQ.out.mono (by omega)) A3 (O (U:Int)) bv bS Ax Bo Ae.2.1 Ae.1 (qi Ae.2.2.1 (by omega)) Bp Ex Ae.2.2.2 (by omega));clear AH Bo Bp Ae CP;obtain⟨EV,EW,EX,CS⟩:∃a k c,bv= .slice a k c:=by
     obtain⟨xs,q,_⟩:=CJ.out;obtain⟨a,c,e⟩:=z02 q.row;exact⟨a,_,c,e⟩
    subst CS;go_wp2_with fail;refine CQ.out.mono ?_;rintro e w7 ⟨rfl,Z7,CU,Ar,CV⟩;have Bq:XFr Zj w5 w7:=⟨Ar.os,Ar.tape,Ar.output,Ar.size,λk hk hn=>Ar.block k hk hn⟩;have Au:=hid Bq;have CW:=hid CU;have Ey:=hid CV;clear Ar Bq CU CV CQ;go_wp2_with fail;refine z0F.fin (C:=λW=>XFr Zj w5 W) Au.out ?_;refine zr0.on (v:=er (SX.z4m (nm U) (sb (BK.bytes A3 (O (U:Int)) bS)) V Y).1) (λW _=> .inl (by kernel_rfl)) ?_;refine zr0.fin (C:=λW=>XFr Zj w5 W) Au.out ?_;go_frame;have Af:=BR.out;rw[SX.z0Y] at Af;unfold WL.seq at Af;have Br:XFr Z w w7:=Ba.out.trans Au.out λk hk=>(B5.out k hk).imp id λe=>by omega
    have Bt:∀k,Z7 k->Z k\/w2.heap.size<=k:=λk hk=>by
     rcases Ey.out k hk with e|e
     .exact B5.out k e
     .have h1:w5.heap.size<=k:=e;have h2:=A1.out.size;exact .inr (by omega)
    have Ez:w2.heap.size<=w7.heap.size:=by
     have h1:=Au.out.size;have h2:=A1.out.size;omega
    have Bu:DK.Fine (50000000+(i+1)*1000000) (SX.z4m (nm U) (sb (BK.bytes A3 (O (U:Int)) bS)) V Y).2.1:=by
     have h1:=ze0 (l:=[(nm U,sb (BK.bytes A3 (O (U:Int)) bS))]) (D:=V) (p:=Y) BQ.out (λx hx=>by rw[qk.1 hx];exact Bm.out.2.2.1);have e1:(SX.z0Y [(nm U,sb (BK.bytes A3 (O (U:Int)) bS))] V Y).2.1=(SX.z4m (nm U) (sb (BK.bytes A3 (O (U:Int)) bS)) V Y).2.1:=by
      rw[SX.z0Y];unfold WL.seq;split
      .rfl
      .rfl
     rw[e1] at h1;exact h1.mono (by simp only[qf,qO];omega)
    have Bv:SX.Few (40+(i+1)*4) (SX.z4m (nm U) (sb (BK.bytes A3 (O (U:Int)) bS)) V Y).2.1:=(CG.out.z4m _ _ _).mono (by omega);have Bw:=(Au.out.block _ (z00 Ac.out) (Aj.out.kind.out Ac.out (by unfold KD;decide))).trans Ac.out;have CX:=z04 CH.out λg' c hg=>(Au.out.block g' (qe (z00 hg) A1.out.size) (Aj.out.kind.out ((A1.out.block g' (z00 hg)).trans hg) (by unfold KD;decide))).trans (A1.out.block g' (z00 hg))
    have By:=hid Br;have Bz:=hid Bt;have EA:=hid Bu;have CY:=hid Bv;have CZ:=hid Bw;have EB:=hid CX;clear Br Bt Bu Bv Bw CX;by_cases h0:(SX.z4m (nm U) (sb (BK.bytes A3 (O (U:Int)) bS)) V Y).1=0
    .have AJ:(SX.z4m (nm (U:Int).toNat) (sb (BK.bytes A3 (O (U:Int)) bS)) V Y).1=0:=h0;rw[if_pos AJ] at Af;have Bc:=hid Af;rw[z1R h0];clear Af h0 AJ;go_wp2_with fail;go_roundw
     case rel=>exact⟨i+1,Z7,_,_,by omega,by go_num,CW.out.mono (by omega),By.out,Ez,Bz.out,Bc.out,EA.out,CY.out,CZ.out,EB.out⟩
     case measure=>simp[intOf];omega
    .have AJ:(SX.z4m (nm (U:Int).toNat) (sb (BK.bytes A3 (O (U:Int)) bS)) V Y).1≠0:=h0;rw[if_neg AJ] at Af;have Bc:=hid Af;have H0:=hid h0;rw[z13 h0];clear Af h0 AJ;generalize AK:(SX.z4m (nm U) (sb (BK.bytes A3 (O (U:Int)) bS)) V Y).1=cc at*;have Av:=hid AK;clear AK;go_wp2_with fail;go_ret;refine⟨SX.z4m (nm U) (sb (BK.bytes A3 (O (U:Int)) bS)) V Y,false,.inl ⟨?_,Bc.out⟩,λ_=>rfl,by rw[Av.out,z13 H0.out];rfl,Z7,CW.out.mono (by omega),By.out,λk hk=>(Bz.out k hk).imp id λe=>by omega⟩;rw[<-Bc.out];show(SX.z4m (nm U) (sb (BK.bytes A3 (O (U:Int)) bS)) V Y).1≠0;rw[Av.out];exact H0.out
  .rename World=>wq
   have he:i=ns.length:=by omega
   subst he;have hdr:y.s.B.drop ns.length=[]:=List.drop_eq_nil_of_le (by have:=Cu.out;omega);rw[hdr,SX.news,SX.z0Y] at Aq;have BV:=Ci.out.disk HW.out.kind AV A6;have BA:wq.heap[bs]? =some (.cells (z3E bd bw up hb bm (.slice ga gn gc) x) 80):=(A6.block bs (z00 A8.out) (HW.out.kind.out A8.out (by unfold KD;decide))).trans A8.out;have BB:z0X wq:=λi hi=>(qj (a:=⟨1,i,none⟩) (A6.block _ hG Cc)).trans (Cm.out i hi)
   have BC:∀q∈SX.pieces y.s.H,(SX.txt (.came q)).size<=1000000000000:=λq hq=>by
    have h1:=Cn.out (SX.txt (.came q)) (iI (by unfold SX.z0n;exact qp _ (yZ _ (iI hq))));omega
   have E0:=hid (λW (hW:Below wq.heap.size wq W)=>zht A2 J Ao Ax (.slice A4 gn2 A5) y O W (BV.below hW) Az.out Ek Ay El (z0X.below BB hW (qe hG A6.size)) (qe hG (qi A6.size hW.size)) BC);have Be:=hid AY;have EC:=hid A6;have E1:=hid AZ;have ED:=hid Aq;have E2:=hid B0;have E3:=hid B3;have Aw:=hid Al;have BW:=hid BA;have EY:=hid BV;have Bb:Hid (XFr Zj wq wq.drew):=hid ⟨rfl,rfl,rfl,qq _,λ_ _ _=>rfl⟩;have BD:Hid (Below wq.heap.size wq wq.drew):=hid (Below.refl _ wq).drew;clear AY A6 AZ Aq B0 B3 Al AB BA BV BB BC hdr;go_wp2_with fail;refine z0U (λW=>XFr Zj wq W) [0,1,2,3,4] [5,6] [7] (by kernel_rfl) (by kernel_rfl) ?_;simp only[qM,wh,qJ,qF,qA];refine zr0.on (v:= .pointer (some ⟨bs,0,none⟩)) (YC.move rfl (by kernel_rfl)) ?_;refine zr0.on (v:= .pointer (some ⟨bs,0,none⟩)) (λW _=> .inl (by kernel_rfl)) ?_;refine zr0.on (v:= .pointer (some ⟨bs,1,none⟩)) (YC.field rfl (by kernel_rfl) λW=>z2M 1 (by omega) W bs) ?_;refine zr0.on (v:= .pointer (some ⟨bw,0,none⟩)) (YC.load rfl (by kernel_rfl) λW hW=>zlD bs 1 bw W (z01 _ _ _ _ ((hW.block bs (z00 BW.out) (Be.out.kind.out BW.out (by unfold KD;decide))).trans BW.out) 1 _ rfl)) ?_;refine zr0.on (v:= .agg (z0L A2 J (.slice A4 gn2 A5) y)) (YC.load rfl (by kernel_rfl) λW hW=>zd2 w.heap.size A2 J y.s.nx A4 gn2 A5 W ((hW.block _ (z00 Aw.out) (Be.out.kind.out Aw.out (by unfold KD;decide))).trans Aw.out)) ?_;refine zr0.off (C:=λW=>XFr Zj wq W) Bb.out ?_;go_frame;go_wp2_with fail;refine(E0.out wq.drew BD.out).mono ?_;rintro e w3 ⟨v3,rfl,E4,E5⟩;generalize E6:(SX.z0n y).map SX.txt=NL at*;have AL:=hid E6;clear E6;obtain⟨a3,c3,rfl,E7,EE⟩:=E4.row;have Am:=z0u BD.out E5;have BX:=Be.out.below Am;have E8:=hid (zle BX.wl E2.out (by omega) a3 _ c3 E7 Em (by omega))
   have BZ:Hid (XFr Zj wq w3):=hid (XFr.below Am);have EZ:=hid Am;have F0:=hid BX;clear E4 E7 EE E5 Am BX E0;go_wp2_with fail;refine z0F.on (C:=λW=>XFr Zj wq W) BZ.out ?_;go_wp2_with fail;refine E8.out.mono ?_;intro e w4 E9;have BF:(NL.any λs=>decide (60000<s.size))=false:=tq.2 λs hs=>by
    have:=Cn.out s hs;simp only[decide_eq_true_eq];omega
   have AM:e= .returned (er (WL.repl kpt frs (WL.joined NL) V Y).1)/\z6R w3 Zj bw bd (cnt+2*ns.length+4) (WL.repl kpt frs (WL.joined NL) V Y).2.1 (WL.repl kpt frs (WL.joined NL) V Y).2.2 (decide ((WL.repl kpt frs (WL.joined NL) V Y).1≠0)) w4:=by
    rcases E9 with⟨h1,_⟩|⟨_,h1,_⟩|⟨_,_,h1,h2⟩
    .rw[BF] at h1;cases h1
    .cases h1
    .exact⟨h1,h2.typed⟩
   obtain⟨rfl,Z4,Ea,Eb,Ec⟩:=AM;have AO:XFr Zj wq w4:=BZ.out.trans Eb λk hk=> .inl hk
   have BG:XFr Z w w4:=EC.out.trans AO λk hk=>(E1.out k hk).imp id λe=>by omega
   have BH:∀k,Z4 k->Z k\/w2.heap.size<=k:=λk hk=>by
    rcases Ec k hk with e|e
    .exact E1.out k e
    .have h1:=BZ.out.size;exact .inr (by omega)
   have C0:=hid AO;have Ag:=hid BG;have C2:=hid BH;have AP:=hid Ea;clear BF E9 Eb Ec AO BG BH Ea E8;go_wp2_with fail;refine z0F.fin (C:=λW=>XFr Zj wq W) C0.out ?_;refine zr0.on (v:=er (WL.repl kpt frs (WL.joined NL) V Y).1) (λW _=> .inl (by kernel_rfl)) ?_;refine zr0.fin (C:=λW=>XFr Zj wq W) C0.out ?_;go_frame;have Ak:=ED.out;by_cases h0:(WL.repl kpt frs (WL.joined NL) V Y).1=0
   .rw[z1R h0];have H0:=hid h0;have hd:decide ((WL.repl kpt frs (WL.joined NL) V Y).1≠0)=false:=by simp[h0]
    rw[hd] at AP;have Ed:=ze4 ⟨_,E2.out⟩ (WL.joined NL) Y;have BI:=(E3.out.repl (WL.joined NL) Y);have Ee:=Ci.out.disk HW.out.kind AV Ag.out;have BJ:w4.heap[bs]? =some (.cells (z3E bd bw up hb bm (.slice ga gn gc) x) 80):=(Ag.out.block bs (z00 A8.out) (HW.out.kind.out A8.out (by unfold KD;decide))).trans A8.out;have BM:=(C0.out.block _ (z00 Aw.out) (Be.out.kind.out Aw.out (by unfold KD;decide))).trans Aw.out;generalize Ef:(WL.repl kpt frs (WL.joined NL) V Y)=O2 at*;obtain⟨c2,D2,p2⟩:=O2;dsimp only at*;have C3:=hid Ef;have Eg:Hid (XFr Z4 w4 w4.drew):=hid ⟨rfl,rfl,rfl,qq _,λ_ _ _=>rfl⟩;have AQ:Below w4.heap.size w4 w4.drew:=(Below.refl _ w4).drew;have Eh:=hid (zaj (AP.out.below AQ) (by omega) A2 J Ao Ax (.slice A4 gn2 A5) y O (Ee.below AQ) Az.out Ay (λn hn=>by
     obtain⟨N,hf⟩:=Ed;cases hq:D2 n with
     | none=>exact absurd hq hn
     | some f=>have:=(hf n f hq).1.2;omega) (λT hT=>by have:=BI.st hT;omega))
    have C4:=hid BJ;have C5:=hid BM;clear h0 hd Ed BI Ee BJ BM Ef AQ;go_wp2_with fail;refine z0U (λW=>XFr Z4 w4 W) [0,1,2,3,4] [5] [6] (by kernel_rfl) (by kernel_rfl) ?_;simp only[qM,wh,qJ,qF,qA];refine zr0.on (v:= .pointer (some ⟨bs,0,none⟩)) (YC.move rfl (by kernel_rfl)) ?_;refine zr0.on (v:= .pointer (some ⟨bs,0,none⟩)) (λW _=> .inl (by kernel_rfl)) ?_;refine zr0.on (v:= .pointer (some ⟨bs,0,none⟩)) (YC.field rfl (by kernel_rfl) λW=>z2M 0 (by omega) W bs) ?_;refine zr0.on (v:= .pointer (some ⟨bd,0,none⟩)) (YC.load rfl (by kernel_rfl) λW hW=>zd8 bs 0 bd W (z01 _ _ _ _ ((hW.block bs (z00 C4.out) (AP.out.kind.out C4.out (by unfold KD;decide))).trans C4.out) 0 _ rfl)) ?_;refine zr0.on (v:= .agg (z0L A2 J (.slice A4 gn2 A5) y)) (YC.load rfl (by kernel_rfl) λW hW=>zd2 w.heap.size A2 J y.s.nx A4 gn2 A5 W ((hW.block _ (z00 C5.out) (AP.out.kind.out C5.out (by unfold KD;decide))).trans C5.out)) ?_;refine zr0.off (C:=λW=>XFr Z4 w4 W) Eg.out ?_;go_frame;go_wp2_with fail;refine Eh.out.mono ?_;rintro e w5 ⟨T,hT,rfl,AM⟩;obtain⟨Z5,AF,A9,Ei⟩:=AM;have AR:XFr Z4 w4 w5:=⟨A9.os,A9.tape,A9.output,A9.size,λk hk hn=>A9.block k hk hn⟩;have Ac:=hid AR;have Ej:=hid (Ag.out.trans AR λk hk=>(C2.out k hk).imp id λe=>by omega);have EF:Hid (∀k,Z5 k->Z k\/w.heap.size<=k):=hid λk hk=>by
     rcases Ei k hk with e|e
     .exact(C2.out k e).imp id λe=>by omega
     .have h1:w4.heap.size<=k:=e;have h2:=Ag.out.size;exact .inr (by omega)
    have Aj:=hid AF;have EG:=hid hT;clear A9 AR Ei AF hT Eh;go_wp2_with fail;refine z0F.fin (C:=λW=>XFr Z4 w4 W) Ac.out ?_;refine zr0.on (v:=er (SX.z2f (SX.z1W y) (T.map bt) D2 p2).1) (λW _=> .inl (by kernel_rfl)) ?_;refine zr0.fin (C:=λW=>XFr Z4 w4 W) Ac.out ?_;go_frame;go_wp2_with fail;go_ret;refine⟨SX.z2f (SX.z1W y) (T.map bt) D2 p2,false,.inr ⟨?_,.inr ⟨?_,T,?_,?_⟩⟩,λ_=>rfl,rfl,Z5,Aj.out.mono (by omega),Ej.out,EF.out⟩
    .rw[<-Ak]
    .rw[AL.out,<-Ak];show(WL.repl kpt frs (WL.joined NL) V Y).1=0;rw[C3.out];exact H0.out
    .rw[AL.out,<-Ak];show ST T λn=>(WL.repl kpt frs (WL.joined NL) V Y).2.1 n≠none
     rw[C3.out];exact EG.out
    .rw[AL.out,<-Ak];show _=SX.z2f (SX.z1W y) (T.map bt) (WL.repl kpt frs (WL.joined NL) V Y).2.1 (WL.repl kpt frs (WL.joined NL) V Y).2.2;rw[C3.out]
   .rw[z13 h0];have H0:=hid h0;clear h0;generalize AK:(WL.repl kpt frs (WL.joined NL) V Y).1=cc at*;have Av:=hid AK;clear AK;go_wp2_with fail;go_ret;refine⟨WL.repl kpt frs (WL.joined NL) V Y,_,.inr ⟨?_,.inl ⟨?_,?_⟩⟩,λe=>absurd (Av.out.symm.trans e) H0.out,by rw[Av.out,z13 H0.out];rfl,Z4,AP.out.mono (by omega),Ag.out,λk hk=>(C2.out k hk).imp id λe=>by omega⟩
    .rw[<-Ak]
    .rw[AL.out,<-Ak];show(WL.repl kpt frs (WL.joined NL) V Y).1≠0;rw[Av.out];exact H0.out
    .rw[AL.out,<-Ak]
end
section
open Go.RowKit Go.Maps
def ZS (Z Zh:Nat->Prop)(bs bm:Nat)(vg:Value):Nat->Prop:=λj=>Z j\/Zh j\/j=bs\/j=bm\/vg.ownBlock=some j
structure z0H (w:World) (bs bw bd cnt:Nat) (Z:Nat->Prop) (D:DK.M) (p:Int) (dn up:Bool) (hb bm mc:Nat) (Zh:Nat->Prop) (vg:Value) (x:SX.St) (od:Int->Int):Prop where
 wt:WT w Z bw bd cnt D p dn
 box:w.heap[bs]? =some (.cells (z3E bd bw up hb bm vg x) 80)
 now:z1v w hb bm mc Zh vg x od
 zm:¬Z bm
 zg:¬Z 1
 zgh:¬Zh 1
 zgv:vg.ownBlock≠some 1
 wid:z0X w
 gl:1<w.heap.size
structure z1X (w:World) (Y:Nat->Prop) (w':World) (Y':Nat->Prop):Prop where
 fr:XFr Y w w'
 sub:∀j,Y' j->Y j\/w.heap.size<=j
theorem z1X.trans {a b c:World}{Y G q:Nat->Prop}(h:z1X a Y b G)(k:z1X b G c q):z1X a Y c q:=
 ⟨h.fr.trans k.fr h.sub,λj J=>by
  rcases k.sub j J with e|e
  .exact h.sub j e
  .exact .inr (qi h.fr.size e)⟩
theorem z1X.below {a b c:World}{Y G:Nat->Prop}(h:Below a.heap.size a b)(k:z1X b Y c G):z1X a Y c G:=
 ⟨(XFr.below h).trans k.fr (λj q=> .inl q),λj q=>(k.sub j q).imp id λe=>qi h.size e⟩
theorem z1X.behind {a b c:World}{Y q:Nat->Prop}(h:z1X a Y b q)(k:Below b.heap.size b c):z1X a Y c q:=
 ⟨h.fr.trans (XFr.below (X:=Y) k) (λj G=> .inl G),h.sub⟩
section
variable {w w' : World} {bs bw bd cnt hb bm mc : Nat} {Z Zh : Nat → Prop} {D : DK.M} {p : Int} {dn up : Bool} {vg : Value} {x : SX.St} {od : Int → Int}
theorem z0H.below (h:z0H w bs bw bd cnt Z D p dn up hb bm mc Zh vg x od)(k:Below w.heap.size w w'):z0H w' bs bw bd cnt Z D p dn up hb bm mc Zh vg x od:=
 ⟨h.wt.below k,(k.block _ (z00 h.box)).trans h.box,h.now.below k,h.zm,h.zg,h.zgh,h.zgv,z0X.below h.wid k h.gl,qe h.gl k.size⟩
theorem z0H.out (h:z0H w bs bw bd cnt Z D p dn up hb bm mc Zh vg x od){j:Nat}{c:Array Value}{e:qn}(q:w.heap[j]? =some (.cells c e))(U:¬KD e)(V:e≠165)(Y:e=98->¬Zh j)(h4:e≠80)(h5:e≠9):¬ZS Z Zh bs bm vg j:=by
 rintro(k|k|k|k|k)
 .exact h.wt.kind.out q U k
 .obtain⟨c',e',O,G⟩:=h.now.hd.kind j k;rw[q] at O;cases O;rcases G with G|G
  .exact V G
  .exact Y G k
 .subst k;rw[h.box] at q;cases q;exact h4 rfl
 .subst k;obtain⟨f,hm,_⟩:=h.now.mp;obtain⟨es,ck,J⟩:=hm.isMap;rw[J] at q;cases q
 .exact z0e h.now.gn q (λe=>h5 e.symm) k
theorem z0H.z2v (h:z0H w bs bw bd cnt Z D p dn up hb bm mc Zh vg x od){Y J:Nat->Prop}(k:z1X w (ZS Z Zh bs bm vg) w' Y)(hz:∀j,J j->Y j){v:Value}{S:List Sr}(hS:SrT w Zh v S):SrT w' J v S:=by
 have h1:SrT w' Zh v S:=hS.kept λg c e he q=>k.fr.block g (z00 q) (by
  rcases he with rfl|rfl|⟨rfl,hn⟩
  .exact h.out q (by unfold KD;decide) (by decide) (λe=>by cases e) (by decide) (by decide)
  .exact h.out q (by unfold KD;decide) (by decide) (λe=>by cases e) (by decide) (by decide)
  .exact h.out q (by unfold KD;decide) (by decide) (λ_=>hn) (by decide) (by decide))
 obtain⟨xs,G,q2⟩:=hS;obtain⟨A1,q3,_⟩:=h1;refine⟨xs,⟨G.len,?_,λi hi=>?_,λi hi=>?_⟩,λi hi g q e=>?_⟩
 .exact z04 G.row λg c q=>k.fr.block g (z00 q) (h.out q (by unfold KD;decide) (by decide) (λe=>by cases e) (by decide) (by decide))
 .exact z04 (G.labs i hi) λg c q=>k.fr.block g (z00 q) (h.out q (by unfold KD;decide) (by decide) (λe=>by cases e) (by decide) (by decide))
 .have V:=G.smps i hi;refine⟨V.1,?_⟩;rcases V.2 with h0|⟨g,cap,O,e,a1,U,a3⟩
  .exact .inl h0
  .exact .inr ⟨g,cap,O,e,a1,(k.fr.block g (z00 U) (h.out U (by unfold KD;decide) (by decide) (λ_=>q2 i hi g (by rw[e];rfl)) (by decide) (by decide))).trans U,a3⟩
 .have A2:=((G.smps i hi).lt g q).2;rcases k.sub g (hz g e) with e2|e2
  .rcases V:(G.smps i hi).2 with h0|⟨g',cap,O,e3,a1,U,a3⟩
   .rw[h0.1] at q;cases q
   .rw[e3] at q;have e4:g'=g:=qt q;subst e4;exact h.out U (by unfold KD;decide) (by decide) (λ_=>q2 i hi g' (by rw[e3];rfl)) (by decide) (by decide) e2
  .omega
end
theorem z0H.reset {w w' G:World}{bs bw bd cnt cnt' hb bm mc U q Y:Nat}{Z Z' Zh V:Nat->Prop}{D D':DK.M}{p p':Int}{dn dn' up u:Bool}{vg J:Value}{x y:SX.St}{od A1:Int->Int}(h:z0H w bs bw bd cnt Z D p dn up hb bm mc Zh vg x od)(h1:WT w' Z' bw bd cnt' D' p' dn')(h2:XFr Z w w')(h3:∀j,Z' j->Z j\/w.heap.size<=j)
  (hs:G.heap.size=w'.heap.size) (hj:∀j,j≠bs->G.heap[j]? =w'.heap[j]?) (A2:G.heap[bs]? =some (.cells (z3E bd bw u U q J y) 80)) (hn:z1v w' U q Y V J y A1) (A5:¬Z' q) (A6:¬V 1) (A7:J.ownBlock≠some 1):z0H G bs bw bd cnt' Z' D' p' dn' u U q Y V J y A1:=by
 have O:w'.heap[bs]? =some (.cells (z3E bd bw up hb bm vg x) 80):=(h2.block bs (z00 h.box) (h.wt.kind.out h.box (by unfold KD;decide))).trans h.box;have A8:¬Z' 1:=λe=>by
  rcases h3 _ e with e|e
  .exact h.zg e
  .have:=h.gl;omega
 have A3:z0X w':=λi hi=>(qj (a:=⟨1,i,none⟩) (h2.block _ h.gl h.zg)).trans (h.wid i hi)
 have A9:¬Z' bs:=h1.kind.out O (by unfold KD;decide);refine⟨h1.kept (by rw[hs];exact qq _) λj Ac=>hj j (λe=>A9 (e▸Ac)),A2,?_,A5,A8,A6,A7,?_,?_⟩
 .refine hn.kept (λg c e he hg=>hj g (λe2=>?_)) (hj q (λe2=>?_))
  .rw[e2,O] at hg;cases hg;rcases he with e|e|e|e|e<;>revert e<;>decide
  .obtain⟨f,hm,_⟩:=hn.mp;obtain⟨es,ck,A4⟩:=hm.isMap;rw[e2,O] at A4;cases A4
 .intro i hi;have hg:1≠bs:=λe=>by
   have h0:=A3 0 (by omega);rw[e] at h0;have h9:w'.cell? ⟨bs,0,none⟩=some (.pointer (some ⟨bd,0,none⟩)):=z01 _ _ _ _ O 0 _ rfl;rw[h9] at h0;cases h0
  exact(qj (a:=⟨1,i,none⟩) (hj _ hg)).trans (A3 i hi)
 .rw[hs];exact qe h.gl h2.size
theorem z0H.mz {w w':World}{bs bw bd cnt hb bm mc:Nat}{Z Z' Zh:Nat->Prop}{D:DK.M}{p:Int}{dn up:Bool}{vg:Value}{x:SX.St}{od:Int->Int}(_h:z0H w bs bw bd cnt Z D p dn up hb bm mc Zh vg x od)(h:∀j,Z' j->Z j\/w.heap.size<=j){b:Nat}(hb:b<w.heap.size)(q:¬Z b):¬Z' b:=λe=>by
 rcases h b e with e|e
 .exact q e
 .omega
theorem z0H.zn6 {w w':World}{bs bw bd cnt cnt' hb bm mc:Nat}{Z Z' Zh:Nat->Prop}{D D':DK.M}{p p':Int}{dn dn' up:Bool}{vg:Value}{x:SX.St}{od:Int->Int}(h:z0H w bs bw bd cnt Z D p dn up hb bm mc Zh vg x od)(O:WT w' Z' bw bd cnt' D' p' dn')(h2:XFr Z w w')(G:∀j,Z' j->Z j\/w.heap.size<=j)(u:Bool):
  z0H (w'.setCell ⟨bs,2,none⟩ (.bool u)) bs bw bd cnt' Z' D' p' dn' u hb bm mc Zh vg x od/\z1X w (ZS Z Zh bs bm vg) (w'.setCell ⟨bs,2,none⟩ (.bool u)) (ZS Z' Zh bs bm vg):=by
 have J:w'.heap[bs]? =some (.cells (z3E bd bw up hb bm vg x) 80):=(h2.block bs (z00 h.box) (h.wt.kind.out h.box (by unfold KD;decide))).trans h.box;refine⟨h.reset O h2 G (by rw[z0g]) (λj q=>Below.heap_setCell w' ⟨bs,2,none⟩ _ j q) (qo w' bs 2 _ _ _ J) (h.now.disk h.wt.kind h.zm h2) (h.mz (w':=w') G h.now.mlt h.zm) h.zgh h.zgv,?_,?_⟩
 .exact(h2.mono (X':=ZS Z Zh bs bm vg) λj q=> .inl q).trans (XFr.setCell (X:=ZS Z Zh bs bm vg) w' ⟨bs,2,none⟩ _ (.inr (.inr (.inl rfl)))) λj q=> .inl q
 .rintro j (e|e)
  .rcases G j e with e|e
   .exact .inl (.inl e)
   .exact .inr e
  .exact .inl (.inr e)
theorem zcc {w:World}{bs bw bd cnt hb bm mc N:Nat}{Z Zh:Nat->Prop}{D:DK.M}{p:Int}{up:Bool}{vg:Value}{x:SX.St}{od:Int->Int}(h:z0H w bs bw bd cnt Z D p false up hb bm mc Zh vg x od)(s:ByteArray)(hs:s.size<=60000)(hF:DK.Fine N D)(hN:N<=100000000)(hc:cnt+4<=1000000):
  Calls q6 37 #[.pointer (some ⟨bs,0,none⟩),.string s] w λen w'=>en= .returned (er (WL.z1V kpt s D p).1)/\∃Z',z0H w' bs bw bd (cnt+4) Z' (WL.z1V kpt s D p).2.1 (WL.z1V kpt s D p).2.2 (decide ((WL.z1V kpt s D p).1≠0)) (decide ((WL.z1V kpt s D p).1=0)) hb bm mc Zh vg x od/\z1X w (ZS Z Zh bs bm vg) w' (ZS Z' Zh bs bm vg):=by
 have m1:w.cell? ⟨bs,1,none⟩=some (.pointer (some ⟨bw,0,none⟩)):=z01 _ _ _ _ h.box 1 _ rfl;have HC:=hid (zkK h.wt.wl hF hN s hc);have Y:=hid h;clear h;go_enter func37,ntmps37;go_wp2_with fail;refine HC.out.mono ?_;intro e w2 A1;have q:decide (60000<s.size)=false:=by simp;omega
 have A2:e= .returned (er (WL.z1V kpt s D p).1)/\z6R w Z bw bd (cnt+4) (WL.z1V kpt s D p).2.1 (WL.z1V kpt s D p).2.2 (decide ((WL.z1V kpt s D p).1≠0)) w2:=by
  rcases A1 with⟨U,_⟩|⟨_,U,_⟩|⟨_,_,U,h2⟩
  .rw[q] at U;cases U
  .cases U
  .exact⟨U,h2.typed⟩
 obtain⟨rfl,Z2,A3,G,A4⟩:=A2;have J:w2.heap[bs]? =some (.cells (z3E bd bw up hb bm vg x) 80):=(G.block bs (z00 Y.out.box) (Y.out.wt.kind.out Y.out.box (by unfold KD;decide))).trans Y.out.box;have m2:w2.cell? ⟨bs,2,none⟩=some (.bool up):=z01 _ _ _ _ J 2 _ rfl;have f2:=hfz J 2;have HU:=hid (λu=>Y.out.zn6 A3 G A4 u);clear q A1 A3 G A4 J HC;by_cases V:(WL.z1V kpt s D p).1=0
 .have hd:decide ((WL.z1V kpt s D p).1=0)=true:=by simp[V]
  have O:=z1R V;rw[O];have HD:=hid (qv hd O);clear V hd O;go_wp2_with fail;go_ret;rw[HD.out.1,HD.out.2];exact⟨rfl,_,(HU.out true).1,(HU.out true).2⟩
 .have hd:decide ((WL.z1V kpt s D p).1=0)=false:=by simp[V]
  have O:=z13 V;rw[O];have HD:=hid (qv hd O);clear V hd O;go_wp2_with fail;go_ret;rw[HD.out.1,HD.out.2];exact⟨rfl,_,(HU.out false).1,(HU.out false).2⟩
structure zhV (x y:SX.St) (od2:Int->Int):Prop where
 fit:SX.Fit x
 fit2:SX.Fit y
 ok:∀b∈y.s.B,(x.s.B.any λc=>decide (c.n=b.n))=false->WOk b (od2 b.n)
 mark: -9223372036854775808<=y.s.mark/\y.s.mark<=9223372036854775807
 gl:y.G.length<=1000
 sm:∀s∈(SX.z0n y).map SX.txt,s.size<=60000
 nn:((SX.z0n y).map SX.txt).length<=1000
def z1u (x y:SX.St)(h:Int->Int):List (ByteArray×ByteArray):=SX.news (λn=>x.s.B.any λc=>decide (c.n=n)) h y.s.B
theorem z2q {w:World}{bs bw bd cnt hb bm mc O J A7:Nat}{Z Zh A8:Nat->Prop}{D:DK.M}{p:Int}{up:Bool}{vg A9:Value}{x y:SX.St}{od A5:Int->Int}(h:z0H w bs bw bd cnt Z D p false up hb bm mc Zh vg x od)(Ai:z1v w O J A7 A8 A9 y A5)(Aj:¬Z J)(Aq:¬A8 1)(Ar:A9.ownBlock≠some 1)(AC:cnt<=80000)(Au:DK.Fine 50000000 D)(AD:mc<=100000)(Av:A7<=100000)(hM:zhV x y A5)(Af:SX.Few 40 D):
  Calls q6 53 #[.pointer (some ⟨bs,0,none⟩),.agg (z0L O J A9 y)] w λen w'=>∃o dn' Z',SX.z1z y (z1u x y A5) D p o/\(o.1=0->dn'=false)/\en= .returned (er o.1)/\
   ((o.1≠0/\z0H w' bs bw bd (cnt+400) Z' o.2.1 o.2.2 dn' false hb bm mc Zh vg x od/\z1X w (ZS Z Zh bs bm vg) w' (ZS Z' Zh bs bm vg))\/
    (o.1=0/\z0H w' bs bw bd (cnt+400) Z' o.2.1 o.2.2 dn' true O J A7 A8 A9 y A5/\XFr (λj=>Z j\/j=bs) w w'/\∀j,Z' j->Z j\/w.heap.size<=j)):=by
 obtain⟨V,Y,Ag⟩:=z02 Ai.gn;generalize (y.G.map λd=>SX.txt (.gone d)).length=gn2 at Ag;subst Ag;have Ac:Below w.heap.size w (w.alloc (.cells (z0L O J (.slice V gn2 Y) y) 77)):=(Below.refl _ w).alloc (qq _) _;have A4:=qu w (.cells (z0L O J (.slice V gn2 Y) y) 77);have d0:qs _ ⟨w.heap.size,0,none⟩=some (.pointer (some ⟨O,0,none⟩)):=z01 _ _ _ _ A4 0 _ rfl;have d1:qs _ ⟨w.heap.size,1,none⟩=some (.map (some J)):=z01 _ _ _ _ A4 1 _ rfl;have d2:qs _ ⟨w.heap.size,2,none⟩=some (.int .i64 y.s.nx):=z01 _ _ _ _ A4 2 _ rfl;have d3:qs _ ⟨w.heap.size,3,none⟩=some (.slice V gn2 Y):=z01 _ _ _ _ A4 3 _ rfl;have h1:=h.below Ac;have Ak:=Ai.below Ac;have HC:=hid (zdJ h1.wt AC Au bs hb bm mc O J A7 Zh A8 vg (.slice V gn2 Y) up x y od A5 h1.box h1.now Ak h1.zm Aj hM.fit hM.fit2 AD Av hM.ok hM.mark hM.gl h1.wid h1.gl h1.zg hM.sm hM.nn Af);have HI:=hid h1;have Aw:=hid Ak;have Al:=hid Ac;have Ad:=hid A4;clear h Ai h1 Ak Ac A4 hM Af Au;go_enter func53,ntmps53;go_wp2_with fail;generalize w.alloc (.cells (z0L O J (.slice V gn2 Y) y) 77)=w1 at*;refine HC.out.mono ?_;rintro e w2 ⟨o,dn',Ax,Ay,rfl,Z2,Am,A6,Ao⟩;have A3:w2.heap[bs]? =some (.cells (z3E bd bw up hb bm vg x) 80):=(A6.block bs (z00 HI.out.box) (HI.out.wt.kind.out HI.out.box (by unfold KD;decide))).trans HI.out.box;have Ah:=(A6.block _ (z00 Ad.out) (HI.out.wt.kind.out Ad.out (by unfold KD;decide))).trans Ad.out;have m2:w2.cell? ⟨bs,2,none⟩=some (.bool up):=z01 _ _ _ _ A3 2 _ rfl;have f2:=hfz A3 2;have HU:=hid (λu=>HI.out.zn6 Am A6 Ao u);have Ae:=hid (qv Ax Ay);have AE:=hid Am;have A2:=hid A6;have Ap:=hid Ao;have Az:=hid A3;have AA:=hid Ah;clear Ax Ay Am A6 Ao A3 Ah HC d0 d1 d2 d3
 by_cases h0:o.1=0
 .have he:=z1R h0;rw[he];have HD:=hid (qv h0 he);have AF:w.heap.size≠bs:=λe=>by
   have h1:=Ad.out;rw[e,HI.out.box] at h1;cases h1
  have A1:(w2.setCell ⟨bs,2,none⟩ (.bool true)).heap[w.heap.size]? =some (.cells (z0L O J (.slice V gn2 Y) y) 77):=(Below.heap_setCell w2 ⟨bs,2,none⟩ _ w.heap.size AF).trans AA.out;have d0:qs _ ⟨w.heap.size,0,none⟩=some (.pointer (some ⟨O,0,none⟩)):=z01 _ _ _ _ A1 0 _ rfl;have d1:qs _ ⟨w.heap.size,1,none⟩=some (.map (some J)):=z01 _ _ _ _ A1 1 _ rfl;have d2:qs _ ⟨w.heap.size,2,none⟩=some (.int .i64 y.s.nx):=z01 _ _ _ _ A1 2 _ rfl;have d3:qs _ ⟨w.heap.size,3,none⟩=some (.slice V gn2 Y):=z01 _ _ _ _ A1 3 _ rfl;have q:(w2.setCell ⟨bs,2,none⟩ (.bool true)).heap[bs]? =some (.cells (z3E bd bw true hb bm vg x) 80):=qo w2 bs 2 _ _ _ Az.out;have e3:qs _ ⟨bs,3,none⟩=some (.pointer (some ⟨hb,0,none⟩)):=z01 _ _ _ _ q 3 _ rfl;have e4:qs _ ⟨bs,4,none⟩=some (.map (some bm)):=z01 _ _ _ _ q 4 _ rfl;have e5:qs _ ⟨bs,5,none⟩=some (.int .i64 x.s.nx):=z01 _ _ _ _ q 5 _ rfl;have e6:qs _ ⟨bs,6,none⟩=some vg:=z01 _ _ _ _ q 6 _ rfl;have g3:=hfz q 3;have g4:=hfz q 4;have g5:=hfz q 5;have g6:=hfz q 6;have AB:=hid q;clear h0 he A1 q;obtain⟨ga,gk,gc,AG⟩:∃a k c,vg= .slice a k c:=by
   obtain⟨a,c,e⟩:=z02 HI.out.now.gn;exact⟨a,_,c,e⟩
  subst AG;go_wp2_with fail;go_ret;have AH:XFr (λj=>Z j\/j=bs) w1 (((((w2.setCell ⟨bs,2,none⟩ (.bool true)).setCell ⟨bs,3,none⟩ (.pointer (some ⟨O,0,none⟩))).setCell ⟨bs,4,none⟩ (.map (some J))).setCell ⟨bs,5,none⟩ (.int .i64 y.s.nx)).setCell ⟨bs,6,none⟩ (.slice V gn2 Y)):=by
   refine⟨A2.out.os,A2.out.tape,A2.out.output,by simp only[z0g];exact A2.out.size,λj hj hn=>?_⟩;have U:j≠bs:=λe=>hn (.inr e)
   rw[Below.heap_setCell _ ⟨bs,6,none⟩ _ j U,Below.heap_setCell _ ⟨bs,5,none⟩ _ j U,Below.heap_setCell _ ⟨bs,4,none⟩ _ j U,Below.heap_setCell _ ⟨bs,3,none⟩ _ j U,Below.heap_setCell _ ⟨bs,2,none⟩ _ j U];exact A2.out.block j hj (λe=>hn (.inl e))
  refine⟨o,dn',Z2,Ae.out.1,Ae.out.2,by rw[HD.out.2];rfl,.inr ⟨HD.out.1,?_,(XFr.below Al.out).trans AH (λj hj=> .inl hj),λj hj=>(Ap.out j hj).imp id λe=>qi Al.out.size e⟩⟩;exact HI.out.reset AE.out A2.out Ap.out (by simp only[z0g]) (λj U=>by
   rw[Below.heap_setCell _ ⟨bs,6,none⟩ _ j U,Below.heap_setCell _ ⟨bs,5,none⟩ _ j U,Below.heap_setCell _ ⟨bs,4,none⟩ _ j U,Below.heap_setCell _ ⟨bs,3,none⟩ _ j U,Below.heap_setCell _ ⟨bs,2,none⟩ _ j U]) (qo _ _ 6 _ _ _ (qo _ _ 5 _ _ _ (qo _ _ 4 _ _ _ (qo _ _ 3 _ _ _ AB.out)))) (Aw.out.disk HI.out.wt.kind Aj A2.out) (HI.out.mz (w':=w2) Ap.out Aw.out.mlt Aj) Aq Ar
 .have he:=z13 h0;rw[he];have HD:=hid (qv h0 he);clear h0 he;go_wp2_with fail;go_ret;exact⟨o,dn',Z2,Ae.out.1,Ae.out.2,by rw[HD.out.2];rfl,.inl ⟨HD.out.1,(HU.out false).1,z1X.below Al.out (HU.out false).2⟩⟩
end
section
open Go.RowKit Go.Maps
section
variable {w : World} {bs bw bd cnt hb bm mc : Nat} {Z Zh : Nat → Prop} {D : DK.M} {p : Int} {dn up : Bool} {vg : Value} {x : SX.St} {od : Int → Int}
theorem z1e (h:z0H w bs bw bd cnt Z D p dn up hb bm mc Zh vg x od):
  Calls q6 22 #[.pointer (some ⟨bs,0,none⟩)] w λe w'=>e= .returned (.bool (!up))/\w'=w:=by
 have q:w.cell? ⟨bs,2,none⟩=some (.bool up):=z01 _ _ _ _ h.box 2 _ rfl;clear h;go_enter func22,ntmps22;go_wp2;go_ret;exact⟨rfl,rfl⟩
theorem z9a (h:z0H w bs bw bd cnt Z D p dn up hb bm mc Zh vg x od):
  Calls q6 48 #[.pointer (some ⟨bs,0,none⟩)] w λe w'=>e= .returned (.agg (z0L hb bm vg x))/\Below w.heap.size w w':=by
 obtain⟨ga,gc,U⟩:=z02 h.now.gn;generalize (x.G.map λd=>SX.txt (.gone d)).length=gn at U;subst U;have O:Below w.heap.size w (w.alloc (.cells #[.pointer none,.map none,.int .i64 0,.slice none 0 0] 77)):=(Below.refl _ w).alloc (qq _) _;have q:=qu w (.cells #[.pointer none,.map none,.int .i64 0,.slice none 0 0] 77);have V:bs<w.heap.size:=z00 h.box;have J:=(O.block bs V).trans h.box;have m3:qs _ ⟨bs,3,none⟩=some (.pointer (some ⟨hb,0,none⟩)):=z01 _ _ _ _ J 3 _ rfl;have m4:qs _ ⟨bs,4,none⟩=some (.map (some bm)):=z01 _ _ _ _ J 4 _ rfl;have m5:qs _ ⟨bs,5,none⟩=some (.int .i64 x.s.nx):=z01 _ _ _ _ J 5 _ rfl;have m6:qs _ ⟨bs,6,none⟩=some (.slice ga gn gc):=z01 _ _ _ _ J 6 _ rfl;have e0:qs _ ⟨w.heap.size,0,none⟩=some (.pointer none):=z01 _ _ _ _ q 0 _ rfl;have e1:qs _ ⟨w.heap.size,1,none⟩=some (.map none):=z01 _ _ _ _ q 1 _ rfl;have e2:qs _ ⟨w.heap.size,2,none⟩=some (.int .i64 0):=z01 _ _ _ _ q 2 _ rfl;have e3:qs _ ⟨w.heap.size,3,none⟩=some (.slice none 0 0):=z01 _ _ _ _ q 3 _ rfl;have g0:=hfz q 0;have g1:=hfz q 1;have g2:=hfz q 2;have g3:=hfz q 3;have Y:=hid O;have A1:=hid q;clear h O q J;go_enter func48,ntmps48;generalize A2:w.alloc (.cells #[.pointer none,.map none,.int .i64 0,.slice none 0 0] 77)=w1 at*;go_wp2_with fail;refine bodyPost_ret (results_cell_row (P:=q6) rfl _ _ w.heap.size 77 _ (0,0) _ rfl (qo _ _ 3 _ _ _ (qo _ _ 2 _ _ _ (qo _ _ 1 _ _ _ (qo _ _ 0 _ _ _ A1.out)))) underlying77 rfl (by kernel_rfl)) rfl ?_;exact⟨rfl,(((Y.out.setCell (p:=⟨w.heap.size,0,none⟩) (qq _) _).setCell (p:=⟨w.heap.size,1,none⟩) (qq _) _).setCell (p:=⟨w.heap.size,2,none⟩) (qq _) _).setCell (p:=⟨w.heap.size,3,none⟩) (qq _) _⟩
theorem zj1 (hb bm:Nat)(nx:Int)(h:Option Addr)(gn q:Nat)(W:World):(Instr.field 77 (.agg #[.pointer (some ⟨hb,0,none⟩),.map (some bm),.int .i64 nx,.slice h gn q]) 0).run q6 W= .ok (.pointer (some ⟨hb,0,none⟩)) W:=by
 kernel_rfl
theorem z6B (h:z0H w bs bw bd cnt Z D p dn up hb bm mc Zh vg x od):
  Calls q6 17 #[.pointer (some ⟨bs,0,none⟩)] w λe w'=>e= .returned (.int .i64 x.s.mark)/\Below w.heap.size w w':=by
 have O:=hid (z9a h);have Y:=hid h.now;obtain⟨ga,gc,J⟩:=z02 h.now.gn;generalize (x.G.map λd=>SX.txt (.gone d)).length=gn at J;subst J;clear h;go_enter func17,ntmps17;go_wp2_with fail;refine O.out.mono ?_;rintro e U ⟨rfl,q⟩;obtain⟨v,xs,V,_⟩:=(Y.out.below q).hd;have HM:=hid (z3v hb x.s.mark v U V.box);have HB:=hid q;clear V q O;simp only[z0L];have A1:=zj1 hb bm x.s.nx ga gn gc U;go_wp2_with fail;refine HM.out.mono ?_;rintro e w2 ⟨rfl,rfl⟩;go_wp2_with fail;go_ret;exact⟨rfl,HB.out⟩
end
theorem zjN (b:Nat)(tp old:Int)(q:Option Addr)(G J:Nat)(w:World)(h:w.heap[b]? =some (.cells #[.int .i64 tp,.int .i64 old,.slice q G J] 123)):(wZ 123 (.pointer (some ⟨b,0,none⟩))).run q6 w= .ok (zal tp old (.slice q G J)) w:=by
 have O:(q6.info? 123).map (·.size)=some 3:=by kernel_rfl
 have U:w.cell? ⟨b,0,none⟩=some (.int .i64 tp):=z01 _ _ _ _ h 0 _ rfl;have V:w.cell? ⟨b,1,none⟩=some (.int .i64 old):=z01 _ _ _ _ h 1 _ rfl;have Y:w.cell? ⟨b,2,none⟩=some (.slice q G J):=z01 _ _ _ _ h 2 _ rfl;clear h
 go_simp
theorem zcu (B hb bm mc:Nat)(nx tp old:Int)(ga:Option Addr)(gn gc:Nat)(G:Option Addr)(J O:Nat)(f:Int->Option Value)(w:World)(hB:w.heap[B]? =some (.cells #[.pointer (some ⟨hb,0,none⟩),.map (some bm),.int .i64 nx,.slice ga gn gc] 77)) (hM:z1x q6 2 w bm mc f) (Af:mc<=1000000) (Ag:0<=nx/\nx<1000000):
  Calls q6 61 #[.pointer (some ⟨B,0,none⟩),zal tp old (.slice G J O)] w λe w'=>e= .returned (.tuple #[])/\z1x q6 2 w' bm (mc+1) (ze7 f nx (zal tp old (.slice G J O)))/\w'.heap[B]? =some (.cells #[.pointer (some ⟨hb,0,none⟩),.map (some bm),.int .i64 (nx+1),.slice ga gn gc] 77)/\XFr (λj=>j=bm\/j=B) w w':=by
 have V:Below w.heap.size w (w.alloc (.cells #[.int .i64 tp,.int .i64 old,.slice G J O] 123)):=(Below.refl _ w).alloc (qq _) _;have A2:=qu w (.cells #[.int .i64 tp,.int .i64 old,.slice G J O] 123);have A3:=(V.block B (z00 hB)).trans hB;have A4:=hM.alloc (.cells #[.int .i64 tp,.int .i64 old,.slice G J O] 123);have Ah:=z00 hB;have Ae:=hM.lt;have A5:B≠bm:=λe=>by
  obtain⟨es,ck,hm⟩:=hM.isMap;rw[<-e,hB] at hm;cases hm
 have q:=hid V;have Y:=hid A2;have A1:=hid A3;have A9:=hid A4;clear V A2 A3 A4 hM hB;go_enter func61,ntmps61;go_wp2_with fail;generalize w.alloc (.cells #[.int .i64 tp,.int .i64 old,.slice G J O] 123)=w1 at*;refine z0l (λW=>W.heap[B]? =some (.cells #[.pointer (some ⟨hb,0,none⟩),.map (some bm),.int .i64 nx,.slice ga gn gc] 77)/\W.heap[w.heap.size]? =some (.cells #[.int .i64 tp,.int .i64 old,.slice G J O] 123)) [0,1,2,3,4,5,6,7,8] [9] (by kernel_rfl) (by kernel_rfl) ?_;simp only[qM,wh,qJ,qF,qA];refine zr0.on (v:= .pointer (some ⟨B,0,none⟩)) (YC.move rfl (by kernel_rfl)) ?_;refine zr0.on (v:= .pointer (some ⟨B,0,none⟩)) (λW _=> .inl (by kernel_rfl)) ?_;refine zr0.on (v:= .pointer (some ⟨B,1,none⟩)) (YC.field rfl (by kernel_rfl) λW=>z2j 1 (by omega) W B) ?_;refine zr0.on (v:= .map (some bm)) (YC.load rfl (by kernel_rfl) λW hW=>z4X B 1 bm W (z01 _ _ _ _ hW.1 1 _ rfl)) ?_;refine zr0.on (v:= .pointer (some ⟨B,0,none⟩)) (YC.move rfl (by kernel_rfl)) ?_;refine zr0.on (v:= .pointer (some ⟨B,0,none⟩)) (λW _=> .inl (by kernel_rfl)) ?_;refine zr0.on (v:= .pointer (some ⟨B,2,none⟩)) (YC.field rfl (by kernel_rfl) λW=>z2j 2 (by omega) W B) ?_;refine zr0.on (v:= .int .i64 nx) (YC.load rfl (by kernel_rfl) λW hW=>zaI B 2 nx W (z01 _ _ _ _ hW.1 2 _ rfl)) ?_;refine zr0.on (v:=zal tp old (.slice G J O)) (YC.load rfl (by kernel_rfl) λW hW=>zjN w.heap.size tp old G J O W hW.2) ?_;refine zr0.off (C:=λW=>W.heap[B]? =some (.cells #[.pointer (some ⟨hb,0,none⟩),.map (some bm),.int .i64 nx,.slice ga gn gc] 77)/\W.heap[w.heap.size]? =some (.cells #[.int .i64 tp,.int .i64 old,.slice G J O] 123)) ⟨A1.out,Y.out⟩ ?_;go_frame;go_wp2_with (at_mapUpdate;refine z2i rfl _ _ _ 75 rfl 2 123 zaY zbR bm mc f rfl (A9.out.block (w':=w1.drew) rfl) (by unfold qS;omega) nx (wfI (by omega) (by omega)) _ rfl rfl ?_;intro w2 A6 A7;have Ac:=hid A6;have h:=hid A7;clear A6 A7)
 have U:w2.heap[B]? =some (.cells #[.pointer (some ⟨hb,0,none⟩),.map (some bm),.int .i64 nx,.slice ga gn gc] 77):=(h.out.block B (z00 A1.out) (λe=>A5 (by cases e;rfl))).trans A1.out;have A8:w2.heap[w.heap.size]? =some (.cells #[.int .i64 tp,.int .i64 old,.slice G J O] 123):=(h.out.block w.heap.size (z00 Y.out) (λe=>by cases e;omega)).trans Y.out;refine z0F.done (C:=λW=>W.heap[B]? =some (.cells #[.pointer (some ⟨hb,0,none⟩),.map (some bm),.int .i64 nx,.slice ga gn gc] 77)/\W.heap[w.heap.size]? =some (.cells #[.int .i64 tp,.int .i64 old,.slice G J O] 123)) ⟨U,A8⟩ ?_;have m2:w2.cell? ⟨B,2,none⟩=some (.int .i64 nx):=z01 _ _ _ _ U 2 _ rfl;have f2:=hfz U 2;have Ad:=hid U;have Ai:qW.wrap (nx+1)=nx+1:=by
  simp[IntKind.wrap,IntKind.signed,IntKind.bits];omega
 clear U A8;go_wp2_with fail
 go_end0
 refine⟨rfl,Ac.out.block (Below.heap_setCell w2 ⟨B,2,none⟩ _ bm (λe=>A5 e.symm)),qo w2 B 2 _ _ _ Ad.out,?_⟩;refine⟨h.out.os.trans q.out.os,h.out.tape.trans q.out.tape,h.out.output.trans q.out.output,?_,λj hj hn=>?_⟩
 .rw[z0g];exact qi q.out.size h.out.size
 .rw[Below.heap_setCell w2 ⟨B,2,none⟩ _ j (λe=>hn (.inr e)),h.out.block j (qe hj q.out.size) (λe=>hn (.inl (by cases e;rfl)))];exact q.out.block j hj
end
section
open Go.RowKit Go.Maps
theorem SrT.step {w w':World}{Z Z':Nat->Prop}{v:Value}{S:List Sr}(h:SrT w Z v S)(hk:∀j,Z j->∃c e,w.heap[j]? =some (.cells c e)/\(e=165\/e=98))(hf:ZFr Z w w')(O:∀j,Z' j->wid Z w w' j):SrT w' Z' v S:=by
 obtain⟨xs,h1,U⟩:=h;have key:∀(g:Nat) (c:Array Value) (e:qn),e≠165->(e=98->¬Z g)->w.heap[g]? =some (.cells c e)->w'.heap[g]? =w.heap[g]? :=λg c e e1 e2 G=>hf.block g (z00 G) (λO=>by
  obtain⟨c',e',V,q2⟩:=hk g O;rw[G] at V;cases V;rcases q2 with q|q
  .exact e1 q
  .exact e2 q O)
 refine⟨xs,⟨h1.len,z04 h1.row λg c G=>key g c _ (by decide) (λe=>by cases e) G,λi hi=>z04 (h1.labs i hi) λg c G=>key g c _ (by decide) (λe=>by cases e) G,λi hi=>?_⟩,λi hi g G e=>?_⟩
 .have Y:=h1.smps i hi;refine⟨Y.1,?_⟩;rcases Y.2 with h0|⟨g,cap,J,e,a1,a2,a3⟩
  .exact .inl h0
  .exact .inr ⟨g,cap,J,e,a1,(key g J _ (by decide) (λ_=>U i hi g (by rw[e];rfl)) a2).trans a2,a3⟩
 .have A1:=((h1.smps i hi).lt g G).2;rcases O g e with e|e
  .exact U i hi g G e
  .omega
theorem SrT.zn4 {w:World}{q:Nat}{Z:Nat->Prop}{G:Option Addr}{cap:Nat}{S:List Sr}(h:z0a w q (.slice G S.length cap) S)(k:z0z w Z G S)(hp:∀i,i<S.length->0<(z03 S i).2.length):SrT w Z (.slice G S.length cap) S:=by
 obtain⟨xs,h1,h2,U⟩:=h;refine⟨xs,⟨h1,z07 h2 (qh _),λi hi=>z07 (U i hi).1 (qh _),λi hi=>z07 (U i hi).2 (qh _)⟩,λi hi g J=>?_⟩;obtain⟨b,off,V,_,_,lo,lc,so,sc,_,c2,_,O⟩:=k i hi;obtain⟨g0,Y,A1,q0,q1,q2,_⟩:=z0d h2 (by omega);rw[V] at q0;cases q0;obtain⟨_,f2⟩:=zr1 xs i (by omega);have c:=h2.cells (g:=b) (by rw[V];rfl) _ _ f2;rw[qP] at c;rw[qT] at c c2;rw[c2] at c;have e2:(atX xs i).2= .slice so (z03 S i).2.length sc:=(qt c).symm;rw[e2] at J;cases so with
 | none=>cases J
 | some a=>
  have e3:a.block=g:=qt J;rw[<-e3];exact O.2 a rfl (hp i hi)
theorem z1v.head {w w':World}{hb bm cnt:Nat}{Zh q:Nat->Prop}{vg:Value}{x:SX.St}{od:Int->Int}(h:z1v w hb bm cnt Zh vg x od)(hf:ZFr Zh w w'){mark':Int}{J:List Sr}(U:HdT w' hb q mark' J)(V:∀j,q j->wid Zh w w' j):z1v w' hb bm cnt q vg ⟨{x.s with mark:=mark',H:=J},x.G⟩ od:=by
 obtain⟨f,h1,Y,h3⟩:=h.mp;have hk:=h.hd.kind;refine⟨U,⟨f,h1.block (hf.block bm h1.lt ?_),λb hb=>?_,h3⟩,z04 h.gn λg c O=>hf.block g (z00 O) (h.hd.out O (λc e fz k=>by cases k;decide))⟩
 .obtain⟨es,ck,hm⟩:=h1.isMap;exact h.hd.out hm (λc e fz k=>by cases k)
 .obtain⟨v,q1,q2,q3⟩:=Y b hb;exact⟨v,q1,q2.step hk hf V,q3⟩
def z1C (od:Int->Int)(n old:Int):Int->Int:=λm=>if m=n then old else od m
theorem z1v.put {w w':World}{hb bm cnt cnt':Nat}{Zh:Nat->Prop}{vg:Value}{x:SX.St}{od:Int->Int}(h:z1v w hb bm cnt Zh vg x od)(U:∀b∈x.s.B,b.n<x.s.nx){B:Nat}{cB:Array Value}(hB:w.heap[B]? =some (.cells cB 77)){f:Int->Option Value}(hblk:z8D w Zh od f x.s.B){tp old:Int}{v:Value}{S:List Sr}(hS:SrT w Zh v S)(ho: -1<=old/\old<100)(hM:z1x q6 2 w' bm cnt' (ze7 f x.s.nx (zal tp old v)))(hx:XFr (λj=>j=bm\/j=B) w w'):
  z1v w' hb bm cnt' Zh vg ⟨{x.s with B:=x.s.B++[⟨x.s.nx,tp,S⟩],nx:=x.s.nx+1},x.G⟩ (z1C od x.s.nx old):=by
 have V:∃Y ck,w.heap[bm]? =some (.map Y ck):=by
  obtain⟨f0,h1,_⟩:=h.mp;exact h1.isMap
 have key:∀(g:Nat) (c:Array Value) (e:qn),e≠77->w.heap[g]? =some (.cells c e)->w'.heap[g]? =w.heap[g]? :=λg c e J q=>hx.block g (z00 q) (λk=>by
  rcases k with rfl|rfl
  .obtain⟨Y,ck,hm⟩:=V;rw[hm] at q;cases q
  .rw[hB] at q;cases q;exact J rfl)
 refine⟨h.hd.kept λg c e J q=>key g c e (by rcases J with rfl | rfl | rfl | rfl<;>decide) q,⟨_,hM,λb hb=>?_,λn hn=>?_⟩,z04 h.gn λg c q=>key g c _ (by decide) q⟩
 .rcases List.mem_append.1 (show b∈x.s.B++[⟨x.s.nx,tp,S⟩] from hb) with k|k
  .obtain⟨u,q1,q2,q3⟩:=hblk.1 b k;have O:b.n≠x.s.nx:=by have:=U b k;omega
   refine⟨u,?_,q2.kept λg c e J q=>key g c e (by rcases J with rfl | rfl | ⟨rfl,_⟩<;>decide) q,?_⟩
   .rw[z1m _ _ _ _ O];unfold z1C;rw[if_neg O];exact q1
   .unfold z1C;rw[if_neg O];exact q3
  .obtain rfl:=qk.1 k;refine⟨v,?_,hS.kept λg c e J q=>key g c e (by rcases J with rfl | rfl | ⟨rfl,_⟩<;>decide) q,?_⟩
   .show ze7 f x.s.nx (zal tp old v) x.s.nx=_;rw[z4p];unfold z1C;rw[if_pos rfl]
   .unfold z1C;rw[if_pos rfl];exact ho
 .by_cases e:n=x.s.nx
  .exact⟨⟨x.s.nx,tp,S⟩,yZ _ (qk.2 rfl),e.symm⟩
  .rw[z1m _ _ _ _ e] at hn;obtain⟨b,hb,e2⟩:=hblk.2 n hn;exact⟨b,List.mem_append_left _ hb,e2⟩
theorem z1v.od {w:World}{hb bm cnt:Nat}{Zh:Nat->Prop}{vg:Value}{x:SX.St}{od q:Int->Int}(h:z1v w hb bm cnt Zh vg x od)(k:∀b∈x.s.B,q b.n=od b.n):z1v w hb bm cnt Zh vg x q:=by
 obtain⟨f,G,J,O⟩:=h.mp;exact⟨h.hd,⟨f,G,λb hb=>by rw[k b hb];exact J b hb,O⟩,h.gn⟩
def z2e (w:World)(bs bw bd cnt:Nat)(Z:Nat->Prop)(D:DK.M)(p:Int)(hb bm mc:Nat)(Zh:Nat->Prop)(vg:Value)(x:SX.St)(od:Int->Int)(y:SX.St)(h:Int->Int)(q:Ending)(w':World):Prop:=
 ∃o dn' Z',SX.z1z y (z1u x y h) D p o/\(o.1=0->dn'=false)/\q= .returned (er o.1)/\
  ((o.1≠0/\z0H w' bs bw bd (cnt+400) Z' o.2.1 o.2.2 dn' false hb bm mc Zh vg x od/\z1X w (ZS Z Zh bs bm vg) w' (ZS Z' Zh bs bm vg))\/
   (o.1=0/\∃hb2 bm2 Zh2 vg2,z0H w' bs bw bd (cnt+400) Z' o.2.1 o.2.2 dn' true hb2 bm2 (mc+1) Zh2 vg2 y h/\z1X w (ZS Z Zh bs bm vg) w' (ZS Z' Zh2 bs bm2 vg2)))
theorem z2e.of {w w1 w':World}{bs bw bd cnt:Nat}{Z:Nat->Prop}{D:DK.M}{p:Int}{hb bm mc:Nat}{Zh:Nat->Prop}{vg:Value}{x:SX.St}{od:Int->Int}{y:SX.St}{G:Int->Int}{en:Ending}{Y J A1:Nat}{O:Nat->Prop}{U:Value}(V:Below w.heap.size w w1)(A2:A1<=mc+1)(hz:∀j,O j->w.heap.size<=j)(hm:w.heap.size<=J)(hv:∀j,U.ownBlock=some j->vg.ownBlock=some j)
  (h:∃o dn' Z',SX.z1z y (z1u x y G) D p o/\(o.1=0->dn'=false)/\en= .returned (er o.1)/\
   ((o.1≠0/\z0H w' bs bw bd (cnt+400) Z' o.2.1 o.2.2 dn' false hb bm mc Zh vg x od/\z1X w1 (ZS Z Zh bs bm vg) w' (ZS Z' Zh bs bm vg))\/
    (o.1=0/\z0H w' bs bw bd (cnt+400) Z' o.2.1 o.2.2 dn' true Y J A1 O U y G/\XFr (λj=>Z j\/j=bs) w1 w'/\∀j,Z' j->Z j\/w1.heap.size<=j))):z2e w bs bw bd cnt Z D p hb bm mc Zh vg x od y G en w':=by
 obtain⟨o,dn',Z',h1,h2,h3,h4⟩:=h;refine⟨o,dn',Z',h1,h2,h3,?_⟩;rcases h4 with⟨k1,q,k3⟩|⟨k1,q,k3,k4⟩
 .exact .inl ⟨k1,q,z1X.below V k3⟩
 .refine .inr ⟨k1,Y,J,O,U,⟨q.wt,q.box,q.now.mono A2,q.zm,q.zg,q.zgh,q.zgv,q.wid,q.gl⟩,(XFr.below V).trans (k3.mono (X':=ZS Z Zh bs bm vg) ?_) (λj hj=> .inl hj),?_⟩
  .rintro j (e|e)
   .exact .inl e
   .exact .inr (.inr (.inl e))
  .rintro j (e|e|e|e|e)
   .rcases k4 j e with e|e
    .exact .inl (.inl e)
    .exact .inr (qi V.size e)
   .exact .inr (hz j e)
   .exact .inl (.inr (.inr (.inl e)))
   .subst e;exact .inr hm
   .exact .inl (.inr (.inr (.inr (.inr (hv j e)))))
theorem z0H.zjK {w w':World}{bs bw bd cnt hb bm mc:Nat}{Z Zh:Nat->Prop}{D:DK.M}{p:Int}{dn up:Bool}{vg:Value}{x:SX.St}{od:Int->Int}(h:z0H w bs bw bd cnt Z D p dn up hb bm mc Zh vg x od)(k:Below w.heap.size w w'):z0H w' bs bw bd cnt Z D p dn up hb bm mc Zh vg x od:=h.below k
theorem zim {w:World}{bs bw bd cnt hb bm mc:Nat}{Z Zh:Nat->Prop}{D:DK.M}{p:Int}{vg:Value}{x:SX.St}{od:Int->Int}(h:z0H w bs bw bd cnt Z D p false true hb bm mc Zh vg x od)(t:Int)(h1: -1099511627776<=t)(h2:t<=1099511627776)(h3:x.s.B.length<30)(hF:SX.Fit x)(AE:cnt<=80000)(AF:DK.Fine 50000000 D)(Bq:mc+1<=100000)(Al:SX.Few 40 D)(hM:zhV x (SX.z6c t x) (z1C od x.s.nx (-1))):
  Calls q6 26 #[.pointer (some ⟨bs,0,none⟩),.int .i64 t] w λen w'=>z2e w bs bw bd cnt Z D p hb bm mc Zh vg x od (SX.z6c t x) (z1C od x.s.nx (-1)) en w':=by
 obtain⟨ga,gc,AG⟩:=z02 h.now.gn;generalize (x.G.map λd=>SX.txt (.gone d)).length=gn at AG;subst AG;obtain⟨mf,⟨Dd,A6,AH⟩,Am⟩:=h.now.mp;have Ao:=z9g A6 AH (z4c Am (hF.inv.asc.imp λk=>k.1));rw[qz] at Ao;have HC:=hid (z1e h);have HA:=hid (z6E hb bm mc Zh (.slice ga gn gc) x od w h.now hF);have m3:w.cell? ⟨bs,3,none⟩=some (.pointer (some ⟨hb,0,none⟩)):=z01 _ _ _ _ h.box 3 _ rfl;have m4:w.cell? ⟨bs,4,none⟩=some (.map (some bm)):=z01 _ _ _ _ h.box 4 _ rfl;have m5:w.cell? ⟨bs,5,none⟩=some (.int .i64 x.s.nx):=z01 _ _ _ _ h.box 5 _ rfl;have m6:w.cell? ⟨bs,6,none⟩=some (.slice ga gn gc):=z01 _ _ _ _ h.box 6 _ rfl;have HI:=hid h;have HF:=hid hF;have HM:=hid hM;have AJ:=hid AF;have AK:=hid Al;have Br:(rl Dd:Int)<30:=by omega
 clear h Am Ao hF hM AF Al AH;go_enter func26,ntmps26;go_wp2_with fail;refine HC.out.mono ?_;rintro e w0 ⟨rfl,Au⟩;have Au:=Au.symm;subst Au;go_wp2_with (at_len;refine pU _ rfl _ 75 rfl 2 123 (by kernel_rfl) _ bm mc Dd rfl A6 ?_)
 refine HA.out.mono ?_;rintro e w1 ⟨q,J,AL,rfl,AM,A3,A4,AO⟩;have Av:Below w1.heap.size w1 (w1.alloc (.cells (z0L q J (.slice ga gn gc) x) 77)):=(Below.refl _ w1).alloc (qq _) _;have A7:=qu w1 (.cells (z0L q J (.slice ga gn gc) x) 77);have Aw:=AM.below Av;have Ap:Below w.heap.size w (w1.alloc (.cells (z0L q J (.slice ga gn gc) x) 77)):=A3.trans (Av.mono A3.size);have d0:qs _ ⟨w1.heap.size,0,none⟩=some (.pointer (some ⟨q,0,none⟩)):=z01 _ _ _ _ A7 0 _ rfl;have AP:=hid (zjs q AL x.s.mark t x.s.H _ Aw.hd.toI HF.out.inv.head);have AQ:=hid Aw;have Ax:=hid Ap;have Ay:=hid A7;have Bh:=A3.size;clear Av A7 Aw Ap AM A3 HA HC m3 m4 m5 m6 A6;simp only[z0L];go_wp2_with fail;generalize w1.alloc (.cells #[.pointer (some ⟨q,0,none⟩),.map (some J),.int .i64 x.s.nx,.slice ga gn gc] 77)=w2 at*;refine AP.out.mono ?_;rintro e w3 ⟨_,_,Az,tv,Z1,rfl,A8,AR,AA,ao,cap,rfl,A9⟩;obtain⟨Zt,AU,Ah⟩:=AR.tight;have AB:=AQ.out.head Az AU (λj hj=>AA j (Ah j hj));have AV:=HD.z3h (p:=λ_ s=>decide (s<=t)) HF.out.inv.head;have AC:SrT w3 Zt (.slice ao (HD.kp (λ_ s=>decide (s<=t)) x.s.H).length cap) (HD.kp (λ_ s=>decide (s<=t)) x.s.H):=SrT.zn4 A8 (A9.wide λj hj=> .inl (Ah j hj)) (λi hi=>(AV.ok _ (HD.at_mem _ i hi)).2.2.1);have AW:w3.heap[w1.heap.size]? =some (.cells #[.pointer (some ⟨q,0,none⟩),.map (some J),.int .i64 x.s.nx,.slice ga gn gc] 77):=(Az.block _ (z00 Ay.out) (AQ.out.hd.out Ay.out (λc e fz k=>by cases k;decide))).trans Ay.out;have Aq:∀j,AL j->w.heap.size<=j:=AO;have Ac:Below w.heap.size w w3:=Ax.out.trans (Az.low Ax.out.size Aq);have Ar:∀j,Zt j->w.heap.size<=j:=λj hj=>by
  rcases AA j (Ah j hj) with e|e
  .exact AO j e
  .exact qi Ax.out.size e.1
 have AX:HD.kp (λL s=> !(λ(_:List LB.Lab) s=>decide (s<=t)) L s) x.s.H=HD.kp (SX.hi t) x.s.H:=rfl;have AY:HD.kp (λ_ s=>decide (s<=t)) x.s.H=HD.kp (SX.lo t) x.s.H:=rfl;rw[AY] at AC;rw[AX] at AB;have AZ:=HI.out.zjK Ac;have Bi:=hid AZ;have HSt:=hid AC;have Ai:=hid AB;have A1:=hid AW;have Ad:=hid Ac;have Aj:=hid Ar;have B0:∀b,w.heap.size<=b->¬Z b:=λb hb hz=>by have:=HI.out.wt.lt b hz;omega
 clear AC AB AW Ac Ar Aq AX AY AV A9 AR A8 AA Ah AU AZ AP d0;rw[show HD.kp (λx s=>decide (s<=t)) x.s.H=HD.kp (SX.lo t) x.s.H from rfl];by_cases A5:HD.kp (SX.lo t) x.s.H=[]
 .have Ak:(HD.kp (SX.lo t) x.s.H).length=0:=by rw[A5];rfl
  rw[Ak];have hy:SX.z6c t x=⟨{x.s with mark:=max x.s.mark t,H:=HD.kp (SX.hi t) x.s.H},x.G⟩:=by
   unfold SX.z6c SX.cut;rw[if_pos A5]
  have B3:z1v w3 q J mc Zt (.slice ga gn gc) (SX.z6c t x) (z1C od x.s.nx (-1)):=by
   rw[hy];exact Ai.out.od λb hb=>by
    have:=HF.out.inv.num b hb;unfold z1C;rw[if_neg (by omega)]
  have A2:(SX.z6c t x).s.nx=x.s.nx:=by rw[hy]
  have Y:=hid (z2q Bi.out B3 (B0 J A4) (λe=>by have h8:=Aj.out _ e;have h9:=HI.out.gl;omega) HI.out.zgv AE AJ.out (by omega) (by omega) HM.out AK.out);have Bo:=A1;have d0:w3.cell? ⟨w1.heap.size,0,none⟩=some (.pointer (some ⟨q,0,none⟩)):=z01 _ _ _ _ A1.out 0 _ rfl;have d1:w3.cell? ⟨w1.heap.size,1,none⟩=some (.map (some J)):=z01 _ _ _ _ A1.out 1 _ rfl;have d2:w3.cell? ⟨w1.heap.size,2,none⟩=some (.int .i64 x.s.nx):=z01 _ _ _ _ A1.out 2 _ rfl;have d3:w3.cell? ⟨w1.heap.size,3,none⟩=some (.slice ga gn gc):=z01 _ _ _ _ A1.out 3 _ rfl;simp only[z0L] at Y;rw[A2] at Y;clear A5 Ak hy B3 A2;go_wp2_with fail;refine Y.out.mono ?_;intro e w4 O;have U:=z2e.of (mc:=mc) Ad.out (by omega) Aj.out A4 (λj hj=>hj) O;obtain⟨o,_,_,_,_,rfl,_⟩:=id O;have HE:=hid U;clear O U Y;generalize er o.1=ev at*;go_wp2_with fail;go_ret;exact HE.out
 .have Ak:0<(HD.kp (SX.lo t) x.s.H).length:=List.length_pos_iff.2 A5;have hy:SX.z6c t x=⟨{x.s with mark:=max x.s.mark t,H:=HD.kp (SX.hi t) x.s.H,B:=x.s.B++[⟨x.s.nx,max x.s.mark t,HD.kp (SX.lo t) x.s.H⟩],nx:=x.s.nx+1},x.G⟩:=by
   unfold SX.z6c SX.cut;rw[if_neg A5]
  generalize Bj:HD.kp (SX.lo t) x.s.H=TS at*;obtain⟨v3,Bt,B5,_⟩:=Ai.out.hd;obtain⟨Bl,B6,Ae⟩:=Ai.out.mp;have Ba:=hid (z3v q (max x.s.mark t) v3 w3 B5.box);have Bu:=HF.out.nx;have Bb:=hid (zcu w1.heap.size q J mc x.s.nx (max x.s.mark t) (-1) ga gn gc ao TS.length cap Bl w3 A1.out B6 (by omega) (by omega));have d0:w3.cell? ⟨w1.heap.size,0,none⟩=some (.pointer (some ⟨q,0,none⟩)):=z01 _ _ _ _ A1.out 0 _ rfl;have Bm:=hid Ae;have HY:=hid hy;have Bp:(0:Int)<(TS.length:Int):=by omega
  clear A5 Ak hy B5 B6 Ae Bj;go_wp2_with fail;refine Ba.out.mono ?_;rintro e w4 ⟨rfl,AD⟩;have AD:=AD.symm;subst AD;clear Ba;go_wp2_with fail;refine Bb.out.mono ?_;rintro e w5 ⟨rfl,Bc,Af,V⟩;have Be:=Ai.out.put HF.out.inv.num A1.out Bm.out HSt.out (old:= -1) ⟨by omega,by omega⟩ Bc V;have Ag:Below w.heap.size w w5:=by
   refine Ad.out.trans ⟨V.os,V.tape,V.output,V.size,λj hj=>V.block j (qe hj Ad.out.size) (λe=>?_)⟩;rcases e with e|e
   .omega
   .have:=Bh;omega
  have Bf:z1v w5 q J (mc+1) Zt (.slice ga gn gc) (SX.z6c t x) (z1C od x.s.nx (-1)):=by
   rw[HY.out];exact Be
  have A2:(SX.z6c t x).s.nx=x.s.nx+1:=by rw[HY.out]
  have Y:=hid (z2q (HI.out.below Ag) Bf (B0 J A4) (λe=>by have h8:=Aj.out _ e;have h9:=HI.out.gl;omega) HI.out.zgv AE AJ.out (by omega) (by omega) HM.out AK.out);simp only[z0L] at Y;rw[A2] at Y;have d0:w5.cell? ⟨w1.heap.size,0,none⟩=some (.pointer (some ⟨q,0,none⟩)):=z01 _ _ _ _ Af 0 _ rfl;have d1:w5.cell? ⟨w1.heap.size,1,none⟩=some (.map (some J)):=z01 _ _ _ _ Af 1 _ rfl;have d2:w5.cell? ⟨w1.heap.size,2,none⟩=some (.int .i64 (x.s.nx+1)):=z01 _ _ _ _ Af 2 _ rfl;have d3:w5.cell? ⟨w1.heap.size,3,none⟩=some (.slice ga gn gc):=z01 _ _ _ _ Af 3 _ rfl;have Bg:=hid Ag;clear Bc Af V Be Ag Bf A2 Bb;go_wp2_with fail;refine Y.out.mono ?_;intro e w6 O;have U:=z2e.of (mc:=mc) Bg.out (by omega) Aj.out A4 (λj hj=>hj) O;obtain⟨o,_,_,_,_,rfl,_⟩:=id O;have HE:=hid U;clear O U Y;generalize er o.1=ev at*;go_wp2_with fail;go_ret;exact HE.out
end
end Go.Proofs.YtemeblgngidldaaGreatDoor
