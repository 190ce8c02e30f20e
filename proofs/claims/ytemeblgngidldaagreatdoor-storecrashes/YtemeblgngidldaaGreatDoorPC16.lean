/- StoreCrashes, proved: for every list of steps and every list of cuts (beyond 25 steps, 20 series of one, 20 labels of a series, 60 letters of a label, 60 samples of a series, or beyond 30 cuts, the law answers true at once): what is told as done is done, what is told as refused is not, what the disk did not do is done wholly or not at all when all is opened anew, and marks never go back (the law answers true, its arguments read as before). No condition but that the program started as its own text says. Made by mkcr.py. -/
import Derived.Test.YtemeblgngidldaaGreatDoorPC15
import Derived.Test.YtemeblgngidldaaGreatDoorTie
import Derived.Test.YtemeblgngidldaaGreatDoorCards
import Derived.LaidMore
import Derived.SevenTiedAt
import Derived.LaidHandle
namespace Go.Proofs.YtemeblgngidldaaGreatDoor
open Go.ChangeShapes Go.WideShapes Go.ChangeAt Go.WideMaps Go.WideElems Go.RowKit
theorem zeX {P:Program}{W:World}{n:String}{d:DataW Unit}{r:List (String×DataW Unit)}{ps:List MemPlace}{g:Nat}{t:TypeId}
  (hg:P.globalNamed n=some g) (ht:(P.globals[g]?).map (·.type)=some t) (h:DataW.LaidVars P W ((n,d)::r) ps):
  (∃cs fuel p,W.var? P n=some cs∧DataW.trod (λ_=>()) P W 0 (λ_=>true) false fuel t cs.toList=some (d,p))∧g<W.heap.size∧∃q,DataW.LaidVars P W r q:=by
 obtain⟨g',t',cs,fuel,p,q,hg',ht',hv,hd,hrest,_⟩:=h;obtain rfl:=Option.some.inj (hg.symm.trans hg');obtain rfl:=Option.some.inj (ht.symm.trans ht');refine⟨⟨cs,fuel,p,hv,hd⟩,?_,q,hrest⟩;by_cases hlt:g<W.heap.size
 ·exact hlt
 ·simp[World.var?,hg,Array.getElem?_eq_none (by omega:W.heap.size<=g)] at hv
theorem zbh {P:Program}{W:World}{n:String}{d:DataW Unit}{r:List (String×DataW Unit)}{ps:List MemPlace}{g:Nat}
  (hg:P.globalNamed n=some g) (h:DataW.LaidVars P W ((n,d)::r) ps):g<W.heap.size∧∃q,DataW.LaidVars P W r q:=by
 have h':=h;obtain⟨g',t',cs,fuel,p,q,hg',ht',_⟩:=h';obtain rfl:=Option.some.inj (hg.symm.trans hg');exact(zeX hg ht' h).2
theorem Tryz.cells3:Tryz.prog.cellsOf 3=1:=by kernel_rfl
theorem znX:(Tryz.prog.globals[1]?).map (·.type)=some 301:=by kernel_rfl
theorem zld {H:Type}(l:List (DataW H×List MemPlace))(ns:List Int)(h:l.map (·.1)=ns.map λn=>DataW.lit (.int .i64 n))(i:Nat)(x:DataW H×List MemPlace)(n:Int)(hx:l[i]? =some x)(hn:ns[i]? =some n):x.1= .lit (.int .i64 n):=by
 have h1:(l.map (·.1))[i]? =some x.1:=by rw[List.getElem?_map,hx];rfl
 rw[h,List.getElem?_map,hn] at h1;exact(Option.some.inj h1).symm
theorem zfW: [(0:Int),4,7,12,20,32,64]=(List.range 7).map λi=>(BL.wid i:Int):=by decide
theorem z9A {W:World}{d:DataW Unit}{ps:List MemPlace}(hd:d=Rows.laid_raingauge_bits_widths)(h:DataW.LaidVars Tryz.prog W [("raingauge/bits.widths",d)] ps):z0X W∧1<W.heap.size:=by
 obtain⟨⟨cs,fuel,p,hv,hd2⟩,hlt,_⟩:=zeX (g:=1) (t:=301) (by kernel_rfl) (by kernel_rfl) h;subst hd;obtain⟨xs,m1,rfl,hx1,hlen,hn7,hel⟩:=DataW.trod_array Tryz.underlying301 hd2;have hx2:xs.map (·.1)=[(0:Int),4,7,12,20,32,64].map λn=>DataW.lit (.int .i64 n):=by
  simp only[Prod.mk.injEq] at hx1;have:=hx1.1;simp only[Rows.laid_raingauge_bits_widths,DataW.agg.injEq] at this;exact this.symm
 rw[zfW] at hx2;refine⟨λi hi=>?_,hlt⟩;have h1:=hel i hi;rw[Tryz.cells3] at h1;obtain⟨x,hx⟩:∃x,xs[i]? =some x:=⟨xs[i]'(by omega),by simp⟩;rw[hx] at h1;obtain⟨k,e1,e2,_⟩:=DataW.trod_int Tryz.underlying3 h1;have e3:=zld xs _ hx2 i x (BL.wid i) hx (by rw[List.getElem?_map,List.getElem?_range hi];rfl);rw[e2] at e3;have hk:k=BL.wid i:=by simpa using e3
 subst hk;have hg:Tryz.prog.globalNamed "raingauge/bits.widths"=some 1:=by kernel_rfl
 rw[World.var?_cell hg hv i];have:=congrArg (λl=>l[0]?) e1;simpa [List.getElem?_take,List.getElem?_drop] using this
theorem zeO:((List.range Tryz.prog.types.size).filter λt=>Tryz.prog.rowNamed t [101,114,114,111,114])=[35]:=by kernel_rfl
theorem zkU {W:World}(h:laidMetH Tryz.prog Rows.storeCrashesRow.laid W):(z0X W∧1<W.heap.size)∧zbJ W:=by
 have h':laidMet Tryz.prog Rows.storeGoesRow.laid W∧handlesMet Tryz.prog ((Rows.storeCrashesRow.laid.drop 3).take 1) W:=h;refine⟨?_,?_⟩
 ·obtain⟨ps,h,_⟩:=h'.1;obtain⟨_,_,h⟩:=zbh (g:=3) (by kernel_rfl) h;obtain⟨_,_,h⟩:=zbh (g:=4) (by kernel_rfl) h;obtain⟨_,_,h⟩:=zbh (g:=2) (by kernel_rfl) h;exact z9A rfl h
 ·obtain⟨name,u,ty,e1,e2,e3,e4,e5⟩:=h'.2 _ (List.mem_cons_self (l:=[]));have en:name=[101,114,114,111,114]:=(Option.some.inj e1).symm;subst en;obtain rfl:u=227:=Option.some.inj (e2.symm.trans (by kernel_rfl));have hm:ty∈(List.range Tryz.prog.types.size).filter λt=>Tryz.prog.rowNamed t [101,114,114,111,114]:=List.mem_filter.2 ⟨List.mem_range.2 e3,e4⟩
  rw[zeO] at hm;obtain rfl:=List.mem_singleton.1 hm;have hh:typeHandle Tryz.prog 35= .pointer (some ⟨5,35,none⟩):=by kernel_rfl
  rw[hh] at e5;have hg:Tryz.prog.globalNamed (((Rows.storeCrashesRow.laid.drop 3).take 1).head (by decide)).1=some 0:=by kernel_rfl
  have:=World.var?_cell hg e5 0;simpa [zbJ] using this
theorem zkX (os:Os)(args:Array Value):laidMetH Tryz.prog Rows.storeCrashesRow.laid ((World.doorLaid Tryz.prog 36 os).forCall (λ_ _=>0) ⟨#[],args,[]⟩).memory:=
 laidMetH_of_parts3 (fuel:=8) (laidMet_of_run' 8 (by kernel_rfl) (by kernel_rfl)) (by kernel_rfl) (by kernel_rfl)
set_option maxRecDepth 100000 in
theorem z3W (os:Os)(started:os.Started)(H:Type)(enc:TypeId×Value->H):
  ReturnsInHanded {} Tryz.checked os 4 .any (λw args=>(Rows.storeCrashesSpec.pre enc Tryz.prog Tryz.f4 [] false w args∧laidMetH Tryz.prog Rows.storeCrashesRow.laid w)∧sizedMet enc Tryz.prog Tryz.f4 (OpenSpec.ofChange Rows.storeCrashesSpec) false w args)
   (Rows.storeCrashesSpec.post enc Tryz.prog Tryz.f4 false true false false):=by
 refine returnsInHanded_of_change_and (C:=Tryz.checked) (X:=λw _=>laidMetH Tryz.prog Rows.storeCrashesRow.laid w) (λ_ _ _ hh h=>h.of_heap hh) Tryz.own started (by kernel_rfl) Tryz.func4
  (ChangeSpec.witness_shaped (enc:=enc) (C:=Tryz.checked) (os:=os) (X:=λw _=>laidMetH Tryz.prog Rows.storeCrashesRow.laid w) false (World.doorLaid Tryz.prog 36 os) #[.slice none 0 0,.slice none 0 0] 8 rfl (World.shaped_of_RefB (by kernel_rfl) (by kernel_rfl)) (by kernel_rfl) (by kernel_rfl) (by kernel_rfl) (zkX os _)) ?_
 intro W base args ds gs before hval0 hW _ _ hL _;have hval:∀(j:Nat) t v,Tryz.f4.params[j]? =some t->args[j]? =some v->Value.okWide Tryz.prog W .any base t v:=hval0;have hW':=hW;obtain⟨p,q,hA0,hV,rfl,hfz,hnd⟩:=hW;have hA:DataW.TrodAll enc Tryz.prog W 0 (λ_=>true) true Tryz.f4.params.toList args.toList ds p:=hA0;rw[Tryz.params4] at hA hval;obtain⟨v0,v1,d0,d1,p0,p1,rfl,rfl,rfl,h0,h1⟩:=trodAll_two hA;obtain⟨rfl,rfl⟩:=trodVars_none hV;have hG:=zkU hL;obtain⟨a0,len,cap,rfl⟩:=okWide_slice Tryz.underlying22 (hval 0 22 v0 rfl rfl);obtain⟨b0,len2,cap2,rfl⟩:=okWide_slice Tryz.underlying51 (hval 1 51 v1 rfl rfl);clear hA0 hval0;simp only[List.append_nil] at hW';have hlt:∀x∈p0++p1,x.block<W.heap.size:=λx hx=>by simpa using hW'.lt x (by simpa using hx)
 have k0:∀(W':World),Below W.heap.size W W'->DataW.Trod enc Tryz.prog W' 0 (λb=>decide (b<W.heap.size)) true 22 (.slice a0 len cap) d0 p0:=
  λW' hn=>Below.trod Tryz.laidOut (by kernel_rfl) (of_decide_eq_true (by kernel_rfl)) h0 hn λx hx=>hlt x (List.mem_append_left _ hx)
 have k1:∀(W':World),Below W.heap.size W W'->DataW.Trod enc Tryz.prog W' 0 (λb=>decide (b<W.heap.size)) true 51 (.slice b0 len2 cap2) d1 p1:=
  λW' hn=>Below.trod Tryz.laidOut (by kernel_rfl) (of_decide_eq_true (by kernel_rfl)) h1 hn λx hx=>hlt x (List.mem_append_right _ hx)
 have fin:∀(e:Ending) (W':World),e= .returned (.bool true)∧Below W.heap.size W W'->∃v,e=Ending.returned v∧Rows.storeCrashesSpec.post enc Tryz.checked.prog Tryz.f4 false true false false W #[.slice a0 len cap,.slice b0 len2 cap2] v W':=by
  rintro e W' ⟨rfl,hbl⟩;refine⟨_,rfl,_,_,_,[],p0++p1,[],hW',?_,?_,rfl,hbl.frame _,λh=>by cases h⟩
  ·exact trodAll_mk1 (shut_bool Tryz.underlying4 true)
  ·exact trodAll_mk2 (k0 _ hbl) (k1 _ hbl)
 obtain⟨l,hl,hS⟩:=zdI h0;obtain⟨l2,hl2,hS2⟩:=zm8 h1;subst hl hl2;exact(zdX a0 b0 l l2 cap cap2 W hG.1.1 hG.2 hG.1.2 hS hS2).mono λe W' h=>fin e W' h
theorem z5O:Rows.StoreCrashesSaid:=
 OpenClaim.holds_of_wide 4 Tryz.f4 rfl rfl rfl rfl rfl rfl rfl ⟨rfl,rfl,rfl,rfl,rfl⟩ rfl rfl rfl rfl rfl (by kernel_rfl) Tryz.func4 (by kernel_rfl)
  (of_decide_eq_true (by kernel_rfl)) (by unfold Func.isWrapper;first | (rw[if_pos (by decide+kernel)];kernel_rfl) | (rw[if_neg (by decide+kernel)];exact⟨rfl,rfl⟩))
  (λos started H enc _=>z3W os started H enc)
theorem storeCrashes_holds:Rows.StoreCrashesCardSaid:=
 Claim7.holds_tied_plain_at .later [] [.data,.data,.data,.handle,.data] true Rows.storeCrashesCard.stood.harness Rows.storeCrashesCard.stood.looks
  z5O (λ_ h=>by cases h) (by kernel_rfl) (λ_ h=>by cases h) storeCrashes_row_tie rfl ⟨rfl,rfl⟩ (by kernel_rfl) rfl
  (λf fn hf hfn=>by
   obtain rfl:f=4:=Option.some.inj ((show Tryz.prog.funcNamed Rows.storeCrashesRow.func=some 4 by kernel_rfl).symm.trans hf) |>.symm;obtain rfl:fn=Tryz.f4:=(Option.some.inj (Tryz.func4.symm.trans hfn)).symm;exact⟨by kernel_rfl,λj t ht=>by
    rw[Tryz.params4] at ht;have hm:t∈[22,51]:=by simpa using Array.mem_of_getElem? ht
    have hall:([22,51].all λu=> !Tryz.prog.wantsStandIn u)=true:=by kernel_rfl
    exact(show Tryz.prog.wantsStandIn t=false by simpa using List.all_eq_true.1 hall t hm)⟩)
  (by kernel_rfl)
#print axioms storeCrashes_holds
end Go.Proofs.YtemeblgngidldaaGreatDoor
