/- StoreGoes, proved: for every two lists of steps and everything that may be taken out (beyond 25 steps of a list, 20 series of one, 20 labels of a series, 60 letters of a label or 60 samples of a series the law answers true at once): behind a Delete no sample is there of a series that matches, in that time, and all others are, also when it is put away, put together, and opened anew, and what comes later stays (the law answers true, its arguments read as before). No condition but that the program started as its own text says. -/
import Derived.Test.YtemeblgngidldaaGreatDoorPG15
import Derived.Test.YtemeblgngidldaaGreatDoorTie
import Derived.Test.YtemeblgngidldaaGreatDoorCards
import Derived.LaidMore
import Derived.OpenShut
import Derived.Stop.Joined
import Derived.SevenTiedAt
import Derived.LaidHandle
namespace Go.Proofs.YtemeblgngidldaaGreatDoor
open Go.ChangeShapes Go.WideShapes Go.ChangeAt Go.WideMaps Go.WideElems Go.RowKit
theorem zeD {P:Program}{W:World}{n:String}{d:DataW Unit}{r:List (String×DataW Unit)}{ps:List MemPlace}{g:Nat}{t:TypeId}
  (hg:P.globalNamed n=some g) (ht:(P.globals[g]?).map (·.type)=some t) (h:DataW.LaidVars P W ((n,d)::r) ps):
  (∃cs fuel p,W.var? P n=some cs∧DataW.trod (λ_=>()) P W 0 (λ_=>true) false fuel t cs.toList=some (d,p))∧g<W.heap.size∧∃q,DataW.LaidVars P W r q:=by
 obtain⟨g',t',cs,fuel,p,q,hg',ht',hv,hd,hrest,_⟩:=h;obtain rfl:=Option.some.inj (hg.symm.trans hg');obtain rfl:=Option.some.inj (ht.symm.trans ht');refine⟨⟨cs,fuel,p,hv,hd⟩,?_,q,hrest⟩;by_cases hlt:g<W.heap.size
 ·exact hlt
 ·simp[World.var?,hg,Array.getElem?_eq_none (by omega:W.heap.size<=g)] at hv
theorem zb3 {P:Program}{W:World}{n:String}{d:DataW Unit}{r:List (String×DataW Unit)}{ps:List MemPlace}{g:Nat}
  (hg:P.globalNamed n=some g) (h:DataW.LaidVars P W ((n,d)::r) ps):g<W.heap.size∧∃q,DataW.LaidVars P W r q:=by
 have h':=h;obtain⟨g',t',cs,fuel,p,q,hg',ht',_⟩:=h';obtain rfl:=Option.some.inj (hg.symm.trans hg');exact(zeD hg ht' h).2
theorem Tryz.cells3:Tryz.prog.cellsOf 3=1:=by kernel_rfl
theorem znc:(Tryz.prog.globals[1]?).map (·.type)=some 301:=by kernel_rfl
theorem zjU {H:Type}(l:List (DataW H×List MemPlace))(ns:List Int)(h:l.map (·.1)=ns.map λn=>DataW.lit (.int .i64 n))(i:Nat)(x:DataW H×List MemPlace)(n:Int)(hx:l[i]? =some x)(hn:ns[i]? =some n):x.1= .lit (.int .i64 n):=by
 have h1:(l.map (·.1))[i]? =some x.1:=by rw[List.getElem?_map,hx];rfl
 rw[h,List.getElem?_map,hn] at h1;exact(Option.some.inj h1).symm
theorem zeS: [(0:Int),4,7,12,20,32,64]=(List.range 7).map λi=>(BL.wid i:Int):=by decide
theorem zaj {W:World}{d:DataW Unit}{ps:List MemPlace}(hd:d=Rows.laid_raingauge_bits_widths)(h:DataW.LaidVars Tryz.prog W [("raingauge/bits.widths",d)] ps):z0X W∧1<W.heap.size:=by
 obtain⟨⟨cs,fuel,p,hv,hd2⟩,hlt,_⟩:=zeD (g:=1) (t:=301) (by kernel_rfl) (by kernel_rfl) h;subst hd;obtain⟨xs,m1,rfl,hx1,hlen,hn7,hel⟩:=DataW.trod_array Tryz.underlying301 hd2;have hx2:xs.map (·.1)=[(0:Int),4,7,12,20,32,64].map λn=>DataW.lit (.int .i64 n):=by
  simp only[Prod.mk.injEq] at hx1;have:=hx1.1;simp only[Rows.laid_raingauge_bits_widths,DataW.agg.injEq] at this;exact this.symm
 rw[zeS] at hx2;refine⟨λi hi=>?_,hlt⟩;have h1:=hel i hi;rw[Tryz.cells3] at h1;obtain⟨x,hx⟩:∃x,xs[i]? =some x:=⟨xs[i]'(by omega),by simp⟩;rw[hx] at h1;obtain⟨k,e1,e2,_⟩:=DataW.trod_int Tryz.underlying3 h1;have e3:=zjU xs _ hx2 i x (BL.wid i) hx (by rw[List.getElem?_map,List.getElem?_range hi];rfl);rw[e2] at e3;have hk:k=BL.wid i:=by simpa using e3
 subst hk;have hg:Tryz.prog.globalNamed "raingauge/bits.widths"=some 1:=by kernel_rfl
 rw[World.var?_cell hg hv i];have:=congrArg (λl=>l[0]?) e1;simpa [List.getElem?_take,List.getElem?_drop] using this
theorem zjW {W:World}(h:laidMetH Tryz.prog Rows.storeGoesRow.laid W):z0X W∧1<W.heap.size:=by
 rw[MakeChecks.laidMetH_plain _ _ _ (by kernel_rfl)] at h;obtain⟨ps,h,_⟩:=h;obtain⟨_,_,h⟩:=zb3 (g:=3) (by kernel_rfl) h;obtain⟨_,_,h⟩:=zb3 (g:=4) (by kernel_rfl) h;obtain⟨_,_,h⟩:=zb3 (g:=2) (by kernel_rfl) h;exact zaj rfl h
theorem zjY (os:Os)(args:Array Value):laidMetH Tryz.prog Rows.storeGoesRow.laid ((World.doorLaid Tryz.prog 36 os).forCall (λ_ _=>0) ⟨#[],args,[]⟩).memory:=
 laidMetH_of_parts3 (fuel:=8) (laidMet_of_run' 8 (by kernel_rfl) (by kernel_rfl)) (by kernel_rfl) (by kernel_rfl)
set_option maxRecDepth 100000 in
theorem z5E (os:Os)(started:os.Started)(H:Type)(enc:TypeId×Value->H):
  ReturnsInHanded {} Tryz.checked os 3 .any (λw args=>(Rows.storeGoesSpec.pre enc Tryz.prog Tryz.f3 [] false w args∧laidMetH Tryz.prog Rows.storeGoesRow.laid w)∧sizedMet enc Tryz.prog Tryz.f3 (OpenSpec.ofChange Rows.storeGoesSpec) false w args)
   (Rows.storeGoesSpec.post enc Tryz.prog Tryz.f3 false true false false):=by
 refine returnsInHanded_of_change_and (C:=Tryz.checked) (X:=λw _=>laidMetH Tryz.prog Rows.storeGoesRow.laid w) (λ_ _ _ hh h=>h.of_heap hh) Tryz.own started (by kernel_rfl) Tryz.func3
  (ChangeSpec.witness_shaped (enc:=enc) (C:=Tryz.checked) (os:=os) (X:=λw _=>laidMetH Tryz.prog Rows.storeGoesRow.laid w) false (World.doorLaid Tryz.prog 36 os) #[.slice none 0 0,.agg #[.slice none 0 0,.int .i64 0,.int .i64 0],.slice none 0 0] 8 rfl (World.shaped_of_RefB (by kernel_rfl) (by kernel_rfl)) (by kernel_rfl) (by kernel_rfl) (by kernel_rfl) (zjY os _)) ?_
 intro W base args ds gs before hval0 hW _ _ hL _;have hval:∀(j:Nat) t v,Tryz.f3.params[j]? =some t->args[j]? =some v->Value.okWide Tryz.prog W .any base t v:=hval0;have hW':=hW;obtain⟨p,q,hA0,hV,rfl,hfz,hnd⟩:=hW;have hA:DataW.TrodAll enc Tryz.prog W 0 (λ_=>true) true Tryz.f3.params.toList args.toList ds p:=hA0;rw[Tryz.params3] at hA hval;obtain⟨v0,v1,v2,d0,d1,d2,p0,p1,p2,rfl,rfl,rfl,h0,h1,h2⟩:=trodAll_three hA;obtain⟨rfl,rfl⟩:=trodVars_none hV;have hG:=zjW hL;obtain⟨a0,len,cap,rfl⟩:=okWide_slice Tryz.underlying22 (hval 0 22 v0 rfl rfl);obtain⟨cs,rfl,hcs⟩:=okWide_struct Tryz.underlying25 (hval 1 25 v1 rfl rfl);obtain⟨b0,len2,cap2,rfl⟩:=okWide_slice Tryz.underlying22 (hval 2 22 v2 rfl rfl);clear hA0 hval0;simp only[List.append_nil] at hW';have hlt:∀x∈p0++(p1++p2),x.block<W.heap.size:=λx hx=>by simpa using hW'.lt x (by simpa using hx)
 have k0:∀(W':World),Below W.heap.size W W'->DataW.Trod enc Tryz.prog W' 0 (λb=>decide (b<W.heap.size)) true 22 (.slice a0 len cap) d0 p0:=
  λW' hn=>Below.trod Tryz.laidOut (by kernel_rfl) (of_decide_eq_true (by kernel_rfl)) h0 hn λx hx=>hlt x (List.mem_append_left _ hx)
 have k1:∀(W':World),Below W.heap.size W W'->DataW.Trod enc Tryz.prog W' 0 (λb=>decide (b<W.heap.size)) true 25 (.agg cs) d1 p1:=
  λW' hn=>Below.trod Tryz.laidOut (by kernel_rfl) (of_decide_eq_true (by kernel_rfl)) h1 hn λx hx=>hlt x (List.mem_append_right _ (List.mem_append_left _ hx))
 have k2:∀(W':World),Below W.heap.size W W'->DataW.Trod enc Tryz.prog W' 0 (λb=>decide (b<W.heap.size)) true 22 (.slice b0 len2 cap2) d2 p2:=
  λW' hn=>Below.trod Tryz.laidOut (by kernel_rfl) (of_decide_eq_true (by kernel_rfl)) h2 hn λx hx=>hlt x (List.mem_append_right _ (List.mem_append_right _ hx))
 have fin:∀(e:Ending) (W':World),e= .returned (.bool true)∧Below W.heap.size W W'->∃v,e=Ending.returned v∧Rows.storeGoesSpec.post enc Tryz.checked.prog Tryz.f3 false true false false W #[.slice a0 len cap,.agg cs,.slice b0 len2 cap2] v W':=by
  rintro e W' ⟨rfl,hbl⟩;refine⟨_,rfl,_,_,_,[],p0++(p1++p2),[],hW',?_,?_,rfl,hbl.frame _,λh=>by cases h⟩
  ·exact trodAll_mk1 (shut_bool Tryz.underlying4 true)
  ·exact trodAll_mk3 (k0 _ hbl) (k1 _ hbl) (k2 _ hbl)
 have hgn:=zfd (by rw[hcs];kernel_rfl) h1;obtain⟨mo,mk,g,rfl,hM,hop,hfr,htt⟩:=hgn;obtain⟨l,hl,hS⟩:=z7I h0;obtain⟨l2,hl2,hS2⟩:=z7I h2;subst hl hl2;exact(zga a0 b0 mo l l2 g cap cap2 mk W hG.1 hG.2 hS hS2 hM hop hfr htt).mono λe W' h=>fin e W' h
theorem z8Q:Rows.StoreGoesSaid:=
 OpenClaim.holds_of_wide 3 Tryz.f3 rfl rfl rfl rfl rfl rfl rfl ⟨rfl,rfl,rfl,rfl,rfl⟩ rfl rfl rfl rfl rfl (by kernel_rfl) Tryz.func3 (by kernel_rfl)
  (of_decide_eq_true (by kernel_rfl)) (by unfold Func.isWrapper;first | (rw[if_pos (by decide+kernel)];kernel_rfl) | (rw[if_neg (by decide+kernel)];exact⟨rfl,rfl⟩))
  (λos started H enc _=>z5E os started H enc)
theorem storeGoes_holds:Rows.StoreGoesCardSaid:=
 Claim7.holds_tied_plain_at .later [] [.data,.data,.data,.data] true Rows.storeGoesCard.stood.harness Rows.storeGoesCard.stood.looks
  z8Q (λ_ h=>by cases h) (by kernel_rfl) (λ_ h=>by cases h) storeGoes_row_tie rfl ⟨rfl,rfl⟩ (by kernel_rfl) rfl
  (λf fn hf hfn=>by
   obtain rfl:f=3:=Option.some.inj ((show Tryz.prog.funcNamed Rows.storeGoesRow.func=some 3 by kernel_rfl).symm.trans hf) |>.symm;obtain rfl:fn=Tryz.f3:=(Option.some.inj (Tryz.func3.symm.trans hfn)).symm;exact⟨by kernel_rfl,λj t ht=>by
    rw[Tryz.params3] at ht;have hm:t∈[22,25,22]:=by simpa using Array.mem_of_getElem? ht
    have hall:([22,25,22].all λu=> !Tryz.prog.wantsStandIn u)=true:=by kernel_rfl
    exact(show Tryz.prog.wantsStandIn t=false by simpa using List.all_eq_true.1 hall t hm)⟩)
  (by kernel_rfl)
#print axioms storeGoes_holds
end Go.Proofs.YtemeblgngidldaaGreatDoor
