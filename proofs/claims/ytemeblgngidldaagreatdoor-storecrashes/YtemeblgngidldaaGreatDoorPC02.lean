/- Texts put together and made smaller by program: BitRd BitGet ChSam CdMem HdNumS ChMrg HwNumS HrSortNS BkJnS BkPlnS BkNumC HdRowS HdHeadS HdCloneS CxCmp. -/
import Derived.Test.YtemeblgngidldaaGreatDoorPC01
import Derived.LaidEql
import Derived.RowKit
import Derived.Deep.AppendSrc
import Derived.Laws.CopyRow
import Derived.Laws.Externs
import Derived.Lib.AppendZerosOnto
import Derived.Lib.Overlaps
import Derived.Laws.OwnMore
import Derived.OwnWalk
import Derived.Laws.AppendOwnNone
set_option linter.unusedVariables false
set_option linter.unusedSimpArgs false
set_option maxRecDepth 100000
set_option maxHeartbeats 12800000
open Array renaming length_toList->qE
open Go renaming wp_region_still_lit->yC,wpStill_nil->yT,TypeId->qn,heap_alloc_new->qu,wpList_append_own->rB,maxLen->qS,run_append_grow_src->om,growslice_fits->pE,info_parts->uP
open Go.Addr renaming add->rz,add_lit->qP
open Go.BinOp renaming or->uz
open Go.Builtin renaming firstCells->i7,copy_->tY
open Go.Calls renaming mono->wU
open Go.IntKind renaming i64->qW,wrap_i64->qY,u64->wj,wrap_u64->eA
open Go.Obj renaming cells->uR
open Go.Value renaming int->wM
open Go.World renaming cell?_of_block->qj
open List renaming length_take_le->im,length_drop->wI,drop_drop->yF,flatMap_cons->rU,length_append->q8,length_cons->qf,length_nil->qO,getD_eq_getElem?_getD->q7,getElem?_append_left->wD,getElem?_append_right->eW,getElem?_eq_getElem->qw,getElem_mem->qK,mem_iff_getElem->eI,pairwise_iff_getElem->qV,pairwise_cons->ql,insertIdx_succ_cons->uH,mem_insertIdx->tH,insertIdx_zero->iQ,mem_cons->qg,length_set->wC,take_succ_eq_append_getElem->rJ,map_append->wK,sum_append->uK,length_filter_le->eR,mem_filter->wE,mem_map->qx,mem_cons_self->qd,mem_cons_of_mem->qp,eq_nil_of_length_eq_zero->eN,length_take->qb,getElem?_set->rf,getElem?_insertIdx->uL,getElem?_eq_some_iff->eE,mem_flatMap->yM,not_mem_nil->iV
open List.Pairwise renaming nil->yd,filter->ow
open Nat renaming le_refl->qq,pow_le_pow_right->rh,mul_le_mul_right->yx,add_mul->pb,add_assoc->yG,zero_add->qT,le_trans->qi,lt_of_lt_of_le->qe,le_of_eq->rD,lt_trichotomy->yV,mod_two_eq_zero_or_one->yp
open Option.some renaming inj->qt
open Prod.mk renaming injEq->eT
open UInt8 renaming toNat->yY
open Go.Proofs.Tryz renaming prog->q6
open Go.Proofs.Tryz
namespace Go.Proofs.YtemeblgngidldaaGreatDoor
section
open Go.RowKit
def z0w (s:ByteArray):List Bool:=BL.z4f (s.data.toList.map yY)
def zr4 (R:Nat)(w:World)(s:ByteArray)(p:Nat):Prop:=
 w.cell? ⟨R,0,none⟩=some (.string s)/\w.cell? ⟨R,1,none⟩=some (.int .i64 p)/\w.frozen? ⟨R,1,none⟩=false/\R<w.heap.size/\p<=8*s.size
structure z2b (R:Nat) (w w':World):Prop where
 os:w'.os=w.os
 tape:w'.tape=w.tape
 output:w'.output=w.output
 size:w'.heap.size=w.heap.size
 block:∀k,k≠R->w'.heap[k]? =w.heap[k]?
theorem z2b.refl (R:Nat)(w:World):z2b R w w:=⟨rfl,rfl,rfl,rfl,λ_ _=>rfl⟩
theorem z2b.trans {R:Nat}{a b c:World}(h:z2b R a b)(k:z2b R b c):z2b R a c:=
 ⟨k.os.trans h.os,k.tape.trans h.tape,k.output.trans h.output,k.size.trans h.size,λi hi=>(k.block i hi).trans (h.block i hi)⟩
theorem z2b.drew {R:Nat}{a w:World}(h:z2b R a w):z2b R a w.drew:=⟨h.os,h.tape,h.output,h.size,h.block⟩
theorem z2b.setCell {R:Nat}{a w:World}(h:z2b R a w)(o:Nat)(u:Value):z2b R a (w.setCell ⟨R,o,none⟩ u):=
 ⟨h.os,h.tape,h.output,by simp[h.size],λk q=>(Below.heap_setCell w ⟨R,o,none⟩ u k q).trans (h.block k q)⟩
theorem z2b.below {R B:Nat}{w w':World}(h:z2b R w w')(q:B<=R):Below B w w':=
 ⟨h.os,h.tape,h.output,by rw[h.size];exact qq _,λk G=>h.block k (by omega)⟩
theorem z0X.only {R:Nat}{w w':World}(h:z0X w)(hb:z2b R w w')(q:1<R):z0X w':=
 λi hi=>(qj (w:=w) (hb.block _ (by show 1≠R;omega))).trans (h i hi)
theorem zr4.drew {R:Nat}{w:World}{s:ByteArray}{p:Nat}(h:zr4 R w s p):zr4 R w.drew s p:=h
theorem zr4.step {R:Nat}{w:World}{s:ByteArray}{p:Nat}(h:zr4 R w s p){z:Int}{q:Nat}(G:z=q)(J:q<=8*s.size):zr4 R (w.setCell ⟨R,1,none⟩ (.int .i64 z)) s q:=by
 obtain⟨O,U,V,Y,_⟩:=h;subst G;exact⟨(World.cell?_setCell_other _ _ _ _ (by simp)).trans O,World.cell?_setCell_same _ _ _ U,(World.frozen?_setCell _ _ _ _).trans V,by simpa using Y,J⟩
theorem z5Z (R:Nat)(s:ByteArray)(p:Nat)(w:World)(h:zr4 R w s p)(G:s.size<=140737488351232):
  Calls q6 234 #[.pointer (some ⟨R,0,none⟩)] w λe w'=>e= .returned (.int .i64 (8*(s.size:Int)-p))/\w'=w.drew:=by
 obtain⟨J,O,U,V,Y⟩:=h;have hm:qW.wrap (8*(s.size:Int))=8*(s.size:Int):=by rw[qY];omega
 have q:qW.wrap (8*(s.size:Int)-p)=8*(s.size:Int)-p:=by rw[qY];omega
 go_enter func234,ntmps234;go_wp2;refine yC (by kernel_rfl) (by kernel_rfl) ?_
 iterate 12 still_step
 refine yT ?_;go_wp2;go_ret;exact⟨rfl,rfl⟩
theorem z6e (s:ByteArray)(w:World):
  Calls q6 201 #[.string s] w λe w'=>e= .returned (.pointer (some ⟨w.heap.size,0,none⟩))/\w'=w.alloc (.cells #[.string s,.int .i64 0] 317):=by
 go_enter func201,ntmps201;go_wp2;go_ret;exact⟨rfl,rfl⟩
theorem zr4.new (s:ByteArray)(w:World):zr4 w.heap.size (w.alloc (.cells #[.string s,.int .i64 0] 317)) s 0:=by
 refine⟨by simp,by simp,by simp,by simp,by omega⟩
theorem zab (R:Nat)(s:ByteArray)(p k:Nat)(w:World)(h:zr4 R w s p)(q:s.size<=140737488351232)(O:k<=64)(U:8*s.size<p+k):
  Calls q6 235 #[.pointer (some ⟨R,0,none⟩),.int .i64 k] w λe w'=>e= .returned (.tuple #[.int .u64 0,.iface 56 (.int .i64 3)])/\w'=w.drew:=by
 have G:=hid h;have J:8*(s.size:Int)-p<k:=by omega
 have V:¬(k:Int)<0:=by omega
 have Y:¬(64:Int)<(k:Int):=by omega
 clear h;go_enter func235,ntmps235;go_wp2_with (go_at_call 234;refine(z5Z R s p _ G.out q).mono ?_;rintro e w' ⟨rfl,rfl⟩)
 go_ret2;exact⟨rfl,rfl⟩
theorem znK (U b n h:Nat)(hU:U*2^n+2^n<=18446744073709551616):
  bits uz wj (wj.wrap ((U:Int)*2^n)) ((b:Int)/2^h%2^n)=((U*2^n+b/2^h%2^n:Nat):Int):=by
 have q:((U:Int)*2^n)=((U*2^n:Nat):Int):=by simp
 have G:((b:Int)/2^h%2^n)=((b/2^h%2^n:Nat):Int):=by simp
 have J:b/2^h%2^n<2^n:=Nat.mod_lt _ (Nat.two_pow_pos n);have O:U*2^n%2^n=0:=Nat.mul_mod_left _ _;have V:=nat_join n (U*2^n) (b/2^h%2^n) O J;rw[q,G,eA];generalize b/2^h%2^n=y at*;generalize U*2^n=x at*;have Y:((x:Int)%18446744073709551616)=x:=by omega
 rw[Y,u64_or_nat x y (by omega) (by omega),V]
theorem znn (U b n:Nat)(h:U*2^n+2^n<=18446744073709551616):
  bits uz wj (wj.wrap ((U:Int)*2^n)) ((b:Int)%2^n)=((U*2^n+b/2^0%2^n:Nat):Int):=by
 have:=znK U b n 0 h;simpa using this
theorem z9B (s:ByteArray)(p k l q n U b:Nat)(hq:q+l=p+k)(hk:k<=64)(hl:l<=k)(hf:p+k<=8*s.size)(hn:n<=l)(O:n<=8-q%8)
  (V:BL.val (((z0w s).drop p).take (k-l))=U) (G:q/8<s.size) (hb:(s[q/8]'G).toNat=b):
  BL.val (((z0w s).drop p).take (k-(l-n)))=U*2^n+b/2^(8-q%8-n)%2^n/\U*2^n+2^n<=18446744073709551616:=by
 have h:(s.data.toList.map yY).length=s.size:=by simp
 have e1:k-(l-n)=(k-l)+n:=by omega
 have Y:(BL.z4f (s.data.toList.map yY)).length=8*s.size:=by rw[BL.z0C,h]
 have J:((s.data.toList.map yY)[q/8]?.getD 0)=b:=by
  rw[<-hb];simp[G];rfl
 constructor
 .unfold z0w at V ⊢;rw[e1,BL.zaB _ _ _ _ (by rw[Y];omega),V,show p+(k-l)=q by omega,BL.zeN _ q n O (by rw[h];omega),J]
 .have h1:=BL.zaA (((z0w s).drop p).take (k-l));rw[V] at h1;have h2:(((z0w s).drop p).take (k-l)).length<=k-l:=im _ _;have h3:2^(((z0w s).drop p).take (k-l)).length<=2^(k-l):=rh (by omega) h2;have h4:(U+1)*2^n<=2^(k-l)*2^n:=yx _ (by omega);rw[<-Nat.pow_add] at h4;have h5:2^(k-l+n)<=2^64:=rh (by omega) (by omega);rw[pb,Nat.one_mul] at h4;omega
theorem z1Z (s:ByteArray):(z0w s).length=8*s.size:=by
 unfold z0w;rw[BL.z0C];simp
theorem z4s (R:Nat)(s:ByteArray)(p k:Nat)(w:World)(A1:zr4 R w s p)(hs:s.size<=140737488351232)(hk:k<=64)(hf:p+k<=8*s.size):
  Calls q6 235 #[.pointer (some ⟨R,0,none⟩),.int .i64 k] w λe w'=>
   e= .returned (.tuple #[.int .u64 (BL.val (((z0w s).drop p).take k)),.nilIface])/\zr4 R w' s (p+k)/\z2b R w w':=by
 have HI:=hid A1;have A6:¬8*(s.size:Int)-p<k:=by omega
 have h1:¬(k:Int)<0:=by omega
 have h2:¬(64:Int)<(k:Int):=by omega
 clear A1;go_enter func235,ntmps235;go_wp2_with (go_at_call 234;refine(z5Z R s p _ HI.out hs).mono ?_;rintro e w' ⟨rfl,rfl⟩)
 go_loopw [6,7] (λtu tl wr=>∃l q:Nat,l<=k/\q+l=p+k/\tl= .int .i64 l/\tu= .int .u64 (BL.val (((z0w s).drop p).take (k-l)))/\zr4 R wr s q/\z2b R w wr) (λ_ tl _=>(intOf tl).toNat)
 case atStart=>exact⟨k,p,qq _,rfl,rfl,by simp[BL.val],HI.out,(z2b.refl R w).drew⟩
 case round=>
  obtain⟨l,q,hl,hq,rfl,rfl,O,G⟩:=hrel;have HQ:=hid hq;have A7:q+l<=p+k:=by omega
  have A8:p+k<=q+l:=by omega
  clear hq;have HV:=hid O;have HO:=hid G;generalize hU:BL.val (((z0w s).drop p).take (k-l))=U at*;have HU:=hid hU;clear hU;by_cases A5:0<l
  .obtain⟨c0,c1,f1,hR,A9⟩:=O;clear G;have V:q/8<s.size:=by omega
   have Ac:0<=(q:Int)/8/\(q:Int)/8<(s.size:Int):=by omega
   have Ad:qW.wrap ((q:Int)/8)=(q:Int)/8:=by rw[qY];omega
   have Ae:qW.wrap (8-(q:Int)%8)=8-(q:Int)%8:=by rw[qY];omega
   obtain⟨b,hb⟩:∃b:Nat,(s[q/8]'V).toNat=b:=⟨_,rfl⟩;have Af:b<256:=by rw[<-hb];exact(s[q/8]'V).toNat_lt
   have Ag:∀h,(s[((q:Int)/8).toNat]'h).toNat=b:=by
    intro h;have e:((q:Int)/8).toNat=q/8:=by omega
    simp only[e];exact hb
   have Ah:wj.wrap (b:Int)=b:=by rw[eA];omega
   by_cases hm:(l:Int)<8-(q:Int)%8
   .obtain⟨Y,A2⟩:∃Y:Nat,8-(q:Int)%8-l=Y:=⟨(8-(q:Int)%8-l).toNat,by omega⟩;have Ai:qW.wrap (8-(q:Int)%8-l)=Y:=by rw[qY];omega
    have HR:=hid (z9B s p k l q l U b HQ.out hk hl hf (qq _) (by omega) HU.out V hb);have HS:=hid A2;clear A2;go_wp2_with fail;refine yC (by kernel_rfl) (by kernel_rfl) ?_
    iterate 20 still_step
    still_call (last_int _ _ _ (div_range b (by omega) _).1 (div_range b (by omega) _).2 (by omega) (by omega))
    iterate 2 still_step
    refine yT ?_;go_wp2;go_roundw
    case rel=>
     have J:=HR.out;have hS:=HS.out;have e1:l-l=0:=by omega
     have e2:8-q%8-l=Y:=by omega
     have e3:min Y 64=Y:=by omega
     rw[e1,e2] at J;refine⟨0,p+k,by omega,by omega,rfl,?_,(HV.out.step (by omega) hf).drew,(HO.out.setCell 1 _).drew⟩;rw[e3,znK U b l Y J.2,J.1]
    case measure=>simp[intOf];omega
   .have Aj:qW.wrap 0=0:=rfl;obtain⟨n,hn⟩:∃n:Nat,n=8-q%8:=⟨_,rfl⟩;have HR:=hid (z9B s p k l q n U b HQ.out hk hl hf (by omega) (by omega) HU.out V hb);have HN:=hid hn;clear hn;go_wp2_with fail;refine yC (by kernel_rfl) (by kernel_rfl) ?_
    iterate 20 still_step
    still_call (last_int _ _ _ (by omega) (by omega) (by omega) (by omega))
    iterate 2 still_step
    refine yT ?_;go_wp2;go_roundw
    case rel=>
     have J:=HR.out;have hN:=HN.out;have e2:8-q%8-n=0:=by omega
     have e4:(8-(q:Int)%8).toNat=n:=by omega
     rw[e2] at J;refine⟨l-n,q+n,by omega,by omega,by rw[show(l:Int)-(8-(q:Int)%8)=((l-n:Nat):Int) by omega],?_,(HV.out.step (by omega) (by omega)).drew,(HO.out.setCell 1 _).drew⟩;rw[e4,znn U b n J.2,J.1]
    case measure=>simp[intOf];omega
  .have A3:l=0:=by omega
   subst A3;clear O G;go_wp2;go_ret2;have e:k-0=k:=rfl;have hU:=HU.out;have hQ:=HQ.out;have A4:q=p+k:=by omega
   subst A4;rw[e] at hU;rw[hU];exact⟨rfl,HV.out,HO.out⟩
end
section
open Go.RowKit
theorem zcP (R:Nat)(s:ByteArray)(q:Nat)(b:Bool)(r:List Bool)(w:World)(G:zr4 R w s q)(O:s.size<=140737488351232)(J:(z0w s).drop q=b::r):
  Calls q6 235 #[.pointer (some ⟨R,0,none⟩),.int .i64 1] w λe w'=>
   e= .returned (.tuple #[.int .u64 (b.toNat:Nat),.nilIface])/\zr4 R w' s (q+1)/\z2b R w w':=by
 have U:((z0w s).drop q).length=r.length+1:=by rw[J];rfl
 rw[wI,z1Z] at U;have:=z4s R s q 1 w G O (by omega) (by omega);rw[J] at this;refine this.mono ?_;rintro e w' ⟨rfl,h⟩;refine⟨?_,h⟩;simp[BL.val]
theorem zgC (R:Nat)(s:ByteArray)(q:Nat)(w:World)(h:zr4 R w s q)(G:s.size<=140737488351232)(J:(z0w s).drop q=[]):
  Calls q6 235 #[.pointer (some ⟨R,0,none⟩),.int .i64 1] w λe w'=>e= .returned (.tuple #[.int .u64 0,.iface 56 (.int .i64 3)])/\w'=w.drew:=by
 have O:((z0w s).drop q).length=0:=by rw[J];rfl
 rw[wI,z1Z] at O;exact zab R s q 1 w h G (by omega) (by omega)
theorem z9Y {b:Bool}{r l:List Bool}{q:Nat}(h:l.drop q=b::r):l.drop (q+1)=r:=by
 rw[<-yF,h];rfl
def zm9 (R:Nat)(s:ByteArray)(w:World)(e:Ending)(w':World):Option (Nat×List Bool)->Prop
 | none=>e= .returned (.tuple #[.int .i64 0,.iface 56 (.int .i64 3)])/\∃p,zr4 R w' s p/\z2b R w w'
 | some (i,r)=>e= .returned (.tuple #[.int .i64 i,.nilIface])/\∃p,zr4 R w' s p/\z2b R w w'/\(z0w s).drop p=r
theorem zh4 (k:Nat)(r:List Bool):BL.plc (k+1) (false::r)=some (0,r):=rfl
theorem zd5 (k:Nat)(r:List Bool):BL.plc (k+1) (true::r)=(BL.plc k r).map λx=>(x.1+1,x.2):=rfl
theorem zfQ (R:Nat)(s:ByteArray)(p:Nat)(w:World)(U:zr4 R w s p)(hs:s.size<=140737488351232):
  Calls q6 259 #[.pointer (some ⟨R,0,none⟩)] w λe w'=>zm9 R s w e w' (BL.plc 6 ((z0w s).drop p)):=by
 have HI:=hid U;clear U;generalize hP:BL.plc 6 ((z0w s).drop p)=P;have HP:=hid hP;clear hP;go_enter func259,ntmps259;go_wp2;go_loopw [4] (λt wr=>∃a q:Nat,a<=6/\t= .int .i64 a/\zr4 R wr s q/\z2b R w wr/\P=(BL.plc (6-a) ((z0w s).drop q)).map λx=>(x.1+a,x.2)) (λt _=>6-(intOf t).toNat)
 case atStart=>
  refine⟨0,p,by omega,rfl,HI.out,z2b.refl _ _,?_⟩;rw[<-HP.out];simp
 case round=>
  obtain⟨a,q,ha,rfl,G,h,hrel⟩:=hrel;have V:=hid G;have HO:=hid h;have HR:=hid hrel;clear G h hrel;by_cases h6:a<6
  .obtain⟨k,hk⟩:∃k,6-a=k+1:=⟨5-a,by omega⟩;have HK:=hid hk;clear hk;rcases hd:(z0w s).drop q with _|⟨b,r⟩
   .have HD:=hid hd;clear hd;go_wp2_with (go_at_call 235;refine(zgC R s q _ V.out hs HD.out).mono ?_;rintro e w' ⟨rfl,rfl⟩)
    go_ret2;have:=HR.out;rw[HK.out,HD.out] at this;have e:BL.plc (k+1) []=none:=rfl;rw[e] at this;simp only[Option.map_none] at this;rw[this];exact⟨rfl,q,V.out.drew,HO.out.drew⟩
   .have HD:=hid hd;clear hd;cases b
    .go_wp2_with (go_at_call 235;refine(zcP R s q _ _ _ V.out hs HD.out).mono ?_;rintro e w' ⟨rfl,hi,Y⟩;have J:=hid hi;have O:=hid Y;clear hi Y)
     go_ret2;have:=HR.out;rw[HK.out,HD.out,zh4] at this;rw[this];refine⟨by simp,q+1,J.out,HO.out.trans O.out,z9Y HD.out⟩
    .go_wp2_with (go_at_call 235;refine(zcP R s q _ _ _ V.out hs HD.out).mono ?_;rintro e w' ⟨rfl,hi,Y⟩;have J:=hid hi;have O:=hid Y;clear hi Y)
     go_roundw
     case rel=>
      refine⟨a+1,q+1,by omega,by go_num,J.out,HO.out.trans O.out,?_⟩;have:=HR.out;have hk:=HK.out;rw[hk,HD.out,zd5] at this;rw[this,z9Y HD.out,show 6-(a+1)=k by omega,Option.map_map]
      congr 1
      funext x
      simp[yG,Nat.add_comm 1 a]
     case measure=>simp[intOf];omega
  .have he:a=6:=by omega
   subst he;go_wp2;go_ret2;have:=HR.out;rw[show 6-6=0 from rfl] at this;have e:BL.plc 0 ((z0w s).drop q)=some (0,(z0w s).drop q):=by unfold BL.plc;rfl
   rw[e] at this;rw[this];refine⟨by simp,q,V.out,HO.out,rfl⟩
theorem zjM:∀(k:Nat) (b:List Bool) (i:Nat) (r:List Bool),BL.plc k b=some (i,r)->i<=k
 | 0,b,i,r,h=>by simp[BL.plc] at h;omega
 | k+1,[],i,r,h=>by simp[BL.plc] at h
 | k+1,false::b,i,r,h=>by simp[BL.plc] at h;omega
 | k+1,true::b,i,r,h=>by
  rw[zd5] at h;rcases hx:BL.plc k b with _|⟨j,q⟩
  .rw[hx] at h;simp at h
  .rw[hx] at h;simp at h;have:=zjM k b j q hx;omega
theorem z6l {R:Nat}{w:World}{s:ByteArray}{p:Nat}{r:List Bool}(h:zr4 R w s p)(q:(z0w s).drop p=r):r.length+p=8*s.size:=by
 have J:=h.2.2.2.2;have G:((z0w s).drop p).length=r.length:=by rw[q]
 rw[wI,z1Z] at G;omega
def zmv (R:Nat)(s:ByteArray)(w:World)(e:Ending)(w':World):Option (Nat×List Bool)->Prop
 | none=>e= .returned (.tuple #[.int .i64 0,.iface 56 (.int .i64 3)])/\∃p,zr4 R w' s p/\z2b R w w'
 | some (u,r)=>e= .returned (.tuple #[.int .i64 (BL.zag u),.nilIface])/\∃p,zr4 R w' s p/\z2b R w w'/\(z0w s).drop p=r
theorem z8S (R:Nat)(s:ByteArray)(p:Nat)(w:World)(A4:zr4 R w s p)(hs:s.size<=140737488351232)(hW:z0X w)(U:1<R):
  Calls q6 232 #[.pointer (some ⟨R,0,none⟩)] w λe w'=>zmv R s w e w' (BL.z5n ((z0w s).drop p)):=by
 have HC:=hid (zfQ R s p w A4 hs);have HW:=hid hW;clear A4 hW;rcases hP:BL.plc 6 ((z0w s).drop p) with _|⟨i,r⟩
 .have hg:BL.z5n ((z0w s).drop p)=none:=by unfold BL.z5n;rw[hP]
  rw[hg];rw[hP] at HC;clear hP hg;go_enter func232,ntmps232;go_wp2_with (go_at_call 259;refine wU HC.out ?_;rintro e w' ⟨rfl,p',hi,q⟩)
  go_ret2;exact⟨rfl,p',hi,q⟩
 .have A7:=zjM 6 _ _ _ hP;have hg:BL.z5n ((z0w s).drop p)=if r.length<BL.wid i then none else if BL.nar (BL.val (r.take (BL.wid i)))=i then some (BL.val (r.take (BL.wid i)),r.drop (BL.wid i)) else none:=by unfold BL.z5n;rw[hP]
  rw[hg];rw[hP] at HC;clear hP hg;have V:=BL.z8z i;by_cases O:r.length<BL.wid i
  .rw[if_pos O];go_enter func232,ntmps232;go_wp2_with fail;refine wU HC.out ?_;rintro e w' ⟨rfl,p',hi,q,J⟩;have hc:=(z0X.only HW.out q U) i (by omega);have hl:=z6l hi J;have HI:=hid hi;have Y:=hid q;clear hi q J;go_wp2_with fail;refine(zab R s p' (BL.wid i) _ HI.out hs V (by omega)).mono ?_;rintro e w2 ⟨rfl,rfl⟩;go_wp2_with fail;go_ret2;exact⟨rfl,p',HI.out.drew,Y.out.drew⟩
  .rw[if_neg O];have A1:BL.val (r.take (BL.wid i))<18446744073709551616:=by
    have h1:=BL.zaA (r.take (BL.wid i));have h2:(r.take (BL.wid i)).length<=BL.wid i:=im _ _;have h3:2^(r.take (BL.wid i)).length<=2^64:=rh (by omega) (by omega);omega
   generalize hu:BL.val (r.take (BL.wid i))=u at*;have HU:=hid hu;clear hu;by_cases hn:BL.nar u=i
   .rw[if_pos hn];have A6:((BL.nar u:Int) != (i:Int))=false:=by simp[hn]
    clear hn;go_enter func232,ntmps232;go_wp2_with fail;refine wU HC.out ?_;rintro e w' ⟨rfl,p',hi,q,J⟩;have hc:=(z0X.only HW.out q U) i (by omega);have hl:=z6l hi J;have HI:=hid hi;have Y:=hid q;have HD:=hid J;clear hi q J;go_wp2_with fail;refine(z4s R s p' (BL.wid i) _ HI.out hs V (by omega)).mono ?_;rintro e w2 ⟨rfl,G,h⟩;rw[HD.out,HU.out];have HN:=hid (zba u w2 (z0X.only (z0X.only HW.out Y.out U) h U) A1);have A2:=hid G;have A3:=hid h;have A5:=hid (show(z0w s).drop (p'+BL.wid i)=r.drop (BL.wid i) by rw[<-yF,HD.out]);clear G h;go_wp2_with fail;refine wU HN.out ?_;rintro e w3 ⟨rfl,rfl⟩;go_wp2_with fail;refine(zkA u _ A1).mono ?_;rintro e w4 ⟨rfl,rfl⟩;go_wp2_with fail;go_ret2;exact⟨rfl,p'+BL.wid i,A2.out,Y.out.trans A3.out,A5.out⟩
   .rw[if_neg hn];have A6:((BL.nar u:Int) != (i:Int))=true:=by simp;omega
    clear hn;go_enter func232,ntmps232;go_wp2_with fail;refine wU HC.out ?_;rintro e w' ⟨rfl,p',hi,q,J⟩;have hc:=(z0X.only HW.out q U) i (by omega);have hl:=z6l hi J;have HI:=hid hi;have Y:=hid q;have HD:=hid J;clear hi q J;go_wp2_with fail;refine(z4s R s p' (BL.wid i) _ HI.out hs V (by omega)).mono ?_;rintro e w2 ⟨rfl,G,h⟩;rw[HD.out,HU.out];have HN:=hid (zba u w2 (z0X.only (z0X.only HW.out Y.out U) h U) A1);have A2:=hid G;have A3:=hid h;have A5:=hid (show(z0w s).drop (p'+BL.wid i)=r.drop (BL.wid i) by rw[<-yF,HD.out]);clear G h;go_wp2_with fail;refine wU HN.out ?_;rintro e w3 ⟨rfl,rfl⟩;go_wp2_with fail;go_ret2;exact⟨rfl,p'+BL.wid i,A2.out,Y.out.trans A3.out⟩
end
section
open Go.RowKit
def sv (l:List CL.Smp):List Value:=l.flatMap λs=>[.int .i64 s.1,.int .i64 s.2]
theorem z0P (a b:List CL.Smp):sv (a++b)=sv a++sv b:=by simp[sv]
theorem z1d (l:List CL.Smp):(sv l).length=l.length*2:=by
 induction l with
 | nil=>rfl
 | cons s l ih=>simp only[sv,rU,q8,qf,qO] at ih ⊢;omega
theorem z6Y (l:List CL.Smp):∀i,i<l.length->(sv l)[i*2]? =some (.int .i64 (CL.at' l i).1)/\(sv l)[i*2+1]? =some (.int .i64 (CL.at' l i).2):=by
 induction l with
 | nil=>intro i hi;simp at hi
 | cons s l ih=>
  intro i hi
  match i with
  | 0=>exact⟨rfl,rfl⟩
  | i+1=>
   obtain⟨h,q⟩:=ih i (by simpa using hi);have e:sv (s::l)= .int .i64 s.1:: .int .i64 s.2::sv l:=rfl;have G:(i+1)*2=i*2+2:=by omega
   have J:CL.at' (s::l) (i+1)=CL.at' l i:=rfl;rw[e,G,J];exact⟨h,q⟩
theorem z1I.z08 {w:World}{q:Nat}{v:Value}{l:List CL.Smp}(h:w.ownsRow q 98 2 v l.length (sv l)):∃ao cap,v= .slice ao l.length cap/\z1I w ao l:=by
 have G:=h.lt;have h0:=h;obtain⟨V,J⟩:=h;rcases J with⟨rfl,O⟩|⟨g,cap,U,rfl,Y,hh,r⟩
 .refine⟨none,0,by rw[O],λi hi=>by omega⟩
 .refine⟨some ⟨g,0,none⟩,cap,rfl,λi hi=>⟨g,0,rfl,?_,?_,(G g rfl).2⟩⟩
  .rw[qT,h0.cellAt (i*2) (by omega)];exact(z6Y l i hi).1
  .rw[qT,h0.cellAt (i*2+1) (by omega)];exact(z6Y l i hi).2
theorem Tryz.info98:(q6.info? 98).map (λi=>(i.zero,i.size,i.bytes))=some (some (.agg #[.int .i64 0,.int .i64 0]),2,16):=by kernel_rfl
theorem z3I (w:World)(a b:Value)(T:qn):∀j u,[a,b][j]? =some u->(w.alloc (.cells #[a,b] T)).cell? ((⟨w.heap.size,0,none⟩:Addr).add j)=some u:=by
 intro j u h
 match j,h with
 | 0,h=>simp at h;subst h;simp[rz]
 | 1,h=>simp at h;subst h;simp[rz]
theorem z9D (w:World)(n:Nat)(h:n=w.heap.size)(a b:Value)(T:qn):∀j u,[a,b][j]? =some u->(w.alloc (.cells #[a,b] T)).cell? ((⟨n,0,none⟩:Addr).add j)=some u:=by
 subst h;exact z3I w a b T
theorem z6I (a b:Int):∀u∈[wM .i64 a,wM .i64 b],u.oneCell'=true:=by
 intro u h;simp at h;rcases h with rfl|rfl<;>rfl
theorem Ext.trans {R:Nat}{a b c:World}(h:Ext R a b)(k:Ext R b c):Ext R a c:=
 ⟨k.os.trans h.os,k.tape.trans h.tape,k.output.trans h.output,qi h.size k.size,λi hi q=>(k.block i (qe hi h.size) q).trans (h.block i hi q)⟩
theorem Ext.other {R T:Nat}{a b c:World}(h:Ext R a b)(k:Ext T b c)(G:a.heap.size<=T):Ext R a c:=
 ⟨k.os.trans h.os,k.tape.trans h.tape,k.output.trans h.output,qi h.size k.size,λi hi q=>(k.block i (qe hi h.size) (by omega)).trans (h.block i hi q)⟩
theorem Ext.grown {R:Nat}{a b c:World}{row:Option Nat}(h:Ext R a b)(k:b.grownBy c row)(q:∀i,row=some i->a.heap.size<=i):Ext R a c:=
 ⟨k.os.trans h.os,k.tape.trans h.tape,k.output.trans h.output,qi h.size k.size,λi hi G=>(k.block i (qe hi h.size) (λe=>by have:=q i e.symm;omega)).trans (h.block i hi G)⟩
theorem Ext.z3g {R:Nat}{w w':World}(h:z2b R w w'):Ext R w w':=⟨h.os,h.tape,h.output,by rw[h.size];exact qq _,λk _ q=>h.block k q⟩
theorem zr4.blk {R:Nat}{w w':World}{s:ByteArray}{p:Nat}(h:zr4 R w s p)(hb:w'.heap[R]? =w.heap[R]?)(q:w.heap.size<=w'.heap.size):zr4 R w' s p:=by
 obtain⟨G,J,O,U,V⟩:=h;exact⟨(qj (a:=⟨R,0,none⟩) hb).trans G,(qj (a:=⟨R,1,none⟩) hb).trans J,(World.frozen?_of_block (a:=⟨R,1,none⟩) hb).trans O,qe U q,V⟩
theorem zr4.lt {R:Nat}{w:World}{s:ByteArray}{p:Nat}(h:zr4 R w s p):R<w.heap.size:=h.2.2.2.1
theorem z0X.ext {R:Nat}{w w':World}(h:z0X w)(hb:Ext R w w')(G:1<R)(q:1<w.heap.size):z0X w':=
 λi hi=>(qj (w:=w) (hb.block _ q (by show 1≠R;omega))).trans (h i hi)
theorem z7a (R:Nat)(s:ByteArray)(p:Nat)(t:List Bool)(w:World)(G:zr4 R w s p)(O:s.size<=140737488351232)(U:(z0w s).drop p=t):
  Calls q6 203 #[.pointer (some ⟨R,0,none⟩)] w λe w'=>e= .returned (.bool (decide (t.length<8/\BL.val t=0)))/\z2b R w w':=by
 have hl:=z6l G U;have q:8*(s.size:Int)-p=(t.length:Int):=by omega
 have V:=hid G;have HD:=hid U;clear G U;by_cases h8:t.length<8
 .have Y:¬(8:Int)<=(t.length:Int):=by omega
  have HV:Hid (BL.val (((z0w s).drop p).take t.length)=BL.val t):=by
   show _=_;rw[HD.out,List.take_of_length_le (qq _)]
  have HL:=hid q;clear q;generalize BL.val t=x at*;go_enter func203,ntmps203;go_wp2_with fail;refine(z5Z R s p _ V.out O).mono ?_;rintro e w1 ⟨rfl,rfl⟩;rw[HL.out];go_wp2_with fail;refine(z4s R s p t.length _ V.out.drew O (by omega) (by omega)).mono ?_;rintro e w2 ⟨rfl,A1,J⟩;rw[HV.out];have HO:=hid ((z2b.refl R w).drew.trans J);clear A1 J;go_wp2_with fail;go_ret;refine⟨z05 ?_,HO.out⟩;by_cases hx:x=0
  .simp[hx,h8]
  .simp[hx]
 .have Y:(8:Int)<=(t.length:Int):=by omega
  have HL:=hid q;clear q;rw[decide_eq_false (λh=>h8 h.1)];go_enter func203,ntmps203;go_wp2_with fail;refine(z5Z R s p _ V.out O).mono ?_;rintro e w1 ⟨rfl,rfl⟩;rw[HL.out];go_wp2_with fail;go_ret;exact⟨rfl,(z2b.refl R w).drew⟩
theorem zf8 {w4 J:World}{O V:Obj}{v:Value}{q n:Nat}{xs:List Value}(G:w4.ownsRow q 98 2 v n xs)(h:((w4.alloc O).alloc V).grownBy J v.ownBlock):
  (∀k,k<w4.heap.size->v.ownBlock≠some k->J.heap[k]? =w4.heap[k]?)/\J.heap[w4.heap.size]? =some O/\w4.heap.size+2<=J.heap.size:=by
 have hs:((w4.alloc O).alloc V).heap.size=w4.heap.size+2:=by simp
 refine⟨λk Y U=>?_,?_,by have:=h.size;omega⟩
 .refine(h.block k (by omega) (λe=>U e.symm)).trans ?_;exact(Below.heap_alloc _ _ k (by simp;omega)).trans (Below.heap_alloc _ _ k Y)
 .refine(h.block w4.heap.size (by omega) (λe=>?_)).trans ?_
  .have:=(G.lt _ e.symm).2;omega
  .exact(Below.heap_alloc _ _ _ (by simp)).trans (qu w4 O)
theorem ziG (l:List CL.Smp)(S:CL.Smp):(if decide (0<l.length) then CL.W (S.1-(CL.ahead l l.length).1) else CL.stp l l.length)=CL.stp (l++[S]) (l.length+1):=by
 have h:=zcB (l++[S]) l.length;rw[CL.zft] at h;have q:CL.ahead (l++[S]) l.length=CL.ahead l l.length:=by rw[<-CL.z4W];simp
 have G:CL.stp (l++[S]) l.length=CL.stp l l.length:=by rw[<-CL.z92];simp
 rw[q,G] at h;exact h
theorem zed (l:List CL.Smp)(S:CL.Smp):S=CL.ahead (l++[S]) (l.length+1):=by
 have h:=z7N (l++[S]) l.length;rw[CL.zft] at h;exact h
def zhQ (b:List Bool):Option (List CL.Smp×List Bool):=
 match BL.z5n b with
 | none=>none
 | some (u,r)=>if 0<=BL.zag u/\BL.zag u<=2000 then CL.unn (BL.zag u).toNat [] r else none
theorem zhl (b:List Bool):CL.z7m b=match zhQ b with | none=>none | some (l,t)=>if t.length<8/\BL.val t=0/\CL.right l=true then some l else none:=by
 unfold CL.z7m zhQ;rcases BL.z5n b with _|⟨u,r⟩
 .rfl
 .simp only[];by_cases h:0<=BL.zag u/\BL.zag u<=2000
  .rw[if_pos h,if_pos h];rcases CL.unn (BL.zag u).toNat [] r with _|⟨l,t⟩<;>rfl
  .rw[if_neg h,if_neg h]
def zmf (R:Nat)(s:ByteArray)(w:World)(e:Ending)(w':World):Option (List CL.Smp×List Bool)->Prop
 | none=>e= .returned (.tuple #[.slice none 0 0,.iface 56 (.int .i64 3)])/\Ext R w w'
 | some (l,t)=>∃v p,e= .returned (.tuple #[v,.nilIface])/\w'.ownsRow w.heap.size 98 2 v l.length (sv l)/\zr4 R w' s p/\(z0w s).drop p=t/\Ext R w w'
theorem zbl (R:Nat)(s:ByteArray)(p0:Nat)(w:World)(Ak:zr4 R w s p0)(hs:s.size<=140737488351232)(hW:z0X w)(hG:1<R):
  Calls q6 202 #[.pointer (some ⟨R,0,none⟩)] w λe w'=>zmf R s w e w' (zhQ ((z0w s).drop p0)):=by
 have HC:=hid (z8S R s p0 w Ak hs hW hG);have HW:=hid hW;have Bt:=Ak.lt;clear Ak hW;obtain⟨i,hi,Ax⟩:=Option.map_eq_some_iff.1 Tryz.info98;simp only[eT] at Ax;obtain⟨Ay,Az,Al⟩:=Ax;have B0:=hid hi;have B3:=hid Ay;have B5:=hid Az;have B6:=hid Al;clear hi Ay Az Al;rcases hg:BL.z5n ((z0w s).drop p0) with _|⟨u,r⟩
 .have e:zhQ ((z0w s).drop p0)=none:=by unfold zhQ;rw[hg]
  rw[e];rw[hg] at HC;clear hg e;go_enter func202,ntmps202;go_wp2_with fail;refine wU HC.out ?_;rintro e w1 ⟨rfl,p1,V,q⟩;go_wp2_with fail;go_ret2;exact⟨rfl,Ext.z3g q⟩
 .have e:zhQ ((z0w s).drop p0)=if 0<=BL.zag u/\BL.zag u<=2000 then CL.unn (BL.zag u).toNat [] r else none:=by unfold zhQ;rw[hg]
  rw[e];rw[hg] at HC;have Bu:=CL.z3d u (CL.z3L _ _ _ hg).2;clear hg e;generalize AA:BL.zag u=z at*;have AB:=hid AA;clear AA;by_cases hz:0<=z/\z<=2000
  .rw[if_pos hz];obtain⟨n,rfl⟩:=Int.eq_ofNat_of_zero_le hz.1;have h1:¬(n:Int)<0:=by omega
   have h2:¬(2000:Int)<(n:Int):=by omega
   have hn:n<=2000:=by omega
   clear hz;generalize hP:CL.unn (n:Int).toNat [] r=P;have HP:Hid (P=CL.unn n [] r):=by show _=_;rw[<-hP];rfl
   clear hP;go_enter func202,ntmps202;go_wp2_with fail;refine wU HC.out ?_;rintro e w1 ⟨rfl,p1,V,q,A9⟩;rw[AB.out];have Bv:=rD q.size;have AC:=rD q.size.symm;have AD:=hid V;have Ac:=hid q;have Ba:=hid A9;clear V q A9;go_wp2_with fail;go_loopw [6,28] (λtl ti wr=>∃(l:List CL.Smp) (b:List Bool) (p:Nat),l.length<=n/\ti= .int .i64 l.length/\P=CL.unn (n-l.length) l b/\wr.ownsRow (w1.heap.size+1) 98 2 tl l.length (sv l)/\z6n w1.heap.size wr (CL.ahead l l.length) (CL.stp l l.length) (decide (0<l.length))/\zr4 R wr s p/\(z0w s).drop p=b/\Ext R w wr) (λ_ ti _=>n-(intOf ti).toNat)
   case atStart=>
    refine⟨[],r,p1,by simp,rfl,HP.out,World.ownsRow_nil _ _ _ _,z6n.new w1,AD.out.blk (Below.heap_alloc _ _ _ AD.out.lt) (by simp),Ba.out,(Ext.z3g Ac.out).alloc _⟩
   case round=>
    obtain⟨l,b,p,hk,rfl,AE,Af,Am,AF,hdr,Y⟩:=hrel;have HU:=hid AE;have HO:=hid Af;have HT:=hid Am;have AG:=hid AF;have AH:=hid hdr;have HX:=hid Y;have Bw:=Am.cells.2.2.2.2.2.2.2.2;have By:=Y.size;clear AE Af Am AF hdr Y;by_cases Bz:l.length<n
    .obtain⟨m,hm⟩:∃m,n-l.length=m+1:=⟨n-l.length-1,by omega⟩;have Ao:=hid (HW.out.ext HX.out hG (by omega));have HG:=hid (z8S R s p wr AG.out hs Ao.out hG);rw[AH.out] at HG;have Ap:Hid (P=CL.unn (m+1) l b):=by
      show _=_;rw[<-hm];exact HU.out
     rcases hg:BL.z5n b with _|⟨u1,r1⟩
     .have Aq:Hid (P=none):=by
       show _=_;rw[Ap.out];exact CL.zgN _ _ _ hg
      rw[hg] at HG;clear hg hm;go_wp2_with fail;refine wU HG.out ?_;rintro e w2 ⟨rfl,p2,G,h⟩;have A1:=hid h;clear G h;go_wp2_with fail;go_ret2;rw[Aq.out];exact⟨rfl,HX.out.trans (Ext.z3g A1.out)⟩
     .rw[hg] at HG;have Bo:=CL.z3d u1 (CL.z3L _ _ _ hg).2;have AJ:=hid hg;clear hg;rcases hg2:BL.z5n r1 with _|⟨u2,r2⟩
      .have Aq:Hid (P=none):=by
        show _=_;rw[Ap.out];exact CL.zfX _ _ _ _ _ AJ.out hg2
       have Ar:=hid hg2;clear hg2 hm;go_wp2_with fail;refine wU HG.out ?_;rintro e w2 ⟨rfl,p2,G,h,A2⟩;have A3:=hid (z8S R s p2 w2 G hs (Ao.out.only h hG) hG);rw[A2,Ar.out] at A3;have A1:=hid h;clear G h A2;go_wp2_with fail;refine wU A3.out ?_;rintro e w3 ⟨rfl,p3,Ad,U⟩;have A4:=hid U;clear Ad U;go_wp2_with fail;go_ret2;rw[Aq.out];exact⟨rfl,(HX.out.trans (Ext.z3g A1.out)).trans (Ext.z3g A4.out)⟩
      .have Bp:=CL.z3d u2 (CL.z3L _ _ _ hg2).2;have Ar:=hid hg2;have Bb:Hid (P=CL.unn m (l++[CL.nxt l (BL.zag u1) (BL.zag u2)]) r2):=by
        show _=_;rw[Ap.out];exact CL.zix _ _ _ _ _ _ _ AJ.out hg2
       have AK:Hid ((CL.W (CL.W ((CL.ahead l l.length).1+CL.stp l l.length)+BL.zag u1),CL.W ((CL.ahead l l.length).2+BL.zag u2))=CL.nxt l (BL.zag u1) (BL.zag u2)):=rfl;clear hg2;generalize Ag:BL.zag u1=z1 at*;have AL:=hid Ag;clear Ag;generalize Ah:BL.zag u2=z2 at*;have AM:=hid Ah;clear Ah;generalize hS:CL.nxt l z1 z2=S at*;clear hS;have Bc:R≠w1.heap.size:=by omega
       go_wp2_with fail;refine wU HG.out ?_;rintro e w2 ⟨rfl,p2,G,h,A2⟩;rw[AL.out];have A3:=hid (z8S R s p2 w2 G hs (Ao.out.only h hG) hG);rw[A2,Ar.out] at A3;have Al:=rD h.size.symm;have A1:=hid h;clear G h A2;go_wp2_with fail;refine wU A3.out ?_;rintro e w3 ⟨rfl,p3,Ad,U,AO⟩;rw[AM.out];have BA:=rD U.size.symm;have A4:=hid (A1.out.trans U);have Ai:=hid Ad;have AP:=hid AO;clear Ad U AO;have AQ:Hid (z6n w1.heap.size w3 (CL.ahead l l.length) (CL.stp l l.length) (decide (0<l.length))):=(A4.out.block _ (by omega)).trans HT.out;have Be:=hid (HX.out.trans (Ext.z3g A4.out));have Aj:=hid (z0j HO.out (w':=w3) λk hk=>A4.out.block k (by have:=HO.out.lt k hk;omega));go_wp2_with fail;refine(zjy w1.heap.size _ _ _ _ _ _ AQ.out).mono ?_;rintro e w4 ⟨rfl,J⟩;have BB:=J.size;have Au:=congrArg Prod.fst AK.out;have Av:=congrArg Prod.snd AK.out;simp only at Au Av;rw[Au,Av];clear Au Av;have Bf:=hid (AQ.out.kept J);have AR:=hid (Ai.out.blk (J.block R Ai.out.lt) J.size);have Bg:=hid (Be.out.trans (Ext.of_below J));have A5:=hid (z0j Aj.out (w':=w4) λk hk=>J.block k (Aj.out.lt k hk).2);clear J;have BC:l.length+1<=3000:=by omega
       go_wp2_with (at_builtin;refine rB _ rfl (.tmp 49) (.tmp 51) 91 rfl (w1.heap.size+1) 98 i (.agg #[.int .i64 0,.int .i64 0]) 2 16 underlying91 B0.out B3.out B5.out B6.out rfl (by decide) _ l.length (sv l) rfl ((A5.out.alloc _).alloc _) ⟨w4.heap.size+1,0,none⟩ 1 1 [.int .i64 S.1,.int .i64 S.2] rfl rfl (z9D _ _ (by simp) _ _ _) (z6I _ _) (by unfold qS;omega) (by omega) (by simp;omega) ?_)
       intro v' w7 A6 O _;obtain⟨Aw,AU,BD⟩:=zf8 A5.out O;have Ae:∀k,u6.ownBlock=some k->w1.heap.size+1<=k/\k<w4.heap.size:=A5.out.lt;have Bh:Hid (z6n w1.heap.size w7 (CL.ahead l l.length) (CL.stp l l.length) (decide (0<l.length))):=
        (Aw _ (by omega) (λe=>by have:=Ae _ e;omega)).trans Bf.out
       have AV:=hid (AR.out.blk (Aw R (by omega) (λe=>by have:=Ae _ e;omega)) (by omega));have Bi:=hid (((Bg.out.alloc _).alloc _).grown O (λk hk=>by have:=Ae k hk;omega));have A7:=hid A6;have AW:zee w4.heap.size w7 S:=AU;obtain⟨x0,x1⟩:=AW.cells;clear A6 O Aw AU Ae AW;go_wp2_with fail;refine(zct w1.heap.size _ _ _ S _ Bh.out).mono ?_;rintro e w8 ⟨rfl,AX,A8⟩;have AY:=hid (AV.out.blk (A8.block R (by omega) Bc) A8.size);have Bj:=hid (Bi.out.other A8 AC);have AZ:=hid (z0j A7.out (w':=w8) λk hk=>A8.block k (A7.out.lt k hk).2 (by have:=A7.out.lt k hk;omega));have Bl:=hid AX;clear AX A8;go_wp2_with fail;go_roundw
       case rel=>
        refine⟨l++[S],r2,p3,by simp;omega,?_,?_,?_,?_,AY.out,AP.out,Bj.out⟩
        .rw[q8];go_num
        .rw[Bb.out,q8]
         congr 1
         simp;omega
        .rw[q8,z0P];exact AZ.out
        .rw[q8];have h8:=Bl.out;rw[ziG] at h8;have e: [S].length=1:=rfl;rw[e,<-zed];simpa using h8
       case measure=>simp[intOf];omega
    .have he:l.length=n:=by omega
     subst he;have Bm:Hid (P=some (l,b)):=by
      show _=_;rw[HU.out,Nat.sub_self];rfl
     go_wp2_with fail;go_ret2;rw[Bm.out];exact⟨_,p,rfl,HO.out.mono (by omega),AG.out,AH.out,HX.out⟩
  .rw[if_neg hz];go_enter func202,ntmps202;go_wp2_with fail;refine wU HC.out ?_;rintro e w1 ⟨rfl,p1,V,q,A9⟩;rw[AB.out];have Ac:=hid q;clear V q A9;by_cases Bq:z<0
   .go_wp2_with fail;go_ret2;exact⟨rfl,Ext.z3g Ac.out⟩
   .have Br:(2000:Int)<z:=by omega
    go_wp2_with fail;go_ret2;exact⟨rfl,Ext.z3g Ac.out⟩
end
section
open Go.RowKit
abbrev Sr:=List LB.Lab×List CL.Smp
def z2o (l:List LB.Lab):List CD.Lb:=l.map λp=>(p.1.data.toList,p.2.data.toList)
def z3a (l:List CD.Lb):List LB.Lab:=l.map λp=>(sb p.1,sb p.2)
theorem z8m (l:List LB.Lab):z3a (z2o l)=l:=by
 unfold z3a z2o;rw[List.map_map]
 conv=>rhs;rw[<-List.map_id l]
 apply List.map_congr_left;intro p _;show(sb p.1.data.toList,sb p.2.data.toList)=p;rw[zdZ,zdZ]
def chE (l:List CL.Smp):List UInt8:=(zr3 (BL.pk (CL.chB l))).data.toList
def chD (c:List UInt8):Option (List CL.Smp):=CL.z7m (z0w (sb c))
def lbK (l:List CD.Lb):Bool:=LB.right (z3a l)
theorem zmn (l:List LB.Lab):lbK (z2o l)=LB.right l:=by unfold lbK;rw[z8m]
def z2B (x:Sr):List CD.Lb×List CL.Smp:=(z2o x.1,x.2)
def z5H (x:List CD.Lb×List CL.Smp):Sr:=(z3a x.1,x.2)
def z03 (l:List Sr)(i:Nat):Sr:=l.getD i ([],[])
def z0r (w:World)(h:Option Addr)(l:List Sr):Prop:=
 ∀i,i<l.length->∃b off,h=some ⟨b,off,none⟩/\b<w.heap.size/\∃lo lc so sc,w.cell? ⟨b,off+i*2,none⟩=some (.slice lo (z03 l i).1.length lc)/\w.cell? ⟨b,off+i*2+1,none⟩=some (.slice so (z03 l i).2.length sc)/\z1w w lo (z03 l i).1/\z1I w so (z03 l i).2
theorem z0r.below {w w':World}{G:Option Addr}{l:List Sr}(h:z0r w G l)(hb:Below w.heap.size w w'):z0r w' G l:=by
 intro i hi;obtain⟨b,off,J,q,lo,O,so,sc,U,V,Y,h6⟩:=h i hi;exact⟨b,off,J,qe q hb.size,lo,O,so,sc,(hb.cell (p:=⟨b,_,none⟩) q).trans U,(hb.cell (p:=⟨b,_,none⟩) q).trans V,Y.below hb,h6.below hb⟩
abbrev z0x (w:World)(h:Nat)(v:Value)(l:List LB.Lab):Prop:=w.ownsRow h 107 2 v l.length (lv l)
abbrev z0h (w:World)(h:Nat)(v:Value)(l:List CL.Smp):Prop:=w.ownsRow h 98 2 v l.length (sv l)
theorem z04 {w w':World}{q n G:Nat}{e:qn}{v:Value}{xs:List Value}(h:w.ownsRow q e G v n xs)(U:∀(g:Nat) (c:Array Value),w.heap[g]? =some (uR c e)->w'.heap[g]? =w.heap[g]?):w'.ownsRow q e G v n xs:=by
 refine⟨h.1,?_⟩;rcases h.2 with V|⟨g,cap,J,rfl,Y,O,a3⟩
 .exact .inl V
 .exact .inr ⟨g,cap,J,rfl,Y,(U g J O).trans O,a3⟩
theorem z07 {w:World}{q base' n G:Nat}{e:qn}{v:Value}{xs:List Value}(h:w.ownsRow q e G v n xs)(hb:base'<=q):w.ownsRow base' e G v n xs:=by
 refine⟨h.1,?_⟩;rcases h.2 with O|⟨g,cap,J,rfl,U,V⟩
 .exact .inl O
 .exact .inr ⟨g,cap,J,rfl,qi hb U,V⟩
def z0a (w:World)(h:Nat)(v:Value)(l:List Sr):Prop:=
 ∃xs:List (Value×Value),xs.length=l.length/\w.ownsRow h 93 2 v l.length (xs.flatMap λp=>[p.1,p.2])/\∀i,i<l.length->z0x w h (xs.getD i (.nilIface,.nilIface)).1 (z03 l i).1/\z0h w h (xs.getD i (.nilIface,.nilIface)).2 (z03 l i).2
theorem z0a.nil (w:World)(h:Nat):z0a w h (.slice none 0 0) []:=⟨[],rfl,⟨rfl,.inl ⟨rfl,rfl⟩⟩,λi hi=>by simp at hi⟩
theorem z0a.kept {w w':World}{q:Nat}{v:Value}{l:List Sr}(h:z0a w q v l)(J:∀(g:Nat) (c:Array Value) (e:qn),(e=93\/e=107\/e=98)->w.heap[g]? =some (uR c e)->w'.heap[g]? =w.heap[g]?):z0a w' q v l:=by
 obtain⟨xs,O,U,V⟩:=h;refine⟨xs,O,z04 U (λg c G=>J g c _ (.inl rfl) G),λi hi=>?_⟩;obtain⟨Y,h5⟩:=V i hi;exact⟨z04 Y (λg c G=>J g c _ (.inr (.inl rfl)) G),z04 h5 (λg c G=>J g c _ (.inr (.inr rfl)) G)⟩
theorem z0a.below {w w':World}{q:Nat}{v:Value}{l:List Sr}(h:z0a w q v l)(hb:Below w.heap.size w w'):z0a w' q v l:=h.kept λg _ _ _ G=>hb.block g (z00 G)
def But (bt:Nat)(w w':World):Prop:=w'.os=w.os/\w'.tape=w.tape/\w'.output=w.output/\w.heap.size<=w'.heap.size/\∀j,j<w.heap.size->j≠bt->w'.heap[j]? =w.heap[j]?
theorem But.trans {bt:Nat}{a b c:World}(h:But bt a b)(k:But bt b c):But bt a c:=
 ⟨k.1.trans h.1,k.2.1.trans h.2.1,k.2.2.1.trans h.2.2.1,qi h.2.2.2.1 k.2.2.2.1,λj G q=>(k.2.2.2.2 j (qe G h.2.2.2.1) q).trans (h.2.2.2.2 j G q)⟩
theorem But.below {bt:Nat}{w w':World}(h:Below w.heap.size w w'):But bt w w':=⟨h.os,h.tape,h.output,h.size,λj q _=>h.block j q⟩
theorem But.grown {bt:Nat}{w w':World}(h:w.grownBy w' (some bt)):But bt w w':=⟨h.os,h.tape,h.output,h.size,λj G q=>h.block j G (λe=>q (qt e))⟩
theorem But.own {bt:Nat}{a w w':World}{row:Option Nat}(h:But bt a w)(k:w.grownBy w' row)(J:∀g,row=some g->a.heap.size<=g):But bt a w':=
 ⟨k.os.trans h.1,k.tape.trans h.2.1,k.output.trans h.2.2.1,qi h.2.2.2.1 k.size,λj G q=>(k.block j (qe G h.2.2.2.1) (λe=>by have:=J j e.symm;omega)).trans (h.2.2.2.2 j G q)⟩
theorem z0a.snoc {w:World}{h:Nat}{v q G:Value}{l:List Sr}{x:Sr}{xs:List (Value×Value)}(hl:xs.length=l.length)(J:w.ownsRow h 93 2 v (l.length+1) ((xs.flatMap λp=>[p.1,p.2])++[q,G]))
  (O:∀i,i<l.length->z0x w h (xs.getD i (.nilIface,.nilIface)).1 (z03 l i).1/\z0h w h (xs.getD i (.nilIface,.nilIface)).2 (z03 l i).2) (h1:z0x w h q x.1) (h2:z0h w h G x.2):z0a w h v (l++[x]):=by
 refine⟨xs++[(q,G)],by rw[q8,q8,hl];rfl,?_,λi hi=>?_⟩
 .have e:((xs++[(q,G)]).flatMap λp=>[p.1,p.2])=(xs.flatMap λp=>[p.1,p.2])++[q,G]:=by simp[List.flatMap_append]
  rw[e,q8];exact J
 .by_cases U:i<l.length
  .have V:(xs++[(q,G)]).getD i (.nilIface,.nilIface)=xs.getD i (.nilIface,.nilIface):=by
    rw[q7,q7,wD (by omega)]
   have Y:z03 (l++[x]) i=z03 l i:=by
    unfold z03;rw[q7,q7,wD U]
   rw[V,Y];exact O i U
  .have A1:i=l.length:=by
    rw[q8] at hi;simp only[qf,qO] at hi;omega
   subst A1;have V:(xs++[(q,G)]).getD l.length (.nilIface,.nilIface)=(q,G):=by
    rw[q7,<-hl,eW (qq _)];simp
   have Y:z03 (l++[x]) l.length=x:=by
    unfold z03;rw[q7,eW (qq _)];simp
   rw[V,Y];exact⟨h1,h2⟩
theorem z02 {w:World}{q n G:Nat}{e:qn}{v:Value}{xs:List Value}(h:w.ownsRow q e G v n xs):∃ao cap,v= .slice ao n cap:=by
 rcases h.2 with⟨J,O⟩|⟨g,cap,U,J,_⟩
 .exact⟨none,0,by rw[J,O]⟩
 .exact⟨_,cap,J⟩
theorem Tryz.infoLb:(q6.info? 107).map (λi=>(i.zero,i.size,i.bytes))=some (some (.agg #[.string ⟨#[]⟩,.string ⟨#[]⟩]),2,32):=by kernel_rfl
theorem Tryz.infoSr:(q6.info? 93).map (λi=>(i.zero,i.size,i.bytes))=some (some (.agg #[.slice none 0 0,.slice none 0 0]),2,48):=by kernel_rfl
theorem z01 (w:World)(b:Nat)(a:Array Value)(t:qn)(h:w.heap[b]? =some (.cells a t))(i:Nat)(v:Value)(q:a[i]? =some v):w.cell? ⟨b,i,none⟩=some v:=by simp[World.cell?,h,q]
theorem z0a.low {w:World}{q base':Nat}{v:Value}{l:List Sr}(h:z0a w q v l)(hb:base'<=q):z0a w base' v l:=by
 obtain⟨xs,J,O,G⟩:=h;exact⟨xs,J,z07 O hb,λi hi=>⟨z07 (G i hi).1 hb,z07 (G i hi).2 hb⟩⟩
def zfL (l:List Sr):Prop:=l.length<=10000000/\∀i,i<l.length->(z03 l i).1.length<=1000/\(z03 l i).2.length<=1000000
theorem z0r.z08 {w:World}{q:Nat}{v:Value}{l:List Sr}(h:z0a w q v l):∃ao cap,v= .slice ao l.length cap/\z0r w ao l:=by
 obtain⟨xs,U,h2,V⟩:=h;have J:=h2.lt;have h0:=h2;obtain⟨ha,hb⟩:=h2;have G:∀(xs:List (Value×Value)) (i:Nat),i<xs.length->(xs.flatMap λp=>[p.1,p.2])[i*2]? =some (xs.getD i (.nilIface,.nilIface)).1/\(xs.flatMap λp=>[p.1,p.2])[i*2+1]? =some (xs.getD i (.nilIface,.nilIface)).2:=by
  intro xs
  induction xs with
  | nil=>intro i hi;simp at hi
  | cons s l ih=>
   intro i hi
   match i with
   | 0=>exact⟨rfl,rfl⟩
   | i+1=>
    obtain⟨U,h2⟩:=ih i (by simpa using hi);have e:((s::l).flatMap λp:Value×Value=>[p.1,p.2])=s.1::s.2::(l.flatMap λp=>[p.1,p.2]):=rfl;have O:(i+1)*2=i*2+2:=by omega
    rw[e,O];exact⟨U,h2⟩
 rcases hb with⟨rfl,Y⟩|⟨g,cap,A1,rfl,hg,hh,r⟩
 .exact⟨none,0,by rw[Y],λi hi=>by omega⟩
 .refine⟨some ⟨g,0,none⟩,cap,rfl,λi hi=>⟨g,0,rfl,(J g rfl).2,?_⟩⟩;obtain⟨k1,k2⟩:=V i hi;obtain⟨lo,lc,O,r1⟩:=z1w.z08 k1;obtain⟨so,sc,e2,r2⟩:=z1I.z08 k2;obtain⟨q1,q2⟩:=G xs i (by omega);refine⟨lo,lc,so,sc,?_,?_,r1,r2⟩
  .rw[qT,h0.cellAt (i*2) (by omega),q1,O]
  .rw[qT,h0.cellAt (i*2+1) (by omega),q2,e2]
end
namespace HD
def Ord (S:List Sr):Prop:=S.Pairwise λa b=>LB.cmp a.1 b.1= -1
def pos:List Sr->List LB.Lab->Nat
 | [],_=>0
 | x::S,L=>if LB.cmp x.1 L= -1 then pos S L+1 else 0
theorem z2T:∀(S:List Sr) (L:List LB.Lab),pos S L<=S.length
 | [],_=>qq _
 | x::S,L=>by
  unfold pos;split
  .have:=z2T S L;simp only[qf];omega
  .exact Nat.zero_le _
theorem z1n (x:Sr)(S:List Sr)(i:Nat):z03 (x::S) (i+1)=z03 S i:=by simp[z03]
theorem z5r (x:Sr)(S:List Sr):z03 (x::S) 0=x:=rfl
theorem at_mem (S:List Sr)(i:Nat)(h:i<S.length):z03 S i∈S:=by
 unfold z03;rw[q7,qw h];exact qK h
theorem z2d (S:List Sr)(i:Nat)(h:i<S.length):S[i]'h=z03 S i:=by
 unfold z03;rw[q7,qw h];rfl
theorem z3T {S:List Sr}{x:Sr}(h:x∈S):∃i,i<S.length/\z03 S i=x:=by
 obtain⟨i,hi,e⟩:=eI.1 h;exact⟨i,hi,by rw[<-z2d S i hi];exact e⟩
theorem zd3:∀(S:List Sr) (L:List LB.Lab) (i:Nat),i<pos S L->LB.cmp (z03 S i).1 L= -1
 | [],_,i,h=>by simp[pos] at h
 | x::S,L,i,h=>by
  unfold pos at h;split at h
  .rename_i q
   match i with
   | 0=>exact q
   | i+1=>rw[z1n];exact zd3 S L i (by omega)
  .omega
theorem pos_at:∀(S:List Sr) (L:List LB.Lab),pos S L<S.length->LB.cmp (z03 S (pos S L)).1 L≠ -1
 | [],_,h=>by simp at h
 | x::S,L,h=>by
  unfold pos at h ⊢;by_cases q:LB.cmp x.1 L= -1
  .rw[if_pos q] at h ⊢;rw[z1n];exact pos_at S L (by simpa using h)
  .rw[if_neg q,z5r];exact q
theorem z4N {S:List Sr}(h:Ord S)(i j:Nat)(q:i<j)(G:j<S.length):LB.cmp (z03 S i).1 (z03 S j).1= -1:=by
 have:=qV.1 h i j (by omega) G q;rw[z2d S i (by omega),z2d S j G] at this;exact this
theorem zk5 {a b:List LB.Lab}(h:LB.cmp a b≠ -1):LB.cmp a b=0\/LB.cmp a b=1:=by
 rcases LB.z0R.rng a b with q|q|q
 .exact absurd q h
 .exact .inl q
 .exact .inr q
theorem z8Y {a b:List LB.Lab}(h:LB.cmp a b= -1):LB.cmp b a=1:=by rw[LB.z0R.anti a b,h];rfl
theorem z6C {a b:List LB.Lab}(h:LB.cmp a b=1):LB.cmp b a= -1:=by rw[LB.z0R.anti a b,h]
theorem cmp_eq {a b:List LB.Lab}(h:LB.cmp a b=0):a=b:=(LB.z0R.zero a b).1 h
theorem z1A (a:List LB.Lab):LB.cmp a a=0:=(LB.z0R.zero a a).2 rfl
theorem zjP {S:List Sr}(h:Ord S)(L:List LB.Lab)(i:Nat)(J:pos S L<i)(hi:i<S.length):LB.cmp (z03 S i).1 L=1:=by
 have O:=pos_at S L (by omega);have q:=z4N h (pos S L) i J hi;rcases zk5 O with G|G
 .rw[cmp_eq G] at q;exact z8Y q
 .exact z8Y (LB.z0R.tr _ _ _ (z6C G) q)
theorem zge {S:List Sr}(_h:Ord S)(L:List LB.Lab)(k:Nat)(J:k<=S.length)(q:∀i,i<k->LB.cmp (z03 S i).1 L= -1)(G:∀i,k<=i->i<S.length->LB.cmp (z03 S i).1 L≠ -1):k=pos S L:=by
 have O:=z2T S L;rcases yV k (pos S L) with h|h|h
 .exact absurd (zd3 S L k h) (G k (qq _) (by omega))
 .exact h
 .exact absurd (q (pos S L) h) (pos_at S L (by omega))
def there (S:List Sr)(L:List LB.Lab):Bool:=decide (pos S L<S.length/\LB.cmp (z03 S (pos S L)).1 L=0)
theorem z2z {S:List Sr}(h:Ord S)(L:List LB.Lab):there S L=true↔∃i,i<S.length/\LB.cmp (z03 S i).1 L=0:=by
 unfold there;rw[decide_eq_true_iff];constructor
 .rintro⟨J,q⟩;exact⟨_,J,q⟩
 .rintro⟨i,J,q⟩;have:i=pos S L:=by
   rcases yV i (pos S L) with G|G|G
   .rw[zd3 S L i G] at q;simp at q
   .exact G
   .rw[zjP h L i G J] at q;simp at q
  subst this;exact⟨J,q⟩
theorem zfP {S:List Sr}(h:Ord S)(L:List LB.Lab)(i:Nat)(hi:i<S.length)(G:LB.cmp (z03 S i).1 L=0):i=pos S L:=by
 rcases yV i (pos S L) with q|q|q
 .rw[zd3 S L i q] at G;simp at G
 .exact q
 .rw[zjP h L i q hi] at G;simp at G
def lastT (x:Sr):Int:=(CL.at' x.2 (x.2.length-1)).1
def firstT (x:Sr):Int:=(CL.at' x.2 0).1
def err (mark:Int)(S:List Sr)(x:Sr):Int:=
 if LB.right x.1=false\/CL.right x.2=false\/x.2.length=0 then 1
 else if firstT x<=mark then 10
 else if there S x.1=true then
  (if firstT x<=lastT (z03 S (pos S x.1)) then 10
  else if 2000<(z03 S (pos S x.1)).2.length+x.2.length then 12 else 0)
 else if 60<=S.length then 12 else 0
def nxt (S:List Sr)(x:Sr):List Sr:=
 if there S x.1=true then S.set (pos S x.1) ((z03 S (pos S x.1)).1,(z03 S (pos S x.1)).2++x.2)
 else S.insertIdx (pos S x.1) x
def OkS (x:Sr):Prop:=LB.right x.1=true/\CL.right x.2=true/\0<x.2.length/\∀s∈x.2,CL.Rs s
structure Good (S:List Sr):Prop where
 ord:Ord S
 few:S.length<=4000
 ok:∀x∈S,OkS x
theorem Good.nil:Good []:=⟨yd,by simp,λx h=>by simp at h⟩
theorem zhk (a b:List CL.Smp)(ha:CL.right a=true)(hb:CL.right b=true)(h0:0<a.length)(_hb0:0<b.length)(q:(CL.at' a (a.length-1)).1<(CL.at' b 0).1)(V:a.length+b.length<=2000):CL.right (a++b)=true:=by
 refine CL.zch _ (by rw[q8];exact V) λi hi=>?_
 rw[CL.z10];rw[CL.z0J] at ha hb;have G:∀k,k<a.length->CL.at' (a++b) k=CL.at' a k:=λk Y=>by
  unfold CL.at';rw[q7,q7,wD Y]
 have O:∀k,CL.at' (a++b) (a.length+k)=CL.at' b k:=λk=>by
  unfold CL.at';rw[q7,q7,eW (Nat.le_add_right _ _)];simp
 rw[q8] at hi;by_cases U:i<a.length
 .have h2:=(CL.z10 a i).1 (ha.2 i U);rw[G i U];refine⟨h2.1,?_⟩;rcases h2.2 with h|h
  .exact .inl h
  .by_cases J:i=0
   .exact .inl J
   .rw[G (i-1) (by omega)];exact .inr h
 .obtain⟨k,rfl⟩:∃k,i=a.length+k:=⟨i-a.length,by omega⟩;have h2:=(CL.z10 b k).1 (hb.2 k (by omega));rw[O k];refine⟨h2.1,.inr ?_⟩;by_cases J:k=0
  .subst J;rw[Nat.add_zero,G _ (by omega)];exact q
  .have e:a.length+k-1=a.length+(k-1):=by omega
   rw[e,O (k-1)];rcases h2.2 with h|h
   .omega
   .exact h
theorem zdM {S:List Sr}(h:Ord S)(x:Sr)(J:there S x.1=false):Ord (S.insertIdx (pos S x.1) x):=by
 induction S with
 | nil=>simp[pos,Ord]
 | cons y S ih=>
  have h1:=ql.1 h;unfold pos;by_cases O:LB.cmp y.1 x.1= -1
  .rw[if_pos O,uH];have U:there S x.1=false:=by
    rcases hb:there S x.1 with _|_
    .rfl
    .obtain⟨i,q,Y⟩:=(z2z h1.2 x.1).1 hb;have:there (y::S) x.1=true:=(z2z h x.1).2 ⟨i+1,by simpa using q,by rw[z1n];exact Y⟩;rw[this] at J;simp at J
   refine ql.2 ⟨λz V=>?_,ih h1.2 U⟩;rcases(tH (z2T S x.1)).1 V with e|e
   .rw[e];exact O
   .exact h1.1 z e
  .rw[if_neg O,iQ];have G:LB.cmp x.1 y.1= -1:=by
    rcases zk5 O with q|q
    .have:there (y::S) x.1=true:=(z2z h x.1).2 ⟨0,by simp,q⟩;rw[this] at J;simp at J
    .exact z6C q
   refine ql.2 ⟨λz V=>?_,h⟩;rcases qg.1 V with e|e
   .rw[e];exact G
   .exact LB.z0R.tr _ _ _ G (h1.1 z e)
theorem zkC {S:List Sr}(h:Ord S)(k:Nat)(y:Sr)(_hk:k<S.length)(e:y.1=(z03 S k).1):Ord (S.set k y):=by
 unfold Ord;rw[qV];intro i j hi q G;rw[wC] at hi q;have key:∀m (J:m<S.length),((S.set k y)[m]'(by rw[wC];exact J)).1=(z03 S m).1:=by
  intro m J;rw[List.getElem_set];split
  .rename_i O;subst O;exact e
  .rw[z2d]
 rw[key i hi,key j q];exact z4N h i j G q
theorem z3S {mark:Int}{S:List Sr}{x:Sr}(h:err mark S x=0):LB.right x.1=true/\CL.right x.2=true/\0<x.2.length/\mark<firstT x/\((there S x.1=true/\lastT (z03 S (pos S x.1))<firstT x/\(z03 S (pos S x.1)).2.length+x.2.length<=2000)\/(there S x.1=false/\S.length<60)):=by
 unfold err at h;split at h
 .simp at h
 .rename_i G;have q:LB.right x.1=true/\CL.right x.2=true/\0<x.2.length:=by
   refine⟨?_,?_,?_⟩
   .rcases hb:LB.right x.1 with _|_
    .exact absurd (.inl hb) G
    .rfl
   .rcases hb:CL.right x.2 with _|_
    .exact absurd (.inr (.inl hb)) G
    .rfl
   .rcases Nat.eq_zero_or_pos x.2.length with hb|hb
    .exact absurd (.inr (.inr hb)) G
    .exact hb
  refine⟨q.1,q.2.1,q.2.2,?_⟩;split at h
  .simp at h
  .rename_i U;refine⟨by omega,?_⟩;split at h
   .rename_i J;split at h
    .simp at h
    .rename_i O;split at h
     .simp at h
     .rename_i V;exact .inl ⟨J,by omega,by omega⟩
   .rename_i J;split at h
    .simp at h
    .rename_i O;exact .inr ⟨by simpa using J,by omega⟩
theorem z8R {mark:Int}{S:List Sr}{x:Sr}(h:Good S)(he:err mark S x=0)(J:∀s∈x.2,CL.Rs s):Good (nxt S x):=by
 obtain⟨h1,O,U,h4,h5⟩:=z3S he;unfold nxt;rcases h5 with⟨q,V,h8⟩|⟨q,V⟩
 .rw[if_pos q];have Y:pos S x.1<S.length:=(decide_eq_true_iff.1 q).1;have hy:=h.ok _ (at_mem S _ Y);refine⟨zkC h.ord _ _ Y rfl,by rw[wC];exact h.few,λz G=>?_⟩;rcases List.mem_or_eq_of_mem_set G with e|e
  .exact h.ok z e
  .rw[e];refine⟨hy.1,zhk _ _ hy.2.1 O hy.2.2.1 U V h8,by simp only[q8];omega,λs hs=>?_⟩;rcases List.mem_append.1 hs with e|e
   .exact hy.2.2.2 s e
   .exact J s e
 .rw[if_neg (by rw[q];decide)];refine⟨zdM h.ord x q,?_,λz G=>?_⟩
  .rw[List.length_insertIdx];split<;>omega
  .rcases(tH (z2T S x.1)).1 G with e|e
   .rw[e];exact⟨h1,O,U,J⟩
   .exact h.ok z e
def run (mark:Int):List Sr->List Sr->Nat->Option (Int×Nat)×List Sr
 | S,[],_=>(none,S)
 | S,x::l,i=>if err mark S x=0 then run mark (nxt S x) l (i+1) else(some (err mark S x,i),S)
def total (l:List Sr):Nat:=(l.map λx=>x.2.length).sum
theorem z14 (l:List Sr)(i:Nat)(h:i<l.length):total (l.take (i+1))=total (l.take i)+(z03 l i).2.length:=by
 unfold total;rw[rJ h,wK,uK,z2d];simp
theorem zdd (l:List Sr)(i:Nat):total (l.take i)<=total l:=by
 conv=>rhs;rw[<-List.take_append_drop i l]
 unfold total;rw[wK,uK];omega
theorem zcG (mark:Int)(S l:List Sr)(i:Nat)(h:i<l.length):run mark S (l.drop i) i=if err mark S (z03 l i)=0 then run mark (nxt S (z03 l i)) (l.drop (i+1)) (i+1) else(some (err mark S (z03 l i),i),S):=by
 rw[List.drop_eq_getElem_cons h,z2d];rfl
def app (mark:Int)(S l:List Sr):(Int×Int)×List Sr:=
 if 40<total l then((4, -1),S)
 else match run mark S l 0 with
  | (none,S')=>((0, -1),S')
  | (some (e,i),_)=>((e,(i:Int)),S)
theorem z8Z {mark:Int}:∀{S l:List Sr} {i:Nat},Good S->(∀x∈l,∀s∈x.2,CL.Rs s)->Good (run mark S l i).2
 | S,[],_,h,_=>h
 | S,x::l,i,h,hR=>by
  unfold run;split
  .rename_i q;exact z8Z (z8R h q (hR x (by simp))) (λy G=>hR y (by simp[G]))
  .exact h
theorem z6g {mark:Int}{S l:List Sr}(h:Good S)(q:∀x∈l,∀s∈x.2,CL.Rs s):Good (app mark S l).2:=by
 unfold app;split
 .exact h
 .have:=z8Z (mark:=mark) (i:=0) h q;split
  .rename_i e;rw[e] at this;exact this
  .exact h
def z2v (p:List LB.Lab->Int->Bool)(x:Sr):Sr:=(x.1,x.2.filter λs=>p x.1 s.1)
def kp (p:List LB.Lab->Int->Bool)(S:List Sr):List Sr:=(S.map (z2v p)).filter λx=>decide (0<x.2.length)
theorem zaZ (p:List LB.Lab->Int->Bool)(S:List Sr)(i:Nat)(h:i<S.length):kp p (S.take (i+1))=kp p (S.take i)++(if 0<(z2v p (z03 S i)).2.length then [z2v p (z03 S i)] else []):=by
 unfold kp;rw[rJ h,wK,List.filter_append,z2d]
 congr 1
 simp only[List.map_cons,List.map_nil,List.filter_cons,List.filter_nil,decide_eq_true_eq]
theorem z9K (l:List CL.Smp)(q:CL.Smp->Bool)(h:CL.right l=true):CL.right (l.filter q)=true:=by
 have key:∀(l:List CL.Smp),(CL.right l=true↔l.length<=2000/\l.Pairwise (λa b=>a.1<b.1)/\∀s∈l, -1099511627776<=s.1/\s.1<=1099511627776):=by
  intro l;rw[CL.z0J];have G:∀i (hi:i<l.length),CL.at' l i=l[i]:=λi hi=>by
   unfold CL.at';rw[q7,qw hi];rfl
  constructor
  .rintro⟨U,O⟩;refine⟨U,?_,λs V=>?_⟩
   .rw[qV];have step:∀n i,i+n<l.length->0<n->(CL.at' l i).1<(CL.at' l (i+n)).1:=by
     intro n
     induction n with
     | zero=>intro i _ h;omega
     | succ n ih=>
      intro i hi _;have J:=((CL.z10 l (i+(n+1))).1 (O _ hi)).2;have Y:(CL.at' l (i+n)).1<(CL.at' l (i+(n+1))).1:=by
       rcases J with J|J
       .omega
       .exact J
      by_cases hn:n=0
      .subst hn;exact Y
      .have:=ih i (by omega) (by omega);omega
    intro i j hi hj A1;have:=step (j-i) i (by omega) (by omega);rw[show i+(j-i)=j by omega,G i hi,G j hj] at this;exact this
   .obtain⟨i,hi,e⟩:=eI.1 V;have:=((CL.z10 l i).1 (O i hi)).1;rw[G i hi,e] at this;exact this
  .rintro⟨U,O,J⟩;refine⟨U,λi hi=>(CL.z10 l i).2 ⟨?_,?_⟩⟩
   .rw[G i hi];exact J _ (qK hi)
   .by_cases h0:i=0
    .exact .inl h0
    .right;rw[G i hi,G (i-1) (by omega)];exact qV.1 O (i-1) i (by omega) hi (by omega)
 rw[key] at h ⊢;exact⟨qi (eR _ _) h.1,h.2.1.filter _,λs V=>h.2.2 s (wE.1 V).1⟩
theorem z3h {p:List LB.Lab->Int->Bool}{S:List Sr}(h:Good S):Good (kp p S):=by
 refine⟨?_,?_,λx q=>?_⟩
 .unfold Ord kp;refine ow _ ?_;rw[List.pairwise_map];exact h.ord
 .exact qi (eR _ _) (by rw[List.length_map];exact h.few)
 .unfold kp at q;obtain⟨G,J⟩:=wE.1 q;obtain⟨y,O,rfl⟩:=qx.1 G;have:=h.ok y O;exact⟨this.1,z9K _ _ this.2.1,by simpa using J,λs U=>this.2.2.2 s (wE.1 U).1⟩
end HD
namespace CL
def z3R (l:List Smp):Prop:=l.Pairwise λx y=>x.1<y.1
theorem z3x (l:List Smp)(h:right l=true):z3R l:=by
 obtain⟨_,G⟩:=(z0J l).1 h;have step:∀i,i+1<l.length->(at' l i).1<(at' l (i+1)).1:=λi hi=>by
  have:=((z10 l (i+1)).1 (G (i+1) hi)).2;rcases this with h|h
  .omega
  .simpa using h
 have q:∀d i,i+d+1<l.length->(at' l i).1<(at' l (i+d+1)).1:=by
  intro d
  induction d with
  | zero=>intro i hi;exact step i hi
  | succ d ih=>
   intro i hi;have a:=ih i (by omega);have b:=step (i+d+1) (by omega);have e:i+(d+1)+1=i+d+1+1:=by omega
   rw[e];omega
 unfold z3R;rw[qV];intro i j hi J O;have:=q (j-i-1) i (by omega);rw[show i+(j-i-1)+1=j by omega] at this;simpa [at',hi,J] using this
def mrg:List Smp->List Smp->List Smp
 | [],b=>b
 | x::a,[]=>x::a
 | x::a,y::b=>if x.1<y.1 then x::mrg a (y::b) else if x.1=y.1 then y::mrg a b else y::mrg (x::a) b
 termination_by a b=>a.length+b.length
theorem z2m (a b:List Smp)(ha:z3R a)(hb:z3R b)(x:Smp):x∈mrg a b↔x∈b\/(x∈a/\∀y∈b,y.1≠x.1):=by
 match a,b with
 | [],b=>unfold mrg;simp
 | p::a,[]=>unfold mrg;simp
 | p::a,q::b=>
  have V:=ql.1 ha;have Y:=ql.1 hb;unfold mrg;split
  .next h=>
   rw[qg,z2m a (q::b) V.2 hb x];constructor
   .rintro(rfl|J|⟨G,U⟩)
    .refine .inr ⟨qd,λy O=>?_⟩;rcases qg.1 O with rfl|O
     .omega
     .have:=Y.1 y O;omega
    .exact .inl J
    .exact .inr ⟨qp _ G,U⟩
   .rintro(J|⟨G,U⟩)
    .exact .inr (.inl J)
    .rcases qg.1 G with rfl|G
     .exact .inl rfl
     .exact .inr (.inr ⟨G,U⟩)
  .next h=>
   split
   .next he=>
    rw[qg,z2m a b V.2 Y.2 x];constructor
    .rintro(rfl|J|⟨G,U⟩)
     .exact .inl qd
     .exact .inl (qp _ J)
     .refine .inr ⟨qp _ G,λy O=>?_⟩;rcases qg.1 O with rfl|O
      .have:=V.1 x G;omega
      .exact U y O
    .rintro(J|⟨G,U⟩)
     .rcases qg.1 J with rfl|J
      .exact .inl rfl
      .exact .inr (.inl J)
     .rcases qg.1 G with rfl|G
      .exact absurd he.symm (U q qd)
      .exact .inr (.inr ⟨G,λy O=>U y (qp _ O)⟩)
   .next he=>
    rw[qg,z2m (p::a) b ha Y.2 x];constructor
    .rintro(rfl|J|⟨G,U⟩)
     .exact .inl qd
     .exact .inl (qp _ J)
     .refine .inr ⟨G,λy O=>?_⟩;rcases qg.1 O with rfl|O
      .rcases qg.1 G with rfl|G
       .omega
       .have:=V.1 x G;omega
      .exact U y O
    .rintro(J|⟨G,U⟩)
     .rcases qg.1 J with rfl|J
      .exact .inl rfl
      .exact .inr (.inl J)
     .exact .inr (.inr ⟨G,λy O=>U y (qp _ O)⟩)
 termination_by a.length+b.length
theorem z3H (a b:List Smp)(Y:z3R a)(hb:z3R b):z3R (mrg a b):=by
 match a,b with
 | [],b=>unfold mrg;exact hb
 | p::a,[]=>unfold mrg;exact Y
 | p::a,q::b=>
  have G:=ql.1 Y;have J:=ql.1 hb;unfold mrg;split
  .next h=>
   refine ql.2 ⟨λy V=>?_,z3H a (q::b) G.2 hb⟩;rcases(z2m a (q::b) G.2 hb y).1 V with O|⟨U,_⟩
   .rcases qg.1 O with rfl|O
    .exact h
    .have:=J.1 y O;omega
   .exact G.1 y U
  .next h=>
   split
   .next he=>
    refine ql.2 ⟨λy V=>?_,z3H a b G.2 J.2⟩;rcases(z2m a b G.2 J.2 y).1 V with O|⟨U,_⟩
    .exact J.1 y O
    .have:=G.1 y U;omega
   .next he=>
    refine ql.2 ⟨λy V=>?_,z3H (p::a) b Y J.2⟩;rcases(z2m (p::a) b Y J.2 y).1 V with O|⟨U,_⟩
    .exact J.1 y O
    .rcases qg.1 U with rfl|U
     .omega
     .have:=G.1 y U;omega
 termination_by a.length+b.length
theorem z7Z:∀(l q:List Smp),z3R l->z3R q->(∀x,x∈l↔x∈q)->l=q
 | [],[],_,_,_=>rfl
 | [],y::q,_,_,h=>by have:=(h y).2 qd;simp at this
 | x::l,[],_,_,h=>by have:=(h x).1 qd;simp at this
 | x::l,y::q,h1,h2,h=>by
  have a:=ql.1 h1;have b:=ql.1 h2;have J:x=y:=by
   rcases qg.1 ((h x).1 qd) with e|e
   .exact e
   .rcases qg.1 ((h y).2 qd) with O|O
    .exact O.symm
    .have c:=b.1 x e;have d:=a.1 y O;omega
  subst J;rw[z7Z l q a.2 b.2 (λz=>?_)];constructor
  .intro G;rcases qg.1 ((h z).1 (qp _ G)) with e|e
   .subst e;have:=a.1 z G;omega
   .exact e
  .intro G;rcases qg.1 ((h z).2 (qp _ G)) with e|e
   .subst e;have:=b.1 z G;omega
   .exact e
end CL
namespace HD
theorem z0f (x:Sr)(S:List Sr):total (x::S)=x.2.length+total S:=by unfold total;simp
theorem zaV:∀(S:List Sr) (k:Nat) (x:Sr),k<=S.length->total (S.insertIdx k x)=total S+x.2.length
 | S,0,x,_=>by rw[iQ,z0f];omega
 | [],k+1,x,h=>by simp at h
 | y::S,k+1,x,h=>by
  rw[uH,z0f,z0f,zaV S k x (by simpa using h)];omega
theorem zao:∀(S:List Sr) (k:Nat) (L:List LB.Lab) (l:List CL.Smp),k<S.length->total (S.set k (L,(z03 S k).2++l))=total S+l.length
 | [],k,L,l,h=>by simp at h
 | y::S,0,L,l,_=>by
  rw[List.set_cons_zero,z0f,z0f,z5r];simp only[q8];omega
 | y::S,k+1,L,l,h=>by
  rw[List.set_cons_succ,z0f,z0f,z1n,zao S k L l (by simpa using h)];omega
theorem zfq {mark:Int}{S:List Sr}{x:Sr}(q:err mark S x=0):total (nxt S x)=total S+x.2.length:=by
 obtain⟨_,_,_,_,G⟩:=z3S q;unfold nxt;rcases G with⟨h,_,_⟩|⟨h,_⟩
 .rw[if_pos h,zao S _ _ _ (decide_eq_true_iff.1 h).1]
 .rw[if_neg (by rw[h];decide),zaV S _ _ (z2T S x.1)]
theorem zac {mark:Int}:∀{S l:List Sr} {i:Nat},(run mark S l i).1=none->total (run mark S l i).2=total S+total l
 | S,[],_,_=>by unfold run;rfl
 | S,x::l,i,h=>by
  unfold run at h ⊢;by_cases q:err mark S x=0
  .rw[if_pos q] at h ⊢;rw[zac h,zfq q,z0f];omega
  .rw[if_neg q] at h;simp at h
theorem z6u {mark:Int}{S l:List Sr}(h:(app mark S l).1=(0, -1)):total (app mark S l).2=total S+total l:=by
 unfold app at h ⊢;by_cases q:40<total l
 .rw[if_pos q] at h;simp at h
 .rw[if_neg q] at h ⊢;rcases hr:run mark S l 0 with⟨o,S'⟩;rcases o with _|⟨e,i⟩
  .rw[hr] at h;have:=zac (mark:=mark) (S:=S) (l:=l) (i:=0) (by rw[hr]);rw[hr] at this;exact this
  .rw[hr] at h;simp only[eT] at h;omega
theorem zci {mark:Int}{S l:List Sr}(h:(app mark S l).1≠(0, -1)):(app mark S l).2=S:=by
 unfold app at h ⊢;by_cases q:40<total l
 .rw[if_pos q]
 .rw[if_neg q] at h ⊢;rcases hr:run mark S l 0 with⟨o,S'⟩;rcases o with _|⟨e,i⟩
  .rw[hr] at h;exact absurd rfl h
  .rfl
def jn:List Sr->List Sr->List Sr
 | [],b=>b
 | x::a,[]=>x::a
 | x::a,y::b=>if LB.cmp x.1 y.1<0 then x::jn a (y::b) else if 0<LB.cmp x.1 y.1 then y::jn (x::a) b else(x.1,CL.mrg x.2 y.2)::jn a b
termination_by a b => a.length + b.length
theorem z6v (a:List Sr):jn a []=a:=by cases a<;>simp[jn]
theorem z5d (b:List Sr):jn [] b=b:=by simp[jn]
theorem ziU (x y:Sr)(a b:List Sr)(h:LB.cmp x.1 y.1<0):jn (x::a) (y::b)=x::jn a (y::b):=by rw[jn,if_pos h]
theorem zj4 (x y:Sr)(a b:List Sr)(h:0<LB.cmp x.1 y.1):jn (x::a) (y::b)=y::jn (x::a) b:=by rw[jn,if_neg (by omega),if_pos h]
theorem zib (x y:Sr)(a b:List Sr)(h:LB.cmp x.1 y.1=0):jn (x::a) (y::b)=(x.1,CL.mrg x.2 y.2)::jn a b:=by rw[jn,if_neg (by omega),if_neg (by omega)]
end HD
namespace HD
theorem z5G {α:Type}{r:α->α->Prop}(q:∀a,¬r a a)(G:∀a b,r a b->¬r b a):∀{l l':List α},l.Pairwise r->l'.Pairwise r->(∀x,x∈l↔x∈l')->l=l'
 | [],[],_,_,_=>rfl
 | [],b::t',_,_,h=>absurd ((h b).2 (by simp)) (by simp)
 | a::t,[],_,_,h=>absurd ((h a).1 (by simp)) (by simp)
 | a::t,b::t',h1,h2,h=>by
  have O:=ql.1 h1;have p2:=ql.1 h2;have U:a=b:=by
   rcases qg.1 ((h a).1 (by simp)) with e|e
   .exact e
   .rcases qg.1 ((h b).2 (by simp)) with V|V
    .exact V.symm
    .exact absurd (O.1 b V) (G _ _ (p2.1 a e))
  subst U
  congr 1
  refine z5G q G O.2 p2.2 λx=>⟨λJ=>?_,λJ=>?_⟩
  .rcases qg.1 ((h x).1 (by simp[J])) with e|e
   .subst e;exact absurd (O.1 x J) (q x)
   .exact e
  .rcases qg.1 ((h x).2 (by simp[J])) with e|e
   .subst e;exact absurd (p2.1 x J) (q x)
   .exact e
theorem zkI {l q:List Sr}(J:Ord l)(O:Ord q)(h:∀x,x∈l↔x∈q):l=q:=
 z5G (r:=λa b:Sr=>LB.cmp a.1 b.1= -1) (λa e=>by rw[z1A] at e;simp at e) (λa b e G=>by rw[z8Y e] at G;simp at G) J O h
end HD
section
open Go.RowKit
namespace BK
def MJ (a b:List Sr)(x:Sr):Prop:=(x∈a/\∀y∈b,y.1≠x.1)\/(x∈b/\∀y∈a,y.1≠x.1)\/∃u∈a,∃v∈b,u.1=v.1/\x=(u.1,CL.mrg u.2 v.2)
theorem ze1 {x y:Sr}(h:LB.cmp x.1 y.1= -1):x.1≠y.1:=λe=>by rw[e,HD.z1A] at h;cases h
theorem znk (x y:List LB.Lab):LB.cmp x y<0\/0<LB.cmp x y\/LB.cmp x y=0:=by omega
theorem zbz {x y:List LB.Lab}(h:LB.cmp x y<0):LB.cmp x y= -1:=by
 rcases LB.z0R.rng x y with e|e|e<;>omega
theorem zg7 {x y:List LB.Lab}(h:0<LB.cmp x y):LB.cmp y x= -1:=by
 rcases LB.z0R.rng x y with e|e|e
 .omega
 .omega
 .exact HD.z6C e
theorem z8J {x:Sr}{a:List Sr}(h:HD.Ord (x::a)):∀y∈a,LB.cmp x.1 y.1= -1:=λy q=>(ql.1 h).1 y q
theorem z3j {x y z:List LB.Lab}(h:LB.cmp x y= -1)(q:LB.cmp y z= -1):LB.cmp x z= -1:=LB.z0R.tr x y z h q
theorem z9L:∀(n:Nat) (a b:List Sr),a.length+b.length<=n->HD.Ord a->HD.Ord b->∀x,x∈HD.jn a b↔MJ a b x:=by
 intro n
 induction n with
 | zero=>
  intro a b hn ha hb x;have h1:a=[]:=eN (by omega);have h2:b=[]:=eN (by omega);subst h1 h2;simp[HD.z6v,MJ]
 | succ n ih=>
  intro a b hn ha hb x;cases a with
  | nil=>rw[HD.z5d];simp[MJ]
  | cons u a=>
   cases b with
   | nil=>rw[HD.z6v];simp[MJ]
   | cons v b=>
    have A2:=z8J ha;have A3:=z8J hb;have A4:HD.Ord a:=(ql.1 ha).2;have A5:HD.Ord b:=(ql.1 hb).2;simp only[qf] at hn;rcases znk u.1 v.1 with h|h|h
    .have O:=zbz h;rw[HD.ziU u v a b h,qg,ih a (v::b) (by simp only[qf];omega) A4 hb x];have Y:∀y∈v::b,u.1≠y.1:=λy G=>by
      rcases qg.1 G with rfl|G
      .exact ze1 O
      .exact ze1 (z3j O (A3 y G))
     constructor
     .rintro(rfl|h1|h1|⟨p,U,q,J,V,e2⟩)
      .exact .inl ⟨qd,λy G e=>Y y G e.symm⟩
      .exact .inl ⟨qp _ h1.1,h1.2⟩
      .refine .inr (.inl ⟨h1.1,λy G=>?_⟩);rcases qg.1 G with rfl|G
       .exact Y x h1.1
       .exact h1.2 y G
      .exact .inr (.inr ⟨p,qp _ U,q,J,V,e2⟩)
     .rintro(h1|h1|⟨p,U,q,J,V,e2⟩)
      .rcases qg.1 h1.1 with rfl|h2
       .exact .inl rfl
       .exact .inr (.inl ⟨h2,h1.2⟩)
      .exact .inr (.inr (.inl ⟨h1.1,λy G=>h1.2 y (qp _ G)⟩))
      .rcases qg.1 U with rfl|U
       .exact absurd V (Y q J)
       .exact .inr (.inr (.inr ⟨p,U,q,J,V,e2⟩))
    .have A6:=zg7 h;rw[HD.zj4 u v a b h,qg,ih (u::a) b (by simp only[qf];omega) ha A5 x];have A1:∀y∈u::a,v.1≠y.1:=λy G=>by
      rcases qg.1 G with rfl|G
      .exact ze1 A6
      .exact ze1 (z3j A6 (A2 y G))
     constructor
     .rintro(rfl|h1|h1|⟨p,U,q,J,V,e2⟩)
      .exact .inr (.inl ⟨qd,λy G e=>A1 y G e.symm⟩)
      .refine .inl ⟨h1.1,λy G=>?_⟩;rcases qg.1 G with rfl|G
       .exact A1 x h1.1
       .exact h1.2 y G
      .exact .inr (.inl ⟨qp _ h1.1,h1.2⟩)
      .exact .inr (.inr ⟨p,U,q,qp _ J,V,e2⟩)
     .rintro(h1|h1|⟨p,U,q,J,V,e2⟩)
      .exact .inr (.inl ⟨h1.1,λy G=>h1.2 y (qp _ G)⟩)
      .rcases qg.1 h1.1 with rfl|h2
       .exact .inl rfl
       .exact .inr (.inr (.inl ⟨h2,h1.2⟩))
      .rcases qg.1 J with rfl|J
       .exact absurd V.symm (A1 p U)
       .exact .inr (.inr (.inr ⟨p,U,q,J,V,e2⟩))
    .have O:=HD.cmp_eq h;rw[HD.zib u v a b h,qg,ih a b (by omega) A4 A5 x];have Y:∀y∈b,u.1≠y.1:=λy G=>by rw[O];exact ze1 (A3 y G)
     have A1:∀y∈a,v.1≠y.1:=λy G=>by rw[<-O];exact ze1 (A2 y G)
     constructor
     .rintro(rfl|h1|h1|⟨p,U,q,J,V,e2⟩)
      .exact .inr (.inr ⟨u,qd,v,qd,O,rfl⟩)
      .refine .inl ⟨qp _ h1.1,λy G=>?_⟩;rcases qg.1 G with rfl|G
       .exact A1 x h1.1
       .exact h1.2 y G
      .refine .inr (.inl ⟨qp _ h1.1,λy G=>?_⟩);rcases qg.1 G with rfl|G
       .exact Y x h1.1
       .exact h1.2 y G
      .exact .inr (.inr ⟨p,qp _ U,q,qp _ J,V,e2⟩)
     .rintro(h1|h1|⟨p,U,q,J,V,e2⟩)
      .rcases qg.1 h1.1 with rfl|h2
       .exact absurd O.symm (h1.2 v qd)
       .exact .inr (.inl ⟨h2,λy G=>h1.2 y (qp _ G)⟩)
      .rcases qg.1 h1.1 with rfl|h2
       .exact absurd O (h1.2 u qd)
       .exact .inr (.inr (.inl ⟨h2,λy G=>h1.2 y (qp _ G)⟩))
      .rcases qg.1 U with rfl|U
       .rcases qg.1 J with rfl|J
        .exact .inl e2
        .exact absurd V (Y q J)
       .rcases qg.1 J with rfl|J
        .exact absurd V.symm (A1 p U)
        .exact .inr (.inr (.inr ⟨p,U,q,J,V,e2⟩))
theorem MJ.lab {a b:List Sr}{x:Sr}(h:MJ a b x):(∃u∈a,u.1=x.1)\/∃v∈b,v.1=x.1:=by
 rcases h with h|h|⟨u,q,v,J,O,G⟩
 .exact .inl ⟨x,h.1,rfl⟩
 .exact .inr ⟨x,h.1,rfl⟩
 .exact .inl ⟨u,q,by rw[G]⟩
theorem zmy:∀(n:Nat) (a b:List Sr),a.length+b.length<=n->HD.Ord a->HD.Ord b->HD.Ord (HD.jn a b):=by
 intro n
 induction n with
 | zero=>
  intro a b hn Y hb;have h1:a=[]:=eN (by omega);subst h1;rw[HD.z5d];exact hb
 | succ n ih=>
  intro a b hn Y hb;cases a with
  | nil=>rw[HD.z5d];exact hb
  | cons u a=>
   cases b with
   | nil=>rw[HD.z6v];exact Y
   | cons v b=>
    have U:=z8J Y;have V:=z8J hb;have G:HD.Ord a:=(ql.1 Y).2;have J:HD.Ord b:=(ql.1 hb).2;simp only[qf] at hn;rcases znk u.1 v.1 with h|h|h
    .have O:=zbz h;rw[HD.ziU u v a b h];refine ql.2 ⟨λy hy=>?_,ih a (v::b) (by simp only[qf];omega) G hb⟩;rcases((z9L _ a (v::b) (qq _) G hb y).1 hy).lab with⟨p,q,e⟩|⟨p,q,e⟩
     .rw[<-e];exact U p q
     .rw[<-e];rcases qg.1 q with rfl|q
      .exact O
      .exact z3j O (V p q)
    .have A1:=zg7 h;rw[HD.zj4 u v a b h];refine ql.2 ⟨λy hy=>?_,ih (u::a) b (by simp only[qf];omega) Y J⟩;rcases((z9L _ (u::a) b (qq _) Y J y).1 hy).lab with⟨p,q,e⟩|⟨p,q,e⟩
     .rw[<-e];rcases qg.1 q with rfl|q
      .exact A1
      .exact z3j A1 (U p q)
     .rw[<-e];exact V p q
    .have O:=HD.cmp_eq h;rw[HD.zib u v a b h];refine ql.2 ⟨λy hy=>?_,ih a b (by omega) G J⟩;rcases((z9L _ a b (qq _) G J y).1 hy).lab with⟨p,q,e⟩|⟨p,q,e⟩
     .rw[<-e];exact U p q
     .rw[<-e,O];exact V p q
end BK
end
section
open Go.RowKit
namespace BK
theorem zd0 {p:List LB.Lab->Int->Bool}{S:List Sr}{x:Sr}:x∈HD.kp p S↔∃y∈S,x=HD.z2v p y/\0<x.2.length:=by
 unfold HD.kp;rw[wE,qx];constructor
 .rintro⟨⟨y,q,e⟩,h⟩;exact⟨y,q,e.symm,by simpa using h⟩
 .rintro⟨y,q,e,h⟩;exact⟨⟨y,q,e.symm⟩,by simpa using h⟩
def z4d {γ:Type}(f:γ->List LB.Lab->Int->Bool)(gs:List γ):List LB.Lab->Int->Bool:=λL t=>gs.all λg=> !f g L t
end BK
end
section
open Go.RowKit
namespace BK
def okS (tp:Int)(x:Sr):Bool:=LB.right x.1&&(CL.right x.2&&(decide (0<x.2.length)&&decide ((CL.at' x.2 (x.2.length-1)).1<=tp)))
def Ok (tp:Int)(S:List Sr)(i:Nat):Prop:=∀k,k<i->okS tp (z03 S k)=true/\(0<k->LB.cmp (z03 S (k-1)).1 (z03 S k).1<0)
def ser (tp:Int)(S:List Sr):Bool:=decide (∀k,k<S.length->okS tp (z03 S k)=true/\(0<k->LB.cmp (z03 S (k-1)).1 (z03 S k).1<0))
def right (tp old:Int)(S:List Sr):Bool:=ser tp S&&(decide (-1099511627776<=tp/\tp<=1099511627776)&&decide (-1<=old))
theorem Ok.next {tp:Int}{S:List Sr}{i:Nat}(h:Ok tp S i)(G:okS tp (z03 S i)=true)(J:0<i->LB.cmp (z03 S (i-1)).1 (z03 S i).1<0):Ok tp S (i+1):=λk O=>by
 rcases Nat.lt_or_ge k i with q|q
 .exact h k q
 .have:k=i:=by omega
  subst this;exact⟨G,J⟩
theorem zmC {tp:Int}{S:List Sr}(h:Ok tp S S.length):ser tp S=true:=decide_eq_true h
theorem zho {tp old:Int}{S:List Sr}{i:Nat}(hi:i<S.length)(h:okS tp (z03 S i)=false\/(0<i/\¬LB.cmp (z03 S (i-1)).1 (z03 S i).1<0)):right tp old S=false:=by
 have:ser tp S=false:=by
  unfold ser;rw[decide_eq_false_iff_not];intro G;obtain⟨q,J⟩:=G i hi;rcases h with h|⟨h,O⟩
  .rw[h] at q;cases q
  .exact O (J h)
 unfold right;rw[this];rfl
theorem zlG {tp:Int}{x:Sr}(h:LB.right x.1=false):okS tp x=false:=by unfold okS;rw[h];rfl
theorem zkL {tp:Int}{x:Sr}(h:CL.right x.2=false):okS tp x=false:=by unfold okS;rw[h];simp
theorem zir {tp:Int}{x:Sr}(h:x.2.length=0):okS tp x=false:=by unfold okS;simp[h]
end BK
end
section
open Go.RowKit
theorem z6t {α:Type}(a b c:List α)(n:Nat)(h:n=a.length+b.length):(a++b++c).take n=a++b:=by
 rw[h,<-q8,List.take_left]
theorem z2P {P:Program}(w:World)(O:Nat)(t ty e:qn)(i:TypeInfo)(z:Value)(size bytes:Nat)(ht:P.underlying t=some (.slice e))(hi:P.info? e=some i)(hz:i.zero=some z)
  (h:i.size=size) (A3:i.bytes=bytes) (A8:z.cells.size=size) (A9:0<size)
  (v:Value) (n:Nat) (xs:List Value) (V:w.ownsRow O e size v n xs)
  (a:Addr) (m c:Nat) (news:List Value) (hm:0<m) (hl:news.length=m*size) (U:∀j u,news[j]? =some u->w.cell? (a.add j)=some u) (h1:∀u∈news,u.oneCell'=true)
  (A5:n+m<=qS) (G:(n+m)*bytes<=140737488355328) (A4:O<=w.heap.size):
  ∃v' w',(Builtin.append_ #[t,t] ty #[v,.slice (some a) m c]).run P w= .ok v' w'/\w'.ownsRow O e size v' (n+m) (xs++news)/\w'.ownsRow O e size v n xs/\w.grownBy w' v.ownBlock/\
   (v'.ownBlock=v.ownBlock\/v'.ownBlock=some w.heap.size):=by
 obtain⟨v',w',q,ho,hg,Ac⟩:=run_append_own (P:=P) w O t ty e i z size bytes ht hi hz h A3 A8 A9 v n xs V a m c news hl U h1 A5 G A4;refine⟨v',w',q,ho,?_⟩;have A1:Src P i.size t (.slice (some a) m c) m news w:=Src.ofSlice w ht a m c news (by rw[h];exact hl) U h1;have A2:((n+m:Nat):Int)<=9223372036854775807:=by unfold qS at A5;omega
 have J:=V;rcases V.2 with⟨rfl,h0⟩|⟨g,cap,cur,rfl,h2,hc,h3,h4,h5,h6⟩
 .subst h0;have hr:=om (P:=P) w t t ty e i z ht hi hz none 0 0 [] (run_firstCells_none w.drew i.size 0 0 0) (.slice (some a) m c) m news A1 (by omega) A2 (by rw[A3];exact pE (by omega) G);rw[hr] at q;cases q;exact⟨⟨V.1,.inl ⟨rfl,rfl⟩⟩,hg,.inr rfl⟩
 .by_cases Y:n+m<=cap
  .have A6:n*i.size+news.length<=cur.size:=by
    rw[h,hl,h5,<-pb];exact yx _ Y
   have hr:=run_append_room (P:=P) w t ty e i ht hi g n cap cur hc a m c news (by rw[h];exact hl) U h1 Y A6;rw[hr] at q;cases q;refine⟨⟨J.1,.inr ⟨g,cap,_,rfl,h2,setRow_heap w g cur _ e _ hc,h3,h4,?_,?_⟩⟩,hg,.inl rfl⟩
   .rw[<-h5];have:(cur.toList.take (n*i.size)++news++cur.toList.drop (n*i.size+news.length)).length=cur.size:=by
     simp only[q8,qb,wI,qE];omega
    simpa using this
   .have Ad:n*size<=cur.size:=by rw[h5];exact yx _ h3
    rw[List.toList_toArray,List.append_assoc,h,List.take_append_of_le_length (by rw[qb,qE];omega),List.take_take,Nat.min_self];exact h6
  .have A7:(i7 i.size n (.slice (some ⟨g,0,none⟩) n cap)).run P w.drew= .ok xs.toArray w.drew:=by
    rw[h];exact run_firstCells_some w.drew size n ⟨g,0,none⟩ n cap xs J.1 (λj u hj=>J.cells (g:=g) rfl j u hj)
   have hr:=om (P:=P) w t t ty e i z ht hi hz (some ⟨g,0,none⟩) n cap xs A7 (.slice (some a) m c) m news A1 (by omega) A2 (by rw[A3];exact pE (by omega) G);rw[hr] at q;cases q;refine⟨⟨J.1,.inr ⟨g,cap,cur,rfl,h2,?_,h3,h4,h5,h6⟩⟩,hg,.inr rfl⟩;exact(Below.heap_alloc w.drew _ g (z00 hc)).trans hc
theorem z1E {P:Program}(w:World)(dT sT ty h:qn)(g o q J:Nat)(a:Addr)(G O size:Nat)(cur:Array Value)(t:qn)(cs:List Value)
  (hu:P.underlying dT=some (.slice h)) (hs:(P.info? h).map (·.size)=some size)
  (hg:w.heap[g]? =some (.cells cur t (0,0))) (hn:cs.length=Nat.min G q*size)
  (U:∀j v,cs[j]? =some v->w.cell? (a.add j)=some v) (V:o+cs.length<=cur.size) (h1:∀v∈cs,v.oneCell'=true):
  (tY #[dT,sT] ty #[.slice (some ⟨g,o,none⟩) q J,.slice (some a) G O]).run P w=
   .ok (goInt (Nat.min G q)) (w.setRow g (cur.toList.take o++cs++cur.toList.drop (o+cs.length)).toArray):=by
 have hl:=run_loadCells_list (P:=P) w a cs U;have Y:=run_storeCells_at P g o t cs 0 cur w hg (by simpa using V) h1;cases hq:P.info? h with
 | none=>simp[hq] at hs
 | some i=>
  have hi:i.size=size:=by simpa [hq] using hs
  simp[tY,run_underlying hu,Builtin.lenOf,i7,sizeOf,typeInfo,hq,hi,<-hn,hl,Y]
end
section
open Go.RowKit
structure ZFr (Z:Nat->Prop) (w w':World):Prop where
 os:w'.os=w.os
 tape:w'.tape=w.tape
 output:w'.output=w.output
 size:w.heap.size<=w'.heap.size
 block:∀j,j<w.heap.size->¬Z j->w'.heap[j]? =w.heap[j]?
theorem ZFr.trans {Z:Nat->Prop}{a b c:World}(h:ZFr Z a b)(k:ZFr Z b c):ZFr Z a c:=
 ⟨k.os.trans h.os,k.tape.trans h.tape,k.output.trans h.output,qi h.size k.size,λj q G=>(k.block j (qe q h.size) G).trans (h.block j q G)⟩
theorem ZFr.below {Z:Nat->Prop}{w w':World}(h:Below w.heap.size w w'):ZFr Z w w':=⟨h.os,h.tape,h.output,h.size,λj q _=>h.block j q⟩
theorem ZFr.low {Z:Nat->Prop}{w w':World}(h:ZFr Z w w'){B:Nat}(G:B<=w.heap.size)(q:∀j,Z j->B<=j):Below B w w':=⟨h.os,h.tape,h.output,h.size,λj J=>h.block j (by omega) (λe=>by have:=q j e;omega)⟩
theorem z0u {a b c:World}(h:Below a.heap.size a b)(k:Below b.heap.size b c):Below a.heap.size a c:=h.trans (k.mono h.size)
theorem hfz {w:World}{B:Nat}{c:Array Value}{T:qn}(h:w.heap[B]? =some (.cells c T))(j:Nat):w.frozen? ⟨B,j,none⟩=false:=by simp[World.frozen?,h]
theorem z0y {w:World}{q n G:Nat}{e:qn}{v:Value}{xs:List Value}(h:w.ownsRow q e G v n xs){r:Nat}(O:v.ownBlock≠some r)(o:Nat)(u:Value):(w.setCell ⟨r,o,none⟩ u).ownsRow q e G v n xs:=by
 refine⟨h.1,?_⟩;rcases h.2 with U|⟨g,cap,J,rfl,V,Y,a3⟩
 .exact .inl U
 .exact .inr ⟨g,cap,J,rfl,V,(Below.heap_setCell w ⟨r,o,none⟩ u g (λe=>O (congrArg some e))).trans Y,a3⟩
theorem z8A {w:World}{q n G:Nat}{e:qn}{v:Value}{xs:List Value}(h:w.ownsRow q e G v n xs){r:Nat}(J:r<q):v.ownBlock≠some r:=λe=>by have:=(h.lt r e).1;omega
def wid (Z:Nat->Prop)(w w':World):Nat->Prop:=λj=>Z j\/(w.heap.size<=j/\j<w'.heap.size)
abbrev znj:Value×Value:=(.nilIface,.nilIface)
abbrev zr2 (xs:List (Value×Value)):List Value:=xs.flatMap λp=>[p.1,p.2]
abbrev atX (xs:List (Value×Value))(i:Nat):Value×Value:=xs.getD i znj
theorem z1M (xs:List (Value×Value)):(zr2 xs).length=xs.length*2:=by
 induction xs with
 | nil=>rfl
 | cons s l ih=>simp only[zr2,rU,q8,qf,qO] at ih ⊢;omega
theorem z4R (p:Value×Value)(xs:List (Value×Value)):zr2 (p::xs)=p.1::p.2::zr2 xs:=rfl
theorem z7z (a b:List (Value×Value)):zr2 (a++b)=zr2 a++zr2 b:=by simp[zr2]
theorem zr1 (xs:List (Value×Value)):∀i,i<xs.length->(zr2 xs)[i*2]? =some (atX xs i).1/\(zr2 xs)[i*2+1]? =some (atX xs i).2:=by
 induction xs with
 | nil=>intro i hi;simp at hi
 | cons s l ih=>
  intro i hi
  match i with
  | 0=>exact⟨rfl,rfl⟩
  | i+1=>
   obtain⟨h,q⟩:=ih i (by simpa using hi);have G:(i+1)*2=i*2+2:=by omega
   rw[z4R,G];exact⟨h,q⟩
theorem zjD (xs:List (Value×Value))(u:Value):∀i,(zr2 xs).set (i*2+1) u=zr2 (xs.set i ((atX xs i).1,u)):=by
 induction xs with
 | nil=>intro i;rfl
 | cons s l ih=>
  intro i
  match i with
  | 0=>rfl
  | i+1=>
   have h:(i+1)*2+1=(i*2+1)+2:=by omega
   rw[z4R,h];show s.1::s.2::(zr2 l).set (i*2+1) u=_;rw[ih i];rfl
theorem zdj (a b:Value):∀(xs:List (Value×Value)) (i:Nat),i<=xs.length->(zr2 xs).take (i*2)++[a,b]++(zr2 xs).drop (i*2)=zr2 (xs.insertIdx i (a,b))
 | xs,0,_=>rfl
 | [],i+1,h=>by simp at h
 | s::l,i+1,h=>by
  have q:(i+1)*2=i*2+2:=by omega
  rw[z4R,q];show s.1::s.2::((zr2 l).take (i*2)++[a,b]++(zr2 l).drop (i*2))=_;rw[zdj a b l i (by simpa using h)];rfl
theorem z4a (xs:List (Value×Value))(k i:Nat)(p:Value×Value)(q:k<xs.length):atX (xs.set k p) i=if i=k then p else atX xs i:=by
 unfold atX;rw[q7,q7,rf];by_cases h:k=i
 .subst h;rw[if_pos rfl,if_pos rfl,if_pos q];rfl
 .rw[if_neg h,if_neg (λe=>h e.symm)]
theorem z5y (xs:List (Value×Value))(k i:Nat)(p:Value×Value)(h:k<=xs.length):atX (xs.insertIdx k p) i=if i<k then atX xs i else if i=k then p else atX xs (i-1):=by
 unfold atX;rw[q7,q7,uL];split
 .rfl
 .split
  .rename_i G q;subst q;rw[if_pos h];rfl
  .rw[q7]
theorem z8N (S:List Sr)(k i:Nat)(p:Sr)(q:k<S.length):z03 (S.set k p) i=if i=k then p else z03 S i:=by
 unfold z03;rw[q7,q7,rf];by_cases h:k=i
 .subst h;rw[if_pos rfl,if_pos rfl,if_pos q];rfl
 .rw[if_neg h,if_neg (λe=>h e.symm)]
theorem z8V (S:List Sr)(k i:Nat)(p:Sr)(h:k<=S.length):z03 (S.insertIdx k p) i=if i<k then z03 S i else if i=k then p else z03 S (i-1):=by
 unfold z03;rw[q7,q7,uL];split
 .rfl
 .split
  .rename_i G q;subst q;rw[if_pos h];rfl
  .rw[q7]
structure HdX (w:World) (hb:Nat) (mark:Int) (S:List Sr) (v:Value) (xs:List (Value×Value)):Prop where
 box:w.heap[hb]? =some (.cells #[.int .i64 mark,v] 165)
 len:xs.length=S.length
 row:w.ownsRow 0 93 2 v S.length (zr2 xs)
 labs:∀i,i<S.length->z0x w 0 (atX xs i).1 (z03 S i).1
 smps:∀i,i<S.length->z0h w 0 (atX xs i).2 (z03 S i).2
 apart:∀i j,i<S.length->j<S.length->i≠j->(atX xs i).2.ownBlock≠(atX xs j).2.ownBlock
theorem HdX.below {w w':World}{hb:Nat}{mark:Int}{S:List Sr}{v:Value}{xs:List (Value×Value)}(h:HdX w hb mark S v xs)(k:Below w.heap.size w w'):HdX w' hb mark S v xs where
 box:=(k.block hb (z00 h.box)).trans h.box
 len:=h.len
 row:=z04 h.row λg _ q=>k.block g (z00 q)
 labs i hi:=z04 (h.labs i hi) λg _ q=>k.block g (z00 q)
 smps i hi:=z04 (h.smps i hi) λg _ q=>k.block g (z00 q)
 apart:=h.apart
def HdI (w:World)(hb:Nat)(Z:Nat->Prop)(mark:Int)(S:List Sr):Prop:=
 (∃v xs,HdX w hb mark S v xs/\∀i,i<S.length->∀g,(atX xs i).2.ownBlock=some g->Z g)/\Z hb/\∀j,Z j->j<w.heap.size
theorem HdI.below {w w':World}{hb:Nat}{Z:Nat->Prop}{mark:Int}{S:List Sr}(h:HdI w hb Z mark S)(k:Below w.heap.size w w'):HdI w' hb Z mark S:=by
 obtain⟨⟨v,xs,h1,q⟩,G,J⟩:=h;exact⟨⟨v,xs,h1.below k,q⟩,G,λj O=>qe (J j O) k.size⟩
theorem HdX.cells {w:World}{hb:Nat}{mark:Int}{S:List Sr}{v:Value}{xs:List (Value×Value)}(h:HdX w hb mark S v xs)(V:0<S.length):∃g cap,v= .slice (some ⟨g,0,none⟩) S.length cap/\g<w.heap.size/\∀i,i<S.length->w.cell? ⟨g,i*2,none⟩=some (atX xs i).1/\w.cell? ⟨g,i*2+1,none⟩=some (atX xs i).2:=by
 rcases h.row.2 with⟨_,q⟩|⟨g,cap,G,q,_,J,_⟩
 .omega
 .refine⟨g,cap,q,z00 J,λi hi=>?_⟩;obtain⟨O,U⟩:=zr1 xs i (by rw[h.len];exact hi);have c:=h.row.cells (g:=g) (by rw[q];rfl);have c1:=c _ _ O;have c2:=c _ _ U;rw[qP,qT] at c1 c2;exact⟨c1,c2⟩
theorem HdX.znp {w:World}{hb:Nat}{mark:Int}{S:List Sr}{v:Value}{xs:List (Value×Value)}(h:HdX w hb mark S v xs):z0a w 0 v S:=⟨xs,h.len,h.row,λi hi=>⟨h.labs i hi,h.smps i hi⟩⟩
def z9w (w:World)(Z:Nat->Prop)(h:Option Addr)(l:List LB.Lab):Prop:=z1w w h l/\∀a,h=some a->0<l.length->¬Z a.block
def z9x (w:World)(Z:Nat->Prop)(h:Option Addr)(l:List CL.Smp):Prop:=z1I w h l/\∀a,h=some a->0<l.length->¬Z a.block
def z0z (w:World)(Z:Nat->Prop)(h:Option Addr)(l:List Sr):Prop:=
 ∀i,i<l.length->∃b off,h=some ⟨b,off,none⟩/\b<w.heap.size/\¬Z b/\∃lo lc so sc,w.cell? ⟨b,off+i*2,none⟩=some (.slice lo (z03 l i).1.length lc)/\w.cell? ⟨b,off+i*2+1,none⟩=some (.slice so (z03 l i).2.length sc)/\z9w w Z lo (z03 l i).1/\z9x w Z so (z03 l i).2
theorem z0z.row {w:World}{Z:Nat->Prop}{q:Option Addr}{l:List Sr}(h:z0z w Z q l):z0r w q l:=by
 intro i hi;obtain⟨b,off,G,J,_,lo,O,so,sc,U,V,Y,h6⟩:=h i hi;exact⟨b,off,G,J,lo,O,so,sc,U,V,Y.1,h6.1⟩
theorem zbn {Z:Nat->Prop}{w w':World}(h:ZFr Z w w'){b o:Nat}(hb:b<w.heap.size)(q:¬Z b):w'.cell? ⟨b,o,none⟩=w.cell? ⟨b,o,none⟩:=qj (a:=⟨b,o,none⟩) (h.block b hb q)
theorem z9w.kept {w w':World}{Z:Nat->Prop}{J:Option Addr}{l:List LB.Lab}(h:z9w w Z J l)(q:ZFr Z w w'):z9w w' Z J l:=by
 refine⟨λi hi=>?_,h.2⟩;obtain⟨b,off,O,V,Y,G⟩:=h.1 i hi;have U:¬Z b:=h.2 _ O (by omega);exact⟨b,off,O,(zbn q G U).trans V,(zbn q G U).trans Y,qe G q.size⟩
theorem z9x.kept {w w':World}{Z:Nat->Prop}{J:Option Addr}{l:List CL.Smp}(h:z9x w Z J l)(q:ZFr Z w w'):z9x w' Z J l:=by
 refine⟨λi hi=>?_,h.2⟩;obtain⟨b,off,O,V,Y,G⟩:=h.1 i hi;have U:¬Z b:=h.2 _ O (by omega);exact⟨b,off,O,(zbn q G U).trans V,(zbn q G U).trans Y,qe G q.size⟩
theorem z0z.kept {w w':World}{Z:Nat->Prop}{O:Option Addr}{l:List Sr}(h:z0z w Z O l)(q:ZFr Z w w'):z0z w' Z O l:=by
 intro i hi;obtain⟨b,off,U,G,J,lo,V,so,sc,Y,h4,h5,h6⟩:=h i hi;exact⟨b,off,U,qe G q.size,J,lo,V,so,sc,(zbn q G J).trans Y,(zbn q G J).trans h4,h5.kept q,h6.kept q⟩
theorem z0z.wide {w:World}{Z Z':Nat->Prop}{Y:Option Addr}{l:List Sr}(h:z0z w Z Y l)(hz:∀j,Z' j->Z j\/w.heap.size<=j):z0z w Z' Y l:=by
 intro i hi;obtain⟨b,off,h1,h2,hn,lo,lc,so,sc,h3,h4,J,O⟩:=h i hi;have key:∀j,j<w.heap.size->¬Z j->¬Z' j:=λj hj U e=>by
  rcases hz j e with e|e
  .exact U e
  .omega
 refine⟨b,off,h1,h2,key b h2 hn,lo,lc,so,sc,h3,h4,⟨J.1,λa q G=>?_⟩,⟨O.1,λa q G=>?_⟩⟩
 .obtain⟨b',_,e,_,_,V⟩:=J.1 0 G;rw[q] at e;cases e;exact key _ V (J.2 _ q G)
 .obtain⟨b',_,e,_,_,V⟩:=O.1 0 G;rw[q] at e;cases e;exact key _ V (O.2 _ q G)
theorem z0z.z08 {w:World}{q:Nat}{Z:Nat->Prop}{v:Value}{l:List Sr}(h:z0a w q v l)(Y:∀j,Z j->j<q):∃ao cap,v= .slice ao l.length cap/\z0z w Z ao l:=by
 obtain⟨xs,h1,h2,h3⟩:=h;have key:∀j,q<=j->¬Z j:=λj hj e=>by have:=Y j e;omega
 rcases hb:h2.2 with⟨G,hn⟩|⟨g,cap,A1,G,hg,hc,_⟩
 .exact⟨none,0,by rw[G,hn],λi hi=>by omega⟩
 .refine⟨some ⟨g,0,none⟩,cap,G,λi hi=>⟨g,0,rfl,z00 hc,key g hg,?_⟩⟩;obtain⟨k1,O⟩:=h3 i hi;obtain⟨lo,lc,U,r1⟩:=z1w.z08 k1;obtain⟨so,sc,V,r2⟩:=z1I.z08 O;obtain⟨q1,q2⟩:=zr1 xs i (by omega);have c:=h2.cells (g:=g) (by rw[G];rfl);have c1:=c _ _ q1;have c2:=c _ _ q2;rw[qP,qT] at c1 c2;refine⟨lo,lc,so,sc,?_,?_,⟨r1,λa J _=>?_⟩,⟨r2,λa J _=>?_⟩⟩
  .rw[qT,c1];exact congrArg some U
  .rw[qT,c2];exact congrArg some V
  .exact key _ (k1.lt a.block (by rw[U,J];rfl)).1
  .exact key _ (O.lt a.block (by rw[V,J];rfl)).1
theorem z0z.z6x {w:World}{Z:Nat->Prop}{O:Option Addr}{l:List Sr}(h:z0r w O l)(hz:∀j,Z j->w.heap.size<=j):z0z w Z O l:=by
 have key:∀j,j<w.heap.size->¬Z j:=λj hj e=>by have:=hz j e;omega
 intro i hi;obtain⟨b,off,h1,U,lo,lc,so,sc,h3,h4,V,Y⟩:=h i hi;refine⟨b,off,h1,U,key b U,lo,lc,so,sc,h3,h4,⟨V,λa q G=>?_⟩,⟨Y,λa q G=>?_⟩⟩
 .obtain⟨b',_,e,_,_,J⟩:=V 0 G;rw[q] at e;cases e;exact key _ J
 .obtain⟨b',_,e,_,_,J⟩:=Y 0 G;rw[q] at e;cases e;exact key _ J
theorem zdQ {w:World}{V:Option Addr}{l:List LB.Lab}(h:z1w w V l):∀J,V=some J->∀j u,(lv l)[j]? =some u->w.cell? (J.add j)=some u:=by
 intro J O j u q;have U:j<(lv l).length:=(eE.1 q).1;rw[zaW] at U;obtain⟨b,off,e,c0,c1,A1⟩:=h (j/2) (by omega);rw[O] at e;obtain rfl:=qt e;obtain⟨Y,g1⟩:=zhi l (j/2) (by omega);rw[qP];rcases yp j with hp|hp
 .have G:j/2*2=j:=by omega
  rw[G] at Y c0;rw[Y] at q;rw[<-q];exact c0
 .have G:j/2*2+1=j:=by omega
  rw[yG,G] at c1;rw[G] at g1;rw[g1] at q;rw[<-q];exact c1
theorem z9N {w:World}{V:Option Addr}{l:List CL.Smp}(h:z1I w V l):∀J,V=some J->∀j u,(sv l)[j]? =some u->w.cell? (J.add j)=some u:=by
 intro J O j u q;have U:j<(sv l).length:=(eE.1 q).1;rw[z1d] at U;obtain⟨b,off,e,c0,c1,A1⟩:=h (j/2) (by omega);rw[O] at e;obtain rfl:=qt e;obtain⟨Y,g1⟩:=z6Y l (j/2) (by omega);rw[qP];rcases yp j with hp|hp
 .have G:j/2*2=j:=by omega
  rw[G] at Y c0;rw[Y] at q;rw[<-q];exact c0
 .have G:j/2*2+1=j:=by omega
  rw[yG,G] at c1;rw[G] at g1;rw[g1] at q;rw[<-q];exact c1
theorem zmZ (l:List LB.Lab):∀u∈lv l,u.oneCell'=true:=by
 intro u h;simp only[lv,yM,qg,iV,or_false] at h;obtain⟨s,_,rfl|rfl⟩:=h<;>rfl
theorem zkh (l:List CL.Smp):∀u∈sv l,u.oneCell'=true:=by
 intro u h;simp only[sv,yM,qg,iV,or_false] at h;obtain⟨s,_,rfl|rfl⟩:=h<;>rfl
theorem z8M {w:World}{q n G:Nat}{e:qn}{v:Value}{xs:List Value}(h:w.ownsRow q e G v n xs):v.oneCell'=true:=by
 obtain⟨J,cap,rfl⟩:=z02 h;rfl
theorem HdX.one {w:World}{hb:Nat}{mark:Int}{S:List Sr}{v:Value}{xs:List (Value×Value)}(h:HdX w hb mark S v xs):∀u∈zr2 xs,u.oneCell'=true:=by
 intro u q;obtain⟨p,J,q⟩:=yM.1 q;obtain⟨i,hi,e⟩:=eI.1 J;have G:atX xs i=p:=by
  unfold atX;rw[q7,qw hi];exact e
 rw[h.len] at hi;rcases qg.1 q with rfl|q
 .rw[<-G];exact z8M (h.labs i hi)
 .rcases qg.1 q with rfl|q
  .rw[<-G];exact z8M (h.smps i hi)
  .cases q
theorem zky {W:World}{h b1 b2 q:Nat}{n s:ByteArray}{t v:Int}(O:W.heap[b1]? =some (.cells #[.string n,.string s] 107)) (U:W.heap[b2]? =some (.cells #[.int .i64 t,.int .i64 v] 98)) (V:W.heap[q]? =some (.cells #[.slice (some ⟨b1,0,none⟩) 1 1,.slice (some ⟨b2,0,none⟩) 1 1] 93)) (Y:h<=b1) (k2:h<=b2) (k3:h<=q):
  z0a W h (.slice (some ⟨q,0,none⟩) 1 1) [([(n,s)],[(t,v)])]:=by
 have G:1<=maxLen:=by unfold qS;omega
 refine⟨[(.slice (some ⟨b1,0,none⟩) 1 1,.slice (some ⟨b2,0,none⟩) 1 1)],rfl,⟨rfl,.inr ⟨q,1,_,rfl,k3,V,qq _,G,rfl,rfl⟩⟩,λi hi=>?_⟩;have J:i=0:=by simp at hi;omega
 subst J;exact⟨⟨rfl,.inr ⟨b1,1,_,rfl,Y,O,qq _,G,rfl,rfl⟩⟩,⟨rfl,.inr ⟨b2,1,_,rfl,k2,U,qq _,G,rfl,rfl⟩⟩⟩
theorem zh5 (w:World)(h q G:Obj):(((w.alloc h).alloc q).alloc G).heap[w.heap.size]? =some h/\(((w.alloc h).alloc q).alloc G).heap[w.heap.size+1]? =some q/\(((w.alloc h).alloc q).alloc G).heap[w.heap.size+1+1]? =some G:=by
 have J:(w.alloc h).heap.size=w.heap.size+1:=by simp
 have O:((w.alloc h).alloc q).heap.size=w.heap.size+1+1:=by simp
 refine⟨?_,?_,?_⟩
 .rw[Below.heap_alloc _ G _ (by omega),Below.heap_alloc _ q _ (by omega)];exact qu w h
 .rw[Below.heap_alloc _ G _ (by omega)];have:=qu (w.alloc h) q;rwa[J] at this
 .have:=qu ((w.alloc h).alloc q) G;rwa[O] at this
end
section
open Go.RowKit
theorem zfO (a:Addr)(n c:Nat)(w:World):(binOp .eql 90 (.slice (some a) n c) (.slice none 0 0)).run q6 w= .ok (.bool false) w:=by kernel_rfl
theorem Tryz.infoCL:(q6.info? 107).map (λi=>(i.zero,i.size,i.bytes))=some (some (.agg #[.string ⟨#[]⟩,.string ⟨#[]⟩]),2,32):=by kernel_rfl
theorem Tryz.uCL:q6.underlying 90=some (.slice 107):=by kernel_rfl
theorem zn5 (G:Addr)(m c:Nat)(news:List Value)(w:World)(hl:news.length=m*2)(hc:∀j u,news[j]? =some u->w.cell? (G.add j)=some u)(hb:G.block<w.heap.size)(V:∀u∈news,u.oneCell'=true)(hm:m<=1000000):
  Calls q6 45 #[.slice (some G) m c] w λen w'=>∃v',en= .returned v'/\w'.ownsRow w.heap.size 107 2 v' m news/\Below w.heap.size w w':=by
 obtain⟨i,hi,J,O,U⟩:=uP Tryz.infoCL;have A5:=zfO G m c;have HC:=hid hc;have Y:=hid hi;have A1:=hid J;have A2:=hid O;have A3:=hid U;have HL:=hid hl;have H1:=hid V;clear hc hi J O U hl V;go_enter func45,ntmps45;have HO:Hid ((w.alloc (.cells #[] 107)).ownsRow w.heap.size 107 2 (.slice (some ⟨w.heap.size,0,none⟩) 0 0) 0 []):=⟨rfl,.inr ⟨w.heap.size,0,#[],rfl,qq _,qu w _,qq _,by unfold qS;omega,rfl,rfl⟩⟩;have HN:Hid (∀j u,news[j]? =some u->(w.alloc (.cells #[] 107)).cell? (G.add j)=some u):=λj u hj=>by
  have V:=HC.out j u hj;have A4:(G.add j).block=G.block:=by unfold rz;split<;>rfl
  exact(qj (w:=w) (w':=w.alloc (.cells #[] 107)) (a:=G.add j) (by rw[A4];exact Below.heap_alloc w _ G.block hb)).trans V
 go_wp2_with (at_builtin;refine rB _ rfl (.tmp 5) (.tmp 6) 90 rfl w.heap.size 107 i (.agg #[.string ⟨#[]⟩,.string ⟨#[]⟩]) 2 32 Tryz.uCL Y.out A1.out A2.out A3.out rfl (by decide) _ 0 [] rfl HO.out G m c news rfl HL.out HN.out H1.out (by unfold qS;omega) (by omega) (by simp) ?_)
 intro v' w1 h q _;have HQ:Hid (w1.ownsRow w.heap.size 107 2 v' m news/\Below w.heap.size w w1):=by
  refine⟨by simpa using h,((Below.refl w.heap.size w).alloc (qq _) (.cells #[] 107)).grown q (by simp) (λj hj=>by cases hj;exact qq _)⟩
 obtain⟨ao,c',rfl⟩:=z02 h;clear h q HO HN HL;go_wp2_with fail;go_ret;exact⟨_,rfl,HQ.out.1,HQ.out.2⟩
theorem zgM (a:Addr)(n c:Nat)(w:World):(binOp .eql 91 (.slice (some a) n c) (.slice none 0 0)).run q6 w= .ok (.bool false) w:=by kernel_rfl
theorem Tryz.infoCS:(q6.info? 98).map (λi=>(i.zero,i.size,i.bytes))=some (some (.agg #[.int .i64 0,.int .i64 0]),2,16):=by kernel_rfl
theorem Tryz.uCS:q6.underlying 91=some (.slice 98):=by kernel_rfl
theorem zmL (G:Addr)(m c:Nat)(news:List Value)(w:World)(hl:news.length=m*2)(hc:∀j u,news[j]? =some u->w.cell? (G.add j)=some u)(hb:G.block<w.heap.size)(V:∀u∈news,u.oneCell'=true)(hm:m<=1000000):
  Calls q6 92 #[.slice (some G) m c] w λen w'=>∃v',en= .returned v'/\w'.ownsRow w.heap.size 98 2 v' m news/\Below w.heap.size w w':=by
 obtain⟨i,hi,J,O,U⟩:=uP Tryz.infoCS;have A5:=zgM G m c;have HC:=hid hc;have Y:=hid hi;have A1:=hid J;have A2:=hid O;have A3:=hid U;have HL:=hid hl;have H1:=hid V;clear hc hi J O U hl V;go_enter func92,ntmps92;have HO:Hid ((w.alloc (.cells #[] 98)).ownsRow w.heap.size 98 2 (.slice (some ⟨w.heap.size,0,none⟩) 0 0) 0 []):=⟨rfl,.inr ⟨w.heap.size,0,#[],rfl,qq _,qu w _,qq _,by unfold qS;omega,rfl,rfl⟩⟩;have HN:Hid (∀j u,news[j]? =some u->(w.alloc (.cells #[] 98)).cell? (G.add j)=some u):=λj u hj=>by
  have V:=HC.out j u hj;have A4:(G.add j).block=G.block:=by unfold rz;split<;>rfl
  exact(qj (w:=w) (w':=w.alloc (.cells #[] 98)) (a:=G.add j) (by rw[A4];exact Below.heap_alloc w _ G.block hb)).trans V
 go_wp2_with (at_builtin;refine rB _ rfl (.tmp 5) (.tmp 6) 91 rfl w.heap.size 98 i (.agg #[.int .i64 0,.int .i64 0]) 2 16 Tryz.uCS Y.out A1.out A2.out A3.out rfl (by decide) _ 0 [] rfl HO.out G m c news rfl HL.out HN.out H1.out (by unfold qS;omega) (by omega) (by simp) ?_)
 intro v' w1 h q _;have HQ:Hid (w1.ownsRow w.heap.size 98 2 v' m news/\Below w.heap.size w w1):=by
  refine⟨by simpa using h,((Below.refl w.heap.size w).alloc (qq _) (.cells #[] 98)).grown q (by simp) (λj hj=>by cases hj;exact qq _)⟩
 obtain⟨ao,c',rfl⟩:=z02 h;clear h q HO HN HL;go_wp2_with fail;go_ret;exact⟨_,rfl,HQ.out.1,HQ.out.2⟩
theorem zh3 (a:Addr)(n c:Nat)(w:World):(binOp .eql 39 (.slice (some a) n c) (.slice none 0 0)).run q6 w= .ok (.bool false) w:=by kernel_rfl
theorem zhm (w:World):(binOp .eql 39 (.slice none 0 0) (.slice none 0 0)).run q6 w= .ok (.bool true) w:=by kernel_rfl
theorem Tryz.infoCX:(q6.info? 93).map (λi=>(i.zero,i.size,i.bytes))=some (some (.agg #[.slice none 0 0,.slice none 0 0]),2,48):=by kernel_rfl
theorem Tryz.uCX:q6.underlying 39=some (.slice 93):=by kernel_rfl
theorem zmb (G:Addr)(m c:Nat)(news:List Value)(w:World)(hl:news.length=m*2)(hc:∀j u,news[j]? =some u->w.cell? (G.add j)=some u)(hb:G.block<w.heap.size)(V:∀u∈news,u.oneCell'=true)(hm:m<=1000000):
  Calls q6 101 #[.slice (some G) m c] w λen w'=>∃v',en= .returned v'/\w'.ownsRow w.heap.size 93 2 v' m news/\Below w.heap.size w w':=by
 obtain⟨i,hi,J,O,U⟩:=uP Tryz.infoCX;have A5:=zh3 G m c;have HC:=hid hc;have Y:=hid hi;have A1:=hid J;have A2:=hid O;have A3:=hid U;have HL:=hid hl;have H1:=hid V;clear hc hi J O U hl V;go_enter func101,ntmps101;have HO:Hid ((w.alloc (.cells #[] 93)).ownsRow w.heap.size 93 2 (.slice (some ⟨w.heap.size,0,none⟩) 0 0) 0 []):=⟨rfl,.inr ⟨w.heap.size,0,#[],rfl,qq _,qu w _,qq _,by unfold qS;omega,rfl,rfl⟩⟩;have HN:Hid (∀j u,news[j]? =some u->(w.alloc (.cells #[] 93)).cell? (G.add j)=some u):=λj u hj=>by
  have V:=HC.out j u hj;have A4:(G.add j).block=G.block:=by unfold rz;split<;>rfl
  exact(qj (w:=w) (w':=w.alloc (.cells #[] 93)) (a:=G.add j) (by rw[A4];exact Below.heap_alloc w _ G.block hb)).trans V
 go_wp2_with (at_builtin;refine rB _ rfl (.tmp 5) (.tmp 6) 39 rfl w.heap.size 93 i (.agg #[.slice none 0 0,.slice none 0 0]) 2 48 Tryz.uCX Y.out A1.out A2.out A3.out rfl (by decide) _ 0 [] rfl HO.out G m c news rfl HL.out HN.out H1.out (by unfold qS;omega) (by omega) (by simp) ?_)
 intro v' w1 h q _;have HQ:Hid (w1.ownsRow w.heap.size 93 2 v' m news/\Below w.heap.size w w1):=by
  refine⟨by simpa using h,((Below.refl w.heap.size w).alloc (qq _) (.cells #[] 93)).grown q (by simp) (λj hj=>by cases hj;exact qq _)⟩
 obtain⟨ao,c',rfl⟩:=z02 h;clear h q HO HN HL;go_wp2_with fail;go_ret;exact⟨_,rfl,HQ.out.1,HQ.out.2⟩
theorem zbI (w:World):
  Calls q6 101 #[.slice none 0 0] w λh w'=>h= .returned (.slice none 0 0)/\w'=w:=by
 have q:=zhm;go_enter func101,ntmps101;go_wp2;go_ret;exact⟨rfl,rfl⟩
end
section
open Go.RowKit
theorem zbY (x:ByteArray)(w:World):Calls q6 142 #[.string x] w λe w'=>e= .returned (.bool false)/\w'=w:=by
 go_enter func142,ntmps142;go_wp2;go_ret;exact⟨rfl,rfl⟩
theorem z6G (x y:ByteArray)(w:World):Calls q6 91 #[.string x,.string y] w λe w'=>e= .returned (.int .i64 (LB.cB x y))/\w'=w:=by
 have h:=LB.beq_eq x y;by_cases J:Op.bytesLess x.toList y.toList=true
 .have G:Hid (LB.cB x y= -1):=by unfold LB.cB;rw[if_pos J];rfl
  clear h;go_enter func91,ntmps91;go_wp2_with (go_at_call 142;refine(zbY _ _).mono ?_;rintro e w' ⟨rfl,rfl⟩)
  go_ret;exact⟨z0G G.out.symm,rfl⟩
 .by_cases q:x=y
  .have G:Hid (LB.cB x y=0):=by unfold LB.cB;rw[if_neg J,if_pos q];rfl
   have O:(x.toList==y.toList)=true:=by rw[h,decide_eq_true q]
   clear h q;go_enter func91,ntmps91;go_wp2_with (go_at_call 142;refine(zbY _ _).mono ?_;rintro e w' ⟨rfl,rfl⟩)
   go_ret;exact⟨z0G G.out.symm,rfl⟩
  .have G:Hid (LB.cB x y=1):=by unfold LB.cB;rw[if_neg J,if_neg q];rfl
   have U:(x.toList==y.toList)=false:=by rw[h,decide_eq_false q]
   clear h q;go_enter func91,ntmps91;go_wp2_with (go_at_call 142;refine(zbY _ _).mono ?_;rintro e w' ⟨rfl,rfl⟩)
   go_ret;exact⟨z0G G.out.symm,rfl⟩
theorem zmQ (b cap:Nat)(p q:Int)(w:World)(U:w.cell? ⟨b,0,none⟩=some (.int .i64 p))(V:w.cell? ⟨b,1,none⟩=some (.int .i64 q)):
  Calls q6 90 #[.slice (some ⟨b,0,none⟩) 2 cap] w λe w'=>e= .returned (.int .i64 (if p=0 then q else p))/\w'=w:=by
 generalize hB:(if p=0 then q else p)=B;have Y:=hid hB;clear hB;have H0:=hid U;have H1:=hid V;clear U V;go_enter func90,ntmps90;go_wp2;go_loopw [8] (λti wr=>∃i:Nat,i<=2/\ti= .int .i64 i/\wr=w/\(0<i->p=0)/\(1<i->q=0)) (λti _=>2-(intOf ti).toNat)
 case atStart=>exact⟨0,by omega,rfl,rfl,by omega,by omega⟩
 case round=>
  obtain⟨i,hi,rfl,rfl,hp,hq⟩:=hrel;have HP:=hid hp;have HQ:=hid hq;clear hp hq;have h3:i=0\/i=1\/i=2:=by omega
  rcases h3 with rfl|rfl|rfl
  .have U:=H0.out;by_cases h:p=0
   .have J:(p==0)=true:=by rw[h];rfl
    have G:=hid h;clear h;go_wp2;go_roundw
    case rel=>exact⟨1,by omega,by go_num,by trivial,λ_=>G.out,by omega⟩
    case measure=>simp[intOf]
   .have J:(p==0)=false:=by rw[beq_eq_false_iff_ne];exact h
    have G:Hid (B=p):=by show _=_;rw[<-Y.out,if_neg h]
    clear h;go_wp2;go_ret;exact⟨z0G G.out.symm,rfl⟩
  .have V:=H1.out;have O:=hid (HP.out (by omega));by_cases h:q=0
   .have J:(q==0)=true:=by rw[h];rfl
    have G:=hid h;clear h;go_wp2;go_roundw
    case rel=>exact⟨2,by omega,by go_num,by trivial,λ_=>O.out,λ_=>G.out⟩
    case measure=>simp[intOf]
   .have J:(q==0)=false:=by rw[beq_eq_false_iff_ne];exact h
    have G:Hid (B=q):=by show _=_;rw[<-Y.out,if_pos O.out]
    clear h;go_wp2;go_ret;exact⟨z0G G.out.symm,rfl⟩
  .have G:Hid (B=0):=by show _=_;rw[<-Y.out,if_pos (HP.out (by omega))];exact HQ.out (by omega)
   go_wp2;go_ret;exact⟨z0G G.out.symm,rfl⟩
theorem zje (p q:LB.Lab)(w:World):
  Calls q6 89 #[.agg #[.string p.1,.string p.2],.agg #[.string q.1,.string q.2]] w λe w'=>e= .returned (.int .i64 (LB.cL p q))/\Below w.heap.size w w':=by
 have V:Hid (LB.cL p q=if LB.cB p.1 q.1=0 then LB.cB p.2 q.2 else LB.cB p.1 q.1):=rfl;generalize LB.cL p q=B at*;obtain⟨h,G⟩:=p;obtain⟨J,O⟩:=q;go_enter func89,ntmps89;go_wp2_with fail;have hb:Below w.heap.size w ((w.alloc (.cells #[.string h,.string G] 107)).alloc (.cells #[.string J,.string O] 107)):=((Below.refl _ w).alloc (qq _) _).alloc (by simp) _;have c0:((w.alloc (.cells #[.string h,.string G] 107)).alloc (.cells #[.string J,.string O] 107)).cell? ⟨w.heap.size,0,none⟩=some (.string h):=by simp
 have c1:((w.alloc (.cells #[.string h,.string G] 107)).alloc (.cells #[.string J,.string O] 107)).cell? ⟨w.heap.size,1,none⟩=some (.string G):=by simp
 have c2:((w.alloc (.cells #[.string h,.string G] 107)).alloc (.cells #[.string J,.string O] 107)).cell? ⟨w.heap.size+1,0,none⟩=some (.string J):=by simp
 have c3:((w.alloc (.cells #[.string h,.string G] 107)).alloc (.cells #[.string J,.string O] 107)).cell? ⟨w.heap.size+1,1,none⟩=some (.string O):=by simp
 have Y:=hid hb;have U:=hb.size;clear hb;generalize (w.alloc (.cells #[.string h,.string G] 107)).alloc (.cells #[.string J,.string O] 107)=w3 at*;refine wp_region_still_tail 10 (by kernel_rfl) (by kernel_rfl) ?_;simp only[List.take_succ_cons,List.take_zero,List.drop_succ_cons,List.drop_zero]
 iterate 4 still_step
 still_call (z6G _ _ _)
 iterate 4 still_step
 still_call (z6G _ _ _)
 refine yT ?_;go_wp2_with fail;refine(zmQ w3.heap.size 2 (LB.cB h J) (LB.cB G O) _ (by simp) (by simp)).mono ?_;rintro e w' ⟨rfl,rfl⟩;rw[<-V.out];go_wp2_with fail;go_ret;exact⟨rfl,z0k (Y.out.alloc U _) 1⟩
theorem z7p (ao bo:Option Addr)(a b:List LB.Lab)(ca cb:Nat)(w:World)(hA:z1w w ao a)(hB:z1w w bo b)(ha:a.length<=1000)(hb:b.length<=1000):
  Calls q6 88 #[.slice ao a.length ca,.slice bo b.length cb,.func (.func 89) #[] #[]] w λe w'=>e= .returned (.int .i64 (LB.cmp a b))/\Below w.heap.size w w':=by
 generalize hC:LB.cmp a b=C;have HC:=hid hC;have HA:=hid hA;have Ak:=hid hB;clear hC hA hB;go_enter func88,ntmps88;go_wp2;go_loopw [13] (λti wr=>∃i:Nat,i<=a.length/\i<=b.length/\ti= .int .i64 i/\Below w.heap.size w wr/\∀j,j<i->LB.cL (LB.at' a j) (LB.at' b j)=0) (λti _=>a.length-(intOf ti).toNat)
 case atStart=>exact⟨0,by omega,by omega,rfl,Below.refl _ _,by omega⟩
 case round=>
  obtain⟨i,hi,Ar,rfl,J,A4⟩:=hrel;have HO:=hid A4;have G:=hid J;have A5:=J.size;clear A4 J;by_cases A3:i<a.length
  .obtain⟨b1,off,Al,A6,A7,A8⟩:=HA.out i A3;subst Al;have Ag:=(G.out.cell (p:=⟨b1,off+i*2,none⟩) A8).trans A6;have Ah:=(G.out.cell (p:=⟨b1,off+i*2+1,none⟩) A8).trans A7;clear A6 A7;by_cases V:i<b.length
   .obtain⟨b2,A1,Am,A9,Ac,A2⟩:=Ak.out i V;subst Am;have Au:b2<wr.heap.size:=by omega
    have Ai:=(G.out.cell (p:=⟨b2,A1+i*2,none⟩) A2).trans A9;have Aj:=(G.out.cell (p:=⟨b2,A1+i*2+1,none⟩) A2).trans Ac;clear A9 Ac;have Y:Hid (LB.cL (LB.at' a i) (LB.at' b i)≠0->C=LB.cL (LB.at' a i) (LB.at' b i)):=λh=>by rw[<-HC.out];exact LB.zmY a b i A3 V HO.out h
    have HN:Hid (LB.cL (LB.at' a i) (LB.at' b i)=0->∀j,j<i+1->LB.cL (LB.at' a j) (LB.at' b j)=0):=λh j hj=>by
     by_cases he:j=i
     .subst he;exact h
     .exact HO.out j (by omega)
    have O:=λW=>zje (LB.at' a i) (LB.at' b i) W
    generalize LB.cL (LB.at' a i) (LB.at' b i)=c at*;generalize LB.at' a i=p at*;generalize LB.at' b i=q at*;have Ad:=hid O;clear O;obtain⟨p1,p2⟩:=p;obtain⟨q1,q2⟩:=q;have U:¬(b.length:Int)<=(i:Int):=by omega
    go_wp2_with fail;refine(Ad.out _).mono ?_;rintro e w' ⟨rfl,Ae⟩;have Af:=hid ((((G.out.alloc A5 _).alloc (by simp;omega) _)).trans (Ae.mono (by simp;omega)));clear Ae Ad;by_cases hz:c=0
    .have Ao:(c==0)=true:=by rw[hz];rfl
     have Ap:=hid (HN.out hz);clear hz Y HN;go_wp2_with fail;go_roundw
     case rel=>exact⟨i+1,by omega,by omega,by go_num,Af.out,Ap.out⟩
     case measure=>simp[intOf];omega
    .have Ao:(c==0)=false:=by rw[beq_eq_false_iff_ne];exact hz
     have Aq:=hid (Y.out hz);clear hz Y HN;go_wp2_with fail;go_ret;exact⟨z0G Aq.out.symm,Af.out⟩
   .have U:(b.length:Int)<=(i:Int):=by omega
    have Y:Hid (C=1):=by
     show _=_;rw[<-HC.out];exact LB.ziF a b i A3 (by omega) HO.out
    generalize LB.at' a i=p at*;obtain⟨p1,p2⟩:=p;go_wp2_with fail;go_ret;exact⟨z0G Y.out.symm,G.out.alloc A5 _⟩
  .have he:i=a.length:=by omega
   by_cases V:a.length<b.length
   .have U:(a.length:Int)<(b.length:Int):=by omega
    have Y:Hid (C= -1):=by
     show _=_;rw[<-HC.out];exact LB.zf1 a b V (λj hj=>HO.out j (by omega))
    subst he;go_wp2;go_ret;exact⟨z0G Y.out.symm,G.out⟩
   .have U:¬(a.length:Int)<(b.length:Int):=by omega
    have Y:Hid (C=0):=by
     show _=_;rw[<-HC.out];exact LB.zcp a b (by omega) (λj hj=>HO.out j (by omega))
    subst he;go_wp2;go_ret;exact⟨z0G Y.out.symm,G.out⟩
theorem z3X (q G:Option Addr)(a b:List LB.Lab)(J O:Nat)(w:World)(U:z1w w q a)(V:z1w w G b)(ha:a.length<=1000)(hb:b.length<=1000):
  Calls q6 39 #[.slice q a.length J,.slice G b.length O] w λe w'=>e= .returned (.int .i64 (LB.cmp a b))/\Below w.heap.size w w':=by
 have Y:=hid (z7p q G a b J O w U V ha hb);clear U V;go_enter func39,ntmps39;go_wp2_with fail;refine Y.out.mono ?_;rintro e w' ⟨rfl,h⟩;have HB:=hid h;clear h Y;go_wp2_with fail;go_ret;exact⟨rfl,HB.out⟩
end
end Go.Proofs.YtemeblgngidldaaGreatDoor
