/- Texts put together and made smaller by program: DkNum DkMemS DkFnS DkAddS DkDoS WlNum WlIsS WlRepS SoName CwAll. -/
import Derived.Test.YtemeblgngidldaaGreatDoorPC04
import Derived.Stop.Asserts
import Derived.RowKitTokens
import Derived.Test.YtemeblgngidldaaGreatDoorShelfO
import Derived.Lib.UnsafeStr
set_option linter.unusedVariables false
set_option linter.unusedSimpArgs false
set_option maxRecDepth 100000
set_option maxHeartbeats 12800000
open Array renaming length_toList->qE,toList_extract->wB
open ByteArray renaming empty->qy,size_extract->eD,size_append->qC,data_extract->wA
open Go renaming Program->rM,TypeId->qn,run_convert_bytes_string->iR,run_convert_bytes_back->iK,maxLen->qS,heap_setCell_same->qo,heap_alloc_new->qu,Ending->rO,info_parts->uP,run_typeAssert_lacksB->yU,run_underlying->pr,run_callFunc_extern->qU,wp_loop_rounds->oF
open Go.Act renaming eval->yB
open Go.BinOp renaming eql->oD
open Go.Builtin renaming delete_->yc
open Go.Conv renaming bytesToString->iA
open Go.Instr renaming typeAssert->yy
open Go.IntKind renaming i64->qW,wrap_i64->qY,wrap_u8->eO
open Go.Lib renaming strCells->wW,hasPrefix->oL,byteCells->qH
open Go.Obj renaming cells->uR
open Go.Obj.cells renaming injEq->rI
open Go.Op renaming equalIn->pA
open Go.Oper renaming wp->oy
open Go.Region renaming wanted->wy
open Go.World renaming cell?->qs,frozen?->wz
open Go.World.grownBy renaming refl->iT
open List renaming getElem?_map->qZ,getElem?_eq_getElem->qw,length_cons->qf,extract_eq_take_drop->rb,length->uY,length_append->q8,take_of_length_le->qL,append_assoc->qm,take_add_one->wJ,getD_eq_getElem?_getD->q7
open List.cons renaming inj->tw
open Nat renaming le_trans->qi,le_refl->qq,zero_le->qh,le_add_right->ou,lt_of_lt_of_le->qe,le_succ->wP,add_sub_cancel_left->uM
open Option renaming map_none->ue,map_some->rK
open Option.some renaming inj->qt,injEq->qR
open UInt8 renaming ofNat->qX,toNat_ofNat'->wi,ofNat_toNat->iD
open Go.Proofs.Tryz renaming prog->q6
open Go.Proofs.Tryz
namespace Go.Proofs.YtemeblgngidldaaGreatDoor
namespace DK
structure Fl where
 b:ByteArray
 s:Nat
 k:Bool
abbrev M:=ByteArray->Option Fl
def put (D:M)(n:ByteArray)(f:Fl):M:=λm=>if m=n then some f else D m
def del (D:M)(n:ByteArray):M:=λm=>if m=n then none else D m
theorem put_same (D:M)(n:ByteArray)(f:Fl):put D n f n=some f:=by unfold put;rw[if_pos rfl]
theorem z0b (D:M)(n m:ByteArray)(f:Fl)(h:m≠n):put D n f m=D m:=by unfold put;rw[if_neg h]
theorem z2k (D:M)(n:ByteArray):del D n n=none:=by unfold del;rw[if_pos rfl]
theorem z0A (D:M)(n m:ByteArray)(h:m≠n):del D n m=D m:=by unfold del;rw[if_neg h]
theorem put_put (D:M)(n:ByteArray)(f g:Fl):put (put D n f) n g=put D n g:=by
 funext m
 unfold put;by_cases h:m=n
 .rw[if_pos h,if_pos h]
 .rw[if_neg h,if_neg h,if_neg h]
theorem ziW (D:M)(n:ByteArray)(f:Fl)(h:D n=some f):put D n f=D:=by
 funext m
 unfold put;by_cases e:m=n
 .rw[if_pos e,e,h]
 .rw[if_neg e]
theorem z8e:qy.size=0:=rfl
def new:Fl:=⟨qy,0,false⟩
def Fine (N:Nat)(D:M):Prop:=∀n f,D n=some f->(1<=n.size/\n.size<=60)/\f.b.size<=N/\f.s<=f.b.size/\(f.k=false->f.s=0)
theorem Fine.mono {N N':Nat}{D:M}(h:Fine N D)(q:N<=N'):Fine N' D:=λn f G=>by
 obtain⟨J,O,U,V⟩:=h n f G;exact⟨J,qi O q,U,V⟩
theorem Fine.none (N:Nat):Fine N λ_=>none:=λn f h=>by cases h
theorem Fine.put {N:Nat}{D:M}(h:Fine N D){n:ByteArray}(G:1<=n.size/\n.size<=60){f:Fl}(hb:f.b.size<=N)(J:f.s<=f.b.size)(O:f.k=false->f.s=0):Fine N (put D n f):=by
 intro m g q;by_cases e:m=n
 .subst e;rw[put_same] at q;cases q;exact⟨G,hb,J,O⟩
 .rw[z0b _ _ _ _ e] at q;exact h m g q
theorem Fine.del {N:Nat}{D:M}(h:Fine N D)(n:ByteArray):Fine N (del D n):=by
 intro m g q;by_cases e:m=n
 .subst e;rw[z2k] at q;cases q
 .rw[z0A _ _ _ e] at q;exact h m g q
def named (n:ByteArray):Bool:=decide (1<=n.size/\n.size<=60)
theorem z2x {n:ByteArray}:named n=true↔1<=n.size/\n.size<=60:=by unfold named;exact decide_eq_true_iff
theorem zc7 {n:ByteArray}:named n=false↔¬(1<=n.size/\n.size<=60):=by unfold named;exact decide_eq_false_iff_not
def dec (p:Int):Int:=if 0<p then p-1 else p
def gr (D:M)(n s:ByteArray):Fl:=⟨((D n).getD new).b++s,((D n).getD new).s,((D n).getD new).k⟩
def z3t (f:Fl)(m:Nat):Fl:=⟨f.b.extract 0 (f.s+min m (f.b.size-f.s)),f.s+min m (f.b.size-f.s),true⟩
def stay (f:Fl)(c:Int):Bool:=f.k||decide (1<=c)
def start (D:M)(c:Int):M:=λn=>match D n with
 | none=>none
 | some f=>if stay f c then some (z3t f c.toNat) else none
theorem z2u {D:M}{c:Int}{n:ByteArray}(h:D n=none):start D c n=none:=by unfold start;rw[h]
theorem z1G {D:M}{c:Int}{n:ByteArray}{f:Fl}(h:D n=some f):start D c n=if stay f c then some (z3t f c.toNat) else none:=by unfold start;rw[h]
theorem zdw (f:Fl)(m:Nat)(h:f.s<=f.b.size):(z3t f m).b.size=f.s+min m (f.b.size-f.s):=by
 unfold z3t;rw[eD];omega
theorem Fine.start {N:Nat}{D:M}(h:Fine N D)(c:Int):Fine N (start D c):=by
 intro n g q;cases hf:D n with
 | none=>rw[z2u hf] at q;cases q
 | some f=>
  rw[z1G hf] at q;obtain⟨J,U,O,V⟩:=h n f hf;by_cases e:stay f c=true
  .rw[if_pos e] at q;cases q;have G:=zdw f c.toNat O;refine⟨J,by rw[G];omega,?_,λh=>by cases h⟩;rw[G];exact qq _
  .rw[if_neg e] at q;cases q
def code (a:Nat)(D:M)(p:Int)(n s:ByteArray):Int:=
 if(a=0/\named n=false)\/(a=2/\named s=false) then 1 else if a≠0/\D n=none then 7 else if p=0 then 14 else 0
def next (a:Nat)(D:M)(n s:ByteArray):M:=match a with
 | 0=>put D n (gr D n s)
 | 1=>put D n ⟨((D n).getD new).b,((D n).getD new).b.size,true⟩
 | 2=>put (del D n) s ((D n).getD new)
 | _=>del D n
def z6V (a:Nat)(D:M)(p:Int)(n s:ByteArray):M:=if code a D p n s=0 then next a D n s else D
def z99 (a:Nat)(D:M)(p:Int)(n s:ByteArray):Int:=if code a D p n s=0 then dec p else p
theorem getD_fine {N:Nat}{D:M}(h:Fine N D)(n:ByteArray):((D n).getD new).b.size<=N/\((D n).getD new).s<=((D n).getD new).b.size/\(((D n).getD new).k=false->((D n).getD new).s=0):=by
 cases hf:D n with
 | none=>exact⟨qh _,qq _,λ_=>rfl⟩
 | some f=>exact(h n f hf).2
theorem zgB {a:Nat}{D:M}{p:Int}{n s:ByteArray}(h:code a D p n s=0):(a=0->1<=n.size/\n.size<=60)/\(a=2->1<=s.size/\s.size<=60)/\(a≠0->D n≠none)/\p≠0:=by
 unfold code at h;split at h
 .cases h
 .rename_i q;split at h
  .cases h
  .rename_i G;split at h
   .cases h
   .rename_i J;refine⟨λe=>?_,λe=>?_,λe O=>G ⟨e,O⟩,J⟩
    .cases hq:named n with
     | true=>exact z2x.1 hq
     | false=>exact absurd (.inl ⟨e,hq⟩) q
    .cases hq:named s with
     | true=>exact z2x.1 hq
     | false=>exact absurd (.inr ⟨e,hq⟩) q
theorem z4x {N:Nat}{a:Nat}{D:M}{p:Int}{n s:ByteArray}(h:Fine N D):Fine (N+s.size) (z6V a D p n s):=by
 unfold z6V;by_cases G:code a D p n s=0
 .rw[if_pos G];obtain⟨c1,c2,J,_⟩:=zgB G;have q:=h.mono (ou N s.size);obtain⟨V,U,O⟩:=getD_fine h n
  match a,c1,c2,J with
  | 0,c1,_,_=>
   refine q.put (c1 rfl) ?_ ?_ O
   .show(((D n).getD new).b++s).size<=_;rw[qC];omega
   .show _<=(((D n).getD new).b++s).size;rw[qC];show((D n).getD new).s<=_;omega
  | 1,_,_,J=>
   cases hf:D n with
   | none=>exact absurd hf (J (by omega))
   | some f=>
    refine q.put (h n f hf).1 ?_ (qq _) (λh=>by cases h);show((D n).getD new).b.size<=_;omega
  | 2,_,c2,_=>exact(q.del n).put (c2 rfl) (by omega) U O
  | a+3,_,_,_=>exact q.del n
 .rw[if_neg G];exact h.mono (ou _ _)
theorem code_missing {D : M} {p : Int} {a : Nat} {n s : ByteArray} (ha : a ≠ 0) (h2 : a = 2 → named s = true) (hD : D n = none) : code a D p n s = 7 := by
  unfold code
  rw [if_neg (by rintro (⟨h, _⟩ | ⟨h, h'⟩)
                 · exact ha h
                 · rw [h2 h] at h'; cases h'), if_pos ⟨ha, hD⟩]
theorem code_off {D : M} {a : Nat} {n s : ByteArray} (h0 : a = 0 → named n = true) (h2 : a = 2 → named s = true) (hD : a ≠ 0 → D n ≠ none) : code a D 0 n s = 14 := by
  unfold code
  rw [if_neg (by rintro (⟨h, h'⟩ | ⟨h, h'⟩)
                 · rw [h0 h] at h'; cases h'
                 · rw [h2 h] at h'; cases h'), if_neg (fun h => hD h.1 h.2), if_pos rfl]
theorem code_ok {D : M} {p : Int} {a : Nat} {n s : ByteArray} (h0 : a = 0 → named n = true) (h2 : a = 2 → named s = true) (hD : a ≠ 0 → D n ≠ none) (hp : p ≠ 0) : code a D p n s = 0 := by
  unfold code
  rw [if_neg (by rintro (⟨h, h'⟩ | ⟨h, h'⟩)
                 · rw [h0 h] at h'; cases h'
                 · rw [h2 h] at h'; cases h'), if_neg (fun h => hD h.1 h.2), if_neg hp]
theorem code_arg {D:M}{p:Int}{a:Nat}{n s:ByteArray}(h:(a=0/\named n=false)\/(a=2/\named s=false)):code a D p n s=1:=by
 unfold code;rw[if_pos h]
end DK
section
open Go.Maps Go.RowKit
structure XFr (X:Nat->Prop) (w w':World):Prop where
 os:w'.os=w.os
 tape:w'.tape=w.tape
 output:w'.output=w.output
 size:w.heap.size<=w'.heap.size
 block:∀j,j<w.heap.size->¬X j->w'.heap[j]? =w.heap[j]?
section
variable {X : Nat → Prop} {a b c w w' : World}
theorem XFr.refl (X:Nat->Prop)(w:World):XFr X w w:=⟨rfl,rfl,rfl,qq _,λ_ _ _=>rfl⟩
theorem XFr.trans {X':Nat->Prop}(h:XFr X a b)(k:XFr X' b c)(J:∀j,X' j->X j\/a.heap.size<=j):XFr X a c:=
 ⟨k.os.trans h.os,k.tape.trans h.tape,k.output.trans h.output,qi h.size k.size,λj q G=>(k.block j (qe q h.size) (λO=>(J j O).elim G (by omega))).trans (h.block j q G)⟩
theorem XFr.below (h:Below w.heap.size w w'):XFr X w w':=⟨h.os,h.tape,h.output,h.size,λj q _=>h.block j q⟩
theorem XFr.grown {row:Option Nat}(h:w.grownBy w' row)(q:∀j,row=some j->X j\/w.heap.size<=j):XFr X w w':=
 ⟨h.os,h.tape,h.output,h.size,λj G J=>h.block j G (λe=>(q j e.symm).elim J (by omega))⟩
theorem XFr.setCell (w:World)(p:Addr)(u:Value)(h:X p.block):XFr X w (w.setCell p u):=
 ⟨rfl,rfl,rfl,by simp,λj _ q=>Below.heap_setCell w p u j (λe=>q (e▸h))⟩
theorem XFr.alloc (X:Nat->Prop)(w:World)(o:Obj):XFr X w (w.alloc o):=XFr.below ((Below.refl _ _).alloc (qq _) o)
theorem XFr.drewN (h:XFr X a w)(n:Nat):XFr X a (w.drewN n):=⟨h.os,h.tape,h.output,h.size,h.block⟩
theorem XFr.mono {X':Nat->Prop}(h:XFr X a w)(q:∀j,X j->X' j):XFr X' a w:=⟨h.os,h.tape,h.output,h.size,λj G J=>h.block j G (λe=>J (q j e))⟩
theorem XFr.z3m {B:Nat}(h:XFr X w w')(q:∀j,X j->B<=j)(G:B<=w.heap.size):Below B w w':=
 ⟨h.os,h.tape,h.output,h.size,λj J=>h.block j (qe J G) (λe=>by have:=q j e;omega)⟩
end
abbrev z5U (w:World)(v:Value)(b:ByteArray):Prop:=w.ownsRow 0 5 1 v b.size (wW b)
theorem z5U.at {w:World}{v:Value}{b:ByteArray}(h:z5U w v b){g:Nat}(G:v.ownBlock=some g):∃q,w.heap[g]? =some (.cells q 5):=by
 rcases h.2 with⟨rfl,_⟩|⟨J,cap,q,rfl,_,O,_⟩
 .cases G
 .have e:J=g:=qt G;subst e;exact⟨q,O⟩
theorem z5U.shape {w:World}{v:Value}{b:ByteArray}(h:z5U w v b):∃ao cap,v= .slice ao b.size cap/\b.size<=cap:=by
 rcases h.2 with⟨q,G⟩|⟨g,cap,J,q,_,_,O,_⟩
 .exact⟨none,0,by rw[q,G],by omega⟩
 .exact⟨_,cap,q,O⟩
theorem z5U.block {w w':World}{v:Value}{b:ByteArray}(h:z5U w v b)(G:∀g,v.ownBlock=some g->w'.heap[g]? =w.heap[g]?):z5U w' v b:=by
 refine⟨h.1,?_⟩;rcases h.2 with J|⟨g,cap,q,rfl,O,U,V⟩
 .exact .inl J
 .exact .inr ⟨g,cap,q,rfl,O,(G g rfl).trans U,V⟩
theorem z5U.text {P:rM}{w:World}{v:Value}{b:ByteArray}(h:z5U w v b){src dst:qn}(G:P.underlying src=some (.slice 5))(J:P.underlying 5=some (.int .u8))(O:P.underlying dst=some .string):
  (convert src dst v).run P w= .ok (.string b) w:=by
 have U:b.data.toList.length=b.size:=by rw[qE];rfl
 have h0:=h;rcases h.2 with⟨rfl,V⟩|⟨g,cap,Y,rfl,h1,hc,h2,h3,h4,h5⟩
 .have e:b=qy:=by
   cases b with|mk d=>
   have:d.size=0:=V;have:d=#[]:=Array.eq_empty_of_size_eq_zero this;rw[this];rfl
  subst e;rw[iR w src dst 5 none 0 0 G J O];simp[iA]
 .have:=iK (P:=P) w src dst 5 ⟨g,0,none⟩ cap b.data.toList G J O (λj hj=>by
   have q:=h0.cells (g:=g) rfl j (.int .u8 (b.data.toList[j].toNat:Int)) (by
    unfold wW;rw[qZ,qw hj];rfl)
   exact q)
  rw[U] at this;rw[this]
theorem z5U.append {P:rM}{w:World}{v:Value}{b:ByteArray}(h:z5U w v b){t u:qn}(V:qn){i:TypeInfo}(ht:P.underlying t=some (.slice 5))(hu:P.underlying u=some .string)(hi:P.info? 5=some i)(hz:i.zero=some (.int .u8 0))(G:i.size=1)(J:i.bytes=1)
  (s:ByteArray) (hb:b.size+s.size<=140737488355328):
  ∃v' w',(Builtin.append_ #[t,u] V #[v,.string s]).run P w= .ok v' w'/\z5U w' v' (b++s)/\w.grownBy w' v.ownBlock/\(v'.ownBlock=v.ownBlock\/v'.ownBlock=some w.heap.size):=by
 have A2:b.size+s.size<=maxLen:=by unfold qS;omega
 obtain⟨v',w',q,Y,hg,A1⟩:=Lib.run_append_own_string (P:=P) w 0 t u V 5 i ht hu hi hz G J v b.size (wW b) h s A2 hb (qh _);have O:z5U w' v' (b++s):=by
  show World.ownsRow _ _ _ _ _ _ _;rw[qC];have e:wW (b++s)=wW b++wW s:=by
   unfold wW;rw[<-List.map_append]
   congr 1
  rw[e];exact Y
 refine⟨v',w',q,O,hg,?_⟩;rcases h.2 with⟨rfl,h0⟩|⟨g,cap,A3,rfl,h1,hc,h2,h3,h4,h5⟩
 .by_cases hs:s.size=0
  .exact .inl (by rw[A1.2 ⟨rfl,hs⟩])
  .have hr:=run_append_nil_string (P:=P) w t u V 5 i (.int .u8 0) ht hu hi hz s (by omega) (by omega) (by rw[J];omega);rw[hr] at q;cases q;exact .inr rfl
 .by_cases U:b.size+s.size<=cap
  .have hr:=Lib.run_append_room_string (P:=P) w t u V 5 i ht hu hi G g b.size cap A3 hc s U (by omega);rw[hr] at q;cases q;exact .inl rfl
  .have hr:=Lib.run_append_grow_string (P:=P) w t u V 5 i (.int .u8 0) ht hu hi hz ⟨g,0,none⟩ b.size cap (wW b) (by rw[G,Lib.strCells_length];omega) (h.cells (g:=g) rfl) s (by omega) (by omega) (by rw[J];exact growslice_fits (by omega) (by omega));rw[hr] at q;cases q;exact .inr rfl
abbrev pF (fp:ByteArray->Option Nat):ByteArray->Option Value:=λn=>(fp n).map λp=>Value.pointer (some ⟨p,0,none⟩)
def zeD (fp:ByteArray->Option Nat)(n:ByteArray)(p:Nat):ByteArray->Option Nat:=λm=>if m=n then some p else fp m
def zdU (fp:ByteArray->Option Nat)(n:ByteArray):ByteArray->Option Nat:=λm=>if m=n then none else fp m
def zbj (fv:ByteArray->Value)(n:ByteArray)(v:Value):ByteArray->Value:=λm=>if m=n then v else fv m
theorem z0I (fp:ByteArray->Option Nat)(n:ByteArray)(p:Nat):zeD fp n p n=some p:=by unfold zeD;rw[if_pos rfl]
theorem z0o (fp:ByteArray->Option Nat)(n m:ByteArray)(p:Nat)(h:m≠n):zeD fp n p m=fp m:=by unfold zeD;rw[if_neg h]
theorem z3r (fp:ByteArray->Option Nat)(n:ByteArray):zdU fp n n=none:=by unfold zdU;rw[if_pos rfl]
theorem z1o (fp:ByteArray->Option Nat)(n m:ByteArray)(h:m≠n):zdU fp n m=fp m:=by unfold zdU;rw[if_neg h]
theorem z1f (fv:ByteArray->Value)(n:ByteArray)(v:Value):zbj fv n v n=v:=by unfold zbj;rw[if_pos rfl]
theorem z0E (fv:ByteArray->Value)(n m:ByteArray)(v:Value)(h:m≠n):zbj fv n v m=fv m:=by unfold zbj;rw[if_neg h]
theorem zk1 (fp:ByteArray->Option Nat)(n:ByteArray)(p:Nat):pF (zeD fp n p)=upd (pF fp) n (.pointer (some ⟨p,0,none⟩)):=by
 funext m
 unfold pF zeD upd;by_cases h:m=n
 .rw[if_pos h,if_pos h];rfl
 .rw[if_neg h,if_neg h]
theorem zfz (fp:ByteArray->Option Nat)(n:ByteArray):pF (zdU fp n)=zhO (pF fp) n:=by
 funext m
 unfold pF zdU zhO;by_cases h:m=n
 .rw[if_pos h,if_pos h];rfl
 .rw[if_neg h,if_neg h]
structure z1g (w:World) (X:Nat->Prop) (D:DK.M) (fp:ByteArray->Option Nat) (fv:ByteArray->Value):Prop where
 no:∀n,fp n=none↔D n=none
 inj:∀n n' p,fp n=some p->fp n'=some p->n=n'
 body:∀n p f,fp n=some p->D n=some f->X p/\w.heap[p]? =some (.cells #[fv n,.int .i64 f.s,.bool f.k] 104)/\z5U w (fv n) f.b/\∀g,(fv n).ownBlock=some g->X g
 sep:∀n n' g,fp n≠none->fp n'≠none->(fv n).ownBlock=some g->(fv n').ownBlock=some g->n=n'
structure DkI (P:rM) (w:World) (X:Nat->Prop) (bd cnt:Nat) (D:DK.M) (p:Int) (mo:Option Nat) (fp:ByteArray->Option Nat) (fv:ByteArray->Value) (e:Bool) (l:Int):Prop where
 xd:X bd
 dsk:w.heap[bd]? =some (.cells #[.map mo,.bool e,.int .i64 l] 32)
 pw:(e=true/\l=p/\0<=p/\p<=9223372036854775807)\/(e=false/\p= -1)
 map:∀bm,mo=some bm->X bm/\z2g P 9 w bm cnt (pF fp)
 nomap:mo=none->∀n,fp n=none
 files:z1g w X D fp fv
section
variable {P : Program} {w w' : World} {X : Nat → Prop} {bd cnt : Nat} {D : DK.M} {p : Int} {mo : Option Nat} {fp : ByteArray → Option Nat} {fv : ByteArray → Value} {e : Bool} {l : Int}
theorem z1g.zhP (h:z1g w X D fp fv){n:ByteArray}{q:Nat}(G:fp n=some q):∃f,D n=some f:=by
 cases hd:D n with
 | none=>rw[(h.no n).2 hd] at G;cases G
 | some f=>exact⟨f,rfl⟩
theorem z1g.kept (h:z1g w X D fp fv)(J:∀j,X j->j<w.heap.size->w'.heap[j]? =w.heap[j]?):z1g w' X D fp fv where
 no:=h.no
 inj:=h.inj
 body:=λn q f V Y=>by
  obtain⟨b1,b2,O,U⟩:=h.body n q f V Y;refine⟨b1,(J q b1 (z00 b2)).trans b2,O.block (λg G=>?_),U⟩;obtain⟨A1,hc⟩:=O.at G;exact J g (U g G) (z00 hc)
 sep:=h.sep
theorem z1g.but (h:z1g w X D fp fv){b:Nat}{o:Obj}(hb:w.heap[b]? =some o)(O:∀c,o≠ .cells c 104)(U:∀c,o≠ .cells c 5)(hg:∀j,X j->j<w.heap.size->j≠b->w'.heap[j]? =w.heap[j]?):z1g w' X D fp fv where
 no:=h.no
 inj:=h.inj
 body:=λn q f h1 h2=>by
  obtain⟨b1,b2,b3,b4⟩:=h.body n q f h1 h2;have V:q≠b:=λe=>by subst e;rw[hb] at b2;exact O _ (qt b2)
  refine⟨b1,(hg q b1 (z00 b2) V).trans b2,b3.block (λg G=>?_),b4⟩;obtain⟨A1,Y⟩:=b3.at G;have J:g≠b:=λe=>by subst e;rw[hb] at Y;exact U _ (qt Y)
  exact hg g (b4 g G) (z00 Y) J
 sep:=h.sep
theorem z1g.grow (h:z1g w X D fp fv){X':Nat->Prop}(J:∀j,X j->X' j):z1g w X' D fp fv where
 no:=h.no
 inj:=h.inj
 body:=λn q f O U=>by
  obtain⟨b1,b2,V,Y⟩:=h.body n q f O U;exact⟨J _ b1,b2,V,λg G=>J _ (Y g G)⟩
 sep:=h.sep
theorem z1g.set (h:z1g w X D fp fv){n:ByteArray}{q:Nat}(V:fp n=some q){f':DK.Fl}{v':Value}
  (hg:∀j,X j->j<w.heap.size->j≠q->(fv n).ownBlock≠some j->w'.heap[j]? =w.heap[j]?)
  (hb:w'.heap[q]? =some (.cells #[v',.int .i64 f'.s,.bool f'.k] 104)) (hr:z5U w' v' f'.b) (hv:∀g,v'.ownBlock=some g->(fv n).ownBlock=some g\/w.heap.size<=g):
  z1g w' (λj=>X j\/w.heap.size<=j) (DK.put D n f') fp (zbj fv n v'):=by
 obtain⟨f0,A4⟩:=h.zhP V;obtain⟨a1,a2,a3,a4⟩:=h.body n q f0 V A4;refine {no:=?_,inj:=h.inj,body:=?_,sep:=?_}
 .intro m;by_cases e:m=n
  .subst e;rw[DK.put_same,V];simp
  .rw[DK.z0b _ _ _ _ e];exact h.no m
 .intro m Y f h1 O;by_cases e:m=n
  .subst e;rw[DK.put_same] at O;cases O;have:Y=q:=qt (h1.symm.trans V);subst this;rw[z1f];refine⟨.inl a1,hb,hr,λg G=>?_⟩;rcases hv g G with U|U
   .exact .inl (a4 g U)
   .exact .inr U
  .rw[DK.z0b _ _ _ _ e] at O;rw[z0E _ _ _ _ e];obtain⟨b1,b2,b3,b4⟩:=h.body m Y f h1 O;have A5:Y≠q:=λe2=>by subst e2;exact e (h.inj m n Y h1 V)
   have A2:(fv n).ownBlock≠some Y:=λe2=>by
    obtain⟨A3,hc⟩:=a3.at e2;rw[b2] at hc;simp at hc
   refine⟨.inl b1,(hg Y b1 (z00 b2) A5 A2).trans b2,b3.block (λg G=>?_),λg G=> .inl (b4 g G)⟩;obtain⟨A3,hc⟩:=b3.at G;refine hg g (b4 g G) (z00 hc) (λe2=>?_) (λe2=>?_)
   .subst e2;rw[a2] at hc;simp at hc
   .exact e (h.sep m n g (by rw[h1];simp) (by rw[V];simp) G e2)
 .have A1:∀m g,fp m≠none->(fv m).ownBlock=some g->g<w.heap.size:=by
   intro m g hm G;cases J:fp m with
   | none=>exact absurd J hm
   | some Y=>
    obtain⟨f,hf⟩:=h.zhP J;obtain⟨b1,b2,b3,b4⟩:=h.body m Y f J hf;obtain⟨A3,hc⟩:=b3.at G;exact z00 hc
  intro m m' g hm J h1 O;by_cases e:m=n
  .by_cases e':m'=n
   .rw[e,e']
   .rw[e,z1f] at h1;rw[z0E _ _ _ _ e'] at O;rcases hv g h1 with U|U
    .rw[e];exact h.sep n m' g (by rw[V];simp) J U O
    .have:=A1 m' g J O;omega
  .rw[z0E _ _ _ _ e] at h1;by_cases e':m'=n
   .rw[e',z1f] at O;rcases hv g O with U|U
    .rw[e'];exact h.sep m n g hm (by rw[V];simp) h1 U
    .have:=A1 m g hm h1;omega
   .rw[z0E _ _ _ _ e'] at O;exact h.sep m m' g hm J h1 O
theorem z1g.born (h:z1g w X D fp fv){n:ByteArray}(hn:fp n=none)(hq:w'.heap[w.heap.size]? =some (.cells #[.slice none 0 0,.int .i64 0,.bool false] 104)) (hg:∀j,X j->j<w.heap.size->(∃c,w.heap[j]? =some (.cells c 104))\/(∃c,w.heap[j]? =some (.cells c 5))->w'.heap[j]? =w.heap[j]?):
  z1g w' (λj=>X j\/w.heap.size<=j) (DK.put D n DK.new) (zeD fp n w.heap.size) (zbj fv n (.slice none 0 0)):=by
 have V:∀m q,fp m=some q->q<w.heap.size:=by
  intro m q Y;obtain⟨f,hf⟩:=h.zhP Y;exact z00 (h.body m q f Y hf).2.1
 refine {no:=?_,inj:=?_,body:=?_,sep:=?_}
 .intro m;by_cases e:m=n
  .subst e;rw[DK.put_same,z0I];simp
  .rw[DK.z0b _ _ _ _ e,z0o _ _ _ _ e];exact h.no m
 .intro m m' q J G;by_cases e:m=n
  .by_cases U:m'=n
   .rw[e,U]
   .rw[e,z0I] at J;rw[z0o _ _ _ _ U] at G;have:=V m' q G;have:=qt J;omega
  .rw[z0o _ _ _ _ e] at J;by_cases U:m'=n
   .rw[U,z0I] at G;have:=V m q J;have:=qt G;omega
   .rw[z0o _ _ _ _ U] at G;exact h.inj m m' q J G
 .intro m q f J G;by_cases e:m=n
  .subst e;rw[DK.put_same] at G;rw[z0I] at J;cases J;cases G;rw[z1f];exact⟨.inr (qq _),hq,World.ownsRow_nil w' 0 5 1,λg O=>by cases O⟩
  .rw[DK.z0b _ _ _ _ e] at G;rw[z0o _ _ _ _ e] at J;rw[z0E _ _ _ _ e];obtain⟨b1,b2,b3,b4⟩:=h.body m q f J G;refine⟨.inl b1,(hg q b1 (z00 b2) (.inl ⟨_,b2⟩)).trans b2,b3.block (λg O=>?_),λg O=> .inl (b4 g O)⟩;obtain⟨A2,hc⟩:=b3.at O;exact hg g (b4 g O) (z00 hc) (.inr ⟨_,hc⟩)
 .intro m m' g Y A1 J G;by_cases e:m=n
  .rw[e,z1f] at J;cases J
  .rw[z0E _ _ _ _ e] at J;by_cases U:m'=n
   .rw[U,z1f] at G;cases G
   .rw[z0E _ _ _ _ U] at G;rw[z0o _ _ _ _ e] at Y;rw[z0o _ _ _ _ U] at A1;exact h.sep m m' g Y A1 J G
theorem z1g.cut (h:z1g w X D fp fv)(n:ByteArray):z1g w X (DK.del D n) (zdU fp n) fv where
 no:=λm=>by
  by_cases e:m=n
  .subst e;rw[DK.z2k,z3r];simp
  .rw[DK.z0A _ _ _ e,z1o _ _ _ e];exact h.no m
 inj:=λm m' q G J=>by
  by_cases e:m=n
  .subst e;rw[z3r] at G;cases G
  .by_cases U:m'=n
   .subst U;rw[z3r] at J;cases J
   .rw[z1o _ _ _ e] at G;rw[z1o _ _ _ U] at J;exact h.inj m m' q G J
 body:=λm q f G J=>by
  by_cases e:m=n
  .subst e;rw[z3r] at G;cases G
  .rw[z1o _ _ _ e] at G;rw[DK.z0A _ _ _ e] at J;exact h.body m q f G J
 sep:=λm m' g Y O G J=>by
  have V:∀x,zdU fp n x≠none->fp x≠none:=λx hx e=>hx (by unfold zdU;rw[e];exact ite_self none)
  exact h.sep m m' g (V m Y) (V m' O) G J
theorem z1g.move (h:z1g w X D fp fv){n zto:ByteArray}{q:Nat}{f:DK.Fl}(hq:fp n=some q)(hf:D n=some f):
  z1g w X (DK.put (DK.del D n) zto f) (zeD (zdU fp n) zto q) (zbj fv zto (fv n)):=by
 have hc:=h.cut n;have O:∀m,zdU fp n m≠none->m≠n/\fp m≠none:=by
  intro m hm;by_cases e:m=n
  .subst e;rw[z3r] at hm;exact absurd rfl hm
  .rw[z1o _ _ _ e] at hm;exact⟨e,hm⟩
 refine {no:=?_,inj:=?_,body:=?_,sep:=?_}
 .intro m;by_cases e:m=zto
  .subst e;rw[DK.put_same,z0I];simp
  .rw[DK.z0b _ _ _ _ e,z0o _ _ _ _ e];exact hc.no m
 .intro m m' q' J G;by_cases e:m=zto
  .by_cases U:m'=zto
   .rw[e,U]
   .rw[e,z0I] at J;rw[z0o _ _ _ _ U] at G;have:=qt J;subst this;obtain⟨V,a2⟩:=O m' (by rw[G];simp);rw[z1o _ _ _ V] at G;exact absurd (h.inj m' n q G hq) V
  .rw[z0o _ _ _ _ e] at J;by_cases U:m'=zto
   .rw[U,z0I] at G;have:=qt G;subst this;obtain⟨V,a2⟩:=O m (by rw[J];simp);rw[z1o _ _ _ V] at J;exact absurd (h.inj m n q J hq) V
   .rw[z0o _ _ _ _ U] at G;exact hc.inj m m' q' J G
 .intro m q' f' J G;by_cases e:m=zto
  .rw[e,DK.put_same] at G;rw[e,z0I] at J;cases J;cases G;rw[e,z1f];exact h.body n q f hq hf
  .rw[DK.z0b _ _ _ _ e] at G;rw[z0o _ _ _ _ e] at J;rw[z0E _ _ _ _ e];exact hc.body m q' f' J G
 .intro m m' g hm Y J G;by_cases e:m=zto
  .by_cases U:m'=zto
   .rw[e,U]
   .rw[e,z1f] at J;rw[z0E _ _ _ _ U] at G;rw[z0o _ _ _ _ U] at Y;obtain⟨V,a2⟩:=O m' Y;exact absurd (h.sep m' n g a2 (by rw[hq];simp) G J) V
  .rw[z0E _ _ _ _ e] at J;rw[z0o _ _ _ _ e] at hm;obtain⟨V,a2⟩:=O m hm;by_cases U:m'=zto
   .rw[U,z1f] at G;exact absurd (h.sep m n g a2 (by rw[hq];simp) J G) V
   .rw[z0E _ _ _ _ U] at G;rw[z0o _ _ _ _ U] at Y;exact h.sep m m' g a2 (O m' Y).2 J G
theorem DkI.kept (h:DkI P w X bd cnt D p mo fp fv e l)(G:∀j,X j->j<w.heap.size->w'.heap[j]? =w.heap[j]?):DkI P w' X bd cnt D p mo fp fv e l where
 xd:=h.xd
 dsk:=(G bd h.xd (z00 h.dsk)).trans h.dsk
 pw:=h.pw
 map:=λbm q=>⟨(h.map bm q).1,(h.map bm q).2.block (G bm (h.map bm q).1 (h.map bm q).2.lt)⟩
 nomap:=h.nomap
 files:=h.files.kept G
theorem DkI.below (h:DkI P w X bd cnt D p mo fp fv e l)(hb:Below w.heap.size w w'):DkI P w' X bd cnt D p mo fp fv e l:=h.kept λj _ q=>hb.block j q
theorem DkI.lt (h:DkI P w X bd cnt D p mo fp fv e l):bd<w.heap.size:=z00 h.dsk
theorem DkI.mono (h:DkI P w X bd cnt D p mo fp fv e l){cnt':Nat}(G:cnt<=cnt'):DkI P w X bd cnt' D p mo fp fv e l:=
 {h with map:=λbm q=>⟨(h.map bm q).1,(h.map bm q).2.mono G⟩}
theorem DkI.c0 (h:DkI P w X bd cnt D p mo fp fv e l):w.cell? ⟨bd,0,none⟩=some (.map mo):=by simp[qs,h.dsk]
theorem DkI.c1 (h:DkI P w X bd cnt D p mo fp fv e l):w.cell? ⟨bd,1,none⟩=some (.bool e):=by simp[qs,h.dsk]
theorem DkI.c2 (h:DkI P w X bd cnt D p mo fp fv e l):w.cell? ⟨bd,2,none⟩=some (.int .i64 l):=by simp[qs,h.dsk]
theorem DkI.fr (h:DkI P w X bd cnt D p mo fp fv e l)(o:Nat):w.frozen? ⟨bd,o,none⟩=false:=by simp[wz,h.dsk]
theorem DkI.z4Y (h:DkI P w X bd cnt D p mo fp fv e l){p':Int}{q:Bool}{G:Int}(Y:w'.heap[bd]? =some (.cells #[.map mo,.bool q,.int .i64 G] 32)) (U:∀j,X j->j<w.heap.size->j≠bd->w'.heap[j]? =w.heap[j]?)
  (hp:(q=true/\G=p'/\0<=p'/\p'<=9223372036854775807)\/(q=false/\p'= -1)):DkI P w' X bd cnt D p' mo fp fv q G where
 xd:=h.xd
 dsk:=Y
 pw:=hp
 map:=λbm hm=>by
  obtain⟨V,m2⟩:=h.map bm hm;have J:bm≠bd:=λe=>by
   subst e;obtain⟨es,O,hb⟩:=m2.isMap;rw[h.dsk] at hb;cases hb
  exact⟨V,m2.block (U bm V m2.lt J)⟩
 nomap:=h.nomap
 files:=h.files.but h.dsk (by simp) (by simp) U
theorem DkI.zjw (h:DkI P w X bd cnt D p mo fp fv e l){bm cnt':Nat}{D':DK.M}{q:ByteArray->Option Nat}{G:ByteArray->Value}(O:mo=some bm)(hg:w.grownBy w' (some bm))(hM:z2g P 9 w' bm cnt' (pF q))(hF:z1g w X D' q G):DkI P w' X bd cnt' D' p mo q G e l:=by
 obtain⟨m1,m2⟩:=h.map bm O;obtain⟨es,U,hb⟩:=m2.isMap;have V:bd≠bm:=λe=>by
  subst e;rw[h.dsk] at hb;cases hb
 refine {xd:=h.xd,dsk:=(hg.block bd h.lt (λe=>V (qt e))).trans h.dsk,pw:=h.pw,map:=?_,nomap:=?_,files:=?_}
 .intro Y J;have:Y=bm:=by rw[O] at J;exact(qt J).symm
  subst this;exact⟨m1,hM⟩
 .intro h0;rw[O] at h0;cases h0
 .exact hF.but hb (by simp) (by simp) λj _ hj A1=>hg.block j hj (λe=>A1 (qt e))
theorem DkI.set (h:DkI P w X bd cnt D p mo fp fv e l){n:ByteArray}{q:Nat}(O:fp n=some q){f':DK.Fl}{v':Value}(_hsz:w.heap.size<=w'.heap.size)
  (hg:∀j,j<w.heap.size->j≠q->(fv n).ownBlock≠some j->w'.heap[j]? =w.heap[j]?)
  (hb:w'.heap[q]? =some (.cells #[v',.int .i64 f'.s,.bool f'.k] 104)) (hr:z5U w' v' f'.b) (hv:∀g,v'.ownBlock=some g->(fv n).ownBlock=some g\/w.heap.size<=g):
  DkI P w' (λj=>X j\/w.heap.size<=j) bd cnt (DK.put D n f') p mo fp (zbj fv n v') e l:=by
 obtain⟨f0,U⟩:=h.files.zhP O;obtain⟨a1,a2,a3,a4⟩:=h.files.body n q f0 O U;have G:∀(j:Nat) (o:Obj),w.heap[j]? =some o->(∀c,o≠uR c 104)->(∀c,o≠uR c 5)->w'.heap[j]? =w.heap[j]? :=by
  intro j o J V Y;refine hg j (z00 J) (λe=>?_) (λe=>?_)
  .subst e;rw[a2] at J;exact V _ (qt J).symm
  .obtain⟨A3,hc⟩:=a3.at e;rw[hc] at J;exact Y _ (qt J).symm
 refine {xd:= .inl h.xd,dsk:=(G bd _ h.dsk (by simp) (by simp)).trans h.dsk,pw:=h.pw,map:=?_,nomap:=h.nomap,files:=h.files.set O (λj _ J h1 h2=>hg j J h1 h2) hb hr hv};intro bm hm;obtain⟨m1,m2⟩:=h.map bm hm;obtain⟨es,A1,A2⟩:=m2.isMap;exact⟨.inl m1,m2.block (G bm _ A2 (by simp) (by simp))⟩
theorem DkI.narrow (h:DkI P w X bd cnt D p mo fp fv e l):DkI P w (λj=>X j/\j<w.heap.size) bd cnt D p mo fp fv e l where
 xd:=⟨h.xd,h.lt⟩
 dsk:=h.dsk
 pw:=h.pw
 map:=λbm G=>⟨⟨(h.map bm G).1,(h.map bm G).2.lt⟩,(h.map bm G).2⟩
 nomap:=h.nomap
 files:={
  no:=h.files.no
  inj:=h.files.inj
  body:=λn q f U V=>by
   obtain⟨b1,b2,J,Y⟩:=h.files.body n q f U V;refine⟨⟨b1,z00 b2⟩,b2,J,λg O=>⟨Y g O,?_⟩⟩;obtain⟨A1,hc⟩:=J.at O;exact z00 hc
  sep:=h.files.sep}
end
end
section
open Go.RowKit Go.Maps
def er (c:Int):Value:=if c=0 then .nilIface else .iface 56 (.int .i64 c)
abbrev DkA:=DkI q6
def Dk (w:World)(X:Nat->Prop)(bd cnt:Nat)(D:DK.M)(p:Int):Prop:=∃mo fp fv e l,DkA w X bd cnt D p mo fp fv e l
theorem z6L (w:World)(b o:Nat)(u:Value):w.grownBy (w.setCell ⟨b,o,none⟩ u) (some b):=⟨rfl,rfl,rfl,by simp,λk _ h=>Below.heap_setCell w ⟨b,o,none⟩ u k (λe=>h (by rw[e]))⟩
theorem named_any (n:ByteArray)(w:World):
  Calls q6 184 #[.string n] w λG w'=>G= .returned (.bool (DK.named n))/\w'=w:=by
 by_cases J:1<=n.size
 .have q:(0:Int)<(n.size:Int):=by omega
  by_cases O:n.size<=60
  .have hb:DK.named n=true:=DK.z2x.2 ⟨J,O⟩;have h:(n.size:Int)<=60:=by omega
   rw[hb];go_enter func184,ntmps184;go_wp2
   all_goals
    go_ret;refine⟨z05 ?_,rfl⟩
    first | rfl | simpa using h | omega
  .have hb:DK.named n=false:=DK.zc7.2 (by omega);have h:¬(n.size:Int)<=60:=by omega
   rw[hb];go_enter func184,ntmps184;go_wp2
   all_goals
    go_ret;refine⟨z05 ?_,rfl⟩
    first | rfl | simpa using h | omega
 .have hb:DK.named n=false:=DK.zc7.2 (by omega);have q:¬(0:Int)<(n.size:Int):=by omega
  rw[hb];go_enter func184,ntmps184;go_wp2
  all_goals
   go_ret;refine⟨z05 ?_,rfl⟩
   first | rfl | simpa using q | omega
section
variable {w : World} {X : Nat → Prop} {bd cnt : Nat} {D : DK.M} {p : Int} {mo : Option Nat} {fp : ByteArray → Option Nat} {fv : ByteArray → Value} {e : Bool} {l : Int}
theorem zmI (h:DkA w X bd cnt D p mo fp fv e l):
  Calls q6 211 #[.pointer (some ⟨bd,0,none⟩)] w λG w'=>G= .returned (.bool (decide (p≠0)))/\w'=w:=by
 have c1:=h.c1;have c2:=h.c2;rcases h.pw with⟨rfl,rfl,J,_⟩|⟨rfl,rfl⟩
 .have hb:decide (l≠0)=decide (0<l):=by
   by_cases q:l=0
   .subst q;rfl
   .rw[decide_eq_true q,decide_eq_true (by omega)]
  rw[hb];clear h hb J;go_enter func211,ntmps211;go_wp2
  all_goals
   go_ret;exact⟨z05 (by simp),rfl⟩
 .clear h;go_enter func211,ntmps211;go_wp2
  all_goals
   go_ret;exact⟨z05 (by simp),rfl⟩
def ChEnd (w:World)(X:Nat->Prop)(bd cnt:Nat)(D:DK.M)(p:Int)(mo:Option Nat)(fp:ByteArray->Option Nat)(fv:ByteArray->Value)(w':World):Prop:=
 (∃e l,DkA w' X bd cnt D p mo fp fv e l)/\w.grownBy w' (some bd)
theorem change_any (h:DkA w X bd cnt D p mo fp fv e l):
  Calls q6 179 #[.pointer (some ⟨bd,0,none⟩)] w λG w'=>
   (p=0/\G= .returned (.iface 56 (.int .i64 14))/\w'=w)\/(p≠0/\G= .returned .nilIface/\ChEnd w X bd cnt D (DK.dec p) mo fp fv w'):=by
 have Y:=hid h;have J:=zmI h;have O:=hid J;have c1:=h.c1;have c2:=h.c2;have f2:=h.fr 2;have U:=hid h.pw;clear h J;by_cases V:p=0
 .subst V;go_enter func179,ntmps179;go_wp2_with fail;refine O.out.mono ?_;rintro G w' ⟨rfl,rfl⟩;go_wp2;go_ret;simp
 .have hd:decide (p≠0)=true:=decide_eq_true V;rw[hd] at O;cases e with
  | true=>
   obtain⟨rfl,h0,q⟩:l=p/\0<=p/\p<=9223372036854775807:=by
    rcases U.out with⟨_,q,h2,h3⟩|⟨q,_⟩
    .exact⟨q,h2,h3⟩
    .cases q
   have A2:wrap64 (l-1)=l-1:=by unfold wrap64;omega
   have A3:qW.wrap (l-1)=l-1:=by rw[qY];omega
   have HE:Hid (ChEnd w X bd cnt D (DK.dec l) mo fp fv (w.setCell ⟨bd,2,none⟩ (.int .i64 (l-1)))):=by
    refine⟨⟨true,l-1,Y.out.z4Y ?_ ?_ (.inl ⟨rfl,?_,?_⟩)⟩,z6L _ _ _ _⟩
    .rw[qo w bd 2 _ _ _ Y.out.dsk];rfl
    .exact λj _ _ hj=>Below.heap_setCell w ⟨bd,2,none⟩ _ j hj
    .unfold DK.dec;rw[if_pos (by omega)]
    .unfold DK.dec;rw[if_pos (by omega)];omega
   clear U hd;go_enter func179,ntmps179;go_wp2_with fail;refine O.out.mono ?_;rintro G w' ⟨rfl,rfl⟩;go_wp2;go_ret;exact .inr ⟨V,rfl,HE.out⟩
  | false=>
   have A1:p= -1:=by
    rcases U.out with⟨q,_⟩|⟨_,q⟩
    .cases q
    .exact q
   have HE:Hid (ChEnd w X bd cnt D (DK.dec p) mo fp fv w):=by
    refine⟨⟨false,l,?_⟩,iT _ _⟩;have e1:DK.dec p=p:=by unfold DK.dec;rw[if_neg (by omega)]
    rw[e1];exact Y.out
   clear U hd A1;go_enter func179,ntmps179;go_wp2_with fail;refine O.out.mono ?_;rintro G w' ⟨rfl,rfl⟩;go_wp2;go_ret;exact .inr ⟨V,rfl,HE.out⟩
theorem z8X (h:DkA w X bd cnt D p mo fp fv e l)(c:Int)(U:c<=9223372036854775807):
  Calls q6 19 #[.pointer (some ⟨bd,0,none⟩),.int .i64 c] w λJ w'=>J= .returned (.tuple #[])/\ChEnd w X bd cnt D (max c (-1)) mo fp fv w':=by
 have c1:=h.c1;have c2:=h.c2;have V:=h.fr 1;have Y:=h.fr 2;have O:Hid (ChEnd w X bd cnt D (max c (-1)) mo fp fv ((w.setCell ⟨bd,1,none⟩ (.bool (decide (0<=c)))).setCell ⟨bd,2,none⟩ (.int .i64 c))):=by
  refine⟨⟨decide (0<=c),c,h.z4Y ?_ ?_ ?_⟩,(z6L _ _ _ _).trans (z6L _ _ _ _)⟩
  .rw[qo _ bd 2 _ _ _ (qo w bd 1 _ _ _ h.dsk)];rfl
  .exact λj _ _ q=>(Below.heap_setCell _ ⟨bd,2,none⟩ _ j q).trans (Below.heap_setCell w ⟨bd,1,none⟩ _ j q)
  .by_cases G:0<=c
   .exact .inl ⟨decide_eq_true G,by omega,by omega,by omega⟩
   .exact .inr ⟨decide_eq_false G,by omega⟩
 clear h;go_enter func19,ntmps19;go_wp2
 go_end0
 exact⟨rfl,O.out⟩
theorem zm1 (fp:ByteArray->Option Nat)(n:ByteArray):(pF fp n).getD (.pointer none)= .pointer ((fp n).map λq=>⟨q,0,none⟩):=by
 unfold pF;cases fp n<;>rfl
theorem zmH (w:World):(zeroValue 101).run q6 w= .ok (.pointer none) w:=by kernel_rfl
theorem DkI.look {W:World}(h:DkA w X bd cnt D p mo fp fv e l)(n:ByteArray)(G:n.size<=qS)(J:∀bm,mo=some bm->W.heap[bm]? =w.heap[bm]?):
  (Instr.lookup 30 (.map mo) (.string n) false).run q6 W= .ok (.pointer ((fp n).map λq=>⟨q,0,none⟩)) W:=by
 cases hm:mo with
 | none=>
  rw[h.nomap hm n];exact Maps.look_nil false (string_keyed underlying9) underlying30 (zmH _) (WideMaps.keyOf_string_mk underlying9 G)
 | some bm=>exact z2g.look ((h.map bm hm).2.block (J bm hm)) underlying9 underlying30 zmH G (zm1 fp n)
theorem zcF (h:DkA w X bd cnt D p mo fp fv e l)(n:ByteArray)(O:n.size<=qS):
  Calls q6 119 #[.pointer (some ⟨bd,0,none⟩),.string n] w λJ w'=>
   ((fp n=none/\J= .returned (.tuple #[.pointer none,.iface 56 (.int .i64 7)]))\/∃q,fp n=some q/\J= .returned (.tuple #[.pointer (some ⟨q,0,none⟩),.nilIface]))/\w'=w:=by
 have c0:=h.c0;have G:=h.look (W:=w) n O (λ_ _=>rfl);clear h;cases hf:fp n with
 | none=>
  rw[hf] at G;simp only[ue] at G;go_enter func119,ntmps119;go_wp2;go_ret2;simp
 | some q=>
  rw[hf] at G;simp only[rK] at G;go_enter func119,ntmps119;go_wp2;go_ret2;exact⟨.inr ⟨q,rfl,rfl⟩,rfl⟩
theorem z7f (h:DkA w X bd cnt D p mo fp fv e l)(n:ByteArray)(V:n.size<=qS):
  Calls q6 134 #[.pointer (some ⟨bd,0,none⟩),.string n] w λG w'=>
   (fp n=none/\G= .returned (.tuple #[.pointer none,.iface 56 (.int .i64 7)])/\w'=w)\/
   (fp n≠none/\p=0/\G= .returned (.tuple #[.pointer none,.iface 56 (.int .i64 14)])/\w'=w)\/
   ∃q,fp n=some q/\p≠0/\G= .returned (.tuple #[.pointer (some ⟨q,0,none⟩),.nilIface])/\ChEnd w X bd cnt D (DK.dec p) mo fp fv w':=by
 have Y:=hid (zcF h n V);have HC:=hid (change_any h);clear h;go_enter func134,ntmps134;go_wp2_with fail;refine Y.out.mono ?_;rintro G w1 ⟨⟨J,rfl⟩|⟨q,J,rfl⟩,rfl⟩
 .go_wp2;go_ret2;exact .inl ⟨J,rfl,rfl⟩
 .go_wp2_with fail;refine HC.out.mono ?_;rintro G w2 (⟨O,rfl,rfl⟩|⟨O,rfl,U⟩)
  .go_wp2;go_ret2;exact .inr (.inl ⟨by rw[J];simp,O,rfl,rfl⟩)
  .have HE:=hid U;clear U;go_wp2;go_ret2;exact .inr (.inr ⟨q,J,O,rfl,HE.out⟩)
end
end
section
open Go.RowKit Go.Maps
def z2n (w:World)(X:Nat->Prop)(bd cnt:Nat)(D:DK.M)(p:Int)(w':World):Prop:=
 ∃X',Dk w' X' bd cnt D p/\XFr X w w'/\∀j,X' j->X j\/w.heap.size<=j
theorem dzcell (w:World)(b:Nat)(a:Array Value)(t:qn)(h:w.heap[b]? =some (.cells a t))(i:Nat)(v:Value)(q:a[i]? =some v):w.cell? ⟨b,i,none⟩=some v:=by simp[qs,h,q]
theorem z3w (w:World)(b:Nat)(a:Array Value)(t:qn)(h:w.heap[b]? =some (.cells a t))(i:Nat):w.frozen? ⟨b,i,none⟩=false:=by simp[wz,h]
section
variable {w : World} {X : Nat → Prop} {bd cnt : Nat} {D : DK.M} {p : Int} {mo : Option Nat} {fp : ByteArray → Option Nat} {fv : ByteArray → Value} {e : Bool} {l : Int}
theorem DkI.mapped (h:DkA w X bd cnt D p none fp fv e l):DkA ((w.setCell ⟨bd,0,none⟩ (.map (some w.heap.size))).alloc (.map #[] 0)) (λj=>X j\/w.heap.size<=j) bd cnt D p (some w.heap.size) fp fv e l:=by
 have q:=h.lt;have G:(w.setCell ⟨bd,0,none⟩ (.map (some w.heap.size))).heap.size=w.heap.size:=by simp
 have J:(w.setCell ⟨bd,0,none⟩ (.map (some w.heap.size))).heap[bd]? =some (.cells #[.map (some w.heap.size),.bool e,.int .i64 l] 32):=by
  rw[qo _ bd 0 _ _ _ h.dsk];rfl
 have V:=z2g.made (w.setCell ⟨bd,0,none⟩ (.map (some w.heap.size))) q6 9;rw[G] at V;refine {xd:= .inl h.xd,dsk:=(Below.heap_alloc _ _ bd (by rw[G];exact q)).trans J,pw:=h.pw,map:=?_,nomap:=λh0=>(by cases h0),files:=?_}
 .intro bm hm;cases hm;refine⟨.inr (qq _),?_⟩;have e1:pF fp=λ_=>none:=by funext n;unfold pF;rw[h.nomap rfl n];rfl
  rw[e1];exact V.mono (qh _)
 .refine(h.files.grow (λ_ Y=> .inl Y)).but h.dsk (by simp) (by simp) λj Y O U=>?_
  exact(Below.heap_alloc _ _ j (by rw[G];exact O)).trans (Below.heap_setCell _ ⟨bd,0,none⟩ _ j U)
theorem zhA (h:X bd):XFr X w ((w.setCell ⟨bd,0,none⟩ (.map (some w.heap.size))).alloc (.map #[] 0)):=
 (XFr.setCell w ⟨bd,0,none⟩ _ h).trans (XFr.alloc X _ _) (λ_ q=> .inl q)
theorem DkI.born {bm:Nat}(h:DkA w X bd cnt D p (some bm) fp fv e l){n:ByteArray}(hn:fp n=none)(hs:n.size<=qS)(hc:cnt<qS):
  ∃w',(Instr.mapUpdate 30 (.map (some bm)) (.string n) (.pointer (some ⟨w.heap.size,0,none⟩))).run q6 (w.alloc (.cells #[.slice none 0 0,.int .i64 0,.bool false] 104))= .ok () w'/\
   DkA w' (λj=>X j\/w.heap.size<=j) bd (cnt+1) (DK.put D n DK.new) p (some bm) (zeD fp n w.heap.size) (zbj fv n (.slice none 0 0)) e l/\(w.alloc (.cells #[.slice none 0 0,.int .i64 0,.bool false] 104)).grownBy w' (some bm):=by
 obtain⟨m1,m2⟩:=h.map bm rfl;obtain⟨es,O,hb⟩:=m2.isMap;have A2:=m2.lt;obtain⟨w',G,hM,U⟩:=(m2.alloc (.cells #[.slice none 0 0,.int .i64 0,.bool false] 104)).store underlying9 underlying30 hc hs (.pointer (some ⟨w.heap.size,0,none⟩));have q:∀j,j<w.heap.size->j≠bm->w'.heap[j]? =w.heap[j]? :=λj hj V=>(U.block j (by simp;omega) (λe=>V (qt e))).trans (Below.heap_alloc w _ j hj)
 have Y:bd≠bm:=λJ=>by
  subst J;rw[h.dsk] at hb;cases hb
 refine⟨w',G,{xd:= .inl h.xd,dsk:=(q bd h.lt Y).trans h.dsk,pw:=h.pw,map:=?_,nomap:=λh0=>(by cases h0),files:=?_},U⟩
 .intro A3 hm;cases hm;refine⟨.inl m1,?_⟩;rw[zk1];exact hM
 .refine h.files.born hn ?_ λj hj A1 hh=>q j A1 (λJ=>?_)
  .rw[U.block w.heap.size (by simp) (λJ=>by have:=qt J;omega)];exact qu w _
  .subst J;rw[hb] at hh;rcases hh with⟨c,h1⟩|⟨c,h1⟩<;>cases h1
def zbp (w:World)(X:Nat->Prop)(bd cnt:Nat)(D:DK.M)(p:Int)(n:ByteArray)(h:rO)(w':World):Prop:=
 ∃q X' mo' fp' fv' e' l',h= .returned (.pointer (some ⟨q,0,none⟩))/\fp' n=some q/\DkA w' X' bd (cnt+1) (DK.put D n ((D n).getD DK.new)) p mo' fp' fv' e' l'/\XFr X w w'/\∀j,X' j->X j\/w.heap.size<=j
theorem zi9 (b:Nat)(W:World):Sem.run q6 (binOp oD 30 (.map (some b)) (.map none)) W= .ok (.bool false) W:=by kernel_rfl
theorem zjb (W:World):Sem.run q6 (binOp oD 30 (.map none) (.map none)) W= .ok (.bool true) W:=by kernel_rfl
theorem made_any (h:DkA w X bd cnt D p mo fp fv e l)(n:ByteArray)(hn:n.size<=qS)(hc:cnt<1000000):
  Calls q6 185 #[.pointer (some ⟨bd,0,none⟩),.string n] w λen w'=>zbp w X bd cnt D p n en w':=by
 have A5:= @run_makeMap q6;cases mo with
 | some bm=>
  have A1:=zi9 bm;have c0:=h.c0;have hL:=h.look (W:=w) n hn (λ_ _=>rfl);have HI:=hid h;have A2:=h.lt;clear h;cases U:fp n with
  | some q=>
   rw[U] at hL;simp only[rK] at hL;go_enter func185,ntmps185;go_wp2;go_ret;obtain⟨f,hD⟩:=HI.out.files.zhP U;refine⟨q,X,some bm,fp,fv,e,l,rfl,U,?_,XFr.refl _ _,λj G=> .inl G⟩;rw[hD];show DkA _ _ _ _ (DK.put D n f) _ _ _ _ _ _;rw[DK.ziW D n f hD];exact HI.out.mono (wP _)
  | none=>
   rw[U] at hL;simp only[ue] at hL;have hD:D n=none:=(HI.out.files.no n).1 U;obtain⟨w',Y,V,hg⟩:=HI.out.born U hn (by unfold qS;omega);have A3:=V.c0;have J:=V.look (W:=w') n hn (λ_ _=>rfl);rw[z0I] at J;simp only[rK] at J;have HQ:Hid (zbp w X bd cnt D p n (.returned (.pointer (some ⟨w.heap.size,0,none⟩))) w'):=by
    refine⟨w.heap.size,_,some bm,zeD fp n w.heap.size,zbj fv n (.slice none 0 0),e,l,rfl,z0I _ _ _,?_,?_,λj G=>G⟩
    .rw[hD];exact V
    .exact(XFr.alloc X w _).trans (XFr.grown (X:=X) hg (λj G=>by cases G;exact .inl (HI.out.map bm rfl).1)) (λj G=> .inl G)
   clear V hg;go_enter func185,ntmps185;go_wp2;go_ret;exact HQ.out
 | none=>
  have A1:=zjb;have c0:=h.c0;have f0:=h.fr 0;have A2:=h.lt;have U:=h.nomap rfl n;have hD:D n=none:=(h.files.no n).1 U;have A4:=hid (zhA (w:=w) h.xd);have HM:=hid h.mapped;clear h;have A3:=HM.out.c0;have hL:=HM.out.look (W:=(w.setCell ⟨bd,0,none⟩ (.map (some w.heap.size))).alloc (.map #[] 0)) n hn (λ_ _=>rfl);rw[U] at hL;simp only[ue] at hL;obtain⟨w',Y,V,hg⟩:=HM.out.born U hn (by unfold qS;omega);have A6:=V.c0;have J:=V.look (W:=w') n hn (λ_ _=>rfl);rw[z0I] at J;simp only[rK] at J;have O:((w.setCell ⟨bd,0,none⟩ (.map (some w.heap.size))).alloc (.map #[] 0)).heap.size=w.heap.size+1:=by simp
  have HQ:Hid (zbp w X bd cnt D p n (.returned (.pointer (some ⟨w.heap.size+1,0,none⟩))) w'):=by
   rw[O] at V;refine⟨w.heap.size+1,λj=>(X j\/w.heap.size<=j)\/w.heap.size+1<=j,some w.heap.size,zeD fp n (w.heap.size+1),zbj fv n (.slice none 0 0),e,l,rfl,z0I _ _ _,?_,?_,?_⟩
   .rw[hD];exact V
   .exact A4.out.trans ((XFr.alloc (λj=>X j\/w.heap.size<=j) _ _).trans (XFr.grown (X:=λj=>X j\/w.heap.size<=j) hg (λj G=>by cases G;exact .inl (.inr (qq _)))) (λj G=> .inl G)) (λj G=>G)
   .intro j G;rcases G with G|G
    .exact G
    .exact .inr (by omega)
  clear V hg;rw[O] at Y J;clear O;go_enter func185,ntmps185;go_wp2;go_ret;exact HQ.out
theorem DkI.setRow {J:World}{n:ByteArray}{q:Nat}{f:DK.Fl}{v':Value}{b':ByteArray}(h:DkA w X bd cnt D p mo fp fv e l)(hq:fp n=some q)(hD:D n=some f)(hr:z5U J v' b')(hg:w.grownBy J (fv n).ownBlock)(hl:v'.ownBlock=(fv n).ownBlock\/v'.ownBlock=some w.heap.size):
  J.cell? ⟨q,0,none⟩=some (fv n)/\J.frozen? ⟨q,0,none⟩=false/\DkA (J.setCell ⟨q,0,none⟩ v') (λj=>X j\/w.heap.size<=j) bd cnt (DK.put D n ⟨b',f.s,f.k⟩) p mo fp (zbj fv n v') e l/\XFr X w (J.setCell ⟨q,0,none⟩ v'):=by
 obtain⟨b1,b2,b3,b4⟩:=h.files.body n q f hq hD;have A1:some q≠(fv n).ownBlock:=λU=>by
  obtain⟨A2,V⟩:=b3.at U.symm;rw[b2] at V;simp at V
 have O:=(hg.block q (z00 b2) A1).trans b2;have hv'q:∀g,v'.ownBlock=some g->g≠q:=by
  intro g G U;subst U;obtain⟨A2,V⟩:=hr.at G;rw[O] at V;simp at V
 refine⟨dzcell _ q _ _ O 0 _ rfl,z3w _ q _ _ O 0,h.set (w':=J.setCell ⟨q,0,none⟩ v') (f':=⟨b',f.s,f.k⟩) (v':=v') hq (by simpa using hg.size) ?_ ?_ ?_ ?_,?_⟩
 .intro j Y A3 A4;exact(Below.heap_setCell J ⟨q,0,none⟩ _ j A3).trans (hg.block j Y (λU=>A4 U.symm))
 .rw[qo J q 0 _ _ _ O];rfl
 .exact hr.block λg G=>Below.heap_setCell J ⟨q,0,none⟩ _ g (hv'q g G)
 .intro g G;rcases hl with h1|h1
  .exact .inl (h1▸G)
  .rw[h1] at G;exact .inr (Nat.le_of_eq (qt G))
 .exact(XFr.grown (X:=X) hg (λj Y=> .inl (b4 j Y))).trans (XFr.setCell J ⟨q,0,none⟩ v' (X:=X) b1) (λj Y=> .inl Y)
theorem wpList_append_row {ops:Array Oper}{rest:List Oper}{o:Oper}{a:Act}{Q:Exit->Act->World->Prop}(G:o.guard=none)(V x:Operand)
  (Y:o.op= .call {callee:= .builtin .append,args:=#[V,x],argTypes:=#[102,9]}) (v:Value) (b s:ByteArray) (hs:a.eval V=v) (hx:a.eval x= .string s) (hr:z5U w v b) (hb:b.size+s.size<=140737488355328)
  (h:∀v' w',z5U w' v' (b++s)->w.grownBy w' v.ownBlock->(v'.ownBlock=v.ownBlock\/v'.ownBlock=some w.heap.size)->wpList q6 ops Q rest (a.put o.dst v') w'):wpList q6 ops Q (o::rest) a w:=by
 obtain⟨i,hi,J,O,U⟩:=uP Tryz.info5;refine wpList_plain G λK hK=>?_
 obtain⟨v',w',q,h2,h3,h4⟩:=hr.append (P:=q6) (t:=102) (u:=9) o.type underlying102 underlying9 hi J O U s hb;unfold oy execOp;simp only[Y,resolve,invoke,builtin,Sem.run_bind,Sem.run_pure,Result.andThen_ok,List.map_toArray,List.map_cons,List.map_nil,hs,hx,q];exact hK _ _ (h v' w' h2 h3 h4)
end
end
section
open Go.RowKit Go.Maps
def MetEnd (a:Nat)(w:World)(X:Nat->Prop)(bd cnt:Nat)(D:DK.M)(p:Int)(n s:ByteArray)(h:rO)(w':World):Prop:=
 h= .returned (er (DK.code a D p n s))/\z2n w X bd (cnt+1) (DK.z6V a D p n s) (DK.z99 a D p n s) w'
section
variable {w : World} {X : Nat → Prop} {bd cnt : Nat} {D : DK.M} {p : Int} {mo : Option Nat} {fp : ByteArray → Option Nat} {fv : ByteArray → Value} {e : Bool} {l : Int}
theorem MetEnd.err {a:Nat}{n s:ByteArray}{c:Int}(h:DkA w X bd cnt D p mo fp fv e l)(q:DK.code a D p n s=c)(G:c≠0):MetEnd a w X bd cnt D p n s (.returned (.iface 56 (.int .i64 c))) w:=by
 refine⟨?_,X,⟨mo,fp,fv,e,l,?_⟩,XFr.refl _ _,λj J=> .inl J⟩
 .rw[q];unfold er;rw[if_neg G]
 .unfold DK.z6V DK.z99;rw[if_neg (by rw[q];exact G),if_neg (by rw[q];exact G)];exact h.mono (wP _)
theorem MetEnd.ok {a:Nat}{n s:ByteArray}{w':World}(q:DK.code a D p n s=0)(h:z2n w X bd (cnt+1) (DK.next a D n s) (DK.dec p) w'):MetEnd a w X bd cnt D p n s (.returned .nilIface) w':=by
 refine⟨?_,?_⟩
 .rw[q];rfl
 .unfold DK.z6V DK.z99;rw[if_pos q,if_pos q];exact h
theorem ChEnd.fr {w':World}(h:w.grownBy w' (some bd))(q:X bd):XFr X w w':=XFr.grown h (λj G=>by cases G;exact .inl q)
theorem append_any (h : DkA w X bd cnt D p mo fp fv e l) (n s : ByteArray) (hn : n.size ≤ maxLen) (hc : cnt < 1000000) (hF : DK.Fine 100000000 D) (hs : s.size ≤ 100000000) :
    Calls Tryz.prog 140 #[.pointer (some ⟨bd, 0, none⟩), .string n, .string s] w fun en w' => MetEnd 0 w X bd cnt D p n s en w' := by
  have HI := hid h
  have HC := hid (change_any h)
  have HF := hid hF
  clear h hF
  go_enter Tryz.func140, Tryz.ntmps140
  go_wp2_with fail
  refine (named_any n w).mono ?_
  rintro en w1 ⟨rfl, rfl⟩
  cases hnm : DK.named n with
  | false =>
    have HQ := hid (MetEnd.err HI.out (DK.code_arg (a := 0) (s := s) (.inl ⟨rfl, hnm⟩)) (by omega))
    go_wp2
    go_ret
    exact HQ.out
  | true =>
    go_wp2_with fail
    refine HC.out.mono ?_
    rintro en w2 (⟨hp, rfl, rfl⟩ | ⟨hp, rfl, ⟨e2, l2, h2⟩, hg2⟩)
    · subst hp
      have HQ := hid (MetEnd.err HI.out (DK.code_off (a := 0) (s := s) (fun _ => hnm) (by omega) (by omega)) (by omega))
      go_wp2
      go_ret
      exact HQ.out
    · have HX2 := hid (ChEnd.fr hg2 h2.xd)
      have HM := hid (made_any h2 n hn hc)
      have HP := hid hp
      clear h2 hg2 hp HC
      go_wp2_with fail
      refine HM.out.mono ?_
      rintro en w3 ⟨q, X3, mo3, fp3, fv3, e3, l3, rfl, hq, h3, hx3, hsub3⟩
      have hD3 : DK.put D n ((D n).getD DK.new) n = some ((D n).getD DK.new) := DK.put_same _ _ _
      obtain ⟨b1, b2, b3, b4⟩ := h3.files.body n q _ hq hD3
      have hc0 := dzcell _ q _ _ b2 0 (fv3 n) rfl
      have H3 := hid h3
      have HR3 := hid b3
      have HX3 := hid hx3
      have HS3 := hid hsub3
      have HD3 := hid hD3
      have HQq := hid hq
      have hsz : ((D n).getD DK.new).b.size ≤ 100000000 := (DK.getD_fine HF.out n).1
      clear h3 hx3 hsub3 b1 b2 b3 b4 hD3 HM hq
      have HXX := hid (HX2.out.trans (HX3.out) (fun j hj => .inl hj))
      have hsz23 := HX3.out.size
      have hsz12 := HX2.out.size
      go_wp2_with (at_builtin; refine wpList_append_row rfl (.tmp 25) (.tmp 26) rfl (fv3 n) _ s rfl rfl HR3.out (by omega) ?_)
      intro v5 w5 hr5 hg5 hl5
      obtain ⟨a5, k5, c5, rfl⟩ : ∃ (ao : Option Addr) (k c : Nat), v5 = .slice ao k c := by
        obtain ⟨ao, cap, h0, _⟩ := hr5.shape
        exact ⟨ao, _, cap, h0⟩
      obtain ⟨hc5, hf5, h5, hx5⟩ := DkI.setRow H3.out HQq.out HD3.out hr5 hg5 hl5
      rw [DK.put_put] at h5
      have HQ : Hid (MetEnd 0 w1 X bd cnt D p n s (.returned .nilIface) (w5.setCell ⟨q, 0, none⟩ (.slice a5 k5 c5))) := by
        refine MetEnd.ok (DK.code_ok (fun _ => hnm) (by omega) (by omega) HP.out) ⟨_, ⟨mo3, fp3, _, e3, l3, h5⟩, ?_, ?_⟩
        · exact HXX.out.trans hx5 (fun j hj => by rcases HS3.out j hj with h1 | h1
                                                  · exact .inl h1
                                                  · exact .inr (by omega))
        · rintro j (hj | hj)
          · rcases HS3.out j hj with h1 | h1
            · exact .inl h1
            · exact .inr (by omega)
          · exact .inr (by omega)
      clear h5 hx5 hr5 hg5 hl5
      go_wp2
      go_ret
      exact HQ.out
theorem zdg (h:DkA w X bd cnt D p mo fp fv e l)(n:ByteArray)(hn:n.size<=qS):
  Calls q6 64 #[.pointer (some ⟨bd,0,none⟩),.string n] w λJ w'=>
   ((D n=none/\J= .returned (.tuple #[.string qy,.iface 56 (.int .i64 7)]))\/∃f,D n=some f/\J= .returned (.tuple #[.string f.b,.nilIface]))/\w'=w:=by
 have U:=hid (zcF h n hn);have O:=hid h;clear h;go_enter func64,ntmps64;go_wp2_with fail;refine U.out.mono ?_;rintro J w1 ⟨⟨G,rfl⟩|⟨q,G,rfl⟩,rfl⟩
 .go_wp2;go_ret2;exact⟨.inl ⟨(O.out.files.no n).1 G,rfl⟩,rfl⟩
 .obtain⟨f,V⟩:=O.out.files.zhP G;obtain⟨b1,b2,Y,b4⟩:=O.out.files.body n q f G V;have A1:=dzcell _ q _ _ b2 0 (fv n) rfl;have A2:=Y.text (P:=q6) (src:=102) (dst:=9) underlying102 underlying5 underlying9;clear b1 b2 Y b4 U;go_wp2;go_ret2;exact⟨.inr ⟨f,V,rfl⟩,rfl⟩
theorem z6q (h:DkA w X bd cnt D p mo fp fv e l)(n:ByteArray)(hn:n.size<=qS):
  Calls q6 122 #[.pointer (some ⟨bd,0,none⟩),.string n] w λen w'=>MetEnd 1 w X bd cnt D p n qy en w':=by
 have HT:=hid (z7f h n hn);have U:=hid h;clear h;go_enter func122,ntmps122;go_wp2_with fail;refine HT.out.mono ?_;rintro en w1 (⟨O,rfl,rfl⟩|⟨O,hp,rfl,rfl⟩|⟨q,O,hp,rfl,⟨e1,l1,h1⟩,J⟩)
 .go_wp2;go_ret;exact MetEnd.err U.out (DK.code_missing (by omega) (by omega) ((U.out.files.no n).1 O)) (by omega)
 .go_wp2;go_ret;subst hp;exact MetEnd.err U.out (DK.code_off (by omega) (by omega) (λ_ V=>O ((U.out.files.no n).2 V))) (by omega)
 .obtain⟨f,V⟩:=U.out.files.zhP O;obtain⟨b1,b2,Y,b4⟩:=h1.files.body n q f O V;have H1:=hid h1;have HG:=hid J;have HB:=hid b2;have HR:=hid Y;have A3:=dzcell _ q _ _ b2 0 (fv n) rfl;have A4:=dzcell _ q _ _ b2 1 _ rfl;have A5:=dzcell _ q _ _ b2 2 _ rfl;have A6:=z3w _ q _ _ b2 1;have A7:=z3w _ q _ _ b2 2;obtain⟨ao,cap,hv,_⟩:=Y.shape;have HV:=hid hv;rw[hv] at A3;have HE:Hid (z2n w X bd (cnt+1) (DK.next 1 D n qy) (DK.dec p) ((w1.setCell ⟨q,1,none⟩ (.int .i64 f.b.size)).setCell ⟨q,2,none⟩ (.bool true))):=by
   have A1:∀j,j≠q->((w1.setCell ⟨q,1,none⟩ (.int .i64 f.b.size)).setCell ⟨q,2,none⟩ (.bool true)).heap[j]? =w1.heap[j]? :=λj G=>(Below.heap_setCell _ ⟨q,2,none⟩ _ j G).trans (Below.heap_setCell w1 ⟨q,1,none⟩ _ j G)
   have A2:=(h1.set (w':=(w1.setCell ⟨q,1,none⟩ (.int .i64 f.b.size)).setCell ⟨q,2,none⟩ (.bool true)) (f':=⟨f.b,f.b.size,true⟩) (v':=fv n) O (by simp) (λj _ G _=>A1 j G) (by rw[qo _ q 2 _ _ _ (qo w1 q 1 _ _ _ b2)];rfl)
    (Y.block λg hg=>A1 g (λe2=>by
     subst e2;obtain⟨A8,hc⟩:=Y.at hg;rw[b2] at hc;simp at hc)) (λg hg=> .inl hg)).mono (wP _)
   refine⟨λj=>X j\/w1.heap.size<=j,⟨mo,fp,zbj fv n (fv n),e1,l1,?_⟩,(ChEnd.fr J h1.xd).trans ((XFr.setCell w1 ⟨q,1,none⟩ _ (X:=X) b1).trans (XFr.setCell _ ⟨q,2,none⟩ _ (X:=X) b1) (λj G=> .inl G)) (λj G=> .inl G),?_⟩
   .unfold DK.next
    rw[V];exact A2
   .rintro j (G|G)
    .exact .inl G
    .exact .inr (qi J.size G)
  have HQ:=hid (MetEnd.ok (DK.code_ok (a:=1) (s:=qy) (by omega) (by omega) (λ_ h0=>by rw[V] at h0;cases h0) hp) HE.out);clear h1 J b1 b2 Y b4 hv HT;go_wp2;go_ret;exact HQ.out
theorem z5x (h:DkA w X bd cnt D p mo fp fv e l)(n:ByteArray)(hn:n.size<=qS):
  Calls q6 77 #[.pointer (some ⟨bd,0,none⟩),.string n] w λen w'=>MetEnd 3 w X bd cnt D p n qy en w':=by
 have HT:=hid (z7f h n hn);have U:=hid h;clear h;go_enter func77,ntmps77;go_wp2_with fail;refine HT.out.mono ?_;rintro en w1 (⟨J,rfl,rfl⟩|⟨J,hp,rfl,rfl⟩|⟨q,J,hp,rfl,⟨e1,l1,h1⟩,V⟩)
 .go_wp2;go_ret;exact MetEnd.err U.out (DK.code_missing (by omega) (by omega) ((U.out.files.no n).1 J)) (by omega)
 .go_wp2;go_ret;subst hp;exact MetEnd.err U.out (DK.code_off (by omega) (by omega) (λ_ hD=>J ((U.out.files.no n).2 hD))) (by omega)
 .obtain⟨f,hD⟩:=U.out.files.zhP J;cases mo with
  | none=>rw[h1.nomap rfl n] at J;cases J
  | some bm=>
   have c0:=h1.c0;obtain⟨m1,m2⟩:=h1.map bm rfl;obtain⟨w2,G,hM,O,_⟩:=m2.drop underlying9 underlying30 hn 0;have A1:∀ty,(yc #[30,9] ty #[.map (some bm),.string n]).run q6 w1= .ok (.tuple #[]) w2:=λty=>G
   rw[<-zfz] at hM;have HQ:Hid (MetEnd 3 w X bd cnt D p n qy (.returned .nilIface) w2):=by
    refine MetEnd.ok (DK.code_ok (a:=3) (by omega) (by omega) (λ_ h0=>by rw[hD] at h0;cases h0) hp) ⟨X,⟨some bm,_,_,e1,l1,(h1.zjw rfl O hM (h1.files.cut n)).mono (wP _)⟩,(ChEnd.fr V h1.xd).trans (XFr.grown (X:=X) O (λj Y=>by cases Y;exact .inl m1)) (λj Y=> .inl Y),λj Y=> .inl Y⟩
   clear h1 V m1 m2 hM O HT G;go_wp2;go_ret;exact HQ.out
theorem zjf (h:DkA w X bd cnt D p mo fp fv e l)(n zto:ByteArray)(hn:n.size<=qS)(ht:zto.size<=qS)(hc:cnt<1000000):
  Calls q6 169 #[.pointer (some ⟨bd,0,none⟩),.string n,.string zto] w λen w'=>MetEnd 2 w X bd cnt D p n zto en w':=by
 have HT:=hid (z7f h n hn);have Y:=hid h;clear h;go_enter func169,ntmps169;go_wp2_with fail;refine(named_any zto w).mono ?_;rintro en w0 ⟨rfl,rfl⟩;cases hnm:DK.named zto with
 | false=>
  have HQ:=hid (MetEnd.err Y.out (DK.code_arg (a:=2) (n:=n) (.inr ⟨rfl,hnm⟩)) (by omega));go_wp2;go_ret;exact HQ.out
 | true=>
  go_wp2_with fail;refine HT.out.mono ?_;rintro en w1 (⟨J,rfl,rfl⟩|⟨J,hp,rfl,rfl⟩|⟨q,J,hp,rfl,⟨e1,l1,h1⟩,A1⟩)
  .go_wp2;go_ret;exact MetEnd.err Y.out (DK.code_missing (by omega) (λ_=>hnm) ((Y.out.files.no n).1 J)) (by omega)
  .go_wp2;go_ret;subst hp;exact MetEnd.err Y.out (DK.code_off (by omega) (λ_=>hnm) (λ_ hD=>J ((Y.out.files.no n).2 hD))) (by omega)
  .obtain⟨f,hD⟩:=Y.out.files.zhP J;cases mo with
   | none=>rw[h1.nomap rfl n] at J;cases J
   | some bm=>
    have c0:=h1.c0;obtain⟨m1,m2⟩:=h1.map bm rfl;obtain⟨w2,O,hM,U,_⟩:=m2.drop underlying9 underlying30 hn 0;have A4:∀ty,(yc #[30,9] ty #[.map (some bm),.string n]).run q6 w1= .ok (.tuple #[]) w2:=λty=>O
    rw[<-zfz] at hM;have h2:=h1.zjw rfl U hM (h1.files.cut n);have A5:=h2.c0;obtain⟨w3,A3,V,A2⟩:=hM.store underlying9 underlying30 (by unfold qS;omega) ht (.pointer (some ⟨q,0,none⟩));rw[<-zk1] at V;have G:=U.trans A2;have HQ:Hid (MetEnd 2 w0 X bd cnt D p n zto (.returned .nilIface) w3):=by
     refine MetEnd.ok (DK.code_ok (a:=2) (by omega) (λ_=>hnm) (λ_ h0=>by rw[hD] at h0;cases h0) hp) ⟨X,⟨some bm,zeD (zdU fp n) zto q,zbj fv zto (fv n),e1,l1,?_⟩,(ChEnd.fr A1 h1.xd).trans (XFr.grown (X:=X) G (λj hj=>by cases hj;exact .inl m1)) (λj hj=> .inl hj),λj hj=> .inl hj⟩;unfold DK.next
     rw[hD];exact h1.zjw rfl G V (h1.files.move J hD)
    clear h1 h2 A1 m1 m2 hM U HT O V A2 G;go_wp2;go_ret;exact HQ.out
end
end
section
namespace WL
def enc (s:ByteArray):ByteArray:=⟨#[qX (s.size/256),qX (s.size%256)]⟩++s
def joined:List ByteArray->ByteArray
 | []=>qy
 | s::l=>enc s++joined l
theorem zcb {a b:ByteArray}(h:a.data.toList=b.data.toList):a=b:=by
 cases a;cases b;simp at h;rw[h]
theorem data_append (a b:ByteArray):(a++b).data.toList=a.data.toList++b.data.toList:=by simp
theorem size_data (a:ByteArray):a.data.toList.length=a.size:=by rw[qE];rfl
theorem z2O (s:ByteArray):(enc s).data.toList=qX (s.size/256)::qX (s.size%256)::s.data.toList:=by
 unfold enc;rw[data_append];rfl
theorem z1D (s:ByteArray):(enc s).size=2+s.size:=by
 rw[<-size_data,z2O,qf,qf,size_data];omega
theorem z8I (a b:List ByteArray):joined (a++b)=joined a++joined b:=by
 induction a with
 | nil=>apply zcb;rw[data_append];rfl
 | cons s l ih=>
  show enc s++joined (l++b)=(enc s++joined l)++joined b;rw[ih,ByteArray.append_assoc]
theorem append_empty (a:ByteArray):a++qy=a:=by apply zcb;rw[data_append];simp
theorem empty_append (a:ByteArray):qy++a=a:=by apply zcb;rw[data_append];simp
theorem z1k (a:List ByteArray)(s:ByteArray):joined (a++[s])=joined a++enc s:=by
 rw[z8I];show joined a++(enc s++qy)=_;rw[append_empty]
theorem z6F (a b:ByteArray)(m:Nat):(a++b).extract 0 (a.size+m)=a++b.extract 0 m:=by
 apply zcb;have z:=size_data a;have h:((a++b).extract 0 (a.size+m)).data.toList=(a.data.toList++b.data.toList).take (a.size+m):=by
  rw[wA,wB,data_append,rb,List.drop_zero,Nat.sub_zero]
 have q:(b.extract 0 m).data.toList=b.data.toList.take m:=by simp[wA,wB]
 rw[h,data_append,q,<-z,List.take_length_add_append]
theorem zaf (a b:ByteArray):(a++b).extract a.size (a.size+b.size)=b:=by
 apply zcb;have z:=size_data a;have h:=size_data b;rw[wA,wB,data_append,rb,<-z,List.drop_left,<-h,uM,List.take_length]
def hdr:List UInt8->Nat
 | a::b::_=>256*a.toNat+b.toNat
 | _=>0
def z9C (r:ByteArray):Prop:=r.size<2+hdr r.data.toList
theorem z9C.empty:z9C qy:=by unfold z9C;show 0<2+_;omega
theorem z8T (s:ByteArray)(h:s.size<65536)(l:List UInt8):hdr ((enc s).data.toList++l)=s.size:=by
 rw[z2O];show 256*(qX _).toNat+(qX _).toNat=_;simp only[wi];omega
def Sm (l:List ByteArray):Prop:=∀s∈l,s.size<65536
theorem Sm.append {a b:List ByteArray}(h:Sm a)(hb:Sm b):Sm (a++b):=λs q=>(List.mem_append.1 q).elim (h s) (hb s)
theorem Sm.one {s:ByteArray}(h:s.size<65536):Sm [s]:=λt q=>by rw[List.mem_singleton.1 q];exact h
theorem unique:∀{a b:List ByteArray} {r r':ByteArray},Sm a->Sm b->z9C r->z9C r'->joined a++r=joined b++r'->a=b/\r=r'
 | [],[],r,r',_,_,_,_,h=>by
  refine⟨rfl,?_⟩;have:=congrArg (λx=>x.data.toList) h;simp only[data_append] at this;exact zcb (by simpa [joined] using this)
 | [],s::b,r,r',_,hb,hr,_,h=>by
  exfalso;have q:r.data.toList=(enc s).data.toList++((joined b).data.toList++r'.data.toList):=by
   have:=congrArg (λx=>x.data.toList) h;simp only[data_append,joined] at this;simpa using this
  have G:=z8T s (hb s (by simp)) ((joined b).data.toList++r'.data.toList);unfold z9C at hr;rw[<-q] at G;have J:=congrArg uY q;rw[q8,size_data,size_data,z1D] at J;omega
 | s::a,[],r,r',ha,_,_,hr',h=>by
  exfalso;have q:r'.data.toList=(enc s).data.toList++((joined a).data.toList++r.data.toList):=by
   have:=congrArg (λx=>x.data.toList) h;simp only[data_append,joined] at this;simpa using this.symm
  have G:=z8T s (ha s (by simp)) ((joined a).data.toList++r.data.toList);unfold z9C at hr';rw[<-q] at G;have J:=congrArg uY q;rw[q8,size_data,size_data,z1D] at J;omega
 | s::a,t::b,r,r',ha,hb,hr,hr',h=>by
  have q:(enc s).data.toList++((joined a).data.toList++r.data.toList)=(enc t).data.toList++((joined b).data.toList++r'.data.toList):=by
   have:=congrArg (λx=>x.data.toList) h;simp only[data_append,joined] at this;simpa using this
  have O:=z8T s (ha s (by simp)) ((joined a).data.toList++r.data.toList);have h2:=z8T t (hb t (by simp)) ((joined b).data.toList++r'.data.toList);rw[q,h2] at O;obtain⟨Y,e2⟩:=List.append_inj q (by rw[size_data,size_data,z1D,z1D,O]);have U:s=t:=by
   rw[z2O,z2O,O] at Y;exact zcb (tw (tw Y).2).2
  have e3:joined a++r=joined b++r':=zcb (by rw[data_append,data_append];exact e2);obtain⟨e4,e5⟩:=unique (λx V=>ha x (by simp[V])) (λx V=>hb x (by simp[V])) hr hr' e3;exact⟨by rw[U,e4],e5⟩
theorem zgU (s:ByteArray)(O:s.size<65536)(m:Nat)(h:m<(enc s).size):z9C ((enc s).extract 0 m):=by
 unfold z9C;have q:((enc s).extract 0 m).size=m:=by rw[eD];omega
 rw[q];by_cases U:m<2
 .omega
 .have G:((enc s).extract 0 m).data.toList=((enc s).data.toList).take m:=by
   simp[wA,wB]
  rw[z1D] at h;rw[G,z2O];obtain⟨k,rfl⟩:∃k,m=k+2:=⟨m-2,by omega⟩;have J:hdr (List.take (k+2) (qX (s.size/256)::qX (s.size%256)::s.data.toList))=s.size:=by
   show 256*(qX _).toNat+(qX _).toNat=_;simp only[wi];omega
  rw[J];omega
theorem zev (s:ByteArray)(m:Nat)(h:(enc s).size<=m):(enc s).extract 0 m=enc s:=by
 apply zcb;simp only[wA,wB];simp;rw[qL];rw[size_data];exact h
theorem zjF (r:ByteArray)(H:Nat)(J:hdr r.data.toList=H)(h2:2<=r.size)(h:2+H<=r.size):(r.extract 2 (2+H)).size=H/\∃r',r=enc (r.extract 2 (2+H))++r':=by
 have O:(r.extract 2 (2+H)).size=H:=by rw[eD];omega
 refine⟨O,?_⟩;have G:=size_data r;have U:(r.extract 2 (2+H)).data.toList=(r.data.toList.drop 2).take H:=by
  rw[wA,wB,rb,uM]
 have key:∀l:List UInt8,r.data.toList=l->∃r':ByteArray,r=enc (r.extract 2 (2+H))++r':=by
  intro l q
  match l,q with
  | [],q=>rw[q] at G;simp at G;omega
  | [a],q=>rw[q] at G;simp at G;omega
  | a::b::t,q=>
   refine⟨⟨(t.drop H).toArray⟩,zcb ?_⟩;rw[data_append,z2O,O,U,q];rw[q] at J;have V:256*a.toNat+b.toNat=H:=J;have hb:=UInt8.toNat_lt b;have Y:qX (H/256)=a:=by
    have:H/256=a.toNat:=by omega
    rw[this];exact iD
   have eb:qX (H%256)=b:=by
    have:H%256=b.toNat:=by omega
    rw[this];exact iD
   rw[Y,eb];simp
 exact key _ rfl
abbrev Out:=Int×DK.M×Int
def act (a:Nat)(n s:ByteArray)(D:DK.M)(p:Int):Out:=(DK.code a D p n s,DK.z6V a D p n s,DK.z99 a D p n s)
def seq (r:Out)(f:DK.M->Int->Out):Out:=if r.1=0 then f r.2.1 r.2.2 else r
def bear (r:Out):Out:=(if r.1=7 then 0 else r.1,r.2)
def repl (K F t:ByteArray)(D:DK.M)(p:Int):Out:=
 seq (bear (act 3 F qy D p)) λD p=>seq (act 0 F t D p) λD p=>seq (act 1 F qy D p) λD p=>act 2 F K D p
def z1V (K s:ByteArray)(D:DK.M)(p:Int):Out:=seq (act 0 K (enc s) D p) λD p=>act 1 K qy D p
def z9R (K F t:ByteArray)(n:Nat)(D:DK.M)(p:Int):Out:=
 if n<t.size then repl K F (t.extract 0 n) D p else seq (bear (act 3 F qy D p)) λD p=>bear (act 1 K qy D p)
section
variable {K F : ByteArray}
theorem z2t {a:Nat}{n s:ByteArray}{D:DK.M}{p:Int}(h:a=0->DK.named n=true)(q:a=2->DK.named s=true)(G:a≠0->D n≠none)(J:p≠0):act a n s D p=(0,DK.next a D n s,DK.dec p):=by
 have O:=DK.code_ok (a:=a) (p:=p) (s:=s) h q G J;unfold act DK.z6V DK.z99;rw[O,if_pos rfl,if_pos rfl]
theorem z3l {a:Nat}{n s:ByteArray}{D:DK.M}(h:a=0->DK.named n=true)(q:a=2->DK.named s=true)(G:a≠0->D n≠none):act a n s D 0=(14,D,0):=by
 have J:=DK.code_off (a:=a) (s:=s) h q G;unfold act DK.z6V DK.z99;rw[J,if_neg (by omega),if_neg (by omega)]
theorem z6i {a:Nat}{n s:ByteArray}{D:DK.M}{p:Int}(h:a≠0)(q:a=2->DK.named s=true)(G:D n=none):act a n s D p=(7,D,p):=by
 have J:=DK.code_missing (a:=a) (p:=p) (s:=s) h q G;unfold act DK.z6V DK.z99;rw[J,if_neg (by omega),if_neg (by omega)]
theorem z3G {D:DK.M}{n s:ByteArray}(h:D n=none):DK.next 0 D n s=DK.put D n ⟨s,0,false⟩:=by
 unfold DK.next DK.gr
 rw[h];show DK.put D n ⟨qy++s,0,false⟩=_;rw[empty_append]
theorem z7W {D:DK.M}{n s:ByteArray}{f:DK.Fl}(h:D n=some f):DK.next 0 D n s=DK.put D n ⟨f.b++s,f.s,f.k⟩:=by
 unfold DK.next DK.gr
 rw[h];rfl
theorem z2E {D:DK.M}{n s:ByteArray}{f:DK.Fl}(h:D n=some f):DK.next 1 D n s=DK.put D n ⟨f.b,f.b.size,true⟩:=by
 unfold DK.next
 rw[h];rfl
theorem zep {D:DK.M}{n s:ByteArray}{f:DK.Fl}(h:D n=some f):DK.next 2 D n s=DK.put (DK.del D n) s f:=by
 unfold DK.next
 rw[h];rfl
theorem zlv {D:DK.M}{n s:ByteArray}:DK.next 3 D n s=DK.del D n:=rfl
theorem zka:DK.dec (-1)= -1:=rfl
theorem seq_ok {D:DK.M}{p:Int}{f:DK.M->Int->Out}:seq (0,D,p) f=f D p:=by unfold seq;rw[if_pos rfl]
theorem z5g {D:DK.M}{p:Int}{f:DK.M->Int->Out}:seq (14,D,p) f=(14,D,p):=by unfold seq;rw[if_neg (by omega)]
theorem zb4 {D:DK.M}{p:Int}:bear (0,D,p)=(0,D,p):=rfl
theorem z4D {D:DK.M}{p:Int}:bear (7,D,p)=(0,D,p):=rfl
end
end WL
end
section
open Go.RowKit Go.Extern.Stop Go.Stop Go.Extern
theorem zfR (v:Value)(w:World):(ReflectliteType.typeOf #[.iface 56 v]).run q6 w= .ok (.iface 227 (.agg #[.pointer (some ⟨5,56,none⟩)])) w:=by kernel_rfl
def zn0:Array Value->Sem Value:=ReflectliteType.method λt=>do Rtype.noPackHeld "Comparable" t;pure (.bool (<-typeInfo t).comparable)
theorem z9t (w:World):(zn0 #[.agg #[.pointer (some ⟨5,56,none⟩)]]).run q6 w= .ok (.bool true) w:=by kernel_rfl
theorem zfk (v:Value)(w:World):(Go.method 479 227 v "Comparable").run q6 w= .ok (294,v) w:=by kernel_rfl
theorem zkF (v:Value)(h:qn)(w:World):(yy (.iface 56 v) h 313 true).run q6 w= .ok (.tuple #[.nilIface,.bool false]) w:=yU underlying313 (by kernel_rfl) (by kernel_rfl) v h w
theorem zbE (v:Value)(h:qn)(w:World):(yy (.iface 56 v) h 235 true).run q6 w= .ok (.tuple #[.nilIface,.bool false]) w:=yU underlying235 (by kernel_rfl) (by kernel_rfl) v h w
theorem z9J (v:Value)(h:qn)(w:World):(yy (.iface 56 v) h 236 true).run q6 w= .ok (.tuple #[.nilIface,.bool false]) w:=yU underlying236 (by kernel_rfl) (by kernel_rfl) v h w
theorem zl0:(q6.info? 56).map (·.comparable)=some true:=by kernel_rfl
theorem z9l (d:Nat)(a b:Int)(w:World):(pA (d+2) 35 (.iface 56 (.int .i64 a)) (.iface 56 (.int .i64 b))).run q6 w= .ok (a==b) w:=by
 obtain⟨i,h,q⟩:=Option.map_eq_some_iff.1 zl0;simp[pA,pr underlying35,pr underlying56,typeInfo,h,q]
theorem zhH (a b:Int)(w:World):(binOp .eql 35 (.iface 56 (.int .i64 a)) (.iface 56 (.int .i64 b))).run q6 w= .ok (.bool (a==b)) w:=by
 simp only[binOp];simp[Op.equal,Op.maxDepth,z9l 9998 a b w]
theorem zcV (a b:Int)(w:World):
  Calls q6 170 #[.iface 56 (.int .i64 a),.iface 56 (.int .i64 b)] w λe w'=>e= .returned (.bool (a==b))/\w'=w:=by
 have G:= @qU q6 152 _ ReflectliteType.typeOf func152 (by kernel_rfl) (by kernel_rfl) (by kernel_rfl) (by kernel_rfl);have q:= @qU q6 294 _ zn0 func294 (by kernel_rfl) (by kernel_rfl) (by kernel_rfl) (by kernel_rfl);have tT:=zfR;have J:=z9t;have O:=zfk;have U:=zkF;have V:=zbE;have Y:=z9J;have h:=zhH a b;cases hab:(a==b) with
 | true=>
  rw[hab] at h;go_enter func170,ntmps170;go_wp2;refine oF 1 ?_;rw[rounds_succ];go_wp2;go_ret;exact⟨rfl,rfl⟩
 | false=>
  rw[hab] at h;go_enter func170,ntmps170;go_wp2;refine oF 1 ?_;rw[rounds_succ];go_wp2;go_ret;exact⟨rfl,rfl⟩
theorem zm7 (b:Int)(w:World):
  Calls q6 170 #[.nilIface,.iface 56 (.int .i64 b)] w λe w'=>e= .returned (.bool false)/\w'=w:=by
 have h:=run_eql_iface_nil_left (P:=q6) w 56 (.int .i64 b) underlying35;go_enter func170,ntmps170;go_wp2;go_ret;exact⟨rfl,rfl⟩
def z3e (c:Int):Int:=if c=7 then 0 else c
theorem z1K:er 0= .nilIface:=by unfold er;rw[if_pos rfl]
theorem z2X {c:Int}(h:c≠0):er c= .iface 56 (.int .i64 c):=by unfold er;rw[if_neg h]
theorem z5p (c:Int)(w:World):
  Calls q6 121 #[er c] w λe w'=>e= .returned (er (z3e c))/\w'=w:=by
 by_cases q:c=0
 .subst q;have h:er (z3e 0)= .nilIface:=z1K;rw[h,z1K];go_enter func121,ntmps121;go_wp2_with fail;refine(zm7 7 w).mono ?_;rintro J O ⟨rfl,rfl⟩;go_wp2;go_ret;exact⟨rfl,rfl⟩
 .by_cases G:c=7
  .subst G;have h:er (z3e 7)= .nilIface:=z1K;rw[h,z2X (by omega)];go_enter func121,ntmps121;go_wp2_with fail;refine(zcV 7 7 w).mono ?_;rintro J O ⟨rfl,rfl⟩;go_wp2;go_ret;exact⟨rfl,rfl⟩
  .have h:er (z3e c)= .iface 56 (.int .i64 c):=by unfold z3e;rw[if_neg G,z2X q]
   have hb:(c==7)=false:=by simpa using G
   rw[h,z2X q];go_enter func121,ntmps121;go_wp2_with fail;refine(zcV c 7 w).mono ?_;rw[hb];rintro J O ⟨rfl,rfl⟩;go_wp2;go_ret;exact⟨rfl,rfl⟩
end
section
open Go.RowKit Go.Maps
abbrev kpt:ByteArray:=⟨#[119,97,108,47,107,101,112,116]⟩
abbrev frs:ByteArray:=⟨#[119,97,108,47,102,114,101,115,104]⟩
theorem z6w:kpt.size<=maxLen:=by unfold qS;decide
theorem z7r:frs.size<=maxLen:=by unfold qS;decide
def zbd (w:World)(X:Nat->Prop)(bd cnt:Nat)(o:WL.Out)(h:rO)(w':World):Prop:=h= .returned (er o.1)/\z2n w X bd cnt o.2.1 o.2.2 w'
theorem z2n.trans {w q G:World}{X J:Nat->Prop}{bd cnt:Nat}{D:DK.M}{p:Int}(h:XFr X w q)(O:∀j,J j->X j\/w.heap.size<=j)(V:z2n q J bd cnt D p G):z2n w X bd cnt D p G:=by
 obtain⟨Y,a1,a2,a3⟩:=V;refine⟨Y,a1,h.trans a2 O,λj hj=>?_⟩;rcases a3 j hj with U|U
 .exact O j U
 .have:=h.size;exact .inr (by omega)
theorem Dk.mono {w:World}{X:Nat->Prop}{bd cnt cnt':Nat}{D:DK.M}{p:Int}(h:Dk w X bd cnt D p)(q:cnt<=cnt'):Dk w X bd cnt' D p:=by
 obtain⟨mo,fp,fv,e,l,h⟩:=h;exact⟨mo,fp,fv,e,l,h.mono q⟩
theorem z2n.mono {w w':World}{X:Nat->Prop}{bd cnt cnt':Nat}{D:DK.M}{p:Int}(h:z2n w X bd cnt D p w')(q:cnt<=cnt'):z2n w X bd cnt' D p w':=by
 obtain⟨G,J,O,U⟩:=h;exact⟨G,J.mono q,O,U⟩
section
variable {w : World} {X : Nat → Prop} {bd cnt N : Nat} {D : DK.M} {p : Int}
theorem z6P (h:Dk w X bd cnt D p)(hF:DK.Fine N D)(hN:N<=100000000)(t:ByteArray)(ht:t.size<=100000000)(hc:cnt+4<=1000000):
  Calls q6 120 #[.pointer (some ⟨bd,0,none⟩),.string t] w λen w'=>zbd w X bd (cnt+4) (WL.repl kpt frs t D p) en w':=by
 obtain⟨mo,fp,fv,e,l,h⟩:=h;have HR:=hid (z5x h frs z7r);have HF:=hid hF;have HO:Hid (WL.repl kpt frs t D p=WL.seq (WL.bear (WL.act 3 frs qy D p)) λD p=>WL.seq (WL.act 0 frs t D p) λD p=>WL.seq (WL.act 1 frs qy D p) λD p=>WL.act 2 frs kpt D p):=rfl;generalize WL.repl kpt frs t D p=O at*;clear h hF;go_enter func120,ntmps120;go_wp2_with fail;refine HR.out.mono ?_;rintro en w1 ⟨rfl,X1,⟨A7,A8,A9,e1,l1,h1⟩,x1,s1⟩;have A1:Hid (DK.Fine N (WL.act 3 frs qy D p).2.1):=by
  have:=DK.z4x (a:=3) (p:=p) (n:=frs) (s:=qy) HF.out;exact this.mono (by rw[DK.z8e];omega)
 have Y:WL.act 3 frs qy D p=(DK.code 3 D p frs qy,DK.z6V 3 D p frs qy,DK.z99 3 D p frs qy):=rfl;rw[Y] at A1 HO;generalize DK.code 3 D p frs qy=c1 at*;generalize DK.z6V 3 D p frs qy=D1 at*;generalize DK.z99 3 D p frs qy=p1 at*;have H1:=hid h1;have q:=hid x1;have S1:=hid s1;clear h1 x1 s1 Y HR HF;go_wp2_with fail;refine(z5p c1 w1).mono ?_;rintro en w2 ⟨rfl,rfl⟩;by_cases hb:z3e c1=0
 .rw[hb,z1K];have A4:O=WL.seq (WL.act 0 frs t D1 p1) λD p=>WL.seq (WL.act 1 frs qy D p) λD p=>WL.act 2 frs kpt D p:=by
   rw[HO.out];show WL.seq (z3e c1,D1,p1) _=_;rw[hb,WL.seq_ok]
  have J:=hid A4;have HA:=hid (append_any H1.out frs t z7r (by omega) (A1.out.mono hN) ht);clear A4 HO hb;go_wp2_with fail;refine HA.out.mono ?_;rintro en w3 ⟨rfl,X3,⟨Ac,Ad,Ae,e3,l3,h3⟩,x3,s3⟩;have T3:=hid (z2n.trans q.out S1.out ⟨X3,⟨Ac,Ad,Ae,e3,l3,h3⟩,x3,s3⟩);have Y:WL.act 0 frs t D1 p1=(DK.code 0 D1 p1 frs t,DK.z6V 0 D1 p1 frs t,DK.z99 0 D1 p1 frs t):=rfl;rw[Y] at J;generalize DK.code 0 D1 p1 frs t=c3 at*;generalize DK.z6V 0 D1 p1 frs t=D3 at*;generalize DK.z99 0 D1 p1 frs t=p3 at*;have H3:=hid h3;have U:=hid (q.out.trans x3 S1.out);have S3:Hid (∀j,X3 j->X j\/w.heap.size<=j):=λj hj=>by
   rcases s3 j hj with h5|h5
   .exact S1.out j h5
   .have:=q.out.size;exact .inr (by omega)
  clear h3 x3 s3 Y HA H1 q S1 A1;by_cases A2:c3=0
  .subst A2;have A5:O=WL.seq (WL.act 1 frs qy D3 p3) λD p=>WL.act 2 frs kpt D p:=by rw[J.out,WL.seq_ok]
   have V:=hid A5;have HY:=hid (z6q H3.out frs z7r);clear A5 J T3;rw[z1K];go_wp2_with fail;refine HY.out.mono ?_;rintro en w4 ⟨rfl,X4,⟨Af,Ag,Ah,e4,l4,h4⟩,x4,s4⟩;have T4:=hid (z2n.trans U.out S3.out ⟨X4,⟨Af,Ag,Ah,e4,l4,h4⟩,x4,s4⟩);have Y:WL.act 1 frs qy D3 p3=(DK.code 1 D3 p3 frs qy,DK.z6V 1 D3 p3 frs qy,DK.z99 1 D3 p3 frs qy):=rfl;rw[Y] at V;generalize DK.code 1 D3 p3 frs qy=c4 at*;generalize DK.z6V 1 D3 p3 frs qy=D4 at*;generalize DK.z99 1 D3 p3 frs qy=p4 at*;have H4:=hid h4;have Ai:=hid (U.out.trans x4 S3.out);have S4:Hid (∀j,X4 j->X j\/w.heap.size<=j):=λj hj=>by
    rcases s4 j hj with h5|h5
    .exact S3.out j h5
    .have:=U.out.size;exact .inr (by omega)
   clear h4 x4 s4 Y HY H3 U S3;by_cases A3:c4=0
   .subst A3;have A6:O=WL.act 2 frs kpt D4 p4:=by rw[V.out,WL.seq_ok]
    have Aj:=hid A6;have HM:=hid (zjf H4.out frs kpt z7r z6w (by omega));clear A6 V T4;rw[z1K];go_wp2_with fail;refine HM.out.mono ?_;rintro en w5 ⟨rfl,h5⟩;have G:Hid (zbd w X bd (cnt+4) O (.returned (er (DK.code 2 D4 p4 frs kpt))) w5):=by
     rw[Aj.out];exact⟨rfl,z2n.trans Ai.out S4.out h5⟩
    clear h5;generalize er (DK.code 2 D4 p4 frs kpt)=v at*;go_wp2;go_ret;exact G.out
   .have G:Hid (zbd w X bd (cnt+4) O (.returned (er c4)) w4):=by
     have e0:O=(c4,D4,p4):=by rw[V.out];unfold WL.seq;rw[if_neg A3]
     rw[e0];exact⟨rfl,T4.out.mono (by omega)⟩
    rw[z2X A3] at G ⊢;go_wp2;go_ret;exact G.out
  .have G:Hid (zbd w X bd (cnt+4) O (.returned (er c3)) w3):=by
    have e0:O=(c3,D3,p3):=by rw[J.out];unfold WL.seq;rw[if_neg A2]
    rw[e0];exact⟨rfl,T3.out.mono (by omega)⟩
   rw[z2X A2] at G ⊢;go_wp2;go_ret;exact G.out
 .have G:Hid (zbd w X bd (cnt+4) O (.returned (er (z3e c1))) w2):=by
   have e0:O=(z3e c1,D1,p1):=by
    rw[HO.out];show WL.seq (z3e c1,D1,p1) _=_;unfold WL.seq;rw[if_neg hb]
   rw[e0];exact⟨rfl,X1,⟨A7,A8,A9,e1,l1,H1.out.mono (by omega)⟩,q.out,S1.out⟩
  rw[z2X hb] at G ⊢;go_wp2;go_ret;exact G.out
theorem zel (h:Dk w X bd cnt D p)(hF:DK.Fine N D)(hN:N<=100000000)(t:ByteArray)(n:Nat)(hn:n<=t.size)(ht:t.size<=100000000)(hc:cnt+4<=1000000):
  Calls q6 67 #[.pointer (some ⟨bd,0,none⟩),.string t,.int .i64 n] w λG w'=>zbd w X bd (cnt+4) (WL.z9R kpt frs t n D p) G w':=by
 by_cases q:n<t.size
 .have h':(n:Int)<(t.size:Int):=by omega
  have hz:(t.extract 0 n).size<=100000000:=by rw[eD];omega
  have U:=hid (z6P h hF hN (t.extract 0 n) hz hc);have hO:WL.z9R kpt frs t n D p=WL.repl kpt frs (t.extract 0 n) D p:=by unfold WL.z9R;rw[if_pos q]
  rw[hO];clear h hF hO hz;go_enter func67,ntmps67;go_wp2_with fail;refine U.out.mono ?_;rintro G w1 ⟨rfl,V⟩;have J:Hid (zbd w X bd (cnt+4) (WL.repl kpt frs (t.extract 0 n) D p) (.returned (er (WL.repl kpt frs (t.extract 0 n) D p).1)) w1):=⟨rfl,V⟩;clear V U;generalize er (WL.repl kpt frs (t.extract 0 n) D p).1=v at*;go_wp2;go_ret;exact J.out
 .have h':¬(n:Int)<(t.size:Int):=by omega
  have HO:Hid (WL.z9R kpt frs t n D p=WL.seq (WL.bear (WL.act 3 frs qy D p)) λD p=>WL.bear (WL.act 1 kpt qy D p)):=by
   show _=_;unfold WL.z9R;rw[if_neg q]
  obtain⟨mo,fp,fv,e,l,h⟩:=h;have U:=hid (z5x h frs z7r);clear h hF q;generalize WL.z9R kpt frs t n D p=O at*;go_enter func67,ntmps67;go_wp2_with fail;refine U.out.mono ?_;rintro G w1 ⟨rfl,X1,⟨A3,A4,A5,e1,l1,V⟩,x1,s1⟩;have ha:WL.act 3 frs qy D p=(DK.code 3 D p frs qy,DK.z6V 3 D p frs qy,DK.z99 3 D p frs qy):=rfl;rw[ha] at HO;generalize DK.code 3 D p frs qy=c1 at*;generalize DK.z6V 3 D p frs qy=D1 at*;generalize DK.z99 3 D p frs qy=p1 at*;have H1:=hid V;have Y:=hid x1;have S1:=hid s1;clear V x1 s1 ha U;go_wp2_with fail;refine(z5p c1 w1).mono ?_;rintro G w2 ⟨rfl,rfl⟩;by_cases hb:z3e c1=0
  .rw[hb,z1K];have A1:O=WL.bear (WL.act 1 kpt qy D1 p1):=by
    rw[HO.out];show WL.seq (z3e c1,D1,p1) _=_;rw[hb,WL.seq_ok]
   have A2:=hid A1;have HY:=hid (z6q H1.out kpt z6w);clear A1 HO hb;go_wp2_with fail;refine HY.out.mono ?_;rintro G w3 ⟨rfl,h3⟩;have J:Hid (zbd w X bd (cnt+4) O (.returned (er (z3e (DK.code 1 D1 p1 kpt qy)))) w3):=by
    rw[A2.out];exact⟨rfl,(z2n.trans Y.out S1.out h3).mono (by omega)⟩
   clear h3 A2 HY;generalize DK.code 1 D1 p1 kpt qy=c3 at*;go_wp2_with fail;refine(z5p c3 w3).mono ?_;rintro G w4 ⟨rfl,rfl⟩;generalize er (z3e c3)=v at*;go_wp2;go_ret;exact J.out
  .have J:Hid (zbd w X bd (cnt+4) O (.returned (er (z3e c1))) w2):=by
    have e0:O=(z3e c1,D1,p1):=by
     rw[HO.out];show WL.seq (z3e c1,D1,p1) _=_;unfold WL.seq;rw[if_neg hb]
    rw[e0];exact⟨rfl,X1,⟨A3,A4,A5,e1,l1,H1.out.mono (by omega)⟩,Y.out,S1.out⟩
   rw[z2X hb] at J ⊢;go_wp2;go_ret;exact J.out
end
end
section
open Go.RowKit
def zre:ByteArray:=⟨#[98,108,111,99,107,47]⟩
def nm (n:Nat):ByteArray:=zre++⟨(Lib.decDigits n).toArray⟩
theorem z9p (n:Nat):(nm n).data.toList=[98,108,111,99,107,47]++Lib.decDigits n:=by
 unfold nm;rw[WL.data_append];simp[zre]
theorem zcr {i j:Nat}(hi:i<100)(J:j<100)(h:nm i=nm j):i=j:=by
 have e:Lib.decDigits i=Lib.decDigits j:=by
  have:=congrArg (λb=>b.data.toList) h;simp only[z9p] at this;exact List.append_cancel_left this
 have u:∀{a b:Nat},a<200->b<200->qX a=qX b->a=b:=λ{a b} V hb h=>by
  have:=congrArg UInt8.toNat h;simp only[wi] at this;omega
 by_cases q:i<10<;>by_cases G:j<10
 .rw[Lib.decDigits_one q,Lib.decDigits_one G] at e;have:=u (by omega) (by omega) (tw e).1;omega
 .rw[Lib.decDigits_one q,Lib.decDigits_two G J] at e;simp at e
 .rw[Lib.decDigits_two q hi,Lib.decDigits_one G] at e;simp at e
 .rw[Lib.decDigits_two q hi,Lib.decDigits_two G J] at e;obtain⟨O,U⟩:=tw e;have Y:=u (by omega) (by omega) O;have a2:=u (by omega) (by omega) (tw U).1;omega
def isB (n:ByteArray):Bool:=oL n.data.toList zre.data.toList
theorem za9 (n:Nat):isB (nm n)=true:=by
 unfold isB;rw[z9p];simp[oL,zre]
theorem z8C:isB kpt=false:=by decide
theorem z9f:isB frs=false:=by decide
theorem zeG (n:Nat):nm n≠kpt:=λe=>by have:=za9 n;rw[e,z8C] at this;cases this
theorem zg4 (n:Nat):nm n≠frs:=λe=>by have:=za9 n;rw[e,z9f] at this;cases this
theorem z6Z {n:Nat}(h:n<100):7<=(nm n).size/\(nm n).size<=8:=by
 have e:=WL.size_data (nm n);rw[z9p,q8] at e;by_cases q:n<10
 .rw[Lib.decDigits_one q] at e;simp at e;omega
 .rw[Lib.decDigits_two q h] at e;simp at e;omega
theorem zd7 {n:Nat}(h:n<100):DK.named (nm n)=true:=by
 have:=z6Z h;exact DK.z2x.2 (by omega)
theorem z6K (n:Nat)(h:n<100)(w:World):Calls q6 74 #[.int .i64 (n:Int)] w λe w'=>e= .returned (.string (nm n))/\w'=w:=by
 have q:=hid (Tryz.strconv_FormatInt_10_small n h w);have G:=hid (z6Z h);go_enter func74,ntmps74;go_wp2_with fail;refine q.out.mono ?_;rintro e w' ⟨rfl,rfl⟩;clear q;have J:(Lib.decDigits n).length<=8:=by
  have e:=WL.size_data (nm n);rw[z9p,q8] at e;have:=G.out.2;simp at e;omega
 have O:¬9223372036854775807<6+(Lib.decDigits n).length:=by omega
 clear J;go_wp2;go_ret;exact⟨rfl,rfl⟩
end
section
open Go.RowKit
def CWr (B:Nat)(w:World)(L:List UInt8):Prop:=
 ∃v,w.heap[B]? =some (.cells #[v] 148)/\w.ownsRow (B+1) 5 1 v L.length (qH L)
theorem CWr.lt {B:Nat}{w:World}{L:List UInt8}(h:CWr B w L):B<w.heap.size:=by
 obtain⟨v,q,_⟩:=h;exact z00 q
theorem CWr.new (w:World):CWr w.heap.size (w.alloc (.cells #[.slice none 0 0] 148)) []:=⟨_,qu w _,rfl,.inl ⟨rfl,rfl⟩⟩
theorem CWr.kept {B:Nat}{w w':World}{L:List UInt8}(h:CWr B w L)(hb:Below w.heap.size w w'):CWr B w' L:=by
 have G:=h.lt;obtain⟨v,J,q⟩:=h;refine⟨v,(hb.block B G).trans J,z0j q λk O=>hb.block k ?_⟩;obtain⟨U,fr,V⟩:=z1B q k O;exact z00 V
theorem z6a {B:Nat}{w:World}{v:Value}(h:w.heap[B]? =some (.cells #[v] 148)):w.cell? ⟨B,0,none⟩=some v/\w.frozen? ⟨B,0,none⟩=false:=by
 refine⟨?_,?_⟩<;>simp[qs,wz,h]
theorem zfD (a b:List UInt8):qH (a++b)=qH a++qH b:=by simp[qH]
theorem WFr.other {B k:Nat}{w w':World}{c:Array Value}{t:qn}{fr:Nat×Nat}(h:WFr B w w')(q:w.heap[k]? =some (.cells c t fr))(G:t≠5)(J:k≠B):w'.heap[k]? =some (.cells c t fr):=
 (h.block k (z00 q) J (λc' O e=>by rw[q] at e;simp only[qR,rI] at e;exact G e.2.1)).trans q
theorem WFr.of_below {B:Nat}{w w':World}(h:Below w.heap.size w w')(q:B<=w.heap.size):WFr B w w':=
 ⟨⟨h.os,h.tape,h.output,h.size,λj G=>h.block j (qe G q)⟩,λk J _ _=>h.block k J⟩
theorem zfj {B:Nat}{w0 wr V w1:World}{L N:List UInt8}{v v':Value}(hv:wr.heap[B]? =some (.cells #[v] 148)) (q:wr.ownsRow (B+1) 5 1 v L.length (qH L)) (Y:WFr B w0 wr)
  (hm:Below wr.heap.size wr V) (O:w1.ownsRow (B+1) 5 1 v' (L.length+N.length) (qH L++qH N)) (G:V.grownBy w1 v.ownBlock):
  w1.cell? ⟨B,0,none⟩=some v/\w1.frozen? ⟨B,0,none⟩=false/\CWr B (w1.setCell ⟨B,0,none⟩ v') (L++N)/\WFr B w0 (w1.setCell ⟨B,0,none⟩ v'):=by
 have hB:B<wr.heap.size:=z00 hv;have A1:B<V.heap.size:=qe hB hm.size;have A2:some B≠v.ownBlock:=λh=>by have:=q.lt B h.symm;omega
 have J:w1.heap[B]? =some (.cells #[v] 148):=(G.block B A1 A2).trans ((hm.block B hB).trans hv);obtain⟨c0,f0⟩:=z6a J;have U:WFr B w0 w1:=(Y.trans (WFr.of_below hm (by omega))).grown G (by omega) (λk hk=>by
  have A3:=q.lt k hk;obtain⟨A4,fr,hc⟩:=z1B q k hk;exact⟨by omega,A4,fr,(hm.block k A3.2).trans hc⟩)
 refine⟨c0,f0,⟨v',?_,?_⟩,U.z3q 0 _⟩
 .rw[qo w1 B 0 _ _ _ J];rfl
 .rw[q8,zfD];exact ownsRow_setCell_below O (a:=⟨B,0,none⟩) (by show B<B+1;omega) v'
theorem zai {P:rM}{ops:Array Oper}{o:Oper}{a:Act}{w:World}{K:Act->World->Prop}{Q:Exit->Act->World->Prop}{E:Prop}
  (hg:o.guard=none) (s x:Operand) (t:qn) (ho:o.op= .call {callee:= .builtin .append,args:=#[s,x],argTypes:=#[t,t]})
  (q:Nat) (e:qn) (i:TypeInfo) (z:Value) (size bytes:Nat) (ht:P.underlying t=some (.slice e)) (hi:P.info? e=some i) (hz:i.zero=some z)
  (J:i.size=size) (Y:i.bytes=bytes) (A1:z.cells.size=size) (A2:0<size)
  (v:Value) (n:Nat) (xs:List Value) (hs:a.eval s=v) (V:w.ownsRow q e size v n xs)
  (ad:Addr) (m c:Nat) (news:List Value) (hx:a.eval x= .slice (some ad) m c) (hl:news.length=m*size) (O:∀j u,news[j]? =some u->w.cell? (ad.add j)=some u) (h1:∀u∈news,u.oneCell'=true)
  (A3:n+m<=qS) (G:(n+m)*bytes<=140737488355328) (U:q<=w.heap.size)
  (h:∀v' w',w'.ownsRow q e size v' (n+m) (xs++news)->w.grownBy w' v.ownBlock->(v'= .slice none 0 0↔v= .slice none 0 0/\m=0)->K (a.put o.dst v') w'):
  if wy o (yielded ops a.tmps)=true then oy P o a w K Q else E:=by
 have hw:wy o (yielded ops a.tmps)=true:=by simp[wy,hg]
 rw[if_pos hw];exact wp_append_own w s x t ho q e i z size bytes ht hi hz J Y A1 A2 v n xs hs V ad m c news hx hl O h1 A3 G U h
theorem z5e {w:World}{q n G:Nat}{e:qn}{v:Value}{xs:List Value}(h:w.ownsRow q e G v n xs):∃ao cap,v= .slice ao n cap:=by
 rcases h.2 with⟨J,O⟩|⟨g,cap,U,J,_⟩
 .exact⟨none,0,by rw[J,O]⟩
 .exact⟨_,cap,J⟩
theorem zju (n:Int)(i k s:Nat)(hi:i<8)(G:(7:Int)-i=k)(J:(8:Int)*k=s):∃b:UInt8,(CD.wN n).take (i+1)=(CD.wN n).take i++[b]/\IntKind.u8.wrap (n/2^s)=(b.toNat:Int):=by
 have h:k=7-i:=by omega
 have q:s=8*(7-i):=by omega
 subst h q;clear G J
 match i,hi with
 | 0,_=>exact⟨_,rfl,by rw[eO,wi];omega⟩
 | 1,_=>exact⟨_,rfl,by rw[eO,wi];omega⟩
 | 2,_=>exact⟨_,rfl,by rw[eO,wi];omega⟩
 | 3,_=>exact⟨_,rfl,by rw[eO,wi];omega⟩
 | 4,_=>exact⟨_,rfl,by rw[eO,wi];omega⟩
 | 5,_=>exact⟨_,rfl,by rw[eO,wi];omega⟩
 | 6,_=>exact⟨_,rfl,by rw[eO,wi];omega⟩
 | 7,_=>exact⟨_,rfl,by rw[eO,wi];omega⟩
theorem z0B (B:Nat)(n:Int)(L:List UInt8)(w:World)(h:CWr B w L)(hL:L.length<=10000000000000)(_h1: -9223372036854775808<=n)(_h2:n<=9223372036854775807):
  Calls q6 83 #[.pointer (some ⟨B,0,none⟩),.int .i64 n] w λe w'=>e= .returned (.tuple #[])/\CWr B w' (L++CD.wN n)/\WFr B w w':=by
 obtain⟨ii,hi,O,U,V⟩:=uP Tryz.info5;have A4:=hid hi;have A5:=hid O;have A6:=hid U;have A7:=hid V;have Y:=hid h;clear hi O U V h;go_enter func83,ntmps83;go_wp2_with fail;go_loopw [4,7] (λ_ ti wr=>∃i:Nat,i<=8/\ti= .int .i64 i/\CWr B wr (L++(CD.wN n).take i)/\WFr B w wr) (λ_ ti _=>8-(intOf ti).toNat)
 case atStart=>exact⟨0,by omega,rfl,by simpa using Y.out,WFr.refl _ _⟩
 case round=>
  obtain⟨i,hi,rfl,hw,A1⟩:=hrel;obtain⟨v,hv,J⟩:=hw;obtain⟨c0,f0⟩:=z6a hv;obtain⟨M,hM⟩:∃M,L++(CD.wN n).take i=M:=⟨_,rfl⟩;rw[hM] at J;have Ag:M.length<=10000000000008:=by
   rw[<-hM,q8,List.length_take];omega
  have HM:=hid hM;have HV:=hid hv;have HO:=hid J;have HF:=hid A1;have hB:=z00 hv;clear hv J A1 hM Y;by_cases A8:i<8
  .obtain⟨k,hk⟩:∃k:Nat,(7:Int)-i=k:=⟨7-i,by omega⟩;obtain⟨s,hs⟩:∃s:Nat,(8:Int)*k=s:=⟨8*k,by omega⟩;have Ah:qW.wrap (7-(i:Int))=k:=by rw[qY];omega
   have Ai:qW.wrap (8*(k:Int))=s:=by rw[qY];omega
   have Aj:s<=56:=by omega
   obtain⟨b,A2,Ak⟩:=zju n i k s A8 hk hs;have A9:=hid A2;clear hk hs A2;have A3:Below wr.heap.size wr (wr.alloc (.cells #[.int .u8 (b.toNat:Int)] 5)).drew:=((Below.refl _ wr).alloc (qq _) _).drew;have Ac:=hid A3;clear A3;go_wp2_with fail
   go_region_law ((refine zai rfl (.tmp 14) (.tmp 21) 102 rfl (B+1) 5 ii (.int .u8 0) 1 1 underlying102 A4.out A5.out A6.out A7.out rfl (by decide) v M.length (qH M) (by simp[yB]) (z2L (HO.out.alloc (.cells #[.int .u8 (b.toNat:Int)] 5)) rfl) ⟨wr.heap.size,0,none⟩ 1 1 [.int .u8 (b.toNat:Int)] (by simp[yB]) rfl (λj u hj=>one_news wr _ 5 j u hj) (one_u8 _) (by unfold qS;omega) (by omega) (by simp;omega) ?_;intro v7 w7 q G _;obtain⟨g0,g1,g2,g3⟩:=zfj (N:=[b]) HV.out HO.out HF.out Ac.out q G;obtain⟨Al,Af,e7⟩:=z5e q;have Ad:=hid g2;have Ae:=hid g3;clear q G g2 g3;subst e7))
   all_goals
    go_wp2_with fail;go_roundw
    case rel=>
     refine⟨i+1,by omega,by go_num,?_,Ae.out⟩;rw[A9.out,<-qm,HM.out];exact Ad.out
    case measure=>simp[intOf];omega
  .go_wp2_with fail
   go_end0
   have he:i=8:=by omega
   subst he;refine⟨rfl,⟨v,HV.out,?_⟩,HF.out⟩;have e:L++CD.wN n=M:=HM.out;rw[e];exact HO.out
theorem z3y (B:Nat)(s:ByteArray)(L:List UInt8)(w:World)(h:CWr B w L)(hL:L.length<=1000000000000)(hs:s.size<=1000000000000):
  Calls q6 84 #[.pointer (some ⟨B,0,none⟩),.string s] w λe w'=>e= .returned (.tuple #[])/\CWr B w' (L++CD.wT s.data.toList)/\WFr B w w':=by
 obtain⟨ii,hi,O,U,V⟩:=uP Tryz.info5;have A1:=hid hi;have A2:=hid O;have A3:=hid U;have A4:=hid V;have HC:=hid (z0B B (s.size:Int) L w h (by omega) (by omega) (by omega));clear hi O U V h;go_enter func84,ntmps84;go_wp2_with fail;refine HC.out.mono ?_;rintro e w1 ⟨rfl,hw,Y⟩;have hl:s.data.toList.length=s.size:=by rw[qE];rfl
 have HT:Hid (L++CD.wT s.data.toList=(L++CD.wN (s.size:Int))++s.data.toList):=by
  show _=_;unfold CD.wT;rw[hl,qm]
 generalize hM:L++CD.wN (s.size:Int)=M at*;have A8:M.length<=1000000000008:=by rw[<-hM,q8,CD.z06];omega
 obtain⟨v,hv,J⟩:=hw;obtain⟨c0,f0⟩:=z6a hv;have HV:=hid hv;have HO:=hid J;have HF:=hid Y;have hB:=z00 hv;have HL:=hid hl;clear hv J Y hM HC hl;go_wp2_with (at_builtin;refine Lib.wpList_append_own_string w1 rfl (.tmp 14) (.tmp 15) 102 9 rfl (B+1) 5 ii underlying102 underlying9 A1.out A2.out A3.out A4.out v M.length (qH M) rfl HO.out s rfl (by unfold qS;omega) (by omega) (by omega) ?_)
 intro v' w2 q G _;obtain⟨g0,g1,g2,g3⟩:=zfj (N:=s.data.toList) HV.out HO.out HF.out (Below.refl _ _) (by rw[HL.out];exact q) G;obtain⟨A9,A7,e7⟩:=z5e q;have A5:=hid g2;have A6:=hid g3;clear q G g2 g3;subst e7;go_wp2_with fail
 go_end0
 rw[HT.out];exact⟨rfl,A5.out,A6.out⟩
theorem z2y (B:Nat)(L:List UInt8)(w:World)(h:CWr B w L):
  Calls q6 85 #[.pointer (some ⟨B,0,none⟩)] w λe w'=>e= .returned (.string (sb L))/\Below w.heap.size w w':=by
 obtain⟨v,G,q⟩:=h;obtain⟨c0,f0⟩:=z6a G;have O:(convert 102 9 v).run q6 w= .ok (.string (sb L)) w:=by
  rcases q.2 with⟨rfl,U⟩|⟨g,cap,V,rfl,_⟩
  .have e:L=[]:=List.eq_nil_of_length_eq_zero U;subst e;rw[iR w 102 9 5 none 0 0 underlying102 underlying5 underlying9];simp[iA,sb];rfl
  .have:=iK (P:=q6) w 102 9 5 ⟨g,0,none⟩ cap L underlying102 underlying5 underlying9 (λj Y=>q.cells (g:=g) rfl j (.int .u8 (L[j].toNat:Int)) (by
    unfold qH;rw[qZ,qw Y];rfl))
   exact this
 obtain⟨A1,J,e7⟩:=z5e q;clear q G;subst e7;go_enter func85,ntmps85;go_wp2_with fail;go_ret;exact⟨rfl,Below.refl _ _⟩
theorem zaH:∀a b:List CD.Lb,CD.wL (a++b)=CD.wL a++CD.wL b
 | [],_=>rfl
 | x::a,b=>by
  show CD.wT x.1++(CD.wT x.2++CD.wL (a++b))=CD.wT x.1++(CD.wT x.2++CD.wL a)++CD.wL b;rw[zaH a b];simp
theorem zbC (l:List LB.Lab)(i:Nat)(hi:i<l.length):CD.wL ((z2o l).take (i+1))=CD.wL ((z2o l).take i)++(CD.wT (LB.at' l i).1.data.toList++CD.wT (LB.at' l i).2.data.toList):=by
 have h:i<(z2o l).length:=by simpa [z2o] using hi
 have q:(z2o l).take (i+1)=(z2o l).take i++[(z2o l)[i]'h]:=by rw[wJ,qw h];rfl
 have G:(z2o l)[i]'h=((LB.at' l i).1.data.toList,(LB.at' l i).2.data.toList):=by
  have J:LB.at' l i=l[i]'hi:=by
   unfold LB.at';rw[q7,qw hi];rfl
  rw[J];simp[z2o]
 rw[q,zaH,G];show _=_;simp[CD.wL]
theorem zgS (l:List LB.Lab)(h:zmz l):∀i,i<=l.length->(CD.wL ((z2o l).take i)).length<=4016*i:=by
 intro i
 induction i with
 | zero=>intro _;simp[CD.wL]
 | succ i ih=>
  intro hi;have q:=ih (by omega);have G:=h i (by omega);rw[zbC l i (by omega),q8,q8,CD.z0S,CD.z0S];have J:(LB.at' l i).1.data.toList.length=(LB.at' l i).1.size:=by rw[qE];rfl
  have O:(LB.at' l i).2.data.toList.length=(LB.at' l i).2.size:=by rw[qE];rfl
  omega
theorem zbT (B:Nat)(ao:Option Addr)(l:List LB.Lab)(cap:Nat)(L:List UInt8)(w0 w:World)(h:CWr B w L)(hR:z1w w0 ao l)(A2:Below w0.heap.size w0 w)(Ai:w0.heap.size<=B)(A3:zmz l)(hl:l.length<=1000)(hL:L.length<=100000000000):
  Calls q6 160 #[.pointer (some ⟨B,0,none⟩),.slice ao l.length cap] w λe w'=>e= .returned (.tuple #[])/\CWr B w' (L++(CD.wN l.length++CD.wL (z2o l)))/\WFr B w w':=by
 have HC:=hid (z0B B (l.length:Int) L w h (by omega) (by omega) (by omega));have Av:=h.lt;have Aj:=hid hR;have Ak:=hid A2;have A4:=hid A3;clear h hR A2 A3;go_enter func160,ntmps160;go_wp2_with fail;refine HC.out.mono ?_;rintro e w1 ⟨rfl,hw,q⟩;have Al:=hid hw;have Am:=hid q;clear hw q HC;go_wp2_with fail;go_loopw [5,12] (λ_ ti wr=>∃i:Nat,i<=l.length/\ti= .int .i64 i/\CWr B wr ((L++CD.wN l.length)++CD.wL ((z2o l).take i))/\WFr B w wr) (λ_ ti _=>l.length-(intOf ti).toNat)
 case atStart=>exact⟨0,by omega,rfl,by simpa [CD.wL] using Al.out,Am.out⟩
 case round=>
  obtain⟨i,hi,rfl,hw,q⟩:=hrel;by_cases A1:i<l.length
  .have Aw:=A4.out i A1;have HSt:=hid (zbC l i A1);have A5:=zgS l A4.out i hi;have G:Below w0.heap.size w0 wr:=Ak.out.trans (⟨q.below.os,q.below.tape,q.below.output,q.below.size,λj hj=>q.below.block j (qe hj Ai)⟩);obtain⟨b,off,Ao,A6,A7,A8⟩:=Aj.out i A1;subst Ao;have Ag:=(G.cell (p:=⟨b,off+i*2,none⟩) A8).trans A6;have Ah:=(G.cell (p:=⟨b,off+i*2+1,none⟩) A8).trans A7;have e1:(LB.at' l i).1.data.toList.length=(LB.at' l i).1.size:=by rw[qE];rfl
   generalize (LB.at' l i).1=N at*;generalize (LB.at' l i).2=V at*;obtain⟨M,hM⟩:∃M,(L++CD.wN l.length)++CD.wL ((z2o l).take i)=M:=⟨_,rfl⟩;have Ax:M.length<=100000000000+8+4016*i:=by
    rw[<-hM,q8,q8,CD.z06];omega
   rw[hM] at hw;have HM:=hid hM;have hB:=hw.lt;have J:Below wr.heap.size wr (wr.alloc (.cells #[.string N,.string V] 107)):=(Below.refl _ wr).alloc (qq _) _;have Ap:=hid (q.trans (WFr.of_below J (by omega)));have A9:=hid (z3y B N M _ (hw.kept J) (by omega) (by omega));have HX:=hid (qu wr (.cells #[.string N,.string V] 107));clear hw q hM J A6 A7 G A5;go_wp2_with fail;refine A9.out.mono ?_;rintro e w2 ⟨rfl,Ac,O⟩;have Ad:=O.other HX.out (by decide) (by omega);have y1:w2.cell? ⟨wr.heap.size,1,none⟩=some (.string V):=by simp[qs,Ad]
   have U:(M++CD.wT N.data.toList).length<=1000000000000:=by
    rw[q8,CD.z0S];omega
   have Ae:=hid (z3y B V _ _ Ac U (by omega));have Aq:=hid (Ap.out.trans O);clear Ac O A9 Ad U;go_wp2_with fail;refine Ae.out.mono ?_;rintro e w3 ⟨rfl,Af,Y⟩;have Ar:=hid Af;have Au:=hid (Aq.out.trans Y);clear Af Y Ae;go_wp2_with fail;go_roundw
   case rel=>
    refine⟨i+1,by omega,by go_num,?_,Au.out⟩;rw[HSt.out,<-qm,HM.out,<-qm];exact Ar.out
   case measure=>simp[intOf];omega
  .have he:i=l.length:=by omega
   have HW:=hid hw;have HF:=hid q;have HE:=hid he;clear hw q he;go_wp2_with fail
   go_end0
   refine⟨rfl,?_,HF.out⟩;have h3:=HW.out;rw[HE.out,qL (by simp[z2o]),qm] at h3;exact h3
def okS (x:Sr):Bool:=CL.right x.2&&LB.right x.1
def z8p (l:List Sr):Prop:=l.length<=2000/\∀i,i<l.length->zmz (z03 l i).1/\(z03 l i).1.length<=20/\(z03 l i).2.length<=2000/\∀s∈(z03 l i).2,CL.Rs s
theorem zaU:∀a b:List (List CD.Lb×List CL.Smp),CD.wS chE (a++b)=CD.wS chE a++CD.wS chE b
 | [],_=>rfl
 | x::a,b=>by
  show CD.wN x.1.length++(CD.wL x.1++(CD.wT (chE x.2)++CD.wS chE (a++b)))=CD.wN x.1.length++(CD.wL x.1++(CD.wT (chE x.2)++CD.wS chE a))++CD.wS chE b;rw[zaU a b];simp
theorem zfI (l:List Sr)(i:Nat)(hi:i<l.length):CD.wS chE ((l.map z2B).take (i+1))=CD.wS chE ((l.map z2B).take i)++((CD.wN (z03 l i).1.length++CD.wL (z2o (z03 l i).1))++CD.wT (chE (z03 l i).2)):=by
 have h:i<(l.map z2B).length:=by simpa using hi
 have q:(l.map z2B).take (i+1)=(l.map z2B).take i++[(l.map z2B)[i]'h]:=by rw[wJ,qw h];rfl
 have G:(l.map z2B)[i]'h=z2B (z03 l i):=by
  have J:z03 l i=l[i]'hi:=by
   unfold z03;rw[q7,qw hi];rfl
  rw[J];simp
 have O:(z2o (z03 l i).1).length=(z03 l i).1.length:=by simp[z2o]
 rw[q,zaU,G];show _++(CD.wN (z2o (z03 l i).1).length++(CD.wL (z2o (z03 l i).1)++(CD.wT (chE (z03 l i).2)++[])))=_;rw[O];simp
theorem zbZ (l:List CL.Smp)(h:l.length<=2000):(zr3 (BL.pk (CL.chB l))).size<=35020:=by
 have q:=CL.zeV l;have G:=BL.pk_length (CL.chB l);have e:(zr3 (BL.pk (CL.chB l))).size=(BL.pk (CL.chB l)).length:=by simp[zr3,ByteArray.size]
 rw[e];omega
theorem zkf (l:List Sr)(h:z8p l):∀i,i<=l.length->(CD.wS chE ((l.map z2B).take i)).length<=120000*i:=by
 intro i
 induction i with
 | zero=>intro _;simp[CD.wS]
 | succ i ih=>
  intro hi;have O:=ih (by omega);obtain⟨q,U,V,_⟩:=h.2 i (by omega);have Y:=zbZ (z03 l i).2 (by omega);have G:=zgS (z03 l i).1 q (z03 l i).1.length (qq _);have J:(z2o (z03 l i).1).take (z03 l i).1.length=z2o (z03 l i).1:=qL (by simp[z2o]);rw[J] at G;have e1:(chE (z03 l i).2).length=(zr3 (BL.pk (CL.chB (z03 l i).2))).size:=by unfold chE;rw[qE];rfl
  rw[zfI l i (by omega)];simp only[q8,CD.z0S,CD.z06];omega
def zfm (w:World)(l:List Sr)(e:rO)(w':World):Prop:=
 Below w.heap.size w w'/\(((∀i,i<l.length->okS (z03 l i)=true)/\e= .returned (.tuple #[.string (sb (CD.z7y chE (l.map z2B))),.nilIface]))\/
  (∃i b,i<l.length/\(∀j,j<i->okS (z03 l j)=true)/\okS (z03 l i)=false/\e= .returned (.tuple #[.string ⟨#[]⟩,.iface 168 (.pointer (some ⟨b,0,none⟩))])/\w'.heap[b]? =some (.cells #[.int .i64 1,.int .i64 i] 170)/\w.heap.size<=b))
theorem zdx (h:Option Addr)(l:List CL.Smp)(cap:Nat)(w:World)(q:z1I w h l)(G:∀s∈l,CL.Rs s)(U:l.length<=2000)(J:z0X w)(O:1<w.heap.size):
  Calls q6 159 #[.slice h l.length cap] w λe w'=>∃t ev,e= .returned (.tuple #[.string t,ev])/\Below w.heap.size w w'/\((CL.right l=true/\ev= .nilIface/\t=zr3 (BL.pk (CL.chB l)))\/(CL.right l=false/\ev= .iface 56 (.int .i64 1))):=by
 cases hr:CL.right l with
 | true=>
  refine(zhZ h l cap w q G J O hr).mono ?_;rintro e w' ⟨rfl,hb⟩;exact⟨_,_,rfl,hb,.inl ⟨rfl,rfl,rfl⟩⟩
 | false=>
  refine(zh1 h l cap w q G (by omega) hr).mono ?_;rintro e w' ⟨rfl,hb⟩;exact⟨_,_,rfl,hb,.inr ⟨rfl,rfl⟩⟩
theorem zdb (ao:Option Addr)(l:List Sr)(cap:Nat)(w:World)(hS:z0r w ao l)(A8:z8p l)(hW:z0X w)(hG:1<w.heap.size):
  Calls q6 110 #[.slice ao l.length cap] w λe w'=>zfm w l e w':=by
 have HS:=hid hS;have Af:=hid A8;have AL:=hid hW;have hl:=A8.1;have Ag:Below w.heap.size w (w.alloc (.cells #[.slice none 0 0] 148)):=(Below.refl _ w).alloc (qq _) _;have HC:=hid (z0B w.heap.size (l.length:Int) [] _ (CWr.new w) (by simp) (by omega) (by omega));have Ah:=hid Ag;clear hS A8 hW Ag;go_enter func110,ntmps110;go_wp2_with fail;refine HC.out.mono ?_;rintro e w1 ⟨rfl,hw,Ai⟩;have Aj:=hid hw;have U:=hid (Ah.out.trans Ai.below);clear hw Ai HC Ah;go_wp2_with fail;go_loopw [5,6,7,8,14] (λ_ _ _ _ ti wr=>∃i:Nat,i<=l.length/\ti= .int .i64 i/\CWr w.heap.size wr (CD.wN l.length++CD.wS chE ((l.map z2B).take i))/\Below w.heap.size w wr/\∀j,j<i->okS (z03 l j)=true) (λ_ _ _ _ ti _=>l.length-(intOf ti).toNat)
 case atStart=>exact⟨0,by omega,rfl,by simpa [CD.wS] using Aj.out,U.out,by omega⟩
 case round=>
  obtain⟨i,hi,rfl,hw,G,Ak⟩:=hrel;have A9:=hid Ak;clear Ak Aj U;by_cases A1:i<l.length
  .obtain⟨Ac,B5,AM,Al⟩:=Af.out.2 i A1;have HSt:=hid (zfI l i A1);have Am:=zkf l Af.out i hi;obtain⟨b,off,AO,Ao,lo,lc,so,sc,Ap,Aq,Ar,Au⟩:=HS.out i A1;subst AO;have AJ:=(G.cell (p:=⟨b,off+i*2,none⟩) Ao).trans Ap;have AK:=(G.cell (p:=⟨b,off+i*2+1,none⟩) Ao).trans Aq;obtain⟨q,hq⟩:∃q,okS (z03 l i)=q:=⟨_,rfl⟩;have HQ:=hid hq;unfold okS at hq;have AP:Hid (okS (z03 l i)=true->∀j,j<i+1->okS (z03 l j)=true):=λh j hj=>by
    by_cases he:j=i
    .subst he;exact h
    .exact A9.out j (by omega)
   obtain⟨M,hM⟩:∃M,CD.wN l.length++CD.wS chE ((l.map z2B).take i)=M:=⟨_,rfl⟩;have B6:M.length<=8+120000*i:=by
    rw[<-hM,q8,CD.z06];omega
   have h6:=zgS (z03 l i).1 Ac (z03 l i).1.length (qq _);have e0:(z2o (z03 l i).1).take (z03 l i).1.length=z2o (z03 l i).1:=qL (by simp[z2o]);rw[e0] at h6;have h7:=zbZ (z03 l i).2 (by omega);have AQ:Hid (chE (z03 l i).2=(zr3 (BL.pk (CL.chB (z03 l i).2))).data.toList):=rfl;generalize (z03 l i).1=la at*;generalize (z03 l i).2=sm at*;rw[hM] at hw;have HM:=hid hM;have hB:=hw.lt;have AR:=G.size;have A5:Below wr.heap.size wr (wr.alloc (.cells #[.slice lo la.length lc,.slice so sm.length sc] 93)):=(Below.refl _ wr).alloc (qq _) _;have V:=(G.alloc AR (.cells #[.slice lo la.length lc,.slice so sm.length sc] 93));have Y:=hid (zdx so sm sc _ (Au.below V) Al AM (z0X.below AL.out V hG) (qe hG V.size));have HX:=hid (qu wr (.cells #[.slice lo la.length lc,.slice so sm.length sc] 93));have AU:=hid (hw.kept A5);have AV:=hid V;have Av:=hid Ar;have AW:=hid Ac;clear hw hM A5 Ap Aq Am G V Ar Au Ac Al e0;go_wp2_with fail;refine Y.out.mono ?_;rintro e w2 ⟨t,ev,rfl,O,AX⟩;have Ad:=(O.block wr.heap.size (by simp)).trans HX.out;have y0:w2.cell? ⟨wr.heap.size,0,none⟩=some (.slice lo la.length lc):=by simp[qs,Ad]
   have AY:=hid Ad;have J:=hid (AV.out.trans (O.mono (by simp;omega)));have AZ:=hid (AU.out.kept O);have Aw:wr.heap.size<w2.heap.size:=by have:=O.size;simp at this;omega
   have A2:=hid (z3J lo la lc w2 (Av.out.below J.out));clear O Ad Y;have A6:Hid (q=false->∀w':World,Below w.heap.size w w'->zfm w l (.returned (.tuple #[.string ⟨#[]⟩,.iface 168 (.pointer (some ⟨w'.heap.size,0,none⟩))])) (w'.alloc (.cells #[.int .i64 1,.int .i64 i] 170))):=λhq w' Ae=>
    ⟨Ae.alloc Ae.size _,.inr ⟨i,w'.heap.size,A1,A9.out,by rw[HQ.out,hq],rfl,qu w' _,Ae.size⟩⟩
   rcases AX with⟨hr,rfl,rfl⟩|⟨hr,rfl⟩
   .rw[hr] at hq;have A3:LB.right la=q:=by simpa using hq
    rw[A3] at A2;clear hq A3 hr;go_wp2_with fail;refine A2.out.mono ?_;rintro e w3 ⟨rfl,Ax⟩;have A4:=hid Ax;clear Ax A2;cases q with
    | false=>
     go_wp2_with fail;go_ret2;exact A6.out (by trivial) _ (J.out.trans (A4.out.mono J.out.size))
    | true=>
     have Ay:=(A4.out.block wr.heap.size Aw).trans AY.out;have y3:w3.cell? ⟨wr.heap.size,0,none⟩=some (.slice lo la.length lc):=by simp[qs,Ay]
     have A7:=hid (J.out.trans (A4.out.mono J.out.size));have Az:=hid (zbT w.heap.size lo la lc M w w3 (AZ.out.kept A4.out) Av.out A7.out (qq _) AW.out (by omega) (by omega));clear Ay;go_wp2_with fail;refine Az.out.mono ?_;rintro e w4 ⟨rfl,AA,AB⟩;have AC:=hid (A7.out.trans AB.below);have AD:(M++(CD.wN la.length++CD.wL (z2o la))).length<=1000000000000:=by
      simp only[q8,CD.z06];omega
     have AE:=hid (z3y w.heap.size (zr3 (BL.pk (CL.chB sm))) _ w4 AA AD (by omega));clear AA AB AD Az;go_wp2_with fail;refine AE.out.mono ?_;rintro e w5 ⟨rfl,AF,AG⟩;have B0:=hid AF;have AH:=hid (AC.out.trans AG.below);clear AF AG AE;go_wp2_with fail;go_roundw
     case rel=>
      refine⟨i+1,by omega,by go_num,?_,AH.out,AP.out HQ.out⟩;rw[HSt.out,<-qm,HM.out,AQ.out,<-qm];exact B0.out
     case measure=>simp[intOf];omega
   .rw[hr] at hq;have A3:q=false:=by simpa using hq.symm
    clear hq hr A2;go_wp2_with fail;go_ret2;exact A6.out A3 _ J.out
  .have he:i=l.length:=by omega
   have HE:=hid he;have Y:=hid (z2y w.heap.size _ wr hw);have U:=hid G;clear hw G he;go_wp2_with fail;refine Y.out.mono ?_;rintro e w2 ⟨rfl,O⟩;have B3:=hid (U.out.trans (O.mono U.out.size));clear O Y;go_wp2_with fail;go_ret2;refine⟨B3.out,.inl ⟨λj hj=>A9.out j (by rw[HE.out];exact hj),?_⟩⟩;have e:CD.wN l.length++CD.wS chE ((l.map z2B).take i)=CD.z7y chE (l.map z2B):=by
    rw[HE.out,qL (by simp)];unfold CD.z7y;rw[List.length_map]
   rw[e];rfl
end
end Go.Proofs.YtemeblgngidldaaGreatDoor
