/- Texts put together and made smaller by program: LbNum BitNum ChNum CdNum BitLeaf BitWr BitPut ChRight ChWrite CxMem CdTxt CxShrt. -/
import Derived.Test.YtemeblgngidldaaGreatDoorRows
import Derived.Lib.Strings
import Derived.WalkKit
import Derived.WalkSpells
import Derived.WalkLawsBesides
import Derived.Handy
import Derived.Laws.BitsAllLaws
import Derived.StillTailTactics
import Derived.BigQuiet
import Derived.Laws.BytesArg
import Derived.Deep.Onto
import Derived.Laws.StructEq
import Derived.Laws.IdiomStrings
set_option linter.unusedVariables false
set_option linter.unusedSimpArgs false
set_option maxRecDepth 100000
set_option maxHeartbeats 12800000
open Array renaming getElem?_eq_none->eJ,toList_extract->wB
open BitVec renaming ofInt->ed
open Bool renaming not_eq_true->tV
open ByteArray renaming empty->qy,data_extract->wA
open Go renaming heap_alloc_new->qu,wpStill_nil->yT,wp_region_still_tail->oq,heap_setCell_same->qo
open Go.BinOp renaming and->px,xor->ij,or->uz
open Go.Calls renaming mono->wU
open Go.Ending renaming returned->yN
open Go.IntKind renaming i64->qW,wrap_i64->qY,u64->wj,wrap_u64->eA,u8->yR
open Go.Lib renaming toList_data->ol
open Go.Op renaming bytesLess->wG
open Go.Value renaming int->wM,ownBlock->o8
open Go.Value.slice renaming injEq->eC
open Go.World renaming cell?_of_block->qj,cell?->qs,setCell->yQ,cell?_setCell_other->uU,frozen?->wz,frozen?_setCell->eU,cell?_setCell_same->yo,frozen?_of_block->rR
open Int renaming eq_ofNat_of_zero_le->uB
open List renaming getD_eq_getElem?_getD->q7,getElem?_eq_getElem->qw,getElem_mem->qK,drop_eq_nil_of_le->rY,getElem?_cons_succ->qA,foldl_cons->yn,length_cons->qf,foldl_append->iG,replicate->wY,replicate_succ->ym,range->qN,getElem?_map->qZ,getElem?_range->ib,getElem?_append_left->wD,getElem?_eq_none->eB,length_append->q8,ext_getElem?->y7,getElem?_set->rf,flatMap_cons->rU,ext_getElem->iC,append_assoc->qm,take_of_length_le->qL,length_take->qb,take_append_drop->r7,length_nil->qO,foldl_nil->oz,take_left->ox,drop_left->ov,extract_eq_take_drop->rb,length_drop->wI
open List.cons renaming injEq->tG
open Nat renaming testBit_div_two_pow->uC,pow_succ->uG,mul_comm->yr,eq_of_testBit_eq->rH,testBit_mod_two_pow->uV,pow_le_pow_right->rh,le_refl->qq,zero_add->qT,two_pow_pos->yi,zero_le->qh,lt_of_lt_of_le->qe,pow_add->pv,lt_or_ge->o9
open Option.some renaming injEq->qR,inj->qt
open Prod renaming fst->y5,snd->yK
open Prod.mk renaming injEq->eT
open UInt8 renaming toNat_lt->eQ,not_lt->oP,ofNat->qX,toNat_ofNat'->wi
open Go.Proofs.Tryz renaming prog->q6
open Go.Proofs.Tryz
namespace Go.Proofs.YtemeblgngidldaaGreatDoor
namespace LB
abbrev Lab:=ByteArray×ByteArray
structure Mat where
 nm:ByteArray
 op:Int
 vl:ByteArray
def at' (l:List Lab)(i:Nat):Lab:=l.getD i default
def am (l:List Mat)(i:Nat):Mat:=l.getD i ⟨qy,0,qy⟩
def an (l:List ByteArray)(i:Nat):ByteArray:=l.getD i qy
def byt (s:ByteArray)(i:Nat):Nat:=(s.data.toList.getD i 0).toNat
theorem zmg (s:ByteArray)(i:Nat)(h:i<s.size):(s[i]'h).toNat=byt s i:=by
 have q:i<s.data.toList.length:=by simpa using h
 unfold byt;rw[q7,qw q];simp[ByteArray.getElem_eq_getElem_data]
theorem zjT (s:ByteArray)(i:Nat):byt s i<256:=eQ _
theorem toList_inj {x y:ByteArray}(h:x.toList=y.toList):x=y:=by
 rw[ol,ol] at h;cases x;cases y;simp only[Array.toList_inj] at h;rw[h]
theorem zen {x y:ByteArray}:x.toList=y.toList↔x=y:=⟨toList_inj,λh=>by rw[h]⟩
theorem beq_eq (x y:ByteArray):(x.toList==y.toList)=decide (x=y):=by
 by_cases h:x=y
 .subst h;simp
 .rw[decide_eq_false h];simp only[beq_eq_false_iff_ne,ne_eq];exact λq=>h (toList_inj q)
abbrev lt (x y:ByteArray):Bool:=wG x.toList y.toList
theorem less_irr:∀a:List UInt8,wG a a=false
 | []=>rfl
 | a::x=>by simp[wG,less_irr x]
theorem less_tr:∀a b c:List UInt8,wG a b=true->wG b c=true->wG a c=true
 | _,[],_,h,_=>by simp[wG] at h
 | _,_::_,[],_,h=>by simp[wG] at h
 | [],_::_,_::_,_,_=>by simp[wG]
 | a::x,b::y,c::z,G,q=>by
  simp only[wG,Bool.or_eq_true,decide_eq_true_eq,Bool.and_eq_true,beq_iff_eq] at G q ⊢;rcases G with G|⟨rfl,G⟩
  .rcases q with q|⟨rfl,q⟩
   .exact .inl (UInt8.lt_trans G q)
   .exact .inl G
  .rcases q with q|⟨rfl,q⟩
   .exact .inl q
   .exact .inr ⟨rfl,less_tr x y z G q⟩
theorem less_tri:∀a b:List UInt8,wG a b=false->wG b a=false->a=b
 | [],[],_,_=>rfl
 | [],_::_,h,_=>by simp[wG] at h
 | _::_,[],_,h=>by simp[wG] at h
 | a::x,b::y,h1,h2=>by
  simp only[wG,Bool.or_eq_false_iff,decide_eq_false_iff_not,Bool.and_eq_false_imp,beq_iff_eq] at h1 h2;have e:a=b:=UInt8.le_antisymm (oP.1 h2.1) (oP.1 h1.1);subst e;rw[less_tri x y (h1.2 rfl) (h2.2 rfl)]
structure Ord3 {α:Type} (c:α->α->Int):Prop where
 rng:∀x y,c x y= -1\/c x y=0\/c x y=1
 anti:∀x y,c y x= -c x y
 zero:∀x y,c x y=0↔x=y
 tr:∀x y z,c x y= -1->c y z= -1->c x z= -1
def cB (x y:ByteArray):Int:=if lt x y=true then-1 else if x=y then 0 else 1
theorem cB_ord : Ord3 cB where
  rng x y := by unfold cB; split; · simp
                split <;> simp
  anti x y := by
    unfold cB
    by_cases h1 : lt x y = true
    · have h2 : ¬ lt y x = true := fun h => by have := less_tr _ _ _ h1 h; rw [less_irr] at this; cases this
      have h3 : ¬ y = x := fun h => by subst h; exact Bool.noConfusion ((less_irr y.toList).symm.trans h1)
      rw [if_pos h1, if_neg h2, if_neg h3]; rfl
    · by_cases h2 : x = y
      · subst h2; rw [if_neg h1, if_pos rfl]; rfl
      · by_cases h3 : lt y x = true
        · rw [if_pos h3, if_neg h1, if_neg h2]
        · exact absurd (toList_inj (less_tri _ _ (by simpa using h1) (by simpa using h3))) h2
  zero x y := by
    unfold cB
    by_cases h1 : lt x y = true
    · rw [if_pos h1]
      refine ⟨fun h => by omega, fun h => ?_⟩
      subst h; exact Bool.noConfusion ((less_irr x.toList).symm.trans h1)
    · rw [if_neg h1]
      by_cases h2 : x = y
      · rw [if_pos h2]; simp [h2]
      · rw [if_neg h2]; simp [h2]
  tr x y z h1 h2 := by
    have key : ∀ a b, cB a b = -1 → lt a b = true := fun a b h => by
      unfold cB at h
      by_cases h1 : lt a b = true
      · exact h1
      · rw [if_neg h1] at h; split at h <;> omega
    unfold cB
    rw [if_pos (less_tr _ _ _ (key _ _ h1) (key _ _ h2))]
def cL (p q:Lab):Int:=if cB p.1 q.1=0 then cB p.2 q.2 else cB p.1 q.1
theorem cL_ord : Ord3 cL where
  rng p q := by unfold cL; split; · exact cB_ord.rng _ _
                exact cB_ord.rng _ _
  anti p q := by
    unfold cL
    have h1 := cB_ord.anti p.1 q.1
    have h2 := cB_ord.anti p.2 q.2
    by_cases h : cB p.1 q.1 = 0
    · rw [if_pos h, if_pos (by omega), h2]
    · rw [if_neg h, if_neg (by omega), h1]
  zero p q := by
    unfold cL
    have h1 := cB_ord.zero p.1 q.1
    have h2 := cB_ord.zero p.2 q.2
    by_cases h : cB p.1 q.1 = 0
    · rw [if_pos h, h2]
      refine ⟨fun h' => Prod.ext (h1.1 h) h', fun h' => by rw [h']⟩
    · rw [if_neg h]
      refine ⟨fun h' => absurd h' h, fun h' => ?_⟩
      exact absurd (h1.2 (by rw [h'])) h
  tr p q r h1 h2 := by
    unfold cL at h1 h2 ⊢
    by_cases a : cB p.1 q.1 = 0
    · rw [if_pos a] at h1
      have ea := (cB_ord.zero _ _).1 a
      by_cases b : cB q.1 r.1 = 0
      · rw [if_pos b] at h2
        have eb := (cB_ord.zero _ _).1 b
        rw [if_pos ((cB_ord.zero _ _).2 (ea.trans eb))]
        exact cB_ord.tr _ _ _ h1 h2
      · rw [if_neg b] at h2
        rw [ea, if_neg b]; exact h2
    · rw [if_neg a] at h1
      by_cases b : cB q.1 r.1 = 0
      · have eb := (cB_ord.zero _ _).1 b
        rw [← eb, if_neg a]; exact h1
      · rw [if_neg b] at h2
        have := cB_ord.tr _ _ _ h1 h2
        rw [if_neg (by omega)]; exact this
def lx {α:Type}(c:α->α->Int):List α->List α->Int
 | [],[]=>0
 | [],_::_=> -1
 | _::_,[]=>1
 | x::a,y::b=>if c x y=0 then lx c a b else c x y
theorem zmK {α:Type}{c:α->α->Int}(o:Ord3 c):Ord3 (lx c) where
 rng:=by
  intro a
  induction a with
  | nil=>intro b;cases b<;>simp[lx]
  | cons x a ih=>
   intro b;cases b with
   | nil=>simp[lx]
   | cons y b=>
    simp only[lx];split
    .exact ih b
    .exact o.rng x y
 anti:=by
  intro a
  induction a with
  | nil=>intro b;cases b<;>simp[lx]
  | cons x a ih=>
   intro b;cases b with
   | nil=>simp[lx]
   | cons y b=>
    simp only[lx];have h1:=o.anti x y;by_cases h:c x y=0
    .rw[if_pos h,if_pos (by omega),ih b]
    .rw[if_neg h,if_neg (by omega),h1]
 zero:=by
  intro a
  induction a with
  | nil=>intro b;cases b<;>simp[lx]
  | cons x a ih=>
   intro b;cases b with
   | nil=>simp[lx]
   | cons y b=>
    simp only[lx,tG];have h1:=o.zero x y;by_cases h:c x y=0
    .rw[if_pos h,ih b];simp[h1.1 h]
    .rw[if_neg h];exact⟨λJ=>absurd J h,λJ=>absurd (h1.2 J.1) h⟩
 tr:=by
  intro a
  induction a with
  | nil=>
   intro b d h1 G;cases b with
   | nil=>simp[lx] at h1
   | cons y b=>cases d with
    | nil=>simp[lx] at G
    | cons z d=>simp[lx]
  | cons x a ih=>
   intro b d h1 G;cases b with
   | nil=>simp[lx] at h1
   | cons y b=>cases d with
    | nil=>simp[lx] at G
    | cons z d=>
     simp only[lx] at h1 G ⊢;by_cases p:c x y=0
     .rw[if_pos p] at h1;have O:=(o.zero _ _).1 p;subst O;by_cases q:c x z=0
      .rw[if_pos q] at G ⊢;exact ih b d h1 G
      .rw[if_neg q] at G ⊢;exact G
     .rw[if_neg p] at h1;by_cases q:c y z=0
      .have U:=(o.zero _ _).1 q;subst U;rw[if_neg p];exact h1
      .rw[if_neg q] at G;have:=o.tr _ _ _ h1 G;rw[if_neg (by omega)];exact this
abbrev cmp (a b:List Lab):Int:=lx cL a b
theorem z0R:Ord3 cmp:=zmK cL_ord
theorem z1n (x:Lab)(a:List Lab)(i:Nat):at' (x::a) (i+1)=at' a i:=by simp[at']
theorem zkk (l:List Mat)(i:Nat)(h:i<l.length):am l i∈l:=by
 unfold am;rw[q7,qw h];exact qK h
theorem z4B:∀(a b:List Lab) (i:Nat),i<=a.length->i<=b.length->(∀j,j<i->cL (at' a j) (at' b j)=0)->cmp a b=cmp (a.drop i) (b.drop i)
 | _,_,0,_,_,_=>rfl
 | [],_,i+1,h,_,_=>by simp at h
 | _::_,[],i+1,_,h,_=>by simp at h
 | x::a,y::b,i+1,h1,h2,h=>by
  have q:cL x y=0:=h 0 (by omega);have G:=z4B a b i (by simpa using h1) (by simpa using h2) (λj J=>by have:=h (j+1) (by omega);rwa[z1n,z1n] at this);simp only[List.drop_succ_cons];rw[<-G];show(if cL x y=0 then _ else _)=_;rw[if_pos q]
theorem drop_at (a:List Lab)(i:Nat)(h:i<a.length):a.drop i=at' a i::a.drop (i+1):=by
 rw[List.drop_eq_getElem_cons h]
 congr 1
 unfold at';rw[q7,qw h];rfl
theorem zmY (a b:List Lab)(i:Nat)(q:i<a.length)(G:i<b.length)(h:∀j,j<i->cL (at' a j) (at' b j)=0)(hi:cL (at' a i) (at' b i)≠0):cmp a b=cL (at' a i) (at' b i):=by
 rw[z4B a b i (by omega) (by omega) h,drop_at a i q,drop_at b i G];show(if _=0 then _ else _)=_;rw[if_neg hi]
theorem ziF (a b:List Lab)(i:Nat)(q:i<a.length)(G:i=b.length)(h:∀j,j<i->cL (at' a j) (at' b j)=0):cmp a b=1:=by
 rw[z4B a b i (by omega) (by omega) h,drop_at a i q,show b.drop i=[] from rY (by omega)];rfl
theorem zf1 (a b:List Lab)(q:a.length<b.length)(h:∀j,j<a.length->cL (at' a j) (at' b j)=0):cmp a b= -1:=by
 rw[z4B a b a.length (by omega) (by omega) h,drop_at b _ q,rY (by omega)];rfl
theorem zcp (a b:List Lab)(q:a.length=b.length)(h:∀j,j<a.length->cL (at' a j) (at' b j)=0):cmp a b=0:=by
 rw[z4B a b a.length (by omega) (by omega) h,rY (by omega),rY (by omega)];rfl
def letter (n:Nat):Bool:=decide (65<=n/\n<=90\/97<=n/\n<=122\/n=95)
def digit (n:Nat):Bool:=decide (48<=n/\n<=57)
def okN (i n:Nat):Bool:=letter n||(decide (i≠0)&&digit n)
def okV (n:Nat):Bool:=decide (32<=n/\n<=126/\n≠34/\n≠92)
def name (s:ByteArray):Bool:=decide (1<=s.size/\s.size<=24/\∀i,i<s.size->okN i (byt s i)=true)
def zjQ (s:ByteArray):Bool:=decide (s.size<=24/\∀i,i<s.size->okV (byt s i)=true)
abbrev okL (l:List Lab)(i:Nat):Prop:=name (at' l i).1=true/\zjQ (at' l i).2=true/\(at' l i).2≠qy/\(0<i->lt (at' l (i-1)).1 (at' l i).1=true)
def right (l:List Lab):Bool:=decide (1<=l.length/\l.length<=8/\∀i,i<l.length->okL l i)
def get:List Lab->ByteArray->ByteArray
 | [],_=>qy
 | p::l,n=>if p.1=n then p.2 else get l n
theorem zgK:∀(l:List Lab) (n:ByteArray) (i:Nat),i<l.length->(∀j,j<i->(at' l j).1≠n)->(at' l i).1=n->get l n=(at' l i).2
 | [],_,_,h,_,_=>by simp at h
 | p::l,n,0,_,_,h=>by
  have q:p.1=n:=h;show(if p.1=n then _ else _)=_;rw[if_pos q];rfl
 | p::l,n,i+1,h,ha,hi=>by
  have G:p.1≠n:=ha 0 (by omega);show(if p.1=n then _ else _)=_;rw[if_neg G,z1n];exact zgK l n i (by simpa using h) (λj J=>by have:=ha (j+1) (by omega);rwa[z1n] at this) (by rwa[z1n] at hi)
theorem get_none:∀(l:List Lab) (n:ByteArray),(∀j,j<l.length->(at' l j).1≠n)->get l n=qy
 | [],_,_=>rfl
 | p::l,n,ha=>by
  have h:p.1≠n:=ha 0 (by simp);show(if p.1=n then _ else _)=_;rw[if_neg h];exact get_none l n (λj q=>by have:=ha (j+1) (by simpa using q);rwa[z1n] at this)
def zln (m:Mat):Bool:=name m.nm&&zjQ m.vl&&decide (0<=m.op/\m.op<=3)
def asked (l:List Mat):Bool:=decide (l.length<=8)&&l.all zln
def begins (v x:ByteArray):Bool:=decide (x.size<=v.size)&&decide (v.extract 0 x.size=x)
def one (l:List Lab)(m:Mat):Bool:=
 if m.op=0 then decide (get l m.nm=m.vl)
 else if m.op=1 then !decide (get l m.nm=m.vl)
 else if m.op=2 then begins (get l m.nm) m.vl
 else if m.op=3 then !begins (get l m.nm) m.vl
 else false
def all (l:List Lab)(ms:List Mat):Bool:=ms.all (one l)
end LB
namespace BL
def bitsOf (u:Nat):Nat->List Bool
 | 0=>[]
 | k+1=>u.testBit k::bitsOf u k
def val (l:List Bool):Nat:=l.foldl (λa b=>2*a+b.toNat) 0
theorem bitsOf_length (u k:Nat):(bitsOf u k).length=k:=by
 induction k with
 | zero=>rfl
 | succ k ih=>simp[bitsOf,ih]
theorem z5s (u k i:Nat):((bitsOf u k)[i]?.getD false)=(decide (i<k)&&u.testBit (k-1-i)):=by
 induction k generalizing i with
 | zero=>simp[bitsOf]
 | succ k ih=>
  cases i with
  | zero=>simp[bitsOf]
  | succ i=>
   have h:=ih i;simp only[bitsOf,qA];rw[h];have:k+1-1-(i+1)=k-1-i:=by omega
   rw[this]
   congr 1
   simp
theorem zeu (u a b:Nat):bitsOf u (a+b)=bitsOf (u/2^b) a++bitsOf u b:=by
 induction a with
 | zero=>simp[bitsOf]
 | succ a ih=>
  rw[show a+1+b=(a+b)+1 from by omega];simp only[bitsOf,List.cons_append];rw[ih,uC]
theorem zhG (l:List Bool)(c:Nat):l.foldl (λa b=>2*a+b.toNat) c=c*2^l.length+val l:=by
 induction l generalizing c with
 | nil=>simp[val]
 | cons b l ih=>
  simp only[val,yn,qf];rw[ih,ih (2*0+b.toNat),uG,Nat.add_mul];have e:2*c*2^l.length=c*(2^l.length*2):=by rw[yr 2 c,Nat.mul_assoc,yr 2 (2^l.length)]
  rw[e];simp;omega
theorem val_append (l r:List Bool):val (l++r)=val l*2^r.length+val r:=by
 unfold val;rw[iG,zhG r];rfl
theorem z6h (b:Bool)(r:List Bool):val (b::r)=b.toNat*2^r.length+val r:=by
 have:=val_append [b] r;simpa [val] using this
theorem zaA (l:List Bool):val l<2^l.length:=by
 induction l with
 | nil=>simp[val]
 | cons b l ih=>
  rw[z6h,qf,uG];cases b<;>simp<;>omega
theorem z5z (u k:Nat):val (bitsOf u k)=u%2^k:=by
 induction k with
 | zero=>simp[bitsOf,val,Nat.mod_one]
 | succ k ih=>
  rw[bitsOf,z6h,bitsOf_length,ih];have h:=Nat.mod_mul (a:=2^k) (b:=2) (x:=u);rw[uG,h,Nat.toNat_testBit,yr (2^k)];omega
theorem zg0 (k:Nat):val (wY k false)=0:=by
 induction k with
 | zero=>rfl
 | succ k ih=>rw[ym,z6h,ih];simp
theorem z3V (l:List Bool)(t:Nat):(val l).testBit t=(decide (t<l.length)&&(l[l.length-1-t]?.getD false)):=by
 induction l with
 | nil=>simp[val]
 | cons b l ih=>
  rw[z6h,yr,Nat.testBit_two_pow_mul_add _ (zaA l)];by_cases h:t<l.length
  .rw[if_pos h,ih];have e:(b::l).length-1-t=(l.length-1-t)+1:=by simp;omega
   rw[e,qA];simp[h];intro _;omega
  .rw[if_neg h];by_cases q:t=l.length
   .subst q;cases b<;>simp
   .have e:¬t<(b::l).length:=by simp;omega
    simp only[e,decide_false,Bool.false_and];cases b
    .simp
    .have:t-l.length=(t-l.length-1)+1:=by omega
     rw[this,Nat.testBit_succ];simp
/-! ## bytes -/
def z2S (bs:List Bool)(j:Nat):Nat:=val ((qN 8).map λi=>bs[8*j+i]?.getD false)
def pk (bs:List Bool):List Nat:=(qN ((bs.length+7)/8)).map (z2S bs)
theorem zeI (bs:List Bool)(j:Nat):z2S bs j<256:=by
 have:=zaA ((qN 8).map λi=>bs[8*j+i]?.getD false);simpa [z2S] using this
theorem z0K (bs:List Bool)(j t:Nat):(z2S bs j).testBit t=(decide (t<8)&&(bs[8*j+(7-t)]?.getD false)):=by
 unfold z2S;rw[z3V];simp only[List.length_map,List.length_range];by_cases h:t<8
 .rw[qZ,ib (by omega)];simp[h]
 .simp[h]
theorem pk_length (bs:List Bool):(pk bs).length=(bs.length+7)/8:=by simp[pk]
theorem z7c (bs:List Bool)(j:Nat)(h:j<(bs.length+7)/8):(pk bs)[j]? =some (z2S bs j):=by
 unfold pk;rw[qZ,ib h];rfl
theorem zeJ (bs:List Bool):∀x∈pk bs,x<256:=by
 intro x h;simp only[pk,List.mem_map] at h;obtain⟨j,_,rfl⟩:=h;exact zeI bs j
theorem z3D (a b:List Bool)(i:Nat):((a++b)[i]?.getD false)=if i<a.length then a[i]?.getD false else b[i-a.length]?.getD false:=by
 by_cases h:i<a.length
 .rw[wD h,if_pos h]
 .rw[List.getElem?_append_right (by omega),if_neg h]
theorem zgq (a:List Bool)(i:Nat)(h:a.length<=i):(a[i]?.getD false)=false:=by
 rw[eB h];rfl
theorem zak (bs:List Bool)(u n:Nat)(V:n<=8-bs.length%8)(Y:0<n):
  z2S (bs++bitsOf u n) (bs.length/8)=z2S bs (bs.length/8)||| (u%2^n*2^(8-bs.length%8-n)):=by
 apply rH;intro t;rw[Nat.testBit_or,z0K,z0K,z3D,z5s,yr (u%2^n),Nat.testBit_two_pow_mul,uV];by_cases J:t<8
 .by_cases O:8*(bs.length/8)+(7-t)<bs.length
  .rw[if_pos O];have:¬(8-bs.length%8-n<=t/\t-(8-bs.length%8-n)<n):=by omega
   by_cases h:8-bs.length%8-n<=t
   .have q:¬t-(8-bs.length%8-n)<n:=by omega
    simp[q]
   .simp[h]
  .rw[if_neg O,zgq bs _ (by omega)];by_cases h:8-bs.length%8-n<=t
   .have q:t-(8-bs.length%8-n)<n:=by omega
    have G:8*(bs.length/8)+(7-t)-bs.length<n:=by omega
    have U:n-1-(8*(bs.length/8)+(7-t)-bs.length)=t-(8-bs.length%8-n):=by omega
    simp[J,h,q,G,U]
   .have G:¬8*(bs.length/8)+(7-t)-bs.length<n:=by omega
    simp[h,G]
 .have h:¬(t-(8-bs.length%8-n)<n):=by omega
  simp[J,h]
theorem z8b (bs r:List Bool)(j:Nat)(h:8*j+8<=bs.length):z2S (bs++r) j=z2S bs j:=by
 apply rH;intro t;rw[z0K,z0K,z3D];by_cases q:t<8
 .rw[if_pos (by omega)]
 .simp[q]
theorem ze3 (bs:List Bool)(j:Nat)(h:bs.length<=8*j):z2S bs j=0:=by
 apply rH;intro t;rw[z0K,zgq bs _ (by omega)];simp
theorem pk_step (bs:List Bool)(u n:Nat)(G:n<=8-bs.length%8)(J:0<n)(U:bs.length%8≠0):
  pk (bs++bitsOf u n)=(pk bs).set ((pk bs).length-1) (((pk bs)[(pk bs).length-1]?.getD 0)||| (u%2^n*2^(8-bs.length%8-n))):=by
 have V:=pk_length bs;have h:=pk_length (bs++bitsOf u n);rw[q8,bitsOf_length] at h;apply y7;intro j;by_cases O:j<(bs.length+7)/8
 .rw[z7c _ j (by rw[q8,bitsOf_length];omega),rf];by_cases q:(pk bs).length-1=j
  .rw[if_pos q,if_pos (by omega)];have e:j=bs.length/8:=by omega
   rw[q,e,z7c bs _ (by omega),zak bs u n G J];rfl
  .rw[if_neg q,z7c bs j O,z8b _ _ _ (by omega)]
 .rw[eB (by omega),eB (by simp;omega)]
theorem pk_step0 (bs:List Bool)(u n:Nat)(J:n<=8)(q:0<n)(O:bs.length%8=0):
  pk (bs++bitsOf u n)=(pk bs++[0]).set (pk bs).length (0||| (u%2^n*2^(8-bs.length%8-n))):=by
 have U:=pk_length bs;have h:=pk_length (bs++bitsOf u n);rw[q8,bitsOf_length] at h;apply y7;intro j;by_cases G:j<(bs.length+7)/8
 .rw[z7c _ j (by rw[q8,bitsOf_length];omega),rf,if_neg (by omega),wD (by omega),z7c bs j G,z8b _ _ _ (by omega)]
 .by_cases V:j=(bs.length+7)/8
  .rw[z7c _ j (by rw[q8,bitsOf_length];omega),rf,if_pos (by omega),if_pos (by simp)];have e:j=bs.length/8:=by omega
   rw[e,zak bs u n (by omega) q,ze3 bs _ (by omega)]
  .rw[eB (by omega),eB (by simp;omega)]
/-! ## the bits of bytes -/
def z4f (l:List Nat):List Bool:=l.flatMap λb=>bitsOf b 8
theorem z0C (l:List Nat):(z4f l).length=8*l.length:=by
 induction l with
 | nil=>rfl
 | cons a l ih=>simp only[z4f,rU,q8,bitsOf_length,qf] at ih ⊢;omega
theorem z9H (l:List Nat)(i:Nat):((z4f l)[i]?.getD false)=((l[i/8]?.getD 0).testBit (7-i%8)):=by
 induction l generalizing i with
 | nil=>simp[z4f]
 | cons a l ih=>
  have e:z4f (a::l)=bitsOf a 8++z4f l:=rfl;rw[e,z3D,bitsOf_length];by_cases h:i<8
  .rw[if_pos h,z5s];have q:i/8=0:=by omega
   have G:8-1-i=7-i%8:=by omega
   rw[q,G];simp[h]
  .rw[if_neg h,ih];have q:i/8=(i-8)/8+1:=by omega
   have G:(i-8)%8=i%8:=by omega
   rw[q,G];simp
theorem z8U (l:List Bool)(p n i:Nat)(h:i<n):(((l.drop p).take n)[i]?.getD false)=(l[p+i]?.getD false):=by
 rw[List.getElem?_take,if_pos h,List.getElem?_drop]
theorem zeN (l:List Nat)(p n:Nat)(O:n<=8-p%8)(U:p+n<=8*l.length):
  val (((z4f l).drop p).take n)=(l[p/8]?.getD 0)/2^(8-p%8-n)%2^n:=by
 apply rH;intro t;have q:(((z4f l).drop p).take n).length=n:=by simp[z0C];omega
 rw[z3V,q,uV,uC];by_cases h:t<n
 .rw[z8U _ _ _ _ (by omega),z9H];have G:(p+(n-1-t))/8=p/8:=by omega
  have J:7-(p+(n-1-t))%8=t+(8-p%8-n):=by omega
  rw[G,J]
 .simp[h]
theorem take_add (l:List Bool)(a b:Nat):l.take (a+b)=l.take a++(l.drop a).take b:=by
 rw[List.take_add]
theorem zaB (l:List Bool)(p k n:Nat)(h:p+k+n<=l.length):
  val ((l.drop p).take (k+n))=val ((l.drop p).take k)*2^n+val ((l.drop (p+k)).take n):=by
 have e:(((l.drop p).drop k).take n).length=n:=by simp;omega
 rw[take_add,val_append,e,List.drop_drop]
theorem ziM (bs:List Bool):z4f (pk bs)=bs++wY (8*((bs.length+7)/8)-bs.length) false:=by
 apply iC
 .rw[z0C,pk_length];simp;omega
 .intro i q J;have G:∀(l:List Bool) (h:i<l.length),l[i]=l[i]?.getD false:=λl h=>by simp[h]
  rw[G _ q,G _ J,z9H,z3D];rw[z0C,pk_length] at q;rw[z7c bs _ (by omega)];show(z2S bs (i/8)).testBit (7-i%8)=_;rw[z0K];have e:8*(i/8)+(7-(7-i%8))=i:=by omega
  rw[e];by_cases h:i<bs.length
  .rw[if_pos h];simp;intro _;omega
  .rw[if_neg h,zgq bs i (by omega),List.getElem?_replicate];split<;>simp
/-! ## numbers that are PUT -/
def wid:Nat->Nat
 | 0=>0 | 1=>4 | 2=>7 | 3=>12 | 4=>20 | 5=>32 | _=>64
def nar (u:Nat):Nat:=
 if u<1 then 0 else if u<16 then 1 else if u<128 then 2 else if u<4096 then 3 else if u<1048576 then 4 else if u<4294967296 then 5 else 6
theorem zaE (u:Nat):nar u<=6:=by unfold nar;repeat' split<;>try omega
theorem zfl (u k:Nat)(h:k<nar u):¬u<2^wid k:=by
 have q:k=0\/k=1\/k=2\/k=3\/k=4\/k=5:=by have:=zaE u;omega
 unfold nar at h;rcases q with rfl|rfl|rfl|rfl|rfl|rfl<;>simp only[wid]<;>(repeat' split at h)<;>omega
theorem z8z (i:Nat):wid i<=64:=by unfold wid;split<;>omega
def zig (n:Int):Nat:=if n<0 then(-2*n-1).toNat else(2*n).toNat
def zag (u:Nat):Int:=if u%2=1 then-((u/2:Nat):Int)-1 else((u/2:Nat):Int)
theorem zff (n:Int):zag (zig n)=n:=by unfold zag zig;split<;>split<;>omega
theorem zkj (n:Int)(h: -9223372036854775808<=n)(q:n<=9223372036854775807):zig n<18446744073709551616:=by unfold zig;split<;>omega
def zc3 (i:Nat):List Bool:=wY i true++(if i<6 then [false] else [])
def z6y (u:Nat):List Bool:=zc3 (nar u)++bitsOf u (wid (nar u))
def plc:Nat->List Bool->Option (Nat×List Bool)
 | 0,b=>some (0,b)
 | _+1,[]=>none
 | _+1,false::r=>some (0,r)
 | k+1,true::r=>(plc k r).map λx=>(x.1+1,x.2)
def z5n (b:List Bool):Option (Nat×List Bool):=
 match plc 6 b with
 | none=>none
 | some (i,r)=>if r.length<wid i then none else if nar (val (r.take (wid i)))=i then some (val (r.take (wid i)),r.drop (wid i)) else none
theorem ziB (i:Nat)(h:i<=6)(r:List Bool):plc 6 (zc3 i++r)=some (i,r):=by
 have:i=0\/i=1\/i=2\/i=3\/i=4\/i=5\/i=6:=by omega
 rcases this with rfl|rfl|rfl|rfl|rfl|rfl|rfl<;>rfl
theorem zce (u:Nat)(h:u<18446744073709551616):u<2^wid (nar u):=by
 unfold nar
 repeat' split
 all_goals (simp only[wid];omega)
theorem zgO (u:Nat)(h:u<18446744073709551616)(r:List Bool):z5n (z6y u++r)=some (u,r):=by
 unfold z5n z6y;rw[qm,ziB _ (zaE u)];have q:(bitsOf u (wid (nar u))).length=wid (nar u):=bitsOf_length _ _;have G:(bitsOf u (wid (nar u))++r).take (wid (nar u))=bitsOf u (wid (nar u)):=by
  rw[List.take_append_of_le_length (by omega),qL (by omega)]
 have J:(bitsOf u (wid (nar u))++r).drop (wid (nar u))=r:=by
  rw[List.drop_append_of_le_length (by omega),List.drop_of_length_le (by omega)];rfl
 have O:val (bitsOf u (wid (nar u)))=u:=by rw[z5z,Nat.mod_eq_of_lt (zce u h)]
 simp only[G,J,O];rw[if_neg (by simp[q]),if_pos trivial]
theorem zaq (i:Nat):(zc3 i).length=i+(if i<6 then 1 else 0):=by
 unfold zc3;split<;>simp
theorem zc0 (u:Nat):(z6y u).length=nar u+(if nar u<6 then 1 else 0)+wid (nar u):=by
 unfold z6y;rw[q8,zaq,bitsOf_length]
theorem z1S (u:Nat):1<=(z6y u).length/\(z6y u).length<=70/\(u=0->(z6y u).length=1)/\(u<16->(z6y u).length<=6):=by
 rw[zc0];have G:=zaE u;refine⟨?_,?_,?_,?_⟩
 .split<;>omega
 .have:nar u=0\/nar u=1\/nar u=2\/nar u=3\/nar u=4\/nar u=5\/nar u=6:=by omega
  rcases this with h|h|h|h|h|h|h<;>simp[h,wid]
 .intro h;subst h;decide
 .intro h;by_cases q:u<1
  .have:nar u=0:=by unfold nar;simp[q]
   simp[this,wid]
  .have:nar u=1:=by unfold nar;rw[if_neg q,if_pos h]
   simp[this,wid]
end BL
section
namespace CL
open BL
abbrev Smp:=Int×Int
def W (n:Int):Int:=(n+9223372036854775808)%18446744073709551616-9223372036854775808
def Rs (s:Smp):Prop:=(-9223372036854775808<=s.1/\s.1<=9223372036854775807)/\(-9223372036854775808<=s.2/\s.2<=9223372036854775807)
theorem z5l (n:Int): -9223372036854775808<=W n/\W n<=9223372036854775807:=by unfold W;omega
def at' (l:List Smp)(i:Nat):Smp:=l.getD i (0,0)
def ahead (l:List Smp)(i:Nat):Smp:=if i=0 then(0,0) else at' l (i-1)
def stp (l:List Smp)(i:Nat):Int:=if i<2 then 0 else W ((at' l (i-1)).1-(at' l (i-2)).1)
def zdq (l:List Smp)(i:Nat):Int:=W (W ((at' l i).1-(ahead l i).1)-stp l i)
def zfC (l:List Smp)(i:Nat):Int:=W ((at' l i).2-(ahead l i).2)
def zbV (l:List Smp)(i:Nat):List Bool:=z6y (zig (zdq l i))++z6y (zig (zfC l i))
def seg (l:List Smp)(k:Nat):Nat->List Bool
 | 0=>[]
 | n+1=>zbV l k++seg l (k+1) n
def chB (l:List Smp):List Bool:=z6y (zig l.length)++seg l 0 l.length
theorem zid (l:List Smp)(n:Nat):∀k,seg l k (n+1)=seg l k n++zbV l (k+n):=by
 induction n with
 | zero=>intro k;simp[seg]
 | succ n ih=>
  intro k;have e:seg l k (n+1+1)=zbV l k++seg l (k+1) (n+1):=rfl;rw[e,ih (k+1),<-qm];have h:k+1+n=k+(n+1):=by omega
  rw[h];rfl
theorem zg8 (l:List Smp)(n:Nat):∀k,(seg l k n).length<=140*n:=by
 induction n with
 | zero=>intro k;simp[seg]
 | succ n ih=>
  intro k;have h:=(z1S (zig (zdq l k))).2.1;have q:=(z1S (zig (zfC l k))).2.1;have G:=ih (k+1);simp only[seg,zbV,q8];omega
theorem zeV (l:List Smp):(chB l).length<=70+140*l.length:=by
 have h:=(z1S (zig l.length)).2.1;have q:=zg8 l l.length 0;simp only[chB,q8];omega
/-! ## which samples may be -/
def ziJ (l:List Smp)(i:Nat):Bool:=
 decide (-1099511627776<=(at' l i).1)&&decide ((at' l i).1<=1099511627776)&&(decide (i=0)||decide ((at' l (i-1)).1<(at' l i).1))
def right (l:List Smp):Bool:=decide (l.length<=2000)&&(qN l.length).all (ziJ l)
theorem z10 (l:List Smp)(i:Nat):ziJ l i=true↔(-1099511627776<=(at' l i).1/\(at' l i).1<=1099511627776)/\(i=0\/(at' l (i-1)).1<(at' l i).1):=by
 simp[ziJ]
theorem z0J (l:List Smp):right l=true↔l.length<=2000/\∀i,i<l.length->ziJ l i=true:=by
 simp[right,List.all_eq_true,List.mem_range]
theorem zch (l:List Smp)(h:l.length<=2000)(q:∀i,i<l.length->ziJ l i=true):right l=true:=(z0J l).2 ⟨h,q⟩
theorem zaK (l:List Smp)(i:Nat)(h:i<l.length)(q:ziJ l i=false):right l=false:=by
 rw[<-tV,z0J];intro G;have:=G.2 i h;rw[q] at this;cases this
theorem z9h (l:List Smp)(h:2000<l.length):right l=false:=by
 rw[<-tV,z0J];omega
/-! ## reading -/
def nxt (l:List Smp)(d v:Int):Smp:=(W (W ((ahead l l.length).1+stp l l.length)+d),W ((ahead l l.length).2+v))
def unn:Nat->List Smp->List Bool->Option (List Smp×List Bool)
 | 0,l,b=>some (l,b)
 | n+1,l,b=>match z5n b with
  | none=>none
  | some (u,r)=>match z5n r with
   | none=>none
   | some (v,r2)=>unn n (l++[nxt l (zag u) (zag v)]) r2
def z7m (b:List Bool):Option (List Smp):=
 match z5n b with
 | none=>none
 | some (u,r)=>if 0<=zag u/\zag u<=2000 then
   match unn (zag u).toNat [] r with
   | none=>none
   | some (l,t)=>if t.length<8/\val t=0/\right l=true then some l else none
  else none
theorem zgN (n:Nat)(l:List Smp)(b:List Bool)(h:z5n b=none):unn (n+1) l b=none:=by
 unfold unn;rw[h]
theorem zfX (n:Nat)(l:List Smp)(b r:List Bool)(u:Nat)(h:z5n b=some (u,r))(q:z5n r=none):unn (n+1) l b=none:=by
 unfold unn;rw[h];simp only[];rw[q]
theorem zix (n:Nat)(l:List Smp)(b r q:List Bool)(u v:Nat)(h:z5n b=some (u,r))(G:z5n r=some (v,q)):unn (n+1) l b=unn n (l++[nxt l (zag u) (zag v)]) q:=by
 conv=>lhs;unfold unn
 rw[h];simp only[];rw[G]
theorem z9j (L:List Smp)(k i:Nat)(h:i<k):at' (L.take k) i=at' L i:=by
 unfold at';rw[q7,List.getElem?_take_of_lt h,<-q7]
theorem z4W (L:List Smp)(k:Nat):ahead (L.take k) k=ahead L k:=by
 unfold ahead;split
 .rfl
 .exact z9j L k (k-1) (by omega)
theorem z92 (L:List Smp)(k:Nat):stp (L.take k) k=stp L k:=by
 unfold stp;split
 .rfl
 .rw[z9j L k (k-1) (by omega),z9j L k (k-2) (by omega)]
theorem zcX (L:List Smp)(k:Nat)(h:k<L.length):L.take k++[at' L k]=L.take (k+1):=by
 rw[List.take_succ_eq_append_getElem h];simp[at',h]
theorem at_mem (L:List Smp)(k:Nat)(h:k<L.length):at' L k∈L:=by
 have:at' L k=L[k]:=by simp[at',h]
 rw[this];exact qK h
theorem zkv (L:List Smp)(k:Nat)(h:k<L.length)(q:∀s∈L,Rs s):nxt (L.take k) (zdq L k) (zfC L k)=at' L k:=by
 have G:(L.take k).length=k:=by rw[qb];omega
 have J:=q _ (at_mem L k h);unfold nxt;rw[G,z4W,z92];unfold zdq zfC;generalize at' L k=s at*;obtain⟨t,v⟩:=s;obtain⟨⟨O,U⟩,V,Y⟩:=J;simp only at O U V Y ⊢;generalize (ahead L k).1=a;generalize (ahead L k).2=b;generalize stp L k=c;unfold W;rw[eT];constructor<;>omega
theorem z5m (L:List Smp)(k:Nat): -9223372036854775808<=zdq L k/\zdq L k<=9223372036854775807:=z5l _
theorem z5A (L:List Smp)(k:Nat): -9223372036854775808<=zfC L k/\zfC L k<=9223372036854775807:=z5l _
theorem zc4 (x:Int)(h: -9223372036854775808<=x)(q:x<=9223372036854775807)(r:List Bool):z5n (z6y (zig x)++r)=some (zig x,r):=zgO _ (zkj x h q) r
theorem zkq (L:List Smp)(h:∀s∈L,Rs s)(r:List Bool)(n:Nat):∀k,k+n=L.length->unn n (L.take k) (seg L k n++r)=some (L,r):=by
 induction n with
 | zero=>intro k q;simp only[unn,seg,List.nil_append];rw[qL (by omega)]
 | succ n ih=>
  intro k q;have e:seg L k (n+1)++r=z6y (zig (zdq L k))++(z6y (zig (zfC L k))++(seg L (k+1) n++r)):=by
   simp only[seg,zbV,qm]
  rw[e];unfold unn;rw[zc4 _ (z5m L k).1 (z5m L k).2];simp only[];rw[zc4 _ (z5A L k).1 (z5A L k).2];simp only[zff];rw[zkv L k (by omega) h,zcX L k (by omega)];exact ih (k+1) (by omega)
theorem zgY (u:Nat):zig (zag u)=u:=by unfold zig zag;split<;>split<;>omega
theorem z3d (u:Nat)(h:u<18446744073709551616): -9223372036854775808<=zag u/\zag u<=9223372036854775807:=by unfold zag;split<;>omega
theorem zgo:∀(k:Nat) (b:List Bool) (i:Nat) (r:List Bool),plc k b=some (i,r)->i<=k/\b=wY i true++(if i<k then [false] else [])++r
 | 0,b,i,r,h=>by simp[plc] at h;obtain⟨rfl,rfl⟩:=h;simp
 | k+1,[],i,r,h=>by simp[plc] at h
 | k+1,false::b,i,r,h=>by simp[plc] at h;obtain⟨rfl,rfl⟩:=h;simp
 | k+1,true::b,i,r,h=>by
  have e:plc (k+1) (true::b)=(plc k b).map λx=>(x.1+1,x.2):=rfl
  rw[e] at h;rcases hx:plc k b with _|⟨j,G⟩
  .rw[hx] at h;simp at h
  .rw[hx] at h;simp at h;obtain⟨rfl,rfl⟩:=h;obtain⟨O,J⟩:=zgo k b j G hx;refine⟨by omega,?_⟩;rw[J,ym];by_cases q:j<k
   .rw[if_pos q,if_pos (by omega)];rfl
   .rw[if_neg q,if_neg (by omega)];rfl
theorem z8u (l:List Bool):bitsOf (val l) l.length=l:=by
 apply iC
 .exact bitsOf_length _ _
 .intro i h q;have e:=z5s (val l) l.length i;rw[z3V] at e;have G:l.length-1-(l.length-1-i)=i:=by omega
  rw[G] at e;simp[q] at e;have J:l.length-1-i<l.length:=by omega
  simp[J] at e;rw[qw h] at e;simpa using e
theorem z3L (b:List Bool)(u:Nat)(r:List Bool)(h:z5n b=some (u,r)):b=z6y u++r/\u<18446744073709551616:=by
 unfold z5n at h;rcases hp:plc 6 b with _|⟨i,q⟩
 .rw[hp] at h;simp at h
 .rw[hp] at h;simp only[] at h;split at h
  .simp at h
  .next hlen=>
   split at h
   .next hn=>
    simp only[qR,eT] at h;obtain⟨O,U⟩:=h;obtain⟨hi,hb⟩:=zgo 6 b i q hp;have G:(q.take (wid i)).length=wid i:=by rw[qb];omega
    have J:=z8u (q.take (wid i));rw[G,O] at J;rw[O] at hn;constructor
    .rw[hb];unfold z6y zc3;rw[hn,J,<-U,qm,qm,qm,r7]
    .have V:=zaA (q.take (wid i));rw[G,O] at V;have Y:=z8z i;have h3:2^wid i<=2^64:=rh (by omega) Y;omega
   .simp at h
theorem zft (l:List Smp)(s:Smp):at' (l++[s]) l.length=s:=by simp[at']
theorem zfZ (n:Nat):∀(l:List Smp) (b:List Bool) (L:List Smp) (t:List Bool),unn n l b=some (L,t)->(∀s∈l,Rs s)->
  L.take l.length=l/\L.length=l.length+n/\b=seg L l.length n++t/\∀s∈L,Rs s:=by
 induction n with
 | zero=>
  intro l b L t h J;simp only[unn,qR,eT] at h;obtain⟨rfl,rfl⟩:=h;exact⟨qL (qq _),rfl,rfl,J⟩
 | succ n ih=>
  intro l b L t h J;unfold unn at h;rcases hg:z5n b with _|⟨u,r⟩
  .rw[hg] at h;simp at h
  .rw[hg] at h;simp only[] at h;rcases hg2:z5n r with _|⟨v,r2⟩
   .rw[hg2] at h;simp at h
   .rw[hg2] at h;simp only[] at h;obtain⟨hb,hu⟩:=z3L b u r hg;obtain⟨O,hv⟩:=z3L r v r2 hg2;have A2:=z3d u hu;have A3:=z3d v hv;have hn:Rs (nxt l (zag u) (zag v)):=⟨z5l _,z5l _⟩;obtain⟨U,h2,h3,h4⟩:=ih _ _ _ _ h (by
     intro s q;rcases List.mem_append.1 q with q|q
     .exact J s q
     .rw[List.mem_singleton] at q;rw[q];exact hn)
    have V:(l++[nxt l (zag u) (zag v)]).length=l.length+1:=by simp
    rw[V] at U h2 h3;have Y:L.take l.length=l:=by
     have:(L.take (l.length+1)).take l.length=l:=by rw[U];simp
     rw[List.take_take] at this;rwa[show min l.length (l.length+1)=l.length by omega] at this
    have G:at' L l.length=nxt l (zag u) (zag v):=by
     rw[<-z9j L (l.length+1) l.length (by omega),U,zft]
    have ha:ahead L l.length=ahead l l.length:=by rw[<-z4W,Y]
    have A1:stp L l.length=stp l l.length:=by rw[<-z92,Y]
    refine⟨Y,by omega,?_,h4⟩;have e1:zdq L l.length=zag u:=by
     unfold zdq;rw[G,ha,A1];unfold nxt;simp only[];generalize (ahead l l.length).1=a;generalize stp l l.length=c;unfold W;omega
    have e2:zfC L l.length=zag v:=by
     unfold zfC;rw[G,ha];unfold nxt;simp only[];generalize (ahead l l.length).2=a;unfold W;omega
    simp only[seg,zbV,e1,e2,zgY];rw[hb,O,h3];simp
theorem z9F (l:List Bool)(h:val l=0):l=wY l.length false:=by
 have h1:=z8u l;rw[h] at h1;have q:∀n,bitsOf 0 n=wY n false:=by
  intro n
  induction n with
  | zero=>rfl
  | succ n ih=>simp[bitsOf,ih,ym]
 rw[q] at h1;exact h1.symm
theorem ziY (n:Nat):zag (zig (n:Int))=n:=zff n
theorem zdP (l:List Smp)(h:right l=true)(J:∀s∈l,Rs s)(k:Nat)(O:k<8):z7m (chB l++wY k false)=some l:=by
 have q:=((z0J l).1 h).1;unfold z7m chB;rw[qm,zc4 _ (by omega) (by omega)];simp only[ziY];rw[if_pos (by omega)];have G:=zkq l J (wY k false) l.length 0 (by omega);simp only[List.take_zero] at G;simp only[Int.toNat_natCast,G];rw[if_pos ⟨by simpa using O,zg0 k,h⟩]
theorem zcK (b:List Bool)(l:List Smp)(h:z7m b=some l):right l=true/\(∀s∈l,Rs s)/\∃k,k<8/\b=chB l++wY k false:=by
 unfold z7m at h;rcases hg:z5n b with _|⟨u,r⟩
 .rw[hg] at h;simp at h
 .rw[hg] at h;simp only[] at h;split at h
  .next hc=>
   rcases hn:unn (zag u).toNat [] r with _|⟨L,t⟩
   .rw[hn] at h;simp at h
   .rw[hn] at h;simp only[] at h;split at h
    .next hc2=>
     simp only[qR] at h;subst h;obtain⟨O,q,G,J⟩:=zfZ _ _ _ _ _ hn (by simp);obtain⟨hb,U⟩:=z3L b u r hg;refine⟨hc2.2.2,J,t.length,hc2.1,?_⟩;rw[<-z9F t hc2.2.1];unfold chB;simp only[qO,qT] at q G;have e:zig ((L.length:Nat):Int)=u:=by
      rw[q,show(((zag u).toNat:Nat):Int)=zag u by omega,zgY]
     rw[e,hb,G,q,qm]
    .simp at h
  .simp at h
/-! ## even steps -/
end CL
end
section
namespace CD
def b8 (u:Nat):List UInt8:=[qX (u/72057594037927936),qX (u/281474976710656),qX (u/1099511627776),qX (u/4294967296),qX (u/16777216),qX (u/65536),qX (u/256),qX u]
def v8 (l:List UInt8):Nat:=l.foldl (λa b=>a*256+b.toNat) 0
theorem znm (u:Nat)(h:u<18446744073709551616):v8 (b8 u)=u:=by
 simp only[v8,b8,yn,oz,wi];omega
theorem ofNat_eq {n:Nat}{b:UInt8}(h:n%256=b.toNat):qX n=b:=by
 apply UInt8.toNat_inj.1;rw[wi];exact h
theorem zns:∀(l:List UInt8),l.length=8->b8 (v8 l)=l/\v8 l<18446744073709551616
 | [a,b,c,d,e,f,g,h],_=>by
  have G:=eQ a;have hb:=eQ b;have J:=eQ c;have O:=eQ d;have U:=eQ e;have V:=eQ f;have Y:=eQ g;have hh:=eQ h;have q:v8 [a,b,c,d,e,f,g,h]=((((((a.toNat*256+b.toNat)*256+c.toNat)*256+d.toNat)*256+e.toNat)*256+f.toNat)*256+g.toNat)*256+h.toNat:=by
   simp only[v8,yn,oz];omega
  refine⟨?_,by rw[q];omega⟩;rw[q];unfold b8;rw[ofNat_eq (b:=a) (by omega),ofNat_eq (b:=b) (by omega),ofNat_eq (b:=c) (by omega),ofNat_eq (b:=d) (by omega),ofNat_eq (b:=e) (by omega),ofNat_eq (b:=f) (by omega),ofNat_eq (b:=g) (by omega),ofNat_eq (b:=h) (by omega)]
def wN (n:Int):List UInt8:=b8 (n%18446744073709551616).toNat
def rN (s:List UInt8):Option (Int×List UInt8):=if s.length<8 then none else some (CL.W (v8 (s.take 8)),s.drop 8)
theorem z06 (n:Int):(wN n).length=8:=rfl
theorem zdo (n:Int)(O: -9223372036854775808<=n)(U:n<=9223372036854775807)(r:List UInt8):rN (wN n++r)=some (n,r):=by
 unfold rN;rw[if_neg (by rw[q8,z06];omega)];have h:(wN n++r).take 8=wN n:=by rw[<-z06 n,ox]
 have q:(wN n++r).drop 8=r:=by rw[<-z06 n,ov]
 rw[h,q];have G:v8 (wN n)=(n%18446744073709551616).toNat:=znm _ (by omega);have J:CL.W (((n%18446744073709551616).toNat:Nat):Int)=n:=by
  unfold CL.W;omega
 rw[G,J]
theorem z7U {s r:List UInt8}{n:Int}(h:rN s=some (n,r)):s=wN n++r/\ -9223372036854775808<=n/\n<=9223372036854775807:=by
 unfold rN at h;split at h
 .cases h
 .rename_i V;simp only[qR,eT] at h;obtain⟨G,J⟩:=h;have q:(s.take 8).length=8:=by rw[qb];omega
  obtain⟨O,Y⟩:=zns (s.take 8) q;have hr:=CL.z5l (v8 (s.take 8));refine⟨?_,by omega,by omega⟩;have U:(n%18446744073709551616).toNat=v8 (s.take 8):=by
   rw[<-G];unfold CL.W;omega
  unfold wN;rw[U,O,<-J,r7]
def wT (s:List UInt8):List UInt8:=wN s.length++s
def rT (s:List UInt8):Option (List UInt8×List UInt8):=match rN s with
 | none=>none
 | some (n,r)=>if 0<=n/\n<=r.length then some (r.take n.toNat,r.drop n.toNat) else none
theorem zl2 (s:List UInt8)(h:s.length<=9223372036854775807)(r:List UInt8):rT (wT s++r)=some (s,r):=by
 unfold rT wT;rw[qm,zdo _ (by omega) (by omega)];dsimp only;rw[if_pos (by rw[q8];omega)];have e:((s.length:Int)).toNat=s.length:=by omega
 rw[e,ox,ov]
theorem zcM {s t r:List UInt8}(h:rT s=some (t,r)):s=wT t++r:=by
 unfold rT at h;split at h
 .cases h
 .rename_i n r0 J;obtain⟨O,Y,h3⟩:=z7U J;split at h
  .rename_i hc;have q:=qt h;have G:r0.take n.toNat=t:=congrArg y5 q;have U:r0.drop n.toNat=r:=congrArg yK q;have V:(t.length:Int)=n:=by rw[<-G,qb];omega
   unfold wT;rw[V,qm,<-G,<-U,r7];exact O
  .cases h
theorem zkn {s t r:List UInt8}(h:rT s=some (t,r)):s.length=8+t.length+r.length:=by
 rw[zcM h];unfold wT;rw[q8,q8,z06]
theorem z0S (s:List UInt8):(wT s).length=8+s.length:=by unfold wT;rw[q8,z06]
abbrev Lb:=List UInt8×List UInt8
def wL:List Lb->List UInt8
 | []=>[]
 | x::l=>wT x.1++(wT x.2++wL l)
def rL:Nat->List UInt8->Option (List Lb×List UInt8)
 | 0,s=>some ([],s)
 | k+1,s=>match rT s with
  | none=>none
  | some (a,r1)=>match rT r1 with
   | none=>none
   | some (b,r2)=>match rL k r2 with
    | none=>none
    | some (l,r3)=>some ((a,b)::l,r3)
def Sh (l:List Lb):Prop:=∀x∈l,x.1.length<=9223372036854775807/\x.2.length<=9223372036854775807
theorem zlB {k:Nat}{s a h b q:List UInt8}{l:List Lb}{G:List UInt8}(J:rT s=some (a,h))(O:rT h=some (b,q))(U:rL k q=some (l,G)):rL (k+1) s=some ((a,b)::l,G):=by
 unfold rL;rw[J];dsimp only;rw[O];dsimp only;rw[U]
theorem znF (l:List Lb):Sh l->∀r,rL l.length (wL l++r)=some (l,r):=by
 induction l with
 | nil=>intro _ r;rfl
 | cons x l ih=>
  intro h r;have h0:=h x (by simp);have e:wL (x::l)++r=wT x.1++(wT x.2++(wL l++r)):=by simp[wL]
  rw[e,qf];exact zlB (zl2 x.1 h0.1 _) (zl2 x.2 h0.2 _) (ih (λy q=>h y (by simp[q])) r)
theorem zfe:∀{k:Nat} {s:List UInt8} {l:List Lb} {r:List UInt8},rL k s=some (l,r)->s=wL l++r/\l.length=k
 | 0,s,l,r,h=>by
  have q:=qt h;have G: []=l:=congrArg y5 q;have J:s=r:=congrArg yK q;subst G J;exact⟨rfl,rfl⟩
 | k+1,s,l,r,h=>by
  unfold rL at h;split at h
  .cases h
  .rename_i a r1 O;split at h
   .cases h
   .rename_i b r2 U;split at h
    .cases h
    .rename_i V Y h3;have q:=qt h;have G:(a,b)::V=l:=congrArg y5 q;have J:Y=r:=congrArg yK q;obtain⟨h4,h5⟩:=zfe h3;subst G J;refine⟨?_,by rw[qf,h5]⟩;rw[zcM O,zcM U,h4];simp[wL]
section
variable {S : Type} (E : S → List UInt8) (Dc : List UInt8 → Option S) (ok : List Lb → Bool)
def wS:List (List Lb×S)->List UInt8
 | []=>[]
 | x::l=>wN x.1.length++(wL x.1++(wT (E x.2)++wS l))
def z4F (s:List UInt8):Option ((List Lb×S)×List UInt8):=match rN s with
 | none=>none
 | some (k,r1)=>if 0<=k/\k<=8 then
   match rL k.toNat r1 with
   | none=>none
   | some (l,r2)=>match rT r2 with
    | none=>none
    | some (c,r3)=>if ok l then(match Dc c with
      | none=>none
      | some x=>some ((l,x),r3)) else none
  else none
def rS:Nat->List UInt8->Option (List (List Lb×S)×List UInt8)
 | 0,s=>some ([],s)
 | n+1,s=>match z4F Dc ok s with
  | none=>none
  | some (x,r)=>match rS n r with
   | none=>none
   | some (l,r2)=>some (x::l,r2)
def z7y (l:List (List Lb×S)):List UInt8:=wN l.length++wS E l
def z5K (s:List UInt8):Option (List (List Lb×S)×List UInt8):=match rN s with
 | none=>none
 | some (n,r)=>if 0<=n then rS Dc ok n.toNat r else none
variable {E Dc ok}
theorem ziw (q:∀c x,Dc c=some x->E x=c){s r:List UInt8}{x:List Lb×S}(h:z4F Dc ok s=some (x,r)):s=wN x.1.length++(wL x.1++(wT (E x.2)++r))/\ok x.1=true/\x.1.length<=8/\Dc (E x.2)=some x.2:=by
 unfold z4F at h;split at h
 .cases h
 .rename_i k r1 Y;split at h
  .rename_i hk;split at h
   .cases h
   .rename_i l r2 h2;split at h
    .cases h
    .rename_i c J h3;split at h
     .rename_i G;split at h
      .cases h
      .rename_i y O;have U:=qt h;have e1:(l,y)=x:=congrArg y5 U;have e2:J=r:=congrArg yK U;obtain⟨h4,h5⟩:=zfe h2;have V:=q c y O;subst e1 e2;obtain⟨h7,_⟩:=z7U Y;have h8:(l.length:Int)=k:=by rw[h5];omega
       refine⟨?_,G,by show l.length<=8;omega,by show Dc (E y)=some y;rw[V];exact O⟩;show s=wN l.length++(wL l++(wT (E y)++J));rw[h8,h7,h4,zcM h3,V]
     .cases h
  .cases h
theorem zg6 {s q G J c:List UInt8}{k:Int}{n:Nat}{l:List Lb}{x:S}(O:rN s=some (k,q))(U:0<=k/\k<=8)(V:k.toNat=n)(Y:rL n q=some (l,G))(h3:rT G=some (c,J))(h:ok l=true)(h4:Dc c=some x):z4F Dc ok s=some ((l,x),J):=by
 unfold z4F;rw[O];dsimp only;rw[if_pos U,V,Y];dsimp only;rw[h3];dsimp only;rw[if_pos h,h4]
theorem zmG (x:List Lb×S)(h:ok x.1=true)(O:x.1.length<=8)(q:Sh x.1)(G:(E x.2).length<=9223372036854775807)(J:Dc (E x.2)=some x.2)(r:List UInt8):
  z4F Dc ok (wN x.1.length++(wL x.1++(wT (E x.2)++r)))=some (x,r):=by
 have e:((x.1.length:Int)).toNat=x.1.length:=by omega
 exact zg6 (zdo _ (by omega) (by omega) _) (by omega) e (znF x.1 q _) (zl2 _ G _) h J
theorem zfv (G:∀c x,Dc c=some x->E x=c):∀{n:Nat} {s:List UInt8} {l:List (List Lb×S)} {r:List UInt8},rS Dc ok n s=some (l,r)->s=wS E l++r/\l.length=n/\∀x∈l,ok x.1=true/\x.1.length<=8/\Dc (E x.2)=some x.2
 | 0,s,l,r,h=>by
  have J:=qt h;have O: []=l:=congrArg y5 J;have U:s=r:=congrArg yK J;subst O U;exact⟨rfl,rfl,λx V=>by cases V⟩
 | n+1,s,l,r,h=>by
  unfold rS at h;split at h
  .cases h
  .rename_i x r1 Y;split at h
   .cases h
   .rename_i l' r2 h2;have J:=qt h;have O:x::l'=l:=congrArg y5 J;have U:r2=r:=congrArg yK J;obtain⟨h3,h4,h5⟩:=zfv G h2;obtain⟨h6,h7,h8,h9⟩:=ziw G Y;subst O U;refine⟨?_,by rw[qf,h4],λy hy=>?_⟩
    .rw[h6,h3];simp[wS]
    .rcases List.mem_cons.1 hy with q|q
     .rw[q];exact⟨h7,h8,h9⟩
     .exact h5 y q
def Ok (E:S->List UInt8)(Dc:List UInt8->Option S)(ok:List Lb->Bool)(l:List (List Lb×S)):Prop:=∀x∈l,ok x.1=true/\x.1.length<=8/\Sh x.1/\(E x.2).length<=9223372036854775807/\Dc (E x.2)=some x.2
theorem zls {n:Nat}{s r:List UInt8}{x:List Lb×S}{l:List (List Lb×S)}{h:List UInt8}(q:z4F Dc ok s=some (x,r))(G:rS Dc ok n r=some (l,h)):rS Dc ok (n+1) s=some (x::l,h):=by
 unfold rS;rw[q];dsimp only;rw[G]
theorem zo1 (l:List (List Lb×S)):Ok E Dc ok l->∀r,rS Dc ok l.length (wS E l++r)=some (l,r):=by
 induction l with
 | nil=>intro _ r;rfl
 | cons x l ih=>
  intro h r;obtain⟨q,G,J,O,U⟩:=h x (by simp);have e:wS E (x::l)++r=wN x.1.length++(wL x.1++(wT (E x.2)++(wS E l++r))):=by simp[wS]
  rw[e,qf];exact zls (zmG x q G J O U _) (ih (λy V=>h y (by simp[V])) r)
theorem zlQ (l:List (List Lb×S))(h:Ok E Dc ok l)(q:l.length<=9223372036854775807)(r:List UInt8):z5K Dc ok (z7y E l++r)=some (l,r):=by
 unfold z5K z7y;rw[qm,zdo _ (by omega) (by omega)];have e:((l.length:Int)).toNat=l.length:=by omega
 dsimp only;rw[if_pos (by omega),e,zo1 l h]
theorem zit (q:∀c x,Dc c=some x->E x=c){s:List UInt8}{l:List (List Lb×S)}{r:List UInt8}(h:z5K Dc ok s=some (l,r)):s=z7y E l++r/\∀x∈l,ok x.1=true/\x.1.length<=8/\Dc (E x.2)=some x.2:=by
 unfold z5K at h;split at h
 .cases h
 .rename_i n Y G;split at h
  .rename_i hn;obtain⟨J,O,U⟩:=zfv q h;obtain⟨V,_,_⟩:=z7U G;refine⟨?_,U⟩;unfold z7y;have e:(l.length:Int)=n:=by rw[O];omega
   rw[e,V,J,qm]
  .cases h
end
end CD
end
section
open Go.RowKit
def z0X (w:World):Prop:=∀i,i<7->w.cell? ⟨1,i,none⟩=some (.int .i64 (BL.wid i))
theorem hid {p:Prop}(h:p):Hid p:=h
theorem z0G {k:IntKind}{a b:Int}(h:a=b):yN (.int k a)= .returned (.int k b):=by rw[h]
theorem z05 {a b:Bool}(h:a=b):yN (.bool a)= .returned (.bool b):=by rw[h]
theorem z6D (n:Int)(q: -9223372036854775808<=n)(G:n<=9223372036854775807):bits .xor .i64 (-1) n= -1-n:=by
 show qW.wrap ((ed 64 (-1)^^^ed 64 n).toNat:Int)=_;have h:ed 64 (-1)=BitVec.allOnes 64:=by decide
 have J:((ed 64 n).toNat:Int)=n%18446744073709551616:=by
  rw[BitVec.toNat_ofInt];omega
 rw[h,BitVec.allOnes_xor,BitVec.toNat_not,qY];have O:(ed 64 n).toNat<18446744073709551616:=(ed 64 n).isLt;omega
theorem ziD (u k:Nat)(q:u<18446744073709551616)(G:k<=64):
  bits px wj (u:Int) (wj.wrap (wj.wrap (2^k)-1))=((u%2^k:Nat):Int):=by
 have J:((2:Int)^k)=((2^k:Nat):Int):=by simp
 have U:2^k<=2^64:=rh (by omega) G;have h:0<2^k:=yi k;rw[J,eA,eA];have O:(((2^k:Nat):Int)%18446744073709551616-1)%18446744073709551616=((2^k-1:Nat):Int):=by
  generalize 2^k=p at*;omega
 rw[O,u64_and_nat u _ q (by omega),Nat.and_two_pow_sub_one_eq_mod]
theorem ziy (u k:Nat)(w:World)(h:u<18446744073709551616)(q:k<=64):
  Calls q6 252 #[.int .u64 u,.int .i64 k] w λe w'=>e= .returned (.int .u64 ((u%2^k:Nat):Int))/\w'=w:=by
 have H:Hid (bits px wj (u:Int) (wj.wrap (wj.wrap (2^k)-1))=((u%2^k:Nat):Int)):=ziD u k h q;go_enter func252,ntmps252;go_wp2;go_ret;exact⟨z0G H.out,rfl⟩
theorem last_int (u k:Int)(w:World)(h:0<=u)(G:u<18446744073709551616)(q:0<=k)(J:k<=64):
  Calls q6 252 #[.int .u64 u,.int .i64 k] w λe w'=>e= .returned (.int .u64 (u%2^k.toNat))/\w'=w:=by
 obtain⟨a,rfl⟩:=uB h;obtain⟨b,rfl⟩:=uB q;refine(ziy a b w (by omega) (by omega)).mono ?_;rintro e w' ⟨rfl,rfl⟩;exact⟨z0G (by simp),rfl⟩
theorem zaC (u p:Nat)(G:0<p):(((u:Int)/(p:Int))==0)=decide (u<p):=by
 rw[Bool.eq_iff_iff];simp only[beq_iff_eq,decide_eq_true_eq];have e:(u:Int)/(p:Int)=((u/p:Nat):Int):=by simp
 rw[e];constructor
 .intro h;have q:u/p=0:=by omega
  rcases Nat.div_eq_zero_iff.1 q with h|h<;>omega
 .intro h;rw[Nat.div_eq_of_lt h];rfl
theorem zcg (u k:Nat)(w:World)(h:k<=64):
  Calls q6 251 #[.int .u64 u,.int .i64 k] w λe w'=>e= .returned (.bool (decide (u<2^k)))/\w'=w:=by
 have H:Hid (((u:Int)/2^k==0)=decide (u<2^k)):=by
  show _=_;have:=zaC u (2^k) (yi k);simpa using this
 go_enter func251,ntmps251;go_wp2;go_ret;exact⟨z05 H.out,rfl⟩
theorem zkR (n:Int)(h: -9223372036854775808<=n)(q:n<0):
  wj.wrap (wj.wrap (2*wj.wrap (bits ij qW (-1) n))+1)=(BL.zig n:Int):=by
 rw[z6D n h (by omega)];simp only[eA,BL.zig,if_pos q];omega
theorem zkM (n:Int)(w:World)(q: -9223372036854775808<=n)(G:n<=9223372036854775807):
  Calls q6 217 #[.int .i64 n] w λe w'=>e= .returned (.int .u64 (BL.zig n))/\w'=w:=by
 have J:qW.signed=true:=rfl;by_cases h:n<0
 .have H:Hid (wj.wrap (wj.wrap (2*wj.wrap (bits ij qW (-1) n))+1)=(BL.zig n:Int)):=zkR n q h;go_enter func217,ntmps217;go_wp2;go_ret;exact⟨z0G H.out,rfl⟩
 .have H:Hid (2*n=(BL.zig n:Int)):=by show _=_;unfold BL.zig;rw[if_neg h];omega
  go_enter func217,ntmps217;go_wp2;go_ret;exact⟨z0G H.out,rfl⟩
theorem zkA (u:Nat)(w:World)(q:u<18446744073709551616):
  Calls q6 260 #[.int .u64 u] w λe w'=>e= .returned (.int .i64 (BL.zag u))/\w'=w:=by
 have G:qW.signed=true:=rfl;by_cases h:u%2=1
 .have H:Hid (bits ij qW (-1) ((u:Int)/2)=BL.zag u):=by
   show _=_;rw[z6D _ (by omega) (by omega)];unfold BL.zag;rw[if_pos h];omega
  have hb:(((u:Int)%2)==1)=true:=by rw[beq_iff_eq];omega
  clear h;go_enter func260,ntmps260;go_wp2;go_ret;exact⟨z0G H.out,rfl⟩
 .have H:Hid ((u:Int)/2=BL.zag u):=by show _=_;unfold BL.zag;rw[if_neg h];omega
  have hb:(((u:Int)%2)==1)=false:=by rw[beq_eq_false_iff_ne];omega
  clear h;go_enter func260,ntmps260;go_wp2;go_ret;exact⟨z0G H.out,rfl⟩
theorem zba (u:Nat)(w:World)(G:z0X w)(J:u<18446744073709551616):
  Calls q6 218 #[.int .u64 u] w λe w'=>e= .returned (.int .i64 (BL.nar u))/\w'=w:=by
 have O:=BL.zaE u;have U:Hid (u<2^BL.wid (BL.nar u)):=BL.zce u J;go_enter func218,ntmps218;go_wp2;go_loop [3] (λt=>∃k:Nat,k<=BL.nar u/\t= .int .i64 k) (λt=>BL.nar u-(intOf t).toNat)
 case atStart=>exact⟨0,qh _,rfl⟩
 case round=>
  obtain⟨k,hk,rfl⟩:=hrel;have hc:=G k (by omega);have h:=BL.z8z k;by_cases q:k<BL.nar u
  .have V:decide (u<2^BL.wid k)=false:=decide_eq_false (BL.zfl u k q);go_wp2_with (go_at_call 251;refine(zcg _ _ _ h).mono ?_;rintro e w' ⟨rfl,rfl⟩)
   go_round
   case rel=>exact⟨k+1,by omega,by go_num⟩
   case measure=>simp[intOf];omega
  .have Y:k=BL.nar u:=by omega
   subst Y;have V:decide (u<2^BL.wid (BL.nar u))=true:=decide_eq_true U.out;go_wp2_with (go_at_call 251;refine(zcg _ _ _ h).mono ?_;rintro e w' ⟨rfl,rfl⟩)
   go_ret;exact⟨rfl,rfl⟩
end
section
open Go.RowKit
def bv (l:List Nat):List Value:=l.map λn:Nat=>wM .u8 (n:Int)
def WInv (B:Nat)(w:World)(bs:List Bool):Prop:=
 ∃v,w.cell? ⟨B,0,none⟩=some v/\w.frozen? ⟨B,0,none⟩=false/\w.cell? ⟨B,1,none⟩=some (.int .i64 bs.length)/\w.frozen? ⟨B,1,none⟩=false/\
  w.ownsRow (B+1) 5 1 v (BL.pk bs).length (bv (BL.pk bs))/\B<w.heap.size
def znO (w:World)(k:Nat):Prop:=∀c fr,w.heap[k]? ≠some (.cells c 5 fr)
structure WFr (B:Nat) (w w':World):Prop where
 below:Below B w w'
 block:∀k,k<w.heap.size->k≠B->znO w k->w'.heap[k]? =w.heap[k]?
theorem WFr.refl (B:Nat)(w:World):WFr B w w:=⟨Below.refl _ _,λ_ _ _ _=>rfl⟩
theorem WFr.trans {B:Nat}{a b c:World}(h:WFr B a b)(k:WFr B b c):WFr B a c:=
 ⟨h.below.trans k.below,λi hi q G=>by
  have e:=h.block i hi q G;exact(k.block i (qe hi h.below.size) q (λc fr=>by rw[e];exact G c fr)).trans e⟩
theorem WFr.drew {B:Nat}{a w:World}(h:WFr B a w):WFr B a w.drew:=⟨h.below.drew,h.block⟩
theorem WFr.alloc {B:Nat}{a w:World}(h:WFr B a w)(q:B<=w.heap.size)(o:Obj):WFr B a (w.alloc o):=
 ⟨h.below.alloc q o,λk G q J=>(Below.heap_alloc w o k (qe G h.below.size)).trans (h.block k G q J)⟩
theorem WFr.z3q {B:Nat}{a w:World}(h:WFr B a w)(o:Nat)(u:Value):WFr B a (w.setCell ⟨B,o,none⟩ u):=
 ⟨h.below.setCell (qq B) u,λk G q J=>(Below.heap_setCell w ⟨B,o,none⟩ u k q).trans (h.block k G q J)⟩
theorem WFr.setRow {B g:Nat}{a w:World}{q:Array Value}{fr:Nat×Nat}(h:WFr B a w)(U:w.heap[g]? =some (.cells q 5 fr))(V:B<=g)(o:Nat)(u:Value):WFr B a (w.setCell ⟨g,o,none⟩ u):=
 ⟨h.below.setCell V u,λk Y G O=>by
  have e:=h.block k Y G O;have J:k≠g:=λhe=>by subst he;exact O q fr (e.symm.trans U)
  exact(Below.heap_setCell w ⟨g,o,none⟩ u k J).trans e⟩
theorem WFr.grown {B:Nat}{a w w':World}{row:Option Nat}(h:WFr B a w)(O:w.grownBy w' row)(Y:B<=w.heap.size)(U:∀k,row=some k->B<=k/\∃q fr,w.heap[k]? =some (.cells q 5 fr)):WFr B a w':=
 ⟨h.below.grown O Y (λk G=>(U k G).1),λk G J V=>by
  have e:=h.block k G J V;refine(O.block k (qe G h.below.size) ?_).trans e;intro he;obtain⟨_,q,fr,hc⟩:=U k he.symm;exact V q fr (e.symm.trans hc)⟩
theorem zeS {w:World}{G n cap g:Nat}{xs:List Value}(h:w.ownsRow G 5 1 (.slice (some ⟨g,0,none⟩) n cap) n xs):∃q fr,w.heap[g]? =some (.cells q 5 fr):=by
 rcases h.2 with⟨J,_⟩|⟨V,O,q,J,_,U,_⟩
 .simp at J
 .simp only[eC,qR,Addr.mk.injEq,and_true,true_and] at J;obtain⟨rfl,rfl⟩:=J;exact⟨q,_,U⟩
theorem z1B {w:World}{G n:Nat}{v:Value}{xs:List Value}(h:w.ownsRow G 5 1 v n xs)(k:Nat)(J:v.ownBlock=some k):∃q fr,w.heap[k]? =some (.cells q 5 fr):=by
 rcases h.2 with⟨O,_⟩|⟨Y,U,q,O,_,V,_⟩
 .subst O;simp[o8] at J
 .subst O;simp only[o8,qR] at J;subst J;exact⟨q,_,V⟩
theorem Tryz.info5:(q6.info? 5).map (λi=>(i.zero,i.size,i.bytes))=some (some (.int .u8 0),1,1):=by kernel_rfl
theorem or_num (b U n s:Nat)(hb:b<256)(h:n+s<=8):
  bits uz yR (b:Int) (wj.wrap ((U:Int)%2^n*2^min s 64)%256)=((b||| (U%2^n*2^s):Nat):Int):=by
 have q:min s 64=s:=by omega
 have G:U%2^n<2^n:=Nat.mod_lt _ (yi n);have O:U%2^n*2^s<2^(n+s):=by rw[pv];exact Nat.mul_lt_mul_of_pos_right G (yi s)
 have V:2^(n+s)<=2^8:=rh (by omega) h;have e:((U:Int)%2^n*2^s)=((U%2^n*2^s:Nat):Int):=by simp
 rw[q,e,eA];generalize U%2^n*2^s=z at*;have J:((z:Int)%18446744073709551616%256)=(z:Int):=by omega
 rw[J,u8_or_nat b z hb (by omega)]
theorem or_num0 (b U n:Nat)(hb:b<256)(h:n<=8):
  bits uz yR (b:Int) (wj.wrap ((U:Int)%2^n)%256)=((b||| (U%2^n*2^0):Nat):Int):=by
 have:=or_num b U n 0 hb (by omega);simpa using this
theorem or_num_z (U n s:Nat)(h:n+s<=8):
  bits uz yR 0 (wj.wrap ((U:Int)%2^n*2^min s 64)%256)=((0||| (U%2^n*2^s):Nat):Int):=or_num 0 U n s (by omega) h
theorem or_num0_z (U n:Nat)(h:n<=8):
  bits uz yR 0 (wj.wrap ((U:Int)%2^n)%256)=((0||| (U%2^n*2^0):Nat):Int):=or_num0 0 U n (by omega) h
theorem bits_join (bs c:List Bool)(u x y n K:Nat)(h:c=bs++BL.bitsOf (u/2^x) (K-x))(q:x=n+y)(G:x<=K):
  c++BL.bitsOf (u/2^y) n=bs++BL.bitsOf (u/2^y) (K-y):=by
 rw[h,qm]
 congr 1
 have e:K-y=(K-x)+n:=by omega
 rw[e,BL.zeu,Nat.div_div_eq_div_mul,<-pv]
 congr 3
 rw[q,Nat.add_comm]
theorem div_range (u:Nat)(G:u<18446744073709551616)(t:Nat):0<=(u:Int)/2^t/\(u:Int)/2^t<18446744073709551616:=by
 have e:(u:Int)/2^t=((u/2^t:Nat):Int):=by simp
 have h:=Nat.div_le_self u (2^t);rw[e];generalize u/2^t=q at*;omega
theorem zmT (L:List Nat)(m y:Nat):(bv L).set m (.int .u8 (y:Int))=bv (L.set m y):=by
 unfold bv;rw[List.map_set]
theorem zhc (L:List Nat):(bv L).length=L.length:=by simp[bv]
theorem wr_store {B g m cap y:Nat}{z:Int}{wr w0:World}{L:List Nat}{c':List Bool}{v1:Value}
  (J:wr.cell? ⟨B,0,none⟩=some (.slice (some ⟨g,0,none⟩) (m+1) cap)) (O:wr.frozen? ⟨B,0,none⟩=false)
  (U:wr.cell? ⟨B,1,none⟩=some v1) (V:wr.frozen? ⟨B,1,none⟩=false)
  (h:wr.ownsRow (B+1) 5 1 (.slice (some ⟨g,0,none⟩) (m+1) cap) (m+1) (bv L)) (hB:B<wr.heap.size)
  (hL:BL.pk c'=L.set m y) (hz:z=c'.length) (q:WFr B w0 wr):
  WInv B ((wr.setCell ⟨g,m,none⟩ (.int .u8 (y:Int))).setCell ⟨B,1,none⟩ (.int .i64 z)).drew c'/\
   WFr B w0 ((wr.setCell ⟨g,m,none⟩ (.int .u8 (y:Int))).setCell ⟨B,1,none⟩ (.int .i64 z)).drew:=by
 have A1:B+1<=g:=(h.lt g rfl).1;have G:L.length=m+1:=by have:=h.1;rw[zhc] at this;omega
 have hs:=(h.stored m (.int .u8 (y:Int))).1;rw[zmT,<-hL] at hs;have hn:(BL.pk c').length=m+1:=by rw[hL,List.length_set,G]
 have h0:(wr.setCell ⟨g,m,none⟩ (.int .u8 (y:Int))).cell? ⟨B,0,none⟩=some (.slice (some ⟨g,0,none⟩) (m+1) cap):=
  (qj (Below.heap_setCell wr ⟨g,m,none⟩ _ B (by show B≠g;omega))).trans J
 have h1:(wr.setCell ⟨g,m,none⟩ (.int .u8 (y:Int))).cell? ⟨B,1,none⟩=some v1:=
  (qj (Below.heap_setCell wr ⟨g,m,none⟩ _ B (by show B≠g;omega))).trans U
 refine⟨⟨.slice (some ⟨g,0,none⟩) (m+1) cap,?_,?_,?_,?_,?_,?_⟩,?_⟩
 .show qs (yQ _ _ _) _=_;rw[uU _ _ _ _ (by simp)];exact h0
 .show wz (yQ _ _ _) _=_;rw[eU,eU];exact O
 .show qs (yQ _ _ _) _=_;rw[yo _ _ _ h1,hz]
 .show wz (yQ _ _ _) _=_;rw[eU,eU];exact V
 .rw[hn];exact ownsRow_setCell_below hs (a:=⟨B,1,none⟩) (by show B<B+1;omega) _
 .simpa using hB
 .obtain⟨A2,fr,Y⟩:=zeS h;exact((q.setRow Y (by omega) m _).z3q 1 _).drew
theorem pk_byte_lt (c:List Bool)(m b:Nat)(h:(BL.pk c)[m]? =some b):b<256:=BL.zeJ c b (List.mem_of_getElem? h)
theorem one_news (w:World)(a:Value)(T:TypeId):∀j u,[a][j]? =some u->(w.alloc (.cells #[a] T)).cell? ((⟨w.heap.size,0,none⟩:Addr).add j)=some u:=by
 intro j u h
 match j,h with
 | 0,h=>simp at h;subst h;simp[Addr.add]
theorem one_u8 (n:Int):∀u∈[wM .u8 n],u.oneCell'=true:=by intro u h;simp at h;subst h;rfl
theorem wr_push {B:Nat}{wr w0 w1:World}{L:List Nat}{v v' z1:Value}
  (A2:wr.cell? ⟨B,0,none⟩=some v) (A3:wr.frozen? ⟨B,0,none⟩=false) (A4:wr.cell? ⟨B,1,none⟩=some z1) (A5:wr.frozen? ⟨B,1,none⟩=false)
  (O:wr.ownsRow (B+1) 5 1 v L.length (bv L)) (hB:B<wr.heap.size) (Y:WFr B w0 wr)
  (q:w1.ownsRow (B+1) 5 1 v' (L.length+1) (bv L++[.int .u8 0])) (G:(wr.alloc (.cells #[.int .u8 0] 5)).grownBy w1 v.ownBlock):
  ∃g cap,v'= .slice (some ⟨g,0,none⟩) (L.length+1) cap/\B+1<=g/\w1.cell? ⟨B,0,none⟩=some v/\w1.frozen? ⟨B,0,none⟩=false/\
   ∀w2,w2=w1.setCell ⟨B,0,none⟩ (.slice (some ⟨g,0,none⟩) (L.length+1) cap)->
    w2.cell? ⟨B,0,none⟩=some (.slice (some ⟨g,0,none⟩) (L.length+1) cap)/\w2.frozen? ⟨B,0,none⟩=false/\w2.cell? ⟨B,1,none⟩=some z1/\w2.frozen? ⟨B,1,none⟩=false/\
    w2.ownsRow (B+1) 5 1 (.slice (some ⟨g,0,none⟩) (L.length+1) cap) (L.length+1) (bv (L++[0]))/\B<w2.heap.size/\WFr B w0 w2:=by
 have A6:∃g cap,v'= .slice (some ⟨g,0,none⟩) (L.length+1) cap:=by
  obtain⟨_,U⟩:=q;rcases U with⟨_,h0⟩|⟨g',A1,Ae,h,_⟩
  .omega
  .exact⟨g',A1,h⟩
 obtain⟨g,cap,rfl⟩:=A6;have A7:B+1<=g:=(q.lt g rfl).1;have A8:some B≠v.ownBlock:=λh=>by have:=O.lt B h.symm;omega
 have J:w1.heap[B]? =wr.heap[B]? :=(G.block B (by simp;omega) A8).trans (Below.heap_alloc wr _ B hB);have c0:w1.cell? ⟨B,0,none⟩=some v:=(qj (w:=wr) J).trans A2;have c1:w1.cell? ⟨B,1,none⟩=some z1:=(qj (w:=wr) J).trans A4;have f0:w1.frozen? ⟨B,0,none⟩=false:=(rR (w:=wr) J).trans A3;have f1:w1.frozen? ⟨B,1,none⟩=false:=(rR (w:=wr) J).trans A5;have V:WFr B w0 w1:=(Y.alloc (by omega) (.cells #[.int .u8 0] 5)).grown G (by simp;omega) (λk hk=>by
  have A9:=O.lt k hk;obtain⟨Ac,fr,hc⟩:=z1B O k hk;exact⟨by omega,Ac,fr,(Below.heap_alloc wr _ k A9.2).trans hc⟩)
 have Ad:B<w1.heap.size:=by have:=G.size;simp at this;omega
 refine⟨g,cap,rfl,A7,c0,f0,?_⟩;rintro w2 rfl;refine⟨yo _ _ _ c0,(eU _ _ _ _).trans f0,(uU _ _ _ _ (by simp)).trans c1,(eU _ _ _ _).trans f1,?_,by simpa using Ad,V.z3q 0 _⟩;have:=ownsRow_setCell_below q (a:=⟨B,0,none⟩) (by show B<B+1;omega) (.slice (some ⟨g,0,none⟩) (L.length+1) cap);simpa [bv] using this
theorem wbits_any (B u : Nat) (k : Int) (bs : List Bool) (w : World) (hWI : WInv B w bs) (hu : u < 18446744073709551616) (hb : bs.length ≤ 1000000000) (hk1 : -9223372036854775808 ≤ k) (hk2 : k ≤ 9223372036854775807) :
    Calls Tryz.prog 220 #[.pointer (some ⟨B, 0, none⟩), .int .u64 u, .int .i64 k] w fun e w' =>
      e = .returned (.tuple #[]) ∧ WInv B w' (bs ++ BL.bitsOf u (min k 64).toNat) ∧ WFr B w w' := by
  obtain ⟨i, hi, hz0, hz1, hz2⟩ := info_parts Tryz.info5
  go_enter Tryz.func220, Tryz.ntmps220
  go_wp2
  all_goals
    go_loopw [6] (fun t wr => ∃ x : Int, x ≤ 64 ∧ t = .int .i64 x ∧ x.toNat ≤ (min k 64).toNat ∧ WInv B wr (bs ++ BL.bitsOf (u / 2 ^ x.toNat) ((min k 64).toNat - x.toNat)) ∧ WFr B w wr) (fun t _ => (intOf t).toNat)
    case atStart =>
      refine ⟨_, ?_, rfl, ?_, ?_, WFr.refl _ _⟩
      · omega
      · omega
      · first
          | (have e : (min k 64).toNat - k.toNat = 0 := by omega
             rw [e]; simpa [BL.bitsOf] using hWI)
          | (have e : (min k 64).toNat - (64 : Int).toNat = 0 := by omega
             rw [e]; simpa [BL.bitsOf] using hWI)
    case round =>
      obtain ⟨x, hx, rfl, hxK, hinv, hbel⟩ := hrel
      by_cases hpos : 0 < x
      · obtain ⟨c, hc⟩ : ∃ c : List Bool, c = bs ++ BL.bitsOf (u / 2 ^ x.toNat) ((min k 64).toNat - x.toNat) := ⟨_, rfl⟩
        rw [← hc] at hinv
        have hcl : c.length ≤ 1000000064 := by rw [hc, List.length_append, BL.bitsOf_length]; omega
        have HC : Hid (c = bs ++ BL.bitsOf (u / 2 ^ x.toNat) ((min k 64).toNat - x.toNat)) := hc
        clear hc hWI
        obtain ⟨v, hv0, hf0, hv1, hf1, hown, hB⟩ := hinv
        have hpl := BL.pk_length c
        have hin : IntKind.i64.wrap (8 - (c.length : Int) % 8) = 8 - (c.length : Int) % 8 := by rw [IntKind.wrap_i64]; omega
        by_cases hz : c.length % 8 = 0
        · have hzb : (((c.length : Int) % 8) == 0) = true := by rw [beq_iff_eq]; omega
          have hzi : (c.length : Int) % 8 ≤ 0 := by omega
          have HZ : Hid (c.length % 8 = 0) := hz
          have hpl2 : (BL.pk c).length ≤ 1000000064 := by omega
          clear hz hpl
          by_cases hm : x < 8
          · go_wp2_with (at_builtin; refine wpList_append_own _ rfl (.tmp 26) (.tmp 27) 102 rfl (B + 1) 5 i (.int .u8 0) 1 1 Tryz.underlying102 hi hz0 hz1 hz2 rfl (by decide) v (BL.pk c).length _ rfl (hown.alloc _) ⟨wr.heap.size, 0, none⟩ 1 1 [.int .u8 0] rfl rfl (one_news wr _ _) (one_u8 0) (by unfold maxLen; omega) (by omega) (by simp; omega) ?_)
            intro v' w1 hown' hgrow _
            obtain ⟨g, cap, rfl, hg, c0, f0, hw2⟩ := wr_push hv0 hf0 hv1 hf1 hown hB hbel hown' hgrow
            clear hown' hgrow hown hv0 hf0 hv1 hf1 hB hbel
            have HW : Hid _ := hw2
            clear hw2
            go_wp2_with fail
            generalize hw2e : w1.setCell ⟨B, 0, none⟩ (.slice (some ⟨g, 0, none⟩) ((BL.pk c).length + 1) cap) = w2
            obtain ⟨hv0, hf0, hv1, hf1, hown, hB, hbel⟩ := HW.out w2 hw2e.symm
            clear HW hw2e c0 f0
            generalize hpm : (BL.pk c).length = m at *
            have hcell : w2.cell? ⟨g, m, none⟩ = some (.int .u8 0) := by
              rw [hown.cellAt m (by omega)]; simp [bv, ← hpm]
            have hfrz := hown.frozenAt m
            have hne : ¬ B = g := by omega
            have hne2 : ¬ g = B := by omega
            have hidx : 0 ≤ (m : Int) ∧ (m : Int) < (m : Int) + 1 := ⟨by omega, by omega⟩
            have hwrap2 : IntKind.i64.wrap ((m : Int) + 1 - 1) = m := by rw [IntKind.wrap_i64]; omega
            have hwrap : IntKind.i64.wrap (m : Int) = m := by rw [IntKind.wrap_i64]; omega
            obtain ⟨s, hs⟩ : ∃ s : Nat, 8 - (c.length : Int) % 8 - x = s := ⟨(8 - (c.length : Int) % 8 - x).toNat, by omega⟩
            have hsh : IntKind.i64.wrap (8 - (c.length : Int) % 8 - x) = s := by rw [IntKind.wrap_i64]; omega
            have hz' := HZ.out
            have R := @wr_store B g m cap (0 ||| (u % 2 ^ x.toNat * 2 ^ s)) (↑c.length + x) w2 w (BL.pk c ++ [0]) (c ++ BL.bitsOf u x.toNat) _ hv0 hf0 hv1 hf1 hown hB
              (by rw [BL.pk_step0 c u x.toNat (by omega) (by omega) hz', hpm]
                  have e2 : 8 - c.length % 8 - x.toNat = s := by omega
                  rw [e2])
              (by rw [List.length_append, BL.bitsOf_length]; omega) hbel
            rw [← or_num_z u x.toNat s (by omega)] at R
            have HR : Hid _ := R
            have HJ : Hid (c ++ BL.bitsOf (u / 2 ^ 0) x.toNat = bs ++ BL.bitsOf (u / 2 ^ 0) ((min k 64).toNat - 0)) := bits_join bs c u x.toNat 0 x.toNat _ HC.out (by omega) hxK
            clear hs R hown hz' hpm
            refine wp_region_still_tail 25 (by kernel_rfl) (by kernel_rfl) ?_
            simp only [List.take_succ_cons, List.take_zero, List.drop_succ_cons, List.drop_zero]
            iterate 16 still_step
            still_call (last_int _ _ _ (by omega) (by omega) (by omega) (by omega))
            iterate 8 still_step
            refine wpStill_nil ?_
            go_wp2
            go_roundw
            case rel =>
              refine ⟨0, by omega, rfl, by omega, ?_, HR.out.2⟩
              have := HR.out.1
              rw [show ((0 : Int).toNat) = 0 from rfl, ← HJ.out, Nat.pow_zero, Nat.div_one]
              exact this
            case measure => simp [intOf]; omega
          · go_wp2_with (at_builtin; refine wpList_append_own _ rfl (.tmp 26) (.tmp 27) 102 rfl (B + 1) 5 i (.int .u8 0) 1 1 Tryz.underlying102 hi hz0 hz1 hz2 rfl (by decide) v (BL.pk c).length _ rfl (hown.alloc _) ⟨wr.heap.size, 0, none⟩ 1 1 [.int .u8 0] rfl rfl (one_news wr _ _) (one_u8 0) (by unfold maxLen; omega) (by omega) (by simp; omega) ?_)
            intro v' w1 hown' hgrow _
            obtain ⟨g, cap, rfl, hg, c0, f0, hw2⟩ := wr_push hv0 hf0 hv1 hf1 hown hB hbel hown' hgrow
            clear hown' hgrow hown hv0 hf0 hv1 hf1 hB hbel
            have HW : Hid _ := hw2
            clear hw2
            go_wp2_with fail
            generalize hw2e : w1.setCell ⟨B, 0, none⟩ (.slice (some ⟨g, 0, none⟩) ((BL.pk c).length + 1) cap) = w2
            obtain ⟨hv0, hf0, hv1, hf1, hown, hB, hbel⟩ := HW.out w2 hw2e.symm
            clear HW hw2e c0 f0
            generalize hpm : (BL.pk c).length = m at *
            have hcell : w2.cell? ⟨g, m, none⟩ = some (.int .u8 0) := by
              rw [hown.cellAt m (by omega)]; simp [bv, ← hpm]
            have hfrz := hown.frozenAt m
            have hne : ¬ B = g := by omega
            have hne2 : ¬ g = B := by omega
            have hidx : 0 ≤ (m : Int) ∧ (m : Int) < (m : Int) + 1 := ⟨by omega, by omega⟩
            have hwrap2 : IntKind.i64.wrap ((m : Int) + 1 - 1) = m := by rw [IntKind.wrap_i64]; omega
            have hwrap : IntKind.i64.wrap (m : Int) = m := by rw [IntKind.wrap_i64]; omega
            have hw0 : IntKind.i64.wrap 0 = 0 := rfl
            have hz' := HZ.out
            obtain ⟨n, hn⟩ : ∃ n : Nat, n = 8 - c.length % 8 := ⟨_, rfl⟩
            obtain ⟨y, hy⟩ : ∃ y : Nat, x = n + y := ⟨(x - n).toNat, by omega⟩
            have HN : Hid (n = 8 - c.length % 8) := hn
            have R := @wr_store B g m cap (0 ||| (u / 2 ^ y % 2 ^ n * 2 ^ 0)) (↑c.length + (8 - (c.length : Int) % 8)) w2 w (BL.pk c ++ [0]) (c ++ BL.bitsOf (u / 2 ^ y) n) _ hv0 hf0 hv1 hf1 hown hB
              (by rw [BL.pk_step0 c (u / 2 ^ y) n (by omega) (by omega) hz', hpm]
                  have e2 : 8 - c.length % 8 - n = 0 := by omega
                  rw [e2])
              (by rw [List.length_append, BL.bitsOf_length]; omega) hbel
            rw [← or_num0_z (u / 2 ^ y) n (by omega), show ((u / 2 ^ y : Nat) : Int) = (u : Int) / 2 ^ y by simp] at R
            have HR : Hid _ := R
            have HJ : Hid (c ++ BL.bitsOf (u / 2 ^ y) n = bs ++ BL.bitsOf (u / 2 ^ y) ((min k 64).toNat - y)) := bits_join bs c u x.toNat y n _ HC.out (by omega) hxK
            have HY : Hid (x = n + y) := hy
            clear R hown hn hy hz' hpm
            refine wp_region_still_tail 25 (by kernel_rfl) (by kernel_rfl) ?_
            simp only [List.take_succ_cons, List.take_zero, List.drop_succ_cons, List.drop_zero]
            iterate 16 still_step
            still_call (last_int _ _ _ (div_range u hu _).1 (div_range u hu _).2 (by omega) (by omega))
            iterate 8 still_step
            refine wpStill_nil ?_
            go_wp2
            go_roundw
            case rel =>
              have hY := HY.out
              have hN := HN.out
              have hZ := HZ.out
              have ey : (x - (8 - (c.length : Int) % 8)).toNat = y := by omega
              refine ⟨x - (8 - (c.length : Int) % 8), by omega, rfl, by omega, ?_, ?_⟩
              · rw [ey, ← hN, ← HJ.out]; exact HR.out.1
              · rw [ey, ← hN]; exact HR.out.2
            case measure => simp [intOf]; omega
        · obtain ⟨hlen, hcase⟩ := hown
          have hown : wr.ownsRow (B + 1) 5 1 v (BL.pk c).length (bv (BL.pk c)) := ⟨hlen, hcase⟩
          rcases hcase with ⟨_, h0⟩ | ⟨g, cap, cur, rfl, hg, hh, hn, hcap, hsz, htake⟩
          · omega
          have hzb : (((c.length : Int) % 8) == 0) = false := by rw [beq_eq_false_iff_ne]; omega
          obtain ⟨m, hpm⟩ : ∃ m, (BL.pk c).length = m + 1 := ⟨(BL.pk c).length - 1, by omega⟩
          have hml : m ≤ 1000000064 := by omega
          have HP : Hid ((BL.pk c).length = m + 1) := hpm
          rw [hpm] at hv0 hown
          obtain ⟨b, hbm⟩ : ∃ b : Nat, (BL.pk c)[m]? = some b := ⟨(BL.pk c)[m]'(by omega), by simp⟩
          have hb256 := pk_byte_lt c m b hbm
          have HM : Hid ((BL.pk c)[m]? = some b) := hbm
          have hcell : wr.cell? ⟨g, m, none⟩ = some (.int .u8 b) := by
            rw [hown.cellAt m (by omega)]; simp [bv, hbm]
          have hfrz := hown.frozenAt m
          have hne : ¬ B = g := by omega
          have hne2 : ¬ g = B := by omega
          have hidx : 0 ≤ (m : Int) ∧ (m : Int) < (m : Int) + 1 := ⟨by omega, by omega⟩
          have hwrap2 : IntKind.i64.wrap ((m : Int) + 1 - 1) = m := by rw [IntKind.wrap_i64]; omega
          have hwrap : IntKind.i64.wrap (m : Int) = m := by rw [IntKind.wrap_i64]; omega
          have hz' := hz
          clear hpm hbm hpl hlen hh hn hcap hsz htake hz
          by_cases hm : x < 8 - (c.length : Int) % 8
          · obtain ⟨s, hs⟩ : ∃ s : Nat, 8 - (c.length : Int) % 8 - x = s := ⟨(8 - (c.length : Int) % 8 - x).toNat, by omega⟩
            have hsh : IntKind.i64.wrap (8 - (c.length : Int) % 8 - x) = s := by rw [IntKind.wrap_i64]; omega
            have HS : Hid (8 - (c.length : Int) % 8 - x = s) := hs
            have R := @wr_store B g m cap (b ||| (u % 2 ^ x.toNat * 2 ^ s)) (↑c.length + x) wr w (BL.pk c) (c ++ BL.bitsOf u x.toNat) _ hv0 hf0 hv1 hf1 hown hB
              (by rw [BL.pk_step c u x.toNat (by omega) (by omega) hz']
                  have e1 : (BL.pk c).length - 1 = m := by rw [HP.out]; omega
                  have e2 : 8 - c.length % 8 - x.toNat = s := by omega
                  rw [e1, e2, HM.out]; rfl)
              (by rw [List.length_append, BL.bitsOf_length]; omega) hbel
            rw [← or_num b u x.toNat s hb256 (by omega)] at R
            have HR : Hid _ := R
            have HJ : Hid (c ++ BL.bitsOf (u / 2 ^ 0) x.toNat = bs ++ BL.bitsOf (u / 2 ^ 0) ((min k 64).toNat - 0)) := bits_join bs c u x.toNat 0 x.toNat _ HC.out (by omega) hxK
            clear hs R hown
            go_wp2_with fail
            refine wp_region_still_tail 25 (by kernel_rfl) (by kernel_rfl) ?_
            simp only [List.take_succ_cons, List.take_zero, List.drop_succ_cons, List.drop_zero]
            iterate 16 still_step
            still_call (last_int _ _ _ (by omega) (by omega) (by omega) (by omega))
            iterate 8 still_step
            refine wpStill_nil ?_
            go_wp2
            go_roundw
            case rel =>
              refine ⟨0, by omega, rfl, by omega, ?_, HR.out.2⟩
              have := HR.out.1
              rw [show ((0 : Int).toNat) = 0 from rfl, ← HJ.out, Nat.pow_zero, Nat.div_one]
              exact this
            case measure => simp [intOf]; omega
          · have hw0 : IntKind.i64.wrap 0 = 0 := rfl
            obtain ⟨n, hn⟩ : ∃ n : Nat, n = 8 - c.length % 8 := ⟨_, rfl⟩
            obtain ⟨y, hy⟩ : ∃ y : Nat, x = n + y := ⟨(x - n).toNat, by omega⟩
            have HN : Hid (n = 8 - c.length % 8) := hn
            have R := @wr_store B g m cap (b ||| (u / 2 ^ y % 2 ^ n * 2 ^ 0)) (↑c.length + (8 - (c.length : Int) % 8)) wr w (BL.pk c) (c ++ BL.bitsOf (u / 2 ^ y) n) _ hv0 hf0 hv1 hf1 hown hB
              (by rw [BL.pk_step c (u / 2 ^ y) n (by omega) (by omega) hz']
                  have e1 : (BL.pk c).length - 1 = m := by rw [HP.out]; omega
                  have e2 : 8 - c.length % 8 - n = 0 := by omega
                  rw [e1, e2, HM.out]; rfl)
              (by rw [List.length_append, BL.bitsOf_length]; omega) hbel
            rw [← or_num0 b (u / 2 ^ y) n hb256 (by omega), show ((u / 2 ^ y : Nat) : Int) = (u : Int) / 2 ^ y by simp] at R
            have HR : Hid _ := R
            have HJ : Hid (c ++ BL.bitsOf (u / 2 ^ y) n = bs ++ BL.bitsOf (u / 2 ^ y) ((min k 64).toNat - y)) := bits_join bs c u x.toNat y n _ HC.out (by omega) hxK
            have HY : Hid (x = n + y) := hy
            clear R hown hn hy
            go_wp2_with fail
            refine wp_region_still_tail 25 (by kernel_rfl) (by kernel_rfl) ?_
            simp only [List.take_succ_cons, List.take_zero, List.drop_succ_cons, List.drop_zero]
            iterate 16 still_step
            still_call (last_int _ _ _ (div_range u hu _).1 (div_range u hu _).2 (by omega) (by omega))
            iterate 8 still_step
            refine wpStill_nil ?_
            go_wp2
            go_roundw
            case rel =>
              have hY := HY.out
              have hN := HN.out
              have ey : (x - (8 - (c.length : Int) % 8)).toNat = y := by omega
              refine ⟨x - (8 - (c.length : Int) % 8), by omega, rfl, by omega, ?_, ?_⟩
              · rw [ey, ← hN, ← HJ.out]; exact HR.out.1
              · rw [ey, ← hN]; exact HR.out.2
            case measure => simp [intOf]; omega
      · go_wp2
        go_end0
        have e0 : x.toNat = 0 := by omega
        rw [e0] at hinv
        exact ⟨rfl, by simpa using hinv, hbel⟩
end
section
open Go.RowKit
theorem zcm (B:Nat)(b:Bool)(bs:List Bool)(w:World)(h:WInv B w bs)(hb:bs.length<=1000000000):
  Calls q6 219 #[.pointer (some ⟨B,0,none⟩),.bool b] w λe w'=>
   e= .returned (.tuple #[])/\WInv B w' (bs++[b])/\WFr B w w':=by
 cases b
 .have H:Hid (Calls q6 220 #[.pointer (some ⟨B,0,none⟩),.int .u64 0,.int .i64 1] w λe w'=>e= .returned (.tuple #[])/\WInv B w' (bs++[false])/\WFr B w w'):=
   wbits_any B 0 1 bs w h (by omega) hb (by omega) (by omega)
  clear h;go_enter func219,ntmps219;go_wp2_with (go_at_call 220;refine H.out.mono ?_;rintro e w' ⟨rfl,hi,q⟩)
  go_end0
  exact⟨rfl,by assumption,by assumption⟩
 .have H:Hid (Calls q6 220 #[.pointer (some ⟨B,0,none⟩),.int .u64 1,.int .i64 1] w λe w'=>e= .returned (.tuple #[])/\WInv B w' (bs++[true])/\WFr B w w'):=
   wbits_any B 1 1 bs w h (by omega) hb (by omega) (by omega)
  clear h;go_enter func219,ntmps219;go_wp2_with (go_at_call 220;refine H.out.mono ?_;rintro e w' ⟨rfl,hi,q⟩)
  go_end0
  exact⟨rfl,by assumption,by assumption⟩
def zr3 (l:List Nat):ByteArray:=⟨(l.map qX).toArray⟩
theorem zaL (l:List Nat):strOfNums (l.map λn:Nat=>(n:Int))=zr3 l:=by
 unfold strOfNums zr3;simp
theorem zet (B:Nat)(bs:List Bool)(w:World)(U:WInv B w bs):
  Calls q6 194 #[.pointer (some ⟨B,0,none⟩)] w λe w'=>e= .returned (.string (zr3 (BL.pk bs)))/\w'=w:=by
 obtain⟨v,A2,A3,A4,A5,h,hB⟩:=U;obtain⟨q,G⟩:=h;have h:w.ownsRow (B+1) 5 1 v (BL.pk bs).length (bv (BL.pk bs)):=⟨q,G⟩;rcases G with⟨rfl,Y⟩|⟨g,cap,A6,rfl,hg,hh,hn,A1,V,J⟩
 .have O:=run_convert_bytes_nil (P:=q6) w 102 5 underlying102 underlying5 0 0 9 underlying9;have e:BL.pk bs=[]:=List.eq_nil_of_length_eq_zero Y;rw[e];clear h Y q e;go_enter func194,ntmps194;go_wp2;go_ret;exact⟨rfl,rfl⟩
 .have O:=run_convert_bytes_arg (P:=q6) w 102 5 underlying102 underlying5 g 0 (BL.pk bs).length cap ((BL.pk bs).map λn:Nat=>(n:Int)) (by simp)
   (λi hi=>by
    rw[qT,h.cellAt i (by omega)];simp[bv,hi]) 9 underlying9
  rw[zaL] at O;clear h q hh V J;go_enter func194,ntmps194;go_wp2;go_ret;exact⟨rfl,rfl⟩
theorem z0X.below {B:Nat}{w w':World}(h:z0X w)(hb:Below B w w')(q:1<B):z0X w':=λi hi=>(hb.cell q).trans (h i hi)
theorem zbG (B:Nat)(n:Int)(bs:List Bool)(w:World)(V:WInv B w bs)(hW:z0X w)(hG:1<B)(hb:bs.length<=900000000)(h1: -9223372036854775808<=n)(h2:n<=9223372036854775807):
  Calls q6 191 #[.pointer (some ⟨B,0,none⟩),.int .i64 n] w λe w'=>
   e= .returned (.tuple #[])/\WInv B w' (bs++BL.z6y (BL.zig n))/\WFr B w w':=by
 have hz:=BL.zkj n h1 h2;generalize hu:BL.zig n=u at*;have HU:Hid (BL.zig n=u):=hu;clear hu;have A3:=BL.zaE u;generalize ha:BL.nar u=a at*;have HA:Hid (BL.nar u=a):=ha;clear ha;have HW:Hid (z0X w):=hW;have HI:Hid (WInv B w bs):=V;clear hW V;go_enter func191,ntmps191;go_wp2_with (first | (go_at_call 217;refine(zkM n _ h1 h2).mono ?_;rintro e w' ⟨rfl,rfl⟩;rw[HU.out]) | (go_at_call 218;refine(zba u _ HW.out hz).mono ?_;rintro e w' ⟨rfl,rfl⟩;rw[HA.out]))
 go_loopw [11] (λt wr=>∃j:Nat,j<=a/\t= .int .i64 j/\WInv B wr (bs++wY j true)/\WFr B w' wr) (λt _=>a-(intOf t).toNat)
 case atStart=>exact⟨0,qh _,rfl,by simpa using HI.out,WFr.refl _ _⟩
 case round=>
  obtain⟨j,hj,rfl,h,q⟩:=hrel;by_cases A4:j<a
  .have O:=hid h;have G:(bs++wY j true).length<=1000000000:=by simp;omega
   have HB:=hid q;clear h q;go_wp2_with (go_at_call 219;refine(zcm B true _ _ O.out G).mono ?_;rintro e w2 ⟨rfl,hi,hl⟩;have J:=hid hi;have U:=hid hl;clear hi hl)
   go_roundw
   case rel=>
    refine⟨j+1,by omega,by go_num,?_,HB.out.trans U.out⟩;have:=J.out;rw[qm] at this;rw[List.replicate_succ'];exact this
   case measure=>simp[intOf];omega
  .have he:j=a:=by omega
   subst he;have HB:=hid q;have Y:Hid (z0X wr):=z0X.below HW.out q.below hG;by_cases h6:j<6
   .have O:=hid h;have A1:(bs++wY j true).length<=1000000000:=by simp;omega
    clear h q;have G:(bs++wY j true++[false]).length<=1000000000:=by simp;omega
    go_wp2_with (first | (go_at_call 219;refine(zcm B false _ _ O.out A1).mono ?_;rintro e w2 ⟨rfl,hi,hl⟩;have hc:=z0X.below Y.out hl.below hG j (by omega);have J:=hid hi;have U:=hid hl;clear hi hl) | (go_at_call 220;refine(wbits_any B u _ _ _ J.out hz G ?_ ?_).mono ?_;(have:=BL.z8z j;omega);(have:=BL.z8z j;omega);rintro e w3 ⟨rfl,hi,hl⟩))
    go_end0
    refine⟨rfl,?_,HB.out.trans (U.out.trans hl)⟩;unfold BL.z6y BL.zc3;rw[HA.out,if_pos h6];have e1:(min ((BL.wid j:Nat):Int) 64).toNat=BL.wid j:=by have:=BL.z8z j;omega
    rw[e1] at hi;simpa using hi
   .have A2:j=6:=by omega
    subst A2;have hc:wr.cell? ⟨1,6,none⟩=some (.int .i64 64):=Y.out 6 (by omega);have J:=hid h;have G:(bs++wY 6 true).length<=1000000000:=by simp;omega
    clear h q;go_wp2_with (go_at_call 220;refine(wbits_any B u _ _ _ J.out hz G (by omega) (by omega)).mono ?_;rintro e w3 ⟨rfl,hi,hl⟩)
    go_end0
    refine⟨rfl,?_,HB.out.trans hl⟩;unfold BL.z6y BL.zc3;rw[HA.out,if_neg (by omega),show BL.wid 6=64 from rfl];simpa using hi
theorem WInv.new (w:World):WInv w.heap.size (w.alloc (.cells #[.slice none 0 0,.int .i64 0] 267)) []:=by
 refine⟨.slice none 0 0,by simp,by simp,by simp,by simp,?_,by simp⟩;exact World.ownsRow_nil _ _ _ _
theorem z0X.alloc {w:World}(h:z0X w)(q:1<w.heap.size)(o:Obj):z0X (w.alloc o):=λi hi=>by
 rw[World.cell?_alloc_past _ _ _ q];exact h i hi
end
section
open Go.RowKit
theorem zjL (n:Int):qW.wrap n=CL.W n:=by rw[qY];unfold CL.W;omega
theorem z9o (n:Int):wrap64 n=CL.W n:=by unfold wrap64 CL.W;rfl
def z1I (w:World)(h:Option Addr)(l:List CL.Smp):Prop:=
 ∀i,i<l.length->∃b off,h=some ⟨b,off,none⟩/\w.cell? ⟨b,off+i*2,none⟩=some (.int .i64 (CL.at' l i).1)/\w.cell? ⟨b,off+i*2+1,none⟩=some (.int .i64 (CL.at' l i).2)/\b<w.heap.size
theorem z1I.below {w w':World}{G:Option Addr}{l:List CL.Smp}(h:z1I w G l)(hb:Below w.heap.size w w'):z1I w' G l:=by
 intro i hi;obtain⟨b,off,J,O,U,q⟩:=h i hi;exact⟨b,off,J,(hb.cell (p:=⟨b,_,none⟩) q).trans O,(hb.cell (p:=⟨b,_,none⟩) q).trans U,qe q hb.size⟩
abbrev z3b (a b:Int):Obj:= .cells #[.int .i64 a,.int .i64 b] 98
theorem z2C (ao:Option Addr)(l:List CL.Smp)(cap:Nat)(w:World)(hS:z1I w ao l)(hR:∀s∈l,CL.Rs s)(hl:l.length<=140737488351232):
  Calls q6 147 #[.slice ao l.length cap] w λe w'=>e= .returned (.bool (CL.right l))/\Below w.heap.size w w':=by
 by_cases A1:2000<l.length
 .have h':(2000:Int)<(l.length:Int):=by omega
  rw[CL.z9h l A1];go_enter func147,ntmps147;go_wp2;go_ret;exact⟨rfl,Below.refl _ _⟩
 .have h':¬(2000:Int)<(l.length:Int):=by omega
  have HS:=hid hS;have HR:=hid hR;clear hS hR;generalize hB:CL.right l=B;have HB:=hid hB;clear hB;go_enter func147,ntmps147;go_wp2;go_loopw [3,11] (λtm ti wr=>∃i:Nat,i<=l.length/\ti= .int .i64 i/\tm= .int .i64 (if i=0 then-1099511627776 else(CL.at' l (i-1)).1+1)/\(∀j,j<i->CL.ziJ l j=true)/\Below w.heap.size w wr) (λ_ ti _=>l.length-(intOf ti).toNat)
  case atStart=>exact⟨0,by omega,rfl,rfl,by omega,Below.refl _ _⟩
  case round=>
   obtain⟨i,hi,rfl,rfl,A2,q⟩:=hrel;have HO:=hid A2;have h:=hid q;have U:=q.size;clear A2 q;by_cases J:i<l.length
   .obtain⟨b,off,A8,A3,A4,A5⟩:=HS.out i J;subst A8;have A6:=(h.out.cell (p:=⟨b,off+i*2,none⟩) A5).trans A3;have A7:=(h.out.cell (p:=⟨b,off+i*2+1,none⟩) A5).trans A4;clear A3 A4;have A9:=HR.out _ (CL.at_mem l i J);have O:=CL.z10 l i;have G: -1099511627776<=(if i=0 then(-1099511627776:Int) else(CL.at' l (i-1)).1+1)/\(i=0->(if i=0 then(-1099511627776:Int) else(CL.at' l (i-1)).1+1)= -1099511627776)/\(i≠0->(if i=0 then(-1099511627776:Int) else(CL.at' l (i-1)).1+1)=(CL.at' l (i-1)).1+1):=by
     by_cases h0:i=0
     .rw[if_pos h0];omega
     .have:=(CL.z10 l (i-1)).1 (HO.out (i-1) (by omega));rw[if_neg h0];omega
    have HN:Hid (CL.at' l i=CL.at' l (i+1-1)):=rfl;have Y:Hid (CL.ziJ l i=true↔(if i=0 then(-1099511627776:Int) else(CL.at' l (i-1)).1+1)<=(CL.at' l i).1/\(CL.at' l i).1<=1099511627776):=by
     show _↔_;rw[O];by_cases h0:i=0
     .rw[G.2.1 h0];omega
     .rw[G.2.2 h0];omega
    clear O G;obtain⟨⟨Ac,Ad⟩,Ae,Af⟩:=A9;generalize (if i=0 then(-1099511627776:Int) else(CL.at' l (i-1)).1+1)=m at*;by_cases Ag:(CL.at' l i).1<m
    .have HF:Hid (B=false):=by
      show _=_;rw[<-HB.out];refine CL.zaK l i J ?_;rw[<-tV,Y.out];omega
     generalize (CL.at' l i).1=T at*;generalize (CL.at' l i).2=V at*;go_wp2;go_ret;exact⟨z05 HF.out.symm,h.out.alloc U _⟩
    .by_cases Ah:1099511627776<(CL.at' l i).1
     .have HF:Hid (B=false):=by
       show _=_;rw[<-HB.out];refine CL.zaK l i J ?_;rw[<-tV,Y.out];omega
      generalize (CL.at' l i).1=T at*;generalize (CL.at' l i).2=V at*;go_wp2;go_ret;exact⟨z05 HF.out.symm,h.out.alloc U _⟩
     .have HT:Hid (CL.ziJ l i=true):=by
       show _=_;rw[Y.out];omega
      have HE:Hid ((CL.at' l i).1=(CL.at' l (i+1-1)).1):=rfl;generalize (CL.at' l i).1=T at*;generalize (CL.at' l i).2=V at*;have hw:qW.wrap (T+1)=T+1:=by rw[qY];omega
      go_wp2;go_roundw
      case rel=>
       refine⟨i+1,by omega,by go_num,?_,?_,h.out.alloc U _⟩
       .rw[if_neg (by omega),<-HE.out]
       .intro j hj;by_cases he:j=i
        .subst he;exact HT.out
        .exact HO.out j (by omega)
      case measure=>simp[intOf];omega
   .have he:i=l.length:=by omega
    have HF:Hid (B=true):=by
     show _=_;rw[<-HB.out];exact CL.zch l (by omega) (λj hj=>HO.out j (by omega))
    generalize (if i=0 then(-1099511627776:Int) else(CL.at' l (i-1)).1+1)=m at*;subst he;go_wp2;go_ret;exact⟨z05 HF.out.symm,h.out⟩
def z6n (B:Nat)(w:World)(a:CL.Smp)(st:Int)(h:Bool):Prop:=
 w.heap[B]? =some (.cells #[.int .i64 a.1,.int .i64 a.2,.int .i64 st,.bool h] 271 (0,0))
theorem z6n.cells {B:Nat}{w:World}{a:CL.Smp}{st:Int}{J:Bool}(h:z6n B w a st J):
  w.cell? ⟨B,0,none⟩=some (.int .i64 a.1)/\w.cell? ⟨B,1,none⟩=some (.int .i64 a.2)/\w.cell? ⟨B,2,none⟩=some (.int .i64 st)/\w.cell? ⟨B,3,none⟩=some (.bool J)/\
  w.frozen? ⟨B,0,none⟩=false/\w.frozen? ⟨B,1,none⟩=false/\w.frozen? ⟨B,2,none⟩=false/\w.frozen? ⟨B,3,none⟩=false/\B<w.heap.size:=by
 unfold z6n at h;have q:B<w.heap.size:=by
  rcases o9 B w.heap.size with G|G
  .exact G
  .rw[eJ G] at h;cases h
 refine⟨?_,?_,?_,?_,?_,?_,?_,?_,q⟩<;>simp only[qs,wz,h]<;>rfl
theorem z6n.new (w:World):z6n w.heap.size (w.alloc (.cells #[.int .i64 0,.int .i64 0,.int .i64 0,.bool false] 271)) (0,0) 0 false:=qu w _
structure Ext (B:Nat) (w w':World):Prop where
 os:w'.os=w.os
 tape:w'.tape=w.tape
 output:w'.output=w.output
 size:w.heap.size<=w'.heap.size
 block:∀k,k<w.heap.size->k≠B->w'.heap[k]? =w.heap[k]?
theorem Ext.below {B C:Nat}{w w':World}(h:Ext B w w')(q:C<=B)(G:C<=w.heap.size):Below C w w':=
 ⟨h.os,h.tape,h.output,h.size,λk J=>h.block k (by omega) (by omega)⟩
theorem ziR (B:Nat)(a:CL.Smp)(st:Int)(J:Bool)(s:CL.Smp)(w:World)(G:z6n B w a st J):
  Calls q6 192 #[.pointer (some ⟨B,0,none⟩),.agg #[.int .i64 s.1,.int .i64 s.2]] w λe w'=>
   e= .returned (.tuple #[.int .i64 (CL.W (CL.W (s.1-a.1)-st)),.int .i64 (CL.W (s.2-a.2))])/\Below w.heap.size w w':=by
 obtain⟨s1,q⟩:=s;obtain⟨U,V⟩:=a;have hb:Below w.heap.size w (w.alloc (z3b s1 q)):=(Below.refl _ _).alloc (qq _) _;obtain⟨c0,c1,c2,Y,_,_,_,_,h⟩:=G.cells;have c0:=(hb.cell (p:=⟨B,0,none⟩) h).trans c0;have c1:=(hb.cell (p:=⟨B,1,none⟩) h).trans c1;have c2:=(hb.cell (p:=⟨B,2,none⟩) h).trans c2;have d0:(w.alloc (z3b s1 q)).cell? ⟨w.heap.size,0,none⟩=some (.int .i64 s1):=by simp
 have d1:(w.alloc (z3b s1 q)).cell? ⟨w.heap.size,1,none⟩=some (.int .i64 q):=by simp
 have O:=hid hb;simp only at c0 c1 ⊢;clear G hb;go_enter func192,ntmps192;go_wp2;generalize w.alloc (z3b s1 q)=w1 at*;refine wp_region_still_lit (by kernel_rfl) (by kernel_rfl) ?_
 iterate 23 still_step
 refine yT ?_;go_wp2;go_ret2;refine⟨?_,O.out.drew⟩;simp only[zjL];rfl
theorem zjy (B:Nat)(a:CL.Smp)(st:Int)(G:Bool)(d v:Int)(w:World)(q:z6n B w a st G):
  Calls q6 233 #[.pointer (some ⟨B,0,none⟩),.int .i64 d,.int .i64 v] w λe w'=>
   e= .returned (.agg #[.int .i64 (CL.W (CL.W (a.1+st)+d)),.int .i64 (CL.W (a.2+v))])/\Below w.heap.size w w':=by
 obtain⟨U,V⟩:=a;have hb:Below w.heap.size w (w.alloc (z3b 0 0)):=(Below.refl _ _).alloc (qq _) _;obtain⟨c0,c1,c2,Y,_,_,_,_,h⟩:=q.cells;have c0:=(hb.cell (p:=⟨B,0,none⟩) h).trans c0;have c1:=(hb.cell (p:=⟨B,1,none⟩) h).trans c1;have c2:=(hb.cell (p:=⟨B,2,none⟩) h).trans c2;have d0:(w.alloc (z3b 0 0)).cell? ⟨w.heap.size,0,none⟩=some (.int .i64 0):=by simp
 have d1:(w.alloc (z3b 0 0)).cell? ⟨w.heap.size,1,none⟩=some (.int .i64 0):=by simp
 have f0:(w.alloc (z3b 0 0)).frozen? ⟨w.heap.size,0,none⟩=false:=by simp
 have f1:(w.alloc (z3b 0 0)).frozen? ⟨w.heap.size,1,none⟩=false:=by simp
 have J:=hid hb;have O:=hid (qu w (z3b 0 0));simp only at c0 c1 ⊢;clear q hb;go_enter func233,ntmps233;go_wp2;generalize w.alloc (z3b 0 0)=w1 at*;refine oq 20 (by kernel_rfl) (by kernel_rfl) ?_
 iterate 20 still_step
 refine yT ?_;go_wp2;refine bodyPost_ret (results_cell_row (P:=q6) rfl _ _ w.heap.size 98 _ (0,0) _ rfl (qo _ _ 1 _ _ _ (qo _ _ 0 _ _ _ O.out)) underlying98 rfl (by kernel_rfl)) rfl ?_;refine⟨?_,((J.out.setCell (p:=⟨w.heap.size,0,none⟩) (qq _) _).setCell (p:=⟨w.heap.size,1,none⟩) (qq _) _).drew⟩;simp only[z9o];rfl
theorem Ext.ziH {B:Nat}(w:World)(o:Obj):Ext B w (w.alloc o):=
 ⟨rfl,rfl,rfl,by simp,λk h _=>Below.heap_alloc w o k h⟩
theorem Ext.z3q {B:Nat}{a w:World}(h:Ext B a w)(o:Nat)(u:Value):Ext B a (w.setCell ⟨B,o,none⟩ u):=
 ⟨h.os,h.tape,h.output,by simpa using h.size,λk G q=>(Below.heap_setCell w ⟨B,o,none⟩ u k q).trans (h.block k G q)⟩
theorem Ext.refl (B:Nat)(w:World):Ext B w w:=⟨rfl,rfl,rfl,qq _,λ_ _ _=>rfl⟩
theorem Ext.alloc {B:Nat}{a w:World}(h:Ext B a w)(o:Obj):Ext B a (w.alloc o):=
 ⟨h.os,h.tape,h.output,by simp;exact Nat.le_succ_of_le h.size,λk q G=>(Below.heap_alloc w o k (qe q h.size)).trans (h.block k q G)⟩
theorem Ext.drew {B:Nat}{a w:World}(h:Ext B a w):Ext B a w.drew:=⟨h.os,h.tape,h.output,h.size,h.block⟩
theorem zct (B:Nat)(a:CL.Smp)(st:Int)(J:Bool)(s:CL.Smp)(w:World)(O:z6n B w a st J):
  Calls q6 193 #[.pointer (some ⟨B,0,none⟩),.agg #[.int .i64 s.1,.int .i64 s.2]] w λe w'=>
   e= .returned (.tuple #[])/\z6n B w' s (if J then CL.W (s.1-a.1) else st) true/\Ext B w w':=by
 obtain⟨s1,q⟩:=s;obtain⟨a1,a2⟩:=a;have hb:Below w.heap.size w (w.alloc (z3b s1 q)):=(Below.refl _ _).alloc (qq _) _;have h:=O.cells.2.2.2.2.2.2.2.2;have G:z6n B (w.alloc (z3b s1 q)) (a1,a2) st J:=(hb.block B h).trans O;obtain⟨c0,c1,c2,V,Y,f1,f2,f3,A1⟩:=G.cells;have d0:(w.alloc (z3b s1 q)).cell? ⟨w.heap.size,0,none⟩=some (.int .i64 s1):=by simp
 have d1:(w.alloc (z3b s1 q)).cell? ⟨w.heap.size,1,none⟩=some (.int .i64 q):=by simp
 have HE:=hid (Ext.ziH (B:=B) w (z3b s1 q));have HT:=hid G;have U:=hid O;have A2:B≠w.heap.size:=by omega
 simp only at c0 c1 ⊢;clear O G;cases J
 .rw[if_neg (by simp)];have c0:=(hb.cell (p:=⟨B,0,none⟩) h).symm.trans c0;have c1:=(hb.cell (p:=⟨B,1,none⟩) h).symm.trans c1;have c2:=(hb.cell (p:=⟨B,2,none⟩) h).symm.trans c2;have V:=(hb.cell (p:=⟨B,3,none⟩) h).symm.trans V;have Y:=(hb.frozen (p:=⟨B,0,none⟩) h).symm.trans Y;have f1:=(hb.frozen (p:=⟨B,1,none⟩) h).symm.trans f1;have f2:=(hb.frozen (p:=⟨B,2,none⟩) h).symm.trans f2;have f3:=(hb.frozen (p:=⟨B,3,none⟩) h).symm.trans f3;clear hb;go_enter func193,ntmps193;go_wp2
  go_end0
  refine⟨rfl,?_,(((Ext.refl B w).z3q 0 _).z3q 1 _ |>.z3q 3 _).alloc _⟩;refine(Below.heap_alloc _ _ B (by simpa using h)).trans ?_;exact qo _ _ 3 _ _ _ (qo _ _ 1 _ _ _ (qo _ _ 0 _ _ _ U.out))
 .rw[if_pos (by simp)];clear hb;go_enter func193,ntmps193;go_wp2;generalize w.alloc (z3b s1 q)=w1 at*;refine oq 11 (by kernel_rfl) (by kernel_rfl) ?_
  iterate 11 still_step
  refine yT ?_;go_wp2
  go_end0
  refine⟨rfl,?_,(((HE.out.z3q 2 _).z3q 0 _).z3q 1 _ |>.z3q 3 _).drew⟩;rw[<-z9o];exact qo _ _ 3 _ _ _ (qo _ _ 1 _ _ _ (qo _ _ 0 _ _ _ (qo _ _ 2 _ _ _ HT.out)))
end
section
open Go.RowKit
theorem z0j {q:Nat}{e:TypeId}{G:Nat}{v:Value}{n:Nat}{xs:List Value}{w w':World}(h:w.ownsRow q e G v n xs)(hb:∀k,v.ownBlock=some k->w'.heap[k]? =w.heap[k]?):w'.ownsRow q e G v n xs:=by
 obtain⟨U,J⟩:=h;refine⟨U,?_⟩;rcases J with J|⟨g,cap,O,rfl,V,Y,r⟩
 .exact .inl J
 .refine .inr ⟨g,cap,O,rfl,V,?_,r⟩;rw[hb g rfl];exact Y
theorem WInv.ext {B T:Nat}{w w':World}{bs:List Bool}(h:WInv B w bs)(hb:Ext T w w')(Y:∀c fr,w.heap[T]? ≠some (.cells c 5 fr))(G:B≠T):WInv B w' bs:=by
 obtain⟨v,h0,f0,h1,f1,J,U⟩:=h;have q:=hb.block B U G;refine⟨v,(qj (a:=⟨B,0,none⟩) q).trans h0,(rR (a:=⟨B,0,none⟩) q).trans f0,(qj (a:=⟨B,1,none⟩) q).trans h1,(rR (a:=⟨B,1,none⟩) q).trans f1,?_,qe U hb.size⟩;refine z0j J λk V=>?_
 obtain⟨O,fr,hc⟩:=z1B J k V;refine hb.block k (J.lt k V).2 (λe=>?_);subst e;exact Y O fr hc
theorem Ext.of_below {T:Nat}{w w':World}(h:Below w.heap.size w w'):Ext T w w':=⟨h.os,h.tape,h.output,h.size,λk q _=>h.block k q⟩
theorem z6n.znI {T:Nat}{w:World}{a:CL.Smp}{st:Int}{G:Bool}(h:z6n T w a st G):znO w T:=by
 intro c fr q;rw[h] at q;simp at q
theorem z6n.wfr {T B:Nat}{w w':World}{a:CL.Smp}{st:Int}{G:Bool}(h:z6n T w a st G)(hf:WFr B w w')(q:T≠B):z6n T w' a st G:=
 (hf.block T h.cells.2.2.2.2.2.2.2.2 q h.znI).trans h
theorem z6n.kept {T:Nat}{w w':World}{a:CL.Smp}{st:Int}{q:Bool}(h:z6n T w a st q)(hf:Below w.heap.size w w'):z6n T w' a st q:=
 (hf.block T h.cells.2.2.2.2.2.2.2.2).trans h
def zee (X:Nat)(w:World)(s:CL.Smp):Prop:=w.heap[X]? =some (z3b s.1 s.2)
theorem z00 {w:World}{k:Nat}{o:Obj}(h:w.heap[k]? =some o):k<w.heap.size:=by
 rcases o9 k w.heap.size with q|q
 .exact q
 .rw[eJ q] at h;cases h
theorem zee.new (w:World)(s:CL.Smp):zee w.heap.size (w.alloc (z3b s.1 s.2)) s:=qu w _
theorem zee.kept {X:Nat}{w w':World}{s:CL.Smp}(h:zee X w s)(hf:Below w.heap.size w w'):zee X w' s:=(hf.block X (z00 h)).trans h
theorem zee.wfr {X B:Nat}{w w':World}{s:CL.Smp}(h:zee X w s)(hf:WFr B w w')(q:X≠B):zee X w' s:=
 (hf.block X (z00 h) q (λc fr G=>by rw[h] at G;simp at G)).trans h
theorem zee.cells {X:Nat}{w:World}{s:CL.Smp}(h:zee X w s):w.cell? ⟨X,0,none⟩=some (.int .i64 s.1)/\w.cell? ⟨X,1,none⟩=some (.int .i64 s.2):=by
 unfold zee at h;constructor<;>simp only[qs,h]<;>rfl
theorem zcB (l:List CL.Smp)(k:Nat):(if decide (0<k) then CL.W ((CL.at' l k).1-(CL.ahead l k).1) else CL.stp l k)=CL.stp l (k+1):=by
 unfold CL.stp CL.ahead;by_cases h:k=0
 .subst h;simp
 .have q:0<k:=by omega
  simp only[q,decide_true,if_true];rw[if_neg h,if_neg (by omega),show k+1-1=k by omega,show k+1-2=k-1 by omega]
theorem z7N (l:List CL.Smp)(k:Nat):CL.at' l k=CL.ahead l (k+1):=by
 unfold CL.ahead;rw[if_neg (by omega),show k+1-1=k by omega]
theorem zh1 (h:Option Addr)(l:List CL.Smp)(cap:Nat)(w:World)(q:z1I w h l)(G:∀s∈l,CL.Rs s)(U:l.length<=140737488351232)(J:CL.right l=false):
  Calls q6 159 #[.slice h l.length cap] w λe w'=>e= .returned (.tuple #[.string ⟨#[]⟩,.iface 56 (.int .i64 1)])/\Below w.heap.size w w':=by
 have O:=hid (z2C h l cap w q G U);rw[J] at O;clear q G J;go_enter func159,ntmps159;go_wp2_with fail;refine wU O.out ?_;rintro e V ⟨rfl,hb⟩;go_wp2_with fail;go_ret2;exact⟨rfl,hb⟩
theorem zhZ (ao:Option Addr)(l:List CL.Smp)(cap:Nat)(w:World)(hS:z1I w ao l)(hR:∀s∈l,CL.Rs s)(hW:z0X w)(hG:1<w.heap.size)(hr:CL.right l=true):
  Calls q6 159 #[.slice ao l.length cap] w λe w'=>e= .returned (.tuple #[.string (zr3 (BL.pk (CL.chB l))),.nilIface])/\Below w.heap.size w w':=by
 have hl:=((CL.z0J l).1 hr).1;have HC:=hid (z2C ao l cap w hS hR (by omega));rw[hr] at HC;have HW:=hid hW;have HS:=hid hS;have HR:=hid hR;clear hS hR hr hW;go_enter func159,ntmps159;go_wp2_with fail;refine wU HC.out ?_;rintro e w1 ⟨rfl,hb⟩;have V:=hb.size;have Ar:=hid hb;have A4:=hid (HW.out.below hb hG);clear hb;go_wp2_with fail;refine(zbG w1.heap.size (l.length:Int) [] _ (WInv.new w1) (A4.out.alloc (by omega) _) (by omega) (by simp) (by omega) (by omega)).mono ?_;rintro e w2 ⟨rfl,hi,hf⟩;have B5:w1.heap.size+1<=w2.heap.size:=by have:=hf.below.size;simpa using this
 have Au:=hid ((Ar.out.alloc V _).trans (hf.below.mono V));have Av:=hid ((A4.out.alloc (by omega) _).below hf.below (by omega));have Aw:=hid hi;clear hi hf;go_wp2_with fail;go_loopw [19] (λti wr=>∃k:Nat,k<=l.length/\ti= .int .i64 k/\WInv w1.heap.size wr (BL.z6y (BL.zig l.length)++CL.seg l 0 k)/\z6n w2.heap.size wr (CL.ahead l k) (CL.stp l k) (decide (0<k))/\Below w.heap.size w wr/\z0X wr) (λti _=>l.length-(intOf ti).toNat)
 case atStart=>
  refine⟨0,by omega,rfl,?_,z6n.new w2,Au.out.alloc (by omega) _,Av.out.alloc (by omega) _⟩;have:=Aw.out.ext (T:=w2.heap.size) (Ext.of_below ((Below.refl _ w2).alloc (qq _) (.cells #[.int .i64 0,.int .i64 0,.int .i64 0,.bool false] 271))) (λc fr hc=>by rw[eJ (qq _)] at hc;cases hc) (by omega);simpa [CL.seg] using this
 case round=>
  obtain⟨k,hk,rfl,O,A2,U,A1⟩:=hrel;have HV:=hid O;have HT:=hid A2;have HB:=hid U;have Ax:=hid A1;have Ay:=U.size;have B6:=A2.cells.2.2.2.2.2.2.2.2;have Ba:w1.heap.size<wr.heap.size:=by obtain⟨_,_,_,_,_,_,h⟩:=O;exact h
  clear O A2 U A1;by_cases Az:k<l.length
  .obtain⟨b,off,AA,A5,A6,A7⟩:=HS.out k Az;subst AA;have Ap:=(HB.out.cell (p:=⟨b,off+k*2,none⟩) A7).trans A5;have Aq:=(HB.out.cell (p:=⟨b,off+k*2+1,none⟩) A7).trans A6;clear A5 A6;have A8:=CL.z5m l k;have A9:=CL.z5A l k;have AB:Hid (CL.W (CL.W ((CL.at' l k).1-(CL.ahead l k).1)-CL.stp l k)=CL.zdq l k):=rfl;have AC:Hid (CL.W ((CL.at' l k).2-(CL.ahead l k).2)=CL.zfC l k):=rfl;have HA:=hid (z7N l k);have HSt:=hid (zcB l k);have AD:=hid (CL.zid l k 0);have B3:(BL.z6y (BL.zig l.length)++CL.seg l 0 k).length<=300000:=by
    have h1:=(BL.z1S (BL.zig l.length)).2.1;have h2:=CL.zg8 l k 0;rw[q8];omega
   have AE:(BL.z6y (BL.zig l.length)++CL.seg l 0 k++BL.z6y (BL.zig (CL.zdq l k))).length<=400000:=by
    have h1:=(BL.z1S (BL.zig (CL.zdq l k))).2.1;rw[q8];omega
   generalize CL.at' l k=s at*;generalize Ac:CL.zdq l k=n1 at*;generalize Ad:CL.zfC l k=n2 at*;have AF:=hid Ac;have AG:=hid Ad;clear Ac Ad;have HX:=hid (zee.new wr s);have A3:Below wr.heap.size wr (wr.alloc (z3b s.1 s.2)):=(Below.refl _ _).alloc (qq _) _;have AH:=hid (HV.out.ext (T:=wr.heap.size) (Ext.of_below A3) (λc fr hc=>by rw[eJ (qq _)] at hc;cases hc) (by omega));have Ae:=hid (HT.out.kept A3);have Af:=hid (HB.out.alloc Ay (z3b s.1 s.2));have Ag:=hid (Ax.out.alloc (by omega) (z3b s.1 s.2));clear A3;go_wp2_with fail;refine(ziR w2.heap.size _ _ _ s _ Ae.out).mono ?_;rintro e w3 ⟨rfl,q⟩;rw[AB.out,AC.out];have Bb:wr.heap.size+1<=w3.heap.size:=by have:=q.size;simpa using this
   have AJ:=hid (HX.out.kept q);have AK:=hid (AH.out.ext (T:=(wr.alloc (z3b s.1 s.2)).heap.size) (Ext.of_below q) (λc fr hc=>by rw[eJ (qq _)] at hc;cases hc) (by go_size));have AL:=hid (Ae.out.kept q);have AM:=hid (Af.out.trans (q.mono (by go_size)));have Ah:=hid (Ag.out.below q (by go_size));clear q;go_wp2_with fail;refine(zbG w1.heap.size n1 _ _ AK.out Ah.out (by omega) (by omega) A8.1 A8.2).mono ?_;rintro e w4 ⟨rfl,Ai,G⟩;have Bc:=G.below.size;have AO:=hid (AJ.out.wfr G (by omega));have AP:=hid Ai;have AQ:=hid (AL.out.wfr G (by omega));have AR:=hid (AM.out.trans (G.below.mono V));have Aj:=hid (Ah.out.below G.below (by omega));clear Ai G;go_wp2_with fail;refine(zbG w1.heap.size n2 _ _ AP.out Aj.out (by omega) (by omega) A9.1 A9.2).mono ?_;rintro e w5 ⟨rfl,Ak,J⟩;have Be:=J.below.size;have Al:=AO.out.wfr J (by omega);obtain⟨x0,x1⟩:=Al.cells;have AU:=hid Ak;have Am:=hid (AQ.out.wfr J (by omega));have AV:=hid (AR.out.trans (J.below.mono V));have AW:=hid (Aj.out.below J.below (by omega));clear Ak J Al;go_wp2_with fail;refine(zct w2.heap.size _ _ _ s _ Am.out).mono ?_;rintro e w6 ⟨rfl,Ao,Y⟩;have AX:=hid (AU.out.ext Y Am.out.znI (by omega));have AY:=hid Ao;have AZ:=hid (AV.out.trans (Y.below (by omega) (by omega)));have B0:=hid (AW.out.below (Y.below (C:=w.heap.size) (by omega) (by omega)) hG);clear Ao Y;go_wp2_with fail;go_roundw
   case rel=>
    refine⟨k+1,by omega,by go_num,?_,?_,AZ.out,B0.out⟩
    .rw[AD.out,qT];unfold CL.zbV;rw[AF.out,AG.out];have:=AX.out;simpa [qm] using this
    .have:=AY.out;rw[HSt.out] at this;rw[<-HA.out];simpa using this
   case measure=>simp[intOf];omega
  .have he:k=l.length:=by omega
   subst he;go_wp2_with fail;refine(zet w1.heap.size _ _ HV.out).mono ?_;rintro e w3 ⟨rfl,rfl⟩;go_wp2_with fail;go_ret2;exact⟨rfl,HB.out⟩
end
section
open Go.RowKit
theorem zeW {a b:ByteArray}(h:a=b):yN (.string a)= .returned (.string b):=by rw[h]
theorem z0k {B:Nat}{a w:World}(h:Below B a w)(n:Nat):Below B a (w.drewN n):=⟨h.os,h.tape,h.output,h.size,h.block⟩
theorem z2L {w w':World}{q n G:Nat}{e:TypeId}{v:Value}{xs:List Value}(h:w.ownsRow q e G v n xs)(J:w'.heap=w.heap):w'.ownsRow q e G v n xs:=by
 unfold World.ownsRow at h ⊢;rw[J];exact h
def z1w (w:World)(h:Option Addr)(l:List LB.Lab):Prop:=
 ∀i,i<l.length->∃b off,h=some ⟨b,off,none⟩/\w.cell? ⟨b,off+i*2,none⟩=some (.string (LB.at' l i).1)/\w.cell? ⟨b,off+i*2+1,none⟩=some (.string (LB.at' l i).2)/\b<w.heap.size
theorem z1w.below {w w':World}{G:Option Addr}{l:List LB.Lab}(h:z1w w G l)(hb:Below w.heap.size w w'):z1w w' G l:=by
 intro i hi;obtain⟨b,off,J,O,U,q⟩:=h i hi;exact⟨b,off,J,(hb.cell (p:=⟨b,_,none⟩) q).trans O,(hb.cell (p:=⟨b,_,none⟩) q).trans U,qe q hb.size⟩
def z3s (w:World)(h:Option Addr)(m:List LB.Mat):Prop:=
 ∀i,i<m.length->∃b off,h=some ⟨b,off,none⟩/\w.cell? ⟨b,off+i*3,none⟩=some (.string (LB.am m i).nm)/\w.cell? ⟨b,off+i*3+1,none⟩=some (.int .i64 (LB.am m i).op)/\w.cell? ⟨b,off+i*3+2,none⟩=some (.string (LB.am m i).vl)/\b<w.heap.size
theorem z3s.below {w w':World}{G:Option Addr}{l:List LB.Mat}(h:z3s w G l)(hb:Below w.heap.size w w'):z3s w' G l:=by
 intro i hi;obtain⟨b,off,J,O,U,V,q⟩:=h i hi;exact⟨b,off,J,(hb.cell (p:=⟨b,_,none⟩) q).trans O,(hb.cell (p:=⟨b,_,none⟩) q).trans U,(hb.cell (p:=⟨b,_,none⟩) q).trans V,qe q hb.size⟩
def zhR (w:World)(h:Option Addr)(n:List ByteArray):Prop:=
 ∀i,i<n.length->∃b off,h=some ⟨b,off,none⟩/\w.cell? ⟨b,off+i,none⟩=some (.string (LB.an n i))/\b<w.heap.size
theorem zhR.below {w w':World}{q:Option Addr}{l:List ByteArray}(h:zhR w q l)(hb:Below w.heap.size w w'):zhR w' q l:=by
 intro i hi;obtain⟨b,off,J,O,G⟩:=h i hi;exact⟨b,off,J,(hb.cell (p:=⟨b,_,none⟩) G).trans O,qe G hb.size⟩
def lv (l:List LB.Lab):List Value:=l.flatMap λs=>[.string s.1,.string s.2]
theorem zgG (a b:List LB.Lab):lv (a++b)=lv a++lv b:=by simp[lv]
theorem zaW (l:List LB.Lab):(lv l).length=l.length*2:=by
 induction l with
 | nil=>rfl
 | cons s l ih=>simp only[lv,rU,q8,qf,qO] at ih ⊢;omega
theorem zhi (l:List LB.Lab):∀i,i<l.length->(lv l)[i*2]? =some (.string (LB.at' l i).1)/\(lv l)[i*2+1]? =some (.string (LB.at' l i).2):=by
 induction l with
 | nil=>intro i hi;simp at hi
 | cons s l ih=>
  intro i hi
  match i with
  | 0=>exact⟨rfl,rfl⟩
  | i+1=>
   obtain⟨h,q⟩:=ih i (by simpa using hi);have e:lv (s::l)= .string s.1:: .string s.2::lv l:=rfl;have G:(i+1)*2=i*2+2:=by omega
   rw[e,G,LB.z1n];exact⟨h,q⟩
theorem z1w.z08 {w:World}{q:Nat}{v:Value}{l:List LB.Lab}(h:w.ownsRow q 107 2 v l.length (lv l)):∃ao cap,v= .slice ao l.length cap/\z1w w ao l:=by
 have G:=h.lt;have h0:=h;obtain⟨V,J⟩:=h;rcases J with⟨rfl,O⟩|⟨g,cap,U,rfl,Y,hh,r⟩
 .refine⟨none,0,by rw[O],λi hi=>by omega⟩
 .refine⟨some ⟨g,0,none⟩,cap,rfl,λi hi=>⟨g,0,rfl,?_,?_,(G g rfl).2⟩⟩
  .rw[qT,h0.cellAt (i*2) (by omega)];exact(zhi l i hi).1
  .rw[qT,h0.cellAt (i*2+1) (by omega)];exact(zhi l i hi).2
end
section
open Go.RowKit
def sb (l:List UInt8):ByteArray:=⟨l.toArray⟩
theorem z1b (l:List UInt8):(sb l).size=l.length:=by show l.toArray.size=_;simp
theorem z5f (l:List UInt8):(sb l).data.toList=l:=by simp[sb]
theorem zdZ (s:ByteArray):sb s.data.toList=s:=by cases s;simp[sb]
theorem z4A (a b:List UInt8):sb a++sb b=sb (a++b):=by
 have h:∀x y:ByteArray,x.data.toList=y.data.toList->x=y:=λx y h=>by
  cases x;cases y;simp at h;rw[h]
 apply h;simp[sb]
theorem z7h (w:World)(b o:Nat)(u:Value):w.grownBy (w.setCell ⟨b,o,none⟩ u) (some b):=⟨rfl,rfl,rfl,by simp,λk _ h=>Below.heap_setCell w ⟨b,o,none⟩ u k (λe=>h (by rw[e]))⟩
def tN (S:List UInt8)(bad:Bool):Int×List UInt8×Bool:=if bad then(0,S,true) else match CD.rN S with
 | none=>(0,S,true)
 | some (n,r)=>(n,r,false)
theorem zlI (S:List UInt8)(k:Nat)(_h:k<=S.length):(sb S).extract k (sb S).size=sb (S.drop k):=by
 have q:∀x y:ByteArray,x.data.toList=y.data.toList->x=y:=λx y h=>by
  cases x;cases y;simp at h;rw[h]
 apply q;rw[wA,wB,rb,z5f,z5f,z1b,qL (by rw[wI];omega)]
theorem zkS (S:List UInt8)(k:Nat):(sb S).extract 0 k=sb (S.take k):=by
 have q:∀x y:ByteArray,x.data.toList=y.data.toList->x=y:=λx y h=>by
  cases x;cases y;simp at h;rw[h]
 apply q;rw[wA,wB,rb,z5f,z5f,List.drop_zero,Nat.sub_zero]
theorem zlE (S:List UInt8)(i:Nat)(h:i<S.length):CD.v8 (S.take (i+1))=CD.v8 (S.take i)*256+(S[i]'h).toNat:=by
 have e:S.take (i+1)=S.take i++[S[i]'h]:=by rw[List.take_add_one,qw h];rfl
 rw[e];unfold CD.v8;rw[iG];rfl
theorem zjc (S:List UInt8)(i:Nat)(h:i<S.length)(W:World):(Instr.index 9 (.string (sb S)) (.int .i64 (i:Int))).run q6 W= .ok (.int .u8 ((S[i]'h).toNat:Int)) W:=by
 have q:=z1b S;rw[run_index_string W 9 (sb S) .i64 (i:Int) underlying9,dif_pos ⟨by omega,by omega⟩]
 congr 3
def tT (S:List UInt8)(bad:Bool):List UInt8×List UInt8×Bool:=
 if(tN S bad).2.2=false/\0<=(tN S bad).1/\(tN S bad).1<=(tN S bad).2.1.length then((tN S bad).2.1.take (tN S bad).1.toNat,(tN S bad).2.1.drop (tN S bad).1.toNat,false) else([],(tN S bad).2.1,true)
theorem zk7 (S:List UInt8)(bad:Bool):(tN S bad).2.1.length<=S.length:=by
 unfold tN;split
 .exact qq _
 .split
  .exact qq _
  .rename_i n r h;unfold CD.rN at h;split at h
   .cases h
   .simp only[qR,eT] at h;rw[<-h.2];show(S.drop 8).length<=_;rw[wI];omega
theorem zcl (S:List UInt8):tN S true=(0,S,true):=by unfold tN;rw[if_pos rfl]
theorem zbU {S:List UInt8}(h:CD.rN S=none):tN S false=(0,S,true):=by unfold tN;rw[if_neg (by decide),h]
theorem z90 {S r:List UInt8}{n:Int}(h:CD.rN S=some (n,r)):tN S false=(n,r,false):=by unfold tN;rw[if_neg (by decide),h]
theorem zay {S r:List UInt8}{n:Int}(h:CD.rN S=some (n,r)):S.length=8+r.length:=by
 obtain⟨e,_⟩:=CD.z7U h;rw[e,q8,CD.z06]
theorem zmA (S:List UInt8):tT S true=([],S,true):=by
 unfold tT;rw[zcl,if_neg (by rintro⟨h,_⟩;cases h)]
theorem zkp {S t r:List UInt8}(h:CD.rT S=some (t,r)):tT S false=(t,r,false):=by
 unfold CD.rT at h;unfold tT;split at h
 .cases h
 .rename_i n G q;rw[z90 q];split at h
  .rename_i hc;simp only[qR,eT] at h;rw[if_pos ⟨rfl,hc.1,hc.2⟩];dsimp only;rw[h.1,h.2]
  .cases h
theorem zl9 {S:List UInt8}(h:CD.rT S=none):∃S',tT S false=([],S',true)/\S'.length<=S.length:=by
 unfold CD.rT at h;unfold tT;split at h
 .rename_i q;rw[zbU q,if_neg (by rintro⟨h,_⟩;cases h)];exact⟨S,rfl,qq _⟩
 .rename_i n G q;rw[z90 q];have O:=zay q;split at h
  .cases h
  .rename_i J;rw[if_neg (λh2=>J ⟨h2.2.1,h2.2.2⟩)];exact⟨G,rfl,by omega⟩
end
def zmz (l:List LB.Lab):Prop:=∀i,i<l.length->(LB.at' l i).1.size<=2000/\(LB.at' l i).2.size<=2000
end Go.Proofs.YtemeblgngidldaaGreatDoor
