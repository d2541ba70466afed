/- Several texts, one behind the other; each says by itself what it proves, and on what conditions. -/
import Derived.Test.YtdbbcngolcnniaaGreatDoorY01
import Derived.IntWalk
import Derived.Laws.Strings
import Derived.Laws.MakeOwn
import Derived.Laws.IdiomStrings
import Derived.Laws.BytesArg
import Derived.Maps.AppendAt
/- The operations on values: arithmetic, comparisons, texts. No condition. -/
namespace Go.Proofs.YtdbbcngolcnniaaGreatDoor.E
open Go Go.RowKit
set_option linter.unusedVariables false
set_option linter.unusedSimpArgs false
def lb (s : ByteArray) : List UInt8 := s.data.toList
def bl (l : List UInt8) : ByteArray := ⟨l.toArray⟩
theorem bl_lb (s : ByteArray) : bl (lb s) = s := rfl
abbrev VR := Option (List Prop × Value)
def inI (n : Int) : Prop := -9223372036854775808 ≤ n ∧ n ≤ 9223372036854775807
def wrapV (k : IntKind) (n : Int) : VR :=
 match k with
 | .i64 => some ([inI n], .int .i64 n)
 | k => some ([], .int k (k.wrap n))
theorem wrapV_ok {k : IntKind} {n : Int} {ob : List Prop} {v : Value} (h : wrapV k n = some (ob, v)) (ho : all ob) : v = .int k (k.wrap n) := by
 unfold wrapV at h
 split at h
 ·cases h; rw [IntWalk.i64_in n ho.1]
 ·cases h; rfl
def binI (op : BinOp) (k : IntKind) (a b : Int) : VR :=
 match op with
 | .add => wrapV k (a + b)
 | .sub => wrapV k (a - b)
 | .mul => wrapV k (a * b)
 | .quo => some ([0 ≤ a ∧ 0 < b, k.wrap (a / b) = a / b], .int k (a / b))
 | .rem => some ([0 ≤ a ∧ 0 < b], .int k (a % b))
 | .and => some ([], .int k (bits .and k a b))
 | .or => some ([], .int k (bits .or k a b))
 | .xor => some ([], .int k (bits .xor k a b))
 | .andNot => some ([], .int k (bits .andNot k a b))
 | .eql => some ([], .bool (a == b))
 | .neq => some ([], .bool (a != b))
 | .lss => some ([], .bool (decide (a < b)))
 | .leq => some ([], .bool (decide (a ≤ b)))
 | .gtr => some ([], .bool (decide (a > b)))
 | .geq => some ([], .bool (decide (a ≥ b)))
 | _ => none
def shI (op : BinOp) (k : IntKind) (a : Int) (yk : IntKind) (b : Int) : VR :=
 match op with
 | .shl => some ([0 ≤ b ∧ b ≤ k.bits], .int k (k.wrap (a * 2 ^ b.toNat)))
 | .shr => some ([0 ≤ b ∧ b ≤ k.bits], .int k (a / 2 ^ b.toNat))
 | _ => none
def strV (op : BinOp) (a b : ByteArray) : VR :=
 match op with
 | .add => some ([((lb a).length : Int) + (lb b).length ≤ 9223372036854775807], .string (bl (lb a ++ lb b)))
 | .eql => some ([], .bool (lb a == lb b))
 | .neq => some ([], .bool !(lb a == lb b))
 | .lss => some ([], .bool (Op.bytesLess (lb a) (lb b)))
 | .leq => some ([], .bool (Op.bytesLess (lb a) (lb b) || lb a == lb b))
 | .gtr => some ([], .bool !(Op.bytesLess (lb a) (lb b) || lb a == lb b))
 | .geq => some ([], .bool !(Op.bytesLess (lb a) (lb b)))
 | _ => none
def binV (op : BinOp) (a b : Value) : VR :=
 match a, b with
 | .int k x, .int k2 y => match shI op k x k2 y with
  | some r => some r
  | none => if k = k2 then binI op k x y else none
 | .string x, .string y => strV op x y
 | _, _ => none
theorem run_eqGuard_int (op : BinOp) (t : TypeId) (x y : Operand) (k k2 : IntKind) (a b : Int) (P : Program) (w : World) : (eqGuard op t x y (.int k a) (.int k2 b)).run P w = .ok () w := by
 unfold eqGuard
 cases op <;> simp
theorem run_eqGuard_str (op : BinOp) (t : TypeId) (x y : Operand) (a b : ByteArray) (P : Program) (w : World) : (eqGuard op t x y (.string a) (.string b)).run P w = .ok () w := by
 unfold eqGuard
 cases op <;> simp
theorem binI_ok {op : BinOp} {t : TypeId} {k : IntKind} {a b : Int} {P : Program} {w : World} {ob : List Prop} {v : Value} (h : binI op k a b = some (ob, v)) (ho : all ob) : (binOp op t (.int k a) (.int k b)).run P w = .ok v w ∧ v.oneCell' = true := by
 have hw : ∀ n, wrapV k n = some (ob, v) → v = .int k (k.wrap n) := fun n h => wrapV_ok h ho
 cases op
 case add => rw [hw _ h]; exact ⟨by simp [binOp, Op.intArith], rfl⟩
 case sub => rw [hw _ h]; exact ⟨by simp [binOp, Op.intArith], rfl⟩
 case mul => rw [hw _ h]; exact ⟨by simp [binOp, Op.intArith], rfl⟩
 case quo =>
  cases h
  obtain ⟨⟨h1, h2⟩, h3, -⟩ := ho
  refine ⟨?_, rfl⟩
  rw [binOp_quo]
  simp only [Op.intDiv, if_neg (show ¬ b = 0 by omega)]
  rw [Int.tdiv_eq_ediv_of_nonneg h1, h3]; rfl
 case rem =>
  cases h
  obtain ⟨⟨h1, h2⟩, -⟩ := ho
  refine ⟨?_, rfl⟩
  rw [binOp_rem]
  simp only [Op.intDiv, if_neg (show ¬ b = 0 by omega)]
  rw [Int.tmod_eq_emod_of_nonneg h1]; rfl
 case shl => cases h
 case shr => cases h
 all_goals (cases h; exact ⟨by simp [binOp, Op.intCmp, intBits_and, intBits_or, intBits_xor, intBits_andNot], rfl⟩)
theorem shI_ok {op : BinOp} {t : TypeId} {k yk : IntKind} {a b : Int} {P : Program} {w : World} {ob : List Prop} {v : Value} (h : shI op k a yk b = some (ob, v)) (ho : all ob) : (binOp op t (.int k a) (.int yk b)).run P w = .ok v w ∧ v.oneCell' = true := by
 unfold shI at h
 split at h
 ·cases h; rw [binOp_shl, shift_shl k yk a b ho.1.1 ho.1.2]; exact ⟨rfl, rfl⟩
 ·cases h; rw [binOp_shr, shift_shr k yk a b ho.1.1 ho.1.2]; exact ⟨rfl, rfl⟩
 ·cases h
theorem size_lb (s : ByteArray) : s.size = (lb s).length := rfl
theorem append_bl (a b : ByteArray) : a ++ b = bl (lb a ++ lb b) := by
 apply ByteArray.ext
 rw [ByteArray.data_append]
 apply Array.ext'
 simp [bl, lb]
theorem strV_ok {op : BinOp} {t : TypeId} {a b : ByteArray} {P : Program} {w : World} {ob : List Prop} {v : Value} (h : strV op a b = some (ob, v)) (ho : all ob) : (binOp op t (.string a) (.string b)).run P w = .ok v w ∧ v.oneCell' = true := by
 unfold strV at h
 split at h
 case h_1 =>
  cases h
  refine ⟨?_, rfl⟩
  rw [binOp_string_add]
  have h1 : ((lb a).length : Int) + (lb b).length ≤ 9223372036854775807 := ho.1
  have : ¬ ((a.size + b.size : Nat) : Int) > IntKind.i64.max := by
   rw [size_lb, size_lb]
   have e : IntKind.i64.max = 9223372036854775807 := rfl
   rw [e]; omega
  simp only [Op.stringOp, if_neg this]
  rw [append_bl]; rfl
 all_goals (cases h <;> exact ⟨by simp [binOp, Op.stringOp, ByteArray.toList_eq, lb], rfl⟩)
theorem binV_ok {op : BinOp} {t : TypeId} {x y : Operand} {a b : Value} {P : Program} {w : World} {ob : List Prop} {v : Value} (h : binV op a b = some (ob, v)) (ho : all ob) :
  (do eqGuard op t x y a b; binOp op t a b).run P w = .ok v w ∧ v.oneCell' = true := by
 unfold binV at h
 split at h
 ·rename_i k p k2 q
  rw [Sem.run_bind, run_eqGuard_int]
  simp only [Result.andThen_ok]
  cases hs : shI op k p k2 q with
  | some r => rw [hs] at h; cases h; exact shI_ok hs ho
  | none =>
   rw [hs] at h
   simp only at h
   split at h
   ·rename_i e; subst e; exact binI_ok h ho
   ·cases h
 ·rw [Sem.run_bind, run_eqGuard_str]
  exact strV_ok h ho
 ·cases h
def unV (op : UnOp) (a : Value) : VR :=
 match op, a with
 | .neg, .int k n => wrapV k (0 - n)
 | .xor, .int k n => some ([], .int k (bits .xor k (if k.signed then -1 else k.max) n))
 | .not, .bool b => some ([], .bool !b)
 | _, _ => none
theorem unV_ok {op : UnOp} {a : Value} {P : Program} {w : World} {ob : List Prop} {v : Value} (h : unV op a = some (ob, v)) (ho : all ob) : (Op.unary op a).run P w = .ok v w ∧ v.oneCell' = true := by
 unfold unV at h
 split at h
 ·rw [wrapV_ok h ho]; exact ⟨rfl, rfl⟩
 ·cases h; exact ⟨rfl, rfl⟩
 ·cases h; exact ⟨rfl, rfl⟩
 ·cases h
def widens (s d : IntKind) : Bool :=
 match s, d with
 | .u8, .i64 | .u8, .u64 | .u8, .u32 | .u32, .u64 | .u32, .i64 | .i32, .i64 | .u16, .u32 | .u8, .u16 | .u16, .u64 | .u16, .i64 => true
 | .i64, .i64 | .u64, .u64 | .u8, .u8 | .u32, .u32 | .i32, .i32 => true
 | _, _ => false
def convV (P : Program) (src dst : TypeId) (a : Value) : VR :=
 match P.underlying src, P.underlying dst, a with
 | some _, some (.int k), .int s n => bif widens s k then some ([k.wrap n = n], .int k n) else some ([], .int k (k.wrap n))
 | some .string, some .string, .string s => some ([], .string s)
 | _, _, _ => none
theorem convV_ok {P : Program} {src dst : TypeId} {a : Value} {w : World} {ob : List Prop} {v : Value} (h : convV P src dst a = some (ob, v)) (ho : all ob) : (convert src dst a).run P w = .ok v w ∧ v.oneCell' = true := by
 unfold convV at h
 split at h
 ·rename_i d k s n h1 h2
  have hr : (convert src dst (.int s n)).run P w = .ok (.int k (k.wrap n)) w := by simp [convert, run_underlying h1, run_underlying h2, Conv.intToInt]
  cases hw : widens s k with
  | true => rw [hw] at h; cases h; rw [hr, ho.1]; exact ⟨rfl, rfl⟩
  | false => rw [hw] at h; cases h; exact ⟨hr, rfl⟩
 ·rename_i s h1 h2
  cases h
  exact ⟨by simp [convert, run_underlying h1, run_underlying h2], rfl⟩
 ·cases h
def idxStr (P : Program) (t : TypeId) (s : ByteArray) (n : Int) : VR :=
 match P.underlying t with
 | some .string => some ([0 ≤ n ∧ n < (lb s).length], .int .u8 (((lb s).getD n.toNat 0).toNat : Int))
 | _ => none
theorem idxStr_ok {P : Program} {t : TypeId} {s : ByteArray} {k : IntKind} {n : Int} {w : World} {ob : List Prop} {v : Value} (h : idxStr P t s n = some (ob, v)) (ho : all ob) : (Instr.index t (.string s) (.int k n)).run P w = .ok v w ∧ v.oneCell' = true := by
 unfold idxStr at h
 split at h
 ·rename_i h1
  cases h
  obtain ⟨⟨h2, h3⟩, -⟩ := ho
  rw [← size_lb] at h3
  refine ⟨?_, rfl⟩
  rw [run_index_string w t s k n h1, dif_pos ⟨h2, h3⟩]
  congr 4
  have : n.toNat < (lb s).length := by rw [← size_lb]; omega
  rw [List.getD_eq_getElem?_getD, List.getElem?_eq_getElem this]
  rfl
 ·cases h
def sliStr (P : Program) (t : TypeId) (s : ByteArray) (lo hi : Option Int) : VR :=
 match P.underlying t, lo, hi with
 | some .string, none, none => some ([], .string s)
 | some .string, some l, none => some ([0 ≤ l ∧ l ≤ (lb s).length], .string (bl ((lb s).drop l.toNat)))
 | some .string, none, some h => some ([0 ≤ h ∧ h ≤ (lb s).length], .string (bl ((lb s).take h.toNat)))
 | some .string, some l, some h => some ([0 ≤ h ∧ h ≤ (lb s).length, 0 ≤ l ∧ l ≤ h], .string (bl (((lb s).take h.toNat).drop l.toNat)))
 | _, _, _ => none
theorem extract_bl (s : ByteArray) (l h : Nat) : s.extract l h = bl (((lb s).take h).drop l) := by
 apply ByteArray.ext
 rw [ByteArray.data_extract]
 apply Array.ext'
 simp [bl, lb, List.extract, List.drop_take]
theorem run_sliceBound {k : IntKind} {i : Int} {y : Nat} {c : BoundsCode} {P : Program} {w : World} (h : 0 ≤ i ∧ i ≤ y) : (Instr.sliceBound (.int k i) y c).run P w = .ok i.toNat w := by
 simp [Instr.sliceBound, asIntOf, h]
def iv (k : IntKind) : Option Int → Option Value → Prop
 | none, none => True
 | some n, some v => ∃ k, v = .int k n
 | _, _ => False
theorem sliStr_ok {P : Program} {t : TypeId} {s : ByteArray} {lo hi : Option Int} {vl vh : Option Value} (hl : iv .i64 lo vl) (hh : iv .i64 hi vh) {w : World} {ob : List Prop} {v : Value} (h : sliStr P t s lo hi = some (ob, v)) (ho : all ob) :
  (Instr.sliceAt t (.string s) vl vh none).run P w = .ok v w ∧ v.oneCell' = true := by
 have hu : P.underlying t = some .string := by
  unfold sliStr at h
  split at h <;> first | assumption | cases h
 have hred : (Instr.sliceAt t (.string s) vl vh none).run P w = (Instr.slice t (.string s) vl vh none).run P w := by
  simp [Instr.sliceAt, run_underlying hu]
 rw [hred]
 unfold sliStr at h
 rw [hu] at h
 cases lo with
 | none =>
  cases hi with
  | none =>
   cases vl with
   | some _ => cases hl
   | none =>
    cases vh with
    | some _ => cases hh
    | none =>
     cases h
     refine ⟨?_, rfl⟩
     simp only [Instr.slice, Sem.run_bind, run_underlying hu, Result.andThen_ok, Option.isSome, Instr.sliceBounds, Sem.run_pure, Bool.false_eq_true, if_false]
     rw [extract_bl, List.drop_zero, size_lb, List.take_length, bl_lb]
  | some n =>
   cases vl with
   | some _ => cases hl
   | none =>
    cases vh with
    | none => cases hh
    | some vh =>
     obtain ⟨k, rfl⟩ := hh
     cases h
     have := ho.1
     rw [← size_lb] at this
     refine ⟨?_, rfl⟩
     simp only [Instr.slice, Sem.run_bind, run_underlying hu, Result.andThen_ok, Option.isSome, Instr.sliceBounds, Sem.run_pure, Bool.false_eq_true, if_false, run_sliceBound this]
     rw [extract_bl, List.drop_zero]
 | some m =>
  cases vl with
  | none => cases hl
  | some vl =>
   obtain ⟨kl, rfl⟩ := hl
   cases hi with
   | none =>
    cases vh with
    | some _ => cases hh
    | none =>
     cases h
     have := ho.1
     rw [← size_lb] at this
     refine ⟨?_, rfl⟩
     simp only [Instr.slice, Sem.run_bind, run_underlying hu, Result.andThen_ok, Option.isSome, Instr.sliceBounds, Sem.run_pure, Bool.false_eq_true, if_false, run_sliceBound this]
     rw [extract_bl, size_lb, List.take_length]
   | some n =>
    cases vh with
    | none => cases hh
    | some vh =>
     obtain ⟨kh, rfl⟩ := hh
     cases h
     obtain ⟨h1, h2, -⟩ := ho
     rw [← size_lb] at h1
     refine ⟨?_, rfl⟩
     have h3 : 0 ≤ m ∧ m ≤ (n.toNat : Int) := by omega
     simp only [Instr.slice, Sem.run_bind, run_underlying hu, Result.andThen_ok, Option.isSome, Instr.sliceBounds, Sem.run_pure, Bool.false_eq_true, if_false, run_sliceBound h1, run_sliceBound h3]
     rw [extract_bl]
end Go.Proofs.YtdbbcngolcnniaaGreatDoor.E
/- What each operation does to a symbolic state, and that it does. No condition. -/
namespace Go.Proofs.YtdbbcngolcnniaaGreatDoor.E
open Go Go.RowKit
set_option linter.unusedVariables false
set_option linter.unusedSimpArgs false
def lay (P : Program) : Nat → TypeId → Option (List (Nat × Bool))
 | 0, _ => none
 | f + 1, t => match P.underlying t, P.info? t with
  | some (.struct fs), some _ => fs.toList.foldr (fun x acc => match lay P f x.type, acc with | some l, some m => some (l ++ m) | _, _ => none) (some [])
  | some (.array _ _), some i => some [(i.size, true)]
  | some _, some _ => some [(1, false)]
  | _, _ => none
def cutL : List (Nat × Bool) → List Value → Option (List Pc)
 | [], [] => some []
 | [], _ :: _ => none
 | (n, b) :: l, vs =>
  bif Nat.ble n vs.length && ((vs.take n).all Value.oneCell') then
   match cutL l (vs.drop n) with
   | some ps => bif b then some (.arr (vs.take n).toArray n :: ps) else some ((vs.take n).map (fun v => .one (.v v)) ++ ps)
   | none => none
  else none
theorem lst_ones (ρ : Env) (l : List Value) : lst ρ (l.map fun v => .one (.v v)) = l := by
 induction l with
 | nil => rfl
 | cons v l ih => rw [List.map_cons, lst_cons, ih]; rfl
theorem cutL_ok (ρ : Env) : ∀ {l : List (Nat × Bool)} {vs : List Value} {ps : List Pc}, cutL l vs = some ps → pok ps ∧ pids ps = [] ∧ lst ρ ps = vs
 | [], [], _, h => by cases h; exact ⟨(fun _ h => by cases h), rfl, rfl⟩
 | [], _ :: _, _, h => by cases h
 | (n, b) :: l, vs, ps, h => by
  unfold cutL at h
  cases hc : (Nat.ble n vs.length && ((vs.take n).all Value.oneCell')) with
  | false => rw [hc] at h; cases h
  | true =>
   rw [hc] at h
   rw [Bool.and_eq_true, List.all_eq_true] at hc
   have hn := Nat.le_of_ble_eq_true hc.1
   cases hr : cutL l (vs.drop n) with
   | none => rw [hr] at h; cases h
   | some qs =>
    rw [hr] at h
    obtain ⟨h1, h2, h3⟩ := cutL_ok ρ hr
    cases b with
    | true =>
     cases h
     refine ⟨pok_cons.2 ⟨⟨by simp; omega, fun v hv => hc.2 v (by simpa using hv)⟩, h1⟩, h2, ?_⟩
     rw [lst_cons, h3]
     exact List.take_append_drop n vs
    | false =>
     cases h
     refine ⟨fun p hp => ?_, ?_, ?_⟩
     ·rcases List.mem_append.1 hp with hp | hp
      ·obtain ⟨v, hv, rfl⟩ := List.mem_map.1 hp
       exact hc.2 v hv
      ·exact h1 p hp
     ·rw [pids_append, h2, List.append_nil]
      generalize vs.take n = m
      induction m with
      | nil => rfl
      | cons v m ih => rw [List.map_cons, pids_cons, ih]; rfl
     ·rw [lst_append, lst_ones, h3]
      exact List.take_append_drop n vs
def zpc (P : Program) (t : TypeId) : Option (List Pc) :=
 match P.info? t, lay P 16 t with
 | some i, some l => match i.zero with
  | some z => cutL l z.cells.toList
  | none => none
 | _, _ => none
def ptrTo (id : Nat) : TV := .s (.lf (.ptr id 0 0 0 0))
def fieldOff (P : Program) (t : TypeId) (f : Nat) : Option Nat :=
 match P.underlying t with
 | some (.struct fs) => match fs[f]? with
  | some x => match P.info? x.type with
   | some i => bif Nat.beq i.size 0 then none else some x.offset
   | none => none
  | none => none
 | _ => none
def addJ (r b i k j o : Nat) : Lf := bif Nat.beq k 0 then .ptr r (b + o) i k j else .ptr r b i k (j + o)
theorem addJ_val (ρ : Env) (r b i k j o : Nat) : (addJ r b i k j o).val ρ = .pointer (some ⟨(ρ r).1, (ρ r).2 + (b + i * k + j) + o, none⟩) := by
 unfold addJ
 cases hk : Nat.beq k 0 with
 | true => simp only [cond_true, Lf.val]; congr 3; omega
 | false => simp only [cond_false, Lf.val]; congr 3; omega
theorem addJ_ok (r b i k j o : Nat) : (addJ r b i k j o).ok := by unfold addJ; cases Nat.beq k 0 <;> trivial
def addN (i q : Nat) : Nat := bif Nat.beq i 0 then q else i + q
theorem addN_eq (i q : Nat) : addN i q = i + q := by
 unfold addN
 cases hb : Nat.beq i 0 with
 | true => have := Nat.eq_of_beq_eq_true hb; subst this; simp
 | false => rfl
def elemAt (P : Program) (t : TypeId) (c : Bool) (x : Lf) (n : Int) : Option (List Prop × Lf) :=
 match P.underlying t, x with
 | some (.array len e), .ptr r b i k j => match P.info? e with
  | some ti => bif c then bif decide (0 ≤ n ∧ n < len) then some ([], addJ r b i k j (n.toNat * ti.size)) else none
   else bif Nat.beq k 0 then some ([0 ≤ n ∧ n < len], .ptr r (b + j) n.toNat ti.size 0)
   else some ([0 ≤ n ∧ n < len], .ptr r b (idx i k j + n.toNat * ti.size) 1 0)
  | none => none
 | some (.slice e), .sl r b i k len cap => match P.info? e with
  | some ti => bif Nat.beq ti.size k then some ([0 ≤ n ∧ n < len], .ptr r b (addN i n.toNat) k 0) else none
  | none => none
 | _, _ => none
theorem elemAt_ok {P : Program} {t : TypeId} {c : Bool} {x y : Lf} {n : Int} {kd : IntKind} {ρ : Env} {w : World} {ob : List Prop} (h : elemAt P t c x n = some (ob, y)) (ho : all ob) :
  (Instr.indexAt t (x.val ρ) (.int kd n)).run P w = .ok (y.val ρ) w ∧ y.ok := by
 unfold elemAt at h
 split at h
 ·rename_i len e r b i k j hu
  split at h
  ·rename_i ti hi
   have hrun : 0 ≤ n → n < len → (Instr.indexAt t (Lf.val ρ (.ptr r b i k j)) (.int kd n)).run P w = .ok (.pointer (some ⟨(ρ r).1, (ρ r).2 + (b + i * k + j) + n.toNat * ti.size, none⟩)) w := by
    intro h1 h2
    simp [Instr.indexAt, run_underlying hu, asIntOf, Lf.val, Instr.sureAddr, h1, h2, sizeOf, typeInfo, hi, addr_add]
   cases c with
   | true =>
    simp only [cond_true] at h
    cases hb : decide (0 ≤ n ∧ n < (len : Int)) with
    | false => rw [hb] at h; cases h
    | true =>
     rw [hb] at h
     cases h
     have hb := of_decide_eq_true hb
     rw [hrun hb.1 hb.2, addJ_val]
     exact ⟨rfl, addJ_ok ..⟩
   | false =>
    simp only [cond_false] at h
    cases hk : Nat.beq k 0 with
    | true =>
     rw [hk] at h
     cases h
     obtain rfl := Nat.eq_of_beq_eq_true hk
     rw [hrun ho.1.1 ho.1.2]
     refine ⟨?_, trivial⟩
     simp only [Lf.val]
     congr 4
     omega
    | false =>
     rw [hk] at h
     cases h
     rw [hrun ho.1.1 ho.1.2]
     refine ⟨?_, trivial⟩
     simp only [Lf.val, idx_eq]
     congr 4
     omega
  ·cases h
 ·rename_i e r b i k len cap hu
  split at h
  ·rename_i ti hi
   cases hk : Nat.beq ti.size k with
   | false => rw [hk] at h; cases h
   | true =>
    rw [hk] at h
    cases h
    have := Nat.eq_of_beq_eq_true hk
    subst this
    obtain ⟨⟨h1, h2⟩, -⟩ := ho
    refine ⟨?_, trivial⟩
    simp [Instr.indexAt, run_underlying hu, asIntOf, Lf.val, h1, h2, sizeOf, typeInfo, hi, addr_add]
    rw [addN_eq, Nat.add_mul]; omega
  ·cases h
 ·cases h
def sliLf (P : Program) (t : TypeId) (x : Lf) (lo hi : Option Int) : Option (List Prop × Lf) :=
 match P.underlying t, x with
 | some (.slice e), .sl r b i k len cap => match P.info? e with
  | some ti => bif Nat.beq ti.size k then
    match lo, hi with
    | none, none => some ([], .sl r b i k len cap)
    | none, some h => match cap with
     | some cap => some ([0 ≤ h ∧ h ≤ cap], .sl r b i k h.toNat (some cap))
     | none => none
    | some l, none => match cap with
     | some cap => some ([0 ≤ l ∧ l ≤ len, len ≤ cap], .sl r b (bif Nat.beq cap l.toNat then i else i + l.toNat) k (len - l.toNat) (some (cap - l.toNat)))
     | none => none
    | some l, some h => match cap with
     | some cap => some ([0 ≤ h ∧ h ≤ cap, 0 ≤ l ∧ l ≤ h], .sl r b (bif Nat.beq cap l.toNat then i else i + l.toNat) k (h.toNat - l.toNat) (some (cap - l.toNat)))
     | none => none
   else none
  | none => none
 | some (.array n e), .ptr r b i k j => match P.info? e, lo, hi with
  | some ti, none, none => bif Nat.beq k 0 then bif Nat.beq n 0 then none else some ([], .sl r (b + j) 0 ti.size n (some n)) else none
  | _, _, _ => none
 | _, _ => none
def cstI : Operand → Bool
 | .const (.int _ _) => true
 | _ => false
def intsOf : List TV → Option (List Int)
 | [] => some []
 | .s (.lf (.v (.int _ n))) :: l => match intsOf l with | some m => some (n :: m) | none => none
 | _ => none
def efVal (x : TV) : Option Eff := some ⟨[], x, [], []⟩
def efV (r : VR) : Option Eff := match r with
 | some (ob, v) => some ⟨ob, .v v, [], []⟩
 | none => none
def efLf (r : Option (List Prop × Lf)) : Option Eff := match r with
 | some (ob, v) => some ⟨ob, .s (.lf v), [], []⟩
 | none => none
def efLoad (P : Program) (t : TypeId) (args : List TV) (rw : Nat → Option Row) : Option Eff :=
 match args with
 | [.s (.lf (.ptr r b i k j))] => match rw r, tyI P t with
  | some row, some (sz, ag) => match getP row.ps b i k j sz ag with
   | some (ob, x) => some ⟨ob, .s x, [], []⟩
   | none => none
  | _, _ => none
 | _ => none
def efStore (P : Program) (t : TypeId) (args : List TV) (rw : Nat → Option Row) : Option Eff :=
 match args with
 | [.s (.lf (.ptr r b i k j)), .s x] => match rw r, tyI P t, x.pcs with
  | some row, some (sz, ag), some new => bif row.w && Nat.beq (sumS new) sz then
    match putP row.ps b i k j sz new with
    | some (ob, ps) => some ⟨ob, .s .un, [(r, ⟨ps, true, row.cp⟩)], []⟩
    | none => none
   else none
  | _, _, _ => none
 | _ => none
def efBox (id : Nat) (args : List TV) : Option Eff :=
 match args with
 | [.s x] => match x.pcs with
  | some ps => some ⟨[], ptrTo id, [(id, ⟨ps, true, none⟩)], []⟩
  | none => none
 | _ => none
def efCall (C : Hints) (id : Nat) (f : FuncId) (args : List TV) (rw : Nat → Option Row) : Option Eff :=
 match hC C id, args with
 | some c, _ :: args => bif Nat.beq c.f f then
   some ⟨(∀ ρ : Env, (args.map (TV.val ρ)).toArray = c.args ρ) :: c.pre.map (fun p => rw p.1 = some p.2), c.res, c.put ++ (c.made.map fun r => (id, r)).toList, c.dels⟩
  else none
 | none, _ :: args => match hX C id with
  | some (g, av, res) => bif Nat.beq g f then some ⟨[∀ ρ : Env, (args.map (TV.val ρ)).toArray = av], res, [], []⟩ else none
  | none => none
 | _, _ => none
def efLen (P : Program) (tys : Array TypeId) (args : List TV) : Option Eff :=
 match tys[0]? with
 | some t => match P.underlying t, args with
  | some .string, [.s (.lf (.v (.string s)))] => efVal (.int .i64 (lb s).length)
  | some (.slice _), [.s (.lf (.sl _ _ _ _ n _))] => efVal (.int .i64 n)
  | some (.slice _), [.s (.lf (.v (.slice _ n _)))] => efVal (.int .i64 n)
  | some (.array n _), [_] => efVal (.int .i64 n)
  | _, _ => none
 | none => none
def fldL (P : Program) : List Field → Option (List (Nat × Nat))
 | [] => some []
 | f :: l => match P.info? f.type, fldL P l with
  | some i, some m => some ((f.offset, i.size) :: m)
  | _, _ => none
def placeL (l : List (Nat × Nat)) (sz : Option Nat) (i : Nat) : Option (Nat × Nat) :=
 match sz with
 | some s => some (i * s, s)
 | none => l[i]?
def places (P : Program) (t : TypeId) : Option (List (Nat × Nat) × Option Nat) :=
 match P.underlying t with
 | some (.struct fs) => match fldL P fs.toList with
  | some l => some (l, none)
  | none => none
 | some (.array _ e) => match P.info? e with
  | some i => some ([], some i.size)
  | none => none
 | _ => none
def fillS (pl : Nat → Option (Nat × Nat)) : List Pc → List (Nat × Operand) → List TV → Option (List Prop × List Pc)
 | ps, [], [] => some ([], ps)
 | ps, (i, _) :: l, .s x :: m => match pl i, x.pcs with
  | some (off, sz), some new => bif Nat.beq (sumS new) sz then
    match putS ps off sz new with
    | some (o1, ps1) => match fillS pl ps1 l m with
     | some (o2, ps2) => some (o1 ++ o2, ps2)
     | none => none
    | none => none
   else none
  | _, _ => none
 | _, _, _ => none
def efBuild (P : Program) (t : TypeId) (parts : List (Nat × Operand)) (args : List TV) : Option Eff :=
 match zpc P t, places P t with
 | some ps, some (l, sz) => match fillS (placeL l sz) ps parts args with
  | some (ob, ps) => some ⟨ob, .s (.agg ps), [], []⟩
  | none => none
 | _, _ => none
theorem fold_set : ∀ (vs O X Y : List Value) (off k : Nat) (cs : Array Value), cs.toList = X ++ O ++ Y → O.length = vs.length → X.length = off + k →
  ((vs.zipIdx k).foldl (fun cs (x : Value × Nat) => cs.setIfInBounds (off + x.2) x.1) cs).toList = X ++ vs ++ Y
 | [], O, X, Y, off, k, cs, h, h1, _ => by
  have : O = [] := List.length_eq_zero_iff.1 h1
  subst this
  simpa using h
 | v :: vs, [], X, Y, off, k, cs, h, h1, _ => by cases h1
 | v :: vs, o :: O, X, Y, off, k, cs, h, h1, h2 => by
  rw [List.zipIdx_cons, List.foldl_cons]
  have := fold_set vs O (X ++ [v]) Y off (k + 1) (cs.setIfInBounds (off + k) v) (by
   rw [Array.toList_setIfInBounds, h, ← h2, List.append_assoc, List.set_append_right _ _ (Nat.le_refl _), Nat.sub_self]
   simp) (by simpa using h1) (by simp; omega)
  rw [this]
  simp
theorem run_fields {P : Program} {w : World} : ∀ {fs : List Field} {l : List (Nat × Nat)}, fldL P fs = some l → (fs.mapM fun (f : Field) => do pure (f.offset, ← sizeOf f.type)).run P w = .ok l w
 | [], l, h => by cases h; rfl
 | f :: fs, l, h => by
  unfold fldL at h
  split at h
  ·rename_i i m h1 h2
   cases h
   have h3 : (do pure (f.offset, ← sizeOf f.type) : Sem (Nat × Nat)).run P w = .ok (f.offset, i.size) w := by simp [sizeOf, typeInfo, h1]
   rw [List.mapM_cons, Sem.run_bind, h3, Result.andThen_ok, Sem.run_bind, run_fields h2]
   rfl
  ·cases h
theorem fillS_ok (ρ : Env) {pl : Nat → Option (Nat × Nat)} : ∀ {ps : List Pc} {parts : List (Nat × Operand)} {args : List TV} {ob : List Prop} {ps' : List Pc} {cs : Array Value} {ev : Operand → Value},
  pok ps → fillS pl ps parts args = some (ob, ps') → all ob → (∀ x ∈ args, x.ok) → parts.map (fun p => ev p.2) = args.map (TV.val ρ) → cs.toList = lst ρ ps →
  ∃ cs', Instr.fill pl cs (parts.map fun p => (p.1, ev p.2)) = some cs' ∧ cs'.toList = lst ρ ps' ∧ pok ps'
 | ps, [], [], ob, ps', cs, ev, hp, h, ho, hok, hv, hc => by cases h; exact ⟨cs, rfl, hc, hp⟩
 | ps, [], _ :: _, ob, ps', cs, ev, hp, h, ho, hok, hv, hc => by cases h
 | ps, _ :: _, [], ob, ps', cs, ev, hp, h, ho, hok, hv, hc => by cases h
 | ps, (i, x) :: l, .tup _ :: m, ob, ps', cs, ev, hp, h, ho, hok, hv, hc => by cases h
 | ps, (i, x) :: l, .s y :: m, ob, ps', cs, ev, hp, h, ho, hok, hv, hc => by
  unfold fillS at h
  split at h
  ·rename_i off sz new h1 h2
   cases hb : Nat.beq (sumS new) sz with
   | false => rw [hb] at h; cases h
   | true =>
    rw [hb] at h
    simp only [cond_true] at h
    split at h
    ·rename_i o1 ps1 h3
     split at h
     ·rename_i o2 ps2 h4
      cases h
      obtain ⟨ho1, ho2⟩ := all_append.1 ho
      obtain ⟨g1, g2, g3⟩ := pcs_ok (ρ := ρ) h2 (hok (.s y) (by simp))
      have hl : (lst ρ new).length = sz := by rw [sumS_ok ρ g1]; exact Nat.eq_of_beq_eq_true hb
      have hput := putS_ok (ρ := ρ) g1 hl hp h3 ho1
      simp only [List.map_cons, List.cons.injEq] at hv
      obtain ⟨hv1, hv2⟩ := hv
      have hcl : (ev x).cells.toList = lst ρ new := by rw [hv1]; exact g2
      obtain ⟨X, O, Y, e1, e2, e3, e4⟩ := hput.repl
      have hsz : (ev x).cells.size = sz := by rw [← Array.length_toList, hcl, hl]
      have hfit : off + sz ≤ cs.size := by rw [← Array.length_toList, hc, e1]; simp; omega
      have hstep : ((ev x).cells.zipIdx.foldl (fun cs (z : Value × Nat) => cs.setIfInBounds (off + z.2) z.1) cs).toList = lst ρ ps1 := by
       rw [← Array.foldl_toList, Array.toList_zipIdx, hcl, fold_set _ O X Y _ _ _ (by rw [hc, e1]) e2 (by rw [e4]; rfl), e3]
      obtain ⟨cs', k1, k2, k3⟩ := fillS_ok ρ (ev := ev) hput.ok h4 ho2 (fun z hz => hok z (by simp [hz])) hv2 hstep
      refine ⟨cs', ?_, k2, k3⟩
      simp only [List.map_cons, Instr.fill, h1]
      rw [if_neg (by simp [hsz]; omega)]
      exact k1
     ·cases h
    ·cases h
  ·cases h
end Go.Proofs.YtdbbcngolcnniaaGreatDoor.E
/- Slices: made, built, grown; bytes and texts. No condition. -/
namespace Go.Proofs.YtdbbcngolcnniaaGreatDoor.E
open Go Go.RowKit
set_option linter.unusedVariables false
set_option linter.unusedSimpArgs false
theorem flat_get {f : Nat → List Value} {k : Nat} (hk : 0 < k) : ∀ (n : Nat), (∀ i, i < n → (f i).length = k) → ∀ j, j < n * k → ((List.range n).flatMap f)[j]? = (f (j / k))[j % k]? := by
 intro n h j hj
 have hd : j / k < n := Nat.div_lt_of_lt_mul (by rw [Nat.mul_comm]; exact hj)
 obtain ⟨X, Y, h1, h2⟩ := flat_split n (j / k) hd h
 rw [h1, List.append_assoc, List.getElem?_append_right (by rw [h2]; exact Nat.div_mul_le_self j k), h2]
 have hm : j - j / k * k = j % k := by have := Nat.div_add_mod j k; rw [Nat.mul_comm] at this; omega
 rw [hm, List.getElem?_append_left (by rw [h _ hd]; exact Nat.mod_lt _ hk)]
theorem flat_len {f : Nat → List Value} {k : Nat} : ∀ (n : Nat), (∀ i, i < n → (f i).length = k) → ((List.range n).flatMap f).length = n * k := by
 intro n
 induction n with
 | zero => intro _; simp
 | succ m ih =>
  intro h
  rw [List.range_succ, List.flatMap_append, List.length_append, ih (fun i hi => h i (by omega))]
  simp [h m (by omega), Nat.succ_mul]
theorem lst_fnc (ρ : Env) (f : Nat → List Value) (k n : Nat) : lst ρ [.fnc f k n] = (List.range n).flatMap f := by simp [lst, Pc.arrV]
def elemI (P : Program) (t : TypeId) : Option (TypeId × Nat × Nat × List Value) :=
 match P.underlying t with
 | some (.slice e) => match P.info? e with
  | some i => match i.zero with
   | some z => bif Nat.beq z.cells.toList.length i.size && Nat.ble 1 i.size && z.cells.toList.all Value.oneCell' then some (e, i.size, i.bytes, z.cells.toList) else none
   | none => none
  | none => none
 | _ => none
theorem elemI_ok {P : Program} {t e : TypeId} {k by_ : Nat} {zc : List Value} (h : elemI P t = some (e, k, by_, zc)) :
  ∃ i z, P.underlying t = some (.slice e) ∧ P.info? e = some i ∧ i.zero = some z ∧ i.size = k ∧ i.bytes = by_ ∧ z.cells.toList = zc ∧ zc.length = k ∧ 0 < k ∧ ∀ v ∈ zc, v.oneCell' = true := by
 unfold elemI at h
 split at h
 ·rename_i e2 hu
  split at h
  ·rename_i i hi
   split at h
   ·rename_i z hz
    cases hb : (Nat.beq z.cells.toList.length i.size && Nat.ble 1 i.size && z.cells.toList.all Value.oneCell') with
    | false => rw [hb] at h; cases h
    | true =>
     rw [hb] at h
     cases h
     rw [Bool.and_eq_true, Bool.and_eq_true, List.all_eq_true] at hb
     exact ⟨i, z, hu, hi, hz, rfl, rfl, rfl, Nat.eq_of_beq_eq_true hb.1.1, Nat.le_of_ble_eq_true hb.1.2, hb.2⟩
   ·cases h
  ·cases h
 ·cases h
def efMake (P : Program) (id : Nat) (t : TypeId) (args : List TV) : Option Eff :=
 match args, elemI P t with
 | [.s (.lf (.v (.int _ l))), .s (.lf (.v (.int _ c)))], some (e, k, by_, zc) =>
  some ⟨[0 ≤ l ∧ l ≤ c, (by_ : Int) * c ≤ 140737488355328 ∧ c ≤ 9223372036854775807], .s (.lf (.sl id 0 0 k l.toNat none)), [(id, ⟨[.fnc (fun _ => zc) k l.toNat], true, some (e, k)⟩)], []⟩
 | _, _ => none
theorem post_full {ρ : Env} {id : Nat} {w : World} {ob : List Prop} {e : TypeId} {k l c : Nat} {f : Nat → List Value} {A : Array Value} (hk : 0 < k) (hf : ∀ i, i < l → (f i).length = k ∧ ∀ v ∈ f i, v.oneCell' = true)
  (hA : A.size = c * k) (hlc : l ≤ c) (hc : c ≤ maxLen) (hg : ∀ j, j < l * k → A[j]? = (f (j / k))[j % k]?) :
  Post ρ (setE ρ id ⟨w.heap.size, 0, c⟩) id ⟨ob, .s (.lf (.sl id 0 0 k l none)), [(id, ⟨[.fnc f k l], true, some (e, k)⟩)], []⟩ w (w.alloc (.cells A e)) := by
 refine ⟨trivial, fun r hr => setE_ne ρ _ hr, Fr.of_below ((Below.refl _ w).alloc (Nat.le_refl _) _) _, fun p hp2 => ?_, fun p hp2 _ => by rw [setE_same]; exact .inl (Nat.le_refl _)⟩
 simp only [List.mem_singleton] at hp2
 subst hp2
 have hle : l * k ≤ c * k := Nat.mul_le_mul_right k hlc
 refine ⟨⟨?_, fun j v hv => ?_, fun e2 k2 h => ?_, by rw [setE_same]; exact ⟨A, e, (0, 0), Go.heap_alloc_new w _⟩⟩, fun p hp => ?_⟩
 ·rw [setE_same]; simp
 ·rw [setE_same]
  simp only [lst_fnc] at hv
  have hj : j < l * k := by have := (List.getElem?_eq_some_iff.1 hv).1; rwa [flat_len l (fun i hi => (hf i hi).1)] at this
  rw [flat_get hk l (fun i hi => (hf i hi).1) j hj] at hv
  refine ⟨?_, fun _ => frozen_alloc_new⟩
  rw [show (0 : Nat) + j = j by omega, cell_alloc_new, hg j hj]
  exact hv
 ·cases h
  rw [setE_same]
  refine ⟨rfl, hc, ?_, A, Go.heap_alloc_new w _, hA⟩
  simp only [lst_fnc]
  rw [flat_len l (fun i hi => (hf i hi).1)]; exact hle
 ·simp only [List.mem_singleton] at hp
  subst hp
  exact hf
theorem make_ok {P : Program} {id : Nat} {t : TypeId} {args : List TV} {e : Eff} {ρ : Env} {w : World} (h : efMake P id t args = some e) (ho : all e.obl) :
  ∃ x y, args = [x, y] ∧ ∃ w', (Instr.makeSlice t (x.val ρ) (y.val ρ)).run P w = .ok (e.val.val (setE ρ id ⟨w.heap.size, 0, (match y with | .s (.lf (.v (.int _ c))) => c.toNat | _ => 0)⟩)) w' ∧ Post ρ (setE ρ id ⟨w.heap.size, 0, (match y with | .s (.lf (.v (.int _ c))) => c.toNat | _ => 0)⟩) id e w w' := by
 unfold efMake at h
 split at h
 ·rename_i kl l kc c el k by_ zc hel
  cases h
  obtain ⟨⟨h1, h2⟩, ⟨h3, h4⟩, -⟩ := ho
  obtain ⟨i, z, g1, g2, g3, g4, g5, g6, g7, g8, g9⟩ := elemI_ok hel
  refine ⟨_, _, rfl, w.alloc (.cells (madeCells z.cells (c.toNat * i.size)) el), ?_, ?_⟩
  ·have := run_make (P := P) w t el i z g1 g2 g3 kl kc l c h1 h2 (by rw [g5]; omega) h4
   simp only [TV.val, SV.val, Lf.val, setE_same, capOf]
   rw [this]
   simp
  ·have hz : z.cells.size = k := by rw [← Array.length_toList, g6, g7]
   refine post_full (c := c.toNat) g8 (fun i _ => ⟨g7, g9⟩) (by rw [size_madeCells, g4]) (by omega) (by simp [maxLen]; omega) (fun j hj => ?_)
   have hjc : j < c.toNat * i.size := by
    rw [g4]
    exact Nat.lt_of_lt_of_le hj (Nat.mul_le_mul_right k (by omega))
   have hm : j % z.cells.size < z.cells.size := Nat.mod_lt _ (by rw [hz]; exact g8)
   unfold madeCells
   rw [Array.getElem?_map, Array.getElem?_range, if_pos hjc]
   simp only [Option.map_some]
   rw [← g6, ← hz, Array.getElem?_toList, Array.getElem?_eq_getElem hm, getElem!_pos z.cells _ hm]
 ·cases h
def chunkF (l : List Value) (k n : Nat) : Nat → List Value := bif Nat.beq n 1 then fun _ => l else fun i => (l.drop (i * k)).take k
def efBuildS (P : Program) (id : Nat) (t : TypeId) (len : Nat) (parts : List (Nat × Operand)) (args : List TV) : Option Eff :=
 match elemI P t with
 | some (e, k, by_, zc) => bif Nat.ble (len * k) 16777216 then
   match fillS (placeL [] (some k)) ((List.replicate len zc).flatten.map fun v => .one (.v v)) parts args with
   | some (ob, ps) => match vals ps with
    | some l => bif Nat.beq l.length (len * k) then some ⟨ob, .s (.lf (.sl id 0 0 k len none)), [(id, ⟨[.fnc (chunkF l k len) k len], true, some (e, k)⟩)], []⟩ else none
    | none => bif (pids ps).all (fun r => !(Nat.beq r id)) then some ⟨ob, .s (.lf (.sl id 0 0 k len (some len))), [(id, ⟨ps, true, none⟩)], []⟩ else none
   | none => none
  else none
 | none => none
theorem chunk_ok {l : List Value} {k n : Nat} (hl : l.length = n * k) (hk : 0 < k) : ∀ i, i < n → (chunkF l k n i).length = k ∧ (∀ v ∈ chunkF l k n i, v ∈ l) ∧ ∀ q, q < k → (chunkF l k n i)[q]? = l[i * k + q]? := by
 intro i hi
 unfold chunkF
 cases hb : Nat.beq n 1 with
 | true =>
  obtain rfl := Nat.eq_of_beq_eq_true hb
  obtain rfl : i = 0 := by omega
  exact ⟨by simpa using hl, fun v hv => hv, fun q hq => by simp⟩
 | false =>
  simp only [cond_false]
  have h1 : (i + 1) * k ≤ n * k := Nat.mul_le_mul_right k hi
  rw [Nat.add_mul, Nat.one_mul] at h1
  refine ⟨by rw [List.length_take, List.length_drop]; omega, fun v hv => List.mem_of_mem_drop (List.mem_of_mem_take hv), fun q hq => ?_⟩
  rw [List.getElem?_take, if_pos hq, List.getElem?_drop]
def appF (f : Nat → List Value) (n : Nat) (g : Nat → List Value) : Nat → List Value := fun i => bif Nat.ble (n + 1) i || Nat.beq n i then g (i - n) else f i
theorem appF_lo {f g : Nat → List Value} {n i : Nat} (h : i < n) : appF f n g i = f i := by
 unfold appF
 rw [show Nat.ble (n + 1) i = false by cases hb : Nat.ble (n + 1) i with | false => rfl | true => have := Nat.le_of_ble_eq_true hb; omega]
 rw [show Nat.beq n i = false by cases hb : Nat.beq n i with | false => rfl | true => have := Nat.eq_of_beq_eq_true hb; omega]
 rfl
theorem appF_hi {f g : Nat → List Value} {n i : Nat} (h : n ≤ i) : appF f n g i = g (i - n) := by
 unfold appF
 rcases Nat.lt_or_ge n i with h1 | h1
 ·rw [show Nat.ble (n + 1) i = true from Nat.ble_eq_true_of_le h1]; rfl
 ·obtain rfl : n = i := by omega
  rw [show Nat.beq n n = true by simp]; simp
def srcE (k : Nat) (x : TV) (rw : Nat → Option Row) : Option (List Prop × (Nat → List Value) × Nat × Nat) :=
 match x with
 | .s (.lf (.sl r b i k2 m _)) => bif Nat.beq b 0 && Nat.beq k2 k then
   match rw r with
   | some row => match row.ps with
    | [.fnc g k3 m2] => bif Nat.beq k3 k then some ([i + m ≤ m2], fun q => g (addN i q), m, r) else none
    | _ => none
   | none => none
  else none
 | _ => none
def efApp (P : Program) (id : Nat) (tys : Array TypeId) (args : List TV) (rw : Nat → Option Row) : Option Eff :=
 match tys[0]?, tys[1]?, args with
 | some t, some t2, [s, x] => bif Nat.beq t t2 then match elemI P t with
  | some (e, k, by_, zc) => match srcE k x rw with
   | some (ob, g, m, r2) => match s with
    | .s (.lf (.v (.slice none 0 0))) => some ⟨[0 < m, m ≤ 9223372036854775807, m * by_ ≤ 140737488355328] ++ ob, .s (.lf (.sl id 0 0 k m none)), [(id, ⟨[.fnc g k m], true, some (e, k)⟩)], []⟩
    | .s (.lf (.sl r 0 0 k2 n none)) => match rw r with
     | some row => match row.ps with
      | [.fnc f k3 n2] => bif Nat.beq k2 k && Nat.beq k3 k && row.w && (match row.cp with | some (e2, k4) => Nat.beq e2 e && Nat.beq k4 k | none => false) && !(Nat.beq r r2) then
        some ⟨[n2 = n, n + m ≤ 9223372036854775807, (n + m) * by_ ≤ 140737488355328] ++ ob, .s (.lf (.sl id 0 0 k (n + m) none)), [(id, ⟨[.fnc (appF f n g) k (n + m)], true, some (e, k)⟩)], [r]⟩
       else none
      | _ => none
     | none => none
    | _ => none
   | none => none
  | none => none
  else none
 | _, _, _ => none
theorem ownsRow_of {ρ : Env} {w : World} {r : Nat} {f : Nat → List Value} {k n : Nat} {wr : Bool} {e : TypeId} (hk : 0 < k) (hR : RowAt ρ r ⟨[.fnc f k n], wr, some (e, k)⟩ w) (hf : ∀ i, i < n → (f i).length = k) :
  w.ownsRow 0 e k (.slice (some ⟨(ρ r).1, 0, none⟩) n (ρ r).3) n ((List.range n).flatMap f) := by
 obtain ⟨h1, h2, h3, _⟩ := hR
 obtain ⟨g1, g2, g3, cur, g4, g5⟩ := h3 e k rfl
 have hlen : ((List.range n).flatMap f).length = n * k := flat_len n hf
 simp only [lst_fnc] at h2 g3
 rw [hlen] at g3
 refine ⟨hlen, .inr ⟨(ρ r).1, (ρ r).3, cur, rfl, Nat.zero_le _, g4, Nat.le_of_mul_le_mul_right g3 hk, g2, g5, ?_⟩⟩
 apply List.ext_getElem?
 intro j
 by_cases hj : j < n * k
 ·rw [List.getElem?_take, if_pos hj]
  have hv : ((List.range n).flatMap f)[j]? = some (((List.range n).flatMap f)[j]'(by rw [hlen]; exact hj)) := List.getElem?_eq_getElem _
  have := (h2 j _ hv).1
  rw [g1, Nat.zero_add, cell_of_row w _ j cur e (0, 0) g4] at this
  rw [hv, ← this]
  simp
 ·rw [List.getElem?_eq_none (by rw [List.length_take]; omega), List.getElem?_eq_none (by rw [hlen]; omega)]
theorem app_fin {P : Program} {id : Nat} {ty : TypeId} {tys : Array TypeId} {ρ : Env} {w : World} {el : TypeId} {k n m : Nat} {v : Value} {f g : Nat → List Value} {av : Array Value} {dels : List Nat} {o1 : List Prop} (g8 : 0 < k)
  (hap : ∃ v' w', (Builtin.append_ tys ty av).run P w = .ok v' w' ∧ w'.ownsRow 0 el k v' (n + m) ((List.range n).flatMap f ++ (List.range m).flatMap g) ∧ w.grownBy w' v.ownBlock ∧ (v' = .slice none 0 0 ↔ v = .slice none 0 0 ∧ m = 0) ∧ (v'.ownBlock = v.ownBlock ∨ v'.ownBlock = some w.heap.size))
  (hf : ∀ q, q < n → (f q).length = k ∧ ∀ v ∈ f q, v.oneCell' = true) (hg : ∀ q, q < m → (g q).length = k ∧ ∀ v ∈ g q, v.oneCell' = true) (hnil : v = .slice none 0 0 → 0 < m) (hblk : ∀ g, v.ownBlock = some g → dels.map (fun r => (ρ r).1) = [g]) :
  ∃ w' ρ', (Builtin.append_ tys ty av).run P w = .ok ((TV.s (.lf (.sl id 0 0 k (n + m) none))).val ρ') w' ∧
   Post ρ ρ' id ⟨o1, .s (.lf (.sl id 0 0 k (n + m) none)), [(id, ⟨[.fnc (appF f n g) k (n + m)], true, some (el, k)⟩)], dels⟩ w w' := by
 have hnl : ((List.range m).flatMap g).length = m * k := flat_len m fun q hq => (hg q hq).1
 obtain ⟨v', w', hrun, hown', hgr, hiff, hbl⟩ := hap
 obtain ⟨hl', hsl⟩ := hown'
 rcases hsl with ⟨hsl, _⟩ | ⟨gg, cp, cur, hsl, _, hheap, hncp, hcpm, hcur, htake⟩
 ·obtain ⟨e1, e2⟩ := hiff.1 hsl
  have := hnil e1; omega
 refine ⟨w', setE ρ id ⟨gg, 0, cp⟩, ?_, trivial, fun r hr => setE_ne ρ _ hr, ?_, ?_, ?_⟩
 ·rw [hrun, hsl]
  simp [TV.val, SV.val, Lf.val, setE_same, capOf]
 ·refine ⟨hgr.os, hgr.tape, hgr.output, hgr.size, fun q hq hn => hgr.block q hq ?_⟩
  intro he
  rw [hblk q he.symm] at hn
  simp at hn
 ·intro p hp
  simp only [List.mem_singleton] at hp
  subst hp
  have hlen2 : ∀ q, q < n + m → (appF f n g q).length = k ∧ ∀ v ∈ appF f n g q, v.oneCell' = true := by
   intro q hq
   by_cases hqn : q < n
   ·rw [appF_lo hqn]; exact hf q hqn
   ·rw [appF_hi (by omega)]; exact hg _ (by omega)
  have hflat : (List.range (n + m)).flatMap (appF f n g) = (List.range n).flatMap f ++ (List.range m).flatMap g := by
   apply List.ext_getElem?
   intro j
   by_cases hj : j < (n + m) * k
   ·rw [flat_get g8 _ (fun q hq => (hlen2 q hq).1) j hj]
    by_cases hjn : j < n * k
    ·rw [appF_lo (Nat.div_lt_of_lt_mul (by rw [Nat.mul_comm]; exact hjn)), List.getElem?_append_left (by rw [flat_len n fun q hq => (hf q hq).1]; exact hjn), flat_get g8 _ (fun q hq => (hf q hq).1) j hjn]
    ·have hjm : j - n * k < m * k := by rw [Nat.add_mul] at hj; omega
     have e1 : j = j - n * k + n * k := by omega
     have e2 : j / k = (j - n * k) / k + n := by rw [← Nat.add_mul_div_right _ _ g8, ← e1]
     have e3 : j % k = (j - n * k) % k := by rw [← Nat.add_mul_mod_self_right (j - n * k) n k, ← e1]
     rw [appF_hi (by rw [e2]; exact Nat.le_add_left _ _), List.getElem?_append_right (by rw [flat_len n fun q hq => (hf q hq).1]; omega), flat_len n fun q hq => (hf q hq).1, flat_get g8 _ (fun q hq => (hg q hq).1) _ hjm]
     rw [e2, e3, Nat.add_sub_cancel]
   ·rw [List.getElem?_eq_none (by rw [flat_len _ fun q hq => (hlen2 q hq).1]; omega), List.getElem?_eq_none (by rw [List.length_append, flat_len n fun q hq => (hf q hq).1, hnl, ← Nat.add_mul]; omega)]
  refine ⟨⟨?_, fun j v hv => ?_, fun e2 k2 h => ?_, by rw [setE_same]; exact ⟨cur, el, (0, 0), hheap⟩⟩, fun p hp => ?_⟩
  ·rw [setE_same]; exact lt_of_block hheap
  ·rw [setE_same]
   simp only [lst_fnc, hflat] at hv
   rw [Nat.zero_add, cell_of_row w' _ j cur el (0, 0) hheap]
   rw [← htake, List.getElem?_take] at hv
   split at hv
   ·refine ⟨by simpa using hv, fun _ => ?_⟩
    simp [World.frozen?, hheap]
   ·cases hv
  ·cases h
   rw [setE_same]
   refine ⟨rfl, hcpm, ?_, cur, hheap, hcur⟩
   simp only [lst_fnc]
   rw [flat_len _ fun q hq => (hlen2 q hq).1]
   exact Nat.mul_le_mul_right k hncp
  ·simp only [List.mem_singleton] at hp
   subst hp
   exact hlen2
 ·intro p hp _
  rw [setE_same]
  have hg : v'.ownBlock = some gg := by rw [hsl]; rfl
  rcases hbl with hbl | hbl
  ·rw [hg] at hbl
   have := hblk gg hbl.symm
   cases dels with
   | nil => cases this
   | cons d ds =>
    simp at this
    exact .inr ⟨d, by simp, this.1.symm⟩
  ·rw [hg] at hbl
   cases hbl
   exact .inl (Nat.le_refl _)
theorem append_ok {P : Program} {id : Nat} {ty : TypeId} {tys : Array TypeId} {args : List TV} {rw : Nat → Option Row} {e : Eff} {ρ : Env} {w : World} (hids : ∀ x ∈ args, id ∉ x.ids)
  (hrw : ∀ r row, rw r = some row → RowAt ρ r row w ∧ pok row.ps) (h : efApp P id tys args rw = some e) (ho : all e.obl) :
  ∃ w' ρ', (Builtin.append_ tys ty (args.map (TV.val ρ)).toArray).run P w = .ok (e.val.val ρ') w' ∧ Post ρ ρ' id e w w' := by
 unfold efApp at h
 split at h
 ·rename_i t t2 s x ht ht2
  cases hb : Nat.beq t t2 with
  | false => rw [hb] at h; cases h
  | true =>
   rw [hb] at h
   obtain rfl := Nat.eq_of_beq_eq_true hb
   simp only [cond_true] at h
   split at h
   ·rename_i el k by_ zc hel
    obtain ⟨i, z, g1, g2, g3, g4, g5, g6, g7, g8, g9⟩ := elemI_ok hel
    have hz : z.cells.size = k := by rw [← Array.length_toList, g6, g7]
    split at h
    ·rename_i ob g m r2 hsrc
     -- the source
     unfold srcE at hsrc
     split at hsrc
     ·rename_i r3 b i2 k2 m2 cap
      cases hc2 : (Nat.beq b 0 && Nat.beq k2 k) with
      | false => rw [hc2] at hsrc; cases hsrc
      | true =>
       rw [hc2] at hsrc
       simp only [cond_true] at hsrc
       rw [Bool.and_eq_true] at hc2
       obtain rfl := Nat.eq_of_beq_eq_true hc2.1
       obtain rfl := Nat.eq_of_beq_eq_true hc2.2
       split at hsrc
       ·rename_i row hrow
        split at hsrc
        ·rename_i g0 k3 m3 hps
         cases hc3 : Nat.beq k3 k2 with
         | false => rw [hc3] at hsrc; cases hsrc
         | true =>
          rw [hc3] at hsrc
          obtain rfl := Nat.eq_of_beq_eq_true hc3
          cases hsrc
          obtain ⟨hR, hpo⟩ := hrw _ _ hrow
          have hF : (Pc.fnc g0 k3 m3).ok := hpo _ (by rw [hps]; simp)
          have hnews : i2 + m ≤ m3 → ∀ j u, ((List.range m).flatMap fun q => g0 (addN i2 q))[j]? = some u → w.cell? ((⟨(ρ r2).1, (ρ r2).2 + (0 + i2 * k3), none⟩ : Addr).add j) = some u := by
           intro hle j u hu
           have hj : j < m * k3 := by have := (List.getElem?_eq_some_iff.1 hu).1; rwa [flat_len m (fun q hq => (hF _ (by rw [addN_eq]; omega)).1)] at this
           rw [flat_get g8 m (fun q hq => (hF _ (by rw [addN_eq]; omega)).1) j hj] at hu
           rw [addr_add]
           have h2 := hR.2.1 (i2 * k3 + j) u (by
            have hlt : i2 * k3 + j < m3 * k3 := by
             have : (i2 + m) * k3 ≤ m3 * k3 := Nat.mul_le_mul_right _ hle
             rw [Nat.add_mul] at this; omega
            rw [hps, lst_fnc, flat_get g8 m3 (fun q hq => (hF q hq).1) _ hlt]
            rw [show (i2 * k3 + j) / k3 = i2 + j / k3 by rw [Nat.add_comm, Nat.add_mul_div_right _ _ g8, Nat.add_comm], show (i2 * k3 + j) % k3 = j % k3 by rw [Nat.add_comm, Nat.add_mul_mod_self_right], ← addN_eq]
            exact hu)
           rw [show (ρ r2).2 + (0 + i2 * k3) + j = (ρ r2).2 + (i2 * k3 + j) by omega]
           exact h2.1
          have hN : i2 + m ≤ m3 → ∀ q, q < m → (g0 (addN i2 q)).length = k3 ∧ ∀ v ∈ g0 (addN i2 q), v.oneCell' = true := fun hle q hq => hF _ (by rw [addN_eq]; omega)
          -- what is common
          have fin : ∀ (v : Value) (n : Nat) (f : Nat → List Value) (dels : List Nat) (o1 : List Prop), w.ownsRow 0 el k3 v n ((List.range n).flatMap f) → (∀ q, q < n → (f q).length = k3 ∧ ∀ v ∈ f q, v.oneCell' = true) →
            v = s.val ρ → (v = .slice none 0 0 → 0 < m) → (∀ g, v.ownBlock = some g → dels.map (fun r => (ρ r).1) = [g]) → n + m ≤ 9223372036854775807 → (n + m) * by_ ≤ 140737488355328 → i2 + m ≤ m3 →
            ∃ w' ρ', (Builtin.append_ tys ty ([s, TV.s (.lf (.sl r2 0 i2 k3 m cap))].map (TV.val ρ)).toArray).run P w = .ok ((TV.s (.lf (.sl id 0 0 k3 (n + m) none))).val ρ') w' ∧
             Post ρ ρ' id ⟨o1, .s (.lf (.sl id 0 0 k3 (n + m) none)), [(id, ⟨[.fnc (appF f n fun q => g0 (addN i2 q)) k3 (n + m)], true, some (el, k3)⟩)], dels⟩ w w' := by
           intro v n f dels o1 hown hf hv hnil hblk h63 hby hle
           have hnl : ((List.range m).flatMap fun q => g0 (addN i2 q)).length = m * k3 := flat_len m fun q hq => (hN hle q hq).1
           obtain ⟨v', w', hrun, hown', hgr, hiff, hbl⟩ := run_append_own_at (P := P) w 0 t ty el i z k3 by_ g1 g2 g3 g4 g5 hz g8 v n _ hown ⟨(ρ r2).1, (ρ r2).2 + (0 + i2 * k3), none⟩ m (capOf (ρ r2).3 i2 cap) _ hnl (hnews hle) (by
            intro u hu
            obtain ⟨q, hq, hu⟩ := List.mem_flatMap.1 hu
            exact (hN hle q (List.mem_range.1 hq)).2 u hu) (by simp [maxLen]; omega) hby (Nat.zero_le _)
           refine app_fin (v := v) g8 ⟨v', w', ?_, hown', hgr, hiff, hbl⟩ hf (hN hle) hnil hblk
           rw [← hrun, hv]
           unfold Builtin.append_
           simp only [ht, ht2]
           rfl
          split at h
          ·cases h
           obtain ⟨h1, h2, h3, h4, -⟩ := ho
           have := fin (.slice none 0 0) 0 (fun _ => []) [] ([0 < m, m ≤ 9223372036854775807, m * by_ ≤ 140737488355328] ++ [i2 + m ≤ m3]) ⟨by simp, .inl ⟨rfl, rfl⟩⟩ (fun q hq => by omega) rfl (fun _ => h1) (fun g hg => by cases hg) (by omega) (by rw [Nat.zero_add]; exact h3) h4
           rw [Nat.zero_add] at this
           obtain ⟨w', ρ', k1, k2⟩ := this
           refine ⟨w', ρ', k1, k2.ok, k2.env, by have := k2.fr; simpa using this, fun p hp => ?_, fun p hp he => by have := k2.new _ (List.mem_singleton.2 rfl) rfl; simpa using this⟩
           have := k2.puts _ (List.mem_singleton.2 rfl)
           simp only [List.mem_singleton] at hp
           subst hp
           have e : appF (fun _ => []) 0 (fun q => g0 (addN i2 q)) = fun q => g0 (addN i2 q) := by
            funext q
            rw [appF_hi (Nat.zero_le _)]; rfl
           rw [e] at this
           exact this
          ·rename_i r k5 n
           split at h
           ·rename_i row2 hrow2
            split at h
            ·rename_i f k4 n2 hps2
             cases hcc : (Nat.beq k5 k3 && Nat.beq k4 k3 && row2.w && (match row2.cp with | some (e2, k4) => Nat.beq e2 el && Nat.beq k4 k3 | none => false) && !(Nat.beq r r2)) with
             | false => rw [hcc] at h; cases h
             | true =>
              rw [hcc] at h
              cases h
              simp only [Bool.and_eq_true] at hcc
              obtain ⟨⟨⟨⟨c1, c2⟩, c3⟩, c4⟩, c5⟩ := hcc
              obtain rfl := Nat.eq_of_beq_eq_true c1
              obtain rfl := Nat.eq_of_beq_eq_true c2
              obtain ⟨h1, h2, h3, h4, -⟩ := ho
              subst h1
              obtain ⟨hR2, hpo2⟩ := hrw _ _ hrow2
              have hF2 : (Pc.fnc f k4 n2).ok := hpo2 _ (by rw [hps2]; simp)
              have hcp : row2.cp = some (el, k4) := by
               split at c4
               ·rename_i e2 k6 hcp
                rw [Bool.and_eq_true] at c4
                rw [hcp, Nat.eq_of_beq_eq_true c4.1, Nat.eq_of_beq_eq_true c4.2]
               ·cases c4
              obtain ⟨ps2, w2, cp2⟩ := row2
              simp only at hps2 hcp c3
              subst hps2
              subst hcp
              have hoff := (hR2.2.2.1 el k4 rfl).1
              have := fin (.slice (some ⟨(ρ r).1, 0, none⟩) n2 (ρ r).3) n2 f [r] ([n2 = n2, n2 + m ≤ 9223372036854775807, (n2 + m) * by_ ≤ 140737488355328] ++ [i2 + m ≤ m3]) (ownsRow_of g8 hR2 (fun q hq => (hF2 q hq).1)) hF2 (by
               simp [TV.val, SV.val, Lf.val, capOf, hoff]) (fun h => by cases h) (fun g hg => by cases hg; rfl) h2 h3 h4
              exact this
            ·cases h
           ·cases h
          ·cases h
        ·cases hsrc
       ·cases hsrc
     ·cases hsrc
    ·cases h
   ·cases h
 ·cases h
end Go.Proofs.YtdbbcngolcnniaaGreatDoor.E
