/- A state of package sha as it lies in memory, and what copying into it does. No condition. -/
import Derived.Test.YtjkbbndiickcnaaDoorTake
import Derived.Test.YtjkbbndiickcnaaDoorTail
namespace Go.Proofs.YtjkbbndiickcnaaDoor
open Go.RowKit
set_option linter.unusedVariables false

theorem mids_ext (e : St) (l m : List UInt8) : ∀ k, (∀ i, i < k → chunk l i = chunk m i) → mids e l k = mids e m k
  | 0, _ => rfl
  | k + 1, h => by
    show comp (mids e l k) (chunk l k) = comp (mids e m k) (chunk m k)
    rw [mids_ext e l m k (fun i hi => h i (by omega)), h k (by omega)]
theorem mids_prefix (e : St) (l s : List UInt8) (k : Nat) (hk : 64 * k ≤ l.length) : mids e (l ++ s) k = mids e l k := by
  refine mids_ext e _ _ k (fun i hi => ?_)
  unfold chunk
  rw [List.drop_append, List.take_append_of_le_length (by rw [List.length_drop]; omega)]
theorem mids_split (e : St) (l : List UInt8) (i : Nat) : ∀ j, mids e l (i + j) = mids (mids e l i) (l.drop (64 * i)) j
  | 0 => rfl
  | j + 1 => by
    show comp (mids e l (i + j)) (chunk l (i + j)) = comp (mids (mids e l i) (l.drop (64 * i)) j) (chunk (l.drop (64 * i)) j)
    rw [mids_split e l i j]
    congr 1
    unfold chunk
    rw [List.drop_drop, show 64 * (i + j) = 64 * i + 64 * j by omega]

/-- A state of the bytes l lies in block b. -/
def StRep (w : World) (b : Nat) (l : List UInt8) : Prop :=
  ∃ (e : St) (rb : List UInt8), w.heap[b]? = some (.cells (stCells (cells e) (bytesV rb) l.length).toArray 42 (0, 0)) ∧ rb.length = 64 ∧ e.ok ∧ (l ≠ [] → e = mids h0 l (l.length / 64)) ∧ rb.take (l.length % 64) = l.drop (64 * (l.length / 64))

theorem stCells_len (e : St) (rb : List UInt8) (n : Nat) (h : rb.length = 64) : (stCells (cells e) (bytesV rb) n).length = 73 := by
  unfold stCells
  rw [List.length_append, List.length_append, bytesV_length, h]
  rfl
theorem stCells_n (e : St) (rb : List UInt8) (n : Nat) (h : rb.length = 64) : (stCells (cells e) (bytesV rb) n)[72]? = some (.int .i64 n) := by
  unfold stCells
  rw [List.getElem?_append_right (by show 8 ≤ 72; omega), List.getElem?_append_right (by rw [bytesV_length, h]; show 64 ≤ 72 - 8; omega), bytesV_length, h]
  rfl
theorem stCells_rest (e : St) (rb : List UInt8) (n : Nat) (h : rb.length = 64) (j : Nat) (hj : j < 64) : (stCells (cells e) (bytesV rb) n)[8 + j]? = some (.int .u8 ((rb[j]'(by omega)).toNat : Int)) := by
  unfold stCells
  rw [List.getElem?_append_right (by show 8 ≤ 8 + j; omega), show 8 + j - (cells e).length = j by show 8 + j - 8 = j; omega, List.getElem?_append_left (by rw [bytesV_length]; omega)]
  unfold bytesV
  rw [List.getElem?_map, List.getElem?_eq_getElem (by omega)]
  rfl
theorem stCells_setN (e : St) (rb : List UInt8) (n m : Nat) (h : rb.length = 64) : (stCells (cells e) (bytesV rb) n).toArray.setIfInBounds 72 (.int .i64 m) = (stCells (cells e) (bytesV rb) m).toArray := by
  apply Array.ext'
  rw [Array.toList_setIfInBounds]
  show (stCells (cells e) (bytesV rb) n).set 72 _ = stCells (cells e) (bytesV rb) m
  unfold stCells
  rw [List.set_append_right (h := by show 8 ≤ 72; omega), List.set_append_right (h := by rw [bytesV_length, h]; show 64 ≤ 72 - 8; omega), bytesV_length, h]
  rfl
/-- What rests behind a copy of bytes at a place. -/
def over (rb : List UInt8) (o : Nat) (s : List UInt8) : List UInt8 := rb.take o ++ s ++ rb.drop (o + s.length)
theorem over_length (rb : List UInt8) (o : Nat) (s : List UInt8) (h : o + s.length ≤ rb.length) : (over rb o s).length = rb.length := by
  unfold over; simp; omega
theorem stCells_over (e : St) (rb : List UInt8) (n o : Nat) (s : List UInt8) (h : rb.length = 64) (hs : o + s.length ≤ 64) :
    splice (stCells (cells e) (bytesV rb) n).toArray (8 + o) (bytesV s) = (stCells (cells e) (bytesV (over rb o s)) n).toArray := by
  unfold splice stCells over
  congr 1
  have hc : (cells e).length = 8 := rfl
  have h1 : (bytesV rb).length = 64 := by rw [bytesV_length, h]
  rw [List.take_append, List.drop_append, hc, bytesV_length]
  rw [List.take_of_length_le (by rw [hc]; omega), List.drop_eq_nil_of_le (by rw [hc]; omega), show 8 + o - 8 = o by omega, show 8 + o + s.length - 8 = o + s.length by omega]
  rw [List.take_append_of_le_length (by rw [h1]; omega), List.drop_append_of_le_length (by rw [h1]; omega)]
  rw [bytesV_append, bytesV_append]
  unfold bytesV
  simp
theorem stCells_head (e e2 : St) (rb : List UInt8) (n : Nat) : splice (stCells (cells e) (bytesV rb) n).toArray 0 (cells e2) = (stCells (cells e2) (bytesV rb) n).toArray := splice_head (cells e) (cells e2) _ rfl

section
variable {P : Program}
theorem run_copy_any (w : World) (dT sT ty elem : TypeId) (g o dLen dCap : Nat) (s : ByteArray) (k : Nat) (hk : k = min s.size dLen) (cur : Array Value) (t : TypeId)
    (hu : P.underlying dT = some (.slice elem)) (hs : (P.info? elem).map (·.size) = some 1) (hg : w.heap[g]? = some (.cells cur t (0, 0))) (hfit : o + k ≤ cur.size) :
    (Builtin.copy_ #[dT, sT] ty #[.slice (some ⟨g, o, none⟩) dLen dCap, .string s]).run P w = .ok (goInt k) (w.setRow g (splice cur o (bytesV (s.data.toList.take k)))) := by
  have hsz : (bytesV (s.data.toList.take k)).length = k := by rw [bytesV_length, List.length_take]; show min k s.size = k; omega
  have hst := run_storeCells_at P g o t (bytesV (s.data.toList.take k)) 0 cur w hg (by rw [hsz]; simpa using hfit) (by intro v hv; unfold bytesV at hv; obtain ⟨b, _, rfl⟩ := List.mem_map.1 hv; rfl)
  have hmin : Nat.min s.size dLen = k := hk.symm
  cases hq : P.info? elem with
  | none => simp [hq] at hs
  | some i =>
    have htk : List.take k (List.map (fun b => Value.int .u8 (b.toNat : Int)) s.data.toList) = bytesV (s.data.toList.take k) := by unfold bytesV; rw [List.map_take]
    simp only [Nat.add_zero] at hst
    simp [Builtin.copy_, run_underlying hu, Builtin.lenOf, Builtin.firstCells, sizeOf, typeInfo, hq, hmin, htk, hst, splice]
theorem exec_copy_any {ρ : Operand → Value} {oo : Oper} (w : World) (d x : Operand) (dT sT elem : TypeId) (ho : oo.op = .call { callee := .builtin .copy, args := #[d, x], argTypes := #[dT, sT] }) (g o dLen dCap : Nat) (s : ByteArray) (k : Nat) (hk : k = min s.size dLen) (cur : Array Value) (t : TypeId)
    (hd : ρ d = .slice (some ⟨g, o, none⟩) dLen dCap) (hx : ρ x = .string s)
    (hu : P.underlying dT = some (.slice elem)) (hs : (P.info? elem).map (·.size) = some 1) (hg : w.heap[g]? = some (.cells cur t (0, 0))) (hfit : o + k ≤ cur.size) :
    (execOp ρ oo).run P w = .ok (.value (goInt k)) (w.setRow g (splice cur o (bytesV (s.data.toList.take k)))) := by
  have h := run_copy_any (P := P) w dT sT oo.type elem g o dLen dCap s k hk cur t hu hs hg hfit
  unfold execOp
  simp [ho, resolve, invoke, builtin, hd, hx, h]
end
theorem size5 : (Tryd.prog.info? 5).map (·.size) = some 1 := by kernel_rfl
end Go.Proofs.YtjkbbndiickcnaaDoor
