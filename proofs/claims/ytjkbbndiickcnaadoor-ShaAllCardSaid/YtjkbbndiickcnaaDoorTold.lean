/- The bytes of the numbers (told), and New, of package sha. No condition but that the numbers have 32 bits. -/
import Derived.Test.YtjkbbndiickcnaaDoorMem
import Derived.Deep.DeepCutAuto
import Derived.Deep.CutBlock
namespace Go.Proofs.YtjkbbndiickcnaaDoor
open Go.RowKit
set_option linter.unusedVariables false
/-- Bytes as cells. -/
def bytesV (l : List UInt8) : List Value := l.map fun b => .int .u8 (b.toNat : Int)
theorem bytesV_append (l m : List UInt8) : bytesV (l ++ m) = bytesV l ++ bytesV m := by simp [bytesV]
theorem bytesV_length (l : List UInt8) : (bytesV l).length = l.length := by simp [bytesV]
theorem info5 : (Tryd.prog.info? 5).map (fun i => (i.zero, i.size, i.bytes)) = some (some (.int .u8 0), 1, 1) := by kernel_rfl
theorem index39 (f : Nat → Nat) (i : Nat) (hi : i < 8) (w : World) : (Instr.index 39 (.agg (rowOf .u32 8 f).toArray) (.int .i64 i)).run Tryd.prog w = .ok (.int .u32 (f i)) w := by
  rcases (show i = 0 ∨ i = 1 ∨ i = 2 ∨ i = 3 ∨ i = 4 ∨ i = 5 ∨ i = 6 ∨ i = 7 by omega) with rfl | rfl | rfl | rfl | rfl | rfl | rfl | rfl <;> kernel_rfl
/-- A row of bytes of the call's own, and some more behind it. -/
theorem bytes_app {W wr : World} {B : Nat} {v : Value} {n : Nat} {l : List UInt8} (hown : wr.ownsRow B 5 1 v n (bytesV l)) (hb : Below B W wr) (hB : B ≤ wr.heap.size)
    (news : List UInt8) (m : Nat) (hm : news.length = m) (arr : Array Value) (harr : arr = (bytesV news).toArray) (hlt : n + m ≤ 1000000) :
    ∃ v' W3, (∀ (ρ : Operand → Value) (o : Oper) (s x : Operand), o.op = Op.call { callee := Callee.builtin Builtin.append, args := #[s, x], argTypes := #[30, 30] } → ρ s = v → ρ x = .slice (some ⟨wr.heap.size, 0, none⟩) m m → (execOp ρ o).run Tryd.prog (wr.alloc (.cells arr 5)) = .ok (.value v') W3) ∧
      W3.ownsRow B 5 1 v' (n + m) (bytesV (l ++ news)) ∧ Below B W W3 ∧ W3.heap.size ≥ wr.heap.size := by
  obtain ⟨i5, hi5, hz5, hs5, hb5⟩ := info_parts info5
  subst harr
  obtain ⟨v', W3, happ, hown', hgrow, hat⟩ := exec_append_own (P := Tryd.prog) (wr.alloc (.cells (bytesV news).toArray 5)) B 30 5 i5 _ 1 1 Tryd.underlying30 hi5 hz5 hs5 hb5 rfl (by decide) _ n _ (hown.alloc _) ⟨wr.heap.size, 0, none⟩ m m (bytesV news) (by rw [bytesV_length]; omega) (by
      intro j u hu
      rw [addr_add, cell_of_row _ wr.heap.size (0 + j) (bytesV news).toArray 5 (0, 0) (heap_alloc_new wr _), Nat.zero_add, List.getElem?_toArray]
      exact hu) (by intro u hu; simp [bytesV] at hu; obtain ⟨b, _, rfl⟩ := hu; rfl) (by unfold maxLen; omega) (by omega) (by simp; omega)
  refine ⟨v', W3, happ, by rw [bytesV_append]; exact hown', (hb.alloc hB _).grown hgrow (by simp; omega) (fun j hj => (hown.lt j hj).1), ?_⟩
  have := hgrow.size
  simp at this
  omega
/-- A row of bytes of the call's own as a string. -/
theorem bytes_str {wr : World} {B : Nat} {v : Value} {n : Nat} {l : List UInt8} (hown : wr.ownsRow B 5 1 v n (bytesV l)) (hn : 0 < n) :
    ∃ g cap, v = .slice (some ⟨g, 0, none⟩) n cap ∧ (Go.convert 30 9 (.slice (some ⟨g, 0, none⟩) n cap)).run Tryd.prog wr = .ok (.string ⟨l.toArray⟩) wr := by
  have hl : l.length = n := by have := hown.1; rw [bytesV_length] at this; omega
  rcases hown.2 with ⟨_, h0⟩ | ⟨g, cap, cur, rfl, _⟩
  · omega
  · subst hl
    refine ⟨g, cap, rfl, run_convert_bytes_back wr 30 9 5 ⟨g, 0, none⟩ cap l Tryd.underlying30 Tryd.underlying5 Tryd.underlying9 (fun j hj => ?_)⟩
    rw [addr_add, Nat.zero_add, hown.cellAt j (by omega)]
    unfold bytesV
    rw [List.getElem?_map, List.getElem?_eq_getElem hj]
    rfl
theorem be4V (x : Nat) (hx : x < 4294967296) : bytesV (be4 x) = [.int .u8 ((x : Int) / 16777216), .int .u8 ((x : Int) / 65536 % 256), .int .u8 ((x : Int) / 256 % 256), .int .u8 ((x : Int) % 256)] := by
  have e : ∀ n : Nat, ((UInt8.ofNat n).toNat : Int) = (n : Int) % 256 := fun n => by rw [UInt8.toNat_ofNat']; omega
  unfold bytesV be4
  simp only [List.map_cons, List.map_nil, e]
  have h1 : ((x / 16777216 : Nat) : Int) % 256 = (x : Int) / 16777216 := by omega
  have h2 : ((x / 65536 : Nat) : Int) % 256 = (x : Int) / 65536 % 256 := by omega
  have h3 : ((x / 256 : Nat) : Int) % 256 = (x : Int) / 256 % 256 := by omega
  rw [h1, h2, h3]

def tellTo (f : Nat → Nat) : Nat → List UInt8
  | 0 => []
  | k + 1 => tellTo f k ++ be4 (f k)
theorem tellTo_succ (f : Nat → Nat) (k : Nat) : tellTo f (k + 1) = tellTo f k ++ be4 (f k) := rfl
theorem tellTo_length (f : Nat → Nat) : ∀ k, (tellTo f k).length = 4 * k
  | 0 => rfl
  | k + 1 => by rw [tellTo_succ, List.length_append, tellTo_length f k]; show 4 * k + 4 = _; omega
set_option maxRecDepth 100000 in
set_option maxHeartbeats 400000 in
theorem told_any (f : Nat → Nat) (hf : ∀ j, f j < 4294967296) (w : World) :
    Calls Tryd.prog 25 #[.agg (rowOf .u32 8 f).toArray] w fun e w' => e = .returned (.string ⟨(tellTo f 8).toArray⟩) ∧ Below w.heap.size w w' := by
  obtain ⟨cf, hcf⟩ : ∃ cf, Hid (cf = rowOf .u32 8 f) := ⟨_, Lib.hid rfl⟩
  have hmk : ∀ w, (Instr.makeSlice 30 (.int .i64 0) (.int .i64 32)).run Tryd.prog w = .ok (.slice (some ⟨w.heap.size, 0, none⟩) 0 32) (w.alloc (.cells (Array.replicate 32 (.int .u8 0)) 5)) := fun _ => by kernel_rfl
  obtain ⟨A32, hA⟩ : ∃ A32, Hid (A32 = Array.replicate 32 (Value.int .u8 0)) := ⟨_, Lib.hid rfl⟩
  rw [← hA.out] at hmk
  rw [← hcf.out]
  obtain ⟨tl, htl⟩ : ∃ tl, Hid (tl = tellTo f 8) := ⟨_, Lib.hid rfl⟩
  rw [← htl.out]
  have hc : Hid (∀ j v, cf[j]? = some v → ((w.alloc (.cells cf.toArray 39)).alloc (.cells A32 5)).cell? ⟨w.heap.size, 0 + j, none⟩ = some v) := by
    intro j v hv
    rw [cell_of_row _ _ _ _ _ _ (heap_alloc2_old w _ _), Nat.zero_add, List.getElem?_toArray, hv]
  have hsz : Hid ((Tryd.prog.info? 39).map (·.size) = some cf.length) := by unfold Hid; rw [hcf.out, rowOf_length]; kernel_rfl
  have hix : Hid (∀ (i : Nat) (hi : i < 8) (w : World), (Instr.index 39 (.agg cf.toArray) (.int .i64 i)).run Tryd.prog w = .ok (.int .u32 (f i)) w) := by unfold Hid; rw [hcf.out]; exact index39 f
  have hown0 : Hid (((w.alloc (.cells cf.toArray 39)).alloc (.cells A32 5)).ownsRow w.heap.size 5 1 (.slice (some ⟨w.heap.size + 1, 0, none⟩) 0 32) 0 []) := by
    unfold Hid World.ownsRow
    exact ⟨rfl, Or.inr ⟨w.heap.size + 1, 32, A32, rfl, by omega, heap_alloc2_new w _ _, by omega, by unfold maxLen; omega, by rw [hA.out]; simp, by simp⟩⟩
  go_enter Tryd.func25, Tryd.ntmps25
  go_wp2_with (refine wpList_load_seg rfl 39 (.tmp 1) rfl w.heap.size 0 rfl cf _ hc.out Tryd.underlying39 rfl hsz.out ?_)
  go_loopw [3, 5, 8] (fun v x i wr => ∃ k : Nat, k ≤ 8 ∧ i = .int .i64 k ∧ wr.ownsRow w.heap.size 5 1 v (4 * k) (bytesV (tellTo f k)) ∧ Below w.heap.size w wr) (fun _ _ i _ => 8 - (intOf i).toNat)
  case atStart => exact ⟨0, by omega, rfl, hown0.out, ((Below.refl _ w).alloc (Nat.le_refl _) _).alloc (by simp) _⟩
  case round =>
    obtain ⟨k, hk, rfl, hown, hb⟩ := hrel
    by_cases hlt : k < 8
    · have hix2 := hix.out k hlt
      have hx := hf k
      have HT := Lib.hid (tellTo_succ f k)
      generalize f k = x at *
      clear hmk
      obtain ⟨v', W3, happ, hown', hb', hz'⟩ := bytes_app hown hb hb.size (be4 x) 4 rfl _ (congrArg List.toArray (be4V x hx).symm) (by omega)
      have HAPP := Lib.hid happ
      have HO := Lib.hid hown'
      have HF := Lib.hid hb'
      clear happ hown' hb' hown hb hz'
      go_wp2_with (at_builtin; refine wpList_run rfl _ (HAPP.out _ _ (.tmp 11) (.tmp 23) rfl rfl rfl) ?_)
      go_roundw
      case rel => exact ⟨k + 1, by omega, by go_num, by rw [HT.out, show 4 * (k + 1) = 4 * k + 4 by omega]; exact HO.out, HF.out⟩
      case measure => simp [intOf]; omega
    · obtain rfl : k = 8 := by omega
      obtain ⟨g, cap, rfl, hcv⟩ := bytes_str hown (by omega)
      have HB := Lib.hid hb
      rw [show 4 * 8 = 32 from rfl] at hcv ⊢
      rw [show ((8 : Nat) : Int) = (8 : Int) from rfl]
      rw [← htl.out] at hcv
      clear hown hb hix hown0 hc hmk
      go_wp2
      go_ret
      exact ⟨rfl, HB.out⟩
def z64b : List Value := List.replicate 64 (.int .u8 0)
/-- The cells of a state: the eight, what came behind them, how many bytes. -/
def stCells (s : List Value) (r : List Value) (n : Nat) : List Value := s ++ (r ++ [.int .i64 n])
def stZero : List Value := stCells (List.replicate 8 (.int .u32 0)) z64b 0
theorem zero42 (w : World) : (zeroValue 42).run Tryd.prog w = .ok (.agg stZero.toArray) w := by kernel_rfl
theorem build42 (w : World) : (Instr.build 42 #[]).run Tryd.prog w = .ok (.agg stZero.toArray) w := by kernel_rfl
theorem exec_build0 {ρ : Operand → Value} {o : Oper} {P : Program} (w : World) (t : TypeId) (ho : o.op = .build t #[]) (v : Value)
    (hrun : (Instr.build t #[]).run P w = .ok v w) : (execOp ρ o).run P w = .ok (.value v) w := by
  unfold execOp
  simp [ho, hrun]
theorem new_any (w : World) : Calls Tryd.prog 13 #[] w fun e w' => e = .returned (.pointer (some ⟨w.heap.size, 0, none⟩)) ∧ w.alloc (.cells stZero.toArray 42) = w' := by
  go_enter Tryd.func13, Tryd.ntmps13
  go_wp2_with (refine wpList_run rfl _ (exec_build0 _ 42 rfl _ (build42 _)) ?_)
  go_ret
  exact ⟨rfl, rfl⟩
theorem len_nil (w : World) : Calls Tryd.prog 16 #[.pointer none] w fun e w' => e = .returned (.int .i64 0) ∧ w = w' := by
  go_enter Tryd.func16, Tryd.ntmps16
  go_wp2
  go_ret
  exact ⟨rfl, rfl⟩
theorem len_any (b n : Nat) (w : World) (hc : w.cell? ⟨b, 72, none⟩ = some (.int .i64 n)) : Calls Tryd.prog 16 #[.pointer (some ⟨b, 0, none⟩)] w fun e w' => e = .returned (.int .i64 n) ∧ w = w' := by
  go_enter Tryd.func16, Tryd.ntmps16
  go_wp2
  go_ret
  exact ⟨rfl, rfl⟩
theorem write_nil (s : ByteArray) (w : World) : Calls Tryd.prog 14 #[.pointer none, .string s] w fun e w' => (∃ v, e = .returned v) ∧ w = w' := by
  go_enter Tryd.func14, Tryd.ntmps14
  go_wp2
  refine bodyPost_ret (results_none rfl _ _ _) rfl ?_
  exact ⟨⟨_, rfl⟩, rfl⟩
theorem sum_nil (w : World) : Calls Tryd.prog 15 #[.pointer none] w fun e w' => e = .returned (.string ⟨#[]⟩) ∧ w = w' := by
  go_enter Tryd.func15, Tryd.ntmps15
  go_wp2
  go_ret
  exact ⟨rfl, rfl⟩
end Go.Proofs.YtjkbbndiickcnaaDoor
