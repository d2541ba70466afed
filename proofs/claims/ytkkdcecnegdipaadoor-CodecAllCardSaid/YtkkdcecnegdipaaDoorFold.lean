/- Package codec's Fold: it tells the arithmetic's bytes. Its condition: a length that fits. -/
import Derived.Test.YtkkdcecnegdipaaDoorB64
import Derived.Laws.MakeOwn
import Derived.Laws.IdiomStrings
namespace Go.Proofs.YtkkdcecnegdipaaDoor
open Go.RowKit Go.Shelf
set_option linter.unusedVariables false
attribute [local go_sem] Oper.semAt_some

/-- The folded bytes so far, as cells. -/
def rowF (n : Nat) (l : List UInt8) : Array Value := ((List.range n).map fun k => Value.int .u8 ((foldN n k l 0 : Nat) : Int)).toArray
theorem rowF_size (n : Nat) (l : List UInt8) : (rowF n l).size = n := by simp [rowF]
theorem rowF_get (n : Nat) (l : List UInt8) (k : Nat) (h : k < n) : (rowF n l)[k]? = some (Value.int .u8 ((foldN n k l 0 : Nat) : Int)) := by simp [rowF, h]
theorem rowF_nil (n : Nat) : rowF n [] = (List.replicate n (Value.int .u8 0)).toArray := by
  simp only [rowF, foldN]
  congr 1
  apply List.ext_getElem
  · simp
  · intro i h1 h2; simp
theorem rowF_snoc (n : Nat) (hn : 0 < n) (l : List UInt8) (c : UInt8) : rowF n (l ++ [c]) = (rowF n l).setIfInBounds (l.length % n) (Value.int .u8 ((foldN n (l.length % n) l 0 ^^^ c.toNat : Nat) : Int)) := by
  apply Array.ext
  · simp [rowF]
  · intro i h1 h2
    have hi : i < n := by simpa [rowF] using h1
    have e1 : (rowF n (l ++ [c]))[i] = Value.int .u8 ((foldN n i (l ++ [c]) 0 : Nat) : Int) := by simp [rowF]
    rw [e1, foldN_append, Array.getElem_setIfInBounds (by rw [rowF_size]; exact hi)]
    simp only [foldN, Nat.zero_add]
    by_cases h : l.length % n = i
    · subst h; simp
    · rw [if_neg h, if_neg h]
      simp [rowF]
theorem exec_rem3 {ρ : Operand → Value} {o : Oper} (x y : Operand) (ho : o.op = .binOp .rem 3 x y 3) (a b : Nat) (hx : ρ x = .int .i64 (a : Int)) (hy : ρ y = .int .i64 (b : Int)) (hb : 0 < b) (ha : a < 9223372036854775808) (w : World) : (execOp ρ o).run Tryd.prog w = .ok (.value (.int .i64 ((a % b : Nat) : Int))) w := by
  have hb2 : ¬ ((b : Int) = 0) := by omega
  have hb3 : ¬ (b = 0) := by omega
  have hm : ((a % b : Nat) : Int) = (a : Int) % (b : Int) := by simp
  have hlt : a % b ≤ a := Nat.mod_le a b
  have hwr : IntKind.i64.wrap (((a % b : Nat) : Int)) = ((a % b : Nat) : Int) := by rw [IntKind.wrap_i64]; omega
  unfold execOp; rw [ho]; go_simp
  exact Int.tmod_eq_emod_of_nonneg (by omega)
theorem exec_indexAddr31 {ρ : Operand → Value} {o : Oper} (x y : Operand) (ho : o.op = .indexAddr 33 x y) (g n c j : Nat) (hx : ρ x = .slice (some ⟨g, 0, none⟩) n c) (hy : ρ y = .int .i64 (j : Int)) (hj : j < n) (w : World) : (execOp ρ o).run Tryd.prog w = .ok (.value (.pointer (some ⟨g, j, none⟩))) w := by
  unfold execOp; rw [ho]; go_simp
theorem exec_load5 {ρ : Operand → Value} {o : Oper} (x : Operand) (ho : o.op = .load 5 x) (g j : Nat) (v : Int) (hx : ρ x = .pointer (some ⟨g, j, none⟩)) (w : World) (hc : w.cell? ⟨g, j, none⟩ = some (.int .u8 v)) : (execOp ρ o).run Tryd.prog w = .ok (.value (.int .u8 v)) w := by
  unfold execOp; rw [ho]; go_simp
theorem exec_store5 {ρ : Operand → Value} {o : Oper} (x y : Operand) (ho : o.op = .store 5 x y) (g j : Nat) (v u : Int) (hx : ρ x = .pointer (some ⟨g, j, none⟩)) (hy : ρ y = .int .u8 v) (w : World) (hc : w.cell? ⟨g, j, none⟩ = some (.int .u8 u)) (hf : w.frozen? ⟨g, j, none⟩ = false) : (execOp ρ o).run Tryd.prog w = .ok .skip (w.setCell ⟨g, j, none⟩ (.int .u8 v)) := by
  unfold execOp; rw [ho]; go_simp
theorem exec_xor5 {ρ : Operand → Value} {o : Oper} (x y : Operand) (ho : o.op = .binOp .xor 5 x y 5) (a b : Nat) (hx : ρ x = .int .u8 (a : Int)) (hy : ρ y = .int .u8 (b : Int)) (ha : a < 256) (hb : b < 256) (w : World) : (execOp ρ o).run Tryd.prog w = .ok (.value (.int .u8 ((a ^^^ b : Nat) : Int))) w := by
  unfold execOp; rw [ho]; go_simp
  exact u8_xor_nat a b ha hb
theorem exec_index9 {ρ : Operand → Value} {o : Oper} (x y : Operand) (ho : o.op = .index 9 x y) (s : ByteArray) (k : Nat) (hx : ρ x = .string s) (hy : ρ y = .int .i64 (k : Int)) (hk : k < s.size) (w : World) : (execOp ρ o).run Tryd.prog w = .ok (.value (.int .u8 (s[k].toNat : Int))) w := by
  unfold execOp; rw [ho]; go_simp
theorem make_u8 (m : Nat) (hm : m ≤ 1000) : ∀ W : World, (Instr.makeSlice 33 (.int .i64 (m : Int)) (.int .i64 (m : Int))).run Tryd.prog W = .ok (.slice (some ⟨W.heap.size, 0, none⟩) m m) (W.alloc (.cells (madeCells (Value.int .u8 0).cells m) 5)) := fun W => by
  obtain ⟨i0, hi, hz0, hz1, hz2⟩ := info_parts (show (Tryd.prog.info? 5).map (fun i => (i.zero, i.size, i.bytes)) = some (some (.int .u8 0), 1, 1) by kernel_rfl)
  have h := run_make (P := Tryd.prog) W 33 5 i0 (.int .u8 0) Tryd.underlying33 hi hz0 .i64 .i64 (m : Int) (m : Int) (by omega) (by omega) (by rw [hz2]; omega) (by omega)
  rw [hz1] at h
  simpa using h
theorem made_row (m : Nat) : madeCells (Value.int .u8 0).cells m = rowF m [] := by
  rw [rowF_nil]
  apply Array.ext
  · simp [madeCells, Value.cells]
  · intro i h1 h2
    simp [madeCells, Value.cells, Nat.mod_one]
theorem setCell_row (w : World) (g : Nat) (c : Array Value) (t : TypeId) (fz : Nat × Nat) (j : Nat) (v : Value) (hg : w.heap[g]? = some (.cells c t fz)) : (w.setCell ⟨g, j, none⟩ v).heap[g]? = some (.cells (c.setIfInBounds j v) t fz) := by
  simp [World.setCell, Array.getElem?_modify, hg]

set_option maxHeartbeats 2000000 in
theorem fold_in (s : ByteArray) (n : Nat) (h1 : 1 ≤ n) (hn : n ≤ 64) (w : World) (hs : s.size ≤ 549755813888) :
    Calls Tryd.prog 19 #[.string s, .int .i64 (n : Int)] w fun e w2 => e = .returned (.string ⟨(fold s.data.toList n).toArray⟩) ∧ Below w.heap.size w w2 := by
  refine (callsIn_wide (n := 5)).1 ?_
  refine callsIn_of_wp Tryd.func19 rfl trivial ?_ rfl
  simp only [Tryd.ntmps19, List.size_toArray, List.length_cons, List.length_nil, Nat.reduceAdd, Nat.reduceSub, Array.replicate_succ, Array.replicate_zero, List.push_toArray, List.append_toArray, List.nil_append, List.cons_append]
  have hmk := make_u8 n (by omega)
  rw [made_row] at hmk
  have n1 : ¬ ((n : Int) < 1) := by omega
  have n64 : ¬ ((n : Int) > 64) := by omega
  obtain ⟨g, hg⟩ : ∃ g, g = w.heap.size := ⟨_, rfl⟩
  have hG0 : (w.alloc (.cells (rowF n []) 5)).heap[g]? = some (.cells (rowF n []) 5 (0, 0)) := by rw [hg]; exact World.alloc_heap_new w _
  have hB0 : Below g w (w.alloc (.cells (rowF n []) 5)) := by rw [hg]; exact (Below.refl _ w).alloc (Nat.le_refl _) _
  have hgH := Lib.hid hg
  clear hg
  gi_wp2
  gi_loopw [17] (fun v wr => ∃ i : Nat, v = .int .i64 i ∧ i ≤ s.size ∧ wr.heap[g]? = some (.cells (rowF n (s.data.toList.take i)) 5 (0, 0)) ∧ Below g w wr)
    (fun v _ => s.size - (intOf v).toNat)
  case atStart => exact ⟨0, rfl, Nat.zero_le _, by simpa using hG0, hB0⟩
  case round =>
    obtain ⟨i, rfl, hi, hG, hB⟩ := hrel
    rw [← hgH.out]
    by_cases hlt : i < s.size
    · obtain ⟨P, hP⟩ : ∃ P, P = s.data.toList.take i := ⟨_, rfl⟩
      obtain ⟨j, hj⟩ : ∃ j, j = i % n := ⟨_, rfl⟩
      have hjn : j < n := by rw [hj]; exact Nat.mod_lt _ (by omega)
      obtain ⟨a, ha⟩ : ∃ a, a = foldN n j P 0 := ⟨_, rfl⟩
      have ha8 : a < 256 := by rw [ha]; exact foldN_lt _ _ _ _
      rw [← hP] at hG
      have hPl : P.length = i := by rw [hP, List.length_take]; simp; omega
      have hPn : s.data.toList.take (i + 1) = P ++ [s[i]] := by
        rw [hP, List.take_add_one]
        simp [hlt, ByteArray.getElem_eq_getElem_data]
      have HPN := Lib.hid hPn
      have HPL := Lib.hid hPl
      have hG2 := hG
      clear hP hPn hPl
      gi_wp2
      rename_i K2 hK2
      refine wpIn_mono (Q := onlyK K2) ?_ (fun e a w h => by cases e <;> first | exact h | exact h.elim)
      refine wpIn_region_any (by kernel_rfl) ?_
      change wpAnyIn _ _ _ _ _ _ _ _ _ (World.drew _)
      refine anyIn_of_G (T := fun i => i < 11) (S := (fun i w => w.heap[g]? = some (.cells (rowF n P) 5 (0, 0)))) _ _ _ _ ?_
      have hG2 : wr.drew.heap[g]? = some (.cells (rowF n P) 5 (0, 0)) := hG
      refine AnyG.take 0 (some 20) (.move (.tmp 5)) (.slice (some ⟨g, 0, none⟩) n n) rfl rfl (fun _ e => by cases e) (by kernel_rfl) (by kernel_rfl) (by kernel_rfl) (by kernel_rfl) rfl (fun _ _ _ h => h) (fun o ho w hw => by unfold execOp; rw [ho]; go_simp) hG2 ?_
      simp only [Act.put, List.setIfInBounds_toArray, List.set_cons_succ, List.set_cons_zero]
      refine AnyG.take 1 (some 21) (.move (.tmp 6)) (.int .i64 (i : Int)) rfl rfl (fun _ e => by cases e) (by kernel_rfl) (by kernel_rfl) (by kernel_rfl) (by kernel_rfl) rfl (fun _ _ _ h => h) (fun o ho w hw => by unfold execOp; rw [ho]; go_simp) hG2 ?_
      simp only [Act.put, List.setIfInBounds_toArray, List.set_cons_succ, List.set_cons_zero]
      refine AnyG.take 2 (some 22) (.move (.tmp 1)) (.int .i64 (n : Int)) rfl rfl (fun _ e => by cases e) (by kernel_rfl) (by kernel_rfl) (by kernel_rfl) (by kernel_rfl) rfl (fun _ _ _ h => h) (fun o ho w hw => by unfold execOp; rw [ho]; go_simp) hG2 ?_
      simp only [Act.put, List.setIfInBounds_toArray, List.set_cons_succ, List.set_cons_zero]
      refine AnyG.take 3 (some 23) (.binOp .rem 3 (.tmp 21) (.tmp 22) 3) (.int .i64 (j : Int)) rfl rfl (fun _ e => by cases e) (by kernel_rfl) (by kernel_rfl) (by kernel_rfl) (by kernel_rfl) rfl (fun _ _ _ h => h) (fun o ho w hw => by rw [hj]; exact exec_rem3 (.tmp 21) (.tmp 22) ho i n rfl rfl (by omega) (by omega) w) hG2 ?_
      simp only [Act.put, List.setIfInBounds_toArray, List.set_cons_succ, List.set_cons_zero]
      refine AnyG.take 4 (some 24) (.indexAddr 33 (.tmp 20) (.tmp 23)) (.pointer (some ⟨g, j, none⟩)) rfl rfl (fun _ e => by cases e) (by kernel_rfl) (by kernel_rfl) (by kernel_rfl) (by kernel_rfl) rfl (fun _ _ _ h => h) (fun o ho w hw => exec_indexAddr31 (.tmp 20) (.tmp 23) ho g n n j rfl rfl hjn w) hG2 ?_
      simp only [Act.put, List.setIfInBounds_toArray, List.set_cons_succ, List.set_cons_zero]
      refine AnyG.take 5 (some 25) (.load 5 (.tmp 24)) (.int .u8 (a : Int)) rfl rfl (fun _ e => by cases e) (by kernel_rfl) (by kernel_rfl) (by kernel_rfl) (by kernel_rfl) rfl (fun _ _ _ h => h) (fun o ho w hw => exec_load5 (.tmp 24) ho g j _ rfl w (by rw [Lib.cell_of_heap hw, rowF_get n P j hjn, ha])) hG2 ?_
      simp only [Act.put, List.setIfInBounds_toArray, List.set_cons_succ, List.set_cons_zero]
      refine AnyG.take 6 (some 26) (.move (.tmp 0)) (.string s) rfl rfl (fun _ e => by cases e) (by kernel_rfl) (by kernel_rfl) (by kernel_rfl) (by kernel_rfl) rfl (fun _ _ _ h => h) (fun o ho w hw => by unfold execOp; rw [ho]; go_simp) hG2 ?_
      simp only [Act.put, List.setIfInBounds_toArray, List.set_cons_succ, List.set_cons_zero]
      refine AnyG.take 7 (some 27) (.move (.tmp 6)) (.int .i64 (i : Int)) rfl rfl (fun _ e => by cases e) (by kernel_rfl) (by kernel_rfl) (by kernel_rfl) (by kernel_rfl) rfl (fun _ _ _ h => h) (fun o ho w hw => by unfold execOp; rw [ho]; go_simp) hG2 ?_
      simp only [Act.put, List.setIfInBounds_toArray, List.set_cons_succ, List.set_cons_zero]
      refine AnyG.take 8 (some 28) (.index 9 (.tmp 26) (.tmp 27)) (.int .u8 (s[i].toNat : Int)) rfl rfl (fun _ e => by cases e) (by kernel_rfl) (by kernel_rfl) (by kernel_rfl) (by kernel_rfl) rfl (fun _ _ _ h => h) (fun o ho w hw => exec_index9 (.tmp 26) (.tmp 27) ho s i rfl rfl hlt w) hG2 ?_
      simp only [Act.put, List.setIfInBounds_toArray, List.set_cons_succ, List.set_cons_zero]
      refine AnyG.take 9 (some 29) (.binOp .xor 5 (.tmp 25) (.tmp 28) 5) (.int .u8 ((a ^^^ s[i].toNat : Nat) : Int)) rfl rfl (fun _ e => by cases e) (by kernel_rfl) (by kernel_rfl) (by kernel_rfl) (by kernel_rfl) rfl (fun _ _ _ h => h) (fun o ho w hw => exec_xor5 (.tmp 25) (.tmp 28) ho a s[i].toNat rfl rfl ha8 s[i].toNat_lt w) hG2 ?_
      simp only [Act.put, List.setIfInBounds_toArray, List.set_cons_succ, List.set_cons_zero]
      refine AnyG.take 10 (some 30) (.indexAddr 33 (.tmp 20) (.tmp 23)) (.pointer (some ⟨g, j, none⟩)) rfl rfl (fun _ e => by cases e) (by kernel_rfl) (by kernel_rfl) (by kernel_rfl) (by kernel_rfl) rfl (fun _ _ _ h => h) (fun o ho w hw => exec_indexAddr31 (.tmp 20) (.tmp 23) ho g n n j rfl rfl hjn w) hG2 ?_
      simp only [Act.put, List.setIfInBounds_toArray, List.set_cons_succ, List.set_cons_zero]
      refine AnyG.ready (rs := [11]) (by kernel_rfl) (by simp) (ReadyG.skip (.store 5 (.tmp 30) (.tmp 29)) rfl rfl (fun _ e => by cases e) (fun o ho => exec_store5 (.tmp 30) (.tmp 29) ho g j _ (a : Int) rfl rfl _ (by rw [Lib.cell_of_heap hG2, rowF_get n P j hjn, ha]) (Lib.frozen_of_heap hG2 j)) rfl ?_ ?_ ReadyG.nil)
      · exact tight_any (f := 12) (by kernel_rfl) (Nat.le_refl _)
      refine AnyG.done (by kernel_rfl) ?_ _
      have hG3 := setCell_row _ g _ 5 (0, 0) j (Value.int .u8 ((a ^^^ s[i].toNat : Nat) : Int)) hG2
      have hB3 : Below g w (wr.drew.setCell ⟨g, j, none⟩ (Value.int .u8 ((a ^^^ s[i].toNat : Nat) : Int))) := hB.drew.setCell (p := ⟨g, j, none⟩) (Nat.le_refl _) _
      have hG4 : (wr.drew.setCell ⟨g, j, none⟩ (Value.int .u8 ((a ^^^ s[i].toNat : Nat) : Int))).heap[g]? = some (.cells (rowF n (s.data.toList.take (i + 1))) 5 (0, 0)) := by
        rw [hG3, HPN.out, rowF_snoc n (by omega), HPL.out, ← hj, ← ha]
      have HG4 := Lib.hid hG4
      have HB3 := Lib.hid hB3
      show K2 _ _
      refine hK2 _ _ ?_
      clear hK2 hG3 hB3 hG4 hG hG2 hB
      generalize wr.drew.setCell ⟨g, j, none⟩ (Value.int .u8 ((a ^^^ s[i].toNat : Nat) : Int)) = W5 at *
      gi_wp2
      go_roundw
      case rel => exact ⟨i + 1, by simp, by omega, HG4.out, HB3.out⟩
      case measure => simp [intOf]; omega
    · have hie : i = s.size := by omega
      have hall : s.data.toList.take i = s.data.toList := List.take_of_length_le (by simp; omega)
      rw [hall] at hG
      have hcv : (Go.convert 33 9 (.slice (some ⟨g, 0, none⟩) n n)).run Tryd.prog wr = .ok (.string ⟨(fold s.data.toList n).toArray⟩) wr := by
        have hl : (fold s.data.toList n).length = n := by simp [fold]
        have := run_convert_bytes_back (P := Tryd.prog) wr 33 9 5 ⟨g, 0, none⟩ n (fold s.data.toList n) Tryd.underlying33 Tryd.underlying5 Tryd.underlying9 (fun j hj => by
          have hjn : j < n := by rw [hl] at hj; exact hj
          rw [show (⟨g, 0, none⟩ : Addr).add j = ⟨g, j, none⟩ by unfold Addr.add; split <;> simp_all, Lib.cell_of_heap hG, rowF_get n _ j hjn]
          have hlt2 := foldN_lt n j s.data.toList 0
          simp [fold, Nat.mod_eq_of_lt hlt2])
        rwa [hl] at this
      have HB := Lib.hid hB
      clear hall hG hB
      subst hie
      gi_wp2
      go_ret
      exact ⟨rfl, by rw [← hgH.out]; exact HB.out⟩
/-- Bytes folded, by whatever number. -/
def foldI (l : List UInt8) (n : Int) : List UInt8 := if 1 ≤ n ∧ n ≤ 64 then fold l n.toNat else []
theorem fold_any (s : ByteArray) (n : Int) (w : World) (hs : s.size ≤ 549755813888) :
    Calls Tryd.prog 19 #[.string s, .int .i64 n] w fun e w2 => e = .returned (.string ⟨(foldI s.data.toList n).toArray⟩) ∧ Below w.heap.size w w2 := by
  by_cases hr : 1 ≤ n ∧ n ≤ 64
  · obtain ⟨m, rfl⟩ : ∃ m : Nat, n = (m : Int) := ⟨n.toNat, by omega⟩
    have h := fold_in s m (by omega) (by omega) w hs
    have e : foldI s.data.toList (m : Int) = fold s.data.toList m := by unfold foldI; rw [if_pos hr]; simp
    rw [e]
    exact h
  · have e : Hid (foldI s.data.toList n = []) := by unfold Hid foldI; rw [if_neg hr]
    by_cases h1 : n < 1
    · clear hr
      go_enter Tryd.func19, Tryd.ntmps19
      go_wp2
      go_ret
      exact ⟨by rw [e.out]; rfl, Below.refl _ _⟩
    · have h2 : n > 64 := by omega
      clear hr
      go_enter Tryd.func19, Tryd.ntmps19
      go_wp2
      go_ret
      exact ⟨by rw [e.out]; rfl, Below.refl _ _⟩
end Go.Proofs.YtkkdcecnegdipaaDoor
