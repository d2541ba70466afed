/- Several texts, one behind the other; each says by itself what it proves, and on what conditions. -/
import Derived.Test.YtdbbcngolcnniaaDoorX18
import Derived.Laws.MakeOwn
import Derived.Laws.IdiomStrings
import Derived.RangeFuncNested
import Derived.RangeFuncBound
import Derived.RangeFuncCalls
import Derived.RangeFuncLeaves
import Derived.RangeFuncFrom
import Derived.Shelf.Abstract
import Derived.Shelf.RegionOpen
import Derived.OwnWalkIn
import Derived.TacticsInMore
import Derived.LoopNIn
import Derived.LoopIn
import Derived.RegionIn
/- strings.Clone; the program's end. Its condition: lengths that fit. -/
namespace Go.Proofs.YtdbbcngolcnniaaDoor
open Go.RowKit Go.Shelf
set_option linter.unusedVariables false
set_option linter.unusedSimpArgs false
section
open E
theorem ent41 : Enters Tryd.prog 41 := enters_of Tryd.func41 (by kernel_rfl) rfl
theorem ent21 : Enters Tryd.prog 21 := enters_of Tryd.func21 (by kernel_rfl) rfl
theorem hC0_ok (id : Nat) (s : List UInt8) (hs : s.length ≤ 281474976710656) : HintOk Tryd.prog id (pc 41 #[stv s] (.v (stv s))) := pc_ok ent41 (v := stv s) rfl (fun _ => rfl) fun w => stringslite_Clone ⟨s.toArray⟩ w (by show s.toArray.size ≤ _; simpa using hs)
set_option maxRecDepth 100000 in
theorem clone_any (s : List UInt8) (hs : s.length ≤ 281474976710656) (w : World) : Calls Tryd.prog 21 #[stv s] w fun e w' => e = .returned (stv s) ∧ Below w.heap.size w w' := by
  refine At.calls (args := [.v (stv s)]) (rows := []) (gl := []) (wr := []) (ρ := fun _ => (⟨0, 0, 0⟩ : Blk)) Tryd.func21 rfl rfl (init_rw ⟨rfl, trivial⟩ rfl rfl rfl (fun p hp => by cases hp) (fun p hp => by cases hp) (fun p hp => by cases hp)) rfl ?_
  exact At.fin rfl [(2001, pc 41 #[stv s] (.v (stv s)))] ⟨hC0_ok _ _ hs, trivial⟩ [] (x := .v (stv s)) (ob := qL (pc 41 #[stv s] (.v (stv s)))) (by kernel_rfl) (all_qL _) fun ρ' w' hf _ => ⟨rfl, hf.below⟩
abbrev hCl (s : List UInt8) : Hint := pc 21 #[stv s] (.v (stv s))
theorem hCl_ok (id : Nat) (s : List UInt8) (hs : s.length ≤ 281474976710656) : HintOk Tryd.prog id (hCl s) := pc_ok ent21 (v := stv s) rfl (fun _ => rfl) fun w => clone_any s hs w
end
end Go.Proofs.YtdbbcngolcnniaaDoor
/- Package codec's Fold: it tells the arithmetic's bytes. Its condition: a length that fits. -/
namespace Go.Proofs.YtdbbcngolcnniaaDoor
set_option linter.unusedSimpArgs false
open Go.RowKit Go.Shelf
set_option linter.unusedVariables false
attribute [local go_sem] Oper.semAt_some

/-- The folded bytes so far, as cells. -/
def rowF (n : Nat) (l : List UInt8) : Array Value := ((List.range n).map fun k => Value.int .u8 ((foldN n k l 0 : Nat) : Int)).toArray
theorem rowF_size (n : Nat) (l : List UInt8) : (rowF n l).size = n := by simp [rowF]
theorem rowF_get (n : Nat) (l : List UInt8) (k : Nat) (h : k < n) : (rowF n l)[k]? = some (Value.int .u8 ((foldN n k l 0 : Nat) : Int)) := by simp [rowF, h]
theorem rowF_nil (n : Nat) : rowF n [] = (List.replicate n (Value.int .u8 0)).toArray := by
  simp only [rowF, foldN]
  congr 1
  apply List.ext_getElem
  · simp
  · intro i h1 h2; simp
theorem rowF_snoc (n : Nat) (hn : 0 < n) (l : List UInt8) (c : UInt8) : rowF n (l ++ [c]) = (rowF n l).setIfInBounds (l.length % n) (Value.int .u8 ((foldN n (l.length % n) l 0 ^^^ c.toNat : Nat) : Int)) := by
  apply Array.ext
  · simp [rowF]
  · intro i h1 h2
    have hi : i < n := by simpa [rowF] using h1
    have e1 : (rowF n (l ++ [c]))[i] = Value.int .u8 ((foldN n i (l ++ [c]) 0 : Nat) : Int) := by simp [rowF]
    rw [e1, foldN_append, Array.getElem_setIfInBounds (by rw [rowF_size]; exact hi)]
    simp only [foldN, Nat.zero_add]
    by_cases h : l.length % n = i
    · subst h; simp
    · rw [if_neg h, if_neg h]
      simp [rowF]
theorem exec_rem3 {ρ : Operand → Value} {o : Oper} (x y : Operand) (ho : o.op = .binOp .rem 3 x y 3) (a b : Nat) (hx : ρ x = .int .i64 (a : Int)) (hy : ρ y = .int .i64 (b : Int)) (hb : 0 < b) (ha : a < 9223372036854775808) (w : World) : (execOp ρ o).run Tryd.prog w = .ok (.value (.int .i64 ((a % b : Nat) : Int))) w := by
  have hb2 : ¬ ((b : Int) = 0) := by omega
  have hb3 : ¬ (b = 0) := by omega
  have hm : ((a % b : Nat) : Int) = (a : Int) % (b : Int) := by simp
  have hlt : a % b ≤ a := Nat.mod_le a b
  have hwr : IntKind.i64.wrap (((a % b : Nat) : Int)) = ((a % b : Nat) : Int) := by rw [IntKind.wrap_i64]; omega
  unfold execOp; rw [ho]; go_simp
  exact Int.tmod_eq_emod_of_nonneg (by omega)
theorem exec_indexAddr31 {ρ : Operand → Value} {o : Oper} (x y : Operand) (ho : o.op = .indexAddr 41 x y) (g n c j : Nat) (hx : ρ x = .slice (some ⟨g, 0, none⟩) n c) (hy : ρ y = .int .i64 (j : Int)) (hj : j < n) (w : World) : (execOp ρ o).run Tryd.prog w = .ok (.value (.pointer (some ⟨g, j, none⟩))) w := by
  unfold execOp; rw [ho]; go_simp
theorem exec_load5 {ρ : Operand → Value} {o : Oper} (x : Operand) (ho : o.op = .load 5 x) (g j : Nat) (v : Int) (hx : ρ x = .pointer (some ⟨g, j, none⟩)) (w : World) (hc : w.cell? ⟨g, j, none⟩ = some (.int .u8 v)) : (execOp ρ o).run Tryd.prog w = .ok (.value (.int .u8 v)) w := by
  unfold execOp; rw [ho]; go_simp
theorem exec_store5 {ρ : Operand → Value} {o : Oper} (x y : Operand) (ho : o.op = .store 5 x y) (g j : Nat) (v u : Int) (hx : ρ x = .pointer (some ⟨g, j, none⟩)) (hy : ρ y = .int .u8 v) (w : World) (hc : w.cell? ⟨g, j, none⟩ = some (.int .u8 u)) (hf : w.frozen? ⟨g, j, none⟩ = false) : (execOp ρ o).run Tryd.prog w = .ok .skip (w.setCell ⟨g, j, none⟩ (.int .u8 v)) := by
  unfold execOp; rw [ho]; go_simp
theorem exec_xor5 {ρ : Operand → Value} {o : Oper} (x y : Operand) (ho : o.op = .binOp .xor 5 x y 5) (a b : Nat) (hx : ρ x = .int .u8 (a : Int)) (hy : ρ y = .int .u8 (b : Int)) (ha : a < 256) (hb : b < 256) (w : World) : (execOp ρ o).run Tryd.prog w = .ok (.value (.int .u8 ((a ^^^ b : Nat) : Int))) w := by
  unfold execOp; rw [ho]; go_simp
  exact u8_xor_nat a b ha hb
theorem exec_index9 {ρ : Operand → Value} {o : Oper} (x y : Operand) (ho : o.op = .index 9 x y) (s : ByteArray) (k : Nat) (hx : ρ x = .string s) (hy : ρ y = .int .i64 (k : Int)) (hk : k < s.size) (w : World) : (execOp ρ o).run Tryd.prog w = .ok (.value (.int .u8 (s[k].toNat : Int))) w := by
  unfold execOp; rw [ho]; go_simp
theorem make_u8 (m : Nat) (hm : m ≤ 1000) : ∀ W : World, (Instr.makeSlice 41 (.int .i64 (m : Int)) (.int .i64 (m : Int))).run Tryd.prog W = .ok (.slice (some ⟨W.heap.size, 0, none⟩) m m) (W.alloc (.cells (madeCells (Value.int .u8 0).cells m) 5)) := fun W => by
  obtain ⟨i0, hi, hz0, hz1, hz2⟩ := info_parts (show (Tryd.prog.info? 5).map (fun i => (i.zero, i.size, i.bytes)) = some (some (.int .u8 0), 1, 1) by kernel_rfl)
  have h := run_make (P := Tryd.prog) W 41 5 i0 (.int .u8 0) Tryd.underlying41 hi hz0 .i64 .i64 (m : Int) (m : Int) (by omega) (by omega) (by rw [hz2]; omega) (by omega)
  rw [hz1] at h
  simpa using h
theorem made_row (m : Nat) : madeCells (Value.int .u8 0).cells m = rowF m [] := by
  rw [rowF_nil]
  apply Array.ext
  · simp [madeCells, Value.cells]
  · intro i h1 h2
    simp [madeCells, Value.cells, Nat.mod_one]
theorem setCell_row (w : World) (g : Nat) (c : Array Value) (t : TypeId) (fz : Nat × Nat) (j : Nat) (v : Value) (hg : w.heap[g]? = some (.cells c t fz)) : (w.setCell ⟨g, j, none⟩ v).heap[g]? = some (.cells (c.setIfInBounds j v) t fz) := by
  simp [World.setCell, Array.getElem?_modify, hg]

set_option maxHeartbeats 2000000 in
theorem fold_in (s : ByteArray) (n : Nat) (h1 : 1 ≤ n) (hn : n ≤ 64) (w : World) (hs : s.size ≤ 549755813888) :
    Calls Tryd.prog 26 #[.string s, .int .i64 (n : Int)] w fun e w2 => e = .returned (.string ⟨(fold s.data.toList n).toArray⟩) ∧ Below w.heap.size w w2 := by
  refine (callsIn_wide (n := 5)).1 ?_
  refine callsIn_of_wp Tryd.func26 rfl trivial ?_ rfl
  simp only [Tryd.ntmps26, List.size_toArray, List.length_cons, List.length_nil, Nat.reduceAdd, Nat.reduceSub, Array.replicate_succ, Array.replicate_zero, List.push_toArray, List.append_toArray, List.nil_append, List.cons_append]
  have hmk := make_u8 n (by omega)
  rw [made_row] at hmk
  have n1 : ¬ ((n : Int) < 1) := by omega
  have n64 : ¬ ((n : Int) > 64) := by omega
  obtain ⟨g, hg⟩ : ∃ g, g = w.heap.size := ⟨_, rfl⟩
  have hG0 : (w.alloc (.cells (rowF n []) 5)).heap[g]? = some (.cells (rowF n []) 5 (0, 0)) := by rw [hg]; exact World.alloc_heap_new w _
  have hB0 : Below g w (w.alloc (.cells (rowF n []) 5)) := by rw [hg]; exact (Below.refl _ w).alloc (Nat.le_refl _) _
  have hgH := Lib.hid hg
  clear hg
  gi_wp2
  gi_loopw [17] (fun v wr => ∃ i : Nat, v = .int .i64 i ∧ i ≤ s.size ∧ wr.heap[g]? = some (.cells (rowF n (s.data.toList.take i)) 5 (0, 0)) ∧ Below g w wr)
    (fun v _ => s.size - (intOf v).toNat)
  case atStart => exact ⟨0, rfl, Nat.zero_le _, by simpa using hG0, hB0⟩
  case round =>
    obtain ⟨i, rfl, hi, hG, hB⟩ := hrel
    rw [← hgH.out]
    by_cases hlt : i < s.size
    · obtain ⟨P, hP⟩ : ∃ P, P = s.data.toList.take i := ⟨_, rfl⟩
      obtain ⟨j, hj⟩ : ∃ j, j = i % n := ⟨_, rfl⟩
      have hjn : j < n := by rw [hj]; exact Nat.mod_lt _ (by omega)
      obtain ⟨a, ha⟩ : ∃ a, a = foldN n j P 0 := ⟨_, rfl⟩
      have ha8 : a < 256 := by rw [ha]; exact foldN_lt _ _ _ _
      rw [← hP] at hG
      have hPl : P.length = i := by rw [hP, List.length_take]; simp; omega
      have hPn : s.data.toList.take (i + 1) = P ++ [s[i]] := by
        rw [hP, List.take_add_one]
        simp [hlt, ByteArray.getElem_eq_getElem_data]
      have HPN := Lib.hid hPn
      have HPL := Lib.hid hPl
      have hG2 := hG
      clear hP hPn hPl
      gi_wp2
      rename_i K2 hK2
      refine wpIn_mono (Q := onlyK K2) ?_ (fun e a w h => by cases e <;> first | exact h | exact h.elim)
      refine wpIn_region_any (by kernel_rfl) ?_
      change wpAnyIn _ _ _ _ _ _ _ _ _ (World.drew _)
      refine anyIn_of_G (T := fun i => i < 11) (S := (fun i w => w.heap[g]? = some (.cells (rowF n P) 5 (0, 0)))) _ _ _ _ ?_
      have hG2 : wr.drew.heap[g]? = some (.cells (rowF n P) 5 (0, 0)) := hG
      refine AnyG.take 0 (some 20) (.move (.tmp 5)) (.slice (some ⟨g, 0, none⟩) n n) rfl rfl (fun _ e => by cases e) (by kernel_rfl) (by kernel_rfl) (by kernel_rfl) (by kernel_rfl) rfl (fun _ _ _ h => h) (fun o ho w hw => by unfold execOp; rw [ho]; go_simp) hG2 ?_
      simp only [Act.put, List.setIfInBounds_toArray, List.set_cons_succ, List.set_cons_zero]
      refine AnyG.take 1 (some 21) (.move (.tmp 6)) (.int .i64 (i : Int)) rfl rfl (fun _ e => by cases e) (by kernel_rfl) (by kernel_rfl) (by kernel_rfl) (by kernel_rfl) rfl (fun _ _ _ h => h) (fun o ho w hw => by unfold execOp; rw [ho]; go_simp) hG2 ?_
      simp only [Act.put, List.setIfInBounds_toArray, List.set_cons_succ, List.set_cons_zero]
      refine AnyG.take 2 (some 22) (.move (.tmp 1)) (.int .i64 (n : Int)) rfl rfl (fun _ e => by cases e) (by kernel_rfl) (by kernel_rfl) (by kernel_rfl) (by kernel_rfl) rfl (fun _ _ _ h => h) (fun o ho w hw => by unfold execOp; rw [ho]; go_simp) hG2 ?_
      simp only [Act.put, List.setIfInBounds_toArray, List.set_cons_succ, List.set_cons_zero]
      refine AnyG.take 3 (some 23) (.binOp .rem 3 (.tmp 21) (.tmp 22) 3) (.int .i64 (j : Int)) rfl rfl (fun _ e => by cases e) (by kernel_rfl) (by kernel_rfl) (by kernel_rfl) (by kernel_rfl) rfl (fun _ _ _ h => h) (fun o ho w hw => by rw [hj]; exact exec_rem3 (.tmp 21) (.tmp 22) ho i n rfl rfl (by omega) (by omega) w) hG2 ?_
      simp only [Act.put, List.setIfInBounds_toArray, List.set_cons_succ, List.set_cons_zero]
      refine AnyG.take 4 (some 24) (.indexAddr 41 (.tmp 20) (.tmp 23)) (.pointer (some ⟨g, j, none⟩)) rfl rfl (fun _ e => by cases e) (by kernel_rfl) (by kernel_rfl) (by kernel_rfl) (by kernel_rfl) rfl (fun _ _ _ h => h) (fun o ho w hw => exec_indexAddr31 (.tmp 20) (.tmp 23) ho g n n j rfl rfl hjn w) hG2 ?_
      simp only [Act.put, List.setIfInBounds_toArray, List.set_cons_succ, List.set_cons_zero]
      refine AnyG.take 5 (some 25) (.load 5 (.tmp 24)) (.int .u8 (a : Int)) rfl rfl (fun _ e => by cases e) (by kernel_rfl) (by kernel_rfl) (by kernel_rfl) (by kernel_rfl) rfl (fun _ _ _ h => h) (fun o ho w hw => exec_load5 (.tmp 24) ho g j _ rfl w (by rw [Lib.cell_of_heap hw, rowF_get n P j hjn, ha])) hG2 ?_
      simp only [Act.put, List.setIfInBounds_toArray, List.set_cons_succ, List.set_cons_zero]
      refine AnyG.take 6 (some 26) (.move (.tmp 0)) (.string s) rfl rfl (fun _ e => by cases e) (by kernel_rfl) (by kernel_rfl) (by kernel_rfl) (by kernel_rfl) rfl (fun _ _ _ h => h) (fun o ho w hw => by unfold execOp; rw [ho]; go_simp) hG2 ?_
      simp only [Act.put, List.setIfInBounds_toArray, List.set_cons_succ, List.set_cons_zero]
      refine AnyG.take 7 (some 27) (.move (.tmp 6)) (.int .i64 (i : Int)) rfl rfl (fun _ e => by cases e) (by kernel_rfl) (by kernel_rfl) (by kernel_rfl) (by kernel_rfl) rfl (fun _ _ _ h => h) (fun o ho w hw => by unfold execOp; rw [ho]; go_simp) hG2 ?_
      simp only [Act.put, List.setIfInBounds_toArray, List.set_cons_succ, List.set_cons_zero]
      refine AnyG.take 8 (some 28) (.index 9 (.tmp 26) (.tmp 27)) (.int .u8 (s[i].toNat : Int)) rfl rfl (fun _ e => by cases e) (by kernel_rfl) (by kernel_rfl) (by kernel_rfl) (by kernel_rfl) rfl (fun _ _ _ h => h) (fun o ho w hw => exec_index9 (.tmp 26) (.tmp 27) ho s i rfl rfl hlt w) hG2 ?_
      simp only [Act.put, List.setIfInBounds_toArray, List.set_cons_succ, List.set_cons_zero]
      refine AnyG.take 9 (some 29) (.binOp .xor 5 (.tmp 25) (.tmp 28) 5) (.int .u8 ((a ^^^ s[i].toNat : Nat) : Int)) rfl rfl (fun _ e => by cases e) (by kernel_rfl) (by kernel_rfl) (by kernel_rfl) (by kernel_rfl) rfl (fun _ _ _ h => h) (fun o ho w hw => exec_xor5 (.tmp 25) (.tmp 28) ho a s[i].toNat rfl rfl ha8 s[i].toNat_lt w) hG2 ?_
      simp only [Act.put, List.setIfInBounds_toArray, List.set_cons_succ, List.set_cons_zero]
      refine AnyG.take 10 (some 30) (.indexAddr 41 (.tmp 20) (.tmp 23)) (.pointer (some ⟨g, j, none⟩)) rfl rfl (fun _ e => by cases e) (by kernel_rfl) (by kernel_rfl) (by kernel_rfl) (by kernel_rfl) rfl (fun _ _ _ h => h) (fun o ho w hw => exec_indexAddr31 (.tmp 20) (.tmp 23) ho g n n j rfl rfl hjn w) hG2 ?_
      simp only [Act.put, List.setIfInBounds_toArray, List.set_cons_succ, List.set_cons_zero]
      refine AnyG.ready (rs := [11]) (by kernel_rfl) (by simp) (ReadyG.skip (.store 5 (.tmp 30) (.tmp 29)) rfl rfl (fun _ e => by cases e) (fun o ho => exec_store5 (.tmp 30) (.tmp 29) ho g j _ (a : Int) rfl rfl _ (by rw [Lib.cell_of_heap hG2, rowF_get n P j hjn, ha]) (Lib.frozen_of_heap hG2 j)) rfl ?_ ?_ ReadyG.nil)
      · exact tight_any (f := 12) (by kernel_rfl) (Nat.le_refl _)
      refine AnyG.done (by kernel_rfl) ?_ _
      have hG3 := setCell_row _ g _ 5 (0, 0) j (Value.int .u8 ((a ^^^ s[i].toNat : Nat) : Int)) hG2
      have hB3 : Below g w (wr.drew.setCell ⟨g, j, none⟩ (Value.int .u8 ((a ^^^ s[i].toNat : Nat) : Int))) := hB.drew.setCell (p := ⟨g, j, none⟩) (Nat.le_refl _) _
      have hG4 : (wr.drew.setCell ⟨g, j, none⟩ (Value.int .u8 ((a ^^^ s[i].toNat : Nat) : Int))).heap[g]? = some (.cells (rowF n (s.data.toList.take (i + 1))) 5 (0, 0)) := by
        rw [hG3, HPN.out, rowF_snoc n (by omega), HPL.out, ← hj, ← ha]
      have HG4 := Lib.hid hG4
      have HB3 := Lib.hid hB3
      show K2 _ _
      refine hK2 _ _ ?_
      clear hK2 hG3 hB3 hG4 hG hG2 hB
      generalize wr.drew.setCell ⟨g, j, none⟩ (Value.int .u8 ((a ^^^ s[i].toNat : Nat) : Int)) = W5 at *
      gi_wp2
      go_roundw
      case rel => exact ⟨i + 1, by simp, by omega, HG4.out, HB3.out⟩
      case measure => simp [intOf]; omega
    · have hie : i = s.size := by omega
      have hall : s.data.toList.take i = s.data.toList := List.take_of_length_le (by simp; omega)
      rw [hall] at hG
      have hcv : (Go.convert 41 9 (.slice (some ⟨g, 0, none⟩) n n)).run Tryd.prog wr = .ok (.string ⟨(fold s.data.toList n).toArray⟩) wr := by
        have hl : (fold s.data.toList n).length = n := by simp [fold]
        have := run_convert_bytes_back (P := Tryd.prog) wr 41 9 5 ⟨g, 0, none⟩ n (fold s.data.toList n) Tryd.underlying41 Tryd.underlying5 Tryd.underlying9 (fun j hj => by
          have hjn : j < n := by rw [hl] at hj; exact hj
          rw [show (⟨g, 0, none⟩ : Addr).add j = ⟨g, j, none⟩ by unfold Addr.add; split <;> simp_all, Lib.cell_of_heap hG, rowF_get n _ j hjn]
          have hlt2 := foldN_lt n j s.data.toList 0
          simp [fold, Nat.mod_eq_of_lt hlt2])
        rwa [hl] at this
      have HB := Lib.hid hB
      clear hall hG hB
      subst hie
      gi_wp2
      go_ret
      exact ⟨rfl, by rw [← hgH.out]; exact HB.out⟩
/-- Bytes folded, by whatever number. -/
def foldI (l : List UInt8) (n : Int) : List UInt8 := if 1 ≤ n ∧ n ≤ 64 then fold l n.toNat else []
theorem fold_any (s : ByteArray) (n : Int) (w : World) (hs : s.size ≤ 549755813888) :
    Calls Tryd.prog 26 #[.string s, .int .i64 n] w fun e w2 => e = .returned (.string ⟨(foldI s.data.toList n).toArray⟩) ∧ Below w.heap.size w w2 := by
  by_cases hr : 1 ≤ n ∧ n ≤ 64
  · obtain ⟨m, rfl⟩ : ∃ m : Nat, n = (m : Int) := ⟨n.toNat, by omega⟩
    have h := fold_in s m (by omega) (by omega) w hs
    have e : foldI s.data.toList (m : Int) = fold s.data.toList m := by unfold foldI; rw [if_pos hr]; simp
    rw [e]
    exact h
  · have e : Hid (foldI s.data.toList n = []) := by unfold Hid foldI; rw [if_neg hr]
    by_cases h1 : n < 1
    · clear hr
      go_enter Tryd.func26, Tryd.ntmps26
      go_wp2
      go_ret
      exact ⟨by rw [e.out]; rfl, Below.refl _ _⟩
    · have h2 : n > 64 := by omega
      clear hr
      go_enter Tryd.func26, Tryd.ntmps26
      go_wp2
      go_ret
      exact ⟨by rw [e.out]; rfl, Below.refl _ _⟩
end Go.Proofs.YtdbbcngolcnniaaDoor
/- What a range over a function wants: laws on operations inside a round, and what the iterator of package sha hands its rounds: the whole blocks of a text, in order. No condition. -/
namespace Go.Proofs.YtdbbcngolcnniaaDoor.S3
set_option linter.unusedSimpArgs false
open Go.RowKit Go.Shelf
set_option linter.unusedVariables false
attribute [local go_sem] Oper.semAt_some

section
variable {F : Fence} {n : Nat} {P : Program} {ops : Array Oper} {Q : Exit → Act → World → Prop} {a : Act} {w w2 : World} {rest : List Oper} {o : Oper}
theorem wpListIn_run (hgd : o.guard = none) (hab : o.about P w a.eval = none) (hsem : o.semAt F.round a.eval = execOp a.eval o) (v : Value)
    (hrun : (execOp a.eval o).run P w = .ok (.value v) w2) (h : wpListIn F n P ops Q rest (a.put o.dst v) w2) : wpListIn F n P ops Q (o :: rest) a w :=
  wpListIn_plain hgd fun K hK => ⟨fun f hf => (by rw [hab] at hf; cases hf), by rw [hsem, hrun]; exact hK _ _ h⟩
theorem wpListIn_run0 (hgd : o.guard = none) (hab : o.about P w a.eval = none) (hsem : o.semAt F.round a.eval = execOp a.eval o)
    (hrun : (execOp a.eval o).run P w = .ok .skip w2) (h : wpListIn F n P ops Q rest (a.put o.dst undef) w2) : wpListIn F n P ops Q (o :: rest) a w :=
  wpListIn_plain hgd fun K hK => ⟨fun f hf => (by rw [hab] at hf; cases hf), by rw [hsem, hrun]; exact hK _ _ h⟩

variable {md : Region.Mode} {fuel : Nat} {listed : Array Bool} {w3 : World} {i j : Nat} {rs : List Nat}
theorem opIn_run {K : Act → World → Prop} (hnc : ∀ c, o.op ≠ .call c) (hnd : ∀ c, o.op ≠ .defer c) (hg : o.guard = none) (v : Value) (hrun : (execOp a.eval o).run P w = .ok (.value v) w2) (h : K (a.put o.dst v) w2) :
    Oper.wpIn F n P o a w K Q := by
  have hab : o.about P w a.eval = none := by
    unfold Oper.about
    cases ho : o.op <;> first | rfl | exact absurd ho (hnc _)
  have hsem : o.semAt F.round a.eval = execOp a.eval o := by
    cases hr : F.round with
    | none => exact Oper.semAt_none _ _
    | some l => exact Oper.semAt_some l _ _ hnd
  exact ⟨fun f hf => (by rw [hab] at hf; cases hf), by rw [hsem, hrun]; exact h⟩
theorem AllReadyIn.op (d : Option Tmp) (opr : Op) (ho : (ops[i]?).map (fun o => (o.dst, o.op, o.guard)) = some (d, opr, none)) (hnc : ∀ c, opr ≠ .call c) (hnd : ∀ c, opr ≠ .defer c) (v : Value)
    (hrun : ∀ o : Oper, o.op = opr → (execOp a.eval o).run P w = .ok (.value v) w2) (h : wpAnyIn F n P md ops Q fuel (listed.setIfInBounds i true) (a.put d v) w2)
    (hs : AllReadyIn F n P md ops Q fuel listed a w rs) : AllReadyIn F n P md ops Q fuel listed a w (i :: rs) := by
  cases hq : ops[i]? with
  | none => simp [hq] at ho
  | some o =>
    simp [hq] at ho
    obtain ⟨rfl, rfl, hg⟩ := ho
    exact AllReadyIn.cons hq (fun K' hK => by rw [if_pos (by simp [Region.wanted, hg])]; exact opIn_run hnc hnd hg v (hrun o rfl) (hK _ _ h)) hs
theorem anyIn_one (i : Nat) (d : Option Tmp) (opr : Op) (hr : Region.ready md ops listed = [i]) (ho : (ops[i]?).map (fun o => (o.dst, o.op, o.guard)) = some (d, opr, none)) (hnc : ∀ c, opr ≠ .call c) (hnd : ∀ c, opr ≠ .defer c) (v : Value)
    (hrun : ∀ o : Oper, o.op = opr → (execOp a.eval o).run P w = .ok (.value v) w2) (h : wpAnyIn F n P md ops Q fuel (listed.setIfInBounds i true) (a.put d v) w2) : wpAnyIn F n P md ops Q (fuel + 1) listed a w :=
  wpAnyIn_ready hr (by simp) (AllReadyIn.op d opr ho hnc hnd v hrun h AllReadyIn.nil)
theorem anyIn_two (i j : Nat) (d : Option Tmp) (opr : Op) (d2 : Option Tmp) (opr2 : Op) (hr : Region.ready md ops listed = [i, j]) (ho : (ops[i]?).map (fun o => (o.dst, o.op, o.guard)) = some (d, opr, none))
    (ho2 : (ops[j]?).map (fun o => (o.dst, o.op, o.guard)) = some (d2, opr2, none)) (hnc : ∀ c, opr ≠ .call c) (hnd : ∀ c, opr ≠ .defer c) (hnc2 : ∀ c, opr2 ≠ .call c) (hnd2 : ∀ c, opr2 ≠ .defer c) (v v2 : Value)
    (hrun : ∀ o : Oper, o.op = opr → (execOp a.eval o).run P w = .ok (.value v) w2) (hrun2 : ∀ o : Oper, o.op = opr2 → (execOp a.eval o).run P w = .ok (.value v2) w3)
    (h : wpAnyIn F n P md ops Q fuel (listed.setIfInBounds i true) (a.put d v) w2) (h2 : wpAnyIn F n P md ops Q fuel (listed.setIfInBounds j true) (a.put d2 v2) w3) : wpAnyIn F n P md ops Q (fuel + 1) listed a w :=
  wpAnyIn_ready hr (by simp) (AllReadyIn.op d opr ho hnc hnd v hrun h (AllReadyIn.op d2 opr2 ho2 hnc2 hnd2 v2 hrun2 h2 AllReadyIn.nil))
theorem anyIn_take (i : Nat) (d : Option Tmp) (opr : Op) (v : Value) (ho : (ops[i]?).map (fun o => (o.dst, o.op, o.guard)) = some (d, opr, none)) (hnc : ∀ c, opr ≠ .call c) (hro : F.round = none) (hs : Region.noSelect ops = true) (hf : Region.free md ops listed i = true) (hr : (Region.ready md ops listed).contains i = true)
    (hQ : ∀ c a w, Q (.panic c) (a.put d v) w → Q (.panic c) a w) (hy : ∀ (o : Oper), o.op = opr → ∀ w, (execOp a.eval o).run P w = .ok (.value v) w)
    (h : wpAnyIn F n P md ops Q fuel (listed.setIfInBounds i true) (a.put d v) w) : wpAnyIn F n P md ops Q (fuel + 1) listed a w := by
  cases hq : ops[i]? with
  | none => simp [hq] at ho
  | some o =>
    simp [hq] at ho
    obtain ⟨rfl, rfl, hg⟩ := ho
    refine wpAnyIn_take hro hq hs hf hr hQ ⟨Or.inl ⟨by simp [Region.wanted, hg], hy o rfl⟩, fun w => ?_⟩ h
    unfold Oper.about
    cases ho : o.op <;> first | rfl | exact absurd ho (hnc _)
theorem AllReadyIn.yield (d : Option Tmp) (f : Operand) (args : Array Operand) (tys : Array TypeId) (ho : (ops[i]?).map (fun o => (o.dst, o.op, o.guard)) = some (d, .call { callee := .value f, args := args, argTypes := tys }, none))
    (l : Nat) (hf : a.eval f = .func (.yield l) #[] #[]) (avs : Array Value) (has : args.map a.eval = avs) (R : Ending → World → Prop) (hy : YieldAt F (n - 1) P l avs w R) (hn : 1 ≤ n)
    (hK : ∀ v w', R (.returned v) w' → wpAnyIn F n P md ops Q fuel (listed.setIfInBounds i true) (a.put d v) w') (hnp : ∀ c w', ¬ R (.panicked c) w') (hno : ∀ w', ¬ R .outgrown w')
    (hs : AllReadyIn F n P md ops Q fuel listed a w rs) : AllReadyIn F n P md ops Q fuel listed a w (i :: rs) := by
  cases hq : ops[i]? with
  | none => simp [hq] at ho
  | some o =>
    simp [hq] at ho
    obtain ⟨rfl, hop, hg⟩ := ho
    refine AllReadyIn.cons hq (fun K' hK' => ?_) hs
    rw [if_pos (by simp [Region.wanted, hg])]
    obtain ⟨fn, tmps, assign, body, hrun, hR⟩ := hy
    have hsem : o.semAt F.round a.eval = execOp a.eval o := by
      cases hr : F.round with
      | none => exact Oper.semAt_none _ _
      | some l => exact Oper.semAt_some l _ _ (fun c => by rw [hop]; exact fun e => by cases e)
    have hres : (resolve a.eval { callee := .value f, args := args, argTypes := tys } o.type).run P w = .ok { target := .fn (.yield l) #[], args := avs } w := by
      simp [resolve, hf, has, Deferred.ofValue]
    refine ⟨fun f' hf' => ?_, ?_⟩
    · unfold Oper.about at hf'
      simp only [hop, hres] at hf'
      simp [Target.leads] at hf'
    · rw [hsem]
      have hx : (execOp a.eval o).run P w = .ok (.round l fn tmps assign body) w := by
        unfold execOp
        simp only [hop, Sem.run_bind, hres, Result.andThen_ok, invoke]
        exact hrun
      rw [hx, Oper.uponIn_round]
      refine ⟨fun _ => hn, hR.mono ?_⟩
      intro e w' hr
      cases e with
      | returned v => exact hK' _ _ (hK v w' hr)
      | panicked c => exact (hnp c w' hr).elim
      | outgrown => exact (hno w' hr).elim
end

structure Fr (S : Nat → Prop) (w w' : World) : Prop where
  os : w'.os = w.os
  tape : w'.tape = w.tape
  output : w'.output = w.output
  size : w.heap.size ≤ w'.heap.size
  block : ∀ k, k < w.heap.size → ¬ S k → w'.heap[k]? = w.heap[k]?

theorem Fr.refl (S : Nat → Prop) (w : World) : Fr S w w := ⟨rfl, rfl, rfl, Nat.le_refl _, fun _ _ _ => rfl⟩
theorem Fr.trans {S : Nat → Prop} {a b c : World} (h : Fr S a b) (k : Fr S b c) : Fr S a c :=
  ⟨k.os.trans h.os, k.tape.trans h.tape, k.output.trans h.output, Nat.le_trans h.size k.size, fun i hi hS => (k.block i (Nat.lt_of_lt_of_le hi h.size) hS).trans (h.block i hi hS)⟩
theorem Fr.mono {S T : Nat → Prop} {a b : World} (h : Fr S a b) (hST : ∀ k, k < a.heap.size → S k → T k) : Fr T a b := ⟨h.os, h.tape, h.output, h.size, fun k hk hT => h.block k hk (fun hS => hT (hST k hk hS))⟩
theorem Fr.drew {S : Nat → Prop} {a w : World} (h : Fr S a w) : Fr S a w.drew := ⟨h.os, h.tape, h.output, h.size, h.block⟩
theorem Fr.alloc {S : Nat → Prop} {a w : World} (h : Fr S a w) (o : Obj) : Fr S a (w.alloc o) :=
  h.trans ⟨rfl, rfl, rfl, by simp, fun k hk _ => Below.heap_alloc _ _ _ hk⟩
theorem Fr.setCell {S : Nat → Prop} {a w : World} (h : Fr S a w) {p : Addr} (hp : S p.block) (u : Value) : Fr S a (w.setCell p u) :=
  h.trans ⟨rfl, rfl, rfl, by simp [World.setCell], fun k _ hS => Below.heap_setCell _ _ _ _ (fun e => hS (e ▸ hp))⟩
theorem Fr.setRow {S : Nat → Prop} {a w : World} (h : Fr S a w) {g : Nat} (hp : S g) (cs : Array Value) : Fr S a (w.setRow g cs) :=
  h.trans ⟨rfl, rfl, rfl, by simp, fun k _ hS => setRow_other _ _ _ _ (fun e => hS (e ▸ hp))⟩
theorem Fr.below {S : Nat → Prop} {a b : World} (h : Fr S a b) {B : Nat} (hB : B ≤ a.heap.size) (hS : ∀ k, k < B → ¬ S k) : Below B a b :=
  ⟨h.os, h.tape, h.output, h.size, fun k hk => h.block k (by omega) (hS k hk)⟩


section
variable {F : Fence} {n : Nat} {P : Program} {ops : Array Oper} {Q : Exit → Act → World → Prop} {a : Act} {w w2 : World} {rest : List Oper} {o : Oper}
theorem opIn_yield {K : Act → World → Prop} (f : Operand) (args : Array Operand) (tys : Array TypeId) (hop : o.op = .call { callee := .value f, args := args, argTypes := tys })
    (l : Nat) (hf : a.eval f = .func (.yield l) #[] #[]) (avs : Array Value) (has : args.map a.eval = avs) (R : Ending → World → Prop) (hy : YieldAt F (n - 1) P l avs w R) (hn : 1 ≤ n)
    (hK : ∀ v w', R (.returned v) w' → K (a.put o.dst v) w') (hnp : ∀ c w', ¬ R (.panicked c) w') (hno : ∀ w', ¬ R .outgrown w') : Oper.wpIn F n P o a w K Q := by
  obtain ⟨fn, tmps, assign, body, hrun, hR⟩ := hy
  have hsem : o.semAt F.round a.eval = execOp a.eval o := by
    cases hr : F.round with
    | none => exact Oper.semAt_none _ _
    | some l => exact Oper.semAt_some l _ _ (fun c => by rw [hop]; exact fun e => by cases e)
  have hres : (resolve a.eval { callee := .value f, args := args, argTypes := tys } o.type).run P w = .ok { target := .fn (.yield l) #[], args := avs } w := by
    simp [resolve, hf, has, Deferred.ofValue]
  refine ⟨fun f' hf' => ?_, ?_⟩
  · unfold Oper.about at hf'
    simp only [hop, hres] at hf'
    simp [Target.leads] at hf'
  · rw [hsem]
    have hx : (execOp a.eval o).run P w = .ok (.round l fn tmps assign body) w := by
      unfold execOp
      simp only [hop, Sem.run_bind, hres, Result.andThen_ok, invoke]
      exact hrun
    rw [hx, Oper.uponIn_round]
    refine ⟨fun _ => hn, hR.mono ?_⟩
    intro e w' hr
    cases e with
    | returned v => exact hK v w' hr
    | panicked c => exact (hnp c w' hr).elim
    | outgrown => exact (hno w' hr).elim
theorem wpListIn_yield (hgd : o.guard = none) (f : Operand) (args : Array Operand) (tys : Array TypeId) (hop : o.op = .call { callee := .value f, args := args, argTypes := tys })
    (l : Nat) (hf : a.eval f = .func (.yield l) #[] #[]) (avs : Array Value) (has : args.map a.eval = avs) (R : Ending → World → Prop) (hy : YieldAt F (n - 1) P l avs w R) (hn : 1 ≤ n)
    (hnp : ∀ c w', ¬ R (.panicked c) w') (hno : ∀ w', ¬ R .outgrown w') (hK : ∀ v w', R (.returned v) w' → wpListIn F n P ops Q rest (a.put o.dst v) w') : wpListIn F n P ops Q (o :: rest) a w :=
  wpListIn_plain hgd fun K hK' => opIn_yield f args tys hop l hf avs has R hy hn (fun v w' hr => hK' _ _ (hK v w' hr)) hnp hno
/-- A call of a function of the program. -/
theorem opIn_call {K : Act → World → Prop} (hro : F.round = none) (g : FuncId) (args : Array Operand) (tys : Array TypeId) (hop : o.op = .call { callee := .value (.func g), args := args, argTypes := tys })
    (hfn : ∀ g, F.fn g) (avs : Array Value) (has : args.map a.eval = avs) (eg : ∀ args w, (callFunc g args).run P w = .ok (.enter g args) w) (R : Ending → World → Prop) (hc : CallsIn F (n - 1) P g avs w R) (hn : 1 ≤ n)
    (hK : ∀ v w', R (.returned v) w' → K (a.put o.dst v) w') (hnp : ∀ c w', ¬ R (.panicked c) w') (hno : ∀ w', ¬ R .outgrown w') : Oper.wpIn F n P o a w K Q := by
  have hsem : o.semAt F.round a.eval = execOp a.eval o := by rw [hro]; exact Oper.semAt_none _ _
  have hev : a.eval (.func g) = .func (.func g) #[] #[] := rfl
  have hres : (resolve a.eval { callee := .value (.func g), args := args, argTypes := tys } o.type).run P w = .ok { target := .fn (.func g) #[], args := avs } w := by
    simp [resolve, hev, has, Deferred.ofValue]
  refine ⟨fun f' _ => hfn f', ?_⟩
  rw [hsem]
  have hx : (execOp a.eval o).run P w = .ok (.enter g avs) w := by
    unfold execOp
    simp only [hop, Sem.run_bind, hres, Result.andThen_ok, invoke]
    simp [eg]
  rw [hx, Oper.uponIn_enter]
  refine ⟨fun _ => hn, hc.mono ?_⟩
  intro e w' hr
  cases e with
  | returned v => exact hK v w' hr
  | panicked c => exact (hnp c w' hr).elim
  | outgrown => exact (hno w' hr).elim
theorem uponIn_unround {K : Act → World → Prop} (l : Nat) (r : Result Next) (h : o.uponIn F n P a K Q r) : o.uponIn (F.inRound l) n P a K Q r := by
  cases r with
  | ok x w => cases x <;> exact h
  | halt x w => exact h
theorem opIn_unround {K : Act → World → Prop} (l : Nat) (hro : F.round = none) (hnd : ∀ c, o.op ≠ .defer c) (h : Oper.wpIn F n P o a w K Q) : Oper.wpIn (F.inRound l) n P o a w K Q := by
  refine ⟨h.1, ?_⟩
  have h2 := h.2
  rw [hro, Oper.semAt_none] at h2
  rw [Fence.inRound_round, Oper.semAt_some l _ _ hnd]
  exact uponIn_unround l _ h2
theorem anyIn_unround {md : Region.Mode} (l : Nat) (hro : F.round = none) (hnd : ∀ (i : Nat) (o : Oper), ops[i]? = some o → ∀ c, o.op ≠ Op.defer c) : ∀ (fuel : Nat) (listed : Array Bool) (a : Act) (w : World), wpAnyIn F n P md ops Q fuel listed a w → wpAnyIn (F.inRound l) n P md ops Q fuel listed a w
  | 0, _, _, _, h => h
  | fuel + 1, listed, a, w, h => by
    refine ⟨h.1, fun i hi => ?_⟩
    have h2 := h.2 i hi
    unfold wpOpIn at h2 ⊢
    cases hq : ops[i]? with
    | none => rw [hq] at h2; exact anyIn_unround l hro hnd _ _ _ _ h2
    | some o =>
      rw [hq] at h2
      simp only at h2 ⊢
      by_cases hw : Region.wanted o (yielded ops a.tmps) = true
      · rw [if_pos hw] at h2 ⊢
        exact Oper.wpIn_mono (fun a w h => anyIn_unround l hro hnd _ _ _ _ h) (opIn_unround l hro (hnd i o hq) h2)
      · rw [if_neg hw] at h2 ⊢
        exact ⟨h2.1, anyIn_unround l hro hnd _ _ _ _ h2.2⟩
end
end Go.Proofs.YtdbbcngolcnniaaDoor.S3
/- The iterator of package sha over the whole blocks of a text: what it hands its rounds, in order. No condition but that the text is no longer than any can be. -/
namespace Go.Proofs.YtdbbcngolcnniaaDoor.S3
set_option linter.unusedSimpArgs false
open Go.RowKit Go.Shelf
set_option linter.unusedVariables false
attribute [local go_sem] Oper.semAt_some

/-- What the iterator hands its rounds: the x-th block. -/
def encIt (s : ByteArray) (x : Fin (s.size / 64)) : Array Value := #[.string (s.extract (64 * x.1) (64 * x.1 + 64))]
def KpIt (Bp : Nat) (W W' : World) : Prop := W.heap.size ≤ W'.heap.size ∧ W'.heap[Bp]? = W.heap[Bp]?
theorem KpIt.trans {Bp : Nat} {A B C : World} (h : KpIt Bp A B) (k : KpIt Bp B C) : KpIt Bp A C := ⟨Nat.le_trans h.1 k.1, k.2.trans h.2⟩
/-- The first k of them. -/
def firsts (m k : Nat) (hk : k ≤ m) : List (Fin m) := (List.finRange k).map fun x => ⟨x.1, by omega⟩
theorem firsts_length (m k : Nat) (hk : k ≤ m) : (firsts m k hk).length = k := by simp [firsts]
theorem firsts_succ (m k : Nat) (hk : k + 1 ≤ m) : firsts m (k + 1) hk = firsts m k (by omega) ++ [⟨k, by omega⟩] := by
  simp [firsts, List.finRange_succ_last]
theorem firsts_all (m : Nat) : firsts m m (Nat.le_refl _) = List.finRange m := by simp [firsts]

theorem blocks_in (s : ByteArray) (w : World) :
    CallsIn Fence.wide 4 Tryd.prog 80 #[.string s] w fun e w' => e = .returned (.func (.func 84) #[] #[.pointer (some ⟨w.heap.size, 0, none⟩)]) ∧ w.alloc (.cells #[.string s] 9) = w' := by
  refine callsIn_of_wp Tryd.func80 rfl trivial ?_ rfl
  simp only [Tryd.ntmps80, List.size_toArray, List.length_cons, List.length_nil, Nat.reduceAdd, Nat.reduceSub, Array.replicate_succ, Array.replicate_zero, List.push_toArray, List.append_toArray, List.nil_append, List.cons_append]
  gi_wp2
  go_ret
  exact ⟨rfl, rfl⟩

set_option maxHeartbeats 1000000 in
theorem iter_in (l Bp : Nat) (s : ByteArray) (hs : s.size ≤ 9223372036854775000) (J Jx : List (Fin (s.size / 64)) → World → Prop)
    (hY : ∀ pre x W, J pre W → pre.length < s.size / 64 → YieldAt Fence.wide 3 Tryd.prog l (encIt s x) W fun e W' =>
      (e = .returned (.bool true) ∧ J (pre ++ [x]) W' ∧ KpIt Bp W W') ∨ (e = .returned (.bool false) ∧ Jx (pre ++ [x]) W'))
    (W : World) (hbox : W.cell? ⟨Bp, 0, none⟩ = some (.string s)) (h0 : J [] W) :
    CallsIn Fence.wide 4 Tryd.prog 84 #[.func (.yield l) #[] #[], .pointer (some ⟨Bp, 0, none⟩)] W fun e W' => (∃ v, e = .returned v) ∧ ((∃ xs, xs = List.finRange (s.size / 64) ∧ J xs W') ∨ (∃ pre, True ∧ Jx pre W')) := by
  refine callsIn_of_wp Tryd.func84 rfl trivial ?_ rfl
  simp only [Tryd.ntmps84, List.size_toArray, List.length_cons, List.length_nil, Nat.reduceAdd, Nat.reduceSub, Array.replicate_succ, Array.replicate_zero, List.push_toArray, List.append_toArray, List.nil_append, List.cons_append]
  obtain ⟨m, hm⟩ : ∃ m, m = s.size / 64 := ⟨_, rfl⟩
  have hm1 : 64 * m ≤ s.size := by omega
  have hm2 : s.size < 64 * m + 64 := by omega
  gi_wp2
  gi_loopw [3] (fun i wr => ∃ k : Nat, ∃ hk : k ≤ s.size / 64, i = .int .i64 (64 * (k : Int)) ∧ J (firsts (s.size / 64) k hk) wr ∧ KpIt Bp W wr)
    (fun i _ => s.size + 64 - (intOf i).toNat)
  case atStart => exact ⟨0, Nat.zero_le _, rfl, h0, Nat.le_refl _, rfl⟩
  case round =>
    obtain ⟨k, hk, rfl, hJs, hsz, hb'⟩ := hrel
    have hbox2 : wr.cell? ⟨Bp, 0, none⟩ = some (.string s) := (World.cell?_of_block (w := W) (a := ⟨Bp, 0, none⟩) hb').trans hbox
    by_cases hlt : k < s.size / 64
    · have hk1 : 64 * (k : Int) + 64 ≤ (s.size : Int) := by omega
      have HY := Lib.hid (hY (firsts (s.size / 64) k hk) (⟨k, hlt⟩ : Fin (s.size / 64)) wr hJs (by rw [firsts_length]; exact hlt))
      have hKw : Hid (KpIt Bp W wr) := ⟨hsz, hb'⟩
      clear hJs hY h0 hbox hsz hb' hm hm2 hm1
      gi_wp2_with (refine wpListIn_yield rfl (.tmp 11) #[.tmp 16] #[9] rfl l rfl (encIt s ⟨k, hlt⟩) (by simp [Act.eval, encIt]) _ HY.out (by omega) (fun c w' h => by rcases h with ⟨h, -⟩ | ⟨h, -⟩ <;> cases h) (fun w' h => by rcases h with ⟨h, -⟩ | ⟨h, -⟩ <;> cases h) ?_)
      rintro v w3 (⟨rfl, hJ3, hk3⟩ | ⟨rfl, hJx3⟩)
      · have HJ3 := Lib.hid hJ3
        have HK3 := Lib.hid hk3
        clear hJ3 hk3
        gi_wp2
        go_roundw
        case rel => exact ⟨k + 1, by omega, congrArg (Value.int IntKind.i64) (by omega), by rw [firsts_succ]; exact HJ3.out, KpIt.trans hKw.out HK3.out⟩
        case measure => simp [intOf]; omega
      · have HJ3 := Lib.hid hJx3
        clear hJx3
        gi_wp2
        refine bodyPost_ret (results_none rfl _ _ _) rfl ?_
        exact ⟨⟨_, rfl⟩, Or.inr ⟨_, trivial, HJ3.out⟩⟩
    · have hkl : k = s.size / 64 := by omega
      have HJ : Hid (J (List.finRange (s.size / 64)) wr) := by subst hkl; unfold Hid; rw [← firsts_all]; exact hJs
      have hk1 : ¬ (64 * (k : Int) + 64 ≤ (s.size : Int)) := by omega
      clear hJs hY h0 hbox hb' hsz hkl hlt hm
      gi_wp2
      go_end0
      exact ⟨⟨_, rfl⟩, .inl HJ.out⟩
end Go.Proofs.YtdbbcngolcnniaaDoor.S3
