/- AddNum, Less of the document's package: numbers of four words added, compared; the prime. No condition but that the numbers have 256 bits. -/
import Derived.Test.YtgbliacncahooaaDoorGPow
import Derived.Deep.CutBlock
import Derived.Deep.DeepCutAuto
namespace Go.Proofs.YtgbliacncahooaaDoor
open Go.RowKit
set_option linter.unusedVariables false
set_option linter.unusedSimpArgs false
def cA (a b : Nat → Nat) : Nat → Nat
  | 0 => 0
  | k + 1 => (a k + b k + cA a b k) / 18446744073709551616
def tA (a b : Nat → Nat) (k : Nat) : Nat := (a k + b k + cA a b k) % 18446744073709551616
def tTo (a b : Nat → Nat) (k j : Nat) : Nat := if j < k then tA a b j else 0
theorem cA_le (a b : Nat → Nat) (ha : ∀ j, a j < 18446744073709551616) (hb : ∀ j, b j < 18446744073709551616) : ∀ k, cA a b k ≤ 1
  | 0 => by unfold cA; omega
  | k + 1 => by
    have h1 := ha k
    have h2 := hb k
    have h3 := cA_le a b ha hb k
    unfold cA
    omega
theorem wrap64_add (x y : Nat) : IntKind.u64.wrap ((x : Int) + (y : Int)) = (((x + y) % 18446744073709551616 : Nat) : Int) := by
  have h : IntKind.u64.wrap ((x : Int) + (y : Int)) = ((x : Int) + (y : Int)) % 18446744073709551616 := by simp [IntKind.wrap, IntKind.bits, IntKind.signed]
  rw [h]; omega
/-- A sum of two words and what was carried: what the two tests say. -/
theorem carry_of (x y c : Nat) (hx : x < 18446744073709551616) (hy : y < 18446744073709551616) (hc : c ≤ 1) : ∃ S T : Nat, IntKind.u64.wrap ((x : Int) + (y : Int)) = (S : Int) ∧ IntKind.u64.wrap ((S : Int) + (c : Int)) = (T : Int) ∧ T = (x + y + c) % 18446744073709551616 ∧
    ((S < x ∧ (x + y + c) / 18446744073709551616 = 1) ∨ (x ≤ S ∧ T < S ∧ (x + y + c) / 18446744073709551616 = 1) ∨ (x ≤ S ∧ S ≤ T ∧ (x + y + c) / 18446744073709551616 = 0)) := by
  refine ⟨(x + y) % 18446744073709551616, ((x + y) % 18446744073709551616 + c) % 18446744073709551616, wrap64_add x y, wrap64_add _ c, by omega, ?_⟩
  omega
theorem tTo_step (a b : Nat → Nat) (k v : Nat) (hv : v = tA a b k) : ∀ j, j < 4 → upd (tTo a b k) k v j = tTo a b (k + 1) j := by
  intro j _
  unfold upd tTo
  by_cases e : j = k
  · subst e; rw [if_pos rfl, if_pos (by omega), hv]
  · rw [if_neg e]
    by_cases h : j < k
    · rw [if_pos h, if_pos (by omega)]
    · rw [if_neg h, if_neg (by omega)]
set_option maxRecDepth 100000 in
set_option maxHeartbeats 1000000 in
theorem add_walk (a b : Nat → Nat) (ha : ∀ j, a j < 18446744073709551616) (hb : ∀ j, b j < 18446744073709551616) (w : World) :
    Calls Tryd.prog 57 #[.agg (rowOf .u64 4 a).toArray, .agg (rowOf .u64 4 b).toArray] w fun e w' => e = .returned (.tuple #[.agg (rowOf .u64 4 (tA a b)).toArray, .int .u64 (cA a b 4)]) ∧ Below w.heap.size w w' := by
  obtain ⟨ra, hra⟩ : ∃ ra, Hid (ra = (rowOf .u64 4 a).toArray) := ⟨_, Lib.hid rfl⟩
  obtain ⟨rb, hrb⟩ : ∃ rb, Hid (rb = (rowOf .u64 4 b).toArray) := ⟨_, Lib.hid rfl⟩
  rw [← hra.out, ← hrb.out]
  have HA := Lib.hid ha
  have HBb := Lib.hid hb
  clear ha hb
  go_enter Tryd.func57, Tryd.ntmps57
  go_wp2_with (refine wpList_run rfl _ (exec_alloc_agg _ 24 rfl _ (zero24 _)) ?_)
  have hW : ∀ w4 : World, w4 = (((w.alloc (.cells ra 24)).alloc (.cells rb 24)).alloc (.cells (rowOf .u64 4 fun _ => 0).toArray 24)).alloc (.cells (rowOf .u64 4 fun _ => 0).toArray 24) →
      Row w4 w.heap.size 24 .u64 4 a ∧ Row w4 (w.heap.size + 1) 24 .u64 4 b ∧ Row w4 (w.heap.size + 1 + 1) 24 .u64 4 (fun _ => 0) ∧ Row w4 (w.heap.size + 1 + 1 + 1) 24 .u64 4 (tTo a b 0) ∧ Below w.heap.size w w4 := by
    rintro w4 rfl
    rw [hra.out, hrb.out]
    refine ⟨(((Row.new w 24 .u64 4 a).alloc _).alloc _).alloc _, ?_, ?_, ?_, ((((Below.refl _ w).alloc (Nat.le_refl _) _).alloc (by simp) _).alloc (by simp <;> omega) _).alloc (by simp <;> omega) _⟩
    · have h := Row.new (w.alloc (.cells (rowOf .u64 4 a).toArray 24)) 24 .u64 4 b
      rw [World.size_alloc] at h
      exact (h.alloc _).alloc _
    · have h := Row.new ((w.alloc (.cells (rowOf .u64 4 a).toArray 24)).alloc (.cells (rowOf .u64 4 b).toArray 24)) 24 .u64 4 (fun _ => 0)
      rw [World.size_alloc, World.size_alloc] at h
      exact h.alloc _
    · have h := Row.new (((w.alloc (.cells (rowOf .u64 4 a).toArray 24)).alloc (.cells (rowOf .u64 4 b).toArray 24)).alloc (.cells (rowOf .u64 4 fun _ => 0).toArray 24)) 24 .u64 4 (fun _ => 0)
      rw [World.size_alloc, World.size_alloc, World.size_alloc] at h
      exact h
  have hW2 := hW _ rfl
  obtain ⟨w4, hw4⟩ : ∃ w4, w4 = (((w.alloc (.cells ra 24)).alloc (.cells rb 24)).alloc (.cells (rowOf .u64 4 fun _ => 0).toArray 24)).alloc (.cells (rowOf .u64 4 fun _ => 0).toArray 24) := ⟨_, rfl⟩
  rw [← hw4] at hW2 ⊢
  have HW := Lib.hid hW2
  clear hW hW2 hw4
  go_loopw [7, 8, 9, 10] (fun c i s t wr => ∃ k : Nat, k ≤ 4 ∧ i = .int .i64 k ∧ c = .int .u64 (cA a b k) ∧ Row wr w.heap.size 24 .u64 4 a ∧ Row wr (w.heap.size + 1) 24 .u64 4 b ∧ Row wr (w.heap.size + 1 + 1) 24 .u64 4 (fun _ => 0) ∧ Row wr (w.heap.size + 1 + 1 + 1) 24 .u64 4 (tTo a b k) ∧ Below w.heap.size w wr) (fun _ i _ _ _ => 4 - (intOf i).toNat)
  case atStart => exact ⟨0, by omega, rfl, rfl, HW.out⟩
  case round =>
    clear HW
    obtain ⟨k, hk, rfl, rfl, h0, h1, h2, h3, hbl⟩ := hrel
    have H0 := Lib.hid h0
    have H1 := Lib.hid h1
    have H2 := Lib.hid h2
    have H3 := Lib.hid h3
    have HB := Lib.hid hbl
    clear h0 h1 h2 h3 hbl
    by_cases hlt : k < 4
    · have hk4 : (k : Int) < 4 := by omega
      have c0 : wr.cell? ⟨w.heap.size, k, none⟩ = some (.int .u64 (a k)) := H0.out.cell k hlt
      have c1 : wr.cell? ⟨w.heap.size + 1, k, none⟩ = some (.int .u64 (b k)) := H1.out.cell k hlt
      have c3 : wr.cell? ⟨w.heap.size + 1 + 1 + 1, k, none⟩ = some (.int .u64 (tTo a b k k)) := H3.out.cell k hlt
      have f3 : wr.frozen? ⟨w.heap.size + 1 + 1 + 1, k, none⟩ = false := H3.out.free k
      obtain ⟨S, T, hS, hT, hT2, hcar0⟩ := carry_of (a k) (b k) (cA a b k) (HA.out k) (HBb.out k) (cA_le a b HA.out HBb.out k)
      have HT2 : Hid (T = tA a b k) := hT2
      have hcar : (S < a k ∧ cA a b (k + 1) = 1) ∨ (a k ≤ S ∧ T < S ∧ cA a b (k + 1) = 1) ∨ (a k ≤ S ∧ S ≤ T ∧ cA a b (k + 1) = 0) := hcar0
      clear hT2 hcar0
      have HSET : Hid (Row ((wr.drewN 1).setCell ⟨w.heap.size + 1 + 1 + 1, k, none⟩ (.int .u64 T)) (w.heap.size + 1 + 1 + 1) 24 .u64 4 (tTo a b (k + 1))) := Lib.hid ((Row.set (w := wr.drewN 1) H3.out k T).ext (tTo_step a b k T HT2.out))
      generalize a k = x at *
      generalize b k = y at *
      generalize cA a b k = c at *
      generalize tTo a b k k = old at *
      rcases hcar with ⟨hc1, hc2⟩ | ⟨hc1, hc3, hc2⟩ | ⟨hc1, hc3, hc2⟩
      all_goals
        have HC := Lib.hid hc2
        clear hc2
      · have d1 : decide ((S : Int) < (x : Int)) = true := by simp; omega
        have hc1I : (S : Int) < (x : Int) := by omega
        go_wp2
        go_quiet (fail)
        go_wp2
        go_roundw
        case rel =>
          refine ⟨k + 1, by omega, by go_num, ?_, H0.out.other _ _ (by show w.heap.size ≠ w.heap.size + 1 + 1 + 1; omega), H1.out.other _ _ (by show w.heap.size + 1 ≠ w.heap.size + 1 + 1 + 1; omega), H2.out.other _ _ (by show w.heap.size + 1 + 1 ≠ w.heap.size + 1 + 1 + 1; omega), ?_, ?_⟩
          · rw [HC.out]; rfl
          · exact HSET.out
          · exact Below.setCell (Below.drewN' HB.out _) (p := ⟨w.heap.size + 1 + 1 + 1, k, none⟩) (by show w.heap.size ≤ w.heap.size + 1 + 1 + 1; omega) _
        case measure => simp [intOf]; omega
      · have d1 : decide ((S : Int) < (x : Int)) = false := by simp; omega
        have d2 : decide ((T : Int) < (S : Int)) = true := by simp; omega
        have hc1I : (x : Int) ≤ (S : Int) := by omega
        have hc3I : (T : Int) < (S : Int) := by omega
        go_wp2
        go_quiet (fail)
        go_wp2
        go_roundw
        case rel =>
          refine ⟨k + 1, by omega, by go_num, ?_, H0.out.other _ _ (by show w.heap.size ≠ w.heap.size + 1 + 1 + 1; omega), H1.out.other _ _ (by show w.heap.size + 1 ≠ w.heap.size + 1 + 1 + 1; omega), H2.out.other _ _ (by show w.heap.size + 1 + 1 ≠ w.heap.size + 1 + 1 + 1; omega), ?_, ?_⟩
          · rw [HC.out]; rfl
          · exact HSET.out
          · exact Below.setCell (Below.drewN' HB.out _) (p := ⟨w.heap.size + 1 + 1 + 1, k, none⟩) (by show w.heap.size ≤ w.heap.size + 1 + 1 + 1; omega) _
        case measure => simp [intOf]; omega
      · have d1 : decide ((S : Int) < (x : Int)) = false := by simp; omega
        have d2 : decide ((T : Int) < (S : Int)) = false := by simp; omega
        have hc1I : (x : Int) ≤ (S : Int) := by omega
        have hc3I : (S : Int) ≤ (T : Int) := by omega
        go_wp2
        go_quiet (fail)
        go_wp2
        go_roundw
        case rel =>
          refine ⟨k + 1, by omega, by go_num, ?_, H0.out.other _ _ (by show w.heap.size ≠ w.heap.size + 1 + 1 + 1; omega), H1.out.other _ _ (by show w.heap.size + 1 ≠ w.heap.size + 1 + 1 + 1; omega), H2.out.other _ _ (by show w.heap.size + 1 + 1 ≠ w.heap.size + 1 + 1 + 1; omega), ?_, ?_⟩
          · rw [HC.out]; rfl
          · exact HSET.out
          · exact Below.setCell (Below.drewN' HB.out _) (p := ⟨w.heap.size + 1 + 1 + 1, k, none⟩) (by show w.heap.size ≤ w.heap.size + 1 + 1 + 1; omega) _
        case measure => simp [intOf]; omega
    · obtain rfl : k = 4 := by omega
      obtain ⟨cs, hcs⟩ : ∃ cs, Hid (cs = rowOf .u64 4 (tA a b)) := ⟨_, Lib.hid rfl⟩
      have hrow : wr.heap[w.heap.size + 1 + 1 + 1]? = some (.cells cs.toArray 24 (0, 0)) := by
        rw [hcs.out]
        exact H3.out.ext (fun j hj => by unfold tTo; rw [if_pos hj])
      have hseg : Hid (∀ j v, cs[j]? = some v → wr.cell? ⟨w.heap.size + 1 + 1 + 1, 0 + j, none⟩ = some v) := by
        intro j v hv
        rw [cell_of_row _ _ _ _ _ _ hrow, Nat.zero_add, List.getElem?_toArray, hv]
      have hlen : Hid (cs.length = 4) := by unfold Hid; rw [hcs.out, rowOf_length]
      have hsz : Hid ((Tryd.prog.info? 24).map (·.size) = some cs.length) := by unfold Hid; rw [hcs.out]; exact size24 _
      have hone : Hid (∀ v ∈ cs, v.oneCell' = true) := by unfold Hid; rw [hcs.out]; exact rowOf_one _ _ _
      have hfit : Hid (0 + cs.length ≤ (rowOf .u64 4 (fun _ => 0)).toArray.size) := by unfold Hid; rw [hlen.out, rowOf_size]; exact Nat.le_refl _
      have hfit2 : Hid ((rowOf .u64 4 (fun _ => 0)).toArray.size = cs.length) := by unfold Hid; rw [hlen.out, rowOf_size]
      clear hrow
      rw [show ((4 : Nat) : Int) = (4 : Int) from rfl]
      go_wp2_with (first | (refine wpList_load_seg rfl 24 (.tmp 6) rfl (w.heap.size + 1 + 1 + 1) 0 rfl cs _ hseg.out Tryd.underlying24 rfl hsz.out ?_) | (refine wpList_store_seg rfl 24 (.tmp 4) (.tmp 38) rfl (w.heap.size + 1 + 1) 0 rfl cs rfl _ 24 H2.out hfit.out hone.out hsz.out ?_))
      rw [splice_all _ _ hfit2.out]
      have hld : (loadVar 24 ⟨w.heap.size + 1 + 1, 0, none⟩).run Tryd.prog (wr.setRow (w.heap.size + 1 + 1) cs.toArray) = .ok (.agg cs.toArray) (wr.setRow (w.heap.size + 1 + 1) cs.toArray) := by
        refine run_loadVar_seg _ 24 (w.heap.size + 1 + 1) 0 cs _ (fun j v hv => ?_) Tryd.underlying24 rfl hsz.out
        rw [cell_of_row _ (w.heap.size + 1 + 1) (0 + j) cs.toArray 24 (0, 0) (setRow_heap _ _ _ _ _ _ H2.out), Nat.zero_add, List.getElem?_toArray, hv]
      have hbel : Below w.heap.size w (wr.setRow (w.heap.size + 1 + 1) cs.toArray) := by
        exact HB.out.trans ⟨rfl, rfl, rfl, by simp, fun k hk => setRow_other _ _ _ _ (by omega)⟩
      generalize wr.setRow (w.heap.size + 1 + 1) cs.toArray = W2 at *
      refine bodyPost_ret (results_two rfl _ _ _ ⟨w.heap.size + 1 + 1, 0, none⟩ rfl _ hld) rfl ⟨?_, hbel⟩
      rw [hcs.out]
      rfl
def lessTo (a b : Nat → Nat) : Nat → Bool
  | 0 => false
  | k + 1 => if a k = b k then lessTo a b k else decide (a k < b k)
set_option maxRecDepth 100000 in
set_option maxHeartbeats 1000000 in
theorem less_walk (a b : Nat → Nat) (w : World) :
    Calls Tryd.prog 32 #[.agg (rowOf .u64 4 a).toArray, .agg (rowOf .u64 4 b).toArray] w fun e w' => e = .returned (.bool (lessTo a b 4)) ∧ Below w.heap.size w w' := by
  have h0 := (Row.new w 24 .u64 4 a).alloc (.cells (rowOf .u64 4 b).toArray 24)
  have h1 := Row.new (w.alloc (.cells (rowOf .u64 4 a).toArray 24)) 24 .u64 4 b
  rw [World.size_alloc] at h1
  have hb : Below w.heap.size w ((w.alloc (.cells (rowOf .u64 4 a).toArray 24)).alloc (.cells (rowOf .u64 4 b).toArray 24)) := ((Below.refl _ w).alloc (Nat.le_refl _) _).alloc (by simp) _
  obtain ⟨ra, hra⟩ : ∃ ra, Hid (ra = (rowOf .u64 4 a).toArray) := ⟨_, Lib.hid rfl⟩
  obtain ⟨rb, hrb⟩ : ∃ rb, Hid (rb = (rowOf .u64 4 b).toArray) := ⟨_, Lib.hid rfl⟩
  rw [← hra.out, ← hrb.out] at h0 h1 hb ⊢
  have R0 := Lib.hid h0
  have R1 := Lib.hid h1
  have HB := Lib.hid hb
  clear h0 h1 hb
  obtain ⟨out, hout⟩ : ∃ out, Hid (out = lessTo a b 4) := ⟨_, Lib.hid rfl⟩
  rw [← hout.out]
  go_enter Tryd.func32, Tryd.ntmps32
  go_wp2
  obtain ⟨w2, hw2⟩ : ∃ w2, w2 = (w.alloc (.cells ra 24)).alloc (.cells rb 24) := ⟨_, rfl⟩
  rw [← hw2] at R0 R1 HB ⊢
  clear hw2
  go_loopw [5] (fun i wr => ∃ k : Nat, k ≤ 4 ∧ i = .int .i64 ((k : Int) - 1) ∧ lessTo a b k = out ∧ Row wr w.heap.size 24 .u64 4 a ∧ Row wr (w.heap.size + 1) 24 .u64 4 b ∧ Below w.heap.size w wr) (fun i _ => (1 + intOf i).toNat)
  case atStart => exact ⟨4, by omega, rfl, hout.out.symm, R0.out, R1.out, HB.out⟩
  case round =>
    clear R0 R1 HB
    obtain ⟨k, hk, rfl, hl, h0, h1, hbl⟩ := hrel
    have R0 := Lib.hid h0
    have R1 := Lib.hid h1
    have HB := Lib.hid hbl
    have HL := Lib.hid hl
    clear h0 h1 hbl hl
    cases k with
    | zero =>
      have ho : out = false := by rw [← HL.out]; rfl
      subst ho
      go_wp2
      go_ret
      exact ⟨rfl, HB.out⟩
    | succ k =>
      have c0 : wr.cell? ⟨w.heap.size, k, none⟩ = some (.int .u64 (a k)) := R0.out.cell k (by omega)
      have c1 : wr.cell? ⟨w.heap.size + 1, k, none⟩ = some (.int .u64 (b k)) := R1.out.cell k (by omega)
      have hk4 : (k : Int) < 4 := by omega
      have e1 : (((k + 1 : Nat) : Int) - 1) = (k : Int) := by omega
      rw [e1]
      by_cases he : a k = b k
      · have HL2 : Hid (lessTo a b k = out) := by unfold Hid; rw [← HL.out]; show _ = (if a k = b k then lessTo a b k else decide (a k < b k)); rw [if_pos he]
        have d1 : ((a k : Int) != (b k : Int)) = false := by rw [he]; simp
        generalize a k = x at *
        generalize b k = y at *
        clear he HL
        go_wp2
        go_quiet (fail)
        go_wp2
        go_roundw
        case rel => exact ⟨k, by omega, rfl, HL2.out, R0.out, R1.out, Below.drewN' HB.out _⟩
        case measure => simp [intOf]; omega
      · have HL2 : Hid (decide (a k < b k) = out) := by
          unfold Hid; rw [← HL.out]
          show _ = (if a k = b k then lessTo a b k else decide (a k < b k)); rw [if_neg he]
        have d1 : ((a k : Int) != (b k : Int)) = true := by rw [bne_iff_ne]; omega
        generalize a k = x at *
        generalize b k = y at *
        clear he HL
        go_wp2
        go_quiet (fail)
        go_wp2
        go_quiet (fail)
        go_wp2
        go_ret
        exact ⟨by rw [← HL2.out]; rfl, Below.drewN' (Below.drewN' HB.out _) _⟩
theorem cA_4 (x y : Nat) (hx : x < 115792089237316195423570985008687907853269984665640564039457584007913129639936) (hy : y < 115792089237316195423570985008687907853269984665640564039457584007913129639936) : (∀ j, j < 4 → tA (dig x) (dig y) j = dig ((x + y) % 115792089237316195423570985008687907853269984665640564039457584007913129639936) j) ∧ cA (dig x) (dig y) 4 = (x + y) / 115792089237316195423570985008687907853269984665640564039457584007913129639936 := by
  have vx := val_dig x hx
  have vy := val_dig y hy
  have c1 : cA (dig x) (dig y) 1 = (dig x 0 + dig y 0 + 0) / 18446744073709551616 := rfl
  have c2 : cA (dig x) (dig y) 2 = (dig x 1 + dig y 1 + cA (dig x) (dig y) 1) / 18446744073709551616 := rfl
  have c3 : cA (dig x) (dig y) 3 = (dig x 2 + dig y 2 + cA (dig x) (dig y) 2) / 18446744073709551616 := rfl
  have c4 : cA (dig x) (dig y) 4 = (dig x 3 + dig y 3 + cA (dig x) (dig y) 3) / 18446744073709551616 := rfl
  have t0 : tA (dig x) (dig y) 0 = (dig x 0 + dig y 0 + 0) % 18446744073709551616 := rfl
  have t1 : tA (dig x) (dig y) 1 = (dig x 1 + dig y 1 + cA (dig x) (dig y) 1) % 18446744073709551616 := rfl
  have t2 : tA (dig x) (dig y) 2 = (dig x 2 + dig y 2 + cA (dig x) (dig y) 2) % 18446744073709551616 := rfl
  have t3 : tA (dig x) (dig y) 3 = (dig x 3 + dig y 3 + cA (dig x) (dig y) 3) % 18446744073709551616 := rfl
  unfold valN at vx vy
  refine ⟨fun j hj => ?_, ?_⟩
  · rcases (show j = 0 ∨ j = 1 ∨ j = 2 ∨ j = 3 by omega) with rfl | rfl | rfl | rfl
    · rw [dig_0 ((x + y) % _)]; omega
    · rw [dig_1 ((x + y) % _)]; omega
    · rw [dig_2 ((x + y) % _)]; omega
    · rw [dig_3 ((x + y) % _)]; omega
  · omega
theorem addnum_any (x y : Nat) (hx : x < 115792089237316195423570985008687907853269984665640564039457584007913129639936) (hy : y < 115792089237316195423570985008687907853269984665640564039457584007913129639936) (w : World) :
    Calls Tryd.prog 57 #[.agg (num x), .agg (num y)] w fun e w' => e = .returned (.tuple #[.agg (num ((x + y) % 115792089237316195423570985008687907853269984665640564039457584007913129639936)), .int .u64 (((x + y) / 115792089237316195423570985008687907853269984665640564039457584007913129639936 : Nat) : Int)]) ∧ Below w.heap.size w w' := by
  have h := add_walk (dig x) (dig y) (dig_lt x) (dig_lt y) w
  obtain ⟨h1, h2⟩ := cA_4 x y hx hy
  rw [rowOf_ext h1, h2] at h
  exact h
theorem less_4 (x y : Nat) (hx : x < 115792089237316195423570985008687907853269984665640564039457584007913129639936) (hy : y < 115792089237316195423570985008687907853269984665640564039457584007913129639936) : lessTo (dig x) (dig y) 4 = decide (x < y) := by
  have vx := val_dig x hx
  have vy := val_dig y hy
  have l0 := dig_lt x 0
  have l1 := dig_lt x 1
  have l2 := dig_lt x 2
  have l3 := dig_lt x 3
  have m0 := dig_lt y 0
  have m1 := dig_lt y 1
  have m2 := dig_lt y 2
  have m3 := dig_lt y 3
  unfold valN at vx vy
  show (if dig x 3 = dig y 3 then (if dig x 2 = dig y 2 then (if dig x 1 = dig y 1 then (if dig x 0 = dig y 0 then false else decide (dig x 0 < dig y 0)) else decide (dig x 1 < dig y 1)) else decide (dig x 2 < dig y 2)) else decide (dig x 3 < dig y 3)) = _
  rw [Bool.eq_iff_iff]
  by_cases h3 : dig x 3 = dig y 3
  · rw [if_pos h3]
    by_cases h2 : dig x 2 = dig y 2
    · rw [if_pos h2]
      by_cases h1 : dig x 1 = dig y 1
      · rw [if_pos h1]
        by_cases h0 : dig x 0 = dig y 0
        · rw [if_pos h0]; simp; omega
        · rw [if_neg h0]; simp; omega
      · rw [if_neg h1]; simp; omega
    · rw [if_neg h2]; simp; omega
  · rw [if_neg h3]; simp; omega
theorem less_any (x y : Nat) (hx : x < 115792089237316195423570985008687907853269984665640564039457584007913129639936) (hy : y < 115792089237316195423570985008687907853269984665640564039457584007913129639936) (w : World) :
    Calls Tryd.prog 32 #[.agg (num x), .agg (num y)] w fun e w' => e = .returned (.bool (decide (x < y))) ∧ Below w.heap.size w w' := by
  have h := less_walk (dig x) (dig y) w
  rw [less_4 x y hx hy] at h
  exact h
theorem prime_lit : num pp = #[.int .u64 18446744073709551597, .int .u64 18446744073709551615, .int .u64 18446744073709551615, .int .u64 9223372036854775807] := by
  rw [num_lit, show dig pp 0 = 18446744073709551597 by decide +kernel, show dig pp 1 = 18446744073709551615 by decide +kernel, show dig pp 2 = 18446744073709551615 by decide +kernel, show dig pp 3 = 9223372036854775807 by decide +kernel]
  rfl
set_option maxRecDepth 100000 in
set_option maxHeartbeats 1000000 in
theorem prime_any (w : World) : Calls Tryd.prog 33 #[] w fun e w' => e = .returned (.agg (num pp)) ∧ Below w.heap.size w w' := by
  rw [prime_lit]
  have hz : ∀ w : World, (zeroValue 24).run Tryd.prog w = .ok (.agg #[.int .u64 0, .int .u64 0, .int .u64 0, .int .u64 0]) w := fun w => by kernel_rfl
  have hbd : ∀ w : World, (Instr.build 24 #[(0, .int .u64 18446744073709551597), (1, .int .u64 18446744073709551615), (2, .int .u64 18446744073709551615), (3, .int .u64 9223372036854775807)]).run Tryd.prog w = .ok (.agg #[.int .u64 18446744073709551597, .int .u64 18446744073709551615, .int .u64 18446744073709551615, .int .u64 9223372036854775807]) w := fun w => by kernel_rfl
  go_enter Tryd.func33, Tryd.ntmps33
  go_wp2
  exact bodyPost_ret (v := .agg #[.int .u64 18446744073709551597, .int .u64 18446744073709551615, .int .u64 18446744073709551615, .int .u64 9223372036854775807]) (by simp [results, Tryd.results33, go_sem]) rfl ⟨rfl, by
    repeat (refine bel_alloc ?_ (by simp <;> omega) _)
    exact Below.refl _ _⟩
end Go.Proofs.YtgbliacncahooaaDoor
