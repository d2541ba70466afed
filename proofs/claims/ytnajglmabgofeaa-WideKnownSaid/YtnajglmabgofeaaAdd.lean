/- AddNum of the document's package: numbers of four words added. No condition but that the words have 64 bits. -/
import Derived.Test.YtnajglmabgofeaaRoot
import Derived.Test.YtnajglmabgofeaaCells
namespace Go.Proofs.Ytnajglmabgofeaa
open Go.RowKit
set_option linter.unusedVariables false
def N4.ok (x : N4) : Prop := x.a < 18446744073709551616 ∧ x.b < 18446744073709551616 ∧ x.c < 18446744073709551616 ∧ x.d < 18446744073709551616
theorem at4_lt {x : N4} (h : x.ok) (j : Nat) : at4 x j < 18446744073709551616 := by
  obtain ⟨h1, h2, h3, h4⟩ := h
  unfold at4
  split <;> assumption
def num (x : N4) : Array Value := (rowOf .u64 4 (at4 x)).toArray
theorem zero47 (w : World) : (zeroValue 40).run Try.prog w = .ok (.agg (rowOf .u64 4 (fun _ => 0)).toArray) w := by kernel_rfl
theorem size47 (f : Nat → Nat) : (Try.prog.info? 40).map (·.size) = some (rowOf .u64 4 f).length := by rw [rowOf_length]; kernel_rfl
theorem results_two {fn : Func} {a b : Tmp} {t : TypeId} (h : fn.results = #[.cell a t, .tmp b]) (tmps : Array Value) (P : Program) (w : World) (ad : Addr) (ha : tmps.getD a undef = .pointer (some ad)) (v : Value)
    (hl : (loadVar t ad).run P w = .ok v w) : (results fn tmps).run P w = .ok (.tuple #[v, tmps.getD b undef]) w := by
  have ha2 : tmps[a]?.getD undef = .pointer (some ad) := by rw [← Array.getD_eq_getD_getElem?]; exact ha
  unfold results
  rw [h]
  simp [Array.mapM_eq_mapM_toList, ha2, asAddr, hl]
def cA (a b : Nat → Nat) : Nat → Nat
  | 0 => 0
  | k + 1 => (a k + b k + cA a b k) / 18446744073709551616
def tA (a b : Nat → Nat) (k : Nat) : Nat := (a k + b k + cA a b k) % 18446744073709551616
def tTo (a b : Nat → Nat) (k j : Nat) : Nat := if j < k then tA a b j else 0
theorem cA_le (a b : Nat → Nat) (ha : ∀ j, a j < 18446744073709551616) (hb : ∀ j, b j < 18446744073709551616) : ∀ k, cA a b k ≤ 1
  | 0 => by unfold cA; omega
  | k + 1 => by
    have h1 := ha k
    have h2 := hb k
    have h3 := cA_le a b ha hb k
    unfold cA
    omega
theorem wrap64_add (x y : Nat) : IntKind.u64.wrap ((x : Int) + (y : Int)) = (((x + y) % 18446744073709551616 : Nat) : Int) := by
  have h : IntKind.u64.wrap ((x : Int) + (y : Int)) = ((x : Int) + (y : Int)) % 18446744073709551616 := by simp [IntKind.wrap, IntKind.bits, IntKind.signed]
  rw [h]; omega
/-- A sum of two words and what was carried: what the two tests say. -/
theorem carry_of (x y c : Nat) (hx : x < 18446744073709551616) (hy : y < 18446744073709551616) (hc : c ≤ 1) : ∃ S T : Nat, IntKind.u64.wrap ((x : Int) + (y : Int)) = (S : Int) ∧ IntKind.u64.wrap ((S : Int) + (c : Int)) = (T : Int) ∧ T = (x + y + c) % 18446744073709551616 ∧
    ((S < x ∧ (x + y + c) / 18446744073709551616 = 1) ∨ (x ≤ S ∧ T < S ∧ (x + y + c) / 18446744073709551616 = 1) ∨ (x ≤ S ∧ S ≤ T ∧ (x + y + c) / 18446744073709551616 = 0)) := by
  refine ⟨(x + y) % 18446744073709551616, ((x + y) % 18446744073709551616 + c) % 18446744073709551616, wrap64_add x y, wrap64_add _ c, by omega, ?_⟩
  omega
theorem tTo_step (a b : Nat → Nat) (k v : Nat) (hv : v = tA a b k) : ∀ j, j < 4 → upd (tTo a b k) k v j = tTo a b (k + 1) j := by
  intro j _
  unfold upd tTo
  by_cases e : j = k
  · subst e; rw [if_pos rfl, if_pos (by omega), hv]
  · rw [if_neg e]
    by_cases h : j < k
    · rw [if_pos h, if_pos (by omega)]
    · rw [if_neg h, if_neg (by omega)]
set_option maxRecDepth 100000 in
set_option maxHeartbeats 1000000 in
theorem add_walk (a b : Nat → Nat) (ha : ∀ j, a j < 18446744073709551616) (hb : ∀ j, b j < 18446744073709551616) (w : World) :
    Calls Try.prog 30 #[.agg (rowOf .u64 4 a).toArray, .agg (rowOf .u64 4 b).toArray] w fun e w' => e = .returned (.tuple #[.agg (rowOf .u64 4 (tA a b)).toArray, .int .u64 (cA a b 4)]) ∧ Below w.heap.size w w' := by
  obtain ⟨ra, hra⟩ : ∃ ra, Hid (ra = (rowOf .u64 4 a).toArray) := ⟨_, Lib.hid rfl⟩
  obtain ⟨rb, hrb⟩ : ∃ rb, Hid (rb = (rowOf .u64 4 b).toArray) := ⟨_, Lib.hid rfl⟩
  rw [← hra.out, ← hrb.out]
  have HA := Lib.hid ha
  have HBb := Lib.hid hb
  clear ha hb
  go_enter Try.func30, Try.ntmps30
  go_wp2_with (refine wpList_run rfl _ (exec_alloc_agg _ 40 rfl _ (zero47 _)) ?_)
  have hW : ∀ w4 : World, w4 = (((w.alloc (.cells ra 40)).alloc (.cells rb 40)).alloc (.cells (rowOf .u64 4 fun _ => 0).toArray 40)).alloc (.cells (rowOf .u64 4 fun _ => 0).toArray 40) →
      Row w4 w.heap.size 40 .u64 4 a ∧ Row w4 (w.heap.size + 1) 40 .u64 4 b ∧ Row w4 (w.heap.size + 1 + 1) 40 .u64 4 (fun _ => 0) ∧ Row w4 (w.heap.size + 1 + 1 + 1) 40 .u64 4 (tTo a b 0) ∧ Below w.heap.size w w4 := by
    rintro w4 rfl
    rw [hra.out, hrb.out]
    refine ⟨(((Row.new w 40 .u64 4 a).alloc _).alloc _).alloc _, ?_, ?_, ?_, ((((Below.refl _ w).alloc (Nat.le_refl _) _).alloc (by simp) _).alloc (by simp <;> omega) _).alloc (by simp <;> omega) _⟩
    · have h := Row.new (w.alloc (.cells (rowOf .u64 4 a).toArray 40)) 40 .u64 4 b
      rw [World.size_alloc] at h
      exact (h.alloc _).alloc _
    · have h := Row.new ((w.alloc (.cells (rowOf .u64 4 a).toArray 40)).alloc (.cells (rowOf .u64 4 b).toArray 40)) 40 .u64 4 (fun _ => 0)
      rw [World.size_alloc, World.size_alloc] at h
      exact h.alloc _
    · have h := Row.new (((w.alloc (.cells (rowOf .u64 4 a).toArray 40)).alloc (.cells (rowOf .u64 4 b).toArray 40)).alloc (.cells (rowOf .u64 4 fun _ => 0).toArray 40)) 40 .u64 4 (fun _ => 0)
      rw [World.size_alloc, World.size_alloc, World.size_alloc] at h
      exact h
  have hW2 := hW _ rfl
  obtain ⟨w4, hw4⟩ : ∃ w4, w4 = (((w.alloc (.cells ra 40)).alloc (.cells rb 40)).alloc (.cells (rowOf .u64 4 fun _ => 0).toArray 40)).alloc (.cells (rowOf .u64 4 fun _ => 0).toArray 40) := ⟨_, rfl⟩
  rw [← hw4] at hW2 ⊢
  have HW := Lib.hid hW2
  clear hW hW2 hw4
  go_loopw [7, 8, 9, 10] (fun c i s t wr => ∃ k : Nat, k ≤ 4 ∧ i = .int .i64 k ∧ c = .int .u64 (cA a b k) ∧ Row wr w.heap.size 40 .u64 4 a ∧ Row wr (w.heap.size + 1) 40 .u64 4 b ∧ Row wr (w.heap.size + 1 + 1) 40 .u64 4 (fun _ => 0) ∧ Row wr (w.heap.size + 1 + 1 + 1) 40 .u64 4 (tTo a b k) ∧ Below w.heap.size w wr) (fun _ i _ _ _ => 4 - (intOf i).toNat)
  case atStart => exact ⟨0, by omega, rfl, rfl, HW.out⟩
  case round =>
    clear HW
    obtain ⟨k, hk, rfl, rfl, h0, h1, h2, h3, hbl⟩ := hrel
    have H0 := Lib.hid h0
    have H1 := Lib.hid h1
    have H2 := Lib.hid h2
    have H3 := Lib.hid h3
    have HB := Lib.hid hbl
    clear h0 h1 h2 h3 hbl
    by_cases hlt : k < 4
    · have hk4 : (k : Int) < 4 := by omega
      have c0 : wr.cell? ⟨w.heap.size, k, none⟩ = some (.int .u64 (a k)) := H0.out.cell k hlt
      have c1 : wr.cell? ⟨w.heap.size + 1, k, none⟩ = some (.int .u64 (b k)) := H1.out.cell k hlt
      have c3 : wr.cell? ⟨w.heap.size + 1 + 1 + 1, k, none⟩ = some (.int .u64 (tTo a b k k)) := H3.out.cell k hlt
      have f3 : wr.frozen? ⟨w.heap.size + 1 + 1 + 1, k, none⟩ = false := H3.out.free k
      obtain ⟨S, T, hS, hT, hT2, hcar0⟩ := carry_of (a k) (b k) (cA a b k) (HA.out k) (HBb.out k) (cA_le a b HA.out HBb.out k)
      have HT2 : Hid (T = tA a b k) := hT2
      have hcar : (S < a k ∧ cA a b (k + 1) = 1) ∨ (a k ≤ S ∧ T < S ∧ cA a b (k + 1) = 1) ∨ (a k ≤ S ∧ S ≤ T ∧ cA a b (k + 1) = 0) := hcar0
      clear hT2 hcar0
      have HSET : Hid (Row ((wr.drewN 1).setCell ⟨w.heap.size + 1 + 1 + 1, k, none⟩ (.int .u64 T)) (w.heap.size + 1 + 1 + 1) 40 .u64 4 (tTo a b (k + 1))) := Lib.hid ((Row.set (w := wr.drewN 1) H3.out k T).ext (tTo_step a b k T HT2.out))
      generalize a k = x at *
      generalize b k = y at *
      generalize cA a b k = c at *
      generalize tTo a b k k = old at *
      rcases hcar with ⟨hc1, hc2⟩ | ⟨hc1, hc3, hc2⟩ | ⟨hc1, hc3, hc2⟩
      all_goals
        have HC := Lib.hid hc2
        clear hc2
      · have d1 : decide ((S : Int) < (x : Int)) = true := by simp; omega
        have hc1I : (S : Int) < (x : Int) := by omega
        go_wp2
        go_quiet (fail)
        go_wp2
        go_roundw
        case rel =>
          refine ⟨k + 1, by omega, by go_num, ?_, H0.out.other _ _ (by show w.heap.size ≠ w.heap.size + 1 + 1 + 1; omega), H1.out.other _ _ (by show w.heap.size + 1 ≠ w.heap.size + 1 + 1 + 1; omega), H2.out.other _ _ (by show w.heap.size + 1 + 1 ≠ w.heap.size + 1 + 1 + 1; omega), ?_, ?_⟩
          · rw [HC.out]; rfl
          · exact HSET.out
          · exact Below.setCell (Below.drewN' HB.out _) (p := ⟨w.heap.size + 1 + 1 + 1, k, none⟩) (by show w.heap.size ≤ w.heap.size + 1 + 1 + 1; omega) _
        case measure => simp [intOf]; omega
      · have d1 : decide ((S : Int) < (x : Int)) = false := by simp; omega
        have d2 : decide ((T : Int) < (S : Int)) = true := by simp; omega
        have hc1I : (x : Int) ≤ (S : Int) := by omega
        have hc3I : (T : Int) < (S : Int) := by omega
        go_wp2
        go_quiet (fail)
        go_wp2
        go_roundw
        case rel =>
          refine ⟨k + 1, by omega, by go_num, ?_, H0.out.other _ _ (by show w.heap.size ≠ w.heap.size + 1 + 1 + 1; omega), H1.out.other _ _ (by show w.heap.size + 1 ≠ w.heap.size + 1 + 1 + 1; omega), H2.out.other _ _ (by show w.heap.size + 1 + 1 ≠ w.heap.size + 1 + 1 + 1; omega), ?_, ?_⟩
          · rw [HC.out]; rfl
          · exact HSET.out
          · exact Below.setCell (Below.drewN' HB.out _) (p := ⟨w.heap.size + 1 + 1 + 1, k, none⟩) (by show w.heap.size ≤ w.heap.size + 1 + 1 + 1; omega) _
        case measure => simp [intOf]; omega
      · have d1 : decide ((S : Int) < (x : Int)) = false := by simp; omega
        have d2 : decide ((T : Int) < (S : Int)) = false := by simp; omega
        have hc1I : (x : Int) ≤ (S : Int) := by omega
        have hc3I : (S : Int) ≤ (T : Int) := by omega
        go_wp2
        go_quiet (fail)
        go_wp2
        go_roundw
        case rel =>
          refine ⟨k + 1, by omega, by go_num, ?_, H0.out.other _ _ (by show w.heap.size ≠ w.heap.size + 1 + 1 + 1; omega), H1.out.other _ _ (by show w.heap.size + 1 ≠ w.heap.size + 1 + 1 + 1; omega), H2.out.other _ _ (by show w.heap.size + 1 + 1 ≠ w.heap.size + 1 + 1 + 1; omega), ?_, ?_⟩
          · rw [HC.out]; rfl
          · exact HSET.out
          · exact Below.setCell (Below.drewN' HB.out _) (p := ⟨w.heap.size + 1 + 1 + 1, k, none⟩) (by show w.heap.size ≤ w.heap.size + 1 + 1 + 1; omega) _
        case measure => simp [intOf]; omega
    · obtain rfl : k = 4 := by omega
      obtain ⟨cs, hcs⟩ : ∃ cs, Hid (cs = rowOf .u64 4 (tA a b)) := ⟨_, Lib.hid rfl⟩
      have hrow : wr.heap[w.heap.size + 1 + 1 + 1]? = some (.cells cs.toArray 40 (0, 0)) := by
        rw [hcs.out]
        exact H3.out.ext (fun j hj => by unfold tTo; rw [if_pos hj])
      have hseg : Hid (∀ j v, cs[j]? = some v → wr.cell? ⟨w.heap.size + 1 + 1 + 1, 0 + j, none⟩ = some v) := by
        intro j v hv
        rw [cell_of_row _ _ _ _ _ _ hrow, Nat.zero_add, List.getElem?_toArray, hv]
      have hlen : Hid (cs.length = 4) := by unfold Hid; rw [hcs.out, rowOf_length]
      have hsz : Hid ((Try.prog.info? 40).map (·.size) = some cs.length) := by unfold Hid; rw [hcs.out]; exact size47 _
      have hone : Hid (∀ v ∈ cs, v.oneCell' = true) := by unfold Hid; rw [hcs.out]; exact rowOf_one _ _ _
      have hfit : Hid (0 + cs.length ≤ (rowOf .u64 4 (fun _ => 0)).toArray.size) := by unfold Hid; rw [hlen.out, rowOf_size]; exact Nat.le_refl _
      have hfit2 : Hid ((rowOf .u64 4 (fun _ => 0)).toArray.size = cs.length) := by unfold Hid; rw [hlen.out, rowOf_size]
      clear hrow
      rw [show ((4 : Nat) : Int) = (4 : Int) from rfl]
      go_wp2_with (first | (refine wpList_load_seg rfl 40 (.tmp 6) rfl (w.heap.size + 1 + 1 + 1) 0 rfl cs _ hseg.out Try.underlying40 rfl hsz.out ?_) | (refine wpList_store_seg rfl 40 (.tmp 4) (.tmp 38) rfl (w.heap.size + 1 + 1) 0 rfl cs rfl _ 40 H2.out hfit.out hone.out hsz.out ?_))
      rw [splice_all _ _ hfit2.out]
      have hld : (loadVar 40 ⟨w.heap.size + 1 + 1, 0, none⟩).run Try.prog (wr.setRow (w.heap.size + 1 + 1) cs.toArray) = .ok (.agg cs.toArray) (wr.setRow (w.heap.size + 1 + 1) cs.toArray) := by
        refine run_loadVar_seg _ 40 (w.heap.size + 1 + 1) 0 cs _ (fun j v hv => ?_) Try.underlying40 rfl hsz.out
        rw [cell_of_row _ (w.heap.size + 1 + 1) (0 + j) cs.toArray 40 (0, 0) (setRow_heap _ _ _ _ _ _ H2.out), Nat.zero_add, List.getElem?_toArray, hv]
      have hbel : Below w.heap.size w (wr.setRow (w.heap.size + 1 + 1) cs.toArray) := by
        exact HB.out.trans ⟨rfl, rfl, rfl, by simp, fun k hk => setRow_other _ _ _ _ (by omega)⟩
      generalize wr.setRow (w.heap.size + 1 + 1) cs.toArray = W2 at *
      refine bodyPost_ret (results_two rfl _ _ _ ⟨w.heap.size + 1 + 1, 0, none⟩ rfl _ hld) rfl ⟨?_, hbel⟩
      rw [hcs.out]
      rfl
theorem tA_add (x y : N4) : rowOf .u64 4 (tA (at4 x) (at4 y)) = rowOf .u64 4 (at4 (addL x y)) := by
  refine rowOf_ext (fun j hj => ?_)
  unfold addL
  simp only [force_eq, mk4_eq]
  rcases (show j = 0 ∨ j = 1 ∨ j = 2 ∨ j = 3 by omega) with rfl | rfl | rfl | rfl
  · unfold tA cA at4; rfl
  · unfold tA cA cA at4; rfl
  · unfold tA cA cA cA at4; rfl
  · unfold tA cA cA cA cA at4; rfl
theorem addL_ok (x y : N4) : (addL x y).ok := by
  unfold addL N4.ok
  simp only [force_eq, mk4_eq]
  refine ⟨?_, ?_, ?_, ?_⟩ <;> exact Nat.mod_lt _ (by decide)
theorem add_any (x y : N4) (hx : x.ok) (hy : y.ok) (w : World) :
    Calls Try.prog 30 #[.agg (num x), .agg (num y)] w fun e w' => e = .returned (.tuple #[.agg (num (addL x y)), .int .u64 (cA (at4 x) (at4 y) 4)]) ∧ Below w.heap.size w w' := by
  have h := add_walk (at4 x) (at4 y) (at4_lt hx) (at4_lt hy) w
  rw [tA_add] at h
  exact h
end Go.Proofs.Ytnajglmabgofeaa
