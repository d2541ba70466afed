/- shift and Inv of the document: a number halved so often; an inverse modulo the prime. No condition but that the numbers have 256 bits. -/
import Derived.Test.YtkkgeljcgebegaaDoorRPow
namespace Go.Proofs.YtkkgeljcgebegaaDoor
open Go.RowKit Go.Shelf
set_option linter.unusedVariables false
set_option linter.unusedSimpArgs false
theorem dig_half (v i : Nat) (hi : i < 3) : dig (v / 2) i = dig v i / 2 + dig v (i + 1) % 2 * 9223372036854775808 := by
  rcases (show i = 0 ∨ i = 1 ∨ i = 2 by omega) with rfl | rfl | rfl
  · rw [dig_0, dig_0, dig_1]; omega
  · rw [dig_1, dig_1, dig_2]; omega
  · rw [dig_2, dig_2, dig_3]; omega
theorem dig_half3 (v : Nat) (hv : v < 115792089237316195423570985008687907853269984665640564039457584007913129639936) : dig (v / 2) 3 = dig v 3 / 2 + 0 := by rw [dig_3, dig_3]; omega
def sTo (v i j : Nat) : Nat := if j < i then dig (v / 2) j else dig v j
theorem sTo_step (v i d r : Nat) (hr : r = dig (v / 2) i) : ∀ j, j < 4 → upd (upd (sTo v i) i d) i r j = sTo v (i + 1) j := by
  intro j _
  unfold upd sTo
  by_cases e : j = i
  · subst e; rw [if_pos rfl, if_pos (by omega), hr]
  · rw [if_neg e, if_neg e]
    by_cases h : j < i
    · rw [if_pos h, if_pos (by omega)]
    · rw [if_neg h, if_neg (by omega)]
theorem or_top (x y : Nat) (hx : x < 9223372036854775808) (hy : y < 2) : bits .or .u64 (x : Int) ((y * 9223372036854775808 : Nat) : Int) = ((x + y * 9223372036854775808 : Nat) : Int) := by
  have hb := bits_or_u64_nat x (y * 9223372036854775808) (by omega) (by omega)
  have ho2 : x ||| y * 9223372036854775808 = x + y * 9223372036854775808 := by rw [Nat.or_comm]; have h := or_join 63 y x hx; rw [show (2 : Nat) ^ 63 = 9223372036854775808 from rfl] at h; rw [h]; omega
  rw [ho2] at hb
  exact hb
theorem shl63 (y : Nat) : IntKind.u64.wrap ((y : Int) * 9223372036854775808) = ((y % 2 * 9223372036854775808 : Nat) : Int) := by
  have h : IntKind.u64.wrap ((y : Int) * 9223372036854775808) = ((y : Int) * 9223372036854775808) % 18446744073709551616 := by simp [IntKind.wrap, IntKind.bits, IntKind.signed]
  rw [h]; omega
set_option maxRecDepth 100000 in
set_option maxHeartbeats 1000000 in
theorem shift_any (a m : Nat) (ha : a < 115792089237316195423570985008687907853269984665640564039457584007913129639936) (hm : m < 256) (w : World) :
    Calls Tryd.prog 28 #[.agg (num a), .int .i64 (m : Int)] w fun e w' => e = .returned (.agg (num (a / 2 ^ m))) ∧ Below w.heap.size w w' := by
  have HZ := zero_run
  have hml : (m : Int) < 256 := by omega
  obtain ⟨A, hA⟩ : ∃ A, Hid (A = num a) := ⟨_, Lib.hid rfl⟩
  have IA : IsNum A := by rw [hA.out]; exact isNum _
  obtain ⟨T, hT⟩ : ∃ T, Hid (T = num (a / 2 ^ m)) := ⟨_, Lib.hid rfl⟩
  have IT : IsNum T := by rw [hT.out]; exact isNum _
  obtain ⟨Z, hZ⟩ : ∃ Z, Hid (Z = num 0) := ⟨_, Lib.hid rfl⟩
  have IZ : IsNum Z := by rw [hZ.out]; exact isNum _
  have HZ2 : ∀ w, (zeroValue 24).run Tryd.prog w = .ok (.agg Z) w := by rw [hZ.out]; exact HZ
  have IZ2 := IZ.size
  rw [← hA.out, ← hT.out]
  clear HZ hZ
  have hz4 : ∀ W : World, Kn W [(W.heap.size, A), (W.heap.size + 1, Z)] ((W.alloc (.cells A 24)).alloc (.cells Z 24)) := by
    intro W
    have h := ((Kn.nil W).new A).new Z
    simp only [World.size_alloc] at h
    exact h.sub (fun p hp => by simp at hp ⊢; rcases hp with h | h <;> simp [h])
  have HS := Lib.hid (hz4 w)
  clear hz4
  go_enter Tryd.func28, Tryd.ntmps28
  go_wp2_with ((refine wpList_run rfl _ (exec_alloc_agg _ 24 rfl _ (HZ2 _)) ?_); try simp only [World.size_alloc])
  try simp only [Act.put, List.setIfInBounds_toArray, List.set_cons_succ, List.set_cons_zero]
  generalize (w.alloc (.cells A 24)).alloc (.cells Z 24) = W0 at *
  go_loopw [5] (fun i wr => ∃ q : Nat, q ≤ m ∧ i = .int .i64 q ∧ Kn w [(w.heap.size, num (a / 2 ^ q)), (w.heap.size + 1, Z)] wr) (fun i _ => m - (intOf i).toNat)
  case atStart => exact ⟨0, by omega, rfl, by rw [Nat.pow_zero, Nat.div_one, ← hA.out]; exact HS.out⟩
  case round =>
    clear HS
    obtain ⟨q, hq, rfl, HK0⟩ := hrel
    have HK := Lib.hid HK0
    clear HK0
    by_cases hlt : q < m
    · have hltI : (q : Int) < (m : Int) := by omega
      obtain ⟨v, hv⟩ : ∃ v, Hid (v = a / 2 ^ q) := ⟨_, Lib.hid rfl⟩
      have hvl : Hid (v < 115792089237316195423570985008687907853269984665640564039457584007913129639936) := by unfold Hid; rw [hv.out]; exact Nat.lt_of_le_of_lt (Nat.div_le_self _ _) ha
      have hv2 : Hid (v / 2 = a / 2 ^ (q + 1)) := by unfold Hid; rw [hv.out, Nat.div_div_eq_div_mul, Nat.pow_succ]
      rw [← hv.out] at HK
      clear hv hA hT IA IT
      go_wp2
      go_loopw [6] (fun i wr => ∃ i' : Nat, i' ≤ 4 ∧ i = .int .i64 i' ∧ Kn w [(w.heap.size, (rowOf .u64 4 (sTo v i')).toArray), (w.heap.size + 1, Z)] wr) (fun i _ => 4 - (intOf i).toNat)
      case atStart => exact ⟨0, by omega, rfl, HK.out.ext (w.heap.size) (dig v) (sTo v 0) (fun j _ => by unfold sTo; rw [if_neg (by omega)]) (fun p hp => by simp at hp; rcases hp with rfl | rfl <;> first | exact .inr ⟨rfl, by simp [num]⟩ | exact .inl (by simp))⟩
      case round =>
        clear HK
        obtain ⟨i, hi, rfl, HK0⟩ := hrel
        have HK := Lib.hid HK0
        clear HK0
        by_cases hi4 : i < 4
        · have hi4I : (i : Int) < 4 := by omega
          have hr := HK.out.row (w.heap.size) (sTo v i) (by simp)
          have hsi : sTo v i i = dig v i := by unfold sTo; rw [if_neg (by omega)]
          have c0 := hr.cell i hi4
          rw [hsi] at c0
          have f0 := hr.free i
          have hdl := dig_lt v i
          obtain ⟨h, hh⟩ : ∃ h, Hid (h = dig v i / 2) := ⟨_, Lib.hid rfl⟩
          have e1 : (dig v i : Int) / 2 = (h : Int) := by rw [hh.out]; omega
          have HK1 : Hid (Kn w [(w.heap.size, (rowOf .u64 4 (upd (sTo v i) i h)).toArray), (w.heap.size + 1, Z)] (wr.setCell ⟨w.heap.size, i, none⟩ (.int .u64 (h : Int)))) := Lib.hid (HK.out.setw (w.heap.size) (sTo v i) i h hr (by omega) (fun p hp => by simp at hp; rcases hp with rfl | rfl <;> first | exact .inl rfl | exact .inr ⟨by simp, by simp only; omega⟩))
          have hhl : h < 9223372036854775808 := by rw [hh.out]; omega
          clear HK hr hsi hdl
          have HDg := Lib.hid (fun hi3 => dig_half v i hi3)
          rw [← hh.out] at HDg
          have HDg3 : i = 3 → Hid (h = dig (v / 2) 3) := fun e => by subst e; unfold Hid; rw [dig_half3 v hvl.out, hh.out]; omega
          clear hh
          generalize dig v i = d at *
          go_upto_region 8 with fail
          try simp only [Act.put, List.setIfInBounds_toArray, List.set_cons_succ, List.set_cons_zero]
          generalize wr.setCell ⟨w.heap.size, i, none⟩ (.int .u64 (h : Int)) = W1 at *
          by_cases hi3 : i < 3
          · have hi3I : (i : Int) < 3 := by omega
            obtain ⟨i1, hi1⟩ : ∃ i1, Hid (i1 = i + 1) := ⟨_, Lib.hid rfl⟩
            have hi1I : (i : Int) + 1 = (i1 : Int) := by rw [hi1.out]; omega
            have hi14 : i1 < 4 := by rw [hi1.out]; omega
            have hi14I : (i1 : Int) < 4 := by omega
            have hr := HK1.out.row (w.heap.size) (upd (sTo v i) i h) (by simp)
            have c0 := hr.cell i hi4
            rw [upd_same] at c0
            have f0 := hr.free i
            have c1 := hr.cell i1 hi14
            rw [show upd (sTo v i) i h i1 = dig v i1 by unfold upd sTo; rw [if_neg (by rw [hi1.out]; omega), if_neg (by rw [hi1.out]; omega)]] at c1
            have e2 := shl63 (dig v i1)
            have e3 := or_top h (dig v i1 % 2) hhl (by omega)
            have HD2 := HDg.out hi3
            rw [← hi1.out] at HD2
            rw [← HD2] at e3
            have HK2 : Hid (Kn w [(w.heap.size, (rowOf .u64 4 (sTo v (i + 1))).toArray), (w.heap.size + 1, Z)] (W1.setCell ⟨w.heap.size, i, none⟩ (.int .u64 (dig (v / 2) i : Int))).drew) := Lib.hid ((HK1.out.setw (m := [(w.heap.size, (rowOf .u64 4 (upd (upd (sTo v i) i h) i (dig (v / 2) i))).toArray), (w.heap.size + 1, Z)]) (w.heap.size) _ i (dig (v / 2) i) hr (by omega) (fun p hp => by simp at hp; rcases hp with rfl | rfl <;> first | exact .inl rfl | exact .inr ⟨by simp, by simp only; omega⟩)).ext (w.heap.size) _ _ (sTo_step v i h _ rfl) (fun p hp => by simp at hp; rcases hp with rfl | rfl <;> first | exact .inr ⟨rfl, by simp⟩ | exact .inl (by simp))).drew
            obtain ⟨Y, hY⟩ : ∃ Y, Hid (Y = dig v i1 % 2 * 9223372036854775808) := ⟨_, Lib.hid rfl⟩
            rw [← hY.out] at e2 e3
            generalize dig (v / 2) i = r at *
            generalize dig v i1 = y at *
            clear hr HK1 HDg HDg3 hY HD2 hhl e1
            rw [← hi1.out] at HK2
            clear hi1
            go_wp2
            go_region
            go_wp2
            go_roundw
            case rel => exact ⟨i1, by omega, by first | rfl | simp | go_num, HK2.out⟩
            case measure => simp [intOf]; omega
          · obtain rfl : i = 3 := by omega
            have HK2 : Hid (Kn w [(w.heap.size, (rowOf .u64 4 (sTo v (3 + 1))).toArray), (w.heap.size + 1, Z)] W1) := by
              have h3 := (HDg3 rfl).out
              refine Lib.hid (HK1.out.ext (w.heap.size) (upd (sTo v 3) 3 h) (sTo v 4) (fun j hj => ?_) (fun p hp => by simp at hp; rcases hp with rfl | rfl <;> first | exact .inr ⟨rfl, by simp⟩ | exact .inl (by simp)))
              have := sTo_step v 3 h h h3 j hj
              rw [← this]
              unfold upd
              split <;> rfl
            clear HK1 HDg HDg3 e1 c0 f0
            rw [show ((3 : Nat) : Int) = (3 : Int) from rfl]
            go_wp2
            go_roundw
            case rel => exact ⟨4, by omega, by first | rfl | simp | go_num, HK2.out⟩
            case measure => simp [intOf]
        · obtain rfl : i = 4 := by omega
          have HK2 : Hid (Kn w [(w.heap.size, num (a / 2 ^ (q + 1))), (w.heap.size + 1, Z)] wr) := by
            rw [← hv2.out]
            exact Lib.hid (HK.out.ext (w.heap.size) (sTo v 4) (dig (v / 2)) (fun j hj => by unfold sTo; rw [if_pos hj]) (fun p hp => by simp at hp; rcases hp with rfl | rfl <;> first | exact .inr ⟨rfl, by simp⟩ | exact .inl (by simp)))
          clear HK hv2
          rw [show ((4 : Nat) : Int) = (4 : Int) from rfl]
          go_wp2
          go_roundw
          case rel => exact ⟨q + 1, by omega, by first | rfl | simp | go_num, HK2.out⟩
          case measure => simp [intOf]; omega
    · obtain rfl : q = m := by omega
      rw [← hT.out] at HK
      have hl := HK.out.load (w.heap.size) T (by simp) IT
      clear hT
      go_wp2_with (first | (refine wpList_run rfl _ (exec_load_of _ 24 (.tmp 2) rfl ⟨w.heap.size, 0, none⟩ rfl (.agg T) hl) ?_) | (refine wpList_run0 rfl (exec_store_kn (w0 := w) (l := [(w.heap.size, T), (w.heap.size + 1, Z)]) _ HK.out (.tmp 4) (.tmp 34) rfl (w.heap.size + 1) rfl T IT rfl Z IZ (by simp)) ?_))
      have HSZ : Kn w [(w.heap.size + 1, T)] (World.setRow _ (w.heap.size + 1) T) := HK.out.set (w.heap.size + 1) T Z (HK.out.get (w.heap.size + 1) Z (by simp)) (by omega) (fun p hp => by simp at hp; subst hp; simp)
      exact bodyPost_ret (results_cell rfl _ _ _ ⟨w.heap.size + 1, 0, none⟩ rfl _ (HSZ.load (w.heap.size + 1) T (by simp) IT)) rfl ⟨rfl, HSZ.1⟩
end Go.Proofs.YtkkgeljcgebegaaDoor
