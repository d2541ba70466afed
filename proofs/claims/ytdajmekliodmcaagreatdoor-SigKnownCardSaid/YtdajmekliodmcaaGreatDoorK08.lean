/- Sub of package field. No condition but that the numbers have 256 bits. -/
import Derived.Test.YtdajmekliodmcaaGreatDoorK07
namespace Go.Proofs.YtdajmekliodmcaaGreatDoor.P8
set_option linter.unusedSimpArgs false
open Go.RowKit Go.Shelf
set_option linter.unusedVariables false
theorem sub_start (a b : Nat) (ha : a < 115792089237316195423570985008687907853269984665640564039457584007913129639936) (hb : b < 115792089237316195423570985008687907853269984665640564039457584007913129639936) : ((a + 115792089237316195423570985008687907853269984665640564039457584007913129639936 - b) % 115792089237316195423570985008687907853269984665640564039457584007913129639936 + (if a < b then 1 else 0) * (57896044618658097711785492504343953926634992332820282019728792003956564819949 - 38)) % 57896044618658097711785492504343953926634992332820282019728792003956564819949 = (a + 3 * 57896044618658097711785492504343953926634992332820282019728792003956564819949 - b) % 57896044618658097711785492504343953926634992332820282019728792003956564819949 := by
  by_cases h : a < b
  · rw [if_pos h]
    obtain ⟨c, rfl⟩ : ∃ c, b = a + c := ⟨b - a, by omega⟩
    rw [Nat.add_sub_add_left, Nat.add_sub_add_left, Nat.mod_eq_of_lt (a := 115792089237316195423570985008687907853269984665640564039457584007913129639936 - c) (by omega)]
    omega
  · rw [if_neg h]
    obtain ⟨c, rfl⟩ : ∃ c, a = b + c := ⟨a - b, by omega⟩
    rw [Nat.add_assoc, Nat.add_assoc, Nat.add_sub_cancel_left, Nat.add_sub_cancel_left, Nat.add_mod_right, Nat.mod_eq_of_lt (a := c) (by omega)]
    omega
theorem sub_less (d x2 : Nat) (hd : d < 115792089237316195423570985008687907853269984665640564039457584007913129639936) (hx : x2 = if d < 38 then 1 else 0) : x2 * (if (d + 115792089237316195423570985008687907853269984665640564039457584007913129639936 - 38) % 115792089237316195423570985008687907853269984665640564039457584007913129639936 < 38 then 2 else 1) < 1 * (if d < 38 then 2 else 1) ∧ x2 ≤ 1 := by
  by_cases hc : d < 38
  · rw [if_pos hc] at hx
    subst hx
    rw [if_pos hc, if_neg (by omega)]
    decide
  · rw [if_neg hc] at hx
    subst hx
    rw [if_neg hc]
    omega
theorem sub_step (d x : Nat) (hd : d < 115792089237316195423570985008687907853269984665640564039457584007913129639936) (hx : x = 1) : ((d + 115792089237316195423570985008687907853269984665640564039457584007913129639936 - 38) % 115792089237316195423570985008687907853269984665640564039457584007913129639936 + (if d < 38 then 1 else 0) * (57896044618658097711785492504343953926634992332820282019728792003956564819949 - 38)) % 57896044618658097711785492504343953926634992332820282019728792003956564819949 = (d + x * (57896044618658097711785492504343953926634992332820282019728792003956564819949 - 38)) % 57896044618658097711785492504343953926634992332820282019728792003956564819949 := by
  subst hx
  by_cases h : d < 38
  · rw [if_pos h]
    omega
  · rw [if_neg h]
    omega
set_option maxRecDepth 100000 in
set_option maxHeartbeats 1000000 in
theorem subf_any (a b : Nat) (ha : a < 115792089237316195423570985008687907853269984665640564039457584007913129639936) (hb : b < 115792089237316195423570985008687907853269984665640564039457584007913129639936) (w : World) :
    Calls Tryz.prog 89 #[.agg (num a), .agg (num b)] w fun e w' => e = .returned (.agg (num (subF a b))) ∧ Below w.heap.size w w' := by
  have HP := Lib.hid (minus_any a b ha hb)
  have h0 := sub_start a b ha hb
  rw [show (a + 3 * 57896044618658097711785492504343953926634992332820282019728792003956564819949 - b) % 57896044618658097711785492504343953926634992332820282019728792003956564819949 = subF a b from rfl] at h0
  have hd0 : (a + 115792089237316195423570985008687907853269984665640564039457584007913129639936 - b) % 115792089237316195423570985008687907853269984665640564039457584007913129639936 < 115792089237316195423570985008687907853269984665640564039457584007913129639936 := Nat.mod_lt _ (by decide)
  obtain ⟨x0, hx0⟩ : ∃ x : Nat, x = if a < b then 1 else 0 := ⟨_, rfl⟩
  have hx1 : x0 ≤ 1 := by rw [hx0]; split <;> decide
  rw [← hx0] at HP h0
  obtain ⟨T, hT⟩ : ∃ T, Hid (T = subF a b) := ⟨_, Lib.hid rfl⟩
  rw [← hT.out] at h0 ⊢
  have IT := isNum T
  obtain ⟨d0, hd0e⟩ : ∃ d, Hid (d = (a + 115792089237316195423570985008687907853269984665640564039457584007913129639936 - b) % 115792089237316195423570985008687907853269984665640564039457584007913129639936) := ⟨_, Lib.hid rfl⟩
  rw [← hd0e.out] at HP h0 hd0
  have HST : Hid ((d0 + x0 * (57896044618658097711785492504343953926634992332820282019728792003956564819949 - 38)) % 57896044618658097711785492504343953926634992332820282019728792003956564819949 = T ∧ d0 < 115792089237316195423570985008687907853269984665640564039457584007913129639936 ∧ x0 ≤ 1) := Lib.hid ⟨h0, hd0, hx1⟩
  clear h0 hd0 hx1 hx0 ha hb hT hd0e
  obtain ⟨A, hA⟩ : ∃ A, Hid (A = num a) := ⟨_, Lib.hid rfl⟩
  have IA : IsNum A := by rw [hA.out]; exact isNum _
  obtain ⟨B, hB⟩ : ∃ B, Hid (B = num b) := ⟨_, Lib.hid rfl⟩
  have IB : IsNum B := by rw [hB.out]; exact isNum _
  rw [← hA.out, ← hB.out] at HP
  rw [← hA.out, ← hB.out]
  clear hA hB
  have IZ := isNum 0
  have HZ := zero_run
  have hb38 := build_run 38 (by decide)
  have hz4 : ∀ W : World, Kn W [(W.heap.size, A), (W.heap.size + 1, B), (W.heap.size + 1 + 1, num 0)] (((W.alloc (.cells A 36)).alloc (.cells B 36)).alloc (.cells (num 0) 36)) := by
    intro W
    have h := (((Kn.nil W).new A).new B).new (num 0)
    simp only [World.size_alloc] at h
    exact h.sub (fun p hp => by simp at hp ⊢; rcases hp with h | h | h <;> simp [h])
  have HS := Lib.hid (hz4 w)
  have IZ2 := IZ.size
  have ID0 := isNum d0
  clear hz4
  generalize num 0 = Z at *
  go_enter Tryz.func89, Tryz.ntmps89
  go_wp2_with (first | ((refine wpList_run rfl _ (exec_alloc_agg _ 36 rfl _ (HZ _)) ?_); try simp only [World.size_alloc]) | (refine wpList_run rfl _ (exec_load_of _ 36 (.tmp 2) rfl ⟨w.heap.size, 0, none⟩ rfl (.agg A) ?L2) ?_) | (refine wpList_run rfl _ (exec_load_of _ 36 (.tmp 3) rfl ⟨w.heap.size + 1, 0, none⟩ rfl (.agg B) ?L3) ?_))
  case L2 => exact HS.out.load (w.heap.size) A (by simp) IA
  case L3 => exact HS.out.load (w.heap.size + 1) B (by simp) IB
  refine (HP.out _).mono ?_
  rintro e w1 ⟨rfl, hb⟩
  have HS1 := HS.out.below hb
  clear hb HS HP
  have HA2 : Kn w [(w.heap.size + 1 + 1, Z), (w1.heap.size, num d0)] (w1.alloc (.cells (num d0) 36)) := by
    have h := HS1.new (num d0)
    exact h.sub (fun p hp => by simp at hp ⊢; rcases hp with h | h <;> simp [h])
  have hge := HS1.lt (w.heap.size + 1 + 1) Z (by simp)
  have HS2 := Lib.hid HA2
  clear HA2 HS1
  go_wp2_with (first | (refine wpList_run rfl _ (exec_alloc_agg _ 36 rfl _ (HZ _)) ?_) | (refine wpList_run0 rfl (exec_new24 _ (.tmp 5) (.tmp 11) rfl _ _ rfl (num d0) ID0 rfl IZ2) ?_))
  generalize w1.alloc (.cells (num d0) 36) = W1 at *
  obtain ⟨g, hg⟩ : ∃ g, g = w1.heap.size := ⟨_, rfl⟩
  rw [← hg] at HS2 hge ⊢
  clear hg
  go_loopw [6] (fun u wr => ∃ d x : Nat, u = .int .u64 x ∧ (d + x * (57896044618658097711785492504343953926634992332820282019728792003956564819949 - 38)) % 57896044618658097711785492504343953926634992332820282019728792003956564819949 = T ∧ d < 115792089237316195423570985008687907853269984665640564039457584007913129639936 ∧ x ≤ 1 ∧ Kn w [(w.heap.size + 1 + 1, Z), (g, num d)] wr)
    (fun u wr => (intOf u).toNat * (if valO (wr.heap[g]?) < 38 then 2 else 1))
  case atStart => exact ⟨d0, x0, rfl, HST.out.1, HST.out.2.1, HST.out.2.2, HS2.out⟩
  case round =>
    clear HS2 HST ID0
    obtain ⟨d, x, rfl, hTT, hd, hx, HK⟩ := hrel
    have HG := Lib.hid (HK.get g (num d) (by simp))
    have ID := isNum d
    by_cases h0 : x = 0
    · subst h0
      have HM := Lib.hid (norm_any d hd)
      rw [show d % pp = T by rw [← hTT, Nat.zero_mul, Nat.add_zero]; rfl] at HM
      clear hTT hd hx
      generalize num d = An at *
      obtain ⟨AT, hAT⟩ : ∃ AT, Hid (AT = num T) := ⟨_, Lib.hid rfl⟩
      rw [← hAT.out] at HM IT
      go_wp2_with ((refine wpList_run rfl _ (exec_load_of _ 36 (.tmp 5) rfl ⟨g, 0, none⟩ rfl (.agg An) ?L5) ?_))
      case L5 => exact HK.load g An (by simp) ID
      refine (HM.out _).mono ?_
      rintro e w5 ⟨rfl, hb⟩
      have HS5 := HK.below hb
      clear hb HK
      go_wp2_with ((refine wpList_run0 rfl (exec_store_kn (w0 := w) (l := [(w.heap.size + 1 + 1, Z), (g, An)]) _ ?S4 (.tmp 4) (.tmp 22) rfl (w.heap.size + 1 + 1) rfl AT IT rfl Z IZ (by simp)) ?_))
      case S4 => exact HS5
      have HS6 : Kn w [(w.heap.size + 1 + 1, AT)] (w5.setRow (w.heap.size + 1 + 1) AT) := HS5.set (w.heap.size + 1 + 1) AT Z (HS5.get (w.heap.size + 1 + 1) Z (by simp)) (by omega) (fun p hp => by simp at hp; subst hp; simp)
      exact bodyPost_ret (results_cell rfl _ _ _ ⟨w.heap.size + 1 + 1, 0, none⟩ rfl _ (HS6.load (w.heap.size + 1 + 1) AT (by simp) IT)) rfl ⟨by rw [hAT.out], HS6.1⟩
    · obtain rfl : x = 1 := by omega
      have HP := Lib.hid (minus_any d 38 hd (by decide))
      have h1 := sub_step d 1 hd rfl
      rw [hTT] at h1
      have hd2 : (d + 115792089237316195423570985008687907853269984665640564039457584007913129639936 - 38) % 115792089237316195423570985008687907853269984665640564039457584007913129639936 < 115792089237316195423570985008687907853269984665640564039457584007913129639936 := Nat.mod_lt _ (by decide)
      obtain ⟨x2, hx2⟩ : ∃ x : Nat, x = if d < 38 then 1 else 0 := ⟨_, rfl⟩
      rw [← hx2] at HP h1
      have HME := Lib.hid (sub_less d x2 hd hx2)
      obtain ⟨d2, hd2e⟩ : ∃ d2, Hid (d2 = (d + 115792089237316195423570985008687907853269984665640564039457584007913129639936 - 38) % 115792089237316195423570985008687907853269984665640564039457584007913129639936) := ⟨_, Lib.hid rfl⟩
      rw [← hd2e.out] at HP h1 hd2 HME
      have HR := Lib.hid h1
      have HD2 := Lib.hid hd2
      have HDl := Lib.hid hd
      have ID2 := isNum d2
      have h01 : (0 : Int) < 1 := by decide
      clear hTT h1 hd2 hd hx2 hd2e hx h0
      go_wp2_with (first | (refine wpList_run rfl _ (exec_load_of _ 36 (.tmp 5) rfl ⟨g, 0, none⟩ rfl (.agg (num d)) ?L5) ?_) | (refine wpList_run rfl _ (exec_build1 _ 36 0 (.const (.int .u64 38)) rfl _ rfl _ (hb38 _)) ?_))
      case L5 => exact HK.load g (num d) (by simp) ID
      refine (HP.out _).mono ?_
      rintro e w5 ⟨rfl, hb⟩
      have HS5 := HK.below hb
      clear hb HK
      go_wp2_with ((refine wpList_run0 rfl (exec_store_kn (w0 := w) (l := [(w.heap.size + 1 + 1, Z), (g, num d)]) _ ?S5 (.tmp 5) (.tmp 19) rfl (g) rfl (num d2) ID2 rfl (num d) ID (by simp)) ?_))
      case S5 => exact HS5
      have HS6 : Kn w [(w.heap.size + 1 + 1, Z), (g, num d2)] (w5.setRow g (num d2)) := HS5.set g (num d2) (num d) (HS5.get g (num d) (by simp)) (by omega) (fun p hp => by simp at hp; rcases hp with rfl | rfl <;> simp; omega)
      clear HS5
      generalize w5.setRow g (num d2) = w6 at *
      go_roundw
      case rel => exact ⟨d2, x2, rfl, HR.out, HD2.out, HME.out.2, HS6⟩
      case measure =>
        rw [HS6.get g (num d2) (by simp), HG.out, valO_num d2 HD2.out, valO_num d HDl.out]
        exact HME.out.1
end Go.Proofs.YtdajmekliodmcaaGreatDoor.P8
