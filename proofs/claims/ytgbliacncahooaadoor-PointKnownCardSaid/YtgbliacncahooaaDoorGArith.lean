/- Add, Sub, Mul of package field. No condition but that the numbers have 256 bits. -/
import Derived.Test.YtgbliacncahooaaDoorGFld
import Derived.Test.YtgbliacncahooaaDoorGMathA
namespace Go.Proofs.YtgbliacncahooaaDoor
open Go.RowKit Go.Shelf
set_option linter.unusedVariables false
set_option maxRecDepth 100000 in
set_option maxHeartbeats 1000000 in
theorem addf_any (a b : Nat) (ha : a < 115792089237316195423570985008687907853269984665640564039457584007913129639936) (hb : b < 115792089237316195423570985008687907853269984665640564039457584007913129639936) (w : World) :
    Calls Tryd.prog 41 #[.agg (num a), .agg (num b)] w fun e w' => e = .returned (.agg (num (addF a b))) ∧ Below w.heap.size w w' := by
  have HP := Lib.hid (plus_any a b 1 ha hb (by decide))
  have HF := Lib.hid (folded_any ((a + b * 1) % 115792089237316195423570985008687907853269984665640564039457584007913129639936) ((a + b * 1) / 115792089237316195423570985008687907853269984665640564039457584007913129639936) (Nat.mod_lt _ (by decide)) (by omega))
  rw [Nat.mod_add_div', Nat.mul_one, show (a + b) % pp = addF a b from rfl] at HF
  rw [Nat.mul_one] at HP
  clear ha hb
  obtain ⟨A, hA⟩ : ∃ A, Hid (A = num a) := ⟨_, Lib.hid rfl⟩
  have IA : IsNum A := by rw [hA.out]; exact isNum _
  obtain ⟨B, hB⟩ : ∃ B, Hid (B = num b) := ⟨_, Lib.hid rfl⟩
  have IB : IsNum B := by rw [hB.out]; exact isNum _
  obtain ⟨S, hS⟩ : ∃ S, Hid (S = num ((a + b) % 115792089237316195423570985008687907853269984665640564039457584007913129639936)) := ⟨_, Lib.hid rfl⟩
  have IS : IsNum S := by rw [hS.out]; exact isNum _
  obtain ⟨R, hR⟩ : ∃ R, Hid (R = num (addF a b)) := ⟨_, Lib.hid rfl⟩
  have IR : IsNum R := by rw [hR.out]; exact isNum _
  rw [← hA.out, ← hB.out, ← hS.out] at HP
  rw [← hS.out, ← hR.out] at HF
  rw [← hA.out, ← hB.out, ← hR.out]
  generalize (a + b) / 115792089237316195423570985008687907853269984665640564039457584007913129639936 = v at *
  clear hA hB hS hR
  have IZ := isNum 0
  have HZ := zero_run
  have hz4 : ∀ W : World, Kn W [(W.heap.size, A), (W.heap.size + 1, B), (W.heap.size + 1 + 1, num 0)] (((W.alloc (.cells A 24)).alloc (.cells B 24)).alloc (.cells (num 0) 24)) := by
    intro W
    have h := (((Kn.nil W).new A).new B).new (num 0)
    simp only [World.size_alloc] at h
    exact h.sub (fun p hp => by simp at hp ⊢; rcases hp with h | h | h <;> simp [h])
  have HS := Lib.hid (hz4 w)
  clear hz4
  generalize num 0 = Z at *
  go_enter Tryd.func41, Tryd.ntmps41
  go_wp2_with (first | ((refine wpList_run rfl _ (exec_alloc_agg _ 24 rfl _ (HZ _)) ?_); try simp only [World.size_alloc]) | (refine wpList_run rfl _ (exec_load_of _ 24 (.tmp 2) rfl ⟨w.heap.size, 0, none⟩ rfl _ (HS.out.load (w.heap.size) A (by simp) IA)) ?_) | (refine wpList_run rfl _ (exec_load_of _ 24 (.tmp 3) rfl ⟨w.heap.size + 1, 0, none⟩ rfl _ (HS.out.load (w.heap.size + 1) B (by simp) IB)) ?_))
  refine (HP.out _).mono ?_
  rintro e w1 ⟨rfl, hb⟩
  have HS1 := HS.out.below hb
  clear hb HS
  go_wp2_with fail
  refine (HF.out _).mono ?_
  rintro e w2 ⟨rfl, hb⟩
  have HS2 := HS1.below hb
  clear hb HS1
  go_wp2_with (refine wpList_run0 rfl (exec_store_kn _ HS2 (.tmp 4) (.tmp 10) rfl (w.heap.size + 1 + 1) rfl R IR rfl Z IZ (by simp)) ?_)
  have HS6 : Kn w [(w.heap.size + 1 + 1, R)] (w2.setRow (w.heap.size + 1 + 1) R) := HS2.set (w.heap.size + 1 + 1) R Z (HS2.get (w.heap.size + 1 + 1) Z (by simp)) (by omega) (fun p hp => by simp at hp; subst hp; simp)
  exact bodyPost_ret (results_cell rfl _ _ _ ⟨w.heap.size + 1 + 1, 0, none⟩ rfl _ (HS6.load (w.heap.size + 1 + 1) R (by simp) IR)) rfl ⟨rfl, HS6.1⟩
theorem fold38 (z : Nat) : (z % 115792089237316195423570985008687907853269984665640564039457584007913129639936 + z / 115792089237316195423570985008687907853269984665640564039457584007913129639936 * 38) % pp = z % pp := by
  have h : z = z % 115792089237316195423570985008687907853269984665640564039457584007913129639936 + z / 115792089237316195423570985008687907853269984665640564039457584007913129639936 * 38 + pp * (2 * (z / 115792089237316195423570985008687907853269984665640564039457584007913129639936)) := by rw [show pp = 57896044618658097711785492504343953926634992332820282019728792003956564819949 from rfl]; omega
  calc (z % 115792089237316195423570985008687907853269984665640564039457584007913129639936 + z / 115792089237316195423570985008687907853269984665640564039457584007913129639936 * 38) % pp = (z % 115792089237316195423570985008687907853269984665640564039457584007913129639936 + z / 115792089237316195423570985008687907853269984665640564039457584007913129639936 * 38 + pp * (2 * (z / 115792089237316195423570985008687907853269984665640564039457584007913129639936))) % pp := (Nat.add_mul_mod_self_left _ _ _).symm
    _ = z % pp := by rw [← h]
theorem mulF_eq (a b : Nat) : ((a * b % 115792089237316195423570985008687907853269984665640564039457584007913129639936 + a * b / 115792089237316195423570985008687907853269984665640564039457584007913129639936 * 38) % 115792089237316195423570985008687907853269984665640564039457584007913129639936 + (a * b % 115792089237316195423570985008687907853269984665640564039457584007913129639936 + a * b / 115792089237316195423570985008687907853269984665640564039457584007913129639936 * 38) / 115792089237316195423570985008687907853269984665640564039457584007913129639936 * 115792089237316195423570985008687907853269984665640564039457584007913129639936) % pp = mulF a b := by
  rw [Nat.mod_add_div', fold38]
  rfl
set_option maxRecDepth 100000 in
set_option maxHeartbeats 1000000 in
theorem mulf_any (a b : Nat) (ha : a < 115792089237316195423570985008687907853269984665640564039457584007913129639936) (hb : b < 115792089237316195423570985008687907853269984665640564039457584007913129639936) (w : World) :
    Calls Tryd.prog 40 #[.agg (num a), .agg (num b)] w fun e w' => e = .returned (.agg (num (mulF a b))) ∧ Below w.heap.size w w' := by
  have hm : a * b < 115792089237316195423570985008687907853269984665640564039457584007913129639936 * 115792089237316195423570985008687907853269984665640564039457584007913129639936 := Nat.mul_lt_mul'' ha hb
  have HP := Lib.hid (product_any a b ha hb)
  have hl : a * b % 115792089237316195423570985008687907853269984665640564039457584007913129639936 < 115792089237316195423570985008687907853269984665640564039457584007913129639936 := Nat.mod_lt _ (by decide)
  have hh : a * b / 115792089237316195423570985008687907853269984665640564039457584007913129639936 < 115792089237316195423570985008687907853269984665640564039457584007913129639936 := Nat.div_lt_of_lt_mul hm
  have HP2 := Lib.hid (plus_any (a * b % 115792089237316195423570985008687907853269984665640564039457584007913129639936) (a * b / 115792089237316195423570985008687907853269984665640564039457584007913129639936) 38 hl hh (by decide))
  have hT := mulF_eq a b
  have HF := Lib.hid (folded_any ((a * b % 115792089237316195423570985008687907853269984665640564039457584007913129639936 + a * b / 115792089237316195423570985008687907853269984665640564039457584007913129639936 * 38) % 115792089237316195423570985008687907853269984665640564039457584007913129639936) ((a * b % 115792089237316195423570985008687907853269984665640564039457584007913129639936 + a * b / 115792089237316195423570985008687907853269984665640564039457584007913129639936 * 38) / 115792089237316195423570985008687907853269984665640564039457584007913129639936) (Nat.mod_lt _ (by decide)) (by omega))
  rw [hT] at HF
  clear ha hb hm hl hh hT
  obtain ⟨A, hA⟩ : ∃ A, Hid (A = num a) := ⟨_, Lib.hid rfl⟩
  have IA : IsNum A := by rw [hA.out]; exact isNum _
  obtain ⟨B, hB⟩ : ∃ B, Hid (B = num b) := ⟨_, Lib.hid rfl⟩
  have IB : IsNum B := by rw [hB.out]; exact isNum _
  obtain ⟨L, hL⟩ : ∃ L, Hid (L = num (a * b % 115792089237316195423570985008687907853269984665640564039457584007913129639936)) := ⟨_, Lib.hid rfl⟩
  have IL : IsNum L := by rw [hL.out]; exact isNum _
  obtain ⟨H, hH⟩ : ∃ H, Hid (H = num (a * b / 115792089237316195423570985008687907853269984665640564039457584007913129639936)) := ⟨_, Lib.hid rfl⟩
  have IH : IsNum H := by rw [hH.out]; exact isNum _
  obtain ⟨S, hS⟩ : ∃ S, Hid (S = num ((a * b % 115792089237316195423570985008687907853269984665640564039457584007913129639936 + a * b / 115792089237316195423570985008687907853269984665640564039457584007913129639936 * 38) % 115792089237316195423570985008687907853269984665640564039457584007913129639936)) := ⟨_, Lib.hid rfl⟩
  have IS : IsNum S := by rw [hS.out]; exact isNum _
  obtain ⟨R, hR⟩ : ∃ R, Hid (R = num (mulF a b)) := ⟨_, Lib.hid rfl⟩
  have IR : IsNum R := by rw [hR.out]; exact isNum _
  rw [← hA.out, ← hB.out, ← hL.out, ← hH.out] at HP
  rw [← hL.out, ← hH.out, ← hS.out] at HP2
  rw [← hS.out, ← hR.out] at HF
  rw [← hA.out, ← hB.out, ← hR.out]
  generalize (a * b % 115792089237316195423570985008687907853269984665640564039457584007913129639936 + a * b / 115792089237316195423570985008687907853269984665640564039457584007913129639936 * 38) / 115792089237316195423570985008687907853269984665640564039457584007913129639936 = v at *
  clear hA hB hS hR hL hH
  have IZ := isNum 0
  have HZ := zero_run
  have hz4 : ∀ W : World, Kn W [(W.heap.size, A), (W.heap.size + 1, B), (W.heap.size + 1 + 1, num 0)] (((W.alloc (.cells A 24)).alloc (.cells B 24)).alloc (.cells (num 0) 24)) := by
    intro W
    have h := (((Kn.nil W).new A).new B).new (num 0)
    simp only [World.size_alloc] at h
    exact h.sub (fun p hp => by simp at hp ⊢; rcases hp with h | h | h <;> simp [h])
  have HS := Lib.hid (hz4 w)
  have IZ2 := IZ.size
  clear hz4
  generalize num 0 = Z at *
  go_enter Tryd.func40, Tryd.ntmps40
  go_wp2_with (first | ((refine wpList_run rfl _ (exec_alloc_agg _ 24 rfl _ (HZ _)) ?_); try simp only [World.size_alloc]) | (refine wpList_run rfl _ (exec_load_of _ 24 (.tmp 2) rfl ⟨w.heap.size, 0, none⟩ rfl _ (HS.out.load (w.heap.size) A (by simp) IA)) ?_) | (refine wpList_run rfl _ (exec_load_of _ 24 (.tmp 3) rfl ⟨w.heap.size + 1, 0, none⟩ rfl _ (HS.out.load (w.heap.size + 1) B (by simp) IB)) ?_))
  refine (HP.out _).mono ?_
  rintro e w1 ⟨rfl, hb⟩
  have HS1 := HS.out.below hb
  clear hb HS
  have HA1 : Kn w [(w.heap.size + 1 + 1, Z), (w1.heap.size, Z), (w1.heap.size + 1, Z)] ((w1.alloc (.cells Z 24)).alloc (.cells Z 24)) := by
    have h := (HS1.new Z).new Z
    simp only [World.size_alloc] at h
    exact h.sub (fun p hp => by simp at hp ⊢; rcases hp with h | h | h <;> simp [h])
  have hlg := HS1.lt (w.heap.size + 1 + 1) Z (by simp)
  have HA2 : Kn w [(w.heap.size + 1 + 1, Z), (w1.heap.size, L), (w1.heap.size + 1, Z)] (((w1.alloc (.cells Z 24)).alloc (.cells Z 24)).setRow (w1.heap.size) L) := HA1.set (w1.heap.size) L Z (HA1.get (w1.heap.size) Z (by simp)) (by omega) (fun p hp => by simp at hp; rcases hp with rfl | rfl | rfl <;> simp <;> omega)
  have HA3 : Kn w [(w.heap.size + 1 + 1, Z), (w1.heap.size, L), (w1.heap.size + 1, H)] ((((w1.alloc (.cells Z 24)).alloc (.cells Z 24)).setRow (w1.heap.size) L).setRow (w1.heap.size + 1) H) := HA2.set (w1.heap.size + 1) H Z (HA2.get (w1.heap.size + 1) Z (by simp)) (by omega) (fun p hp => by simp at hp; rcases hp with rfl | rfl | rfl <;> simp <;> omega)
  have K1 := Lib.hid HA1
  have K2 := Lib.hid HA2
  have K3 := Lib.hid HA3
  clear HA1 HA2 HA3 HS1 hlg
  go_wp2_with (first | ((refine wpList_run rfl _ (exec_alloc_agg _ 24 rfl _ (HZ _)) ?_); try simp only [World.size_alloc]) | (refine wpList_run0 rfl (exec_store_kn (w0 := w) (l := [(w.heap.size + 1 + 1, Z), (w1.heap.size, Z), (w1.heap.size + 1, Z)]) _ ?S5 (.tmp 5) (.tmp 11) rfl (w1.heap.size) rfl L IL rfl Z IZ (by simp)) ?_) | (refine wpList_run0 rfl (exec_store_kn (w0 := w) (l := [(w.heap.size + 1 + 1, Z), (w1.heap.size, L), (w1.heap.size + 1, Z)]) _ ?S6 (.tmp 6) (.tmp 12) rfl (w1.heap.size + 1) rfl H IH rfl Z IZ (by simp)) ?_) | (refine wpList_run rfl _ (exec_load_of _ 24 (.tmp 5) rfl ⟨w1.heap.size, 0, none⟩ rfl (.agg L) ?L5) ?_) | (refine wpList_run rfl _ (exec_load_of _ 24 (.tmp 6) rfl ⟨w1.heap.size + 1, 0, none⟩ rfl (.agg H) ?L6) ?_))
  case S5 => exact K1.out
  case S6 => exact K2.out
  case L5 => exact K3.out.load (w1.heap.size) L (by simp) IL
  case L6 => exact K3.out.load (w1.heap.size + 1) H (by simp) IH
  refine (HP2.out _).mono ?_
  rintro e w2 ⟨rfl, hb⟩
  have HS2 := K3.out.below hb
  clear hb K1 K2 K3
  go_wp2_with fail
  refine (HF.out _).mono ?_
  rintro e w3 ⟨rfl, hb⟩
  have HS3 := HS2.below hb
  clear hb HS2
  go_wp2_with (refine wpList_run0 rfl (exec_store_kn _ HS3 (.tmp 4) (.tmp 18) rfl (w.heap.size + 1 + 1) rfl R IR rfl Z IZ (by simp)) ?_)
  have HS6 : Kn w [(w.heap.size + 1 + 1, R)] (w3.setRow (w.heap.size + 1 + 1) R) := HS3.set (w.heap.size + 1 + 1) R Z (HS3.get (w.heap.size + 1 + 1) Z (by simp)) (by omega) (fun p hp => by simp at hp; subst hp; simp)
  exact bodyPost_ret (results_cell rfl _ _ _ ⟨w.heap.size + 1 + 1, 0, none⟩ rfl _ (HS6.load (w.heap.size + 1 + 1) R (by simp) IR)) rfl ⟨rfl, HS6.1⟩
end Go.Proofs.YtgbliacncahooaaDoor
