/- MulAdd of package scalar: a product with a sum, modulo the order. No condition but that the numbers have 256 bits, and that the order stands in memory. -/
import Derived.Test.YtfcnfcolhahghaaDoorReduce
namespace Go.Proofs.YtfcnfcolhahghaaDoor
open Go.RowKit Go.Shelf
set_option linter.unusedVariables false
set_option linter.unusedSimpArgs false
set_option maxRecDepth 100000 in
set_option maxHeartbeats 1000000 in
theorem muladd_any (a b c : Nat) (ha : a < 115792089237316195423570985008687907853269984665640564039457584007913129639936) (hb : b < 115792089237316195423570985008687907853269984665640564039457584007913129639936) (hc : c < 115792089237316195423570985008687907853269984665640564039457584007913129639936) (w : World) (hG0 : Glob w) :
    Calls Tryd.prog 12 #[.agg (num a), .agg (num b), .agg (num c)] w fun e w' => e = .returned (.agg (num (muladdL a b c))) ∧ Below w.heap.size w w' := by
  have lb : b % LL < LL := Nat.mod_lt _ LL_pos
  have lc : c % LL < LL := Nat.mod_lt _ LL_pos
  have H1 := Lib.hid (raw_any a)
  have H2 : Hid (∀ w, Glob w → _) := Lib.hid (norm_any b hb)
  have H3 : Hid (∀ w, Glob w → _) := Lib.hid (times_any ⟨(bytesN a).toArray⟩ (b % LL) (by show (bytesN a).length ≤ 64; rw [bytesN_length]; decide) lb)
  have H4 : Hid (∀ w, Glob w → _) := Lib.hid (norm_any c hc)
  have H5 : Hid (∀ w, Glob w → _) := Lib.hid (sum_any (leVal (bytesN a) * (b % LL) % LL) (c % LL) (Nat.mod_lt _ LL_pos) lc)
  rw [show (⟨(bytesN a).toArray⟩ : ByteArray).data.toList = bytesN a from List.toList_toArray] at H3
  rw [leVal_bytesN a ha] at H3 H5
  rw [show (a * (b % LL) % LL + c % LL) % LL = muladdL a b c by unfold muladdL; rw [← Nat.add_mod, Nat.add_mod, Nat.mul_mod_mod, ← Nat.add_mod]] at H5
  obtain ⟨A, hA⟩ : ∃ A, Hid (A = num a) := ⟨_, Lib.hid rfl⟩
  have IA : IsNum A := by rw [hA.out]; exact isNum _
  obtain ⟨B, hB⟩ : ∃ B, Hid (B = num b) := ⟨_, Lib.hid rfl⟩
  have IB : IsNum B := by rw [hB.out]; exact isNum _
  obtain ⟨C, hC⟩ : ∃ C, Hid (C = num c) := ⟨_, Lib.hid rfl⟩
  have IC : IsNum C := by rw [hC.out]; exact isNum _
  obtain ⟨NB, hNB⟩ : ∃ NB, Hid (NB = num (b % LL)) := ⟨_, Lib.hid rfl⟩
  have INB : IsNum NB := by rw [hNB.out]; exact isNum _
  obtain ⟨NC, hNC⟩ : ∃ NC, Hid (NC = num (c % LL)) := ⟨_, Lib.hid rfl⟩
  have INC : IsNum NC := by rw [hNC.out]; exact isNum _
  obtain ⟨M, hM⟩ : ∃ M, Hid (M = num (a * (b % LL) % LL)) := ⟨_, Lib.hid rfl⟩
  have IM : IsNum M := by rw [hM.out]; exact isNum _
  obtain ⟨R, hR⟩ : ∃ R, Hid (R = num (muladdL a b c)) := ⟨_, Lib.hid rfl⟩
  have IR : IsNum R := by rw [hR.out]; exact isNum _
  obtain ⟨SA, hSA⟩ : ∃ SA : ByteArray, Hid (SA = ⟨(bytesN a).toArray⟩) := ⟨_, Lib.hid rfl⟩
  rw [← hA.out, ← hSA.out] at H1
  rw [← hB.out, ← hNB.out] at H2
  rw [← hSA.out, ← hNB.out, ← hM.out] at H3
  rw [← hC.out, ← hNC.out] at H4
  rw [← hM.out, ← hNC.out, ← hR.out] at H5
  rw [← hA.out, ← hB.out, ← hC.out, ← hR.out]
  have HZ := zero_run
  obtain ⟨Z, hZ⟩ : ∃ Z, Hid (Z = num 0) := ⟨_, Lib.hid rfl⟩
  have IZ : IsNum Z := by rw [hZ.out]; exact isNum _
  have IZ2 := IZ.size
  have HZ2 : ∀ w, (zeroValue 24).run Tryd.prog w = .ok (.agg Z) w := by rw [hZ.out]; exact HZ
  clear HZ
  have hz4 : ∀ W : World, Kn W [(W.heap.size, A), (W.heap.size + 1, B), (W.heap.size + 1 + 1, C), (W.heap.size + 1 + 1 + 1, Z)] ((((W.alloc (.cells A 24)).alloc (.cells B 24)).alloc (.cells C 24)).alloc (.cells Z 24)) := by
    intro W
    have h := ((((Kn.nil W).new A).new B).new C).new Z
    simp only [World.size_alloc] at h
    exact h.sub (fun p hp => by simp at hp ⊢; rcases hp with h | h | h | h <;> simp [h])
  have HS := Lib.hid (hz4 w)
  have HG := Lib.hid hG0
  clear hG0 hz4 lb lc ha hb hc hA hB hC hNB hNC hM hR hSA hZ
  go_enter Tryd.func12, Tryd.ntmps12
  go_upto_region 1 with ((refine wpList_run rfl _ (exec_alloc_agg _ 24 rfl _ (HZ2 _)) ?_); try simp only [World.size_alloc])
  try simp only [Act.put, List.setIfInBounds_toArray, List.set_cons_succ, List.set_cons_zero]
  generalize (((w.alloc (.cells A 24)).alloc (.cells B 24)).alloc (.cells C 24)).alloc (.cells Z 24) = W0 at *
  refine wp_region_any (by kernel_rfl) ?_
  change wpAny _ _ _ _ _ _ _ (World.drew _)
  have HSD := HS.out.drew
  clear HS
  generalize W0.drew = Wd at *
  refine any_of_F (S := Kn w [(w.heap.size, A), (w.heap.size + 1, B), (w.heap.size + 1 + 1, C), (w.heap.size + 1 + 1 + 1, Z)]) (f := 8) _ _ _ _ ?_
  refine AnyF.take 0 (some 7) (.load 24 (.tmp 3)) (.agg A) rfl (by kernel_rfl) (by kernel_rfl) (by kernel_rfl) (fun _ _ _ h => h) rfl (by kernel_rfl) (fun o ho w2 hw => exec_load_of _ 24 (.tmp 3) ho ⟨w.heap.size, 0, none⟩ rfl _ (hw.load (w.heap.size) A (by simp) IA)) HSD ?_
  simp only [Act.put, List.setIfInBounds_toArray, List.set_cons_succ, List.set_cons_zero]
  refine AnyF.take 2 (some 9) (.load 24 (.tmp 4)) (.agg B) rfl (by kernel_rfl) (by kernel_rfl) (by kernel_rfl) (fun _ _ _ h => h) rfl (by kernel_rfl) (fun o ho w2 hw => exec_load_of _ 24 (.tmp 4) ho ⟨w.heap.size + 1, 0, none⟩ rfl _ (hw.load (w.heap.size + 1) B (by simp) IB)) HSD ?_
  simp only [Act.put, List.setIfInBounds_toArray, List.set_cons_succ, List.set_cons_zero]
  refine AnyF.take 5 (some 12) (.load 24 (.tmp 5)) (.agg C) rfl (by kernel_rfl) (by kernel_rfl) (by kernel_rfl) (fun _ _ _ h => h) rfl (by kernel_rfl) (fun o ho w2 hw => exec_load_of _ 24 (.tmp 5) ho ⟨w.heap.size + 1 + 1, 0, none⟩ rfl _ (hw.load (w.heap.size + 1 + 1) C (by simp) IC)) HSD ?_
  simp only [Act.put, List.setIfInBounds_toArray, List.set_cons_succ, List.set_cons_zero]
  refine AnyF.ready (rs := [1]) (by kernel_rfl) (by simp) (ReadyF.call (some 8) 20 #[.tmp 7] #[24] rfl #[.agg A] (by simp [Act.eval]) enters20 _ (H1.out _) ?_ (fun c w' h => by cases h.1) (fun w' h => by cases h.1) ReadyF.nil)
  rintro v wq1 ⟨he, hb⟩
  cases he
  have Hq2 := HSD.below hb
  clear hb
  refine ⟨Hq2, ?_⟩
  simp only [Act.put, List.setIfInBounds_toArray, List.set_cons_succ, List.set_cons_zero]
  refine AnyF.ready (rs := [3]) (by kernel_rfl) (by simp) (ReadyF.call (some 10) 25 #[.tmp 9] #[24] rfl #[.agg B] (by simp [Act.eval]) enters25 _ (H2.out _ (HG.out.kn Hq2)) ?_ (fun c w' h => by cases h.1) (fun w' h => by cases h.1) ReadyF.nil)
  rintro v wq3 ⟨he, hb⟩
  cases he
  have Hq4 := Hq2.below hb
  clear hb
  refine ⟨Hq4, ?_⟩
  simp only [Act.put, List.setIfInBounds_toArray, List.set_cons_succ, List.set_cons_zero]
  refine AnyF.ready (rs := [4]) (by kernel_rfl) (by simp) (ReadyF.call (some 11) 22 #[.tmp 8, .tmp 10] #[9, 24] rfl #[.string SA, .agg NB] (by simp [Act.eval]) enters22 _ (H3.out _ (HG.out.kn Hq4)) ?_ (fun c w' h => by cases h.1) (fun w' h => by cases h.1) ReadyF.nil)
  rintro v wq5 ⟨he, hb⟩
  cases he
  have Hq6 := Hq4.below hb
  clear hb
  refine ⟨Hq6, ?_⟩
  simp only [Act.put, List.setIfInBounds_toArray, List.set_cons_succ, List.set_cons_zero]
  refine AnyF.ready (rs := [6]) (by kernel_rfl) (by simp) (ReadyF.call (some 13) 25 #[.tmp 12] #[24] rfl #[.agg C] (by simp [Act.eval]) enters25 _ (H4.out _ (HG.out.kn Hq6)) ?_ (fun c w' h => by cases h.1) (fun w' h => by cases h.1) ReadyF.nil)
  rintro v wq7 ⟨he, hb⟩
  cases he
  have Hq8 := Hq6.below hb
  clear hb
  refine ⟨Hq8, ?_⟩
  simp only [Act.put, List.setIfInBounds_toArray, List.set_cons_succ, List.set_cons_zero]
  refine AnyF.ready (rs := [7]) (by kernel_rfl) (by simp) (ReadyF.call (some 14) 24 #[.tmp 11, .tmp 13] #[24, 24] rfl #[.agg M, .agg NC] (by simp [Act.eval]) enters24 _ (H5.out _ (HG.out.kn Hq8)) ?_ (fun c w' h => by cases h.1) (fun w' h => by cases h.1) ReadyF.nil)
  rintro v wq9 ⟨he, hb⟩
  cases he
  have Hq10 := Hq8.below hb
  clear hb
  refine ⟨Hq10, ?_⟩
  simp only [Act.put, List.setIfInBounds_toArray, List.set_cons_succ, List.set_cons_zero]
  refine AnyF.ready (rs := [8]) (by kernel_rfl) (by simp) (ReadyF.last (.store 24 (.tmp 6) (.tmp 14)) rfl (fun o ho => exec_store_kn wq9 Hq10 (.tmp 6) (.tmp 14) ho (w.heap.size + 1 + 1 + 1) rfl R IR rfl Z IZ (by simp)) ?_ ReadyF.nil)
  refine any_doneF (by kernel_rfl) ?_ _
  have HSZ : Kn w [(w.heap.size + 1 + 1 + 1, R)] (wq9.setRow (w.heap.size + 1 + 1 + 1) R) := Hq10.set (w.heap.size + 1 + 1 + 1) R Z (Hq10.get (w.heap.size + 1 + 1 + 1) Z (by simp)) (by omega) (fun p hp => by simp at hp; subst hp; simp)
  generalize wq9.setRow (w.heap.size + 1 + 1 + 1) R = W9 at *
  go_wp2
  exact bodyPost_ret (results_cell rfl _ _ _ ⟨w.heap.size + 1 + 1 + 1, 0, none⟩ rfl _ (HSZ.load (w.heap.size + 1 + 1 + 1) R (by simp) IR)) rfl ⟨rfl, HSZ.1⟩
end Go.Proofs.YtfcnfcolhahghaaDoor
