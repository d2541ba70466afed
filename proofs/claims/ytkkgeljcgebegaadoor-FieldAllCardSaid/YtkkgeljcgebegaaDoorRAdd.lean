/- Add, Sub of the document: sums and differences modulo the prime. No condition but that the numbers have 256 bits. -/
import Derived.Test.YtkkgeljcgebegaaDoorRNorm
namespace Go.Proofs.YtkkgeljcgebegaaDoor
open Go.RowKit Go.Shelf
set_option linter.unusedVariables false
set_option linter.unusedSimpArgs false
theorem enters12 : ∀ args w, (callFunc 12 args).run Tryd.prog w = .ok (.enter 12 args) w := enters_of Tryd.func12 (by kernel_rfl) rfl
theorem enters14 : ∀ args w, (callFunc 14 args).run Tryd.prog w = .ok (.enter 14 args) w := enters_of Tryd.func14 (by kernel_rfl) rfl
set_option maxRecDepth 100000 in
set_option maxHeartbeats 1000000 in
theorem radd_any (a b : Nat) (ha : a < 115792089237316195423570985008687907853269984665640564039457584007913129639936) (hb : b < 115792089237316195423570985008687907853269984665640564039457584007913129639936) (w : World) :
    Calls Tryd.prog 14 #[.agg (num a), .agg (num b)] w fun e w' => e = .returned (.agg (num (addF a b))) ∧ Below w.heap.size w w' := by
  have la : a % pp < pp := Nat.mod_lt _ pp_pos
  have lb : b % pp < pp := Nat.mod_lt _ pp_pos
  have hpp : pp = 57896044618658097711785492504343953926634992332820282019728792003956564819949 := rfl
  have H1 := Lib.hid (rnorm_any a ha)
  have H2 := Lib.hid (rnorm_any b hb)
  have H3 := Lib.hid (addnum_any (a % pp) (b % pp) (pp_lt la) (pp_lt lb))
  rw [show (a % pp + b % pp) % 115792089237316195423570985008687907853269984665640564039457584007913129639936 = a % pp + b % pp by omega] at H3
  have H4 := Lib.hid (rnorm_any (a % pp + b % pp) (by omega))
  rw [show (a % pp + b % pp) % pp = addF a b by unfold addF; rw [← Nat.add_mod]] at H4
  have HZ := zero_run
  generalize (a % pp + b % pp) / 115792089237316195423570985008687907853269984665640564039457584007913129639936 = c1 at *
  clear la lb hpp
  obtain ⟨A, hA⟩ : ∃ A, Hid (A = num a) := ⟨_, Lib.hid rfl⟩
  have IA : IsNum A := by rw [hA.out]; exact isNum _
  obtain ⟨B, hB⟩ : ∃ B, Hid (B = num b) := ⟨_, Lib.hid rfl⟩
  have IB : IsNum B := by rw [hB.out]; exact isNum _
  obtain ⟨NA, hNA⟩ : ∃ NA, Hid (NA = num (a % pp)) := ⟨_, Lib.hid rfl⟩
  have INA : IsNum NA := by rw [hNA.out]; exact isNum _
  obtain ⟨NB, hNB⟩ : ∃ NB, Hid (NB = num (b % pp)) := ⟨_, Lib.hid rfl⟩
  have INB : IsNum NB := by rw [hNB.out]; exact isNum _
  obtain ⟨S, hS⟩ : ∃ S, Hid (S = num (a % pp + b % pp)) := ⟨_, Lib.hid rfl⟩
  have IS : IsNum S := by rw [hS.out]; exact isNum _
  obtain ⟨T, hT⟩ : ∃ T, Hid (T = num (addF a b)) := ⟨_, Lib.hid rfl⟩
  have IT : IsNum T := by rw [hT.out]; exact isNum _
  obtain ⟨Z, hZ⟩ : ∃ Z, Hid (Z = num 0) := ⟨_, Lib.hid rfl⟩
  have IZ : IsNum Z := by rw [hZ.out]; exact isNum _
  rw [← hA.out, ← hNA.out] at H1
  rw [← hB.out, ← hNB.out] at H2
  rw [← hNA.out, ← hNB.out, ← hS.out] at H3
  rw [← hS.out, ← hT.out] at H4
  have HZ2 : ∀ w, (zeroValue 24).run Tryd.prog w = .ok (.agg Z) w := by rw [hZ.out]; exact HZ
  have IZ2 := IZ.size
  rw [← hA.out, ← hB.out, ← hT.out]
  clear HZ ha hb hA hB hNA hNB hS hT hZ
  have hz4 : ∀ W : World, Kn W [(W.heap.size, A), (W.heap.size + 1, B), (W.heap.size + 1 + 1, Z)] (((W.alloc (.cells A 24)).alloc (.cells B 24)).alloc (.cells Z 24)) := by
    intro W
    have h := (((Kn.nil W).new A).new B).new Z
    simp only [World.size_alloc] at h
    exact h.sub (fun p hp => by simp at hp ⊢; rcases hp with h | h | h <;> simp [h])
  have HS := Lib.hid (hz4 w)
  clear hz4
  go_enter Tryd.func14, Tryd.ntmps14
  go_upto_region 1 with ((refine wpList_run rfl _ (exec_alloc_agg _ 24 rfl _ (HZ2 _)) ?_); try simp only [World.size_alloc])
  try simp only [Act.put, List.setIfInBounds_toArray, List.set_cons_succ, List.set_cons_zero]
  generalize ((w.alloc (.cells A 24)).alloc (.cells B 24)).alloc (.cells Z 24) = W0 at *
  have hl1 := HS.out.load (w.heap.size) A (by simp) IA
  go_wp2_with (refine wpList_run rfl _ (exec_load_of _ 24 (.tmp 2) rfl ⟨w.heap.size, 0, none⟩ rfl (.agg A) hl1) ?_)
  clear hl1
  refine (H1.out _).mono ?_
  rintro e w2 ⟨rfl, hb⟩
  have HS3 := Lib.hid (HS.out.below hb)
  clear hb HS H1
  go_upto_region 2 with (first | (refine wpList_run0 rfl (exec_store_kn (w0 := w) (l := [(w.heap.size, A), (w.heap.size + 1, B), (w.heap.size + 1 + 1, Z)]) _ HS3.out (.tmp 2) (.tmp 8) rfl (w.heap.size) rfl NA INA rfl A IA (by simp)) ?_))
  try simp only [Act.put, List.setIfInBounds_toArray, List.set_cons_succ, List.set_cons_zero]
  have HS4 : Hid (Kn w [(w.heap.size, NA), (w.heap.size + 1, B), (w.heap.size + 1 + 1, Z)] (w2.setRow (w.heap.size) NA)) := Lib.hid (HS3.out.set (w.heap.size) NA A (HS3.out.get (w.heap.size) A (by simp)) (by omega) (fun p hp => by simp at hp; rcases hp with rfl | rfl | rfl <;> simp <;> omega))
  clear HS3
  generalize w2.setRow (w.heap.size) NA = W5 at *
  have hl6 := HS4.out.load (w.heap.size + 1) B (by simp) IB
  go_wp2_with (refine wpList_run rfl _ (exec_load_of _ 24 (.tmp 3) rfl ⟨w.heap.size + 1, 0, none⟩ rfl (.agg B) hl6) ?_)
  clear hl6
  refine (H2.out _).mono ?_
  rintro e w7 ⟨rfl, hb⟩
  have HS8 := Lib.hid (HS4.out.below hb)
  clear hb HS4 H2
  go_upto_region 3 with (first | (refine wpList_run0 rfl (exec_store_kn (w0 := w) (l := [(w.heap.size, NA), (w.heap.size + 1, B), (w.heap.size + 1 + 1, Z)]) _ HS8.out (.tmp 3) (.tmp 10) rfl (w.heap.size + 1) rfl NB INB rfl B IB (by simp)) ?_))
  try simp only [Act.put, List.setIfInBounds_toArray, List.set_cons_succ, List.set_cons_zero]
  have HS9 : Hid (Kn w [(w.heap.size, NA), (w.heap.size + 1, NB), (w.heap.size + 1 + 1, Z)] (w7.setRow (w.heap.size + 1) NB)) := Lib.hid (HS8.out.set (w.heap.size + 1) NB B (HS8.out.get (w.heap.size + 1) B (by simp)) (by omega) (fun p hp => by simp at hp; rcases hp with rfl | rfl | rfl <;> simp <;> omega))
  clear HS8
  generalize w7.setRow (w.heap.size + 1) NB = W10 at *
  have hl11 := HS9.out.load (w.heap.size) NA (by simp) INA
  have hl12 := HS9.out.load (w.heap.size + 1) NB (by simp) INB
  go_wp2_with (first | (refine wpList_run rfl _ (exec_load_of _ 24 (.tmp 2) rfl ⟨w.heap.size, 0, none⟩ rfl (.agg NA) hl11) ?_) | (refine wpList_run rfl _ (exec_load_of _ 24 (.tmp 3) rfl ⟨w.heap.size + 1, 0, none⟩ rfl (.agg NB) hl12) ?_))
  clear hl11 hl12
  refine (H3.out _).mono ?_
  rintro e w13 ⟨rfl, hb⟩
  have HS14 := Lib.hid (HS9.out.below hb)
  clear hb HS9 H3
  have HS15_ : Kn w [(w.heap.size, NA), (w.heap.size + 1, NB), (w.heap.size + 1 + 1, Z), (w13.heap.size, S)] (w13.alloc (.cells S 24)) := (HS14.out.new S).sub (fun p hp => by simp at hp ⊢; rcases hp with h | h | h | h <;> simp [h])
  have HS15 := Lib.hid HS15_
  clear HS15_ HS14
  go_upto_region 4 with (first | ((refine wpList_run rfl _ (exec_alloc_agg _ 24 rfl _ (HZ2 _)) ?_); try simp only [World.size_alloc]) | (refine wpList_run0 rfl (exec_new24 _ (.tmp 5) (.tmp 15) rfl _ _ rfl S IS rfl IZ2) ?_))
  try simp only [Act.put, List.setIfInBounds_toArray, List.set_cons_succ, List.set_cons_zero]
  generalize w13.alloc (.cells S 24) = W16 at *
  generalize w13.heap.size = g5 at *
  have hl17 := HS15.out.load (g5) S (by simp) IS
  go_wp2_with (refine wpList_run rfl _ (exec_load_of _ 24 (.tmp 5) rfl ⟨g5, 0, none⟩ rfl (.agg S) hl17) ?_)
  clear hl17
  refine (H4.out _).mono ?_
  rintro e w18 ⟨rfl, hb⟩
  have HS19 := Lib.hid (HS15.out.below hb)
  clear hb HS15 H4
  go_wp2_with (refine wpList_run0 rfl (exec_store_kn (w0 := w) (l := [(w.heap.size, NA), (w.heap.size + 1, NB), (w.heap.size + 1 + 1, Z), (g5, S)]) _ HS19.out (.tmp 4) (.tmp 18) rfl (w.heap.size + 1 + 1) rfl T IT rfl Z IZ (by simp)) ?_)
  have HSZ : Kn w [(w.heap.size + 1 + 1, T)] (World.setRow _ (w.heap.size + 1 + 1) T) := HS19.out.set (w.heap.size + 1 + 1) T Z (HS19.out.get (w.heap.size + 1 + 1) Z (by simp)) (by omega) (fun p hp => by simp at hp; subst hp; simp)
  exact bodyPost_ret (results_cell rfl _ _ _ ⟨w.heap.size + 1 + 1, 0, none⟩ rfl _ (HSZ.load (w.heap.size + 1 + 1) T (by simp) IT)) rfl ⟨rfl, HSZ.1⟩
theorem enters29b : ∀ args w, (callFunc 29 args).run Tryd.prog w = .ok (.enter 29 args) w := enters_of Tryd.func29 (by kernel_rfl) rfl
set_option maxRecDepth 100000 in
set_option maxHeartbeats 1000000 in
theorem rsub_any (a b : Nat) (ha : a < 115792089237316195423570985008687907853269984665640564039457584007913129639936) (hb : b < 115792089237316195423570985008687907853269984665640564039457584007913129639936) (w : World) :
    Calls Tryd.prog 16 #[.agg (num a), .agg (num b)] w fun e w' => e = .returned (.agg (num (subF a b))) ∧ Below w.heap.size w w' := by
  have lb : b % pp < pp := Nat.mod_lt _ pp_pos
  have hpp : pp = 57896044618658097711785492504343953926634992332820282019728792003956564819949 := rfl
  have HP := Lib.hid prime_any
  have H2 := Lib.hid (rnorm_any b hb)
  have H3 := Lib.hid (subnum_any pp (b % pp) (by decide) (pp_lt lb))
  rw [subM_le pp (b % pp) (by omega) (by decide)] at H3
  have H4 := Lib.hid (radd_any a (pp - b % pp) ha (by omega))
  rw [show addF a (pp - b % pp) = subF a b by
    unfold addF subF
    have h1 := Nat.mod_add_div b pp
    have h2 : b / pp ≤ 2 := Nat.lt_succ_iff.1 ((Nat.div_lt_iff_lt_mul pp_pos).2 (by omega))
    have e : a + 3 * pp - b = a + (pp - b % pp) + pp * (2 - b / pp) := by
      generalize b / pp = q at *
      rcases (show q = 0 ∨ q = 1 ∨ q = 2 by omega) with rfl | rfl | rfl <;> omega
    rw [e, Nat.add_mul_mod_self_left]] at H4
  have HZ := zero_run
  clear lb hpp
  obtain ⟨A, hA⟩ : ∃ A, Hid (A = num a) := ⟨_, Lib.hid rfl⟩
  have IA : IsNum A := by rw [hA.out]; exact isNum _
  obtain ⟨B, hB⟩ : ∃ B, Hid (B = num b) := ⟨_, Lib.hid rfl⟩
  have IB : IsNum B := by rw [hB.out]; exact isNum _
  obtain ⟨PR, hPR⟩ : ∃ PR, Hid (PR = num pp) := ⟨_, Lib.hid rfl⟩
  have IPR : IsNum PR := by rw [hPR.out]; exact isNum _
  obtain ⟨NB, hNB⟩ : ∃ NB, Hid (NB = num (b % pp)) := ⟨_, Lib.hid rfl⟩
  have INB : IsNum NB := by rw [hNB.out]; exact isNum _
  obtain ⟨D, hD⟩ : ∃ D, Hid (D = num (pp - b % pp)) := ⟨_, Lib.hid rfl⟩
  have ID : IsNum D := by rw [hD.out]; exact isNum _
  obtain ⟨T, hT⟩ : ∃ T, Hid (T = num (subF a b)) := ⟨_, Lib.hid rfl⟩
  have IT : IsNum T := by rw [hT.out]; exact isNum _
  obtain ⟨Z, hZ⟩ : ∃ Z, Hid (Z = num 0) := ⟨_, Lib.hid rfl⟩
  have IZ : IsNum Z := by rw [hZ.out]; exact isNum _
  rw [← hPR.out] at HP
  rw [← hB.out, ← hNB.out] at H2
  rw [← hPR.out, ← hNB.out, ← hD.out] at H3
  rw [← hA.out, ← hD.out, ← hT.out] at H4
  have HZ2 : ∀ w, (zeroValue 24).run Tryd.prog w = .ok (.agg Z) w := by rw [hZ.out]; exact HZ
  have IZ2 := IZ.size
  rw [← hA.out, ← hB.out, ← hT.out]
  clear HZ ha hb hA hB hPR hNB hD hT hZ
  have hz4 : ∀ W : World, Kn W [(W.heap.size, A), (W.heap.size + 1, B), (W.heap.size + 1 + 1, Z)] (((W.alloc (.cells A 24)).alloc (.cells B 24)).alloc (.cells Z 24)) := by
    intro W
    have h := (((Kn.nil W).new A).new B).new Z
    simp only [World.size_alloc] at h
    exact h.sub (fun p hp => by simp at hp ⊢; rcases hp with h | h | h <;> simp [h])
  have HS := Lib.hid (hz4 w)
  clear hz4
  go_enter Tryd.func16, Tryd.ntmps16
  go_upto_region 1 with ((refine wpList_run rfl _ (exec_alloc_agg _ 24 rfl _ (HZ2 _)) ?_); try simp only [World.size_alloc])
  try simp only [Act.put, List.setIfInBounds_toArray, List.set_cons_succ, List.set_cons_zero]
  generalize ((w.alloc (.cells A 24)).alloc (.cells B 24)).alloc (.cells Z 24) = W0 at *
  refine wp_nrm ?_
  refine wp_region_any (by kernel_rfl) ?_
  change wpAny _ _ _ _ _ _ _ (World.drew _)
  have HD := HS.out.drew
  clear HS
  generalize W0.drew = Wd at *
  refine any_of_F (S := Kn w [(w.heap.size, A), (w.heap.size + 1, B), (w.heap.size + 1 + 1, Z)]) (f := 6) _ _ _ _ ?_
  refine AnyF.take 0 (some 5) (.load 24 (.tmp 2)) (.agg A) rfl (by kernel_rfl) (by kernel_rfl) (by kernel_rfl) (fun _ _ _ h => h) rfl (by kernel_rfl) (fun o ho w2 hw => exec_load_of _ 24 (.tmp 2) ho ⟨w.heap.size, 0, none⟩ rfl _ (hw.load (w.heap.size) A (by simp) IA)) HD ?_
  simp only [Act.put, List.setIfInBounds_toArray, List.set_cons_succ, List.set_cons_zero]
  refine AnyF.take 2 (some 7) (.load 24 (.tmp 3)) (.agg B) rfl (by kernel_rfl) (by kernel_rfl) (by kernel_rfl) (fun _ _ _ h => h) rfl (by kernel_rfl) (fun o ho w2 hw => exec_load_of _ 24 (.tmp 3) ho ⟨w.heap.size + 1, 0, none⟩ rfl _ (hw.load (w.heap.size + 1) B (by simp) IB)) HD ?_
  simp only [Act.put, List.setIfInBounds_toArray, List.set_cons_succ, List.set_cons_zero]
  refine AnyF.ready (rs := [1]) (by kernel_rfl) (by simp) (ReadyF.call (some 6) 23 #[] #[] rfl #[] (by simp [Act.eval]) enters23 _ (HP.out _) ?_ (fun c w' h => by cases h.1) (fun w' h => by cases h.1) ReadyF.nil)
  rintro v ws1 ⟨he, hb⟩
  cases he
  have Hs2 := HD.below hb
  clear hb
  refine ⟨Hs2, ?_⟩
  simp only [Act.put, List.setIfInBounds_toArray, List.set_cons_succ, List.set_cons_zero]
  refine AnyF.ready (rs := [3]) (by kernel_rfl) (by simp) (ReadyF.call (some 8) 12 #[.tmp 7] #[24] rfl #[.agg B] (by simp [Act.eval]) enters12 _ (H2.out _) ?_ (fun c w' h => by cases h.1) (fun w' h => by cases h.1) ReadyF.nil)
  rintro v ws3 ⟨he, hb⟩
  cases he
  have Hs4 := Hs2.below hb
  clear hb
  refine ⟨Hs4, ?_⟩
  simp only [Act.put, List.setIfInBounds_toArray, List.set_cons_succ, List.set_cons_zero]
  refine AnyF.ready (rs := [4]) (by kernel_rfl) (by simp) (ReadyF.call (some 9) 29 #[.tmp 6, .tmp 8] #[24, 24] rfl #[.agg PR, .agg NB] (by simp [Act.eval]) enters29 _ (H3.out _) ?_ (fun c w' h => by cases h.1) (fun w' h => by cases h.1) ReadyF.nil)
  rintro v ws5 ⟨he, hb⟩
  cases he
  have Hs6 := Hs4.below hb
  clear hb
  refine ⟨Hs6, ?_⟩
  simp only [Act.put, List.setIfInBounds_toArray, List.set_cons_succ, List.set_cons_zero]
  refine AnyF.ready (rs := [5]) (by kernel_rfl) (by simp) (ReadyF.call (some 10) 14 #[.tmp 5, .tmp 9] #[24, 24] rfl #[.agg A, .agg D] (by simp [Act.eval]) enters14 _ (H4.out _) ?_ (fun c w' h => by cases h.1) (fun w' h => by cases h.1) ReadyF.nil)
  rintro v ws7 ⟨he, hb⟩
  cases he
  have Hs8 := Hs6.below hb
  clear hb
  refine ⟨Hs8, ?_⟩
  simp only [Act.put, List.setIfInBounds_toArray, List.set_cons_succ, List.set_cons_zero]
  refine AnyF.ready (rs := [6]) (by kernel_rfl) (by simp) (ReadyF.last (.store 24 (.tmp 4) (.tmp 10)) rfl (fun o ho => exec_store_kn ws7 Hs8 (.tmp 4) (.tmp 10) ho (w.heap.size + 1 + 1) rfl T IT rfl Z IZ (by simp)) ?_ ReadyF.nil)
  refine any_doneF (by kernel_rfl) ?_ _
  refine nrm_intro ?_
  have HSZ : Kn w [(w.heap.size + 1 + 1, T)] (World.setRow _ (w.heap.size + 1 + 1) T) := Hs8.set (w.heap.size + 1 + 1) T Z (Hs8.get (w.heap.size + 1 + 1) Z (by simp)) (by omega) (fun p hp => by simp at hp; subst hp; simp)
  generalize World.setRow _ (w.heap.size + 1 + 1) T = Wz at *
  go_wp2
  exact bodyPost_ret (results_cell rfl _ _ _ ⟨w.heap.size + 1 + 1, 0, none⟩ rfl _ (HSZ.load (w.heap.size + 1 + 1) T (by simp) IT)) rfl ⟨rfl, HSZ.1⟩
end Go.Proofs.YtkkgeljcgebegaaDoor
