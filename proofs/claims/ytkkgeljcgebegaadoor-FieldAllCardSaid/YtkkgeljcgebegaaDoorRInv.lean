/- Inv of the document: an inverse modulo the prime. No condition but that the number has 256 bits. -/
import Derived.Test.YtkkgeljcgebegaaDoorRShift
import Derived.Test.YtkkgeljcgebegaaDoorRoot
namespace Go.Proofs.YtkkgeljcgebegaaDoor
open Go.RowKit Go.Shelf
set_option linter.unusedVariables false
set_option linter.unusedSimpArgs false
theorem enters27r : ∀ args w, (callFunc 27 args).run Tryd.prog w = .ok (.enter 27 args) w := enters_of Tryd.func27 (by kernel_rfl) rfl
set_option maxRecDepth 100000 in
set_option maxHeartbeats 1000000 in
theorem rinv_any (a : Nat) (ha : a < 115792089237316195423570985008687907853269984665640564039457584007913129639936) (w : World) :
    Calls Tryd.prog 20 #[.agg (num a)] w fun e w' => e = .returned (.agg (num (invF a))) ∧ Below w.heap.size w w' := by
  have HP := Lib.hid prime_any
  have H1 := Lib.hid (subnum_any pp 2 (by decide) (by decide))
  rw [subM_le pp 2 (by decide) (by decide)] at H1
  have H2 := Lib.hid (rpow_any a (pp - 2) ha (by decide))
  rw [show powF a (pp - 2) = invF a from rfl] at H2
  have hb2 := build_run 2 (by decide)
  have HZ := zero_run
  clear ha
  obtain ⟨A, hA⟩ : ∃ A, Hid (A = num a) := ⟨_, Lib.hid rfl⟩
  have IA : IsNum A := by rw [hA.out]; exact isNum _
  obtain ⟨PR, hPR⟩ : ∃ PR, Hid (PR = num pp) := ⟨_, Lib.hid rfl⟩
  have IPR : IsNum PR := by rw [hPR.out]; exact isNum _
  obtain ⟨U2, hU2⟩ : ∃ U2, Hid (U2 = num 2) := ⟨_, Lib.hid rfl⟩
  have IU2 : IsNum U2 := by rw [hU2.out]; exact isNum _
  obtain ⟨E, hE⟩ : ∃ E, Hid (E = num (pp - 2)) := ⟨_, Lib.hid rfl⟩
  have IE : IsNum E := by rw [hE.out]; exact isNum _
  obtain ⟨T, hT⟩ : ∃ T, Hid (T = num (invF a)) := ⟨_, Lib.hid rfl⟩
  have IT : IsNum T := by rw [hT.out]; exact isNum _
  obtain ⟨Z, hZ⟩ : ∃ Z, Hid (Z = num 0) := ⟨_, Lib.hid rfl⟩
  have IZ : IsNum Z := by rw [hZ.out]; exact isNum _
  rw [← hPR.out] at HP
  rw [← hPR.out, ← hU2.out, ← hE.out] at H1
  rw [← hA.out, ← hE.out, ← hT.out] at H2
  have HZ2 : ∀ w, (zeroValue 24).run Tryd.prog w = .ok (.agg Z) w := by rw [hZ.out]; exact HZ
  have IZ2 := IZ.size
  rw [← hU2.out] at hb2
  have HB2 := Lib.hid hb2
  rw [← hA.out, ← hT.out]
  clear HZ hb2 hA hPR hU2 hE hT hZ
  have hz4 : ∀ W : World, Kn W [(W.heap.size, A), (W.heap.size + 1, Z)] ((W.alloc (.cells A 24)).alloc (.cells Z 24)) := by
    intro W
    have h := ((Kn.nil W).new A).new Z
    simp only [World.size_alloc] at h
    exact h.sub (fun p hp => by simp at hp ⊢; rcases hp with h | h <;> simp [h])
  have HS := Lib.hid (hz4 w)
  clear hz4
  go_enter Tryd.func20, Tryd.ntmps20
  go_upto_region 1 with ((refine wpList_run rfl _ (exec_alloc_agg _ 24 rfl _ (HZ2 _)) ?_); try simp only [World.size_alloc])
  try simp only [Act.put, List.setIfInBounds_toArray, List.set_cons_succ, List.set_cons_zero]
  generalize (w.alloc (.cells A 24)).alloc (.cells Z 24) = W0 at *
  refine wp_nrm ?_
  refine wp_region_any (by kernel_rfl) ?_
  change wpAny _ _ _ _ _ _ _ (World.drew _)
  have HD := HS.out.drew
  clear HS
  generalize W0.drew = Wd at *
  refine any_of_F (S := Kn w [(w.heap.size, A), (w.heap.size + 1, Z)]) (f := 5) _ _ _ _ ?_
  refine AnyF.take 0 (some 3) (.load 24 (.tmp 1)) (.agg A) rfl (by kernel_rfl) (by kernel_rfl) (by kernel_rfl) (fun _ _ _ h => h) rfl (by kernel_rfl) (fun o ho w2 hw => exec_load_of _ 24 (.tmp 1) ho ⟨w.heap.size, 0, none⟩ rfl _ (hw.load (w.heap.size) A (by simp) IA)) HD ?_
  simp only [Act.put, List.setIfInBounds_toArray, List.set_cons_succ, List.set_cons_zero]
  refine AnyF.take 2 (some 5) (.build 24 #[(0, .const (.int .u64 2))]) (.agg U2) rfl (by kernel_rfl) (by kernel_rfl) (by kernel_rfl) (fun _ _ _ h => h) rfl (by kernel_rfl) (fun o ho w2 hw => exec_build1 w2 24 0 (.const (.int .u64 2)) ho _ rfl _ (HB2.out w2)) HD ?_
  simp only [Act.put, List.setIfInBounds_toArray, List.set_cons_succ, List.set_cons_zero]
  refine AnyF.ready (rs := [1]) (by kernel_rfl) (by simp) (ReadyF.call (some 4) 23 #[] #[] rfl #[] (by simp [Act.eval]) enters23 _ (HP.out _) ?_ (fun c w' h => by cases h.1) (fun w' h => by cases h.1) ReadyF.nil)
  rintro v ws1 ⟨he, hb⟩
  cases he
  have Hs2 := HD.below hb
  clear hb
  refine ⟨Hs2, ?_⟩
  simp only [Act.put, List.setIfInBounds_toArray, List.set_cons_succ, List.set_cons_zero]
  refine AnyF.ready (rs := [3]) (by kernel_rfl) (by simp) (ReadyF.call (some 6) 29 #[.tmp 4, .tmp 5] #[24, 24] rfl #[.agg PR, .agg U2] (by simp [Act.eval]) enters29 _ (H1.out _) ?_ (fun c w' h => by cases h.1) (fun w' h => by cases h.1) ReadyF.nil)
  rintro v ws3 ⟨he, hb⟩
  cases he
  have Hs4 := Hs2.below hb
  clear hb
  refine ⟨Hs4, ?_⟩
  simp only [Act.put, List.setIfInBounds_toArray, List.set_cons_succ, List.set_cons_zero]
  refine AnyF.ready (rs := [4]) (by kernel_rfl) (by simp) (ReadyF.call (some 7) 27 #[.tmp 3, .tmp 6] #[24, 24] rfl #[.agg A, .agg E] (by simp [Act.eval]) enters27r _ (H2.out _) ?_ (fun c w' h => by cases h.1) (fun w' h => by cases h.1) ReadyF.nil)
  rintro v ws5 ⟨he, hb⟩
  cases he
  have Hs6 := Hs4.below hb
  clear hb
  refine ⟨Hs6, ?_⟩
  simp only [Act.put, List.setIfInBounds_toArray, List.set_cons_succ, List.set_cons_zero]
  refine AnyF.ready (rs := [5]) (by kernel_rfl) (by simp) (ReadyF.last (.store 24 (.tmp 2) (.tmp 7)) rfl (fun o ho => exec_store_kn ws5 Hs6 (.tmp 2) (.tmp 7) ho (w.heap.size + 1) rfl T IT rfl Z IZ (by simp)) ?_ ReadyF.nil)
  refine any_doneF (by kernel_rfl) ?_ _
  refine nrm_intro ?_
  have HSZ : Kn w [(w.heap.size + 1, T)] (World.setRow _ (w.heap.size + 1) T) := Hs6.set (w.heap.size + 1) T Z (Hs6.get (w.heap.size + 1) Z (by simp)) (by omega) (fun p hp => by simp at hp; subst hp; simp)
  generalize World.setRow _ (w.heap.size + 1) T = Wz at *
  go_wp2
  exact bodyPost_ret (results_cell rfl _ _ _ ⟨w.heap.size + 1, 0, none⟩ rfl _ (HSZ.load (w.heap.size + 1) T (by simp) IT)) rfl ⟨rfl, HSZ.1⟩
end Go.Proofs.YtkkgeljcgebegaaDoor
