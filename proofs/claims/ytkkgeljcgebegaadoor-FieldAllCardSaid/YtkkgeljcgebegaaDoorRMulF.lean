/- Mul of the document: a product modulo the prime. No condition but that the numbers have 256 bits. -/
import Derived.Test.YtkkgeljcgebegaaDoorRFold
namespace Go.Proofs.YtkkgeljcgebegaaDoor
open Go.RowKit Go.Shelf
set_option linter.unusedVariables false
set_option linter.unusedSimpArgs false
theorem enters37 : ∀ args w, (callFunc 37 args).run Tryd.prog w = .ok (.enter 37 args) w := enters_of Tryd.func37 (by kernel_rfl) rfl
theorem enters38 : ∀ args w, (callFunc 38 args).run Tryd.prog w = .ok (.enter 38 args) w := enters_of Tryd.func38 (by kernel_rfl) rfl
set_option maxRecDepth 100000 in
set_option maxHeartbeats 1000000 in
theorem rmulf_any (a b : Nat) (ha : a < 115792089237316195423570985008687907853269984665640564039457584007913129639936) (hb : b < 115792089237316195423570985008687907853269984665640564039457584007913129639936) (w : World) :
    Calls Tryd.prog 18 #[.agg (num a), .agg (num b)] w fun e w' => e = .returned (.agg (num (mulF a b))) ∧ Below w.heap.size w w' := by
  have H1 := Lib.hid (mulnum_any a b ha hb)
  have HZ := zero_run
  clear ha hb
  obtain ⟨A, hA⟩ : ∃ A, Hid (A = num a) := ⟨_, Lib.hid rfl⟩
  have IA : IsNum A := by rw [hA.out]; exact isNum _
  obtain ⟨B, hB⟩ : ∃ B, Hid (B = num b) := ⟨_, Lib.hid rfl⟩
  have IB : IsNum B := by rw [hB.out]; exact isNum _
  obtain ⟨T, hT⟩ : ∃ T, Hid (T = num (mulF a b)) := ⟨_, Lib.hid rfl⟩
  have IT : IsNum T := by rw [hT.out]; exact isNum _
  obtain ⟨Z, hZ⟩ : ∃ Z, Hid (Z = num 0) := ⟨_, Lib.hid rfl⟩
  have IZ : IsNum Z := by rw [hZ.out]; exact isNum _
  rw [← hA.out, ← hB.out] at H1
  have HZ2 : ∀ w, (zeroValue 24).run Tryd.prog w = .ok (.agg Z) w := by rw [hZ.out]; exact HZ
  have IZ2 := IZ.size
  rw [← hA.out, ← hB.out, ← hT.out]
  clear HZ hA hB hZ
  have hz4 : ∀ W : World, Kn W [(W.heap.size, A), (W.heap.size + 1, B), (W.heap.size + 1 + 1, Z)] (((W.alloc (.cells A 24)).alloc (.cells B 24)).alloc (.cells Z 24)) := by
    intro W
    have h := (((Kn.nil W).new A).new B).new Z
    simp only [World.size_alloc] at h
    exact h.sub (fun p hp => by simp at hp ⊢; rcases hp with h | h | h <;> simp [h])
  have HS := Lib.hid (hz4 w)
  clear hz4
  go_enter Tryd.func18, Tryd.ntmps18
  go_upto_region 1 with ((refine wpList_run rfl _ (exec_alloc_agg _ 24 rfl _ (HZ2 _)) ?_); try simp only [World.size_alloc])
  try simp only [Act.put, List.setIfInBounds_toArray, List.set_cons_succ, List.set_cons_zero]
  generalize ((w.alloc (.cells A 24)).alloc (.cells B 24)).alloc (.cells Z 24) = W0 at *
  have hl1 := HS.out.load (w.heap.size) A (by simp) IA
  have hl2 := HS.out.load (w.heap.size + 1) B (by simp) IB
  go_wp2_with (first | (refine wpList_run rfl _ (exec_load_of _ 24 (.tmp 2) rfl ⟨w.heap.size, 0, none⟩ rfl (.agg A) hl1) ?_) | (refine wpList_run rfl _ (exec_load_of _ 24 (.tmp 3) rfl ⟨w.heap.size + 1, 0, none⟩ rfl (.agg B) hl2) ?_))
  clear hl1 hl2
  refine (H1.out _).mono ?_
  rintro e w1 ⟨⟨l, hl, hv, rfl⟩, hb⟩
  have HS1 := Lib.hid (HS.out.below hb)
  clear hb HS H1
  have H2 := Lib.hid (fold_any l hl)
  have HV := Lib.hid hv
  obtain ⟨D, hD⟩ : ∃ D, Hid (D = (rowOf .u64 16 l).toArray) := ⟨_, Lib.hid rfl⟩
  rw [← hD.out] at H2 ⊢
  clear hl hv hD
  go_wp2_with fail
  refine (H2.out _).mono ?_
  rintro e w2 ⟨⟨n, hn, hm, rfl⟩, hb⟩
  have HS2 := Lib.hid (HS1.out.below hb)
  clear hb HS1 H2
  have H3 := Lib.hid (rnorm_any n hn)
  rw [show n % pp = mulF a b by rw [hm, HV.out]; rfl, ← hT.out] at H3
  clear hm hn HV hT
  generalize num n = N at *
  go_wp2_with fail
  refine (H3.out _).mono ?_
  rintro e w3 ⟨rfl, hb⟩
  have HS3 := Lib.hid (HS2.out.below hb)
  clear hb HS2 H3
  go_wp2_with (refine wpList_run0 rfl (exec_store_kn (w0 := w) (l := [(w.heap.size, A), (w.heap.size + 1, B), (w.heap.size + 1 + 1, Z)]) _ HS3.out (.tmp 4) (.tmp 9) rfl (w.heap.size + 1 + 1) rfl T IT rfl Z IZ (by simp)) ?_)
  have HSZ : Kn w [(w.heap.size + 1 + 1, T)] (World.setRow _ (w.heap.size + 1 + 1) T) := HS3.out.set (w.heap.size + 1 + 1) T Z (HS3.out.get (w.heap.size + 1 + 1) Z (by simp)) (by omega) (fun p hp => by simp at hp; subst hp; simp)
  exact bodyPost_ret (results_cell rfl _ _ _ ⟨w.heap.size + 1 + 1, 0, none⟩ rfl _ (HSZ.load (w.heap.size + 1 + 1) T (by simp) IT)) rfl ⟨rfl, HSZ.1⟩
end Go.Proofs.YtkkgeljcgebegaaDoor
