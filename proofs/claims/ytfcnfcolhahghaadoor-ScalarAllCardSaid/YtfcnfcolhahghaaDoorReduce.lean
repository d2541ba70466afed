/- Reduce, norm, Bytes of package scalar. No condition but that the order stands in memory, and what each names. -/
import Derived.Test.YtfcnfcolhahghaaDoorTimes
namespace Go.Proofs.YtfcnfcolhahghaaDoor
open Go.RowKit Go.Shelf
set_option linter.unusedVariables false
set_option linter.unusedSimpArgs false
theorem enters22 : ∀ args w, (callFunc 22 args).run Tryd.prog w = .ok (.enter 22 args) w := enters_of Tryd.func22 (by kernel_rfl) rfl
theorem enters20 : ∀ args w, (callFunc 20 args).run Tryd.prog w = .ok (.enter 20 args) w := enters_of Tryd.func20 (by kernel_rfl) rfl
theorem enters10 : ∀ args w, (callFunc 10 args).run Tryd.prog w = .ok (.enter 10 args) w := enters_of Tryd.func10 (by kernel_rfl) rfl
theorem enters25 : ∀ args w, (callFunc 25 args).run Tryd.prog w = .ok (.enter 25 args) w := enters_of Tryd.func25 (by kernel_rfl) rfl
set_option maxRecDepth 100000 in
set_option maxHeartbeats 1000000 in
theorem reduce_any (s : ByteArray) (hs : s.size ≤ 9223372036854775807) (w : World) (hG0 : Glob w) :
    Calls Tryd.prog 10 #[.string s] w fun e w' => e = .returned (.agg (num (reduceL s.data.toList))) ∧ Below w.heap.size w w' := by
  have HZ := zero_run
  obtain ⟨Z, hZ⟩ : ∃ Z, Hid (Z = num 0) := ⟨_, Lib.hid rfl⟩
  have IZ : IsNum Z := by rw [hZ.out]; exact isNum _
  have IZ2 := IZ.size
  have HZ2 : ∀ w, (zeroValue 24).run Tryd.prog w = .ok (.agg Z) w := by rw [hZ.out]; exact HZ
  obtain ⟨O, hO⟩ : ∃ O, Hid (O = num 1) := ⟨_, Lib.hid rfl⟩
  obtain ⟨R, hR⟩ : ∃ R, Hid (R = num (reduceL s.data.toList)) := ⟨_, Lib.hid rfl⟩
  have IR : IsNum R := by rw [hR.out]; exact isNum _
  have hb1 := build_run 1 (by decide)
  rw [← hO.out] at hb1
  have HB1 := Lib.hid hb1
  have HG : Hid (Glob (w.alloc (.cells Z 24))) := Lib.hid (hG0.below ((Below.refl _ w).alloc (Nat.le_refl _) _))
  have HS : Hid (Kn w [(w.heap.size, Z)] (w.alloc (.cells Z 24))) := Lib.hid ((Kn.nil w).new Z)
  rw [← hR.out]
  clear HZ hb1 hG0
  by_cases hle : s.size ≤ 64
  · have H1 := Lib.hid (times_any s 1 hle (by decide) (w.alloc (.cells Z 24)) HG.out)
    rw [Nat.mul_one, ← hO.out, show leVal s.data.toList % LL = reduceL s.data.toList by unfold reduceL; rw [List.take_of_length_le hle], ← hR.out] at H1
    clear hO hR
    go_enter Tryd.func10, Tryd.ntmps10
    go_wp2_with (first | ((refine wpList_run rfl _ (exec_alloc_agg _ 24 rfl _ (HZ2 _)) ?_); try simp only [World.size_alloc]) | (refine wpList_run rfl _ (exec_build1 _ 24 0 (.const (.int .u64 1)) rfl (.int .u64 1) rfl _ (HB1.out _)) ?_))
    refine H1.out.mono ?_
    rintro e w2 ⟨rfl, hb⟩
    have HS2 := Lib.hid (HS.out.below hb)
    clear hb H1 HS HG
    go_wp2_with (refine wpList_run0 rfl (exec_store_kn (w0 := w) (l := [(w.heap.size, Z)]) _ HS2.out (.tmp 2) (.tmp 9) rfl (w.heap.size) rfl R IR rfl Z IZ (by simp)) ?_)
    have HSZ : Kn w [(w.heap.size, R)] (World.setRow _ (w.heap.size) R) := HS2.out.set (w.heap.size) R Z (HS2.out.get (w.heap.size) Z (by simp)) (by omega) (fun p hp => by simp at hp; subst hp; simp)
    exact bodyPost_ret (results_cell rfl _ _ _ ⟨w.heap.size, 0, none⟩ rfl _ (HSZ.load (w.heap.size) R (by simp) IR)) rfl ⟨rfl, HSZ.1⟩
  · have hx : (s.extract 0 64).data.toList = s.data.toList.take 64 := by simp [ByteArray.data_extract]
    have hxs : (s.extract 0 64).size ≤ 64 := by simp [ByteArray.size_extract]; omega
    obtain ⟨T, hT⟩ : ∃ T, T = s.extract 0 64 := ⟨_, rfl⟩
    have H1 := Lib.hid (times_any T 1 (by rw [hT]; exact hxs) (by decide) (w.alloc (.cells Z 24)) HG.out)
    rw [Nat.mul_one, ← hO.out, show leVal T.data.toList % LL = reduceL s.data.toList by unfold reduceL; rw [hT, hx], ← hR.out] at H1
    have h64 : (64 : Int) ≤ (s.size : Int) := by omega
    have HTT := Lib.hid hT
    clear hO hR hx hxs hT
    go_enter Tryd.func10, Tryd.ntmps10
    go_wp2_with (first | ((refine wpList_run rfl _ (exec_alloc_agg _ 24 rfl _ (HZ2 _)) ?_); try simp only [World.size_alloc]) | (refine wpList_run rfl _ (exec_build1 _ 24 0 (.const (.int .u64 1)) rfl (.int .u64 1) rfl _ (HB1.out _)) ?_))
    rw [← HTT.out]
    refine H1.out.mono ?_
    rintro e w2 ⟨rfl, hb⟩
    have HS2 := Lib.hid (HS.out.below hb)
    clear hb H1 HS HG
    go_wp2_with (refine wpList_run0 rfl (exec_store_kn (w0 := w) (l := [(w.heap.size, Z)]) _ HS2.out (.tmp 2) (.tmp 9) rfl (w.heap.size) rfl R IR rfl Z IZ (by simp)) ?_)
    have HSZ : Kn w [(w.heap.size, R)] (World.setRow _ (w.heap.size) R) := HS2.out.set (w.heap.size) R Z (HS2.out.get (w.heap.size) Z (by simp)) (by omega) (fun p hp => by simp at hp; subst hp; simp)
    exact bodyPost_ret (results_cell rfl _ _ _ ⟨w.heap.size, 0, none⟩ rfl _ (HSZ.load (w.heap.size) R (by simp) IR)) rfl ⟨rfl, HSZ.1⟩
theorem reduceL_bytes (a : Nat) (ha : a < 115792089237316195423570985008687907853269984665640564039457584007913129639936) : reduceL (bytesN a) = a % LL := by
  unfold reduceL
  rw [List.take_of_length_le (by rw [bytesN_length]; decide), leVal_bytesN a ha]
set_option maxRecDepth 100000 in
set_option maxHeartbeats 1000000 in
theorem norm_any (a : Nat) (ha : a < 115792089237316195423570985008687907853269984665640564039457584007913129639936) (w : World) (hG0 : Glob w) :
    Calls Tryd.prog 25 #[.agg (num a)] w fun e w' => e = .returned (.agg (num (a % LL))) ∧ Below w.heap.size w w' := by
  have HZ := zero_run
  obtain ⟨Z, hZ⟩ : ∃ Z, Hid (Z = num 0) := ⟨_, Lib.hid rfl⟩
  have IZ : IsNum Z := by rw [hZ.out]; exact isNum _
  have IZ2 := IZ.size
  have HZ2 : ∀ w, (zeroValue 24).run Tryd.prog w = .ok (.agg Z) w := by rw [hZ.out]; exact HZ
  obtain ⟨A, hA⟩ : ∃ A, Hid (A = num a) := ⟨_, Lib.hid rfl⟩
  have IA : IsNum A := by rw [hA.out]; exact isNum _
  obtain ⟨R, hR⟩ : ∃ R, Hid (R = num (a % LL)) := ⟨_, Lib.hid rfl⟩
  have IR : IsNum R := by rw [hR.out]; exact isNum _
  have H1 := Lib.hid (raw_any a)
  have H2 : Hid (∀ w, Glob w → Calls Tryd.prog 10 #[.string ⟨(bytesN a).toArray⟩] w fun e w' => e = .returned (.agg R) ∧ Below w.heap.size w w') := by
    refine Lib.hid (fun w hw => ?_)
    have h := reduce_any ⟨(bytesN a).toArray⟩ (by show (bytesN a).length ≤ _; rw [bytesN_length]; decide) w hw
    rw [show (⟨(bytesN a).toArray⟩ : ByteArray).data.toList = bytesN a from List.toList_toArray, reduceL_bytes a ha, ← hR.out] at h
    exact h
  obtain ⟨S, hS⟩ : ∃ S : ByteArray, Hid (S = ⟨(bytesN a).toArray⟩) := ⟨_, Lib.hid rfl⟩
  rw [← hA.out, ← hS.out] at H1
  rw [← hS.out] at H2
  have HG := Lib.hid hG0
  have HS : Hid (Kn w [(w.heap.size, A), (w.heap.size + 1, Z)] ((w.alloc (.cells A 24)).alloc (.cells Z 24))) := by
    have h := ((Kn.nil w).new A).new Z
    simp only [World.size_alloc] at h
    exact Lib.hid (h.sub (fun p hp => by simp at hp ⊢; rcases hp with h | h <;> simp [h]))
  rw [← hA.out, ← hR.out]
  clear HZ hG0 hA hR hS
  go_enter Tryd.func25, Tryd.ntmps25
  go_upto_region 1 with ((refine wpList_run rfl _ (exec_alloc_agg _ 24 rfl _ (HZ2 _)) ?_); try simp only [World.size_alloc])
  try simp only [Act.put, List.setIfInBounds_toArray, List.set_cons_succ, List.set_cons_zero]
  generalize (w.alloc (.cells A 24)).alloc (.cells Z 24) = W0 at *
  have hl1 := HS.out.load (w.heap.size) A (by simp) IA
  go_wp2_with (refine wpList_run rfl _ (exec_load_of _ 24 (.tmp 1) rfl ⟨w.heap.size, 0, none⟩ rfl (.agg A) hl1) ?_)
  clear hl1
  refine (H1.out _).mono ?_
  rintro e w2 ⟨rfl, hb⟩
  have HS2 := Lib.hid (HS.out.below hb)
  clear hb HS H1
  go_wp2_with fail
  refine (H2.out _ (HG.out.kn HS2.out)).mono ?_
  rintro e w4 ⟨rfl, hb⟩
  have HS3 := Lib.hid (HS2.out.below hb)
  clear hb HS2 H2
  go_wp2_with (refine wpList_run0 rfl (exec_store_kn (w0 := w) (l := [(w.heap.size, A), (w.heap.size + 1, Z)]) _ HS3.out (.tmp 2) (.tmp 5) rfl (w.heap.size + 1) rfl R IR rfl Z IZ (by simp)) ?_)
  have HSZ : Kn w [(w.heap.size + 1, R)] (World.setRow _ (w.heap.size + 1) R) := HS3.out.set (w.heap.size + 1) R Z (HS3.out.get (w.heap.size + 1) Z (by simp)) (by omega) (fun p hp => by simp at hp; subst hp; simp)
  exact bodyPost_ret (results_cell rfl _ _ _ ⟨w.heap.size + 1, 0, none⟩ rfl _ (HSZ.load (w.heap.size + 1) R (by simp) IR)) rfl ⟨rfl, HSZ.1⟩
set_option maxRecDepth 100000 in
set_option maxHeartbeats 1000000 in
theorem bytes_any (a : Nat) (ha : a < 115792089237316195423570985008687907853269984665640564039457584007913129639936) (w : World) (hG0 : Glob w) :
    Calls Tryd.prog 14 #[.agg (num a)] w fun e w' => e = .returned (.string ⟨(bytesN (a % LL)).toArray⟩) ∧ Below w.heap.size w w' := by
  obtain ⟨A, hA⟩ : ∃ A, Hid (A = num a) := ⟨_, Lib.hid rfl⟩
  have IA : IsNum A := by rw [hA.out]; exact isNum _
  obtain ⟨R, hR⟩ : ∃ R, Hid (R = num (a % LL)) := ⟨_, Lib.hid rfl⟩
  have IR : IsNum R := by rw [hR.out]; exact isNum _
  obtain ⟨S, hS⟩ : ∃ S : ByteArray, Hid (S = ⟨(bytesN (a % LL)).toArray⟩) := ⟨_, Lib.hid rfl⟩
  have H1 := Lib.hid (fun w hw => norm_any a ha w hw)
  have H2 := Lib.hid (raw_any (a % LL))
  rw [← hA.out, ← hR.out] at H1
  rw [← hR.out, ← hS.out] at H2
  have HG := Lib.hid hG0
  have HS : Hid (Kn w [(w.heap.size, A)] (w.alloc (.cells A 24))) := Lib.hid ((Kn.nil w).new A)
  rw [← hA.out, ← hS.out]
  clear hG0 hA hR hS
  go_enter Tryd.func14, Tryd.ntmps14
  go_upto_region 1 with fail
  try simp only [Act.put, List.setIfInBounds_toArray, List.set_cons_succ, List.set_cons_zero]
  generalize w.alloc (.cells A 24) = W0 at *
  have hl1 := HS.out.load (w.heap.size) A (by simp) IA
  go_wp2_with (refine wpList_run rfl _ (exec_load_of _ 24 (.tmp 1) rfl ⟨w.heap.size, 0, none⟩ rfl (.agg A) hl1) ?_)
  clear hl1
  refine (H1.out _ (HG.out.kn HS.out)).mono ?_
  rintro e w2 ⟨rfl, hb⟩
  have HS2 := Lib.hid (HS.out.below hb)
  clear hb HS H1
  go_wp2_with fail
  refine (H2.out _).mono ?_
  rintro e w4 ⟨rfl, hb⟩
  have HS3 := Lib.hid (HS2.out.below hb)
  clear hb HS2 H2
  go_wp2
  go_ret
  exact ⟨rfl, HS3.out.1⟩
end Go.Proofs.YtfcnfcolhahghaaDoor
