/- From of package scalar: the number below the order whose bytes a text is, and whether there is one. No condition but that the order stands in memory. -/
import Derived.Test.YtfcnfcolhahghaaDoorMulAdd
import Derived.Test.YtfcnfcolhahghaaDoorRBytes
namespace Go.Proofs.YtfcnfcolhahghaaDoor
open Go.RowKit Go.Shelf
set_option linter.unusedVariables false
set_option linter.unusedSimpArgs false
/-- The number whose bytes these are, and whether there is one. -/
def fromL (l : List UInt8) : Nat × Bool := if l.length = 32 ∧ leVal l < LL then (leVal l, true) else (0, false)
theorem reduceL_lt (l : List UInt8) : reduceL l < LL := Nat.mod_lt _ LL_pos
theorem from_iff (l : List UInt8) : bytesN (reduceL l) = l ↔ l.length = 32 ∧ leVal l < LL := by
  constructor
  · intro h
    have h1 : l.length = 32 := by rw [← h, bytesN_length]
    have h2 : leVal l = reduceL l := by
      have e := congrArg leVal h
      rw [leVal_bytesN _ (LL_lt (reduceL_lt l))] at e
      exact e.symm
    exact ⟨h1, by rw [h2]; exact reduceL_lt l⟩
  · rintro ⟨h1, h2⟩
    have h3 : reduceL l = leVal l := by
      unfold reduceL
      rw [List.take_of_length_le (by omega), Nat.mod_eq_of_lt h2]
    rw [h3]
    exact leVal_inj _ _ (by rw [bytesN_length, h1]) (leVal_bytesN _ (LL_lt h2))
theorem fromL_yes (l : List UInt8) (h : bytesN (reduceL l) = l) : fromL l = (reduceL l, true) := by
  have h2 := (from_iff l).1 h
  unfold fromL
  rw [if_pos h2]
  have e := congrArg leVal h
  rw [leVal_bytesN _ (LL_lt (reduceL_lt l))] at e
  rw [e]
theorem fromL_no (l : List UInt8) (h : ¬ bytesN (reduceL l) = l) : fromL l = (0, false) := by
  unfold fromL
  rw [if_neg (fun h2 => h ((from_iff l).2 h2))]
set_option maxRecDepth 100000 in
set_option maxHeartbeats 1000000 in
theorem from_any (s : ByteArray) (hs : s.size ≤ 9223372036854775807) (w : World) (hG0 : Glob w) :
    Calls Tryd.prog 8 #[.string s] w fun e w' => e = .returned (.tuple #[.agg (num (fromL s.data.toList).1), .bool (fromL s.data.toList).2]) ∧ Below w.heap.size w w' := by
  have H1 := Lib.hid (reduce_any s hs w)
  have H1 : Hid (∀ w, Glob w → _) := Lib.hid (fun w hw => reduce_any s hs w hw)
  have H2 := Lib.hid (raw_any (reduceL s.data.toList))
  obtain ⟨A, hA⟩ : ∃ A, Hid (A = num (reduceL s.data.toList)) := ⟨_, Lib.hid rfl⟩
  have IA : IsNum A := by rw [hA.out]; exact isNum _
  obtain ⟨V, hV⟩ : ∃ V : ByteArray, Hid (V = ⟨(bytesN (reduceL s.data.toList)).toArray⟩) := ⟨_, Lib.hid rfl⟩
  rw [← hA.out] at H1 H2
  rw [← hV.out] at H2
  have HZ := zero_run
  obtain ⟨Z, hZ⟩ : ∃ Z, Hid (Z = num 0) := ⟨_, Lib.hid rfl⟩
  have IZ : IsNum Z := by rw [hZ.out]; exact isNum _
  have IZ2 := IZ.size
  have HZ2 : ∀ w, (zeroValue 24).run Tryd.prog w = .ok (.agg Z) w := by rw [hZ.out]; exact HZ
  clear HZ
  have hz4 : ∀ W : World, Kn W [(W.heap.size, Z)] (W.alloc (.cells Z 24)) := by
    intro W
    have h := (Kn.nil W).new Z
    try simp only [World.size_alloc] at h
    exact h.sub (fun p hp => by simp at hp ⊢; simp [hp])
  have HS := Lib.hid (hz4 w)
  have HG := Lib.hid hG0
  clear hG0 hz4
  go_enter Tryd.func8, Tryd.ntmps8
  go_upto_region 1 with ((refine wpList_run rfl _ (exec_alloc_agg _ 24 rfl _ (HZ2 _)) ?_); try simp only [World.size_alloc])
  try simp only [Act.put, List.setIfInBounds_toArray, List.set_cons_succ, List.set_cons_zero]
  generalize w.alloc (.cells Z 24) = W0 at *
  go_wp2_with fail
  refine (H1.out _ (HG.out.kn HS.out)).mono ?_
  rintro e w2 ⟨rfl, hb⟩
  have HS2 := Lib.hid (HS.out.below hb)
  clear hb HS H1
  have HS3 : Hid (Kn w [(w.heap.size, Z), (w2.heap.size, A)] (w2.alloc (.cells A 24))) := Lib.hid ((HS2.out.new A).sub (fun p hp => by simp at hp ⊢; rcases hp with rfl | rfl <;> simp))
  have hlt := HS2.out.lt (w.heap.size) Z (by simp)
  go_upto_region 2 with (first | ((refine wpList_run rfl _ (exec_alloc_agg _ 24 rfl _ (HZ2 _)) ?_); try simp only [World.size_alloc]) | (refine wpList_run0 rfl (exec_new24 _ (.tmp 4) (.tmp 6) rfl _ _ rfl A IA rfl IZ2) ?_))
  try simp only [Act.put, List.setIfInBounds_toArray, List.set_cons_succ, List.set_cons_zero]
  clear HS2
  generalize w2.alloc (.cells A 24) = W3 at *
  generalize w2.heap.size = g at *
  have hl3 := HS3.out.load g A (by simp) IA
  go_wp2_with (refine wpList_run rfl _ (exec_load_of _ 24 (.tmp 4) rfl ⟨g, 0, none⟩ rfl (.agg A) hl3) ?_)
  clear hl3
  refine (H2.out _).mono ?_
  rintro e w4 ⟨rfl, hb⟩
  have HS4 := Lib.hid (HS3.out.below hb)
  clear hb HS3 H2
  have hg4 := HS4.out.get (w.heap.size) Z (by simp)
  by_cases he : bytesN (reduceL s.data.toList) = s.data.toList
  · have hdn : (V.toList == s.toList) = true := by
      rw [hV.out, ByteArray.toList_eq, ByteArray.toList_eq, List.toList_toArray, he]; simp
    have hR := Lib.hid (fromL_yes _ he)
    clear he hV
    have hl4 := HS4.out.load g A (by simp) IA
    go_wp2_with (first | (refine wpList_run rfl _ (exec_load_of _ 24 (.tmp 4) rfl ⟨g, 0, none⟩ rfl (.agg A) hl4) ?_) | (refine wpList_run0 rfl (exec_store24 _ (.tmp 2) (.tmp 12) rfl (w.heap.size) rfl A IA rfl Z 24 hg4 IZ2) ?_))
    have HSZ : Kn w [(w.heap.size, A)] (w4.setRow (w.heap.size) A) := HS4.out.set (w.heap.size) A Z hg4 (by omega) (fun p hp => by simp at hp; subst hp; simp)
    exact bodyPost_ret (results_two rfl _ _ _ ⟨w.heap.size, 0, none⟩ rfl _ (HSZ.load (w.heap.size) A (by simp) IA)) rfl ⟨by rw [hR.out, hA.out]; rfl, HSZ.1⟩
  · have hdn : (V.toList == s.toList) = false := by
      simp only [beq_eq_false_iff_ne, ne_eq]
      intro h
      rw [hV.out, ByteArray.toList_eq, ByteArray.toList_eq, List.toList_toArray] at h
      exact he h
    have hR := Lib.hid (fromL_no _ he)
    clear he hV
    have hb0 : ∀ w : World, (Instr.build 24 #[]).run Tryd.prog w = .ok (.agg Z) w := by rw [hZ.out]; exact build0_run
    go_wp2_with (first | (refine wpList_run rfl _ (exec_build0g rfl (.agg Z) (hb0 _) _) ?_) | (refine wpList_run0 rfl (exec_store24 _ (.tmp 2) (.tmp 11) rfl (w.heap.size) rfl Z IZ rfl Z 24 hg4 IZ2) ?_))
    have HSZ : Kn w [(w.heap.size, Z)] (w4.setRow (w.heap.size) Z) := HS4.out.set (w.heap.size) Z Z hg4 (by omega) (fun p hp => by simp at hp; subst hp; simp)
    exact bodyPost_ret (results_two rfl _ _ _ ⟨w.heap.size, 0, none⟩ rfl _ (HSZ.load (w.heap.size) Z (by simp) IZ)) rfl ⟨by rw [hR.out, hZ.out]; rfl, HSZ.1⟩
end Go.Proofs.YtfcnfcolhahghaaDoor
