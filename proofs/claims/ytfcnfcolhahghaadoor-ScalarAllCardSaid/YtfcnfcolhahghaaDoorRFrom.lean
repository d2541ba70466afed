/- Bytes and From of the document, modulo the order: a number in 32 bytes, and what any text says. No condition but that the number has 256 bits, and the text is no longer than any may be. -/
import Derived.Test.YtfcnfcolhahghaaDoorRMulAdd
namespace Go.Proofs.YtfcnfcolhahghaaDoor
open Go.RowKit Go.Shelf
set_option linter.unusedVariables false
set_option linter.unusedSimpArgs false
theorem enters21 : ∀ args w, (callFunc 21 args).run Tryd.prog w = .ok (.enter 21 args) w := enters_of Tryd.func21 (by kernel_rfl) rfl
theorem enters15 : ∀ args w, (callFunc 15 args).run Tryd.prog w = .ok (.enter 15 args) w := enters_of Tryd.func15 (by kernel_rfl) rfl
set_option maxRecDepth 100000 in
set_option maxHeartbeats 1000000 in
theorem rbytesof_any (a : Nat) (ha : a < 115792089237316195423570985008687907853269984665640564039457584007913129639936) (w : World) :
    Calls Tryd.prog 15 #[.agg (num a)] w fun e w' => e = .returned (.string ⟨(bytesN (a % LL)).toArray⟩) ∧ Below w.heap.size w w' := by
  have H1 := Lib.hid (modulo_any a ha)
  have H2 := Lib.hid (rbytes0_any (a % LL))
  obtain ⟨SB, hSB⟩ : ∃ SB : ByteArray, Hid (SB = ⟨(bytesN (a % LL)).toArray⟩) := ⟨_, Lib.hid rfl⟩
  clear ha
  obtain ⟨A, hA⟩ : ∃ A, Hid (A = num a) := ⟨_, Lib.hid rfl⟩
  have IA : IsNum A := by rw [hA.out]; exact isNum _
  obtain ⟨NA, hNA⟩ : ∃ NA, Hid (NA = num (a % LL)) := ⟨_, Lib.hid rfl⟩
  have INA : IsNum NA := by rw [hNA.out]; exact isNum _
  rw [← hA.out, ← hNA.out] at H1
  rw [← hNA.out, ← hSB.out] at H2
  rw [← hA.out, ← hSB.out]
  clear hA hNA hSB
  have HS : Hid (Kn w [(w.heap.size, A)] (w.alloc (.cells A 24))) := Lib.hid ((Kn.nil w).new A)
  go_enter Tryd.func15, Tryd.ntmps15
  go_upto_region 1 with fail
  try simp only [Act.put, List.setIfInBounds_toArray, List.set_cons_succ, List.set_cons_zero]
  generalize w.alloc (.cells A 24) = W0 at *
  have hl1 := HS.out.load (w.heap.size) A (by simp) IA
  go_wp2_with (refine wpList_run rfl _ (exec_load_of _ 24 (.tmp 1) rfl ⟨w.heap.size, 0, none⟩ rfl (.agg A) hl1) ?_)
  clear hl1
  refine (H1.out _).mono ?_
  rintro e w1 ⟨rfl, hb⟩
  have HS1 := Lib.hid (HS.out.below hb)
  clear hb HS H1
  go_wp2_with fail
  refine (H2.out _).mono ?_
  rintro e w2 ⟨rfl, hb⟩
  have HS2 := Lib.hid (HS1.out.below hb)
  clear hb HS1 H2
  go_wp2
  go_ret
  exact ⟨rfl, HS2.out.1⟩
theorem bytes_inj_le (s : ByteArray) (h : s.size = 32) : (⟨(bytesN (leVal s.data.toList % LL)).toArray⟩ : ByteArray) = s ↔ leVal s.data.toList < LL := by
  have hsl : s.data.toList.length = 32 := h
  have hl := leVal_lt s.data.toList
  rw [hsl] at hl
  have hl4 : leVal s.data.toList < 115792089237316195423570985008687907853269984665640564039457584007913129639936 := Nat.lt_of_lt_of_le hl (by decide)
  constructor
  · intro e
    have e2 := congrArg (fun b : ByteArray => leVal b.data.toList) e
    simp only [List.toList_toArray] at e2
    rw [leVal_bytesN _ (LL_lt (Nat.mod_lt _ LL_pos))] at e2
    rw [← e2]
    exact Nat.mod_lt _ LL_pos
  · intro e
    rw [Nat.mod_eq_of_lt e]
    have e2 : bytesN (leVal s.data.toList) = s.data.toList := leVal_inj _ _ (by rw [bytesN_length, hsl]) (leVal_bytesN _ hl4)
    rw [e2]
set_option maxRecDepth 100000 in
set_option maxHeartbeats 1000000 in
theorem rfrom_any (s : ByteArray) (hs : s.size ≤ 9223372036854775807) (w : World) :
    Calls Tryd.prog 9 #[.string s] w fun e w' => e = .returned (.agg (gotV (dig (fromL s.data.toList).1) (fromL s.data.toList).2)) ∧ Below w.heap.size w w' := by
  obtain ⟨ZG, hZG⟩ : ∃ ZG, Hid (ZG = gotV (fun _ => 0) false) := ⟨_, Lib.hid rfl⟩
  have IZG : IsGot ZG := by rw [hZG.out]; exact ⟨_, _, rfl⟩
  have HZG : ∀ w, (zeroValue 29).run Tryd.prog w = .ok (.agg ZG) w := by rw [hZG.out]; exact zero29
  have HBG : Hid (∀ w, (Instr.build 29 #[]).run Tryd.prog w = .ok (.agg ZG) w) := by rw [hZG.out]; exact Lib.hid build29_0
  have SZG := IZG.size
  have hZG2 : Hid (ZG = gotV (dig 0) false) := by unfold Hid; rw [hZG.out]; rfl
  have hz4 : ∀ W : World, Kt W [(W.heap.size, ZG, 29)] (W.alloc (.cells ZG 29)) := by
    intro W
    have h := ((Kt.nil W).new ZG 29)
    try simp only [World.size_alloc] at h
    exact h.sub (fun p hp => by simp at hp ⊢; simp [hp])
  have HS := Lib.hid (hz4 w)
  clear hz4 hZG
  by_cases h32 : s.size = 32
  · have hsl : s.data.toList.length = 32 := h32
    have hl := leVal_lt s.data.toList
    rw [hsl] at hl
    have hl4 : leVal s.data.toList < 115792089237316195423570985008687907853269984665640564039457584007913129639936 := Nat.lt_of_lt_of_le hl (by decide)
    have H1 := Lib.hid (number_any s h32)
    have H2 := Lib.hid (rbytesof_any (leVal s.data.toList) hl4)
    have hiff := bytes_inj_le s h32
    have hB := Lib.hid (build29 (dig (leVal s.data.toList)) true)
    have hF : Hid (fromL s.data.toList = if leVal s.data.toList < LL then (leVal s.data.toList, true) else (0, false)) := by
      unfold Hid fromL
      by_cases h : leVal s.data.toList < LL
      · rw [if_pos ⟨hsl, h⟩, if_pos h]
      · rw [if_neg (fun h2 => h h2.2), if_neg h]
    obtain ⟨V, hV⟩ : ∃ V : ByteArray, Hid (V = ⟨(bytesN (leVal s.data.toList % LL)).toArray⟩) := ⟨_, Lib.hid rfl⟩
    obtain ⟨A, hA⟩ : ∃ A, Hid (A = num (leVal s.data.toList)) := ⟨_, Lib.hid rfl⟩
    obtain ⟨GA, hGA⟩ : ∃ GA, Hid (GA = gotV (dig (leVal s.data.toList)) true) := ⟨_, Lib.hid rfl⟩
    have IGA : IsGot GA := by rw [hGA.out]; exact ⟨_, _, rfl⟩
    rw [← hV.out] at hiff H2
    rw [← hA.out] at H1 H2
    have hB : Hid (∀ w, (Instr.build 29 #[(0, .agg A), (1, .bool true)]).run Tryd.prog w = .ok (.agg GA) w) := by rw [hA.out, hGA.out]; exact hB
    have hsz : (s.size : Int) = 32 := by omega
    clear hl hl4 hsl hV hA
    go_enter Tryd.func9, Tryd.ntmps9
    go_upto_region 1 with ((refine wpList_run rfl _ (exec_alloc_agg _ 29 rfl _ (HZG _)) ?_); try simp only [World.size_alloc])
    try simp only [Act.put, List.setIfInBounds_toArray, List.set_cons_succ, List.set_cons_zero]
    generalize w.alloc (.cells ZG 29) = W0 at *
    go_wp2_with fail
    refine (H1.out _).mono ?_
    rintro e w1 ⟨rfl, hb⟩
    have HS2 := Lib.hid (HS.out.below hb)
    clear hb HS
    go_wp2_with fail
    refine (H2.out _).mono ?_
    rintro e w3 ⟨rfl, hb⟩
    have HS4 := Lib.hid (HS2.out.below hb)
    clear hb HS2 H2
    by_cases he : V = s
    · have hlt : leVal s.data.toList < LL := hiff.1 he
      have hR : Hid (fromL s.data.toList = (leVal s.data.toList, true)) := by unfold Hid; rw [hF.out, if_pos hlt]
      have hdn : (V.toList == s.toList) = true := by rw [he]; simp
      clear hiff hF hlt he
      go_wp2_with fail
      refine (H1.out _).mono ?_
      rintro e w105 ⟨rfl, hb⟩
      have HS106 := Lib.hid (HS4.out.below hb)
      clear hb HS4 H1
      go_wp2_with (first | (refine wpList_run rfl _ (exec_build2 _ 29 0 1 (.tmp 15) (.const (.bool true)) rfl (.agg A) (.bool true) rfl rfl _ (hB.out _)) ?_) | (refine wpList_run0 rfl (exec_store29 _ (.tmp 2) (.tmp 16) rfl (w.heap.size) rfl GA IGA rfl ZG 29 (HS106.out.get (w.heap.size) ZG 29 (by simp)) SZG) ?_))
      have HSZ : Kt w [(w.heap.size, GA, 29)] (World.setRow _ (w.heap.size) GA) := HS106.out.set (w.heap.size) GA ZG 29 (HS106.out.get (w.heap.size) ZG 29 (by simp)) (by omega) (fun p hp => by simp at hp; subst hp; exact .inl rfl)
      exact bodyPost_ret (results_cell rfl _ _ _ ⟨w.heap.size, 0, none⟩ rfl _ (load29 IGA (HSZ.get (w.heap.size) GA 29 (by simp)))) rfl ⟨by rw [hR.out, hGA.out], HSZ.1⟩
    · have hR : Hid (fromL s.data.toList = (0, false)) := by unfold Hid; rw [hF.out, if_neg (fun h => he (hiff.2 h))]
      clear hiff hF H1 hB
      have hdn : (V.toList == s.toList) = false := by simp only [beq_eq_false_iff_ne, ne_eq]; intro h; apply he; rw [ByteArray.toList_eq, ByteArray.toList_eq] at h; exact ByteArray.ext (Array.toList_inj.1 h)
      go_wp2_with (first | (refine wpList_run rfl _ (exec_build0g rfl (.agg ZG) (HBG.out _) _) ?_) | (refine wpList_run0 rfl (exec_store29 _ (.tmp 2) (.tmp 13) rfl (w.heap.size) rfl ZG IZG rfl ZG 29 (HS4.out.get (w.heap.size) ZG 29 (by simp)) SZG) ?_))
      have HSZ : Kt w [(w.heap.size, ZG, 29)] (World.setRow _ (w.heap.size) ZG) := HS4.out.set (w.heap.size) ZG ZG 29 (HS4.out.get (w.heap.size) ZG 29 (by simp)) (by omega) (fun p hp => by simp at hp; subst hp; exact .inl rfl)
      exact bodyPost_ret (results_cell rfl _ _ _ ⟨w.heap.size, 0, none⟩ rfl _ (load29 IZG (HSZ.get (w.heap.size) ZG 29 (by simp)))) rfl ⟨by rw [hR.out, hZG2.out], HSZ.1⟩
  · have hR : Hid (fromL s.data.toList = (0, false)) := by unfold Hid fromL; rw [if_neg (fun h => h32 h.1)]
    have hne : ((s.size : Int) != 32) = true := by rw [bne_iff_ne]; omega
    go_enter Tryd.func9, Tryd.ntmps9
    go_upto_region 1 with ((refine wpList_run rfl _ (exec_alloc_agg _ 29 rfl _ (HZG _)) ?_); try simp only [World.size_alloc])
    try simp only [Act.put, List.setIfInBounds_toArray, List.set_cons_succ, List.set_cons_zero]
    generalize w.alloc (.cells ZG 29) = W0 at *
    go_wp2_with (first | (refine wpList_run rfl _ (exec_build0g rfl (.agg ZG) (HBG.out _) _) ?_) | (refine wpList_run0 rfl (exec_store29 _ (.tmp 2) (.tmp 13) rfl (w.heap.size) rfl ZG IZG rfl ZG 29 (HS.out.get (w.heap.size) ZG 29 (by simp)) SZG) ?_))
    have HSZ : Kt w [(w.heap.size, ZG, 29)] (World.setRow _ (w.heap.size) ZG) := HS.out.set (w.heap.size) ZG ZG 29 (HS.out.get (w.heap.size) ZG 29 (by simp)) (by omega) (fun p hp => by simp at hp; subst hp; exact .inl rfl)
    exact bodyPost_ret (results_cell rfl _ _ _ ⟨w.heap.size, 0, none⟩ rfl _ (load29 IZG (HSZ.get (w.heap.size) ZG 29 (by simp)))) rfl ⟨by rw [hR.out, hZG2.out], HSZ.1⟩
end Go.Proofs.YtfcnfcolhahghaaDoor
