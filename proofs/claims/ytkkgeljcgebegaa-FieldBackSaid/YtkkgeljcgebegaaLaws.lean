/- The law FieldLaws walked: it returns true at any three numbers, and no memory that was there is changed. No condition but that they have 256 bits. -/
import Derived.Test.YtkkgeljcgebegaaAwake
import Derived.Test.YtkkgeljcgebegaaFieldLaw
namespace Go.Proofs.Ytkkgeljcgebegaa
open Go.RowKit Go.Shelf
set_option linter.unusedVariables false
set_option linter.unusedSimpArgs false
theorem enters6 : ∀ args w, (callFunc 6 args).run Try.prog w = .ok (.enter 6 args) w := enters_of Try.func6 (by kernel_rfl) rfl
theorem enters8 : ∀ args w, (callFunc 8 args).run Try.prog w = .ok (.enter 8 args) w := enters_of Try.func8 (by kernel_rfl) rfl
theorem enters9 : ∀ args w, (callFunc 9 args).run Try.prog w = .ok (.enter 9 args) w := enters_of Try.func9 (by kernel_rfl) rfl
theorem enters10 : ∀ args w, (callFunc 10 args).run Try.prog w = .ok (.enter 10 args) w := enters_of Try.func10 (by kernel_rfl) rfl
theorem enters11 : ∀ args w, (callFunc 11 args).run Try.prog w = .ok (.enter 11 args) w := enters_of Try.func11 (by kernel_rfl) rfl
theorem enters12 : ∀ args w, (callFunc 12 args).run Try.prog w = .ok (.enter 12 args) w := enters_of Try.func12 (by kernel_rfl) rfl
theorem exec_eqA {ρ : Operand → Value} {o : Oper} (x y : Operand) (ho : o.op = .binOp .eql 24 x y 24) (A : Array Value) (hA : IsNum A) (hx : ρ x = .agg A) (hy : ρ y = .agg A) (w : World) :
    (execOp ρ o).run Try.prog w = .ok (.value (.bool true)) w := by
  obtain ⟨f, rfl⟩ := hA
  unfold execOp
  rw [ho]
  simp only [hx, hy]
  have hl : (rowOf .u64 4 f).toArray = #[.int .u64 (f 0 : Int), .int .u64 (f 1 : Int), .int .u64 (f 2 : Int), .int .u64 (f 3 : Int)] := rfl
  have h := eq24 (f 0) (f 1) (f 2) (f 3) (f 0) (f 1) (f 2) (f 3) w
  simp only [decide_true, Bool.and_self] at h
  go_simp
theorem exec_build0 {ρ : Operand → Value} {o : Oper} (ho : o.op = .build 24 #[]) (v : Value) {w : World} (hrun : (Instr.build 24 #[]).run Try.prog w = .ok v w) (w2 : World) (hw : w2 = w := by rfl) : (execOp ρ o).run Try.prog w2 = .ok (.value v) w2 := by
  subst hw
  unfold execOp
  simp [ho, hrun]
set_option maxRecDepth 100000 in
set_option maxHeartbeats 1000000 in
theorem laws_any (a b c : Nat) (ha : a < 115792089237316195423570985008687907853269984665640564039457584007913129639936) (hb : b < 115792089237316195423570985008687907853269984665640564039457584007913129639936) (hc : c < 115792089237316195423570985008687907853269984665640564039457584007913129639936) (w : World) :
    Calls Try.prog 3 #[.agg (num a), .agg (num b), .agg (num c)] w fun e w' => e = .returned (.bool true) ∧ Below w.heap.size w w' := by
  have H1 := Lib.hid (addf_any a b ha hb)
  have H2 := Lib.hid (addf_any (addF a b) c (pp_lt (addF_lt _ _)) hc)
  have H3 := Lib.hid (mulf_any a b ha hb)
  have H4 := Lib.hid (mulf_any (mulF a b) c (pp_lt (mulF_lt _ _)) hc)
  have H5 := Lib.hid (addf_any c b hc hb)
  have H6 := Lib.hid (addf_any a (addF c b) ha (pp_lt (addF_lt _ _)))
  rw [addF_order] at H6
  have H7 := Lib.hid (mulf_any c b hc hb)
  have H8 := Lib.hid (mulf_any a (mulF c b) ha (pp_lt (mulF_lt _ _)))
  rw [mulF_order] at H8
  have H9 := Lib.hid (addf_any b c hb hc)
  have H10 := Lib.hid (mulf_any a (addF b c) ha (pp_lt (addF_lt _ _)))
  have H11 := Lib.hid (mulf_any a c ha hc)
  have H12 := Lib.hid (addf_any (mulF a b) (mulF a c) (pp_lt (mulF_lt _ _)) (pp_lt (mulF_lt _ _)))
  rw [← mulF_addF] at H12
  have H13 := Lib.hid (subf_any (addF a b) b (pp_lt (addF_lt _ _)) hb)
  rw [subF_addF a b hb] at H13
  have H14 := Lib.hid (norm_any a ha)
  have H15 := Lib.hid (subf_any a a ha ha)
  rw [subF_self a ha] at H15
  have H16 := Lib.hid (mulf_any a 1 ha (by decide))
  rw [mulF_one] at H16
  have H17 := Lib.hid (prime_any)
  have H18 := Lib.hid (less_any (addF (addF a b) c) pp (pp_lt (addF_lt _ _)) (by decide))
  rw [show decide (addF (addF a b) c < pp) = true from decide_eq_true (addF_lt _ _)] at H18
  have H19 := Lib.hid (awake_any)
  have hb0 := build0_run
  have hb1 := build_run 1 (by decide)
  have HZ := zero_run
  clear ha hb hc
  obtain ⟨A, hA⟩ : ∃ A, Hid (A = num a) := ⟨_, Lib.hid rfl⟩
  have IA : IsNum A := by rw [hA.out]; exact isNum _
  obtain ⟨B, hB⟩ : ∃ B, Hid (B = num b) := ⟨_, Lib.hid rfl⟩
  have IB : IsNum B := by rw [hB.out]; exact isNum _
  obtain ⟨C, hC⟩ : ∃ C, Hid (C = num c) := ⟨_, Lib.hid rfl⟩
  have IC : IsNum C := by rw [hC.out]; exact isNum _
  obtain ⟨AB, hAB⟩ : ∃ AB, Hid (AB = num (addF a b)) := ⟨_, Lib.hid rfl⟩
  have IAB : IsNum AB := by rw [hAB.out]; exact isNum _
  obtain ⟨S, hS⟩ : ∃ S, Hid (S = num (addF (addF a b) c)) := ⟨_, Lib.hid rfl⟩
  have IS : IsNum S := by rw [hS.out]; exact isNum _
  obtain ⟨MAB, hMAB⟩ : ∃ MAB, Hid (MAB = num (mulF a b)) := ⟨_, Lib.hid rfl⟩
  have IMAB : IsNum MAB := by rw [hMAB.out]; exact isNum _
  obtain ⟨M, hM⟩ : ∃ M, Hid (M = num (mulF (mulF a b) c)) := ⟨_, Lib.hid rfl⟩
  have IM : IsNum M := by rw [hM.out]; exact isNum _
  obtain ⟨CB, hCB⟩ : ∃ CB, Hid (CB = num (addF c b)) := ⟨_, Lib.hid rfl⟩
  have ICB : IsNum CB := by rw [hCB.out]; exact isNum _
  obtain ⟨MCB, hMCB⟩ : ∃ MCB, Hid (MCB = num (mulF c b)) := ⟨_, Lib.hid rfl⟩
  have IMCB : IsNum MCB := by rw [hMCB.out]; exact isNum _
  obtain ⟨BC, hBC⟩ : ∃ BC, Hid (BC = num (addF b c)) := ⟨_, Lib.hid rfl⟩
  have IBC : IsNum BC := by rw [hBC.out]; exact isNum _
  obtain ⟨X, hX⟩ : ∃ X, Hid (X = num (mulF a (addF b c))) := ⟨_, Lib.hid rfl⟩
  have IX : IsNum X := by rw [hX.out]; exact isNum _
  obtain ⟨MAC, hMAC⟩ : ∃ MAC, Hid (MAC = num (mulF a c)) := ⟨_, Lib.hid rfl⟩
  have IMAC : IsNum MAC := by rw [hMAC.out]; exact isNum _
  obtain ⟨NA, hNA⟩ : ∃ NA, Hid (NA = num (a % pp)) := ⟨_, Lib.hid rfl⟩
  have INA : IsNum NA := by rw [hNA.out]; exact isNum _
  obtain ⟨PR, hPR⟩ : ∃ PR, Hid (PR = num pp) := ⟨_, Lib.hid rfl⟩
  have IPR : IsNum PR := by rw [hPR.out]; exact isNum _
  obtain ⟨U1, hU1⟩ : ∃ U1, Hid (U1 = num 1) := ⟨_, Lib.hid rfl⟩
  have IU1 : IsNum U1 := by rw [hU1.out]; exact isNum _
  obtain ⟨Z, hZ⟩ : ∃ Z, Hid (Z = num 0) := ⟨_, Lib.hid rfl⟩
  have IZ : IsNum Z := by rw [hZ.out]; exact isNum _
  rw [← hA.out, ← hB.out, ← hAB.out] at H1
  rw [← hAB.out, ← hC.out, ← hS.out] at H2
  rw [← hA.out, ← hB.out, ← hMAB.out] at H3
  rw [← hMAB.out, ← hC.out, ← hM.out] at H4
  rw [← hC.out, ← hB.out, ← hCB.out] at H5
  rw [← hA.out, ← hCB.out, ← hS.out] at H6
  rw [← hC.out, ← hB.out, ← hMCB.out] at H7
  rw [← hA.out, ← hMCB.out, ← hM.out] at H8
  rw [← hB.out, ← hC.out, ← hBC.out] at H9
  rw [← hA.out, ← hBC.out, ← hX.out] at H10
  rw [← hA.out, ← hC.out, ← hMAC.out] at H11
  rw [← hMAB.out, ← hMAC.out, ← hX.out] at H12
  rw [← hAB.out, ← hB.out, ← hNA.out] at H13
  rw [← hA.out, ← hNA.out] at H14
  rw [← hA.out, ← hZ.out] at H15
  rw [← hA.out, ← hU1.out, ← hNA.out] at H16
  rw [← hPR.out] at H17
  rw [← hS.out, ← hPR.out] at H18
  rw [← hZ.out] at hb0
  rw [← hU1.out] at hb1
  have HZ2 : ∀ w, (zeroValue 24).run Try.prog w = .ok (.agg Z) w := by rw [hZ.out]; exact HZ
  rw [← hA.out, ← hB.out, ← hC.out]
  clear HZ hA hB hC hAB hS hMAB hM hCB hMCB hBC hX hMAC hNA hPR hU1 hZ
  have hz4 : ∀ W : World, Kn W [(W.heap.size, A), (W.heap.size + 1, B), (W.heap.size + 1 + 1, C)] (((W.alloc (.cells A 24)).alloc (.cells B 24)).alloc (.cells C 24)) := by
    intro W
    have h := (((Kn.nil W).new A).new B).new C
    simp only [World.size_alloc] at h
    exact h.sub (fun p hp => by simp at hp ⊢; rcases hp with h | h | h <;> simp [h])
  have HS := Lib.hid (hz4 w)
  clear hz4
  go_enter Try.func3, Try.ntmps3
  go_wp2
  refine wp_cut (fun a' W => ∃ gS, a' = { tmps := #[.agg A, .agg B, .agg C, .pointer (some ⟨w.heap.size, 0, none⟩), .pointer (some ⟨w.heap.size + 1, 0, none⟩), .pointer (some ⟨w.heap.size + 1 + 1, 0, none⟩), .bool false, .pointer (some ⟨gS, 0, none⟩), undef, .agg A, .agg B, .agg AB, .agg C, .agg S, undef, undef, undef, undef, undef, undef, undef, undef, undef, undef, undef, undef, undef, undef, undef, undef, undef, undef, undef, undef, undef, undef, undef, undef, undef, undef, undef, undef, undef, undef, undef, undef, undef, undef, undef, undef, undef, undef, undef, undef, undef, undef, undef, undef, undef, undef, undef, undef, undef, undef, undef, undef, undef, undef, undef, undef, undef, undef, undef, undef, undef, undef, undef, undef, undef, undef, undef, undef, undef], defers := [] } ∧ Kn w [(w.heap.size, A), (w.heap.size + 1, B), (w.heap.size + 1 + 1, C), (gS, S)] W ∧ w.heap.size + 1 + 1 < gS) ?_ ?_
  · refine wp_region_any (by kernel_rfl) ?_
    change wpAny _ _ _ _ _ _ _ (World.drew _)
    have HD := HS.out.drew
    generalize (((w.alloc (.cells A 24)).alloc (.cells B 24)).alloc (.cells C 24)).drew = Wd at *
    refine any_of_F (S := Kn w [(w.heap.size, A), (w.heap.size + 1, B), (w.heap.size + 1 + 1, C)]) (f := 6) _ _ _ _ ?_
    refine AnyF.take 0 (some 9) (.load 24 (.tmp 3)) (.agg A) rfl (by kernel_rfl) (by kernel_rfl) (by kernel_rfl) (fun _ _ _ h => h) rfl (by kernel_rfl) (fun o ho w2 hw => exec_load_of _ 24 (.tmp 3) ho ⟨w.heap.size, 0, none⟩ rfl _ (hw.load (w.heap.size) A (by simp) IA)) HD ?_
    simp only [Act.put, List.setIfInBounds_toArray, List.set_cons_succ, List.set_cons_zero]
    refine AnyF.take 1 (some 10) (.load 24 (.tmp 4)) (.agg B) rfl (by kernel_rfl) (by kernel_rfl) (by kernel_rfl) (fun _ _ _ h => h) rfl (by kernel_rfl) (fun o ho w2 hw => exec_load_of _ 24 (.tmp 4) ho ⟨w.heap.size + 1, 0, none⟩ rfl _ (hw.load (w.heap.size + 1) B (by simp) IB)) HD ?_
    simp only [Act.put, List.setIfInBounds_toArray, List.set_cons_succ, List.set_cons_zero]
    refine AnyF.take 3 (some 12) (.load 24 (.tmp 5)) (.agg C) rfl (by kernel_rfl) (by kernel_rfl) (by kernel_rfl) (fun _ _ _ h => h) rfl (by kernel_rfl) (fun o ho w2 hw => exec_load_of _ 24 (.tmp 5) ho ⟨w.heap.size + 1 + 1, 0, none⟩ rfl _ (hw.load (w.heap.size + 1 + 1) C (by simp) IC)) HD ?_
    simp only [Act.put, List.setIfInBounds_toArray, List.set_cons_succ, List.set_cons_zero]
    refine AnyF.ready (rs := [2, 5]) (by kernel_rfl) (by simp) (ReadyF.call (some 11) 6 #[.tmp 9, .tmp 10] #[24, 24] rfl #[.agg A, .agg B] (by simp [Act.eval]) enters6 _ (H1.out _) ?_ (fun c w' h => by cases h.1) (fun w' h => by cases h.1) (ReadyF.op (some 7) (.alloc 24) rfl (.pointer (some ⟨Wd.heap.size, 0, none⟩)) (fun o ho => exec_alloc_agg _ 24 ho _ (HZ2 _)) (HD.alloc _) ?_ ReadyF.nil))
    · rintro v wq1 ⟨he, hb⟩
      cases he
      have Hq2 := HD.below hb
      clear hb
      refine ⟨Hq2, ?_⟩
      simp only [Act.put, List.setIfInBounds_toArray, List.set_cons_succ, List.set_cons_zero]
      refine AnyF.ready (rs := [4, 5]) (by kernel_rfl) (by simp) (ReadyF.call (some 13) 6 #[.tmp 11, .tmp 12] #[24, 24] rfl #[.agg AB, .agg C] (by simp [Act.eval]) enters6 _ (H2.out _) ?_ (fun c w' h => by cases h.1) (fun w' h => by cases h.1) (ReadyF.op (some 7) (.alloc 24) rfl (.pointer (some ⟨wq1.heap.size, 0, none⟩)) (fun o ho => exec_alloc_agg _ 24 ho _ (HZ2 _)) (Hq2.alloc _) ?_ ReadyF.nil))
      · rintro v wq3 ⟨he, hb⟩
        cases he
        have Hq4 := Hq2.below hb
        clear hb
        refine ⟨Hq4, ?_⟩
        simp only [Act.put, List.setIfInBounds_toArray, List.set_cons_succ, List.set_cons_zero]
        refine AnyF.ready (rs := [5]) (by kernel_rfl) (by simp) (ReadyF.op (some 7) (.alloc 24) rfl (.pointer (some ⟨wq3.heap.size, 0, none⟩)) (fun o ho => exec_alloc_agg _ 24 ho _ (HZ2 _)) (Hq4.alloc _) ?_ ReadyF.nil)
        have l0wq5 := Hq4.lt (w.heap.size) A (by simp)
        have l1wq5 := Hq4.lt (w.heap.size + 1) B (by simp)
        have l2wq5 := Hq4.lt (w.heap.size + 1 + 1) C (by simp)
        have Hq6 := Hq4.alloc (.cells Z 24)
        have Eq7 := Hq4.new Z
        simp only [Act.put, List.setIfInBounds_toArray, List.set_cons_succ, List.set_cons_zero]
        obtain ⟨wq5, hwq5⟩ : ∃ W, W = wq3.alloc (.cells Z 24) := ⟨_, rfl⟩
        rw [← hwq5] at Hq6 Eq7 ⊢
        clear hwq5
        refine AnyF.ready (rs := [6]) (by kernel_rfl) (by simp) (ReadyF.last (.store 24 (.tmp 7) (.tmp 13)) rfl (fun o ho => exec_store_kn wq5 Eq7 (.tmp 7) (.tmp 13) ho (wq3.heap.size) rfl S IS rfl Z IZ (by simp)) ?_ ReadyF.nil)
        refine any_doneF (by kernel_rfl) ?_ _
        refine nrm_intro ⟨_, rfl, ?_, by omega⟩
        exact Eq7.set (wq3.heap.size) S Z (Eq7.get (wq3.heap.size) Z (by simp)) (by omega) (fun p hp => by simp at hp; rcases hp with rfl | rfl | rfl | rfl <;> simp <;> omega)
      · have l0wq8 := Hq2.lt (w.heap.size) A (by simp)
        have l1wq8 := Hq2.lt (w.heap.size + 1) B (by simp)
        have l2wq8 := Hq2.lt (w.heap.size + 1 + 1) C (by simp)
        have Hq9 := Hq2.alloc (.cells Z 24)
        have Eq10 := Hq2.new Z
        simp only [Act.put, List.setIfInBounds_toArray, List.set_cons_succ, List.set_cons_zero]
        obtain ⟨wq8, hwq8⟩ : ∃ W, W = wq1.alloc (.cells Z 24) := ⟨_, rfl⟩
        rw [← hwq8] at Hq9 Eq10 ⊢
        clear hwq8
        refine AnyF.ready (rs := [4]) (by kernel_rfl) (by simp) (ReadyF.call (some 13) 6 #[.tmp 11, .tmp 12] #[24, 24] rfl #[.agg AB, .agg C] (by simp [Act.eval]) enters6 _ (H2.out _) ?_ (fun c w' h => by cases h.1) (fun w' h => by cases h.1) ReadyF.nil)
        rintro v wq11 ⟨he, hb⟩
        cases he
        have Hq12 := Hq9.below hb
        have Eq13 := Eq10.below hb
        clear hb
        refine ⟨Hq12, ?_⟩
        simp only [Act.put, List.setIfInBounds_toArray, List.set_cons_succ, List.set_cons_zero]
        refine AnyF.ready (rs := [6]) (by kernel_rfl) (by simp) (ReadyF.last (.store 24 (.tmp 7) (.tmp 13)) rfl (fun o ho => exec_store_kn wq11 Eq13 (.tmp 7) (.tmp 13) ho (wq1.heap.size) rfl S IS rfl Z IZ (by simp)) ?_ ReadyF.nil)
        refine any_doneF (by kernel_rfl) ?_ _
        refine nrm_intro ⟨_, rfl, ?_, by omega⟩
        exact Eq13.set (wq1.heap.size) S Z (Eq13.get (wq1.heap.size) Z (by simp)) (by omega) (fun p hp => by simp at hp; rcases hp with rfl | rfl | rfl | rfl <;> simp <;> omega)
    · have l0wq14 := HD.lt (w.heap.size) A (by simp)
      have l1wq14 := HD.lt (w.heap.size + 1) B (by simp)
      have l2wq14 := HD.lt (w.heap.size + 1 + 1) C (by simp)
      have Hq15 := HD.alloc (.cells Z 24)
      have Eq16 := HD.new Z
      simp only [Act.put, List.setIfInBounds_toArray, List.set_cons_succ, List.set_cons_zero]
      obtain ⟨wq14, hwq14⟩ : ∃ W, W = Wd.alloc (.cells Z 24) := ⟨_, rfl⟩
      rw [← hwq14] at Hq15 Eq16 ⊢
      clear hwq14
      refine AnyF.ready (rs := [2]) (by kernel_rfl) (by simp) (ReadyF.call (some 11) 6 #[.tmp 9, .tmp 10] #[24, 24] rfl #[.agg A, .agg B] (by simp [Act.eval]) enters6 _ (H1.out _) ?_ (fun c w' h => by cases h.1) (fun w' h => by cases h.1) ReadyF.nil)
      rintro v wq17 ⟨he, hb⟩
      cases he
      have Hq18 := Hq15.below hb
      have Eq19 := Eq16.below hb
      clear hb
      refine ⟨Hq18, ?_⟩
      simp only [Act.put, List.setIfInBounds_toArray, List.set_cons_succ, List.set_cons_zero]
      refine AnyF.ready (rs := [4]) (by kernel_rfl) (by simp) (ReadyF.call (some 13) 6 #[.tmp 11, .tmp 12] #[24, 24] rfl #[.agg AB, .agg C] (by simp [Act.eval]) enters6 _ (H2.out _) ?_ (fun c w' h => by cases h.1) (fun w' h => by cases h.1) ReadyF.nil)
      rintro v wq20 ⟨he, hb⟩
      cases he
      have Hq21 := Hq18.below hb
      have Eq22 := Eq19.below hb
      clear hb
      refine ⟨Hq21, ?_⟩
      simp only [Act.put, List.setIfInBounds_toArray, List.set_cons_succ, List.set_cons_zero]
      refine AnyF.ready (rs := [6]) (by kernel_rfl) (by simp) (ReadyF.last (.store 24 (.tmp 7) (.tmp 13)) rfl (fun o ho => exec_store_kn wq20 Eq22 (.tmp 7) (.tmp 13) ho (Wd.heap.size) rfl S IS rfl Z IZ (by simp)) ?_ ReadyF.nil)
      refine any_doneF (by kernel_rfl) ?_ _
      refine nrm_intro ⟨_, rfl, ?_, by omega⟩
      exact Eq22.set (Wd.heap.size) S Z (Eq22.get (Wd.heap.size) Z (by simp)) (by omega) (fun p hp => by simp at hp; rcases hp with rfl | rfl | rfl | rfl <;> simp <;> omega)
  · rintro a' W5 ⟨gS, rfl, HK5, hgS⟩
    clear HS
    go_wp2
    refine wp_cut (fun a' W => ∃ gM, a' = { tmps := #[.agg A, .agg B, .agg C, .pointer (some ⟨w.heap.size, 0, none⟩), .pointer (some ⟨w.heap.size + 1, 0, none⟩), .pointer (some ⟨w.heap.size + 1 + 1, 0, none⟩), .bool false, .pointer (some ⟨gS, 0, none⟩), .pointer (some ⟨gM, 0, none⟩), .agg A, .agg B, .agg AB, .agg C, .agg S, .agg A, .agg B, .agg MAB, .agg C, .agg M, undef, undef, undef, undef, undef, undef, undef, undef, undef, undef, undef, undef, undef, undef, undef, undef, undef, undef, undef, undef, undef, undef, undef, undef, undef, undef, undef, undef, undef, undef, undef, undef, undef, undef, undef, undef, undef, undef, undef, undef, undef, undef, undef, undef, undef, undef, undef, undef, undef, undef, undef, undef, undef, undef, undef, undef, undef, undef, undef, undef, undef, undef, undef, undef], defers := [] } ∧ Kn w [(w.heap.size, A), (w.heap.size + 1, B), (w.heap.size + 1 + 1, C), (gS, S), (gM, M)] W) ?_ ?_
    · refine wp_region_any (by kernel_rfl) ?_
      change wpAny _ _ _ _ _ _ _ (World.drew _)
      have HD := HK5.drew
      generalize W5.drew = Wd at *
      refine any_of_F (S := Kn w [(w.heap.size, A), (w.heap.size + 1, B), (w.heap.size + 1 + 1, C), (gS, S)]) (f := 6) _ _ _ _ ?_
      refine AnyF.take 0 (some 14) (.load 24 (.tmp 3)) (.agg A) rfl (by kernel_rfl) (by kernel_rfl) (by kernel_rfl) (fun _ _ _ h => h) rfl (by kernel_rfl) (fun o ho w2 hw => exec_load_of _ 24 (.tmp 3) ho ⟨w.heap.size, 0, none⟩ rfl _ (hw.load (w.heap.size) A (by simp) IA)) HD ?_
      simp only [Act.put, List.setIfInBounds_toArray, List.set_cons_succ, List.set_cons_zero]
      refine AnyF.take 1 (some 15) (.load 24 (.tmp 4)) (.agg B) rfl (by kernel_rfl) (by kernel_rfl) (by kernel_rfl) (fun _ _ _ h => h) rfl (by kernel_rfl) (fun o ho w2 hw => exec_load_of _ 24 (.tmp 4) ho ⟨w.heap.size + 1, 0, none⟩ rfl _ (hw.load (w.heap.size + 1) B (by simp) IB)) HD ?_
      simp only [Act.put, List.setIfInBounds_toArray, List.set_cons_succ, List.set_cons_zero]
      refine AnyF.take 3 (some 17) (.load 24 (.tmp 5)) (.agg C) rfl (by kernel_rfl) (by kernel_rfl) (by kernel_rfl) (fun _ _ _ h => h) rfl (by kernel_rfl) (fun o ho w2 hw => exec_load_of _ 24 (.tmp 5) ho ⟨w.heap.size + 1 + 1, 0, none⟩ rfl _ (hw.load (w.heap.size + 1 + 1) C (by simp) IC)) HD ?_
      simp only [Act.put, List.setIfInBounds_toArray, List.set_cons_succ, List.set_cons_zero]
      refine AnyF.ready (rs := [2, 5]) (by kernel_rfl) (by simp) (ReadyF.call (some 16) 7 #[.tmp 14, .tmp 15] #[24, 24] rfl #[.agg A, .agg B] (by simp [Act.eval]) enters7 _ (H3.out _) ?_ (fun c w' h => by cases h.1) (fun w' h => by cases h.1) (ReadyF.op (some 8) (.alloc 24) rfl (.pointer (some ⟨Wd.heap.size, 0, none⟩)) (fun o ho => exec_alloc_agg _ 24 ho _ (HZ2 _)) (HD.alloc _) ?_ ReadyF.nil))
      · rintro v wr1 ⟨he, hb⟩
        cases he
        have Hr2 := HD.below hb
        clear hb
        refine ⟨Hr2, ?_⟩
        simp only [Act.put, List.setIfInBounds_toArray, List.set_cons_succ, List.set_cons_zero]
        refine AnyF.ready (rs := [4, 5]) (by kernel_rfl) (by simp) (ReadyF.call (some 18) 7 #[.tmp 16, .tmp 17] #[24, 24] rfl #[.agg MAB, .agg C] (by simp [Act.eval]) enters7 _ (H4.out _) ?_ (fun c w' h => by cases h.1) (fun w' h => by cases h.1) (ReadyF.op (some 8) (.alloc 24) rfl (.pointer (some ⟨wr1.heap.size, 0, none⟩)) (fun o ho => exec_alloc_agg _ 24 ho _ (HZ2 _)) (Hr2.alloc _) ?_ ReadyF.nil))
        · rintro v wr3 ⟨he, hb⟩
          cases he
          have Hr4 := Hr2.below hb
          clear hb
          refine ⟨Hr4, ?_⟩
          simp only [Act.put, List.setIfInBounds_toArray, List.set_cons_succ, List.set_cons_zero]
          refine AnyF.ready (rs := [5]) (by kernel_rfl) (by simp) (ReadyF.op (some 8) (.alloc 24) rfl (.pointer (some ⟨wr3.heap.size, 0, none⟩)) (fun o ho => exec_alloc_agg _ 24 ho _ (HZ2 _)) (Hr4.alloc _) ?_ ReadyF.nil)
          have l0wr5 := Hr4.lt (w.heap.size) A (by simp)
          have l1wr5 := Hr4.lt (w.heap.size + 1) B (by simp)
          have l2wr5 := Hr4.lt (w.heap.size + 1 + 1) C (by simp)
          have l3wr5 := Hr4.lt (gS) S (by simp)
          have Hr6 := Hr4.alloc (.cells Z 24)
          have Er7 := Hr4.new Z
          simp only [Act.put, List.setIfInBounds_toArray, List.set_cons_succ, List.set_cons_zero]
          obtain ⟨wr5, hwr5⟩ : ∃ W, W = wr3.alloc (.cells Z 24) := ⟨_, rfl⟩
          rw [← hwr5] at Hr6 Er7 ⊢
          clear hwr5
          refine AnyF.ready (rs := [6]) (by kernel_rfl) (by simp) (ReadyF.last (.store 24 (.tmp 8) (.tmp 18)) rfl (fun o ho => exec_store_kn wr5 Er7 (.tmp 8) (.tmp 18) ho (wr3.heap.size) rfl M IM rfl Z IZ (by simp)) ?_ ReadyF.nil)
          refine any_doneF (by kernel_rfl) ?_ _
          refine nrm_intro ⟨_, rfl, ?_⟩
          exact Er7.set (wr3.heap.size) M Z (Er7.get (wr3.heap.size) Z (by simp)) (by omega) (fun p hp => by simp at hp; rcases hp with rfl | rfl | rfl | rfl | rfl <;> simp <;> omega)
        · have l0wr8 := Hr2.lt (w.heap.size) A (by simp)
          have l1wr8 := Hr2.lt (w.heap.size + 1) B (by simp)
          have l2wr8 := Hr2.lt (w.heap.size + 1 + 1) C (by simp)
          have l3wr8 := Hr2.lt (gS) S (by simp)
          have Hr9 := Hr2.alloc (.cells Z 24)
          have Er10 := Hr2.new Z
          simp only [Act.put, List.setIfInBounds_toArray, List.set_cons_succ, List.set_cons_zero]
          obtain ⟨wr8, hwr8⟩ : ∃ W, W = wr1.alloc (.cells Z 24) := ⟨_, rfl⟩
          rw [← hwr8] at Hr9 Er10 ⊢
          clear hwr8
          refine AnyF.ready (rs := [4]) (by kernel_rfl) (by simp) (ReadyF.call (some 18) 7 #[.tmp 16, .tmp 17] #[24, 24] rfl #[.agg MAB, .agg C] (by simp [Act.eval]) enters7 _ (H4.out _) ?_ (fun c w' h => by cases h.1) (fun w' h => by cases h.1) ReadyF.nil)
          rintro v wr11 ⟨he, hb⟩
          cases he
          have Hr12 := Hr9.below hb
          have Er13 := Er10.below hb
          clear hb
          refine ⟨Hr12, ?_⟩
          simp only [Act.put, List.setIfInBounds_toArray, List.set_cons_succ, List.set_cons_zero]
          refine AnyF.ready (rs := [6]) (by kernel_rfl) (by simp) (ReadyF.last (.store 24 (.tmp 8) (.tmp 18)) rfl (fun o ho => exec_store_kn wr11 Er13 (.tmp 8) (.tmp 18) ho (wr1.heap.size) rfl M IM rfl Z IZ (by simp)) ?_ ReadyF.nil)
          refine any_doneF (by kernel_rfl) ?_ _
          refine nrm_intro ⟨_, rfl, ?_⟩
          exact Er13.set (wr1.heap.size) M Z (Er13.get (wr1.heap.size) Z (by simp)) (by omega) (fun p hp => by simp at hp; rcases hp with rfl | rfl | rfl | rfl | rfl <;> simp <;> omega)
      · have l0wr14 := HD.lt (w.heap.size) A (by simp)
        have l1wr14 := HD.lt (w.heap.size + 1) B (by simp)
        have l2wr14 := HD.lt (w.heap.size + 1 + 1) C (by simp)
        have l3wr14 := HD.lt (gS) S (by simp)
        have Hr15 := HD.alloc (.cells Z 24)
        have Er16 := HD.new Z
        simp only [Act.put, List.setIfInBounds_toArray, List.set_cons_succ, List.set_cons_zero]
        obtain ⟨wr14, hwr14⟩ : ∃ W, W = Wd.alloc (.cells Z 24) := ⟨_, rfl⟩
        rw [← hwr14] at Hr15 Er16 ⊢
        clear hwr14
        refine AnyF.ready (rs := [2]) (by kernel_rfl) (by simp) (ReadyF.call (some 16) 7 #[.tmp 14, .tmp 15] #[24, 24] rfl #[.agg A, .agg B] (by simp [Act.eval]) enters7 _ (H3.out _) ?_ (fun c w' h => by cases h.1) (fun w' h => by cases h.1) ReadyF.nil)
        rintro v wr17 ⟨he, hb⟩
        cases he
        have Hr18 := Hr15.below hb
        have Er19 := Er16.below hb
        clear hb
        refine ⟨Hr18, ?_⟩
        simp only [Act.put, List.setIfInBounds_toArray, List.set_cons_succ, List.set_cons_zero]
        refine AnyF.ready (rs := [4]) (by kernel_rfl) (by simp) (ReadyF.call (some 18) 7 #[.tmp 16, .tmp 17] #[24, 24] rfl #[.agg MAB, .agg C] (by simp [Act.eval]) enters7 _ (H4.out _) ?_ (fun c w' h => by cases h.1) (fun w' h => by cases h.1) ReadyF.nil)
        rintro v wr20 ⟨he, hb⟩
        cases he
        have Hr21 := Hr18.below hb
        have Er22 := Er19.below hb
        clear hb
        refine ⟨Hr21, ?_⟩
        simp only [Act.put, List.setIfInBounds_toArray, List.set_cons_succ, List.set_cons_zero]
        refine AnyF.ready (rs := [6]) (by kernel_rfl) (by simp) (ReadyF.last (.store 24 (.tmp 8) (.tmp 18)) rfl (fun o ho => exec_store_kn wr20 Er22 (.tmp 8) (.tmp 18) ho (Wd.heap.size) rfl M IM rfl Z IZ (by simp)) ?_ ReadyF.nil)
        refine any_doneF (by kernel_rfl) ?_ _
        refine nrm_intro ⟨_, rfl, ?_⟩
        exact Er22.set (Wd.heap.size) M Z (Er22.get (Wd.heap.size) Z (by simp)) (by omega) (fun p hp => by simp at hp; rcases hp with rfl | rfl | rfl | rfl | rfl <;> simp <;> omega)
    · rintro a' W6 ⟨gM, rfl, HK6⟩
      clear HK5
      go_wp2
      refine wp_nrm ?_
      refine wp_region_any (by kernel_rfl) ?_
      change wpAny _ _ _ _ _ _ _ (World.drew _)
      have HD := HK6.drew
      generalize W6.drew = Wd at *
      refine any_of_F (S := Kn w [(w.heap.size, A), (w.heap.size + 1, B), (w.heap.size + 1 + 1, C), (gS, S), (gM, M)]) (f := 1000) _ _ _ _ ?_
      refine AnyF.takeG (by rfl) 0 (some 19) (.load 24 (.tmp 7)) none (.agg S) rfl (by kernel_rfl) (by kernel_rfl) (by kernel_rfl) (fun _ _ _ h => h) rfl (fun o h => by obtain rfl := Option.some.inj h; rfl) (fun o ho w2 hw => exec_load_of _ 24 (.tmp 7) ho ⟨gS, 0, none⟩ rfl _ (hw.load (gS) S (by simp) IS)) HD ?_
      simp only [Act.put, List.setIfInBounds_toArray, List.set_cons_succ, List.set_cons_zero]
      refine AnyF.takeG (by rfl) 1 (some 20) (.load 24 (.tmp 3)) none (.agg A) rfl (by kernel_rfl) (by kernel_rfl) (by kernel_rfl) (fun _ _ _ h => h) rfl (fun o h => by obtain rfl := Option.some.inj h; rfl) (fun o ho w2 hw => exec_load_of _ 24 (.tmp 3) ho ⟨w.heap.size, 0, none⟩ rfl _ (hw.load (w.heap.size) A (by simp) IA)) HD ?_
      simp only [Act.put, List.setIfInBounds_toArray, List.set_cons_succ, List.set_cons_zero]
      refine AnyF.takeG (by rfl) 2 (some 21) (.load 24 (.tmp 5)) none (.agg C) rfl (by kernel_rfl) (by kernel_rfl) (by kernel_rfl) (fun _ _ _ h => h) rfl (fun o h => by obtain rfl := Option.some.inj h; rfl) (fun o ho w2 hw => exec_load_of _ 24 (.tmp 5) ho ⟨w.heap.size + 1 + 1, 0, none⟩ rfl _ (hw.load (w.heap.size + 1 + 1) C (by simp) IC)) HD ?_
      simp only [Act.put, List.setIfInBounds_toArray, List.set_cons_succ, List.set_cons_zero]
      refine AnyF.takeG (by rfl) 3 (some 22) (.load 24 (.tmp 4)) none (.agg B) rfl (by kernel_rfl) (by kernel_rfl) (by kernel_rfl) (fun _ _ _ h => h) rfl (fun o h => by obtain rfl := Option.some.inj h; rfl) (fun o ho w2 hw => exec_load_of _ 24 (.tmp 4) ho ⟨w.heap.size + 1, 0, none⟩ rfl _ (hw.load (w.heap.size + 1) B (by simp) IB)) HD ?_
      simp only [Act.put, List.setIfInBounds_toArray, List.set_cons_succ, List.set_cons_zero]
      refine AnyF.ready (rs := [4]) (by kernel_rfl) (by simp) (ReadyF.call (some 23) 6 #[.tmp 21, .tmp 22] #[24, 24] rfl #[.agg C, .agg B] (by simp [Act.eval]) enters6 _ (H5.out _) ?_ (fun c w' h => by cases h.1) (fun w' h => by cases h.1) ReadyF.nil)
      rintro v wt1 ⟨he, hb⟩
      cases he
      have Ht2 := HD.below hb
      clear hb
      refine ⟨Ht2, ?_⟩
      simp only [Act.put, List.setIfInBounds_toArray, List.set_cons_succ, List.set_cons_zero]
      refine AnyF.ready (rs := [5]) (by kernel_rfl) (by simp) (ReadyF.call (some 24) 6 #[.tmp 20, .tmp 23] #[24, 24] rfl #[.agg A, .agg CB] (by simp [Act.eval]) enters6 _ (H6.out _) ?_ (fun c w' h => by cases h.1) (fun w' h => by cases h.1) ReadyF.nil)
      rintro v wt3 ⟨he, hb⟩
      cases he
      have Ht4 := Ht2.below hb
      clear hb
      refine ⟨Ht4, ?_⟩
      simp only [Act.put, List.setIfInBounds_toArray, List.set_cons_succ, List.set_cons_zero]
      refine AnyF.takeG (by rfl) 6 (some 25) (.binOp .eql 24 (.tmp 19) (.tmp 24) 24) none (.bool true) rfl (by kernel_rfl) (by kernel_rfl) (by kernel_rfl) (fun _ _ _ h => h) rfl (fun o h => by obtain rfl := Option.some.inj h; rfl) (fun o ho w2 hw => exec_eqA (.tmp 19) (.tmp 24) ho S IS rfl rfl w2) Ht4 ?_
      simp only [Act.put, List.setIfInBounds_toArray, List.set_cons_succ, List.set_cons_zero]
      refine AnyF.takeG (by rfl) 7 (some 26) (.move (.tmp 25)) none (.bool true) rfl (by kernel_rfl) (by kernel_rfl) (by kernel_rfl) (fun _ _ _ h => h) rfl (fun o h => by obtain rfl := Option.some.inj h; rfl) (fun o ho w2 hw => exec_move (.tmp 25) ho _ rfl w2) Ht4 ?_
      simp only [Act.put, List.setIfInBounds_toArray, List.set_cons_succ, List.set_cons_zero]
      refine AnyF.takeG (by rfl) 8 (some 27) (.load 24 (.tmp 8)) (some (7, true)) (.agg M) rfl (by kernel_rfl) (by kernel_rfl) (by kernel_rfl) (fun _ _ _ h => h) rfl (fun o h => by obtain rfl := Option.some.inj h; rfl) (fun o ho w2 hw => exec_load_of _ 24 (.tmp 8) ho ⟨gM, 0, none⟩ rfl _ (hw.load (gM) M (by simp) IM)) Ht4 ?_
      simp only [Act.put, List.setIfInBounds_toArray, List.set_cons_succ, List.set_cons_zero]
      refine AnyF.takeG (by rfl) 9 (some 28) (.load 24 (.tmp 3)) (some (7, true)) (.agg A) rfl (by kernel_rfl) (by kernel_rfl) (by kernel_rfl) (fun _ _ _ h => h) rfl (fun o h => by obtain rfl := Option.some.inj h; rfl) (fun o ho w2 hw => exec_load_of _ 24 (.tmp 3) ho ⟨w.heap.size, 0, none⟩ rfl _ (hw.load (w.heap.size) A (by simp) IA)) Ht4 ?_
      simp only [Act.put, List.setIfInBounds_toArray, List.set_cons_succ, List.set_cons_zero]
      refine AnyF.takeG (by rfl) 10 (some 29) (.load 24 (.tmp 5)) (some (7, true)) (.agg C) rfl (by kernel_rfl) (by kernel_rfl) (by kernel_rfl) (fun _ _ _ h => h) rfl (fun o h => by obtain rfl := Option.some.inj h; rfl) (fun o ho w2 hw => exec_load_of _ 24 (.tmp 5) ho ⟨w.heap.size + 1 + 1, 0, none⟩ rfl _ (hw.load (w.heap.size + 1 + 1) C (by simp) IC)) Ht4 ?_
      simp only [Act.put, List.setIfInBounds_toArray, List.set_cons_succ, List.set_cons_zero]
      refine AnyF.takeG (by rfl) 11 (some 30) (.load 24 (.tmp 4)) (some (7, true)) (.agg B) rfl (by kernel_rfl) (by kernel_rfl) (by kernel_rfl) (fun _ _ _ h => h) rfl (fun o h => by obtain rfl := Option.some.inj h; rfl) (fun o ho w2 hw => exec_load_of _ 24 (.tmp 4) ho ⟨w.heap.size + 1, 0, none⟩ rfl _ (hw.load (w.heap.size + 1) B (by simp) IB)) Ht4 ?_
      simp only [Act.put, List.setIfInBounds_toArray, List.set_cons_succ, List.set_cons_zero]
      refine AnyF.ready (rs := [12]) (by kernel_rfl) (by simp) (ReadyF.callG (some 31) 7 #[.tmp 29, .tmp 30] #[24, 24] (some (7, true)) rfl (fun o h => by obtain rfl := Option.some.inj h; rfl) #[.agg C, .agg B] (by simp [Act.eval]) enters7 _ (H7.out _) ?_ (fun c w' h => by cases h.1) (fun w' h => by cases h.1) ReadyF.nil)
      rintro v wt5 ⟨he, hb⟩
      cases he
      have Ht6 := Ht4.below hb
      clear hb
      refine ⟨Ht6, ?_⟩
      simp only [Act.put, List.setIfInBounds_toArray, List.set_cons_succ, List.set_cons_zero]
      refine AnyF.ready (rs := [13]) (by kernel_rfl) (by simp) (ReadyF.callG (some 32) 7 #[.tmp 28, .tmp 31] #[24, 24] (some (7, true)) rfl (fun o h => by obtain rfl := Option.some.inj h; rfl) #[.agg A, .agg MCB] (by simp [Act.eval]) enters7 _ (H8.out _) ?_ (fun c w' h => by cases h.1) (fun w' h => by cases h.1) ReadyF.nil)
      rintro v wt7 ⟨he, hb⟩
      cases he
      have Ht8 := Ht6.below hb
      clear hb
      refine ⟨Ht8, ?_⟩
      simp only [Act.put, List.setIfInBounds_toArray, List.set_cons_succ, List.set_cons_zero]
      refine AnyF.takeG (by rfl) 14 (some 33) (.binOp .eql 24 (.tmp 27) (.tmp 32) 24) (some (7, true)) (.bool true) rfl (by kernel_rfl) (by kernel_rfl) (by kernel_rfl) (fun _ _ _ h => h) rfl (fun o h => by obtain rfl := Option.some.inj h; rfl) (fun o ho w2 hw => exec_eqA (.tmp 27) (.tmp 32) ho M IM rfl rfl w2) Ht8 ?_
      simp only [Act.put, List.setIfInBounds_toArray, List.set_cons_succ, List.set_cons_zero]
      refine AnyF.takeG (by rfl) 15 (some 34) (.pick (.tmp 26) (.tmp 33) (.const (.bool false))) none (.bool true) rfl (by kernel_rfl) (by kernel_rfl) (by kernel_rfl) (fun _ _ _ h => h) rfl (fun o h => by obtain rfl := Option.some.inj h; rfl) (fun o ho w2 hw => exec_pickt (.tmp 26) (.tmp 33) (.const (.bool false)) ho rfl _ rfl w2) Ht8 ?_
      simp only [Act.put, List.setIfInBounds_toArray, List.set_cons_succ, List.set_cons_zero]
      refine AnyF.takeG (by rfl) 16 (some 35) (.move (.tmp 34)) none (.bool true) rfl (by kernel_rfl) (by kernel_rfl) (by kernel_rfl) (fun _ _ _ h => h) rfl (fun o h => by obtain rfl := Option.some.inj h; rfl) (fun o ho w2 hw => exec_move (.tmp 34) ho _ rfl w2) Ht8 ?_
      simp only [Act.put, List.setIfInBounds_toArray, List.set_cons_succ, List.set_cons_zero]
      refine AnyF.takeG (by rfl) 17 (some 36) (.load 24 (.tmp 3)) (some (16, true)) (.agg A) rfl (by kernel_rfl) (by kernel_rfl) (by kernel_rfl) (fun _ _ _ h => h) rfl (fun o h => by obtain rfl := Option.some.inj h; rfl) (fun o ho w2 hw => exec_load_of _ 24 (.tmp 3) ho ⟨w.heap.size, 0, none⟩ rfl _ (hw.load (w.heap.size) A (by simp) IA)) Ht8 ?_
      simp only [Act.put, List.setIfInBounds_toArray, List.set_cons_succ, List.set_cons_zero]
      refine AnyF.takeG (by rfl) 18 (some 37) (.load 24 (.tmp 4)) (some (16, true)) (.agg B) rfl (by kernel_rfl) (by kernel_rfl) (by kernel_rfl) (fun _ _ _ h => h) rfl (fun o h => by obtain rfl := Option.some.inj h; rfl) (fun o ho w2 hw => exec_load_of _ 24 (.tmp 4) ho ⟨w.heap.size + 1, 0, none⟩ rfl _ (hw.load (w.heap.size + 1) B (by simp) IB)) Ht8 ?_
      simp only [Act.put, List.setIfInBounds_toArray, List.set_cons_succ, List.set_cons_zero]
      refine AnyF.takeG (by rfl) 19 (some 38) (.load 24 (.tmp 5)) (some (16, true)) (.agg C) rfl (by kernel_rfl) (by kernel_rfl) (by kernel_rfl) (fun _ _ _ h => h) rfl (fun o h => by obtain rfl := Option.some.inj h; rfl) (fun o ho w2 hw => exec_load_of _ 24 (.tmp 5) ho ⟨w.heap.size + 1 + 1, 0, none⟩ rfl _ (hw.load (w.heap.size + 1 + 1) C (by simp) IC)) Ht8 ?_
      simp only [Act.put, List.setIfInBounds_toArray, List.set_cons_succ, List.set_cons_zero]
      refine AnyF.takeG (by rfl) 22 (some 41) (.load 24 (.tmp 3)) (some (16, true)) (.agg A) rfl (by kernel_rfl) (by kernel_rfl) (by kernel_rfl) (fun _ _ _ h => h) rfl (fun o h => by obtain rfl := Option.some.inj h; rfl) (fun o ho w2 hw => exec_load_of _ 24 (.tmp 3) ho ⟨w.heap.size, 0, none⟩ rfl _ (hw.load (w.heap.size) A (by simp) IA)) Ht8 ?_
      simp only [Act.put, List.setIfInBounds_toArray, List.set_cons_succ, List.set_cons_zero]
      refine AnyF.takeG (by rfl) 23 (some 42) (.load 24 (.tmp 4)) (some (16, true)) (.agg B) rfl (by kernel_rfl) (by kernel_rfl) (by kernel_rfl) (fun _ _ _ h => h) rfl (fun o h => by obtain rfl := Option.some.inj h; rfl) (fun o ho w2 hw => exec_load_of _ 24 (.tmp 4) ho ⟨w.heap.size + 1, 0, none⟩ rfl _ (hw.load (w.heap.size + 1) B (by simp) IB)) Ht8 ?_
      simp only [Act.put, List.setIfInBounds_toArray, List.set_cons_succ, List.set_cons_zero]
      refine AnyF.takeG (by rfl) 25 (some 44) (.load 24 (.tmp 3)) (some (16, true)) (.agg A) rfl (by kernel_rfl) (by kernel_rfl) (by kernel_rfl) (fun _ _ _ h => h) rfl (fun o h => by obtain rfl := Option.some.inj h; rfl) (fun o ho w2 hw => exec_load_of _ 24 (.tmp 3) ho ⟨w.heap.size, 0, none⟩ rfl _ (hw.load (w.heap.size) A (by simp) IA)) Ht8 ?_
      simp only [Act.put, List.setIfInBounds_toArray, List.set_cons_succ, List.set_cons_zero]
      refine AnyF.takeG (by rfl) 26 (some 45) (.load 24 (.tmp 5)) (some (16, true)) (.agg C) rfl (by kernel_rfl) (by kernel_rfl) (by kernel_rfl) (fun _ _ _ h => h) rfl (fun o h => by obtain rfl := Option.some.inj h; rfl) (fun o ho w2 hw => exec_load_of _ 24 (.tmp 5) ho ⟨w.heap.size + 1 + 1, 0, none⟩ rfl _ (hw.load (w.heap.size + 1 + 1) C (by simp) IC)) Ht8 ?_
      simp only [Act.put, List.setIfInBounds_toArray, List.set_cons_succ, List.set_cons_zero]
      refine AnyF.ready (rs := [20]) (by kernel_rfl) (by simp) (ReadyF.callG (some 39) 6 #[.tmp 37, .tmp 38] #[24, 24] (some (16, true)) rfl (fun o h => by obtain rfl := Option.some.inj h; rfl) #[.agg B, .agg C] (by simp [Act.eval]) enters6 _ (H9.out _) ?_ (fun c w' h => by cases h.1) (fun w' h => by cases h.1) ReadyF.nil)
      rintro v wt9 ⟨he, hb⟩
      cases he
      have Ht10 := Ht8.below hb
      clear hb
      refine ⟨Ht10, ?_⟩
      simp only [Act.put, List.setIfInBounds_toArray, List.set_cons_succ, List.set_cons_zero]
      refine AnyF.ready (rs := [21]) (by kernel_rfl) (by simp) (ReadyF.callG (some 40) 7 #[.tmp 36, .tmp 39] #[24, 24] (some (16, true)) rfl (fun o h => by obtain rfl := Option.some.inj h; rfl) #[.agg A, .agg BC] (by simp [Act.eval]) enters7 _ (H10.out _) ?_ (fun c w' h => by cases h.1) (fun w' h => by cases h.1) ReadyF.nil)
      rintro v wt11 ⟨he, hb⟩
      cases he
      have Ht12 := Ht10.below hb
      clear hb
      refine ⟨Ht12, ?_⟩
      simp only [Act.put, List.setIfInBounds_toArray, List.set_cons_succ, List.set_cons_zero]
      refine AnyF.ready (rs := [24]) (by kernel_rfl) (by simp) (ReadyF.callG (some 43) 7 #[.tmp 41, .tmp 42] #[24, 24] (some (16, true)) rfl (fun o h => by obtain rfl := Option.some.inj h; rfl) #[.agg A, .agg B] (by simp [Act.eval]) enters7 _ (H3.out _) ?_ (fun c w' h => by cases h.1) (fun w' h => by cases h.1) ReadyF.nil)
      rintro v wt13 ⟨he, hb⟩
      cases he
      have Ht14 := Ht12.below hb
      clear hb
      refine ⟨Ht14, ?_⟩
      simp only [Act.put, List.setIfInBounds_toArray, List.set_cons_succ, List.set_cons_zero]
      refine AnyF.ready (rs := [27]) (by kernel_rfl) (by simp) (ReadyF.callG (some 46) 7 #[.tmp 44, .tmp 45] #[24, 24] (some (16, true)) rfl (fun o h => by obtain rfl := Option.some.inj h; rfl) #[.agg A, .agg C] (by simp [Act.eval]) enters7 _ (H11.out _) ?_ (fun c w' h => by cases h.1) (fun w' h => by cases h.1) ReadyF.nil)
      rintro v wt15 ⟨he, hb⟩
      cases he
      have Ht16 := Ht14.below hb
      clear hb
      refine ⟨Ht16, ?_⟩
      simp only [Act.put, List.setIfInBounds_toArray, List.set_cons_succ, List.set_cons_zero]
      refine AnyF.ready (rs := [28]) (by kernel_rfl) (by simp) (ReadyF.callG (some 47) 6 #[.tmp 43, .tmp 46] #[24, 24] (some (16, true)) rfl (fun o h => by obtain rfl := Option.some.inj h; rfl) #[.agg MAB, .agg MAC] (by simp [Act.eval]) enters6 _ (H12.out _) ?_ (fun c w' h => by cases h.1) (fun w' h => by cases h.1) ReadyF.nil)
      rintro v wt17 ⟨he, hb⟩
      cases he
      have Ht18 := Ht16.below hb
      clear hb
      refine ⟨Ht18, ?_⟩
      simp only [Act.put, List.setIfInBounds_toArray, List.set_cons_succ, List.set_cons_zero]
      refine AnyF.takeG (by rfl) 29 (some 48) (.binOp .eql 24 (.tmp 40) (.tmp 47) 24) (some (16, true)) (.bool true) rfl (by kernel_rfl) (by kernel_rfl) (by kernel_rfl) (fun _ _ _ h => h) rfl (fun o h => by obtain rfl := Option.some.inj h; rfl) (fun o ho w2 hw => exec_eqA (.tmp 40) (.tmp 47) ho X IX rfl rfl w2) Ht18 ?_
      simp only [Act.put, List.setIfInBounds_toArray, List.set_cons_succ, List.set_cons_zero]
      refine AnyF.takeG (by rfl) 30 (some 49) (.pick (.tmp 35) (.tmp 48) (.const (.bool false))) none (.bool true) rfl (by kernel_rfl) (by kernel_rfl) (by kernel_rfl) (fun _ _ _ h => h) rfl (fun o h => by obtain rfl := Option.some.inj h; rfl) (fun o ho w2 hw => exec_pickt (.tmp 35) (.tmp 48) (.const (.bool false)) ho rfl _ rfl w2) Ht18 ?_
      simp only [Act.put, List.setIfInBounds_toArray, List.set_cons_succ, List.set_cons_zero]
      refine AnyF.takeG (by rfl) 31 (some 50) (.move (.tmp 49)) none (.bool true) rfl (by kernel_rfl) (by kernel_rfl) (by kernel_rfl) (fun _ _ _ h => h) rfl (fun o h => by obtain rfl := Option.some.inj h; rfl) (fun o ho w2 hw => exec_move (.tmp 49) ho _ rfl w2) Ht18 ?_
      simp only [Act.put, List.setIfInBounds_toArray, List.set_cons_succ, List.set_cons_zero]
      refine AnyF.takeG (by rfl) 32 (some 51) (.load 24 (.tmp 3)) (some (31, true)) (.agg A) rfl (by kernel_rfl) (by kernel_rfl) (by kernel_rfl) (fun _ _ _ h => h) rfl (fun o h => by obtain rfl := Option.some.inj h; rfl) (fun o ho w2 hw => exec_load_of _ 24 (.tmp 3) ho ⟨w.heap.size, 0, none⟩ rfl _ (hw.load (w.heap.size) A (by simp) IA)) Ht18 ?_
      simp only [Act.put, List.setIfInBounds_toArray, List.set_cons_succ, List.set_cons_zero]
      refine AnyF.takeG (by rfl) 33 (some 52) (.load 24 (.tmp 4)) (some (31, true)) (.agg B) rfl (by kernel_rfl) (by kernel_rfl) (by kernel_rfl) (fun _ _ _ h => h) rfl (fun o h => by obtain rfl := Option.some.inj h; rfl) (fun o ho w2 hw => exec_load_of _ 24 (.tmp 4) ho ⟨w.heap.size + 1, 0, none⟩ rfl _ (hw.load (w.heap.size + 1) B (by simp) IB)) Ht18 ?_
      simp only [Act.put, List.setIfInBounds_toArray, List.set_cons_succ, List.set_cons_zero]
      refine AnyF.takeG (by rfl) 35 (some 54) (.load 24 (.tmp 4)) (some (31, true)) (.agg B) rfl (by kernel_rfl) (by kernel_rfl) (by kernel_rfl) (fun _ _ _ h => h) rfl (fun o h => by obtain rfl := Option.some.inj h; rfl) (fun o ho w2 hw => exec_load_of _ 24 (.tmp 4) ho ⟨w.heap.size + 1, 0, none⟩ rfl _ (hw.load (w.heap.size + 1) B (by simp) IB)) Ht18 ?_
      simp only [Act.put, List.setIfInBounds_toArray, List.set_cons_succ, List.set_cons_zero]
      refine AnyF.takeG (by rfl) 37 (some 56) (.load 24 (.tmp 3)) (some (31, true)) (.agg A) rfl (by kernel_rfl) (by kernel_rfl) (by kernel_rfl) (fun _ _ _ h => h) rfl (fun o h => by obtain rfl := Option.some.inj h; rfl) (fun o ho w2 hw => exec_load_of _ 24 (.tmp 3) ho ⟨w.heap.size, 0, none⟩ rfl _ (hw.load (w.heap.size) A (by simp) IA)) Ht18 ?_
      simp only [Act.put, List.setIfInBounds_toArray, List.set_cons_succ, List.set_cons_zero]
      refine AnyF.ready (rs := [34]) (by kernel_rfl) (by simp) (ReadyF.callG (some 53) 6 #[.tmp 51, .tmp 52] #[24, 24] (some (31, true)) rfl (fun o h => by obtain rfl := Option.some.inj h; rfl) #[.agg A, .agg B] (by simp [Act.eval]) enters6 _ (H1.out _) ?_ (fun c w' h => by cases h.1) (fun w' h => by cases h.1) ReadyF.nil)
      rintro v wt19 ⟨he, hb⟩
      cases he
      have Ht20 := Ht18.below hb
      clear hb
      refine ⟨Ht20, ?_⟩
      simp only [Act.put, List.setIfInBounds_toArray, List.set_cons_succ, List.set_cons_zero]
      refine AnyF.ready (rs := [36]) (by kernel_rfl) (by simp) (ReadyF.callG (some 55) 8 #[.tmp 53, .tmp 54] #[24, 24] (some (31, true)) rfl (fun o h => by obtain rfl := Option.some.inj h; rfl) #[.agg AB, .agg B] (by simp [Act.eval]) enters8 _ (H13.out _) ?_ (fun c w' h => by cases h.1) (fun w' h => by cases h.1) ReadyF.nil)
      rintro v wt21 ⟨he, hb⟩
      cases he
      have Ht22 := Ht20.below hb
      clear hb
      refine ⟨Ht22, ?_⟩
      simp only [Act.put, List.setIfInBounds_toArray, List.set_cons_succ, List.set_cons_zero]
      refine AnyF.ready (rs := [38]) (by kernel_rfl) (by simp) (ReadyF.callG (some 57) 9 #[.tmp 56] #[24] (some (31, true)) rfl (fun o h => by obtain rfl := Option.some.inj h; rfl) #[.agg A] (by simp [Act.eval]) enters9 _ (H14.out _) ?_ (fun c w' h => by cases h.1) (fun w' h => by cases h.1) ReadyF.nil)
      rintro v wt23 ⟨he, hb⟩
      cases he
      have Ht24 := Ht22.below hb
      clear hb
      refine ⟨Ht24, ?_⟩
      simp only [Act.put, List.setIfInBounds_toArray, List.set_cons_succ, List.set_cons_zero]
      refine AnyF.takeG (by rfl) 39 (some 58) (.binOp .eql 24 (.tmp 55) (.tmp 57) 24) (some (31, true)) (.bool true) rfl (by kernel_rfl) (by kernel_rfl) (by kernel_rfl) (fun _ _ _ h => h) rfl (fun o h => by obtain rfl := Option.some.inj h; rfl) (fun o ho w2 hw => exec_eqA (.tmp 55) (.tmp 57) ho NA INA rfl rfl w2) Ht24 ?_
      simp only [Act.put, List.setIfInBounds_toArray, List.set_cons_succ, List.set_cons_zero]
      refine AnyF.takeG (by rfl) 40 (some 59) (.pick (.tmp 50) (.tmp 58) (.const (.bool false))) none (.bool true) rfl (by kernel_rfl) (by kernel_rfl) (by kernel_rfl) (fun _ _ _ h => h) rfl (fun o h => by obtain rfl := Option.some.inj h; rfl) (fun o ho w2 hw => exec_pickt (.tmp 50) (.tmp 58) (.const (.bool false)) ho rfl _ rfl w2) Ht24 ?_
      simp only [Act.put, List.setIfInBounds_toArray, List.set_cons_succ, List.set_cons_zero]
      refine AnyF.takeG (by rfl) 41 (some 60) (.move (.tmp 59)) none (.bool true) rfl (by kernel_rfl) (by kernel_rfl) (by kernel_rfl) (fun _ _ _ h => h) rfl (fun o h => by obtain rfl := Option.some.inj h; rfl) (fun o ho w2 hw => exec_move (.tmp 59) ho _ rfl w2) Ht24 ?_
      simp only [Act.put, List.setIfInBounds_toArray, List.set_cons_succ, List.set_cons_zero]
      refine AnyF.takeG (by rfl) 42 (some 61) (.load 24 (.tmp 3)) (some (41, true)) (.agg A) rfl (by kernel_rfl) (by kernel_rfl) (by kernel_rfl) (fun _ _ _ h => h) rfl (fun o h => by obtain rfl := Option.some.inj h; rfl) (fun o ho w2 hw => exec_load_of _ 24 (.tmp 3) ho ⟨w.heap.size, 0, none⟩ rfl _ (hw.load (w.heap.size) A (by simp) IA)) Ht24 ?_
      simp only [Act.put, List.setIfInBounds_toArray, List.set_cons_succ, List.set_cons_zero]
      refine AnyF.takeG (by rfl) 43 (some 62) (.load 24 (.tmp 3)) (some (41, true)) (.agg A) rfl (by kernel_rfl) (by kernel_rfl) (by kernel_rfl) (fun _ _ _ h => h) rfl (fun o h => by obtain rfl := Option.some.inj h; rfl) (fun o ho w2 hw => exec_load_of _ 24 (.tmp 3) ho ⟨w.heap.size, 0, none⟩ rfl _ (hw.load (w.heap.size) A (by simp) IA)) Ht24 ?_
      simp only [Act.put, List.setIfInBounds_toArray, List.set_cons_succ, List.set_cons_zero]
      refine AnyF.takeG (by rfl) 45 (some 64) (.build 24 #[]) (some (41, true)) (.agg Z) rfl (by kernel_rfl) (by kernel_rfl) (by kernel_rfl) (fun _ _ _ h => h) rfl (fun o h => by obtain rfl := Option.some.inj h; rfl) (fun o ho w2 hw => exec_build0 ho _ (hb0 w2) w2) Ht24 ?_
      simp only [Act.put, List.setIfInBounds_toArray, List.set_cons_succ, List.set_cons_zero]
      refine AnyF.ready (rs := [44]) (by kernel_rfl) (by simp) (ReadyF.callG (some 63) 8 #[.tmp 61, .tmp 62] #[24, 24] (some (41, true)) rfl (fun o h => by obtain rfl := Option.some.inj h; rfl) #[.agg A, .agg A] (by simp [Act.eval]) enters8 _ (H15.out _) ?_ (fun c w' h => by cases h.1) (fun w' h => by cases h.1) ReadyF.nil)
      rintro v wt25 ⟨he, hb⟩
      cases he
      have Ht26 := Ht24.below hb
      clear hb
      refine ⟨Ht26, ?_⟩
      simp only [Act.put, List.setIfInBounds_toArray, List.set_cons_succ, List.set_cons_zero]
      refine AnyF.takeG (by rfl) 46 (some 65) (.binOp .eql 24 (.tmp 63) (.tmp 64) 24) (some (41, true)) (.bool true) rfl (by kernel_rfl) (by kernel_rfl) (by kernel_rfl) (fun _ _ _ h => h) rfl (fun o h => by obtain rfl := Option.some.inj h; rfl) (fun o ho w2 hw => exec_eqA (.tmp 63) (.tmp 64) ho Z IZ rfl rfl w2) Ht26 ?_
      simp only [Act.put, List.setIfInBounds_toArray, List.set_cons_succ, List.set_cons_zero]
      refine AnyF.takeG (by rfl) 47 (some 66) (.pick (.tmp 60) (.tmp 65) (.const (.bool false))) none (.bool true) rfl (by kernel_rfl) (by kernel_rfl) (by kernel_rfl) (fun _ _ _ h => h) rfl (fun o h => by obtain rfl := Option.some.inj h; rfl) (fun o ho w2 hw => exec_pickt (.tmp 60) (.tmp 65) (.const (.bool false)) ho rfl _ rfl w2) Ht26 ?_
      simp only [Act.put, List.setIfInBounds_toArray, List.set_cons_succ, List.set_cons_zero]
      refine AnyF.takeG (by rfl) 48 (some 67) (.move (.tmp 66)) none (.bool true) rfl (by kernel_rfl) (by kernel_rfl) (by kernel_rfl) (fun _ _ _ h => h) rfl (fun o h => by obtain rfl := Option.some.inj h; rfl) (fun o ho w2 hw => exec_move (.tmp 66) ho _ rfl w2) Ht26 ?_
      simp only [Act.put, List.setIfInBounds_toArray, List.set_cons_succ, List.set_cons_zero]
      refine AnyF.takeG (by rfl) 49 (some 68) (.load 24 (.tmp 3)) (some (48, true)) (.agg A) rfl (by kernel_rfl) (by kernel_rfl) (by kernel_rfl) (fun _ _ _ h => h) rfl (fun o h => by obtain rfl := Option.some.inj h; rfl) (fun o ho w2 hw => exec_load_of _ 24 (.tmp 3) ho ⟨w.heap.size, 0, none⟩ rfl _ (hw.load (w.heap.size) A (by simp) IA)) Ht26 ?_
      simp only [Act.put, List.setIfInBounds_toArray, List.set_cons_succ, List.set_cons_zero]
      refine AnyF.takeG (by rfl) 50 (some 69) (.build 24 #[(0, .const (.int .u64 1))]) (some (48, true)) (.agg U1) rfl (by kernel_rfl) (by kernel_rfl) (by kernel_rfl) (fun _ _ _ h => h) rfl (fun o h => by obtain rfl := Option.some.inj h; rfl) (fun o ho w2 hw => exec_build1 w2 24 0 (.const (.int .u64 1)) ho _ rfl _ (hb1 w2)) Ht26 ?_
      simp only [Act.put, List.setIfInBounds_toArray, List.set_cons_succ, List.set_cons_zero]
      refine AnyF.takeG (by rfl) 52 (some 71) (.load 24 (.tmp 3)) (some (48, true)) (.agg A) rfl (by kernel_rfl) (by kernel_rfl) (by kernel_rfl) (fun _ _ _ h => h) rfl (fun o h => by obtain rfl := Option.some.inj h; rfl) (fun o ho w2 hw => exec_load_of _ 24 (.tmp 3) ho ⟨w.heap.size, 0, none⟩ rfl _ (hw.load (w.heap.size) A (by simp) IA)) Ht26 ?_
      simp only [Act.put, List.setIfInBounds_toArray, List.set_cons_succ, List.set_cons_zero]
      refine AnyF.ready (rs := [51]) (by kernel_rfl) (by simp) (ReadyF.callG (some 70) 7 #[.tmp 68, .tmp 69] #[24, 24] (some (48, true)) rfl (fun o h => by obtain rfl := Option.some.inj h; rfl) #[.agg A, .agg U1] (by simp [Act.eval]) enters7 _ (H16.out _) ?_ (fun c w' h => by cases h.1) (fun w' h => by cases h.1) ReadyF.nil)
      rintro v wt27 ⟨he, hb⟩
      cases he
      have Ht28 := Ht26.below hb
      clear hb
      refine ⟨Ht28, ?_⟩
      simp only [Act.put, List.setIfInBounds_toArray, List.set_cons_succ, List.set_cons_zero]
      refine AnyF.ready (rs := [53]) (by kernel_rfl) (by simp) (ReadyF.callG (some 72) 9 #[.tmp 71] #[24] (some (48, true)) rfl (fun o h => by obtain rfl := Option.some.inj h; rfl) #[.agg A] (by simp [Act.eval]) enters9 _ (H14.out _) ?_ (fun c w' h => by cases h.1) (fun w' h => by cases h.1) ReadyF.nil)
      rintro v wt29 ⟨he, hb⟩
      cases he
      have Ht30 := Ht28.below hb
      clear hb
      refine ⟨Ht30, ?_⟩
      simp only [Act.put, List.setIfInBounds_toArray, List.set_cons_succ, List.set_cons_zero]
      refine AnyF.takeG (by rfl) 54 (some 73) (.binOp .eql 24 (.tmp 70) (.tmp 72) 24) (some (48, true)) (.bool true) rfl (by kernel_rfl) (by kernel_rfl) (by kernel_rfl) (fun _ _ _ h => h) rfl (fun o h => by obtain rfl := Option.some.inj h; rfl) (fun o ho w2 hw => exec_eqA (.tmp 70) (.tmp 72) ho NA INA rfl rfl w2) Ht30 ?_
      simp only [Act.put, List.setIfInBounds_toArray, List.set_cons_succ, List.set_cons_zero]
      refine AnyF.takeG (by rfl) 55 (some 74) (.pick (.tmp 67) (.tmp 73) (.const (.bool false))) none (.bool true) rfl (by kernel_rfl) (by kernel_rfl) (by kernel_rfl) (fun _ _ _ h => h) rfl (fun o h => by obtain rfl := Option.some.inj h; rfl) (fun o ho w2 hw => exec_pickt (.tmp 67) (.tmp 73) (.const (.bool false)) ho rfl _ rfl w2) Ht30 ?_
      simp only [Act.put, List.setIfInBounds_toArray, List.set_cons_succ, List.set_cons_zero]
      refine AnyF.takeG (by rfl) 56 (some 75) (.move (.tmp 74)) none (.bool true) rfl (by kernel_rfl) (by kernel_rfl) (by kernel_rfl) (fun _ _ _ h => h) rfl (fun o h => by obtain rfl := Option.some.inj h; rfl) (fun o ho w2 hw => exec_move (.tmp 74) ho _ rfl w2) Ht30 ?_
      simp only [Act.put, List.setIfInBounds_toArray, List.set_cons_succ, List.set_cons_zero]
      refine AnyF.takeG (by rfl) 57 (some 76) (.load 24 (.tmp 7)) (some (56, true)) (.agg S) rfl (by kernel_rfl) (by kernel_rfl) (by kernel_rfl) (fun _ _ _ h => h) rfl (fun o h => by obtain rfl := Option.some.inj h; rfl) (fun o ho w2 hw => exec_load_of _ 24 (.tmp 7) ho ⟨gS, 0, none⟩ rfl _ (hw.load (gS) S (by simp) IS)) Ht30 ?_
      simp only [Act.put, List.setIfInBounds_toArray, List.set_cons_succ, List.set_cons_zero]
      refine AnyF.ready (rs := [58]) (by kernel_rfl) (by simp) (ReadyF.callG (some 77) 11 #[] #[] (some (56, true)) rfl (fun o h => by obtain rfl := Option.some.inj h; rfl) #[] (by simp [Act.eval]) enters11 _ (H17.out _) ?_ (fun c w' h => by cases h.1) (fun w' h => by cases h.1) ReadyF.nil)
      rintro v wt31 ⟨he, hb⟩
      cases he
      have Ht32 := Ht30.below hb
      clear hb
      refine ⟨Ht32, ?_⟩
      simp only [Act.put, List.setIfInBounds_toArray, List.set_cons_succ, List.set_cons_zero]
      refine AnyF.ready (rs := [59]) (by kernel_rfl) (by simp) (ReadyF.callG (some 78) 10 #[.tmp 76, .tmp 77] #[24, 24] (some (56, true)) rfl (fun o h => by obtain rfl := Option.some.inj h; rfl) #[.agg S, .agg PR] (by simp [Act.eval]) enters10 _ (H18.out _) ?_ (fun c w' h => by cases h.1) (fun w' h => by cases h.1) ReadyF.nil)
      rintro v wt33 ⟨he, hb⟩
      cases he
      have Ht34 := Ht32.below hb
      clear hb
      refine ⟨Ht34, ?_⟩
      simp only [Act.put, List.setIfInBounds_toArray, List.set_cons_succ, List.set_cons_zero]
      refine AnyF.takeG (by rfl) 60 (some 79) (.pick (.tmp 75) (.tmp 78) (.const (.bool false))) none (.bool true) rfl (by kernel_rfl) (by kernel_rfl) (by kernel_rfl) (fun _ _ _ h => h) rfl (fun o h => by obtain rfl := Option.some.inj h; rfl) (fun o ho w2 hw => exec_pickt (.tmp 75) (.tmp 78) (.const (.bool false)) ho rfl _ rfl w2) Ht34 ?_
      simp only [Act.put, List.setIfInBounds_toArray, List.set_cons_succ, List.set_cons_zero]
      refine AnyF.takeG (by rfl) 61 (some 80) (.move (.tmp 79)) none (.bool true) rfl (by kernel_rfl) (by kernel_rfl) (by kernel_rfl) (fun _ _ _ h => h) rfl (fun o h => by obtain rfl := Option.some.inj h; rfl) (fun o ho w2 hw => exec_move (.tmp 79) ho _ rfl w2) Ht34 ?_
      simp only [Act.put, List.setIfInBounds_toArray, List.set_cons_succ, List.set_cons_zero]
      refine AnyF.ready (rs := [62]) (by kernel_rfl) (by simp) (ReadyF.callG (some 81) 12 #[] #[] (some (61, true)) rfl (fun o h => by obtain rfl := Option.some.inj h; rfl) #[] (by simp [Act.eval]) enters12 _ (H19.out _) ?_ (fun c w' h => by cases h.1) (fun w' h => by cases h.1) ReadyF.nil)
      rintro v wt35 ⟨he, hb⟩
      cases he
      have Ht36 := Ht34.below hb
      clear hb
      refine ⟨Ht36, ?_⟩
      simp only [Act.put, List.setIfInBounds_toArray, List.set_cons_succ, List.set_cons_zero]
      refine AnyF.takeG (by rfl) 63 (some 82) (.pick (.tmp 80) (.tmp 81) (.const (.bool false))) none (.bool true) rfl (by kernel_rfl) (by kernel_rfl) (by kernel_rfl) (fun _ _ _ h => h) rfl (fun o h => by obtain rfl := Option.some.inj h; rfl) (fun o ho w2 hw => exec_pickt (.tmp 80) (.tmp 81) (.const (.bool false)) ho rfl _ rfl w2) Ht36 ?_
      simp only [Act.put, List.setIfInBounds_toArray, List.set_cons_succ, List.set_cons_zero]
      refine AnyF.takeG (by rfl) 64 (some 6) (.assign (.tmp 82)) none (.bool true) rfl (by kernel_rfl) (by kernel_rfl) (by kernel_rfl) (fun _ _ _ h => h) rfl (fun o h => by obtain rfl := Option.some.inj h; rfl) (fun o ho w2 hw => exec_assign (.tmp 82) ho _ rfl w2) Ht36 ?_
      simp only [Act.put, List.setIfInBounds_toArray, List.set_cons_succ, List.set_cons_zero]
      refine AnyF.done (by kernel_rfl) ?_ _
      refine nrm_intro ?_
      go_wp2
      go_ret
      exact ⟨rfl, Ht36.1⟩
end Go.Proofs.Ytkkgeljcgebegaa
