/- Mul of the document: a product of 512 bits as sixteen words of 32 bits. No condition but that the numbers have 256 bits. -/
import Derived.Test.YtgbliacncahooaaDoorGNum
namespace Go.Proofs.YtgbliacncahooaaDoor
open Go.RowKit Go.Shelf
set_option linter.unusedVariables false
set_option linter.unusedSimpArgs false
theorem enters71 : ∀ args w, (callFunc 71 args).run Tryd.prog w = .ok (.enter 71 args) w := enters_of Tryd.func71 (by kernel_rfl) rfl
set_option maxRecDepth 100000 in
set_option maxHeartbeats 1000000 in
theorem mulnum_any (a b : Nat) (ha : a < 115792089237316195423570985008687907853269984665640564039457584007913129639936) (hb : b < 115792089237316195423570985008687907853269984665640564039457584007913129639936) (w : World) :
    Calls Tryd.prog 56 #[.agg (num a), .agg (num b)] w fun e w' => (∃ l : Nat → Nat, (∀ j, j < 16 → l j < 4294967296) ∧ v32 16 l = a * b ∧ e = .returned (.agg (rowOf .u64 16 l).toArray)) ∧ Below w.heap.size w w' := by
  have H1 := Lib.hid (halves_any a)
  have H2 := Lib.hid (halves_any b)
  have HVA := Lib.hid (half_val a ha)
  have HVB := Lib.hid (half_val b hb)
  have HXL := Lib.hid (half_lt a)
  have HYL := Lib.hid (half_lt b)
  have HZ := zero59
  have HZF := zero50
  clear ha hb
  generalize half a = x at *
  generalize half b = y at *
  obtain ⟨A, hA⟩ : ∃ A, Hid (A = num a) := ⟨_, Lib.hid rfl⟩
  obtain ⟨B, hB⟩ : ∃ B, Hid (B = num b) := ⟨_, Lib.hid rfl⟩
  have IA : IsNum A := by rw [hA.out]; exact isNum _
  have IB : IsNum B := by rw [hB.out]; exact isNum _
  rw [← hA.out] at H1
  rw [← hB.out] at H2
  rw [← hA.out, ← hB.out]
  clear hA hB
  obtain ⟨X, hX⟩ : ∃ X, Hid (X = (rowOf .u64 8 x).toArray) := ⟨_, Lib.hid rfl⟩
  obtain ⟨Y, hY⟩ : ∃ Y, Hid (Y = (rowOf .u64 8 y).toArray) := ⟨_, Lib.hid rfl⟩
  obtain ⟨Z8, hZ8⟩ : ∃ Z8, Hid (Z8 = (rowOf .u64 8 (fun _ => 0)).toArray) := ⟨_, Lib.hid rfl⟩
  obtain ⟨Z16, hZ16⟩ : ∃ Z16, Hid (Z16 = (rowOf .u64 16 (fun _ => 0)).toArray) := ⟨_, Lib.hid rfl⟩
  have IX : IsRw 8 X := ⟨_, hX.out⟩
  have IY : IsRw 8 Y := ⟨_, hY.out⟩
  have SZ8 : Z8.size = 8 := by rw [hZ8.out]; exact rowOf_size _ _ _
  have SZ16 : Z16.size = 16 := by rw [hZ16.out]; exact rowOf_size _ _ _
  rw [← hX.out] at H1
  rw [← hY.out] at H2
  rw [← hZ8.out] at HZ
  rw [← hZ16.out] at HZF
  have hz4 : ∀ W : World, Kt W [(W.heap.size, A, 24), (W.heap.size + 1, B, 24), (W.heap.size + 1 + 1, Z16, 79)] (((W.alloc (.cells A 24)).alloc (.cells B 24)).alloc (.cells Z16 79)) := by
    intro W
    have h := (((Kt.nil W).new A 24).new B 24).new Z16 79
    simp only [World.size_alloc] at h
    exact h.sub (fun p hp => by simp at hp ⊢; rcases hp with h | h | h <;> simp [h])
  have HS := Lib.hid (hz4 w)
  clear hz4 hZ8
  go_enter Tryd.func56, Tryd.ntmps56
  go_upto_region 1 with ((refine wpList_run rfl _ (exec_alloc_agg _ 79 rfl _ (HZF _)) ?_); try simp only [World.size_alloc])
  try simp only [Act.put, sT, sS, sZ]
  generalize ((w.alloc (.cells A 24)).alloc (.cells B 24)).alloc (.cells Z16 79) = W0 at *
  refine wp_cut (fun a' W => ∃ g5 g6, a' = { tmps := #[.agg A, .agg B, .pointer (some ⟨w.heap.size, 0, none⟩), .pointer (some ⟨w.heap.size + 1, 0, none⟩), .pointer (some ⟨w.heap.size + 1 + 1, 0, none⟩), .pointer (some ⟨g5, 0, none⟩), .pointer (some ⟨g6, 0, none⟩), undef, undef, undef, undef, .agg A, .agg X, .agg B, .agg Y, undef, undef, undef, undef, undef, undef, undef, undef, undef, undef, undef, undef, undef, undef, undef, undef, undef, undef, undef, undef, undef, undef, undef, undef, undef, undef, undef, undef, undef, undef, undef, undef, undef, undef, undef, undef], defers := [] } ∧ Kt w [(w.heap.size + 1 + 1, Z16, 79), (g5, X, 92), (g6, Y, 92)] W ∧ w.heap.size + 1 + 1 < g5 ∧ w.heap.size + 1 + 1 < g6 ∧ g5 ≠ g6) ?_ ?_
  · refine wp_region_any (by kernel_rfl) ?_
    change wpAny _ _ _ _ _ _ _ (World.drew _)
    have HD := HS.out.drew
    clear HS
    generalize W0.drew = Wd at *
    refine any_of_F (S := Kt w [(w.heap.size, A, 24), (w.heap.size + 1, B, 24), (w.heap.size + 1 + 1, Z16, 79)]) (f := 1000) _ _ _ _ ?_
    refine tkG 0 (some 11) (.load 24 (.tmp 2)) none (.agg A) (fun o ho w2 hw => exec_load_of _ 24 (.tmp 2) ho ⟨w.heap.size, 0, none⟩ rfl _ (loadA IA (hw.get (w.heap.size) A 24 (by simp)))) HD ?_
    simp only [Act.put, sT, sS, sZ]
    refine tkG 2 (some 13) (.load 24 (.tmp 3)) none (.agg B) (fun o ho w2 hw => exec_load_of _ 24 (.tmp 3) ho ⟨w.heap.size + 1, 0, none⟩ rfl _ (loadA IB (hw.get (w.heap.size + 1) B 24 (by simp)))) HD ?_
    simp only [Act.put, sT, sS, sZ]
    refine rdy [1, 4, 5] (rcl (some 12) 71 #[.tmp 11] #[24] #[.agg A] enters71 _ (H1.out _) ?_ (ral 5 92 HZ (HD.alloc _) ?_ (ral 6 92 HZ (HD.alloc _) ?_ ReadyF.nil)))
    · rintro v ws1 ⟨he, hb⟩
      cases he
      have Hs2 := HD.below hb
      clear hb
      refine ⟨Hs2, ?_⟩
      simp only [Act.put, sT, sS, sZ]
      refine rdy [3, 4, 5] (rcl (some 14) 71 #[.tmp 13] #[24] #[.agg B] enters71 _ (H2.out _) ?_ (ral 5 92 HZ (Hs2.alloc _) ?_ (ral 6 92 HZ (Hs2.alloc _) ?_ ReadyF.nil)))
      · rintro v ws3 ⟨he, hb⟩
        cases he
        have Hs4 := Hs2.below hb
        clear hb
        refine ⟨Hs4, ?_⟩
        simp only [Act.put, sT, sS, sZ]
        refine rdy [4, 5] (ral 5 92 HZ (Hs4.alloc _) ?_ (ral 6 92 HZ (Hs4.alloc _) ?_ ReadyF.nil))
        · have l0ws5 := Hs4.lt (w.heap.size) A 24 (by simp)
          have l1ws5 := Hs4.lt (w.heap.size + 1) B 24 (by simp)
          have l2ws5 := Hs4.lt (w.heap.size + 1 + 1) Z16 79 (by simp)
          have Hs6 := Hs4.alloc (.cells Z8 92)
          have Es7 := (Hs4.sub (m := []) (fun p hp => by cases hp)).new Z8 92
          simp only [Act.put, sT, sS, sZ]
          obtain ⟨ws5, hws5⟩ : ∃ W, W = ws3.alloc (.cells Z8 92) := ⟨_, rfl⟩
          rw [← hws5] at Hs6 Es7 ⊢
          clear hws5
          refine rdy [5] (ral 6 92 HZ (Hs6.alloc _) ?_ ReadyF.nil)
          have l0ws8 := Hs6.lt (w.heap.size) A 24 (by simp)
          have l1ws8 := Hs6.lt (w.heap.size + 1) B 24 (by simp)
          have l2ws8 := Hs6.lt (w.heap.size + 1 + 1) Z16 79 (by simp)
          have m0ws8 := Es7.lt (ws3.heap.size) Z8 92 (by simp)
          have Hs9 := Hs6.alloc (.cells Z8 92)
          have Es10 := Es7.new Z8 92
          simp only [Act.put, sT, sS, sZ]
          obtain ⟨ws8, hws8⟩ : ∃ W, W = ws5.alloc (.cells Z8 92) := ⟨_, rfl⟩
          rw [← hws8] at Hs9 Es10 ⊢
          clear hws8
          refine rdy [6] (ReadyF.op0 (.store 92 (.tmp 5) (.tmp 12)) rfl (fun o ho => exec_store59 ws8 (.tmp 5) (.tmp 12) ho (ws3.heap.size) rfl X IX rfl Z8 92 (Es10.get (ws3.heap.size) Z8 92 (by simp)) SZ8) (Hs9.set (ws3.heap.size) X Z8 92 (Es10.get (ws3.heap.size) Z8 92 (by simp)) (by omega) (fun p hp => by simp at hp; rcases hp with rfl | rfl | rfl <;> exact .inr ⟨by simp, by simp only; omega⟩)) ?_ ReadyF.nil)
          have Hs12 := Hs9.set (ws3.heap.size) X Z8 92 (Es10.get (ws3.heap.size) Z8 92 (by simp)) (by omega) (m := [(w.heap.size, A, 24), (w.heap.size + 1, B, 24), (w.heap.size + 1 + 1, Z16, 79)]) (fun p hp => by simp at hp; rcases hp with rfl | rfl | rfl <;> exact .inr ⟨by simp, by simp only; omega⟩)
          have Es13 := Es10.set (ws3.heap.size) X Z8 92 (Es10.get (ws3.heap.size) Z8 92 (by simp)) (by omega) (m := [(ws5.heap.size, Z8, 92), (ws3.heap.size, X, 92)]) (fun p hp => by simp at hp; rcases hp with rfl | rfl <;> first | exact .inl rfl | exact .inr ⟨by simp, by simp only; omega⟩)
          generalize ws8.setRow (ws3.heap.size) X = ws11 at *
          refine rdy [7] (ReadyF.op0 (.store 92 (.tmp 6) (.tmp 14)) rfl (fun o ho => exec_store59 ws11 (.tmp 6) (.tmp 14) ho (ws5.heap.size) rfl Y IY rfl Z8 92 (Es13.get (ws5.heap.size) Z8 92 (by simp)) SZ8) (Hs12.set (ws5.heap.size) Y Z8 92 (Es13.get (ws5.heap.size) Z8 92 (by simp)) (by omega) (fun p hp => by simp at hp; rcases hp with rfl | rfl | rfl <;> exact .inr ⟨by simp, by simp only; omega⟩)) ?_ ReadyF.nil)
          have Hs15 := Hs12.set (ws5.heap.size) Y Z8 92 (Es13.get (ws5.heap.size) Z8 92 (by simp)) (by omega) (m := [(w.heap.size, A, 24), (w.heap.size + 1, B, 24), (w.heap.size + 1 + 1, Z16, 79)]) (fun p hp => by simp at hp; rcases hp with rfl | rfl | rfl <;> exact .inr ⟨by simp, by simp only; omega⟩)
          have Es16 := Es13.set (ws5.heap.size) Y Z8 92 (Es13.get (ws5.heap.size) Z8 92 (by simp)) (by omega) (m := [(ws5.heap.size, Y, 92), (ws3.heap.size, X, 92)]) (fun p hp => by simp at hp; rcases hp with rfl | rfl <;> first | exact .inl rfl | exact .inr ⟨by simp, by simp only; omega⟩)
          generalize ws11.setRow (ws5.heap.size) Y = ws14 at *
          refine AnyF.done (by kernel_rfl) ?_ _
          refine nrm_intro ⟨ws3.heap.size, ws5.heap.size, rfl, (Hs15.app Es16).sub (fun p hp => by simp at hp; rcases hp with rfl | rfl | rfl <;> simp), by omega, by omega, by omega⟩
        · have l0ws17 := Hs4.lt (w.heap.size) A 24 (by simp)
          have l1ws17 := Hs4.lt (w.heap.size + 1) B 24 (by simp)
          have l2ws17 := Hs4.lt (w.heap.size + 1 + 1) Z16 79 (by simp)
          have Hs18 := Hs4.alloc (.cells Z8 92)
          have Es19 := (Hs4.sub (m := []) (fun p hp => by cases hp)).new Z8 92
          simp only [Act.put, sT, sS, sZ]
          obtain ⟨ws17, hws17⟩ : ∃ W, W = ws3.alloc (.cells Z8 92) := ⟨_, rfl⟩
          rw [← hws17] at Hs18 Es19 ⊢
          clear hws17
          refine rdy [4] (ral 5 92 HZ (Hs18.alloc _) ?_ ReadyF.nil)
          have l0ws20 := Hs18.lt (w.heap.size) A 24 (by simp)
          have l1ws20 := Hs18.lt (w.heap.size + 1) B 24 (by simp)
          have l2ws20 := Hs18.lt (w.heap.size + 1 + 1) Z16 79 (by simp)
          have m0ws20 := Es19.lt (ws3.heap.size) Z8 92 (by simp)
          have Hs21 := Hs18.alloc (.cells Z8 92)
          have Es22 := Es19.new Z8 92
          simp only [Act.put, sT, sS, sZ]
          obtain ⟨ws20, hws20⟩ : ∃ W, W = ws17.alloc (.cells Z8 92) := ⟨_, rfl⟩
          rw [← hws20] at Hs21 Es22 ⊢
          clear hws20
          refine rdy [6] (ReadyF.op0 (.store 92 (.tmp 5) (.tmp 12)) rfl (fun o ho => exec_store59 ws20 (.tmp 5) (.tmp 12) ho (ws17.heap.size) rfl X IX rfl Z8 92 (Es22.get (ws17.heap.size) Z8 92 (by simp)) SZ8) (Hs21.set (ws17.heap.size) X Z8 92 (Es22.get (ws17.heap.size) Z8 92 (by simp)) (by omega) (fun p hp => by simp at hp; rcases hp with rfl | rfl | rfl <;> exact .inr ⟨by simp, by simp only; omega⟩)) ?_ ReadyF.nil)
          have Hs24 := Hs21.set (ws17.heap.size) X Z8 92 (Es22.get (ws17.heap.size) Z8 92 (by simp)) (by omega) (m := [(w.heap.size, A, 24), (w.heap.size + 1, B, 24), (w.heap.size + 1 + 1, Z16, 79)]) (fun p hp => by simp at hp; rcases hp with rfl | rfl | rfl <;> exact .inr ⟨by simp, by simp only; omega⟩)
          have Es25 := Es22.set (ws17.heap.size) X Z8 92 (Es22.get (ws17.heap.size) Z8 92 (by simp)) (by omega) (m := [(ws17.heap.size, X, 92), (ws3.heap.size, Z8, 92)]) (fun p hp => by simp at hp; rcases hp with rfl | rfl <;> first | exact .inl rfl | exact .inr ⟨by simp, by simp only; omega⟩)
          generalize ws20.setRow (ws17.heap.size) X = ws23 at *
          refine rdy [7] (ReadyF.op0 (.store 92 (.tmp 6) (.tmp 14)) rfl (fun o ho => exec_store59 ws23 (.tmp 6) (.tmp 14) ho (ws3.heap.size) rfl Y IY rfl Z8 92 (Es25.get (ws3.heap.size) Z8 92 (by simp)) SZ8) (Hs24.set (ws3.heap.size) Y Z8 92 (Es25.get (ws3.heap.size) Z8 92 (by simp)) (by omega) (fun p hp => by simp at hp; rcases hp with rfl | rfl | rfl <;> exact .inr ⟨by simp, by simp only; omega⟩)) ?_ ReadyF.nil)
          have Hs27 := Hs24.set (ws3.heap.size) Y Z8 92 (Es25.get (ws3.heap.size) Z8 92 (by simp)) (by omega) (m := [(w.heap.size, A, 24), (w.heap.size + 1, B, 24), (w.heap.size + 1 + 1, Z16, 79)]) (fun p hp => by simp at hp; rcases hp with rfl | rfl | rfl <;> exact .inr ⟨by simp, by simp only; omega⟩)
          have Es28 := Es25.set (ws3.heap.size) Y Z8 92 (Es25.get (ws3.heap.size) Z8 92 (by simp)) (by omega) (m := [(ws17.heap.size, X, 92), (ws3.heap.size, Y, 92)]) (fun p hp => by simp at hp; rcases hp with rfl | rfl <;> first | exact .inl rfl | exact .inr ⟨by simp, by simp only; omega⟩)
          generalize ws23.setRow (ws3.heap.size) Y = ws26 at *
          refine AnyF.done (by kernel_rfl) ?_ _
          refine nrm_intro ⟨ws17.heap.size, ws3.heap.size, rfl, (Hs27.app Es28).sub (fun p hp => by simp at hp; rcases hp with rfl | rfl | rfl <;> simp), by omega, by omega, by omega⟩
      · have l0ws29 := Hs2.lt (w.heap.size) A 24 (by simp)
        have l1ws29 := Hs2.lt (w.heap.size + 1) B 24 (by simp)
        have l2ws29 := Hs2.lt (w.heap.size + 1 + 1) Z16 79 (by simp)
        have Hs30 := Hs2.alloc (.cells Z8 92)
        have Es31 := (Hs2.sub (m := []) (fun p hp => by cases hp)).new Z8 92
        simp only [Act.put, sT, sS, sZ]
        obtain ⟨ws29, hws29⟩ : ∃ W, W = ws1.alloc (.cells Z8 92) := ⟨_, rfl⟩
        rw [← hws29] at Hs30 Es31 ⊢
        clear hws29
        refine rdy [3, 5] (rcl (some 14) 71 #[.tmp 13] #[24] #[.agg B] enters71 _ (H2.out _) ?_ (ral 6 92 HZ (Hs30.alloc _) ?_ ReadyF.nil))
        · rintro v ws32 ⟨he, hb⟩
          cases he
          have Hs33 := Hs30.below hb
          have Es34 := Es31.below hb
          clear hb
          refine ⟨Hs33, ?_⟩
          simp only [Act.put, sT, sS, sZ]
          refine rdy [5] (ral 6 92 HZ (Hs33.alloc _) ?_ ReadyF.nil)
          have l0ws35 := Hs33.lt (w.heap.size) A 24 (by simp)
          have l1ws35 := Hs33.lt (w.heap.size + 1) B 24 (by simp)
          have l2ws35 := Hs33.lt (w.heap.size + 1 + 1) Z16 79 (by simp)
          have m0ws35 := Es34.lt (ws1.heap.size) Z8 92 (by simp)
          have Hs36 := Hs33.alloc (.cells Z8 92)
          have Es37 := Es34.new Z8 92
          simp only [Act.put, sT, sS, sZ]
          obtain ⟨ws35, hws35⟩ : ∃ W, W = ws32.alloc (.cells Z8 92) := ⟨_, rfl⟩
          rw [← hws35] at Hs36 Es37 ⊢
          clear hws35
          refine rdy [6] (ReadyF.op0 (.store 92 (.tmp 5) (.tmp 12)) rfl (fun o ho => exec_store59 ws35 (.tmp 5) (.tmp 12) ho (ws1.heap.size) rfl X IX rfl Z8 92 (Es37.get (ws1.heap.size) Z8 92 (by simp)) SZ8) (Hs36.set (ws1.heap.size) X Z8 92 (Es37.get (ws1.heap.size) Z8 92 (by simp)) (by omega) (fun p hp => by simp at hp; rcases hp with rfl | rfl | rfl <;> exact .inr ⟨by simp, by simp only; omega⟩)) ?_ ReadyF.nil)
          have Hs39 := Hs36.set (ws1.heap.size) X Z8 92 (Es37.get (ws1.heap.size) Z8 92 (by simp)) (by omega) (m := [(w.heap.size, A, 24), (w.heap.size + 1, B, 24), (w.heap.size + 1 + 1, Z16, 79)]) (fun p hp => by simp at hp; rcases hp with rfl | rfl | rfl <;> exact .inr ⟨by simp, by simp only; omega⟩)
          have Es40 := Es37.set (ws1.heap.size) X Z8 92 (Es37.get (ws1.heap.size) Z8 92 (by simp)) (by omega) (m := [(ws32.heap.size, Z8, 92), (ws1.heap.size, X, 92)]) (fun p hp => by simp at hp; rcases hp with rfl | rfl <;> first | exact .inl rfl | exact .inr ⟨by simp, by simp only; omega⟩)
          generalize ws35.setRow (ws1.heap.size) X = ws38 at *
          refine rdy [7] (ReadyF.op0 (.store 92 (.tmp 6) (.tmp 14)) rfl (fun o ho => exec_store59 ws38 (.tmp 6) (.tmp 14) ho (ws32.heap.size) rfl Y IY rfl Z8 92 (Es40.get (ws32.heap.size) Z8 92 (by simp)) SZ8) (Hs39.set (ws32.heap.size) Y Z8 92 (Es40.get (ws32.heap.size) Z8 92 (by simp)) (by omega) (fun p hp => by simp at hp; rcases hp with rfl | rfl | rfl <;> exact .inr ⟨by simp, by simp only; omega⟩)) ?_ ReadyF.nil)
          have Hs42 := Hs39.set (ws32.heap.size) Y Z8 92 (Es40.get (ws32.heap.size) Z8 92 (by simp)) (by omega) (m := [(w.heap.size, A, 24), (w.heap.size + 1, B, 24), (w.heap.size + 1 + 1, Z16, 79)]) (fun p hp => by simp at hp; rcases hp with rfl | rfl | rfl <;> exact .inr ⟨by simp, by simp only; omega⟩)
          have Es43 := Es40.set (ws32.heap.size) Y Z8 92 (Es40.get (ws32.heap.size) Z8 92 (by simp)) (by omega) (m := [(ws32.heap.size, Y, 92), (ws1.heap.size, X, 92)]) (fun p hp => by simp at hp; rcases hp with rfl | rfl <;> first | exact .inl rfl | exact .inr ⟨by simp, by simp only; omega⟩)
          generalize ws38.setRow (ws32.heap.size) Y = ws41 at *
          refine AnyF.done (by kernel_rfl) ?_ _
          refine nrm_intro ⟨ws1.heap.size, ws32.heap.size, rfl, (Hs42.app Es43).sub (fun p hp => by simp at hp; rcases hp with rfl | rfl | rfl <;> simp), by omega, by omega, by omega⟩
        · have l0ws44 := Hs30.lt (w.heap.size) A 24 (by simp)
          have l1ws44 := Hs30.lt (w.heap.size + 1) B 24 (by simp)
          have l2ws44 := Hs30.lt (w.heap.size + 1 + 1) Z16 79 (by simp)
          have m0ws44 := Es31.lt (ws1.heap.size) Z8 92 (by simp)
          have Hs45 := Hs30.alloc (.cells Z8 92)
          have Es46 := Es31.new Z8 92
          simp only [Act.put, sT, sS, sZ]
          obtain ⟨ws44, hws44⟩ : ∃ W, W = ws29.alloc (.cells Z8 92) := ⟨_, rfl⟩
          rw [← hws44] at Hs45 Es46 ⊢
          clear hws44
          refine rdy [3] (rcl (some 14) 71 #[.tmp 13] #[24] #[.agg B] enters71 _ (H2.out _) ?_ ReadyF.nil)
          rintro v ws47 ⟨he, hb⟩
          cases he
          have Hs48 := Hs45.below hb
          have Es49 := Es46.below hb
          clear hb
          refine ⟨Hs48, ?_⟩
          simp only [Act.put, sT, sS, sZ]
          refine rdy [6] (ReadyF.op0 (.store 92 (.tmp 5) (.tmp 12)) rfl (fun o ho => exec_store59 ws47 (.tmp 5) (.tmp 12) ho (ws1.heap.size) rfl X IX rfl Z8 92 (Es49.get (ws1.heap.size) Z8 92 (by simp)) SZ8) (Hs48.set (ws1.heap.size) X Z8 92 (Es49.get (ws1.heap.size) Z8 92 (by simp)) (by omega) (fun p hp => by simp at hp; rcases hp with rfl | rfl | rfl <;> exact .inr ⟨by simp, by simp only; omega⟩)) ?_ ReadyF.nil)
          have Hs51 := Hs48.set (ws1.heap.size) X Z8 92 (Es49.get (ws1.heap.size) Z8 92 (by simp)) (by omega) (m := [(w.heap.size, A, 24), (w.heap.size + 1, B, 24), (w.heap.size + 1 + 1, Z16, 79)]) (fun p hp => by simp at hp; rcases hp with rfl | rfl | rfl <;> exact .inr ⟨by simp, by simp only; omega⟩)
          have Es52 := Es49.set (ws1.heap.size) X Z8 92 (Es49.get (ws1.heap.size) Z8 92 (by simp)) (by omega) (m := [(ws29.heap.size, Z8, 92), (ws1.heap.size, X, 92)]) (fun p hp => by simp at hp; rcases hp with rfl | rfl <;> first | exact .inl rfl | exact .inr ⟨by simp, by simp only; omega⟩)
          generalize ws47.setRow (ws1.heap.size) X = ws50 at *
          refine rdy [7] (ReadyF.op0 (.store 92 (.tmp 6) (.tmp 14)) rfl (fun o ho => exec_store59 ws50 (.tmp 6) (.tmp 14) ho (ws29.heap.size) rfl Y IY rfl Z8 92 (Es52.get (ws29.heap.size) Z8 92 (by simp)) SZ8) (Hs51.set (ws29.heap.size) Y Z8 92 (Es52.get (ws29.heap.size) Z8 92 (by simp)) (by omega) (fun p hp => by simp at hp; rcases hp with rfl | rfl | rfl <;> exact .inr ⟨by simp, by simp only; omega⟩)) ?_ ReadyF.nil)
          have Hs54 := Hs51.set (ws29.heap.size) Y Z8 92 (Es52.get (ws29.heap.size) Z8 92 (by simp)) (by omega) (m := [(w.heap.size, A, 24), (w.heap.size + 1, B, 24), (w.heap.size + 1 + 1, Z16, 79)]) (fun p hp => by simp at hp; rcases hp with rfl | rfl | rfl <;> exact .inr ⟨by simp, by simp only; omega⟩)
          have Es55 := Es52.set (ws29.heap.size) Y Z8 92 (Es52.get (ws29.heap.size) Z8 92 (by simp)) (by omega) (m := [(ws29.heap.size, Y, 92), (ws1.heap.size, X, 92)]) (fun p hp => by simp at hp; rcases hp with rfl | rfl <;> first | exact .inl rfl | exact .inr ⟨by simp, by simp only; omega⟩)
          generalize ws50.setRow (ws29.heap.size) Y = ws53 at *
          refine AnyF.done (by kernel_rfl) ?_ _
          refine nrm_intro ⟨ws1.heap.size, ws29.heap.size, rfl, (Hs54.app Es55).sub (fun p hp => by simp at hp; rcases hp with rfl | rfl | rfl <;> simp), by omega, by omega, by omega⟩
      · have l0ws56 := Hs2.lt (w.heap.size) A 24 (by simp)
        have l1ws56 := Hs2.lt (w.heap.size + 1) B 24 (by simp)
        have l2ws56 := Hs2.lt (w.heap.size + 1 + 1) Z16 79 (by simp)
        have Hs57 := Hs2.alloc (.cells Z8 92)
        have Es58 := (Hs2.sub (m := []) (fun p hp => by cases hp)).new Z8 92
        simp only [Act.put, sT, sS, sZ]
        obtain ⟨ws56, hws56⟩ : ∃ W, W = ws1.alloc (.cells Z8 92) := ⟨_, rfl⟩
        rw [← hws56] at Hs57 Es58 ⊢
        clear hws56
        refine rdy [3, 4] (rcl (some 14) 71 #[.tmp 13] #[24] #[.agg B] enters71 _ (H2.out _) ?_ (ral 5 92 HZ (Hs57.alloc _) ?_ ReadyF.nil))
        · rintro v ws59 ⟨he, hb⟩
          cases he
          have Hs60 := Hs57.below hb
          have Es61 := Es58.below hb
          clear hb
          refine ⟨Hs60, ?_⟩
          simp only [Act.put, sT, sS, sZ]
          refine rdy [4] (ral 5 92 HZ (Hs60.alloc _) ?_ ReadyF.nil)
          have l0ws62 := Hs60.lt (w.heap.size) A 24 (by simp)
          have l1ws62 := Hs60.lt (w.heap.size + 1) B 24 (by simp)
          have l2ws62 := Hs60.lt (w.heap.size + 1 + 1) Z16 79 (by simp)
          have m0ws62 := Es61.lt (ws1.heap.size) Z8 92 (by simp)
          have Hs63 := Hs60.alloc (.cells Z8 92)
          have Es64 := Es61.new Z8 92
          simp only [Act.put, sT, sS, sZ]
          obtain ⟨ws62, hws62⟩ : ∃ W, W = ws59.alloc (.cells Z8 92) := ⟨_, rfl⟩
          rw [← hws62] at Hs63 Es64 ⊢
          clear hws62
          refine rdy [6] (ReadyF.op0 (.store 92 (.tmp 5) (.tmp 12)) rfl (fun o ho => exec_store59 ws62 (.tmp 5) (.tmp 12) ho (ws59.heap.size) rfl X IX rfl Z8 92 (Es64.get (ws59.heap.size) Z8 92 (by simp)) SZ8) (Hs63.set (ws59.heap.size) X Z8 92 (Es64.get (ws59.heap.size) Z8 92 (by simp)) (by omega) (fun p hp => by simp at hp; rcases hp with rfl | rfl | rfl <;> exact .inr ⟨by simp, by simp only; omega⟩)) ?_ ReadyF.nil)
          have Hs66 := Hs63.set (ws59.heap.size) X Z8 92 (Es64.get (ws59.heap.size) Z8 92 (by simp)) (by omega) (m := [(w.heap.size, A, 24), (w.heap.size + 1, B, 24), (w.heap.size + 1 + 1, Z16, 79)]) (fun p hp => by simp at hp; rcases hp with rfl | rfl | rfl <;> exact .inr ⟨by simp, by simp only; omega⟩)
          have Es67 := Es64.set (ws59.heap.size) X Z8 92 (Es64.get (ws59.heap.size) Z8 92 (by simp)) (by omega) (m := [(ws59.heap.size, X, 92), (ws1.heap.size, Z8, 92)]) (fun p hp => by simp at hp; rcases hp with rfl | rfl <;> first | exact .inl rfl | exact .inr ⟨by simp, by simp only; omega⟩)
          generalize ws62.setRow (ws59.heap.size) X = ws65 at *
          refine rdy [7] (ReadyF.op0 (.store 92 (.tmp 6) (.tmp 14)) rfl (fun o ho => exec_store59 ws65 (.tmp 6) (.tmp 14) ho (ws1.heap.size) rfl Y IY rfl Z8 92 (Es67.get (ws1.heap.size) Z8 92 (by simp)) SZ8) (Hs66.set (ws1.heap.size) Y Z8 92 (Es67.get (ws1.heap.size) Z8 92 (by simp)) (by omega) (fun p hp => by simp at hp; rcases hp with rfl | rfl | rfl <;> exact .inr ⟨by simp, by simp only; omega⟩)) ?_ ReadyF.nil)
          have Hs69 := Hs66.set (ws1.heap.size) Y Z8 92 (Es67.get (ws1.heap.size) Z8 92 (by simp)) (by omega) (m := [(w.heap.size, A, 24), (w.heap.size + 1, B, 24), (w.heap.size + 1 + 1, Z16, 79)]) (fun p hp => by simp at hp; rcases hp with rfl | rfl | rfl <;> exact .inr ⟨by simp, by simp only; omega⟩)
          have Es70 := Es67.set (ws1.heap.size) Y Z8 92 (Es67.get (ws1.heap.size) Z8 92 (by simp)) (by omega) (m := [(ws59.heap.size, X, 92), (ws1.heap.size, Y, 92)]) (fun p hp => by simp at hp; rcases hp with rfl | rfl <;> first | exact .inl rfl | exact .inr ⟨by simp, by simp only; omega⟩)
          generalize ws65.setRow (ws1.heap.size) Y = ws68 at *
          refine AnyF.done (by kernel_rfl) ?_ _
          refine nrm_intro ⟨ws59.heap.size, ws1.heap.size, rfl, (Hs69.app Es70).sub (fun p hp => by simp at hp; rcases hp with rfl | rfl | rfl <;> simp), by omega, by omega, by omega⟩
        · have l0ws71 := Hs57.lt (w.heap.size) A 24 (by simp)
          have l1ws71 := Hs57.lt (w.heap.size + 1) B 24 (by simp)
          have l2ws71 := Hs57.lt (w.heap.size + 1 + 1) Z16 79 (by simp)
          have m0ws71 := Es58.lt (ws1.heap.size) Z8 92 (by simp)
          have Hs72 := Hs57.alloc (.cells Z8 92)
          have Es73 := Es58.new Z8 92
          simp only [Act.put, sT, sS, sZ]
          obtain ⟨ws71, hws71⟩ : ∃ W, W = ws56.alloc (.cells Z8 92) := ⟨_, rfl⟩
          rw [← hws71] at Hs72 Es73 ⊢
          clear hws71
          refine rdy [3] (rcl (some 14) 71 #[.tmp 13] #[24] #[.agg B] enters71 _ (H2.out _) ?_ ReadyF.nil)
          rintro v ws74 ⟨he, hb⟩
          cases he
          have Hs75 := Hs72.below hb
          have Es76 := Es73.below hb
          clear hb
          refine ⟨Hs75, ?_⟩
          simp only [Act.put, sT, sS, sZ]
          refine rdy [6] (ReadyF.op0 (.store 92 (.tmp 5) (.tmp 12)) rfl (fun o ho => exec_store59 ws74 (.tmp 5) (.tmp 12) ho (ws56.heap.size) rfl X IX rfl Z8 92 (Es76.get (ws56.heap.size) Z8 92 (by simp)) SZ8) (Hs75.set (ws56.heap.size) X Z8 92 (Es76.get (ws56.heap.size) Z8 92 (by simp)) (by omega) (fun p hp => by simp at hp; rcases hp with rfl | rfl | rfl <;> exact .inr ⟨by simp, by simp only; omega⟩)) ?_ ReadyF.nil)
          have Hs78 := Hs75.set (ws56.heap.size) X Z8 92 (Es76.get (ws56.heap.size) Z8 92 (by simp)) (by omega) (m := [(w.heap.size, A, 24), (w.heap.size + 1, B, 24), (w.heap.size + 1 + 1, Z16, 79)]) (fun p hp => by simp at hp; rcases hp with rfl | rfl | rfl <;> exact .inr ⟨by simp, by simp only; omega⟩)
          have Es79 := Es76.set (ws56.heap.size) X Z8 92 (Es76.get (ws56.heap.size) Z8 92 (by simp)) (by omega) (m := [(ws56.heap.size, X, 92), (ws1.heap.size, Z8, 92)]) (fun p hp => by simp at hp; rcases hp with rfl | rfl <;> first | exact .inl rfl | exact .inr ⟨by simp, by simp only; omega⟩)
          generalize ws74.setRow (ws56.heap.size) X = ws77 at *
          refine rdy [7] (ReadyF.op0 (.store 92 (.tmp 6) (.tmp 14)) rfl (fun o ho => exec_store59 ws77 (.tmp 6) (.tmp 14) ho (ws1.heap.size) rfl Y IY rfl Z8 92 (Es79.get (ws1.heap.size) Z8 92 (by simp)) SZ8) (Hs78.set (ws1.heap.size) Y Z8 92 (Es79.get (ws1.heap.size) Z8 92 (by simp)) (by omega) (fun p hp => by simp at hp; rcases hp with rfl | rfl | rfl <;> exact .inr ⟨by simp, by simp only; omega⟩)) ?_ ReadyF.nil)
          have Hs81 := Hs78.set (ws1.heap.size) Y Z8 92 (Es79.get (ws1.heap.size) Z8 92 (by simp)) (by omega) (m := [(w.heap.size, A, 24), (w.heap.size + 1, B, 24), (w.heap.size + 1 + 1, Z16, 79)]) (fun p hp => by simp at hp; rcases hp with rfl | rfl | rfl <;> exact .inr ⟨by simp, by simp only; omega⟩)
          have Es82 := Es79.set (ws1.heap.size) Y Z8 92 (Es79.get (ws1.heap.size) Z8 92 (by simp)) (by omega) (m := [(ws56.heap.size, X, 92), (ws1.heap.size, Y, 92)]) (fun p hp => by simp at hp; rcases hp with rfl | rfl <;> first | exact .inl rfl | exact .inr ⟨by simp, by simp only; omega⟩)
          generalize ws77.setRow (ws1.heap.size) Y = ws80 at *
          refine AnyF.done (by kernel_rfl) ?_ _
          refine nrm_intro ⟨ws56.heap.size, ws1.heap.size, rfl, (Hs81.app Es82).sub (fun p hp => by simp at hp; rcases hp with rfl | rfl | rfl <;> simp), by omega, by omega, by omega⟩
    · have l0ws83 := HD.lt (w.heap.size) A 24 (by simp)
      have l1ws83 := HD.lt (w.heap.size + 1) B 24 (by simp)
      have l2ws83 := HD.lt (w.heap.size + 1 + 1) Z16 79 (by simp)
      have Hs84 := HD.alloc (.cells Z8 92)
      have Es85 := (HD.sub (m := []) (fun p hp => by cases hp)).new Z8 92
      simp only [Act.put, sT, sS, sZ]
      obtain ⟨ws83, hws83⟩ : ∃ W, W = Wd.alloc (.cells Z8 92) := ⟨_, rfl⟩
      rw [← hws83] at Hs84 Es85 ⊢
      clear hws83
      refine rdy [1, 5] (rcl (some 12) 71 #[.tmp 11] #[24] #[.agg A] enters71 _ (H1.out _) ?_ (ral 6 92 HZ (Hs84.alloc _) ?_ ReadyF.nil))
      · rintro v ws86 ⟨he, hb⟩
        cases he
        have Hs87 := Hs84.below hb
        have Es88 := Es85.below hb
        clear hb
        refine ⟨Hs87, ?_⟩
        simp only [Act.put, sT, sS, sZ]
        refine rdy [3, 5] (rcl (some 14) 71 #[.tmp 13] #[24] #[.agg B] enters71 _ (H2.out _) ?_ (ral 6 92 HZ (Hs87.alloc _) ?_ ReadyF.nil))
        · rintro v ws89 ⟨he, hb⟩
          cases he
          have Hs90 := Hs87.below hb
          have Es91 := Es88.below hb
          clear hb
          refine ⟨Hs90, ?_⟩
          simp only [Act.put, sT, sS, sZ]
          refine rdy [5] (ral 6 92 HZ (Hs90.alloc _) ?_ ReadyF.nil)
          have l0ws92 := Hs90.lt (w.heap.size) A 24 (by simp)
          have l1ws92 := Hs90.lt (w.heap.size + 1) B 24 (by simp)
          have l2ws92 := Hs90.lt (w.heap.size + 1 + 1) Z16 79 (by simp)
          have m0ws92 := Es91.lt (Wd.heap.size) Z8 92 (by simp)
          have Hs93 := Hs90.alloc (.cells Z8 92)
          have Es94 := Es91.new Z8 92
          simp only [Act.put, sT, sS, sZ]
          obtain ⟨ws92, hws92⟩ : ∃ W, W = ws89.alloc (.cells Z8 92) := ⟨_, rfl⟩
          rw [← hws92] at Hs93 Es94 ⊢
          clear hws92
          refine rdy [6] (ReadyF.op0 (.store 92 (.tmp 5) (.tmp 12)) rfl (fun o ho => exec_store59 ws92 (.tmp 5) (.tmp 12) ho (Wd.heap.size) rfl X IX rfl Z8 92 (Es94.get (Wd.heap.size) Z8 92 (by simp)) SZ8) (Hs93.set (Wd.heap.size) X Z8 92 (Es94.get (Wd.heap.size) Z8 92 (by simp)) (by omega) (fun p hp => by simp at hp; rcases hp with rfl | rfl | rfl <;> exact .inr ⟨by simp, by simp only; omega⟩)) ?_ ReadyF.nil)
          have Hs96 := Hs93.set (Wd.heap.size) X Z8 92 (Es94.get (Wd.heap.size) Z8 92 (by simp)) (by omega) (m := [(w.heap.size, A, 24), (w.heap.size + 1, B, 24), (w.heap.size + 1 + 1, Z16, 79)]) (fun p hp => by simp at hp; rcases hp with rfl | rfl | rfl <;> exact .inr ⟨by simp, by simp only; omega⟩)
          have Es97 := Es94.set (Wd.heap.size) X Z8 92 (Es94.get (Wd.heap.size) Z8 92 (by simp)) (by omega) (m := [(ws89.heap.size, Z8, 92), (Wd.heap.size, X, 92)]) (fun p hp => by simp at hp; rcases hp with rfl | rfl <;> first | exact .inl rfl | exact .inr ⟨by simp, by simp only; omega⟩)
          generalize ws92.setRow (Wd.heap.size) X = ws95 at *
          refine rdy [7] (ReadyF.op0 (.store 92 (.tmp 6) (.tmp 14)) rfl (fun o ho => exec_store59 ws95 (.tmp 6) (.tmp 14) ho (ws89.heap.size) rfl Y IY rfl Z8 92 (Es97.get (ws89.heap.size) Z8 92 (by simp)) SZ8) (Hs96.set (ws89.heap.size) Y Z8 92 (Es97.get (ws89.heap.size) Z8 92 (by simp)) (by omega) (fun p hp => by simp at hp; rcases hp with rfl | rfl | rfl <;> exact .inr ⟨by simp, by simp only; omega⟩)) ?_ ReadyF.nil)
          have Hs99 := Hs96.set (ws89.heap.size) Y Z8 92 (Es97.get (ws89.heap.size) Z8 92 (by simp)) (by omega) (m := [(w.heap.size, A, 24), (w.heap.size + 1, B, 24), (w.heap.size + 1 + 1, Z16, 79)]) (fun p hp => by simp at hp; rcases hp with rfl | rfl | rfl <;> exact .inr ⟨by simp, by simp only; omega⟩)
          have Es100 := Es97.set (ws89.heap.size) Y Z8 92 (Es97.get (ws89.heap.size) Z8 92 (by simp)) (by omega) (m := [(ws89.heap.size, Y, 92), (Wd.heap.size, X, 92)]) (fun p hp => by simp at hp; rcases hp with rfl | rfl <;> first | exact .inl rfl | exact .inr ⟨by simp, by simp only; omega⟩)
          generalize ws95.setRow (ws89.heap.size) Y = ws98 at *
          refine AnyF.done (by kernel_rfl) ?_ _
          refine nrm_intro ⟨Wd.heap.size, ws89.heap.size, rfl, (Hs99.app Es100).sub (fun p hp => by simp at hp; rcases hp with rfl | rfl | rfl <;> simp), by omega, by omega, by omega⟩
        · have l0ws101 := Hs87.lt (w.heap.size) A 24 (by simp)
          have l1ws101 := Hs87.lt (w.heap.size + 1) B 24 (by simp)
          have l2ws101 := Hs87.lt (w.heap.size + 1 + 1) Z16 79 (by simp)
          have m0ws101 := Es88.lt (Wd.heap.size) Z8 92 (by simp)
          have Hs102 := Hs87.alloc (.cells Z8 92)
          have Es103 := Es88.new Z8 92
          simp only [Act.put, sT, sS, sZ]
          obtain ⟨ws101, hws101⟩ : ∃ W, W = ws86.alloc (.cells Z8 92) := ⟨_, rfl⟩
          rw [← hws101] at Hs102 Es103 ⊢
          clear hws101
          refine rdy [3] (rcl (some 14) 71 #[.tmp 13] #[24] #[.agg B] enters71 _ (H2.out _) ?_ ReadyF.nil)
          rintro v ws104 ⟨he, hb⟩
          cases he
          have Hs105 := Hs102.below hb
          have Es106 := Es103.below hb
          clear hb
          refine ⟨Hs105, ?_⟩
          simp only [Act.put, sT, sS, sZ]
          refine rdy [6] (ReadyF.op0 (.store 92 (.tmp 5) (.tmp 12)) rfl (fun o ho => exec_store59 ws104 (.tmp 5) (.tmp 12) ho (Wd.heap.size) rfl X IX rfl Z8 92 (Es106.get (Wd.heap.size) Z8 92 (by simp)) SZ8) (Hs105.set (Wd.heap.size) X Z8 92 (Es106.get (Wd.heap.size) Z8 92 (by simp)) (by omega) (fun p hp => by simp at hp; rcases hp with rfl | rfl | rfl <;> exact .inr ⟨by simp, by simp only; omega⟩)) ?_ ReadyF.nil)
          have Hs108 := Hs105.set (Wd.heap.size) X Z8 92 (Es106.get (Wd.heap.size) Z8 92 (by simp)) (by omega) (m := [(w.heap.size, A, 24), (w.heap.size + 1, B, 24), (w.heap.size + 1 + 1, Z16, 79)]) (fun p hp => by simp at hp; rcases hp with rfl | rfl | rfl <;> exact .inr ⟨by simp, by simp only; omega⟩)
          have Es109 := Es106.set (Wd.heap.size) X Z8 92 (Es106.get (Wd.heap.size) Z8 92 (by simp)) (by omega) (m := [(ws86.heap.size, Z8, 92), (Wd.heap.size, X, 92)]) (fun p hp => by simp at hp; rcases hp with rfl | rfl <;> first | exact .inl rfl | exact .inr ⟨by simp, by simp only; omega⟩)
          generalize ws104.setRow (Wd.heap.size) X = ws107 at *
          refine rdy [7] (ReadyF.op0 (.store 92 (.tmp 6) (.tmp 14)) rfl (fun o ho => exec_store59 ws107 (.tmp 6) (.tmp 14) ho (ws86.heap.size) rfl Y IY rfl Z8 92 (Es109.get (ws86.heap.size) Z8 92 (by simp)) SZ8) (Hs108.set (ws86.heap.size) Y Z8 92 (Es109.get (ws86.heap.size) Z8 92 (by simp)) (by omega) (fun p hp => by simp at hp; rcases hp with rfl | rfl | rfl <;> exact .inr ⟨by simp, by simp only; omega⟩)) ?_ ReadyF.nil)
          have Hs111 := Hs108.set (ws86.heap.size) Y Z8 92 (Es109.get (ws86.heap.size) Z8 92 (by simp)) (by omega) (m := [(w.heap.size, A, 24), (w.heap.size + 1, B, 24), (w.heap.size + 1 + 1, Z16, 79)]) (fun p hp => by simp at hp; rcases hp with rfl | rfl | rfl <;> exact .inr ⟨by simp, by simp only; omega⟩)
          have Es112 := Es109.set (ws86.heap.size) Y Z8 92 (Es109.get (ws86.heap.size) Z8 92 (by simp)) (by omega) (m := [(ws86.heap.size, Y, 92), (Wd.heap.size, X, 92)]) (fun p hp => by simp at hp; rcases hp with rfl | rfl <;> first | exact .inl rfl | exact .inr ⟨by simp, by simp only; omega⟩)
          generalize ws107.setRow (ws86.heap.size) Y = ws110 at *
          refine AnyF.done (by kernel_rfl) ?_ _
          refine nrm_intro ⟨Wd.heap.size, ws86.heap.size, rfl, (Hs111.app Es112).sub (fun p hp => by simp at hp; rcases hp with rfl | rfl | rfl <;> simp), by omega, by omega, by omega⟩
      · have l0ws113 := Hs84.lt (w.heap.size) A 24 (by simp)
        have l1ws113 := Hs84.lt (w.heap.size + 1) B 24 (by simp)
        have l2ws113 := Hs84.lt (w.heap.size + 1 + 1) Z16 79 (by simp)
        have m0ws113 := Es85.lt (Wd.heap.size) Z8 92 (by simp)
        have Hs114 := Hs84.alloc (.cells Z8 92)
        have Es115 := Es85.new Z8 92
        simp only [Act.put, sT, sS, sZ]
        obtain ⟨ws113, hws113⟩ : ∃ W, W = ws83.alloc (.cells Z8 92) := ⟨_, rfl⟩
        rw [← hws113] at Hs114 Es115 ⊢
        clear hws113
        refine rdy [1] (rcl (some 12) 71 #[.tmp 11] #[24] #[.agg A] enters71 _ (H1.out _) ?_ ReadyF.nil)
        rintro v ws116 ⟨he, hb⟩
        cases he
        have Hs117 := Hs114.below hb
        have Es118 := Es115.below hb
        clear hb
        refine ⟨Hs117, ?_⟩
        simp only [Act.put, sT, sS, sZ]
        refine rdy [3] (rcl (some 14) 71 #[.tmp 13] #[24] #[.agg B] enters71 _ (H2.out _) ?_ ReadyF.nil)
        rintro v ws119 ⟨he, hb⟩
        cases he
        have Hs120 := Hs117.below hb
        have Es121 := Es118.below hb
        clear hb
        refine ⟨Hs120, ?_⟩
        simp only [Act.put, sT, sS, sZ]
        refine rdy [6] (ReadyF.op0 (.store 92 (.tmp 5) (.tmp 12)) rfl (fun o ho => exec_store59 ws119 (.tmp 5) (.tmp 12) ho (Wd.heap.size) rfl X IX rfl Z8 92 (Es121.get (Wd.heap.size) Z8 92 (by simp)) SZ8) (Hs120.set (Wd.heap.size) X Z8 92 (Es121.get (Wd.heap.size) Z8 92 (by simp)) (by omega) (fun p hp => by simp at hp; rcases hp with rfl | rfl | rfl <;> exact .inr ⟨by simp, by simp only; omega⟩)) ?_ ReadyF.nil)
        have Hs123 := Hs120.set (Wd.heap.size) X Z8 92 (Es121.get (Wd.heap.size) Z8 92 (by simp)) (by omega) (m := [(w.heap.size, A, 24), (w.heap.size + 1, B, 24), (w.heap.size + 1 + 1, Z16, 79)]) (fun p hp => by simp at hp; rcases hp with rfl | rfl | rfl <;> exact .inr ⟨by simp, by simp only; omega⟩)
        have Es124 := Es121.set (Wd.heap.size) X Z8 92 (Es121.get (Wd.heap.size) Z8 92 (by simp)) (by omega) (m := [(ws83.heap.size, Z8, 92), (Wd.heap.size, X, 92)]) (fun p hp => by simp at hp; rcases hp with rfl | rfl <;> first | exact .inl rfl | exact .inr ⟨by simp, by simp only; omega⟩)
        generalize ws119.setRow (Wd.heap.size) X = ws122 at *
        refine rdy [7] (ReadyF.op0 (.store 92 (.tmp 6) (.tmp 14)) rfl (fun o ho => exec_store59 ws122 (.tmp 6) (.tmp 14) ho (ws83.heap.size) rfl Y IY rfl Z8 92 (Es124.get (ws83.heap.size) Z8 92 (by simp)) SZ8) (Hs123.set (ws83.heap.size) Y Z8 92 (Es124.get (ws83.heap.size) Z8 92 (by simp)) (by omega) (fun p hp => by simp at hp; rcases hp with rfl | rfl | rfl <;> exact .inr ⟨by simp, by simp only; omega⟩)) ?_ ReadyF.nil)
        have Hs126 := Hs123.set (ws83.heap.size) Y Z8 92 (Es124.get (ws83.heap.size) Z8 92 (by simp)) (by omega) (m := [(w.heap.size, A, 24), (w.heap.size + 1, B, 24), (w.heap.size + 1 + 1, Z16, 79)]) (fun p hp => by simp at hp; rcases hp with rfl | rfl | rfl <;> exact .inr ⟨by simp, by simp only; omega⟩)
        have Es127 := Es124.set (ws83.heap.size) Y Z8 92 (Es124.get (ws83.heap.size) Z8 92 (by simp)) (by omega) (m := [(ws83.heap.size, Y, 92), (Wd.heap.size, X, 92)]) (fun p hp => by simp at hp; rcases hp with rfl | rfl <;> first | exact .inl rfl | exact .inr ⟨by simp, by simp only; omega⟩)
        generalize ws122.setRow (ws83.heap.size) Y = ws125 at *
        refine AnyF.done (by kernel_rfl) ?_ _
        refine nrm_intro ⟨Wd.heap.size, ws83.heap.size, rfl, (Hs126.app Es127).sub (fun p hp => by simp at hp; rcases hp with rfl | rfl | rfl <;> simp), by omega, by omega, by omega⟩
    · have l0ws128 := HD.lt (w.heap.size) A 24 (by simp)
      have l1ws128 := HD.lt (w.heap.size + 1) B 24 (by simp)
      have l2ws128 := HD.lt (w.heap.size + 1 + 1) Z16 79 (by simp)
      have Hs129 := HD.alloc (.cells Z8 92)
      have Es130 := (HD.sub (m := []) (fun p hp => by cases hp)).new Z8 92
      simp only [Act.put, sT, sS, sZ]
      obtain ⟨ws128, hws128⟩ : ∃ W, W = Wd.alloc (.cells Z8 92) := ⟨_, rfl⟩
      rw [← hws128] at Hs129 Es130 ⊢
      clear hws128
      refine rdy [1, 4] (rcl (some 12) 71 #[.tmp 11] #[24] #[.agg A] enters71 _ (H1.out _) ?_ (ral 5 92 HZ (Hs129.alloc _) ?_ ReadyF.nil))
      · rintro v ws131 ⟨he, hb⟩
        cases he
        have Hs132 := Hs129.below hb
        have Es133 := Es130.below hb
        clear hb
        refine ⟨Hs132, ?_⟩
        simp only [Act.put, sT, sS, sZ]
        refine rdy [3, 4] (rcl (some 14) 71 #[.tmp 13] #[24] #[.agg B] enters71 _ (H2.out _) ?_ (ral 5 92 HZ (Hs132.alloc _) ?_ ReadyF.nil))
        · rintro v ws134 ⟨he, hb⟩
          cases he
          have Hs135 := Hs132.below hb
          have Es136 := Es133.below hb
          clear hb
          refine ⟨Hs135, ?_⟩
          simp only [Act.put, sT, sS, sZ]
          refine rdy [4] (ral 5 92 HZ (Hs135.alloc _) ?_ ReadyF.nil)
          have l0ws137 := Hs135.lt (w.heap.size) A 24 (by simp)
          have l1ws137 := Hs135.lt (w.heap.size + 1) B 24 (by simp)
          have l2ws137 := Hs135.lt (w.heap.size + 1 + 1) Z16 79 (by simp)
          have m0ws137 := Es136.lt (Wd.heap.size) Z8 92 (by simp)
          have Hs138 := Hs135.alloc (.cells Z8 92)
          have Es139 := Es136.new Z8 92
          simp only [Act.put, sT, sS, sZ]
          obtain ⟨ws137, hws137⟩ : ∃ W, W = ws134.alloc (.cells Z8 92) := ⟨_, rfl⟩
          rw [← hws137] at Hs138 Es139 ⊢
          clear hws137
          refine rdy [6] (ReadyF.op0 (.store 92 (.tmp 5) (.tmp 12)) rfl (fun o ho => exec_store59 ws137 (.tmp 5) (.tmp 12) ho (ws134.heap.size) rfl X IX rfl Z8 92 (Es139.get (ws134.heap.size) Z8 92 (by simp)) SZ8) (Hs138.set (ws134.heap.size) X Z8 92 (Es139.get (ws134.heap.size) Z8 92 (by simp)) (by omega) (fun p hp => by simp at hp; rcases hp with rfl | rfl | rfl <;> exact .inr ⟨by simp, by simp only; omega⟩)) ?_ ReadyF.nil)
          have Hs141 := Hs138.set (ws134.heap.size) X Z8 92 (Es139.get (ws134.heap.size) Z8 92 (by simp)) (by omega) (m := [(w.heap.size, A, 24), (w.heap.size + 1, B, 24), (w.heap.size + 1 + 1, Z16, 79)]) (fun p hp => by simp at hp; rcases hp with rfl | rfl | rfl <;> exact .inr ⟨by simp, by simp only; omega⟩)
          have Es142 := Es139.set (ws134.heap.size) X Z8 92 (Es139.get (ws134.heap.size) Z8 92 (by simp)) (by omega) (m := [(ws134.heap.size, X, 92), (Wd.heap.size, Z8, 92)]) (fun p hp => by simp at hp; rcases hp with rfl | rfl <;> first | exact .inl rfl | exact .inr ⟨by simp, by simp only; omega⟩)
          generalize ws137.setRow (ws134.heap.size) X = ws140 at *
          refine rdy [7] (ReadyF.op0 (.store 92 (.tmp 6) (.tmp 14)) rfl (fun o ho => exec_store59 ws140 (.tmp 6) (.tmp 14) ho (Wd.heap.size) rfl Y IY rfl Z8 92 (Es142.get (Wd.heap.size) Z8 92 (by simp)) SZ8) (Hs141.set (Wd.heap.size) Y Z8 92 (Es142.get (Wd.heap.size) Z8 92 (by simp)) (by omega) (fun p hp => by simp at hp; rcases hp with rfl | rfl | rfl <;> exact .inr ⟨by simp, by simp only; omega⟩)) ?_ ReadyF.nil)
          have Hs144 := Hs141.set (Wd.heap.size) Y Z8 92 (Es142.get (Wd.heap.size) Z8 92 (by simp)) (by omega) (m := [(w.heap.size, A, 24), (w.heap.size + 1, B, 24), (w.heap.size + 1 + 1, Z16, 79)]) (fun p hp => by simp at hp; rcases hp with rfl | rfl | rfl <;> exact .inr ⟨by simp, by simp only; omega⟩)
          have Es145 := Es142.set (Wd.heap.size) Y Z8 92 (Es142.get (Wd.heap.size) Z8 92 (by simp)) (by omega) (m := [(ws134.heap.size, X, 92), (Wd.heap.size, Y, 92)]) (fun p hp => by simp at hp; rcases hp with rfl | rfl <;> first | exact .inl rfl | exact .inr ⟨by simp, by simp only; omega⟩)
          generalize ws140.setRow (Wd.heap.size) Y = ws143 at *
          refine AnyF.done (by kernel_rfl) ?_ _
          refine nrm_intro ⟨ws134.heap.size, Wd.heap.size, rfl, (Hs144.app Es145).sub (fun p hp => by simp at hp; rcases hp with rfl | rfl | rfl <;> simp), by omega, by omega, by omega⟩
        · have l0ws146 := Hs132.lt (w.heap.size) A 24 (by simp)
          have l1ws146 := Hs132.lt (w.heap.size + 1) B 24 (by simp)
          have l2ws146 := Hs132.lt (w.heap.size + 1 + 1) Z16 79 (by simp)
          have m0ws146 := Es133.lt (Wd.heap.size) Z8 92 (by simp)
          have Hs147 := Hs132.alloc (.cells Z8 92)
          have Es148 := Es133.new Z8 92
          simp only [Act.put, sT, sS, sZ]
          obtain ⟨ws146, hws146⟩ : ∃ W, W = ws131.alloc (.cells Z8 92) := ⟨_, rfl⟩
          rw [← hws146] at Hs147 Es148 ⊢
          clear hws146
          refine rdy [3] (rcl (some 14) 71 #[.tmp 13] #[24] #[.agg B] enters71 _ (H2.out _) ?_ ReadyF.nil)
          rintro v ws149 ⟨he, hb⟩
          cases he
          have Hs150 := Hs147.below hb
          have Es151 := Es148.below hb
          clear hb
          refine ⟨Hs150, ?_⟩
          simp only [Act.put, sT, sS, sZ]
          refine rdy [6] (ReadyF.op0 (.store 92 (.tmp 5) (.tmp 12)) rfl (fun o ho => exec_store59 ws149 (.tmp 5) (.tmp 12) ho (ws131.heap.size) rfl X IX rfl Z8 92 (Es151.get (ws131.heap.size) Z8 92 (by simp)) SZ8) (Hs150.set (ws131.heap.size) X Z8 92 (Es151.get (ws131.heap.size) Z8 92 (by simp)) (by omega) (fun p hp => by simp at hp; rcases hp with rfl | rfl | rfl <;> exact .inr ⟨by simp, by simp only; omega⟩)) ?_ ReadyF.nil)
          have Hs153 := Hs150.set (ws131.heap.size) X Z8 92 (Es151.get (ws131.heap.size) Z8 92 (by simp)) (by omega) (m := [(w.heap.size, A, 24), (w.heap.size + 1, B, 24), (w.heap.size + 1 + 1, Z16, 79)]) (fun p hp => by simp at hp; rcases hp with rfl | rfl | rfl <;> exact .inr ⟨by simp, by simp only; omega⟩)
          have Es154 := Es151.set (ws131.heap.size) X Z8 92 (Es151.get (ws131.heap.size) Z8 92 (by simp)) (by omega) (m := [(ws131.heap.size, X, 92), (Wd.heap.size, Z8, 92)]) (fun p hp => by simp at hp; rcases hp with rfl | rfl <;> first | exact .inl rfl | exact .inr ⟨by simp, by simp only; omega⟩)
          generalize ws149.setRow (ws131.heap.size) X = ws152 at *
          refine rdy [7] (ReadyF.op0 (.store 92 (.tmp 6) (.tmp 14)) rfl (fun o ho => exec_store59 ws152 (.tmp 6) (.tmp 14) ho (Wd.heap.size) rfl Y IY rfl Z8 92 (Es154.get (Wd.heap.size) Z8 92 (by simp)) SZ8) (Hs153.set (Wd.heap.size) Y Z8 92 (Es154.get (Wd.heap.size) Z8 92 (by simp)) (by omega) (fun p hp => by simp at hp; rcases hp with rfl | rfl | rfl <;> exact .inr ⟨by simp, by simp only; omega⟩)) ?_ ReadyF.nil)
          have Hs156 := Hs153.set (Wd.heap.size) Y Z8 92 (Es154.get (Wd.heap.size) Z8 92 (by simp)) (by omega) (m := [(w.heap.size, A, 24), (w.heap.size + 1, B, 24), (w.heap.size + 1 + 1, Z16, 79)]) (fun p hp => by simp at hp; rcases hp with rfl | rfl | rfl <;> exact .inr ⟨by simp, by simp only; omega⟩)
          have Es157 := Es154.set (Wd.heap.size) Y Z8 92 (Es154.get (Wd.heap.size) Z8 92 (by simp)) (by omega) (m := [(ws131.heap.size, X, 92), (Wd.heap.size, Y, 92)]) (fun p hp => by simp at hp; rcases hp with rfl | rfl <;> first | exact .inl rfl | exact .inr ⟨by simp, by simp only; omega⟩)
          generalize ws152.setRow (Wd.heap.size) Y = ws155 at *
          refine AnyF.done (by kernel_rfl) ?_ _
          refine nrm_intro ⟨ws131.heap.size, Wd.heap.size, rfl, (Hs156.app Es157).sub (fun p hp => by simp at hp; rcases hp with rfl | rfl | rfl <;> simp), by omega, by omega, by omega⟩
      · have l0ws158 := Hs129.lt (w.heap.size) A 24 (by simp)
        have l1ws158 := Hs129.lt (w.heap.size + 1) B 24 (by simp)
        have l2ws158 := Hs129.lt (w.heap.size + 1 + 1) Z16 79 (by simp)
        have m0ws158 := Es130.lt (Wd.heap.size) Z8 92 (by simp)
        have Hs159 := Hs129.alloc (.cells Z8 92)
        have Es160 := Es130.new Z8 92
        simp only [Act.put, sT, sS, sZ]
        obtain ⟨ws158, hws158⟩ : ∃ W, W = ws128.alloc (.cells Z8 92) := ⟨_, rfl⟩
        rw [← hws158] at Hs159 Es160 ⊢
        clear hws158
        refine rdy [1] (rcl (some 12) 71 #[.tmp 11] #[24] #[.agg A] enters71 _ (H1.out _) ?_ ReadyF.nil)
        rintro v ws161 ⟨he, hb⟩
        cases he
        have Hs162 := Hs159.below hb
        have Es163 := Es160.below hb
        clear hb
        refine ⟨Hs162, ?_⟩
        simp only [Act.put, sT, sS, sZ]
        refine rdy [3] (rcl (some 14) 71 #[.tmp 13] #[24] #[.agg B] enters71 _ (H2.out _) ?_ ReadyF.nil)
        rintro v ws164 ⟨he, hb⟩
        cases he
        have Hs165 := Hs162.below hb
        have Es166 := Es163.below hb
        clear hb
        refine ⟨Hs165, ?_⟩
        simp only [Act.put, sT, sS, sZ]
        refine rdy [6] (ReadyF.op0 (.store 92 (.tmp 5) (.tmp 12)) rfl (fun o ho => exec_store59 ws164 (.tmp 5) (.tmp 12) ho (ws128.heap.size) rfl X IX rfl Z8 92 (Es166.get (ws128.heap.size) Z8 92 (by simp)) SZ8) (Hs165.set (ws128.heap.size) X Z8 92 (Es166.get (ws128.heap.size) Z8 92 (by simp)) (by omega) (fun p hp => by simp at hp; rcases hp with rfl | rfl | rfl <;> exact .inr ⟨by simp, by simp only; omega⟩)) ?_ ReadyF.nil)
        have Hs168 := Hs165.set (ws128.heap.size) X Z8 92 (Es166.get (ws128.heap.size) Z8 92 (by simp)) (by omega) (m := [(w.heap.size, A, 24), (w.heap.size + 1, B, 24), (w.heap.size + 1 + 1, Z16, 79)]) (fun p hp => by simp at hp; rcases hp with rfl | rfl | rfl <;> exact .inr ⟨by simp, by simp only; omega⟩)
        have Es169 := Es166.set (ws128.heap.size) X Z8 92 (Es166.get (ws128.heap.size) Z8 92 (by simp)) (by omega) (m := [(ws128.heap.size, X, 92), (Wd.heap.size, Z8, 92)]) (fun p hp => by simp at hp; rcases hp with rfl | rfl <;> first | exact .inl rfl | exact .inr ⟨by simp, by simp only; omega⟩)
        generalize ws164.setRow (ws128.heap.size) X = ws167 at *
        refine rdy [7] (ReadyF.op0 (.store 92 (.tmp 6) (.tmp 14)) rfl (fun o ho => exec_store59 ws167 (.tmp 6) (.tmp 14) ho (Wd.heap.size) rfl Y IY rfl Z8 92 (Es169.get (Wd.heap.size) Z8 92 (by simp)) SZ8) (Hs168.set (Wd.heap.size) Y Z8 92 (Es169.get (Wd.heap.size) Z8 92 (by simp)) (by omega) (fun p hp => by simp at hp; rcases hp with rfl | rfl | rfl <;> exact .inr ⟨by simp, by simp only; omega⟩)) ?_ ReadyF.nil)
        have Hs171 := Hs168.set (Wd.heap.size) Y Z8 92 (Es169.get (Wd.heap.size) Z8 92 (by simp)) (by omega) (m := [(w.heap.size, A, 24), (w.heap.size + 1, B, 24), (w.heap.size + 1 + 1, Z16, 79)]) (fun p hp => by simp at hp; rcases hp with rfl | rfl | rfl <;> exact .inr ⟨by simp, by simp only; omega⟩)
        have Es172 := Es169.set (Wd.heap.size) Y Z8 92 (Es169.get (Wd.heap.size) Z8 92 (by simp)) (by omega) (m := [(ws128.heap.size, X, 92), (Wd.heap.size, Y, 92)]) (fun p hp => by simp at hp; rcases hp with rfl | rfl <;> first | exact .inl rfl | exact .inr ⟨by simp, by simp only; omega⟩)
        generalize ws167.setRow (Wd.heap.size) Y = ws170 at *
        refine AnyF.done (by kernel_rfl) ?_ _
        refine nrm_intro ⟨ws128.heap.size, Wd.heap.size, rfl, (Hs171.app Es172).sub (fun p hp => by simp at hp; rcases hp with rfl | rfl | rfl <;> simp), by omega, by omega, by omega⟩
  rintro a' W1 ⟨g5, g6, rfl, HK0, l5, l6, n56⟩
  clear HS H1 H2 HZ SZ8 IA IB
  have HK1 := HK0.new Z16 79
  have l7 : w.heap.size + 1 + 1 < W1.heap.size := HK0.lt (w.heap.size + 1 + 1) Z16 79 (by simp)
  have m7 : g5 < W1.heap.size := HK0.lt g5 X 92 (by simp)
  have k7 : g6 < W1.heap.size := HK0.lt g6 Y 92 (by simp)
  have HK2 : Hid (Kt w [(w.heap.size + 1 + 1, Z16, 79), (g5, X, 92), (g6, Y, 92), (W1.heap.size, Z16, 79)] (W1.alloc (.cells Z16 79))) := Lib.hid (HK1.sub (fun p hp => by simp at hp; rcases hp with rfl | rfl | rfl | rfl <;> simp))
  clear HK0 HK1
  go_wp2_with ((refine wpList_run rfl _ (exec_alloc_agg _ 79 rfl _ (HZF _)) ?_); try simp only [World.size_alloc])
  try simp only [Act.put, sT, sS, sZ]
  generalize W1.alloc (.cells Z16 79) = W2 at *
  generalize W1.heap.size = g7 at *
  have N := Lib.hid (And.intro l5 (And.intro l6 (And.intro n56 (And.intro l7 (And.intro m7 k7)))))
  clear l5 l6 n56 l7 m7 k7
  go_loopw [8] (fun i wr => ∃ (q : Nat) (o : Nat → Nat), q ≤ 8 ∧ i = .int .i64 q ∧ MulO x y q o ∧ Kt w [(w.heap.size + 1 + 1, Z16, 79), (g5, X, 92), (g6, Y, 92), (g7, (rowOf .u64 16 o).toArray, 79)] wr) (fun i _ => 8 - (intOf i).toNat)
  case atStart => exact ⟨0, fun _ => 0, by omega, rfl, MulO.start x y, by rw [← hZ16.out]; exact HK2.out⟩
  case round =>
    clear HK2
    obtain ⟨p, o0, hp, rfl, HO0, HK0⟩ := hrel
    have HO := Lib.hid HO0
    have HK := Lib.hid HK0
    clear HO0 HK0
    by_cases hlt : p < 8
    · have hltI : (p : Int) < 8 := by omega
      have hx1 := Lib.hid (HXL.out p)
      have cx : Hid (∀ wr : World, ∀ o, Kt w [(w.heap.size + 1 + 1, Z16, 79), (g5, X, 92), (g6, Y, 92), (g7, (rowOf .u64 16 o).toArray, 79)] wr → wr.cell? ⟨g5, p, none⟩ = some (.int .u64 (x p : Int))) := Lib.hid (fun wr o h => by rw [h.cell g5 X 92 (by simp), hX.out, List.getElem?_toArray, rowOf_get _ _ _ _ hlt])
      go_wp2
      go_loopw [9, 10] (fun c q wr => ∃ (c' q' : Nat) (o : Nat → Nat), q' ≤ 8 ∧ q = .int .i64 q' ∧ c = .int .u64 c' ∧ MulI x y p q' c' o ∧ Kt w [(w.heap.size + 1 + 1, Z16, 79), (g5, X, 92), (g6, Y, 92), (g7, (rowOf .u64 16 o).toArray, 79)] wr) (fun _ q _ => 8 - (intOf q).toNat)
      case atStart => exact ⟨0, 0, o0, by omega, rfl, rfl, HO.out.inner, HK.out⟩
      case round =>
        clear HK HO
        obtain ⟨c, q, o, hq, rfl, rfl, HI0, HK0⟩ := hrel
        have HI := Lib.hid HI0
        have HK := Lib.hid HK0
        clear HI0 HK0
        by_cases hqt : q < 8
        · have hqtI : (q : Int) < 8 := by omega
          obtain ⟨S, hS⟩ : ∃ S, Hid (S = p + q) := ⟨_, Lib.hid rfl⟩
          have hS1 : (p : Int) + (q : Int) = (S : Int) := by rw [hS.out]; omega
          have hSl : S < 16 := by rw [hS.out]; omega
          have hS16 : (S : Int) < 16 := by omega
          have hr := HK.out.row g7 79 .u64 16 o (by simp)
          have c0 := hr.cell S hSl
          have f0 := hr.free S
          have c1 := cx.out wr o HK.out
          have c2 : wr.cell? ⟨g6, q, none⟩ = some (.int .u64 (y q : Int)) := by rw [HK.out.cell g6 Y 92 (by simp), hY.out, List.getElem?_toArray, rowOf_get _ _ _ _ hqt]
          have hroom := HI.out.room hlt hqt hx1.out (HYL.out q)
          rw [← hS.out] at hroom
          obtain ⟨R, hR⟩ : ∃ R, Hid (R = c + o S) := ⟨_, Lib.hid rfl⟩
          obtain ⟨T, hT⟩ : ∃ T, Hid (T = x p * y q) := ⟨_, Lib.hid rfl⟩
          obtain ⟨Q, hQ⟩ : ∃ Q, Hid (Q = R + T) := ⟨_, Lib.hid rfl⟩
          rw [← hR.out, ← hT.out] at hroom
          have e1 : IntKind.u64.wrap ((c : Int) + (o S : Int)) = (R : Int) := by rw [show (c : Int) + (o S : Int) = (R : Int) by rw [hR.out]; omega]; exact wrap_id (by omega)
          have e2 : IntKind.u64.wrap ((x p : Int) * (y q : Int)) = (T : Int) := by rw [show (x p : Int) * (y q : Int) = (T : Int) by rw [hT.out]; exact (Int.natCast_mul _ _).symm]; exact wrap_id (by omega)
          have e3 : IntKind.u64.wrap ((R : Int) + (T : Int)) = (Q : Int) := by rw [show (R : Int) + (T : Int) = (Q : Int) by rw [hQ.out]; omega]; exact wrap_id (by rw [hQ.out]; exact hroom)
          have hQl : Q < 18446744073709551616 := by rw [hQ.out]; exact hroom
          have HN := Lib.hid (HI.out.step hlt hqt hx1.out (HYL.out q) Q (by rw [hQ.out, hR.out, hT.out, hS.out]))
          rw [← hS.out] at HN
          obtain ⟨lo, hlo⟩ : ∃ lo, Hid (lo = Q % 4294967296) := ⟨_, Lib.hid rfl⟩
          obtain ⟨hi, hhi⟩ : ∃ hi, Hid (hi = Q / 4294967296) := ⟨_, Lib.hid rfl⟩
          rw [← hlo.out, ← hhi.out] at HN
          have HKN : Hid (∀ nq, Kt w [(w.heap.size + 1 + 1, Z16, 79), (g5, X, 92), (g6, Y, 92), (g7, (rowOf .u64 16 (upd o S lo)).toArray, 79)] ((wr.drewN nq).setCell ⟨g7, S, none⟩ (.int .u64 (lo : Int)))) := Lib.hid (fun nq => Kt.setw (w := wr.drewN nq) ⟨Below.drewN' HK.out.1 nq, HK.out.2⟩ g7 79 .u64 16 o S lo hr (by have := N.out; omega) (fun p hp => by have := N.out; simp at hp; rcases hp with rfl | rfl | rfl | rfl <;> first | exact .inl rfl | exact .inr ⟨by simp, by simp only; omega⟩))
          generalize o S = ov at *
          generalize x p = xv at *
          generalize y q = yv at *
          clear hr hX hY HK HI hroom cx hx1 HXL HYL HVA HVB hS hR hT hQ hZ16 HZF SZ16 IX IY N hSl
          go_wp2
          go_quiet (fail)
          go_wp2_with (first | (refine wpList_run rfl _ (exec_and32 (.tmp 41) rfl rfl Q lo hQl hlo.out rfl _) ?_) | (refine wpList_run rfl _ (exec_shr32 (.tmp 44) rfl rfl Q hi hhi.out rfl _) ?_))
          go_roundw
          case rel => exact ⟨hi, q + 1, _, by omega, by first | rfl | simp | go_num, rfl, HN.out, HKN.out _⟩
          case measure => simp [intOf]; omega
        · obtain rfl : q = 8 := by omega
          obtain ⟨S, hS⟩ : ∃ S, Hid (S = p + 8) := ⟨_, Lib.hid rfl⟩
          have hS1 : (p : Int) + 8 = (S : Int) := by rw [hS.out]; omega
          have hSl : S < 16 := by rw [hS.out]; omega
          have hS16 : (S : Int) < 16 := by omega
          have hr := HK.out.row g7 79 .u64 16 o (by simp)
          have c0 := hr.cell S hSl
          have f0 := hr.free S
          have HN := Lib.hid (HI.out.outer hlt)
          rw [← hS.out] at HN
          have HKN : Hid (Kt w [(w.heap.size + 1 + 1, Z16, 79), (g5, X, 92), (g6, Y, 92), (g7, (rowOf .u64 16 (upd o S c)).toArray, 79)] (wr.setCell ⟨g7, S, none⟩ (.int .u64 (c : Int)))) := Lib.hid (Kt.setw (w := wr) HK.out g7 79 .u64 16 o S c hr (by have := N.out; omega) (fun p hp => by have := N.out; simp at hp; rcases hp with rfl | rfl | rfl | rfl <;> first | exact .inl rfl | exact .inr ⟨by simp, by simp only; omega⟩))
          generalize o S = ov at *
          clear hr hX hY HK HI cx hx1 HXL HYL HVA HVB hS hZ16 HZF SZ16 IX IY N hSl
          rw [show ((8 : Nat) : Int) = (8 : Int) from rfl]
          go_wp2
          go_roundw
          case rel => exact ⟨p + 1, _, by omega, by first | rfl | simp | go_num, HN.out, HKN.out⟩
          case measure => simp [intOf]; omega
    · obtain rfl : p = 8 := by omega
      obtain ⟨T, hT⟩ : ∃ T, Hid (T = (rowOf .u64 16 o0).toArray) := ⟨_, Lib.hid rfl⟩
      rw [← hT.out] at HK
      have IT : IsRw 16 T := ⟨_, hT.out⟩
      have hl := load50 IT (HK.out.get g7 T 79 (by simp))
      have h1 := HK.out.get (w.heap.size + 1 + 1) Z16 79 (by simp)
      have HR : Hid (∃ l : Nat → Nat, (∀ j, j < 16 → l j < 4294967296) ∧ v32 16 l = a * b ∧ Ending.returned (.agg T) = .returned (.agg (rowOf .u64 16 l).toArray)) := Lib.hid ⟨o0, HO.out.1, by rw [HO.out.2.2, HVA.out, HVB.out], by rw [hT.out]⟩
      clear hX hY HO HXL HYL HVA HVB hZ16 HZF hT
      rw [show ((8 : Nat) : Int) = (8 : Int) from rfl]
      go_wp2_with (first | (refine wpList_run rfl _ (exec_load_of _ 79 (.tmp 7) rfl ⟨g7, 0, none⟩ rfl (.agg T) hl) ?_) | (refine wpList_run0 rfl (exec_store50 _ (.tmp 4) (.tmp 50) rfl (w.heap.size + 1 + 1) rfl T IT rfl Z16 79 h1 SZ16) ?_))
      exact bodyPost_ret (results_cell rfl _ _ _ ⟨w.heap.size + 1 + 1, 0, none⟩ rfl _ (load50 (t := 79) IT (setRow_heap _ _ _ _ _ _ h1))) rfl ⟨HR.out, HK.out.1.trans ⟨rfl, rfl, rfl, by simp, fun k hk => setRow_other _ _ _ _ (by omega)⟩⟩
end Go.Proofs.YtgbliacncahooaaDoor
