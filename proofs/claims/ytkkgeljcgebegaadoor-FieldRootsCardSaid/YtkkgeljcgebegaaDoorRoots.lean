/- The law FieldRoots walked: it returns true at any two numbers of 256 bits, and no memory that was there is changed. The number turn is as the program lays it. -/
import Derived.Test.YtkkgeljcgebegaaDoorRoot
import Derived.Test.YtkkgeljcgebegaaDoorAwake
namespace Go.Proofs.YtkkgeljcgebegaaDoor
open Go.RowKit Go.Shelf
set_option linter.unusedVariables false
set_option linter.unusedSimpArgs false
theorem wpList_runG {ops : Array Oper} {rest : List Oper} {o : Oper} {a : Act} {w w2 : World} {Q : Exit → Act → World → Prop} (hw : Region.wanted o (yielded ops a.tmps) = true) (v : Value)
    (hrun : (execOp a.eval o).run Tryd.prog w = .ok (.value v) w2) (h : wpList Tryd.prog ops Q rest (a.put o.dst v) w2) : wpList Tryd.prog ops Q (o :: rest) a w :=
  wpList_step fun K hK => by rw [if_pos hw]; unfold Oper.wp; rw [hrun]; exact hK _ _ h
theorem exec_eqA {ρ : Operand → Value} {o : Oper} (x y : Operand) (ho : o.op = .binOp .eql 24 x y 24) (A : Array Value) (hA : IsNum A) (hx : ρ x = .agg A) (hy : ρ y = .agg A) (w : World) :
    (execOp ρ o).run Tryd.prog w = .ok (.value (.bool true)) w := by
  obtain ⟨f, rfl⟩ := hA
  unfold execOp
  rw [ho]
  simp only [hx, hy]
  have hl : (rowOf .u64 4 f).toArray = #[.int .u64 (f 0 : Int), .int .u64 (f 1 : Int), .int .u64 (f 2 : Int), .int .u64 (f 3 : Int)] := rfl
  have h := eq24 (f 0) (f 1) (f 2) (f 3) (f 0) (f 1) (f 2) (f 3) w
  simp only [decide_true, Bool.and_self] at h
  go_simp
theorem exec_notf {ρ : Operand → Value} {o : Oper} (x : Operand) (ho : o.op = .unOp .not 4 x) (hx : ρ x = .bool false) (w : World) :
    (execOp ρ o).run Tryd.prog w = .ok (.value (.bool true)) w := by
  unfold execOp
  rw [ho]
  simp only [hx]
  go_simp
theorem enters6 : ∀ args w, (callFunc 6 args).run Tryd.prog w = .ok (.enter 6 args) w := enters_of Tryd.func6 (by kernel_rfl) rfl
theorem enters13 : ∀ args w, (callFunc 13 args).run Tryd.prog w = .ok (.enter 13 args) w := enters_of Tryd.func13 (by kernel_rfl) rfl
theorem exec_build0 {ρ : Operand → Value} {o : Oper} (ho : o.op = .build 24 #[]) (v : Value) {w : World} (hrun : (Instr.build 24 #[]).run Tryd.prog w = .ok v w) (w2 : World) (hw : w2 = w := by rfl) : (execOp ρ o).run Tryd.prog w2 = .ok (.value v) w2 := by
  subst hw
  unfold execOp
  simp [ho, hrun]
set_option maxRecDepth 100000 in
set_option maxHeartbeats 4000000 in
theorem roots_any (a b : Nat) (ha : a < 115792089237316195423570985008687907853269984665640564039457584007913129639936) (hb : b < 115792089237316195423570985008687907853269984665640564039457584007913129639936) (w : World) (hG0 : Glob w) :
    Calls Tryd.prog 5 #[.agg (num a), .agg (num b)] w fun e w' => e = .returned (.bool true) ∧ Below w.heap.size w w' := by
  have hG := Lib.hid hG0
  have H1 : Hid (∀ W, Glob W → Calls Tryd.prog 7 #[.agg (num (1))] W fun e w' => e = .returned (.tuple #[.agg (num (rootF (1)).1), .bool (rootF (1)).2]) ∧ Below W.heap.size W w') := Lib.hid (fun W h => root_any 1 (by decide) W h)
  rw [rootF_one] at H1
  have H2 := Lib.hid (subf_any 0 1 (by decide) (by decide))
  rw [show subF 0 1 = pp - 1 by decide] at H2
  have H3 : Hid (∀ W, Glob W → Calls Tryd.prog 7 #[.agg (num (pp - 1))] W fun e w' => e = .returned (.tuple #[.agg (num (rootF (pp - 1)).1), .bool (rootF (pp - 1)).2]) ∧ Below W.heap.size W w') := Lib.hid (fun W h => root_any (pp - 1) (by decide) W h)
  rw [rootF_less] at H3
  have H4 : Hid (∀ W, Glob W → Calls Tryd.prog 7 #[.agg (num (2))] W fun e w' => e = .returned (.tuple #[.agg (num (rootF (2)).1), .bool (rootF (2)).2]) ∧ Below W.heap.size W w') := Lib.hid (fun W h => root_any 2 (by decide) W h)
  rw [rootF_two] at H4
  have H5 := Lib.hid (mulf_any a a ha ha)
  have H6 : Hid (∀ W, Glob W → Calls Tryd.prog 7 #[.agg (num (mulF a a))] W fun e w' => e = .returned (.tuple #[.agg (num (rootF (mulF a a)).1), .bool (rootF (mulF a a)).2]) ∧ Below W.heap.size W w') := Lib.hid (fun W h => root_any (mulF a a) (pp_lt (mulF_lt _ _)) W h)
  rw [rootF_square] at H6
  have H7 := Lib.hid (mulf_any b b hb hb)
  have H8 : Hid (∀ W, Glob W → Calls Tryd.prog 7 #[.agg (num (mulF b b))] W fun e w' => e = .returned (.tuple #[.agg (num (rootF (mulF b b)).1), .bool (rootF (mulF b b)).2]) ∧ Below W.heap.size W w') := Lib.hid (fun W h => root_any (mulF b b) (pp_lt (mulF_lt _ _)) W h)
  rw [rootF_square] at H8
  have H9 := Lib.hid (mulf_any (rootF (mulF a a)).1 (rootF (mulF b b)).1 (pp_lt (rootF_lt _)) (pp_lt (rootF_lt _)))
  have H10 := Lib.hid (mulf_any a b ha hb)
  have H11 := Lib.hid (addf_any (pp - 1) 1 (by decide) (by decide))
  rw [show addF (pp - 1) 1 = 0 by decide] at H11
  have H12 := Lib.hid (mulf_any (rootF (pp - 1)).1 (rootF (pp - 1)).1 (pp_lt (rootF_lt _)) (pp_lt (rootF_lt _)))
  rw [rootF_sq _ rootF_less, show (pp - 1) % pp = pp - 1 by decide] at H12
  have H13 := Lib.hid (mulf_any (mulF (rootF (mulF a a)).1 (rootF (mulF b b)).1) (mulF (rootF (mulF a a)).1 (rootF (mulF b b)).1) (pp_lt (mulF_lt _ _)) (pp_lt (mulF_lt _ _)))
  rw [rootF_prod] at H13
  have H14 := Lib.hid (mulf_any (mulF a b) (mulF a b) (pp_lt (mulF_lt _ _)) (pp_lt (mulF_lt _ _)))
  have H15 := Lib.hid awake_any
  have hb0 := build0_run
  have hb1 := build_run 1 (by decide)
  have hb2 := build_run 2 (by decide)
  have HZ := zero_run
  obtain ⟨A, hA⟩ : ∃ A, Hid (A = num a) := ⟨_, Lib.hid rfl⟩
  have IA : IsNum A := by rw [hA.out]; exact isNum _
  obtain ⟨B, hB⟩ : ∃ B, Hid (B = num b) := ⟨_, Lib.hid rfl⟩
  have IB : IsNum B := by rw [hB.out]; exact isNum _
  obtain ⟨E, hE⟩ : ∃ E, Hid (E = num (pp - 1)) := ⟨_, Lib.hid rfl⟩
  have IE : IsNum E := by rw [hE.out]; exact isNum _
  obtain ⟨L, hL⟩ : ∃ L, Hid (L = num (rootF (pp - 1)).1) := ⟨_, Lib.hid rfl⟩
  have IL : IsNum L := by rw [hL.out]; exact isNum _
  obtain ⟨T2, hT2⟩ : ∃ T2, Hid (T2 = num (rootF 2).1) := ⟨_, Lib.hid rfl⟩
  have IT2 : IsNum T2 := by rw [hT2.out]; exact isNum _
  obtain ⟨QA, hQA⟩ : ∃ QA, Hid (QA = num (mulF a a)) := ⟨_, Lib.hid rfl⟩
  have IQA : IsNum QA := by rw [hQA.out]; exact isNum _
  obtain ⟨QB, hQB⟩ : ∃ QB, Hid (QB = num (mulF b b)) := ⟨_, Lib.hid rfl⟩
  have IQB : IsNum QB := by rw [hQB.out]; exact isNum _
  obtain ⟨X, hX⟩ : ∃ X, Hid (X = num (rootF (mulF a a)).1) := ⟨_, Lib.hid rfl⟩
  have IX : IsNum X := by rw [hX.out]; exact isNum _
  obtain ⟨Y, hY⟩ : ∃ Y, Hid (Y = num (rootF (mulF b b)).1) := ⟨_, Lib.hid rfl⟩
  have IY : IsNum Y := by rw [hY.out]; exact isNum _
  obtain ⟨PQ, hPQ⟩ : ∃ PQ, Hid (PQ = num (mulF (rootF (mulF a a)).1 (rootF (mulF b b)).1)) := ⟨_, Lib.hid rfl⟩
  have IPQ : IsNum PQ := by rw [hPQ.out]; exact isNum _
  obtain ⟨AB, hAB⟩ : ∃ AB, Hid (AB = num (mulF a b)) := ⟨_, Lib.hid rfl⟩
  have IAB : IsNum AB := by rw [hAB.out]; exact isNum _
  obtain ⟨S, hS⟩ : ∃ S, Hid (S = num (mulF (mulF a b) (mulF a b))) := ⟨_, Lib.hid rfl⟩
  have IS : IsNum S := by rw [hS.out]; exact isNum _
  obtain ⟨U1, hU1⟩ : ∃ U1, Hid (U1 = num 1) := ⟨_, Lib.hid rfl⟩
  have IU1 : IsNum U1 := by rw [hU1.out]; exact isNum _
  obtain ⟨U2, hU2⟩ : ∃ U2, Hid (U2 = num 2) := ⟨_, Lib.hid rfl⟩
  have IU2 : IsNum U2 := by rw [hU2.out]; exact isNum _
  obtain ⟨Z, hZ⟩ : ∃ Z, Hid (Z = num 0) := ⟨_, Lib.hid rfl⟩
  have IZ : IsNum Z := by rw [hZ.out]; exact isNum _
  rw [← hU1.out, ← hE.out] at H1
  rw [← hZ.out, ← hU1.out, ← hE.out] at H2
  rw [← hE.out, ← hL.out] at H3
  rw [← hU2.out, ← hT2.out] at H4
  rw [← hA.out, ← hQA.out] at H5
  rw [← hQA.out, ← hX.out] at H6
  rw [← hB.out, ← hQB.out] at H7
  rw [← hQB.out, ← hY.out] at H8
  rw [← hX.out, ← hY.out, ← hPQ.out] at H9
  rw [← hA.out, ← hB.out, ← hAB.out] at H10
  rw [← hE.out, ← hU1.out, ← hZ.out] at H11
  rw [← hL.out, ← hE.out] at H12
  rw [← hPQ.out, ← hS.out] at H13
  rw [← hAB.out, ← hS.out] at H14
  rw [← hZ.out] at hb0
  rw [← hU1.out] at hb1
  rw [← hU2.out] at hb2
  have HB0 := Lib.hid hb0
  have HB1 := Lib.hid hb1
  have HB2 := Lib.hid hb2
  have HZ2 : ∀ w, (zeroValue 24).run Tryd.prog w = .ok (.agg Z) w := by rw [hZ.out]; exact HZ
  have IZ2 := IZ.size
  rw [← hA.out, ← hB.out]
  clear HZ hb0 hb1 hb2 hG0 ha hb hA hB hE hL hT2 hQA hQB hX hY hPQ hAB hS hU1 hU2 hZ
  have hz4 : ∀ W : World, Kn W [(W.heap.size, A), (W.heap.size + 1, B)] ((W.alloc (.cells A 24)).alloc (.cells B 24)) := by
    intro W
    have h := ((Kn.nil W).new A).new B
    simp only [World.size_alloc] at h
    exact h.sub (fun p hp => by simp at hp ⊢; rcases hp with h | h <;> simp [h])
  have HS := Lib.hid (hz4 w)
  clear hz4
  go_enter Tryd.func5, Tryd.ntmps5
  go_upto_region 1 with fail
  try simp only [Act.put, List.setIfInBounds_toArray, List.set_cons_succ, List.set_cons_zero]
  generalize (w.alloc (.cells A 24)).alloc (.cells B 24) = W0 at *
  have HC := Lib.hid (H1.out _ (hG.out.kn HS.out))
  go_wp2_with (first | (refine wpList_run rfl _ (exec_build1 _ 24 0 (.const (.int .u64 1)) rfl (.int .u64 1) rfl _ (HB1.out _)) ?_))
  refine HC.out.mono ?_
  rintro e w1 ⟨rfl, hb⟩
  have HS2 := Lib.hid (HS.out.below hb)
  clear hb HC HS H1
  have HS3_ : Kn w [(w.heap.size, A), (w.heap.size + 1, B), (w1.heap.size, E)] (w1.alloc (.cells E 24)) := (HS2.out.new E).sub (fun p hp => by simp at hp ⊢; rcases hp with h | h | h <;> simp [h])
  have HS3 := Lib.hid HS3_
  clear HS3_ HS2
  go_upto_region 2 with (first | ((refine wpList_run rfl _ (exec_alloc_agg _ 24 rfl _ (HZ2 _)) ?_); try simp only [World.size_alloc]) | (refine wpList_run0 rfl (exec_new24 _ (.tmp 5) (.tmp 20) rfl _ _ rfl E IE rfl IZ2) ?_))
  try simp only [Act.put, List.setIfInBounds_toArray, List.set_cons_succ, List.set_cons_zero]
  generalize w1.alloc (.cells E 24) = W4 at *
  generalize w1.heap.size = g5 at *
  go_wp2_with (first | (refine wpList_run rfl _ (exec_build0 rfl (.agg Z) (HB0.out _) _) ?_) | (refine wpList_run rfl _ (exec_build1 _ 24 0 (.const (.int .u64 1)) rfl (.int .u64 1) rfl _ (HB1.out _)) ?_))
  refine (H2.out _).mono ?_
  rintro e w5 ⟨rfl, hb⟩
  have HS6 := Lib.hid (HS3.out.below hb)
  clear hb HS3 H2
  have HC := Lib.hid (H3.out _ (hG.out.kn HS6.out))
  go_wp2_with fail
  refine HC.out.mono ?_
  rintro e w7 ⟨rfl, hb⟩
  have HS8 := Lib.hid (HS6.out.below hb)
  clear hb HC HS6 H3
  have HS9_ : Kn w [(w.heap.size, A), (w.heap.size + 1, B), (g5, E), (w7.heap.size, L)] (w7.alloc (.cells L 24)) := (HS8.out.new L).sub (fun p hp => by simp at hp ⊢; rcases hp with h | h | h | h <;> simp [h])
  have HS9 := Lib.hid HS9_
  clear HS9_ HS8
  go_upto_region 3 with (first | ((refine wpList_run rfl _ (exec_alloc_agg _ 24 rfl _ (HZ2 _)) ?_); try simp only [World.size_alloc]) | (refine wpList_run0 rfl (exec_new24 _ (.tmp 7) (.tmp 27) rfl _ _ rfl L IL rfl IZ2) ?_))
  try simp only [Act.put, List.setIfInBounds_toArray, List.set_cons_succ, List.set_cons_zero]
  generalize w7.alloc (.cells L 24) = W10 at *
  generalize w7.heap.size = g7 at *
  have HC := Lib.hid (H4.out _ (hG.out.kn HS9.out))
  go_wp2_with (first | (refine wpList_run rfl _ (exec_build1 _ 24 0 (.const (.int .u64 2)) rfl (.int .u64 2) rfl _ (HB2.out _)) ?_))
  refine HC.out.mono ?_
  rintro e w11 ⟨rfl, hb⟩
  have HS12 := Lib.hid (HS9.out.below hb)
  clear hb HC HS9 H4
  have HS13 := Lib.hid (HS12.out.alloc (.cells T2 24))
  clear HS12
  go_upto_region 4 with (first | ((refine wpList_run rfl _ (exec_alloc_agg _ 24 rfl _ (HZ2 _)) ?_); try simp only [World.size_alloc]) | (refine wpList_run0 rfl (exec_new24 _ (.tmp 9) (.tmp 32) rfl _ _ rfl T2 IT2 rfl IZ2) ?_))
  try simp only [Act.put, List.setIfInBounds_toArray, List.set_cons_succ, List.set_cons_zero]
  generalize w11.alloc (.cells T2 24) = W14 at *
  generalize w11.heap.size = g9 at *
  have hl15 := HS13.out.load (w.heap.size) A (by simp) IA
  go_wp2_with (refine wpList_run rfl _ (exec_load_of _ 24 (.tmp 2) rfl ⟨w.heap.size, 0, none⟩ rfl (.agg A) hl15) ?_)
  clear hl15
  refine (H5.out _).mono ?_
  rintro e w16 ⟨rfl, hb⟩
  have HS17 := Lib.hid (HS13.out.below hb)
  clear hb HS13 H5
  have HC := Lib.hid (H6.out _ (hG.out.kn HS17.out))
  go_wp2_with fail
  refine HC.out.mono ?_
  rintro e w18 ⟨rfl, hb⟩
  have HS19 := Lib.hid (HS17.out.below hb)
  clear hb HC HS17 H6
  have HS20_ : Kn w [(w.heap.size, A), (w.heap.size + 1, B), (g5, E), (g7, L), (w18.heap.size, X)] (w18.alloc (.cells X 24)) := (HS19.out.new X).sub (fun p hp => by simp at hp ⊢; rcases hp with h | h | h | h | h <;> simp [h])
  have HS20 := Lib.hid HS20_
  clear HS20_ HS19
  go_upto_region 5 with (first | ((refine wpList_run rfl _ (exec_alloc_agg _ 24 rfl _ (HZ2 _)) ?_); try simp only [World.size_alloc]) | (refine wpList_run0 rfl (exec_new24 _ (.tmp 11) (.tmp 39) rfl _ _ rfl X IX rfl IZ2) ?_))
  try simp only [Act.put, List.setIfInBounds_toArray, List.set_cons_succ, List.set_cons_zero]
  generalize w18.alloc (.cells X 24) = W21 at *
  generalize w18.heap.size = g11 at *
  have hl22 := HS20.out.load (w.heap.size + 1) B (by simp) IB
  go_wp2_with (refine wpList_run rfl _ (exec_load_of _ 24 (.tmp 3) rfl ⟨w.heap.size + 1, 0, none⟩ rfl (.agg B) hl22) ?_)
  clear hl22
  refine (H7.out _).mono ?_
  rintro e w23 ⟨rfl, hb⟩
  have HS24 := Lib.hid (HS20.out.below hb)
  clear hb HS20 H7
  have HC := Lib.hid (H8.out _ (hG.out.kn HS24.out))
  go_wp2_with fail
  refine HC.out.mono ?_
  rintro e w25 ⟨rfl, hb⟩
  have HS26 := Lib.hid (HS24.out.below hb)
  clear hb HC HS24 H8
  have HS27_ : Kn w [(w.heap.size, A), (w.heap.size + 1, B), (g5, E), (g7, L), (g11, X), (w25.heap.size, Y)] (w25.alloc (.cells Y 24)) := (HS26.out.new Y).sub (fun p hp => by simp at hp ⊢; rcases hp with h | h | h | h | h | h <;> simp [h])
  have HS27 := Lib.hid HS27_
  clear HS27_ HS26
  go_upto_region 6 with (first | ((refine wpList_run rfl _ (exec_alloc_agg _ 24 rfl _ (HZ2 _)) ?_); try simp only [World.size_alloc]) | (refine wpList_run0 rfl (exec_new24 _ (.tmp 13) (.tmp 46) rfl _ _ rfl Y IY rfl IZ2) ?_))
  try simp only [Act.put, List.setIfInBounds_toArray, List.set_cons_succ, List.set_cons_zero]
  generalize w25.alloc (.cells Y 24) = W28 at *
  generalize w25.heap.size = g13 at *
  have hl29 := HS27.out.load (g11) X (by simp) IX
  have hl30 := HS27.out.load (g13) Y (by simp) IY
  go_wp2_with (first | (refine wpList_run rfl _ (exec_load_of _ 24 (.tmp 11) rfl ⟨g11, 0, none⟩ rfl (.agg X) hl29) ?_) | (refine wpList_run rfl _ (exec_load_of _ 24 (.tmp 13) rfl ⟨g13, 0, none⟩ rfl (.agg Y) hl30) ?_))
  clear hl29 hl30
  refine (H9.out _).mono ?_
  rintro e w31 ⟨rfl, hb⟩
  have HS32 := Lib.hid (HS27.out.below hb)
  clear hb HS27 H9
  have HS33_ : Kn w [(w.heap.size, A), (w.heap.size + 1, B), (g5, E), (g7, L), (g11, X), (g13, Y), (w31.heap.size, PQ)] (w31.alloc (.cells PQ 24)) := (HS32.out.new PQ).sub (fun p hp => by simp at hp ⊢; rcases hp with h | h | h | h | h | h | h <;> simp [h])
  have HS33 := Lib.hid HS33_
  clear HS33_ HS32
  go_upto_region 7 with (first | ((refine wpList_run rfl _ (exec_alloc_agg _ 24 rfl _ (HZ2 _)) ?_); try simp only [World.size_alloc]) | (refine wpList_run0 rfl (exec_new24 _ (.tmp 15) (.tmp 50) rfl _ _ rfl PQ IPQ rfl IZ2) ?_))
  try simp only [Act.put, List.setIfInBounds_toArray, List.set_cons_succ, List.set_cons_zero]
  generalize w31.alloc (.cells PQ 24) = W34 at *
  generalize w31.heap.size = g15 at *
  have hl35 := HS33.out.load (w.heap.size) A (by simp) IA
  have hl36 := HS33.out.load (w.heap.size + 1) B (by simp) IB
  go_wp2_with (first | (refine wpList_run rfl _ (exec_load_of _ 24 (.tmp 2) rfl ⟨w.heap.size, 0, none⟩ rfl (.agg A) hl35) ?_) | (refine wpList_run rfl _ (exec_load_of _ 24 (.tmp 3) rfl ⟨w.heap.size + 1, 0, none⟩ rfl (.agg B) hl36) ?_))
  clear hl35 hl36
  refine (H10.out _).mono ?_
  rintro e w37 ⟨rfl, hb⟩
  have HS38 := Lib.hid (HS33.out.below hb)
  clear hb HS33 H10
  have HS39_ : Kn w [(w.heap.size, A), (w.heap.size + 1, B), (g5, E), (g7, L), (g11, X), (g13, Y), (g15, PQ), (w37.heap.size, AB)] (w37.alloc (.cells AB 24)) := (HS38.out.new AB).sub (fun p hp => by simp at hp ⊢; rcases hp with h | h | h | h | h | h | h | h <;> simp [h])
  have HS39 := Lib.hid HS39_
  clear HS39_ HS38
  go_upto_region 8 with (first | ((refine wpList_run rfl _ (exec_alloc_agg _ 24 rfl _ (HZ2 _)) ?_); try simp only [World.size_alloc]) | (refine wpList_run0 rfl (exec_new24 _ (.tmp 16) (.tmp 53) rfl _ _ rfl AB IAB rfl IZ2) ?_))
  try simp only [Act.put, List.setIfInBounds_toArray, List.set_cons_succ, List.set_cons_zero]
  generalize w37.alloc (.cells AB 24) = W40 at *
  generalize w37.heap.size = g16 at *
  refine wp_nrm ?_
  refine wp_region_any (by kernel_rfl) ?_
  change wpAny _ _ _ _ _ _ _ (World.drew _)
  have HD := HS39.out.drew
  clear HS39
  generalize W40.drew = Wd at *
  refine any_of_F (S := Kn w [(w.heap.size, A), (w.heap.size + 1, B), (g5, E), (g7, L), (g11, X), (g13, Y), (g15, PQ), (g16, AB)]) (f := 1000) _ _ _ _ ?_
  refine AnyF.takeG (by rfl) 0 (some 54) (.move (.tmp 6)) none (.bool true) rfl (by kernel_rfl) (by kernel_rfl) (by kernel_rfl) (fun _ _ _ h => h) rfl (fun o h => by obtain rfl := Option.some.inj h; rfl) (fun o ho w2 hw => exec_move (.tmp 6) ho _ rfl w2) HD ?_
  simp only [Act.put, List.setIfInBounds_toArray, List.set_cons_succ, List.set_cons_zero]
  refine AnyF.takeG (by rfl) 1 (some 55) (.move (.tmp 54)) none (.bool true) rfl (by kernel_rfl) (by kernel_rfl) (by kernel_rfl) (fun _ _ _ h => h) rfl (fun o h => by obtain rfl := Option.some.inj h; rfl) (fun o ho w2 hw => exec_move (.tmp 54) ho _ rfl w2) HD ?_
  simp only [Act.put, List.setIfInBounds_toArray, List.set_cons_succ, List.set_cons_zero]
  refine AnyF.takeG (by rfl) 2 (some 56) (.load 24 (.tmp 5)) (some (1, true)) (.agg E) rfl (by kernel_rfl) (by kernel_rfl) (by kernel_rfl) (fun _ _ _ h => h) rfl (fun o h => by obtain rfl := Option.some.inj h; rfl) (fun o ho w2 hw => exec_load_of _ 24 (.tmp 5) ho ⟨g5, 0, none⟩ rfl _ (hw.load (g5) E (by simp) IE)) HD ?_
  simp only [Act.put, List.setIfInBounds_toArray, List.set_cons_succ, List.set_cons_zero]
  refine AnyF.takeG (by rfl) 3 (some 57) (.build 24 #[(0, .const (.int .u64 1))]) (some (1, true)) (.agg U1) rfl (by kernel_rfl) (by kernel_rfl) (by kernel_rfl) (fun _ _ _ h => h) rfl (fun o h => by obtain rfl := Option.some.inj h; rfl) (fun o ho w2 hw => exec_build1 w2 24 0 (.const (.int .u64 1)) ho _ rfl _ (HB1.out w2)) HD ?_
  simp only [Act.put, List.setIfInBounds_toArray, List.set_cons_succ, List.set_cons_zero]
  refine AnyF.takeG (by rfl) 5 (some 59) (.build 24 #[]) (some (1, true)) (.agg Z) rfl (by kernel_rfl) (by kernel_rfl) (by kernel_rfl) (fun _ _ _ h => h) rfl (fun o h => by obtain rfl := Option.some.inj h; rfl) (fun o ho w2 hw => exec_build0 ho _ (HB0.out w2) w2) HD ?_
  simp only [Act.put, List.setIfInBounds_toArray, List.set_cons_succ, List.set_cons_zero]
  refine AnyF.ready (rs := [4]) (by kernel_rfl) (by simp) (ReadyF.callG (some 58) 13 #[.tmp 56, .tmp 57] #[24, 24] (some (1, true)) rfl (fun o h => by obtain rfl := Option.some.inj h; rfl) #[.agg E, .agg U1] (by simp [Act.eval]) enters13 _ (H11.out _) ?_ (fun c w' h => by cases h.1) (fun w' h => by cases h.1) ReadyF.nil)
  rintro v wt1 ⟨he, hb⟩
  cases he
  have Ht2 := HD.below hb
  clear hb
  refine ⟨Ht2, ?_⟩
  simp only [Act.put, List.setIfInBounds_toArray, List.set_cons_succ, List.set_cons_zero]
  refine AnyF.takeG (by rfl) 6 (some 60) (.binOp .eql 24 (.tmp 58) (.tmp 59) 24) (some (1, true)) (.bool true) rfl (by kernel_rfl) (by kernel_rfl) (by kernel_rfl) (fun _ _ _ h => h) rfl (fun o h => by obtain rfl := Option.some.inj h; rfl) (fun o ho w2 hw => exec_eqA (.tmp 58) (.tmp 59) ho Z IZ rfl rfl w2) Ht2 ?_
  simp only [Act.put, List.setIfInBounds_toArray, List.set_cons_succ, List.set_cons_zero]
  refine AnyF.takeG (by rfl) 7 (some 61) (.pick (.tmp 55) (.tmp 60) (.const (.bool false))) none (.bool true) rfl (by kernel_rfl) (by kernel_rfl) (by kernel_rfl) (fun _ _ _ h => h) rfl (fun o h => by obtain rfl := Option.some.inj h; rfl) (fun o ho w2 hw => exec_pickt (.tmp 55) (.tmp 60) (.const (.bool false)) ho rfl _ rfl w2) Ht2 ?_
  simp only [Act.put, List.setIfInBounds_toArray, List.set_cons_succ, List.set_cons_zero]
  refine AnyF.takeG (by rfl) 8 (some 62) (.move (.tmp 61)) none (.bool true) rfl (by kernel_rfl) (by kernel_rfl) (by kernel_rfl) (fun _ _ _ h => h) rfl (fun o h => by obtain rfl := Option.some.inj h; rfl) (fun o ho w2 hw => exec_move (.tmp 61) ho _ rfl w2) Ht2 ?_
  simp only [Act.put, List.setIfInBounds_toArray, List.set_cons_succ, List.set_cons_zero]
  refine AnyF.takeG (by rfl) 9 (some 63) (.move (.tmp 8)) (some (8, true)) (.bool true) rfl (by kernel_rfl) (by kernel_rfl) (by kernel_rfl) (fun _ _ _ h => h) rfl (fun o h => by obtain rfl := Option.some.inj h; rfl) (fun o ho w2 hw => exec_move (.tmp 8) ho _ rfl w2) Ht2 ?_
  simp only [Act.put, List.setIfInBounds_toArray, List.set_cons_succ, List.set_cons_zero]
  refine AnyF.takeG (by rfl) 10 (some 64) (.pick (.tmp 62) (.tmp 63) (.const (.bool false))) none (.bool true) rfl (by kernel_rfl) (by kernel_rfl) (by kernel_rfl) (fun _ _ _ h => h) rfl (fun o h => by obtain rfl := Option.some.inj h; rfl) (fun o ho w2 hw => exec_pickt (.tmp 62) (.tmp 63) (.const (.bool false)) ho rfl _ rfl w2) Ht2 ?_
  simp only [Act.put, List.setIfInBounds_toArray, List.set_cons_succ, List.set_cons_zero]
  refine AnyF.takeG (by rfl) 11 (some 65) (.move (.tmp 64)) none (.bool true) rfl (by kernel_rfl) (by kernel_rfl) (by kernel_rfl) (fun _ _ _ h => h) rfl (fun o h => by obtain rfl := Option.some.inj h; rfl) (fun o ho w2 hw => exec_move (.tmp 64) ho _ rfl w2) Ht2 ?_
  simp only [Act.put, List.setIfInBounds_toArray, List.set_cons_succ, List.set_cons_zero]
  refine AnyF.takeG (by rfl) 12 (some 66) (.load 24 (.tmp 7)) (some (11, true)) (.agg L) rfl (by kernel_rfl) (by kernel_rfl) (by kernel_rfl) (fun _ _ _ h => h) rfl (fun o h => by obtain rfl := Option.some.inj h; rfl) (fun o ho w2 hw => exec_load_of _ 24 (.tmp 7) ho ⟨g7, 0, none⟩ rfl _ (hw.load (g7) L (by simp) IL)) Ht2 ?_
  simp only [Act.put, List.setIfInBounds_toArray, List.set_cons_succ, List.set_cons_zero]
  refine AnyF.takeG (by rfl) 13 (some 67) (.load 24 (.tmp 7)) (some (11, true)) (.agg L) rfl (by kernel_rfl) (by kernel_rfl) (by kernel_rfl) (fun _ _ _ h => h) rfl (fun o h => by obtain rfl := Option.some.inj h; rfl) (fun o ho w2 hw => exec_load_of _ 24 (.tmp 7) ho ⟨g7, 0, none⟩ rfl _ (hw.load (g7) L (by simp) IL)) Ht2 ?_
  simp only [Act.put, List.setIfInBounds_toArray, List.set_cons_succ, List.set_cons_zero]
  refine AnyF.takeG (by rfl) 15 (some 69) (.build 24 #[(0, .const (.int .u64 1))]) (some (11, true)) (.agg U1) rfl (by kernel_rfl) (by kernel_rfl) (by kernel_rfl) (fun _ _ _ h => h) rfl (fun o h => by obtain rfl := Option.some.inj h; rfl) (fun o ho w2 hw => exec_build1 w2 24 0 (.const (.int .u64 1)) ho _ rfl _ (HB1.out w2)) Ht2 ?_
  simp only [Act.put, List.setIfInBounds_toArray, List.set_cons_succ, List.set_cons_zero]
  refine AnyF.takeG (by rfl) 17 (some 71) (.build 24 #[]) (some (11, true)) (.agg Z) rfl (by kernel_rfl) (by kernel_rfl) (by kernel_rfl) (fun _ _ _ h => h) rfl (fun o h => by obtain rfl := Option.some.inj h; rfl) (fun o ho w2 hw => exec_build0 ho _ (HB0.out w2) w2) Ht2 ?_
  simp only [Act.put, List.setIfInBounds_toArray, List.set_cons_succ, List.set_cons_zero]
  refine AnyF.ready (rs := [14]) (by kernel_rfl) (by simp) (ReadyF.callG (some 68) 17 #[.tmp 66, .tmp 67] #[24, 24] (some (11, true)) rfl (fun o h => by obtain rfl := Option.some.inj h; rfl) #[.agg L, .agg L] (by simp [Act.eval]) enters17 _ (H12.out _) ?_ (fun c w' h => by cases h.1) (fun w' h => by cases h.1) ReadyF.nil)
  rintro v wt3 ⟨he, hb⟩
  cases he
  have Ht4 := Ht2.below hb
  clear hb
  refine ⟨Ht4, ?_⟩
  simp only [Act.put, List.setIfInBounds_toArray, List.set_cons_succ, List.set_cons_zero]
  refine AnyF.ready (rs := [16]) (by kernel_rfl) (by simp) (ReadyF.callG (some 70) 13 #[.tmp 68, .tmp 69] #[24, 24] (some (11, true)) rfl (fun o h => by obtain rfl := Option.some.inj h; rfl) #[.agg E, .agg U1] (by simp [Act.eval]) enters13 _ (H11.out _) ?_ (fun c w' h => by cases h.1) (fun w' h => by cases h.1) ReadyF.nil)
  rintro v wt5 ⟨he, hb⟩
  cases he
  have Ht6 := Ht4.below hb
  clear hb
  refine ⟨Ht6, ?_⟩
  simp only [Act.put, List.setIfInBounds_toArray, List.set_cons_succ, List.set_cons_zero]
  refine AnyF.takeG (by rfl) 18 (some 72) (.binOp .eql 24 (.tmp 70) (.tmp 71) 24) (some (11, true)) (.bool true) rfl (by kernel_rfl) (by kernel_rfl) (by kernel_rfl) (fun _ _ _ h => h) rfl (fun o h => by obtain rfl := Option.some.inj h; rfl) (fun o ho w2 hw => exec_eqA (.tmp 70) (.tmp 71) ho Z IZ rfl rfl w2) Ht6 ?_
  simp only [Act.put, List.setIfInBounds_toArray, List.set_cons_succ, List.set_cons_zero]
  refine AnyF.takeG (by rfl) 19 (some 73) (.pick (.tmp 65) (.tmp 72) (.const (.bool false))) none (.bool true) rfl (by kernel_rfl) (by kernel_rfl) (by kernel_rfl) (fun _ _ _ h => h) rfl (fun o h => by obtain rfl := Option.some.inj h; rfl) (fun o ho w2 hw => exec_pickt (.tmp 65) (.tmp 72) (.const (.bool false)) ho rfl _ rfl w2) Ht6 ?_
  simp only [Act.put, List.setIfInBounds_toArray, List.set_cons_succ, List.set_cons_zero]
  refine AnyF.takeG (by rfl) 20 (some 74) (.move (.tmp 73)) none (.bool true) rfl (by kernel_rfl) (by kernel_rfl) (by kernel_rfl) (fun _ _ _ h => h) rfl (fun o h => by obtain rfl := Option.some.inj h; rfl) (fun o ho w2 hw => exec_move (.tmp 73) ho _ rfl w2) Ht6 ?_
  simp only [Act.put, List.setIfInBounds_toArray, List.set_cons_succ, List.set_cons_zero]
  refine AnyF.takeG (by rfl) 21 (some 75) (.move (.tmp 10)) (some (20, true)) (.bool false) rfl (by kernel_rfl) (by kernel_rfl) (by kernel_rfl) (fun _ _ _ h => h) rfl (fun o h => by obtain rfl := Option.some.inj h; rfl) (fun o ho w2 hw => exec_move (.tmp 10) ho _ rfl w2) Ht6 ?_
  simp only [Act.put, List.setIfInBounds_toArray, List.set_cons_succ, List.set_cons_zero]
  refine AnyF.takeG (by rfl) 22 (some 76) (.unOp .not 4 (.tmp 75)) (some (20, true)) (.bool true) rfl (by kernel_rfl) (by kernel_rfl) (by kernel_rfl) (fun _ _ _ h => h) rfl (fun o h => by obtain rfl := Option.some.inj h; rfl) (fun o ho w2 hw => exec_notf (.tmp 75) ho rfl w2) Ht6 ?_
  simp only [Act.put, List.setIfInBounds_toArray, List.set_cons_succ, List.set_cons_zero]
  refine AnyF.takeG (by rfl) 23 (some 77) (.pick (.tmp 74) (.tmp 76) (.const (.bool false))) none (.bool true) rfl (by kernel_rfl) (by kernel_rfl) (by kernel_rfl) (fun _ _ _ h => h) rfl (fun o h => by obtain rfl := Option.some.inj h; rfl) (fun o ho w2 hw => exec_pickt (.tmp 74) (.tmp 76) (.const (.bool false)) ho rfl _ rfl w2) Ht6 ?_
  simp only [Act.put, List.setIfInBounds_toArray, List.set_cons_succ, List.set_cons_zero]
  refine AnyF.takeG (by rfl) 24 (some 78) (.move (.tmp 77)) none (.bool true) rfl (by kernel_rfl) (by kernel_rfl) (by kernel_rfl) (fun _ _ _ h => h) rfl (fun o h => by obtain rfl := Option.some.inj h; rfl) (fun o ho w2 hw => exec_move (.tmp 77) ho _ rfl w2) Ht6 ?_
  simp only [Act.put, List.setIfInBounds_toArray, List.set_cons_succ, List.set_cons_zero]
  refine AnyF.takeG (by rfl) 25 (some 79) (.move (.tmp 12)) (some (24, true)) (.bool true) rfl (by kernel_rfl) (by kernel_rfl) (by kernel_rfl) (fun _ _ _ h => h) rfl (fun o h => by obtain rfl := Option.some.inj h; rfl) (fun o ho w2 hw => exec_move (.tmp 12) ho _ rfl w2) Ht6 ?_
  simp only [Act.put, List.setIfInBounds_toArray, List.set_cons_succ, List.set_cons_zero]
  refine AnyF.takeG (by rfl) 26 (some 80) (.pick (.tmp 78) (.tmp 79) (.const (.bool false))) none (.bool true) rfl (by kernel_rfl) (by kernel_rfl) (by kernel_rfl) (fun _ _ _ h => h) rfl (fun o h => by obtain rfl := Option.some.inj h; rfl) (fun o ho w2 hw => exec_pickt (.tmp 78) (.tmp 79) (.const (.bool false)) ho rfl _ rfl w2) Ht6 ?_
  simp only [Act.put, List.setIfInBounds_toArray, List.set_cons_succ, List.set_cons_zero]
  refine AnyF.takeG (by rfl) 27 (some 81) (.move (.tmp 80)) none (.bool true) rfl (by kernel_rfl) (by kernel_rfl) (by kernel_rfl) (fun _ _ _ h => h) rfl (fun o h => by obtain rfl := Option.some.inj h; rfl) (fun o ho w2 hw => exec_move (.tmp 80) ho _ rfl w2) Ht6 ?_
  simp only [Act.put, List.setIfInBounds_toArray, List.set_cons_succ, List.set_cons_zero]
  refine AnyF.takeG (by rfl) 28 (some 82) (.move (.tmp 14)) (some (27, true)) (.bool true) rfl (by kernel_rfl) (by kernel_rfl) (by kernel_rfl) (fun _ _ _ h => h) rfl (fun o h => by obtain rfl := Option.some.inj h; rfl) (fun o ho w2 hw => exec_move (.tmp 14) ho _ rfl w2) Ht6 ?_
  simp only [Act.put, List.setIfInBounds_toArray, List.set_cons_succ, List.set_cons_zero]
  refine AnyF.takeG (by rfl) 29 (some 83) (.pick (.tmp 81) (.tmp 82) (.const (.bool false))) none (.bool true) rfl (by kernel_rfl) (by kernel_rfl) (by kernel_rfl) (fun _ _ _ h => h) rfl (fun o h => by obtain rfl := Option.some.inj h; rfl) (fun o ho w2 hw => exec_pickt (.tmp 81) (.tmp 82) (.const (.bool false)) ho rfl _ rfl w2) Ht6 ?_
  simp only [Act.put, List.setIfInBounds_toArray, List.set_cons_succ, List.set_cons_zero]
  refine AnyF.takeG (by rfl) 30 (some 84) (.move (.tmp 83)) none (.bool true) rfl (by kernel_rfl) (by kernel_rfl) (by kernel_rfl) (fun _ _ _ h => h) rfl (fun o h => by obtain rfl := Option.some.inj h; rfl) (fun o ho w2 hw => exec_move (.tmp 83) ho _ rfl w2) Ht6 ?_
  simp only [Act.put, List.setIfInBounds_toArray, List.set_cons_succ, List.set_cons_zero]
  refine AnyF.takeG (by rfl) 31 (some 85) (.load 24 (.tmp 15)) (some (30, true)) (.agg PQ) rfl (by kernel_rfl) (by kernel_rfl) (by kernel_rfl) (fun _ _ _ h => h) rfl (fun o h => by obtain rfl := Option.some.inj h; rfl) (fun o ho w2 hw => exec_load_of _ 24 (.tmp 15) ho ⟨g15, 0, none⟩ rfl _ (hw.load (g15) PQ (by simp) IPQ)) Ht6 ?_
  simp only [Act.put, List.setIfInBounds_toArray, List.set_cons_succ, List.set_cons_zero]
  refine AnyF.takeG (by rfl) 32 (some 86) (.load 24 (.tmp 15)) (some (30, true)) (.agg PQ) rfl (by kernel_rfl) (by kernel_rfl) (by kernel_rfl) (fun _ _ _ h => h) rfl (fun o h => by obtain rfl := Option.some.inj h; rfl) (fun o ho w2 hw => exec_load_of _ 24 (.tmp 15) ho ⟨g15, 0, none⟩ rfl _ (hw.load (g15) PQ (by simp) IPQ)) Ht6 ?_
  simp only [Act.put, List.setIfInBounds_toArray, List.set_cons_succ, List.set_cons_zero]
  refine AnyF.takeG (by rfl) 34 (some 88) (.load 24 (.tmp 16)) (some (30, true)) (.agg AB) rfl (by kernel_rfl) (by kernel_rfl) (by kernel_rfl) (fun _ _ _ h => h) rfl (fun o h => by obtain rfl := Option.some.inj h; rfl) (fun o ho w2 hw => exec_load_of _ 24 (.tmp 16) ho ⟨g16, 0, none⟩ rfl _ (hw.load (g16) AB (by simp) IAB)) Ht6 ?_
  simp only [Act.put, List.setIfInBounds_toArray, List.set_cons_succ, List.set_cons_zero]
  refine AnyF.takeG (by rfl) 35 (some 89) (.load 24 (.tmp 16)) (some (30, true)) (.agg AB) rfl (by kernel_rfl) (by kernel_rfl) (by kernel_rfl) (fun _ _ _ h => h) rfl (fun o h => by obtain rfl := Option.some.inj h; rfl) (fun o ho w2 hw => exec_load_of _ 24 (.tmp 16) ho ⟨g16, 0, none⟩ rfl _ (hw.load (g16) AB (by simp) IAB)) Ht6 ?_
  simp only [Act.put, List.setIfInBounds_toArray, List.set_cons_succ, List.set_cons_zero]
  refine AnyF.ready (rs := [33]) (by kernel_rfl) (by simp) (ReadyF.callG (some 87) 17 #[.tmp 85, .tmp 86] #[24, 24] (some (30, true)) rfl (fun o h => by obtain rfl := Option.some.inj h; rfl) #[.agg PQ, .agg PQ] (by simp [Act.eval]) enters17 _ (H13.out _) ?_ (fun c w' h => by cases h.1) (fun w' h => by cases h.1) ReadyF.nil)
  rintro v wt7 ⟨he, hb⟩
  cases he
  have Ht8 := Ht6.below hb
  clear hb
  refine ⟨Ht8, ?_⟩
  simp only [Act.put, List.setIfInBounds_toArray, List.set_cons_succ, List.set_cons_zero]
  refine AnyF.ready (rs := [36]) (by kernel_rfl) (by simp) (ReadyF.callG (some 90) 17 #[.tmp 88, .tmp 89] #[24, 24] (some (30, true)) rfl (fun o h => by obtain rfl := Option.some.inj h; rfl) #[.agg AB, .agg AB] (by simp [Act.eval]) enters17 _ (H14.out _) ?_ (fun c w' h => by cases h.1) (fun w' h => by cases h.1) ReadyF.nil)
  rintro v wt9 ⟨he, hb⟩
  cases he
  have Ht10 := Ht8.below hb
  clear hb
  refine ⟨Ht10, ?_⟩
  simp only [Act.put, List.setIfInBounds_toArray, List.set_cons_succ, List.set_cons_zero]
  refine AnyF.takeG (by rfl) 37 (some 91) (.binOp .eql 24 (.tmp 87) (.tmp 90) 24) (some (30, true)) (.bool true) rfl (by kernel_rfl) (by kernel_rfl) (by kernel_rfl) (fun _ _ _ h => h) rfl (fun o h => by obtain rfl := Option.some.inj h; rfl) (fun o ho w2 hw => exec_eqA (.tmp 87) (.tmp 90) ho S IS rfl rfl w2) Ht10 ?_
  simp only [Act.put, List.setIfInBounds_toArray, List.set_cons_succ, List.set_cons_zero]
  refine AnyF.takeG (by rfl) 38 (some 92) (.pick (.tmp 84) (.tmp 91) (.const (.bool false))) none (.bool true) rfl (by kernel_rfl) (by kernel_rfl) (by kernel_rfl) (fun _ _ _ h => h) rfl (fun o h => by obtain rfl := Option.some.inj h; rfl) (fun o ho w2 hw => exec_pickt (.tmp 84) (.tmp 91) (.const (.bool false)) ho rfl _ rfl w2) Ht10 ?_
  simp only [Act.put, List.setIfInBounds_toArray, List.set_cons_succ, List.set_cons_zero]
  refine AnyF.takeG (by rfl) 39 (some 93) (.move (.tmp 92)) none (.bool true) rfl (by kernel_rfl) (by kernel_rfl) (by kernel_rfl) (fun _ _ _ h => h) rfl (fun o h => by obtain rfl := Option.some.inj h; rfl) (fun o ho w2 hw => exec_move (.tmp 92) ho _ rfl w2) Ht10 ?_
  simp only [Act.put, List.setIfInBounds_toArray, List.set_cons_succ, List.set_cons_zero]
  refine AnyF.ready (rs := [40]) (by kernel_rfl) (by simp) (ReadyF.callG (some 94) 6 #[] #[] (some (39, true)) rfl (fun o h => by obtain rfl := Option.some.inj h; rfl) #[] (by simp [Act.eval]) enters6 _ (H15.out _) ?_ (fun c w' h => by cases h.1) (fun w' h => by cases h.1) ReadyF.nil)
  rintro v wt11 ⟨he, hb⟩
  cases he
  have Ht12 := Ht10.below hb
  clear hb
  refine ⟨Ht12, ?_⟩
  simp only [Act.put, List.setIfInBounds_toArray, List.set_cons_succ, List.set_cons_zero]
  refine AnyF.takeG (by rfl) 41 (some 95) (.pick (.tmp 93) (.tmp 94) (.const (.bool false))) none (.bool true) rfl (by kernel_rfl) (by kernel_rfl) (by kernel_rfl) (fun _ _ _ h => h) rfl (fun o h => by obtain rfl := Option.some.inj h; rfl) (fun o ho w2 hw => exec_pickt (.tmp 93) (.tmp 94) (.const (.bool false)) ho rfl _ rfl w2) Ht12 ?_
  simp only [Act.put, List.setIfInBounds_toArray, List.set_cons_succ, List.set_cons_zero]
  refine AnyF.takeG (by rfl) 42 (some 4) (.assign (.tmp 95)) none (.bool true) rfl (by kernel_rfl) (by kernel_rfl) (by kernel_rfl) (fun _ _ _ h => h) rfl (fun o h => by obtain rfl := Option.some.inj h; rfl) (fun o ho w2 hw => exec_assign (.tmp 95) ho _ rfl w2) Ht12 ?_
  simp only [Act.put, List.setIfInBounds_toArray, List.set_cons_succ, List.set_cons_zero]
  refine AnyF.done (by kernel_rfl) ?_ _
  refine nrm_intro ?_
  go_wp2
  go_ret
  exact ⟨rfl, Ht12.1⟩
end Go.Proofs.YtkkgeljcgebegaaDoor
