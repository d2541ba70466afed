/- The law FieldInverse walked: it returns true at any number of 256 bits, and no memory that was there is changed. The number turn is as the program lays it. -/
import Derived.Test.YtkkgeljcgebegaaDoorRoot
import Derived.Test.YtkkgeljcgebegaaDoorAwake
namespace Go.Proofs.YtkkgeljcgebegaaDoor
open Go.RowKit Go.Shelf
set_option linter.unusedVariables false
set_option linter.unusedSimpArgs false
theorem wpList_runG {ops : Array Oper} {rest : List Oper} {o : Oper} {a : Act} {w w2 : World} {Q : Exit → Act → World → Prop} (hw : Region.wanted o (yielded ops a.tmps) = true) (v : Value)
    (hrun : (execOp a.eval o).run Tryd.prog w = .ok (.value v) w2) (h : wpList Tryd.prog ops Q rest (a.put o.dst v) w2) : wpList Tryd.prog ops Q (o :: rest) a w :=
  wpList_step fun K hK => by rw [if_pos hw]; unfold Oper.wp; rw [hrun]; exact hK _ _ h
theorem exec_eqlL {ρ : Operand → Value} {o : Oper} (x y : Operand) (ho : o.op = .binOp .eql 24 x y 24) (a b : Nat) (ha : a < 115792089237316195423570985008687907853269984665640564039457584007913129639936) (hb : b < 115792089237316195423570985008687907853269984665640564039457584007913129639936) (A B : Array Value) (hA : Hid (A = num a)) (hB : Hid (B = num b)) (hx : ρ x = .agg A) (hy : ρ y = .agg B) (v : Bool) (hv : decide (a = b) = v) (w : World) :
    (execOp ρ o).run Tryd.prog w = .ok (.value (.bool v)) w :=
  exec_eql x y ho a b ha hb (by rw [hx, hA.out]) (by rw [hy, hB.out]) v hv.symm w
theorem exec_neqB {ρ : Operand → Value} {o : Oper} (x y : Operand) (ho : o.op = .binOp .neq 4 x y 4) (b c : Bool) (h : b ≠ c) (hx : ρ x = .bool b) (hy : ρ y = .bool c) (w : World) :
    (execOp ρ o).run Tryd.prog w = .ok (.value (.bool true)) w := by
  unfold execOp
  rw [ho]
  simp only [hx, hy]
  cases b <;> cases c <;> first | exact absurd rfl h | go_simp
theorem exec_and1 {ρ : Operand → Value} {o : Oper} (x : Operand) (ho : o.op = .binOp .and 22 x (.const (.int .u64 1)) 22) (hc : ρ (.const (.int .u64 1)) = .int .u64 1) (d : Nat) (hd : d % 2 = 0) (hl : d < 18446744073709551616) (hx : ρ x = .int .u64 (d : Int)) (w : World) :
    (execOp ρ o).run Tryd.prog w = .ok (.value (.int .u64 0)) w := by
  have hb := bits_and_u64_nat d 1 hl (by decide)
  rw [show d &&& 1 = 0 by rw [Nat.and_one_is_mod]; exact hd] at hb
  have hb2 : bits .and .u64 (d : Int) 1 = 0 := hb
  unfold execOp
  rw [ho]
  simp only [hx, hc]
  go_simp
set_option maxRecDepth 100000 in
set_option maxHeartbeats 4000000 in
theorem inverse_any (a : Nat) (ha : a < 115792089237316195423570985008687907853269984665640564039457584007913129639936) (w : World) (hG0 : Glob w) :
    Calls Tryd.prog 4 #[.agg (num a)] w fun e w' => e = .returned (.bool true) ∧ Below w.heap.size w w' := by
  have hG := Lib.hid hG0
  have hnp : a % pp < pp := Nat.mod_lt _ pp_pos
  have hN4 : a % pp < 115792089237316195423570985008687907853269984665640564039457584007913129639936 := pp_lt hnp
  have hI4 : invF a < 115792089237316195423570985008687907853269984665640564039457584007913129639936 := pp_lt (invF_lt a)
  have hX4 : (rootF (mulF a a)).1 < 115792089237316195423570985008687907853269984665640564039457584007913129639936 := pp_lt (rootF_lt _)
  have hO4 : subF 0 (a % pp) < 115792089237316195423570985008687907853269984665640564039457584007913129639936 := pp_lt (subF_lt _ _)
  have hM4 : mulF a (invF a) < 115792089237316195423570985008687907853269984665640564039457584007913129639936 := pp_lt (mulF_lt _ _)
  have H1 := Lib.hid (norm_any a ha)
  have H2 := Lib.hid (inv_any a ha)
  have H3 := Lib.hid (mulf_any a a ha ha)
  have H4 : Hid (∀ W, Glob W → Calls Tryd.prog 7 #[.agg (num (mulF a a))] W fun e w' => e = .returned (.tuple #[.agg (num (rootF (mulF a a)).1), .bool (rootF (mulF a a)).2]) ∧ Below W.heap.size W w') := Lib.hid (fun W h => root_any (mulF a a) (pp_lt (mulF_lt _ _)) W h)
  rw [rootF_square] at H4
  have H5 := Lib.hid (subf_any 0 (a % pp) (by decide) hN4)
  have H6 : Hid (∀ W, Glob W → Calls Tryd.prog 7 #[.agg (num a)] W fun e w' => e = .returned (.tuple #[.agg (num (rootF a).1), .bool (rootF a).2]) ∧ Below W.heap.size W w') := Lib.hid (fun W h => root_any a ha W h)
  have H7 := Lib.hid (mulf_any a 2 ha (by decide))
  have H8 : Hid (∀ W, Glob W → Calls Tryd.prog 7 #[.agg (num (mulF a 2))] W fun e w' => e = .returned (.tuple #[.agg (num (rootF (mulF a 2)).1), .bool (rootF (mulF a 2)).2]) ∧ Below W.heap.size W w') := Lib.hid (fun W h => root_any (mulF a 2) (pp_lt (mulF_lt _ _)) W h)
  have H9 := Lib.hid (mulf_any a (invF a) ha hI4)
  have H10 := Lib.hid awake_any
  have hb0 := build0_run
  have hb1 := build_run 1 (by decide)
  have hb2 := build_run 2 (by decide)
  have HZ := zero_run
  have hm : a % pp ≠ 0 → Hid (mulF a (invF a) = 1 ∧ (rootF a).2 ≠ (rootF (mulF a 2)).2) := fun h => Lib.hid ⟨invF_mul a h, rootF_twice a h⟩
  have hx : Hid ((rootF (mulF a a)).1 = a % pp ∨ (rootF (mulF a a)).1 = subF 0 (a % pp)) := Lib.hid (rootF_square_is a)
  have hz : a % pp = 0 → Hid (invF a = 0 ∧ (rootF (mulF a a)).1 = 0 ∧ (rootF a).2 = true ∧ (rootF (mulF a 2)).2 = true) := fun h => Lib.hid
    ⟨invF_zero_of a h, by rw [rootF_zero _ (by rw [Nat.mod_eq_of_lt (mulF_lt a a), ← mulF_modl, h]; unfold mulF; rw [Nat.zero_mul, Nat.zero_mod])], by rw [rootF_zero a h], by rw [rootF_zero _ (by rw [Nat.mod_eq_of_lt (mulF_lt a 2), ← mulF_modl, h]; rfl)]⟩
  have hc0 : (num (rootF (mulF a a)).1)[0]? = some (.int .u64 (dig (rootF (mulF a a)).1 0 : Int)) := num_get _ 0 (by decide)
  have hd : dig (rootF (mulF a a)).1 0 % 2 = 0 := by rw [dig0_odd]; exact rootF_even _
  have hdl := dig_lt (rootF (mulF a a)).1 0
  generalize dig (rootF (mulF a a)).1 0 = d at *
  obtain ⟨A, hA⟩ : ∃ A, Hid (A = num a) := ⟨_, Lib.hid rfl⟩
  have IA : IsNum A := by rw [hA.out]; exact isNum _
  obtain ⟨N, hN⟩ : ∃ N, Hid (N = num (a % pp)) := ⟨_, Lib.hid rfl⟩
  have IN : IsNum N := by rw [hN.out]; exact isNum _
  obtain ⟨I, hI⟩ : ∃ I, Hid (I = num (invF a)) := ⟨_, Lib.hid rfl⟩
  have II : IsNum I := by rw [hI.out]; exact isNum _
  obtain ⟨Q, hQ⟩ : ∃ Q, Hid (Q = num (mulF a a)) := ⟨_, Lib.hid rfl⟩
  have IQ : IsNum Q := by rw [hQ.out]; exact isNum _
  obtain ⟨X, hX⟩ : ∃ X, Hid (X = num (rootF (mulF a a)).1) := ⟨_, Lib.hid rfl⟩
  have IX : IsNum X := by rw [hX.out]; exact isNum _
  obtain ⟨O, hO⟩ : ∃ O, Hid (O = num (subF 0 (a % pp))) := ⟨_, Lib.hid rfl⟩
  have IOo : IsNum O := by rw [hO.out]; exact isNum _
  obtain ⟨V, hV⟩ : ∃ V, Hid (V = num (rootF a).1) := ⟨_, Lib.hid rfl⟩
  have IV : IsNum V := by rw [hV.out]; exact isNum _
  obtain ⟨TA, hTA⟩ : ∃ TA, Hid (TA = num (mulF a 2)) := ⟨_, Lib.hid rfl⟩
  have ITA : IsNum TA := by rw [hTA.out]; exact isNum _
  obtain ⟨V2, hV2⟩ : ∃ V2, Hid (V2 = num (rootF (mulF a 2)).1) := ⟨_, Lib.hid rfl⟩
  have IV2 : IsNum V2 := by rw [hV2.out]; exact isNum _
  obtain ⟨MI, hMI⟩ : ∃ MI, Hid (MI = num (mulF a (invF a))) := ⟨_, Lib.hid rfl⟩
  have IMI : IsNum MI := by rw [hMI.out]; exact isNum _
  obtain ⟨U1, hU1⟩ : ∃ U1, Hid (U1 = num 1) := ⟨_, Lib.hid rfl⟩
  have IU1 : IsNum U1 := by rw [hU1.out]; exact isNum _
  obtain ⟨U2, hU2⟩ : ∃ U2, Hid (U2 = num 2) := ⟨_, Lib.hid rfl⟩
  have IU2 : IsNum U2 := by rw [hU2.out]; exact isNum _
  obtain ⟨Z, hZ⟩ : ∃ Z, Hid (Z = num 0) := ⟨_, Lib.hid rfl⟩
  have IZ : IsNum Z := by rw [hZ.out]; exact isNum _
  rw [← hA.out, ← hN.out] at H1
  rw [← hA.out, ← hI.out] at H2
  rw [← hA.out, ← hQ.out] at H3
  rw [← hQ.out, ← hX.out] at H4
  rw [← hZ.out, ← hN.out, ← hO.out] at H5
  rw [← hA.out, ← hV.out] at H6
  rw [← hA.out, ← hU2.out, ← hTA.out] at H7
  rw [← hTA.out, ← hV2.out] at H8
  rw [← hA.out, ← hI.out, ← hMI.out] at H9
  rw [← hX.out] at hc0
  rw [← hZ.out] at hb0
  rw [← hU1.out] at hb1
  rw [← hU2.out] at hb2
  have HB0 := Lib.hid hb0
  have HB1 := Lib.hid hb1
  have HB2 := Lib.hid hb2
  have HZ2 : ∀ w, (zeroValue 24).run Tryd.prog w = .ok (.agg Z) w := by rw [hZ.out]; exact HZ
  have IZ2 := IZ.size
  rw [← hA.out]
  generalize (rootF a).2 = hs at *
  generalize (rootF (mulF a 2)).2 = tw at *
  clear HZ hb0 hb1 hb2 hG0 ha
  have HS : Hid (Kn w [(w.heap.size, A)] (w.alloc (.cells A 24))) := Lib.hid ((Kn.nil w).new A)
  go_enter Tryd.func4, Tryd.ntmps4
  go_upto_region 1 with fail
  try simp only [Act.put, List.setIfInBounds_toArray, List.set_cons_succ, List.set_cons_zero]
  generalize w.alloc (.cells A 24) = W0 at *
  have hl1 := HS.out.load (w.heap.size) A (by simp) IA
  go_wp2_with (refine wpList_run rfl _ (exec_load_of _ 24 (.tmp 1) rfl ⟨w.heap.size, 0, none⟩ rfl (.agg A) hl1) ?_)
  clear hl1
  refine (H1.out _).mono ?_
  rintro e w2 ⟨rfl, hb⟩
  have HS3 := Lib.hid (HS.out.below hb)
  clear hb HS H1
  have HS4_ : Kn w [(w.heap.size, A), (w2.heap.size, N)] (w2.alloc (.cells N 24)) := (HS3.out.new N).sub (fun p hp => by simp at hp ⊢; rcases hp with h | h <;> simp [h])
  have HS4 := Lib.hid HS4_
  clear HS4_ HS3
  go_upto_region 2 with (first | ((refine wpList_run rfl _ (exec_alloc_agg _ 24 rfl _ (HZ2 _)) ?_); try simp only [World.size_alloc]) | (refine wpList_run0 rfl (exec_new24 _ (.tmp 3) (.tmp 14) rfl _ _ rfl N IN rfl IZ2) ?_))
  try simp only [Act.put, List.setIfInBounds_toArray, List.set_cons_succ, List.set_cons_zero]
  generalize w2.alloc (.cells N 24) = W5 at *
  generalize w2.heap.size = gN at *
  have hl6 := HS4.out.load (w.heap.size) A (by simp) IA
  go_wp2_with (refine wpList_run rfl _ (exec_load_of _ 24 (.tmp 1) rfl ⟨w.heap.size, 0, none⟩ rfl (.agg A) hl6) ?_)
  clear hl6
  refine (H2.out _).mono ?_
  rintro e w7 ⟨rfl, hb⟩
  have HS8 := Lib.hid (HS4.out.below hb)
  clear hb HS4 H2
  have HS9_ : Kn w [(w.heap.size, A), (gN, N), (w7.heap.size, I)] (w7.alloc (.cells I 24)) := (HS8.out.new I).sub (fun p hp => by simp at hp ⊢; rcases hp with h | h | h <;> simp [h])
  have HS9 := Lib.hid HS9_
  clear HS9_ HS8
  go_upto_region 3 with (first | ((refine wpList_run rfl _ (exec_alloc_agg _ 24 rfl _ (HZ2 _)) ?_); try simp only [World.size_alloc]) | (refine wpList_run0 rfl (exec_new24 _ (.tmp 4) (.tmp 16) rfl _ _ rfl I II rfl IZ2) ?_))
  try simp only [Act.put, List.setIfInBounds_toArray, List.set_cons_succ, List.set_cons_zero]
  generalize w7.alloc (.cells I 24) = W10 at *
  generalize w7.heap.size = gI at *
  have hl11 := HS9.out.load (w.heap.size) A (by simp) IA
  go_wp2_with (refine wpList_run rfl _ (exec_load_of _ 24 (.tmp 1) rfl ⟨w.heap.size, 0, none⟩ rfl (.agg A) hl11) ?_)
  clear hl11
  refine (H3.out _).mono ?_
  rintro e w12 ⟨rfl, hb⟩
  have HS13 := Lib.hid (HS9.out.below hb)
  clear hb HS9 H3
  have HS14_ : Kn w [(w.heap.size, A), (gN, N), (gI, I), (w12.heap.size, Q)] (w12.alloc (.cells Q 24)) := (HS13.out.new Q).sub (fun p hp => by simp at hp ⊢; rcases hp with h | h | h | h <;> simp [h])
  have HS14 := Lib.hid HS14_
  clear HS14_ HS13
  go_upto_region 4 with (first | ((refine wpList_run rfl _ (exec_alloc_agg _ 24 rfl _ (HZ2 _)) ?_); try simp only [World.size_alloc]) | (refine wpList_run0 rfl (exec_new24 _ (.tmp 5) (.tmp 19) rfl _ _ rfl Q IQ rfl IZ2) ?_))
  try simp only [Act.put, List.setIfInBounds_toArray, List.set_cons_succ, List.set_cons_zero]
  generalize w12.alloc (.cells Q 24) = W15 at *
  generalize w12.heap.size = gQ at *
  have hl16 := HS14.out.load (gQ) Q (by simp) IQ
  have HC := Lib.hid (H4.out _ (hG.out.kn HS14.out))
  go_wp2_with (refine wpList_run rfl _ (exec_load_of _ 24 (.tmp 5) rfl ⟨gQ, 0, none⟩ rfl (.agg Q) hl16) ?_)
  clear hl16
  refine HC.out.mono ?_
  rintro e w17 ⟨rfl, hb⟩
  have HS18 := Lib.hid (HS14.out.below hb)
  clear hb HC HS14 H4
  have HS19_ : Kn w [(w.heap.size, A), (gN, N), (gI, I), (gQ, Q), (w17.heap.size, X)] (w17.alloc (.cells X 24)) := (HS18.out.new X).sub (fun p hp => by simp at hp ⊢; rcases hp with h | h | h | h | h <;> simp [h])
  have HS19 := Lib.hid HS19_
  clear HS19_ HS18
  go_upto_region 5 with (first | ((refine wpList_run rfl _ (exec_alloc_agg _ 24 rfl _ (HZ2 _)) ?_); try simp only [World.size_alloc]) | (refine wpList_run0 rfl (exec_new24 _ (.tmp 6) (.tmp 23) rfl _ _ rfl X IX rfl IZ2) ?_))
  try simp only [Act.put, List.setIfInBounds_toArray, List.set_cons_succ, List.set_cons_zero]
  generalize w17.alloc (.cells X 24) = W20 at *
  generalize w17.heap.size = gX at *
  have hl21 := HS19.out.load (gN) N (by simp) IN
  go_wp2_with (first | (refine wpList_run rfl _ (exec_build0 rfl (.agg Z) (HB0.out _) _) ?_) | (refine wpList_run rfl _ (exec_load_of _ 24 (.tmp 3) rfl ⟨gN, 0, none⟩ rfl (.agg N) hl21) ?_))
  clear hl21
  refine (H5.out _).mono ?_
  rintro e w22 ⟨rfl, hb⟩
  have HS23 := Lib.hid (HS19.out.below hb)
  clear hb HS19 H5
  have HS24_ : Kn w [(w.heap.size, A), (gN, N), (gI, I), (gQ, Q), (gX, X), (w22.heap.size, O)] (w22.alloc (.cells O 24)) := (HS23.out.new O).sub (fun p hp => by simp at hp ⊢; rcases hp with h | h | h | h | h | h <;> simp [h])
  have HS24 := Lib.hid HS24_
  clear HS24_ HS23
  go_upto_region 6 with (first | ((refine wpList_run rfl _ (exec_alloc_agg _ 24 rfl _ (HZ2 _)) ?_); try simp only [World.size_alloc]) | (refine wpList_run0 rfl (exec_new24 _ (.tmp 8) (.tmp 27) rfl _ _ rfl O IOo rfl IZ2) ?_))
  try simp only [Act.put, List.setIfInBounds_toArray, List.set_cons_succ, List.set_cons_zero]
  generalize w22.alloc (.cells O 24) = W25 at *
  generalize w22.heap.size = gO at *
  have hl26 := HS24.out.load (w.heap.size) A (by simp) IA
  have HC := Lib.hid (H6.out _ (hG.out.kn HS24.out))
  go_wp2_with (refine wpList_run rfl _ (exec_load_of _ 24 (.tmp 1) rfl ⟨w.heap.size, 0, none⟩ rfl (.agg A) hl26) ?_)
  clear hl26
  refine HC.out.mono ?_
  rintro e w27 ⟨rfl, hb⟩
  have HS28 := Lib.hid (HS24.out.below hb)
  clear hb HC HS24 H6
  have HS29 := Lib.hid (HS28.out.alloc (.cells V 24))
  clear HS28
  go_upto_region 7 with (first | ((refine wpList_run rfl _ (exec_alloc_agg _ 24 rfl _ (HZ2 _)) ?_); try simp only [World.size_alloc]) | (refine wpList_run0 rfl (exec_new24 _ (.tmp 9) (.tmp 31) rfl _ _ rfl V IV rfl IZ2) ?_))
  try simp only [Act.put, List.setIfInBounds_toArray, List.set_cons_succ, List.set_cons_zero]
  generalize w27.alloc (.cells V 24) = W30 at *
  generalize w27.heap.size = gV at *
  have hl31 := HS29.out.load (w.heap.size) A (by simp) IA
  go_wp2_with (first | (refine wpList_run rfl _ (exec_build1 _ 24 0 (.const (.int .u64 2)) rfl (.int .u64 2) rfl _ (HB2.out _)) ?_) | (refine wpList_run rfl _ (exec_load_of _ 24 (.tmp 1) rfl ⟨w.heap.size, 0, none⟩ rfl (.agg A) hl31) ?_))
  clear hl31
  refine (H7.out _).mono ?_
  rintro e w32 ⟨rfl, hb⟩
  have HS33 := Lib.hid (HS29.out.below hb)
  clear hb HS29 H7
  have HC := Lib.hid (H8.out _ (hG.out.kn HS33.out))
  go_wp2_with fail
  refine HC.out.mono ?_
  rintro e w34 ⟨rfl, hb⟩
  have HS35 := Lib.hid (HS33.out.below hb)
  clear hb HC HS33 H8
  have HS36 := Lib.hid (HS35.out.alloc (.cells V2 24))
  clear HS35
  go_upto_region 8 with (first | ((refine wpList_run rfl _ (exec_alloc_agg _ 24 rfl _ (HZ2 _)) ?_); try simp only [World.size_alloc]) | (refine wpList_run0 rfl (exec_new24 _ (.tmp 11) (.tmp 38) rfl _ _ rfl V2 IV2 rfl IZ2) ?_))
  try simp only [Act.put, List.setIfInBounds_toArray, List.set_cons_succ, List.set_cons_zero]
  generalize w34.alloc (.cells V2 24) = W37 at *
  generalize w34.heap.size = gV2 at *
  have hlgN := HS36.out.load (gN) N (by simp) IN
  have hlgI := HS36.out.load (gI) I (by simp) II
  have hlgX := HS36.out.load (gX) X (by simp) IX
  have hlgO := HS36.out.load (gO) O (by simp) IOo
  have hlA := HS36.out.load (w.heap.size) A (by simp) IA
  by_cases h0 : a % pp = 0
  · have h1 := (hz h0).out
    obtain ⟨hi, hx0, rfl, rfl⟩ := h1
    have d1 : decide (a % pp = 0) = true := by simp [h0]
    have d2 : decide (invF a = a % pp) = true := by simp [h0, hi]
    have d3 : decide ((rootF (mulF a a)).1 = a % pp) = true := by simp [h0, hx0]
    clear hz hm hx h0 hi hx0
    go_wp2_with (first | (refine wpList_run rfl _ (exec_load_of _ 24 (.tmp 3) rfl ⟨gN, 0, none⟩ rfl (.agg N) hlgN) ?_) | (refine wpList_run rfl _ (exec_build0 rfl (.agg Z) (HB0.out _) _) ?_) | (refine wpList_run rfl _ (exec_eqlL (.tmp 40) (.tmp 41) rfl _ _ hN4 (by decide) N Z hN hZ rfl rfl true d1 _) ?_) | (refine wpList_run rfl _ (exec_load_of _ 24 (.tmp 4) rfl ⟨gI, 0, none⟩ rfl (.agg I) hlgI) ?_) | (refine wpList_run rfl _ (exec_eqlL (.tmp 43) (.tmp 44) rfl _ _ hI4 hN4 I N hI hN rfl rfl true d2 _) ?_) | (refine wpList_runG ?gg _ (exec_load_of _ 24 (.tmp 6) rfl ⟨gX, 0, none⟩ rfl (.agg X) hlgX) ?_; (case gg => rfl)) | (refine wpList_runG ?gg _ (exec_load_of _ 24 (.tmp 3) rfl ⟨gN, 0, none⟩ rfl (.agg N) hlgN) ?_; (case gg => rfl)) | (refine wpList_runG ?gg _ (exec_eqlL (.tmp 50) (.tmp 51) rfl _ _ hX4 hN4 X N hX hN rfl rfl true d3 _) ?_; (case gg => rfl)))
    refine (H10.out _).mono ?_
    rintro e wz ⟨rfl, hb⟩
    have HSz := Lib.hid (HS36.out.below hb)
    clear hb
    go_wp2
    go_ret
    exact ⟨rfl, HSz.out.1⟩
  · have h1 := (hm h0).out
    obtain ⟨hm1, hne⟩ := h1
    have hx := hx.out
    have d1 : decide (a % pp = 0) = false := by simp [h0]
    have d2 : decide (mulF a (invF a) = 1) = true := by simp [hm1]
    have hcell := (HS36.out.cell gX X (by simp) 0).trans hc0
    clear hz hm hm1 h0
    go_wp2_with (first | (refine wpList_run rfl _ (exec_load_of _ 24 (.tmp 3) rfl ⟨gN, 0, none⟩ rfl (.agg N) hlgN) ?_) | (refine wpList_run rfl _ (exec_build0 rfl (.agg Z) (HB0.out _) _) ?_) | (refine wpList_run rfl _ (exec_eqlL (.tmp 40) (.tmp 41) rfl _ _ hN4 (by decide) N Z hN hZ rfl rfl false d1 _) ?_) | (refine wpList_run rfl _ (exec_load_of _ 24 (.tmp 1) rfl ⟨w.heap.size, 0, none⟩ rfl (.agg A) hlA) ?_) | (refine wpList_run rfl _ (exec_load_of _ 24 (.tmp 4) rfl ⟨gI, 0, none⟩ rfl (.agg I) hlgI) ?_))
    refine (H9.out _).mono ?_
    rintro e wy ⟨rfl, hb⟩
    have HSy := Lib.hid (HS36.out.below hb)
    clear hb hlgN hlgI hlgX hlgO hlA hcell HS36
    have hlgN := HSy.out.load (gN) N (by simp) IN
    have hlgX := HSy.out.load (gX) X (by simp) IX
    have hlgO := HSy.out.load (gO) O (by simp) IOo
    have hcell := (HSy.out.cell gX X (by simp) 0).trans hc0
    by_cases hxn : (rootF (mulF a a)).1 = a % pp
    · have d3 : decide ((rootF (mulF a a)).1 = a % pp) = true := by simp [hxn]
      clear hx hxn
      go_wp2_with (first | (refine wpList_run rfl _ (exec_build1 _ 24 0 (.const (.int .u64 1)) rfl (.int .u64 1) rfl _ (HB1.out _)) ?_) | (refine wpList_run rfl _ (exec_eqlL (.tmp 65) (.tmp 66) rfl _ _ hM4 (by decide) MI U1 hMI hU1 rfl rfl true d2 _) ?_) | (refine wpList_runG ?gg _ (exec_load_of _ 24 (.tmp 6) rfl ⟨gX, 0, none⟩ rfl (.agg X) hlgX) ?_; (case gg => rfl)) | (refine wpList_runG ?gg _ (exec_load_of _ 24 (.tmp 3) rfl ⟨gN, 0, none⟩ rfl (.agg N) hlgN) ?_; (case gg => rfl)) | (refine wpList_runG ?gg _ (exec_eqlL (.tmp 72) (.tmp 73) rfl _ _ hX4 hN4 X N hX hN rfl rfl true d3 _) ?_; (case gg => rfl)) | (refine wpList_runG ?gg _ (exec_indexAddr24 (.tmp 6) (.const (.int .i64 0)) rfl gX 0 rfl rfl (by decide) _) ?_; (case gg => rfl)) | (refine wpList_runG ?gg _ (exec_load_one _ 22 (.tmp 82) rfl ⟨gX, 0, none⟩ rfl _ hcell _ Tryd.underlying22 rfl) ?_; (case gg => rfl)) | (refine wpList_runG ?gg _ (exec_and1 (.tmp 83) rfl rfl d hd hdl rfl _) ?_; (case gg => rfl)) | (refine wpList_runG ?gg _ (exec_neqB (.tmp 88) (.tmp 89) rfl hs tw hne rfl rfl _) ?_; (case gg => rfl)))
      refine (H10.out _).mono ?_
      rintro e wz ⟨rfl, hb⟩
      have HSz := Lib.hid (HSy.out.below hb)
      clear hb
      go_wp2
      go_ret
      exact ⟨rfl, HSz.out.1⟩
    · have d3 : decide ((rootF (mulF a a)).1 = a % pp) = false := by simp [hxn]
      have d4 : decide ((rootF (mulF a a)).1 = subF 0 (a % pp)) = true := by simp [hx.resolve_left hxn]
      clear hx hxn
      go_wp2_with (first | (refine wpList_run rfl _ (exec_build1 _ 24 0 (.const (.int .u64 1)) rfl (.int .u64 1) rfl _ (HB1.out _)) ?_) | (refine wpList_run rfl _ (exec_eqlL (.tmp 65) (.tmp 66) rfl _ _ hM4 (by decide) MI U1 hMI hU1 rfl rfl true d2 _) ?_) | (refine wpList_runG ?gg _ (exec_load_of _ 24 (.tmp 6) rfl ⟨gX, 0, none⟩ rfl (.agg X) hlgX) ?_; (case gg => rfl)) | (refine wpList_runG ?gg _ (exec_load_of _ 24 (.tmp 3) rfl ⟨gN, 0, none⟩ rfl (.agg N) hlgN) ?_; (case gg => rfl)) | (refine wpList_runG ?gg _ (exec_eqlL (.tmp 72) (.tmp 73) rfl _ _ hX4 hN4 X N hX hN rfl rfl false d3 _) ?_; (case gg => rfl)) | (refine wpList_runG ?gg _ (exec_load_of _ 24 (.tmp 8) rfl ⟨gO, 0, none⟩ rfl (.agg O) hlgO) ?_; (case gg => rfl)) | (refine wpList_runG ?gg _ (exec_eqlL (.tmp 76) (.tmp 77) rfl _ _ hX4 hO4 X O hX hO rfl rfl true d4 _) ?_; (case gg => rfl)) | (refine wpList_runG ?gg _ (exec_indexAddr24 (.tmp 6) (.const (.int .i64 0)) rfl gX 0 rfl rfl (by decide) _) ?_; (case gg => rfl)) | (refine wpList_runG ?gg _ (exec_load_one _ 22 (.tmp 82) rfl ⟨gX, 0, none⟩ rfl _ hcell _ Tryd.underlying22 rfl) ?_; (case gg => rfl)) | (refine wpList_runG ?gg _ (exec_and1 (.tmp 83) rfl rfl d hd hdl rfl _) ?_; (case gg => rfl)) | (refine wpList_runG ?gg _ (exec_neqB (.tmp 88) (.tmp 89) rfl hs tw hne rfl rfl _) ?_; (case gg => rfl)))
      refine (H10.out _).mono ?_
      rintro e wz ⟨rfl, hb⟩
      have HSz := Lib.hid (HSy.out.below hb)
      clear hb
      go_wp2
      go_ret
      exact ⟨rfl, HSz.out.1⟩
end Go.Proofs.YtkkgeljcgebegaaDoor
