/- The law SigKnown walked: it returns true at any number, and no memory that was there is changed. No condition but that the tied variables stand in memory. -/
import Derived.Test.YtdajmekliodmcaaGreatDoorK37
namespace Go.Proofs.YtdajmekliodmcaaGreatDoor.P8
open Go.RowKit Go.Shelf
set_option linter.unusedVariables false
set_option linter.unusedSimpArgs false
theorem field_said (S : ByteArray) (b : Bool) (w : World) : (Instr.field 26 (.agg #[.string S, .bool b]) 0).run Tryz.prog w = .ok (.string S) w := by kernel_rfl
theorem exec_fieldV {ρ : Operand → Value} {o : Oper} (s : TypeId) (x : Operand) (k : Nat) (ho : o.op = .field s x k) (v u : Value) (hx : ρ x = v) (w : World) (hr : (Instr.field s v k).run Tryz.prog w = .ok u w) : (execOp ρ o).run Tryz.prog w = .ok (.value u) w := by
  subst hx
  unfold execOp
  simp [ho, hr]
theorem row2_0 (a b : ByteArray) : (strRow [a, b])[0]? = some (.string a) := rfl
theorem row2_1 (a b : ByteArray) : (strRow [a, b])[1]? = some (.string b) := rfl
theorem exec_ia45 {ρ : Operand → Value} {o : Oper} (x y : Operand) (ho : o.op = .indexAddr 45 x y) (g j : Nat) (hx : ρ x = .slice (some ⟨g, 0, none⟩) 2 2) (hy : ρ y = .int .i64 (j : Int)) (hj : j < 2) (w : World) :
    (execOp ρ o).run Tryz.prog w = .ok (.value (.pointer (some ⟨g, j, none⟩))) w := by
  have hu := Tryz.underlying45
  have hz := Tryz.sizeOf9
  have h1 : (j : Int) < 2 := by omega
  unfold execOp
  rw [ho]
  simp only [hx, hy]
  go_simp
theorem exec_eq_same {ρ : Operand → Value} {o : Oper} (x y : Operand) (ho : o.op = .binOp .eql 9 x y 9) (s : ByteArray) (hx : ρ x = .string s) (hy : ρ y = .string s) (w : World) : (execOp ρ o).run Tryz.prog w = .ok (.value (.bool true)) w := by
  unfold execOp
  rw [ho]
  simp only [hx, hy]
  go_simp
theorem exec_ne_same {ρ : Operand → Value} {o : Oper} (x y : Operand) (ho : o.op = .binOp .neq 9 x y 9) (s : ByteArray) (hx : ρ x = .string s) (hy : ρ y = .string s) (w : World) : (execOp ρ o).run Tryz.prog w = .ok (.value (.bool false)) w := by
  unfold execOp
  rw [ho]
  simp only [hx, hy]
  go_simp
theorem exec_addx {ρ : Operand → Value} {o : Oper} (x : Operand) (ho : o.op = .binOp .add 9 x (.const (.string { data := #[120] })) 9) (hc : ρ (.const (.string { data := #[120] })) = .string { data := #[120] }) (s s2 : ByteArray) (hs : s.size ≤ 1000) (h2 : s ++ ({ data := #[120] } : ByteArray) = s2) (hx : ρ x = .string s) (w : World) : (execOp ρ o).run Tryz.prog w = .ok (.value (.string s2)) w := by
  have h1 : (s ++ ({ data := #[120] } : ByteArray)).size = s.size + 1 := by rw [ByteArray.size_append]; rfl
  have h3 : s.size ≤ 9223372036854775806 := by omega
  subst h2
  unfold execOp
  rw [ho]
  simp only [hx, hc]
  go_simp
set_option maxRecDepth 100000 in
set_option maxHeartbeats 8000000 in
theorem known_0 (n : Nat) (hn : n < 256) (hj : n % 2 = 0) (w : World) (hG9 : Glob9 w) :
    Calls Tryz.prog 5 #[.int .u8 (n : Int)] w fun e w' => e = .returned (.bool true) ∧ Below w.heap.size w w' := by
  have hnk : (n : Int) % 2 = 0 := by omega
  have hnt : (n : Int).tmod 2 = 0 := by rw [Int.tmod_eq_emod_of_nonneg (by omega)]; exact hnk
  clear hj
  obtain ⟨S0, hS0⟩ : ∃ x : ByteArray, Hid (x = kSH0) := ⟨_, Lib.hid rfl⟩
  obtain ⟨P0, hP0⟩ : ∃ x : ByteArray, Hid (x = kPH0) := ⟨_, Lib.hid rfl⟩
  obtain ⟨G0, hG0⟩ : ∃ x : ByteArray, Hid (x = kGH0) := ⟨_, Lib.hid rfl⟩
  obtain ⟨M0, hM0⟩ : ∃ x : ByteArray, Hid (x = ⟨kM0.toArray⟩) := ⟨_, Lib.hid rfl⟩
  obtain ⟨S1, hS1⟩ : ∃ x : ByteArray, Hid (x = kSH1) := ⟨_, Lib.hid rfl⟩
  obtain ⟨P1, hP1⟩ : ∃ x : ByteArray, Hid (x = kPH1) := ⟨_, Lib.hid rfl⟩
  obtain ⟨G1, hG1⟩ : ∃ x : ByteArray, Hid (x = kGH1) := ⟨_, Lib.hid rfl⟩
  obtain ⟨M1, hM1⟩ : ∃ x : ByteArray, Hid (x = ⟨kM1.toArray⟩) := ⟨_, Lib.hid rfl⟩
  obtain ⟨sd, hsd⟩ : ∃ x : ByteArray, Hid (x = ⟨kS0.toArray⟩) := ⟨_, Lib.hid rfl⟩
  obtain ⟨pk, hpk⟩ : ∃ x : ByteArray, Hid (x = ⟨kPubL0.toArray⟩) := ⟨_, Lib.hid rfl⟩
  obtain ⟨sg, hsg⟩ : ∃ x : ByteArray, Hid (x = ⟨kHeadL0.toArray⟩ ++ ⟨kTailL0.toArray⟩) := ⟨_, Lib.hid rfl⟩
  obtain ⟨mx, hmx⟩ : ∃ x : ByteArray, Hid (M0 ++ ({ data := #[120] } : ByteArray) = x) := ⟨_, Lib.hid rfl⟩
  have lM : M0.size ≤ 1000 := by rw [hM0.out]; decide
  have H21 : Hid (∀ w, Calls Tryz.prog 21 #[.string S0] w fun e w' => e = .returned (.agg #[.string sd, .bool true]) ∧ Below w.heap.size w w') := by
    refine Lib.hid (fun w => ?_)
    have h := R.rgethex_any S0 (by rw [hS0.out]; decide) w
    rw [show S0.data.toList = kSH0.data.toList by rw [hS0.out], getS0] at h
    rw [hsd.out]
    exact h
  have H10 : Hid (∀ w, Glob9 w → Calls Tryz.prog 10 #[.string sd] w fun e w' => e = .returned (.tuple #[.string pk, .bool true]) ∧ Below w.heap.size w w') := by
    refine Lib.hid (fun w hw => ?_)
    have h := public_yes sd (by rw [hsd.out]; rfl) w hw.2.1
    rw [show sd.data.toList = kS0 by rw [hsd.out], pub0, ← hpk.out] at h
    exact h
  have H12 : Hid (∀ w, Glob9 w → Calls Tryz.prog 12 #[.string sd, .string M0] w fun e w' => e = .returned (.tuple #[.string sg, .bool true]) ∧ Below w.heap.size w w') := by
    refine Lib.hid (fun w hw => ?_)
    have h := sign_yes sd M0 (by rw [hsd.out]; rfl) (by omega) w hw.2.1 hw.2.2
    rw [show sd.data.toList = kS0 by rw [hsd.out], show M0.data.toList = kM0 by rw [hM0.out], head0, tail0, ← hsg.out] at h
    exact h
  have e3 : sg.data.toList = kHeadL0 ++ kTailL0 := by
    rw [hsg.out]
    rfl
  have e2 : mx.data.toList = kM0 ++ [120] := by
    rw [← hmx.out, hM0.out]
    rfl
  have H22p : Hid (∀ w, Calls Tryz.prog 22 #[.string pk] w fun e w' => e = .returned (.string P0) ∧ Below w.heap.size w w') := by
    refine Lib.hid (fun w => ?_)
    have h := R.rhex_any pk (by rw [hpk.out]; decide) w
    rw [show pk.data.toList = kPubL0 by rw [hpk.out], hexP0, ← hP0.out] at h
    exact h
  have H22g : Hid (∀ w, Calls Tryz.prog 22 #[.string sg] w fun e w' => e = .returned (.string G0) ∧ Below w.heap.size w w') := by
    refine Lib.hid (fun w => ?_)
    have h := R.rhex_any sg (by rw [hsg.out]; decide) w
    rw [e3, hexG0, ← hG0.out] at h
    exact h
  have hA : FromR pk (kPub0P, true) := by rw [hpk.out]; exact fromPub0
  have hAp : true = true → pk.size = 32 ∧ onN kPub0P := fun _ => ⟨by rw [hpk.out]; rfl, pubOn0⟩
  have hs : S7.fromL (sg.data.toList.drop 32) = (5004556735901913393272427758925840403246877222315506387332009764265656498271, true) := by rw [e3]; exact from0
  have H14t : Hid (∀ w, Glob9 w → Calls Tryz.prog 14 #[.string pk, .string M0, .string sg] w fun e w' => e = .returned (.bool true) ∧ Below w.heap.size w w') := by
    refine Lib.hid (fun w hw => ?_)
    have h := verify_core pk M0 sg (by rw [hsg.out]; decide) (by rw [hpk.out]; decide) (by omega) _ _ hA hAp _ _ hs w hw
    rw [show pk.data.toList = kPubL0 by rw [hpk.out], show M0.data.toList = kM0 by rw [hM0.out], e3, good0] at h
    exact h
  have H14f : Hid (∀ w, Glob9 w → Calls Tryz.prog 14 #[.string pk, .string mx, .string sg] w fun e w' => e = .returned (.bool false) ∧ Below w.heap.size w w') := by
    refine Lib.hid (fun w hw => ?_)
    have h := verify_core pk mx sg (by rw [hsg.out]; decide) (by rw [hpk.out]; decide) (by rw [← hmx.out, ByteArray.size_append]; show M0.size + 1 ≤ _; omega) _ _ hA hAp _ _ hs w hw
    rw [show pk.data.toList = kPubL0 by rw [hpk.out], e2, e3, bad0] at h
    exact h
  have HA : Hid (∀ w, _) := Lib.hid (fun w => awake_any w)
  have HG := Lib.hid hG9
  have hbS0 : Hid (Value.string kSH0 = .string S0) := Lib.hid (by rw [hS0.out])
  have hbS1 : Hid (Value.string kSH1 = .string S1) := Lib.hid (by rw [hS1.out])
  have hbP0 : Hid (Value.string kPH0 = .string P0) := Lib.hid (by rw [hP0.out])
  have hbP1 : Hid (Value.string kPH1 = .string P1) := Lib.hid (by rw [hP1.out])
  have hbG0 : Hid (Value.string kGH0 = .string G0) := Lib.hid (by rw [hG0.out])
  have hbG1 : Hid (Value.string kGH1 = .string G1) := Lib.hid (by rw [hG1.out])
  have hbM0 : Hid (Value.string ⟨kM0.toArray⟩ = .string M0) := Lib.hid (by rw [hM0.out])
  have hbM1 : Hid (Value.string ⟨kM1.toArray⟩ = .string M1) := Lib.hid (by rw [hM1.out])
  clear hS0 hS1 hP0 hP1 hG0 hG1 hM0 hM1 hsd hpk hsg e2 e3 hA hAp hs hG9
  have HS0 : Hid (Kt w [] w) := Lib.hid (Kt.nil w)
  go_enter Tryz.func5, Tryz.ntmps5
  go_upto_region 1 with fail
  go_upto_region 1 with fail
  refine wp_region_list ?_
  refine wpList_run rfl _ (exec_build2 _ _ _ rfl S0 S1 (by exact hbS0.out) (by exact hbS1.out)) ?_
  simp only [Act.put, sT, sS, sZ]
  have bg3 := HS0.out.1.size
  have HS1 := Lib.hid (HS0.out.new (strRow [S0, S1]) 9)
  clear HS0
  generalize w.alloc (.cells (strRow [S0, S1]) 9) = w1 at *
  refine wpList_run rfl (.slice (some ⟨w.heap.size, 0, none⟩) 2 2) (exec_assign (.tmp 13) rfl _ rfl _) ?_
  simp only [Act.put, sT, sS, sZ]
  refine wpList_nil ?_
  go_upto_region 2 with fail
  refine wp_region_list ?_
  refine wpList_run rfl _ (exec_build2 _ _ _ rfl P0 P1 (by exact hbP0.out) (by exact hbP1.out)) ?_
  simp only [Act.put, sT, sS, sZ]
  have lg4_0 := HS1.out.lt w.heap.size (strRow [S0, S1]) 9 (by simp)
  have bg4 := HS1.out.1.size
  have HS2 := Lib.hid (HS1.out.new (strRow [P0, P1]) 9)
  clear HS1
  generalize w1.alloc (.cells (strRow [P0, P1]) 9) = w2 at *
  generalize hgg4 : w1.heap.size = g4 at *
  clear hgg4
  refine wpList_run rfl (.slice (some ⟨g4, 0, none⟩) 2 2) (exec_assign (.tmp 14) rfl _ rfl _) ?_
  simp only [Act.put, sT, sS, sZ]
  refine wpList_nil ?_
  go_upto_region 3 with fail
  refine wp_region_list ?_
  refine wpList_run rfl _ (exec_build2 _ _ _ rfl M0 M1 (by exact hbM0.out) (by exact hbM1.out)) ?_
  simp only [Act.put, sT, sS, sZ]
  have lg5_0 := HS2.out.lt g4 (strRow [P0, P1]) 9 (by simp)
  have lg5_1 := HS2.out.lt w.heap.size (strRow [S0, S1]) 9 (by simp)
  have bg5 := HS2.out.1.size
  have HS3 := Lib.hid (HS2.out.new (strRow [M0, M1]) 9)
  clear HS2
  generalize w2.alloc (.cells (strRow [M0, M1]) 9) = w3 at *
  generalize hgg5 : w2.heap.size = g5 at *
  clear hgg5
  refine wpList_run rfl (.slice (some ⟨g5, 0, none⟩) 2 2) (exec_assign (.tmp 15) rfl _ rfl _) ?_
  simp only [Act.put, sT, sS, sZ]
  refine wpList_nil ?_
  go_upto_region 4 with fail
  refine wp_region_list ?_
  refine wpList_run rfl _ (exec_build2 _ _ _ rfl G0 G1 (by exact hbG0.out) (by exact hbG1.out)) ?_
  simp only [Act.put, sT, sS, sZ]
  have lg6_0 := HS3.out.lt g5 (strRow [M0, M1]) 9 (by simp)
  have lg6_1 := HS3.out.lt g4 (strRow [P0, P1]) 9 (by simp)
  have lg6_2 := HS3.out.lt w.heap.size (strRow [S0, S1]) 9 (by simp)
  have bg6 := HS3.out.1.size
  have HS4 := Lib.hid (HS3.out.new (strRow [G0, G1]) 9)
  clear HS3
  generalize w3.alloc (.cells (strRow [G0, G1]) 9) = w4 at *
  generalize hgg6 : w3.heap.size = g6 at *
  clear hgg6
  refine wpList_run rfl (.slice (some ⟨g6, 0, none⟩) 2 2) (exec_assign (.tmp 16) rfl _ rfl _) ?_
  simp only [Act.put, sT, sS, sZ]
  refine wpList_nil ?_
  have hc4 := cell_part (HS4.out.get w.heap.size (strRow [S0, S1]) 9 (by simp)) 0 _ (row2_0 _ _)
  go_wp2_with fail
  clear hc4
  refine (H21.out _).mono ?_
  rintro e w5 ⟨rfl, hb⟩
  have HS5 := Lib.hid ((HS4.out.below hb).sub (m := [(g6, strRow [G0, G1], 9), (g5, strRow [M0, M1], 9), (g4, strRow [P0, P1], 9)]) (fun p hp => by simp at hp ⊢; rcases hp with rfl | rfl | rfl <;> simp))
  clear hb HS4
  go_wp2_with (refine wpList_run rfl (.string sd) (exec_fieldV 26 (.tmp 24) 0 rfl _ _ rfl _ (field_said _ _ _)) ?_)
  refine (H10.out _ (HG.out.below HS5.out.1)).mono ?_
  rintro e w6 ⟨rfl, hb⟩
  have HS6 := Lib.hid (HS5.out.below hb)
  clear hb HS5
  have hc6 := cell_part (HS6.out.get g5 (strRow [M0, M1]) 9 (by simp)) 0 _ (row2_0 _ _)
  go_wp2_with fail
  clear hc6
  refine (H12.out _ (HG.out.below HS6.out.1)).mono ?_
  rintro e w7 ⟨rfl, hb⟩
  have HS7 := Lib.hid (HS6.out.below hb)
  clear hb HS6
  go_upto_region 9 with fail
  refine wp_cut (fun a' W' => a' = { tmps := #[.int .u8 (n : Int), undef, .bool false, .slice (some ⟨w.heap.size, 0, none⟩) 2 2, .slice (some ⟨g4, 0, none⟩) 2 2, .slice (some ⟨g5, 0, none⟩) 2 2, .slice (some ⟨g6, 0, none⟩) 2 2, .int .i64 0, .string sd, .string pk, .bool true, .string sg, .bool true, .slice (some ⟨w.heap.size, 0, none⟩) 2 2, .slice (some ⟨g4, 0, none⟩) 2 2, .slice (some ⟨g5, 0, none⟩) 2 2, .slice (some ⟨g6, 0, none⟩) 2 2, .int .u8 (n : Int), .int .i64 (n : Int), .int .i64 0, .slice (some ⟨w.heap.size, 0, none⟩) 2 2, .int .i64 0, .pointer (some ⟨w.heap.size, 0, none⟩), .string S0, .agg #[.string sd, .bool true], .string sd, .tuple #[.string pk, .bool true], .string sd, .tuple #[.string pk, .bool true], .string pk, .bool true, .tuple #[.string sg, .bool true], .string sd, .slice (some ⟨g5, 0, none⟩) 2 2, .int .i64 0, .pointer (some ⟨g5, 0, none⟩), .string M0, .tuple #[.string sg, .bool true], .string sg, .bool true, .int .i64 0, .bool true, .bool true, .string pk, .string P0, .slice (some ⟨g4, 0, none⟩) 2 2, .pointer (some ⟨g4, 0, none⟩), .string P0, .bool false, .bool false, .bool false, .bool true, .bool false, .bool false, .bool false, .bool true, .bool false, .bool false, undef, undef, undef, undef, undef, undef, undef, undef, undef, undef, undef, undef, undef, undef, undef, undef, undef, undef, undef, undef, undef, undef, undef, undef, undef, undef, undef, undef, undef, undef, undef, undef, undef, undef, undef, undef, undef, undef, undef], defers := [] } ∧ Kt w [(g6, strRow [G0, G1], 9), (g5, strRow [M0, M1], 9), (g4, strRow [P0, P1], 9)] W') ?_ ?_
  · skip
    refine wp_region_any (by kernel_rfl) ?_
    change wpAny _ _ _ _ _ _ _ (World.drew _)
    have HD9 := HS7.out.drew
    generalize w7.drew = wd9 at *
    refine any_of_F (S := Kt w [(g6, strRow [G0, G1], 9), (g5, strRow [M0, M1], 9), (g4, strRow [P0, P1], 9)]) (f := 1000) _ _ _ _ ?_
    refine tkG 0 (some 40) (.move (.tmp 7)) none (.int .i64 0) (fun o ho w2 hw => by unfold execOp; rw [ho]; go_simp) (HD9) ?_
    simp only [Act.put, sT, sS, sZ]
    refine tkG 1 (some 41) (.binOp .eql 3 (.tmp 40) (.const (.int .i64 0)) 3) none (.bool true) (fun o ho w2 hw => by unfold execOp; rw [ho]; go_simp) (HD9) ?_
    simp only [Act.put, sT, sS, sZ]
    refine tkG 2 (some 42) (.move (.tmp 41)) none (.bool true) (fun o ho w2 hw => by unfold execOp; rw [ho]; go_simp) (HD9) ?_
    simp only [Act.put, sT, sS, sZ]
    refine tkG 3 (some 43) (.move (.tmp 9)) (some (2, true)) (.string pk) (fun o ho w2 hw => by unfold execOp; rw [ho]; go_simp) (HD9) ?_
    simp only [Act.put, sT, sS, sZ]
    refine tkG 5 (some 45) (.move (.tmp 4)) (some (2, true)) (.slice (some ⟨g4, 0, none⟩) 2 2) (fun o ho w2 hw => by unfold execOp; rw [ho]; go_simp) (HD9) ?_
    simp only [Act.put, sT, sS, sZ]
    refine tkG 6 (some 46) (.indexAddr 45 (.tmp 45) (.const (.int .i64 0))) (some (2, true)) (.pointer (some ⟨g4, 0, none⟩)) (fun o ho w2 hw => exec_ia45 (.tmp 45) (.const (.int .i64 0)) ho g4 0 rfl rfl (by decide) w2) (HD9) ?_
    simp only [Act.put, sT, sS, sZ]
    refine tkG 7 (some 47) (.load 9 (.tmp 46)) (some (2, true)) (.string P0) (fun o ho w2 hw => exec_load_one _ 9 (.tmp 46) ho ⟨g4, 0, none⟩ rfl _ (cell_part (hw.get g4 (strRow [P0, P1]) 9 (by simp)) 0 _ (row2_0 _ _)) _ Tryz.underlying9 rfl) (HD9) ?_
    simp only [Act.put, sT, sS, sZ]
    refine AnyF.ready (rs := [4]) (by kernel_rfl) (by simp) (R.rclG (some 44) 22 #[.tmp 43] #[9] (some (2, true)) #[.string pk] (enters_of Tryz.func22 (by kernel_rfl) rfl) _ (H22p.out _) ?_ ReadyF.nil)
    rintro v wc591 ⟨he, hb⟩
    cases he
    have Hc591 := HD9.below hb
    clear hb
    refine ⟨Hc591, ?_⟩
    simp only [Act.put, sT, sS, sZ]
    refine tkG 8 (some 48) (.binOp .neq 9 (.tmp 44) (.tmp 47) 9) (some (2, true)) (.bool false) (fun o ho w2 hw => exec_ne_same (.tmp 44) (.tmp 47) ho P0 rfl rfl w2) (Hc591) ?_
    simp only [Act.put, sT, sS, sZ]
    refine tkG 9 (some 49) (.pick (.tmp 42) (.tmp 48) (.const (.bool false))) none (.bool false) (fun o ho w2 hw => by unfold execOp; rw [ho]; go_simp) (Hc591) ?_
    simp only [Act.put, sT, sS, sZ]
    refine tkG 10 (some 50) (.move (.tmp 49)) none (.bool false) (fun o ho w2 hw => by unfold execOp; rw [ho]; go_simp) (Hc591) ?_
    simp only [Act.put, sT, sS, sZ]
    refine tkG 11 (some 51) (.move (.tmp 10)) (some (10, false)) (.bool true) (fun o ho w2 hw => by unfold execOp; rw [ho]; go_simp) (Hc591) ?_
    simp only [Act.put, sT, sS, sZ]
    refine tkG 12 (some 52) (.unOp .not 4 (.tmp 51)) (some (10, false)) (.bool false) (fun o ho w2 hw => by unfold execOp; rw [ho]; go_simp) (Hc591) ?_
    simp only [Act.put, sT, sS, sZ]
    refine tkG 13 (some 53) (.pick (.tmp 50) (.const (.bool true)) (.tmp 52)) none (.bool false) (fun o ho w2 hw => by unfold execOp; rw [ho]; go_simp) (Hc591) ?_
    simp only [Act.put, sT, sS, sZ]
    refine tkG 14 (some 54) (.move (.tmp 53)) none (.bool false) (fun o ho w2 hw => by unfold execOp; rw [ho]; go_simp) (Hc591) ?_
    simp only [Act.put, sT, sS, sZ]
    refine tkG 15 (some 55) (.move (.tmp 12)) (some (14, false)) (.bool true) (fun o ho w2 hw => by unfold execOp; rw [ho]; go_simp) (Hc591) ?_
    simp only [Act.put, sT, sS, sZ]
    refine tkG 16 (some 56) (.unOp .not 4 (.tmp 55)) (some (14, false)) (.bool false) (fun o ho w2 hw => by unfold execOp; rw [ho]; go_simp) (Hc591) ?_
    simp only [Act.put, sT, sS, sZ]
    refine tkG 17 (some 57) (.pick (.tmp 54) (.const (.bool true)) (.tmp 56)) none (.bool false) (fun o ho w2 hw => by unfold execOp; rw [ho]; go_simp) (Hc591) ?_
    simp only [Act.put, sT, sS, sZ]
    refine AnyF.done (by kernel_rfl) ?_ _
    exact nrm_intro ⟨rfl, Hc591⟩
  rintro a' w8 ⟨rfl, hk8⟩
  have HS8 := Lib.hid hk8
  clear hk8 HS7
  go_upto_region 11 with fail
  refine wp_cut (fun a' W' => a' = { tmps := #[.int .u8 (n : Int), undef, .bool true, .slice (some ⟨w.heap.size, 0, none⟩) 2 2, .slice (some ⟨g4, 0, none⟩) 2 2, .slice (some ⟨g5, 0, none⟩) 2 2, .slice (some ⟨g6, 0, none⟩) 2 2, .int .i64 0, .string sd, .string pk, .bool true, .string sg, .bool true, .slice (some ⟨w.heap.size, 0, none⟩) 2 2, .slice (some ⟨g4, 0, none⟩) 2 2, .slice (some ⟨g5, 0, none⟩) 2 2, .slice (some ⟨g6, 0, none⟩) 2 2, .int .u8 (n : Int), .int .i64 (n : Int), .int .i64 0, .slice (some ⟨w.heap.size, 0, none⟩) 2 2, .int .i64 0, .pointer (some ⟨w.heap.size, 0, none⟩), .string S0, .agg #[.string sd, .bool true], .string sd, .tuple #[.string pk, .bool true], .string sd, .tuple #[.string pk, .bool true], .string pk, .bool true, .tuple #[.string sg, .bool true], .string sd, .slice (some ⟨g5, 0, none⟩) 2 2, .int .i64 0, .pointer (some ⟨g5, 0, none⟩), .string M0, .tuple #[.string sg, .bool true], .string sg, .bool true, .int .i64 0, .bool true, .bool true, .string pk, .string P0, .slice (some ⟨g4, 0, none⟩) 2 2, .pointer (some ⟨g4, 0, none⟩), .string P0, .bool false, .bool false, .bool false, .bool true, .bool false, .bool false, .bool false, .bool true, .bool false, .bool false, .string pk, .string P0, .slice (some ⟨g4, 0, none⟩) 2 2, .int .i64 0, .pointer (some ⟨g4, 0, none⟩), .string P0, .bool true, .bool true, .string sg, .string G0, .slice (some ⟨g6, 0, none⟩) 2 2, .int .i64 0, .pointer (some ⟨g6, 0, none⟩), .string G0, .bool true, .bool true, .bool true, .string pk, .slice (some ⟨g5, 0, none⟩) 2 2, .int .i64 0, .pointer (some ⟨g5, 0, none⟩), .string M0, .string sg, .bool true, .bool true, .bool true, .string pk, .slice (some ⟨g5, 0, none⟩) 2 2, .int .i64 0, .pointer (some ⟨g5, 0, none⟩), .string M0, .string mx, .string sg, .bool false, .bool true, .bool true, .bool true, .bool true, .bool true], defers := [] } ∧ Kt w [(g6, strRow [G0, G1], 9), (g5, strRow [M0, M1], 9), (g4, strRow [P0, P1], 9)] W') ?_ ?_
  · skip
    refine wp_region_any (by kernel_rfl) ?_
    change wpAny _ _ _ _ _ _ _ (World.drew _)
    have HD11 := HS8.out.drew
    generalize w8.drew = wd11 at *
    refine any_of_F (S := Kt w [(g6, strRow [G0, G1], 9), (g5, strRow [M0, M1], 9), (g4, strRow [P0, P1], 9)]) (f := 1000) _ _ _ _ ?_
    refine tkG 0 (some 58) (.move (.tmp 9)) none (.string pk) (fun o ho w2 hw => by unfold execOp; rw [ho]; go_simp) (HD11) ?_
    simp only [Act.put, sT, sS, sZ]
    refine tkG 2 (some 60) (.move (.tmp 4)) none (.slice (some ⟨g4, 0, none⟩) 2 2) (fun o ho w2 hw => by unfold execOp; rw [ho]; go_simp) (HD11) ?_
    simp only [Act.put, sT, sS, sZ]
    refine tkG 3 (some 61) (.move (.tmp 7)) none (.int .i64 0) (fun o ho w2 hw => by unfold execOp; rw [ho]; go_simp) (HD11) ?_
    simp only [Act.put, sT, sS, sZ]
    refine tkG 4 (some 62) (.indexAddr 45 (.tmp 60) (.tmp 61)) none (.pointer (some ⟨g4, 0, none⟩)) (fun o ho w2 hw => exec_ia45 (.tmp 60) (.tmp 61) ho g4 0 rfl rfl (by decide) w2) (HD11) ?_
    simp only [Act.put, sT, sS, sZ]
    refine tkG 5 (some 63) (.load 9 (.tmp 62)) none (.string P0) (fun o ho w2 hw => exec_load_one _ 9 (.tmp 62) ho ⟨g4, 0, none⟩ rfl _ (cell_part (hw.get g4 (strRow [P0, P1]) 9 (by simp)) 0 _ (row2_0 _ _)) _ Tryz.underlying9 rfl) (HD11) ?_
    simp only [Act.put, sT, sS, sZ]
    refine AnyF.ready (rs := [1]) (by kernel_rfl) (by simp) (ReadyF.call (some 59) 22 #[.tmp 58] #[9] rfl #[.string pk] (by simp [Act.eval]) (enters_of Tryz.func22 (by kernel_rfl) rfl) _ (H22p.out _) ?_ (fun c w' h => by cases h.1) (fun w' h => by cases h.1) ReadyF.nil)
    rintro v wc5111 ⟨he, hb⟩
    cases he
    have Hc5111 := HD11.below hb
    clear hb
    refine ⟨Hc5111, ?_⟩
    simp only [Act.put, sT, sS, sZ]
    refine tkG 6 (some 64) (.binOp .eql 9 (.tmp 59) (.tmp 63) 9) none (.bool true) (fun o ho w2 hw => exec_eq_same (.tmp 59) (.tmp 63) ho P0 rfl rfl w2) (Hc5111) ?_
    simp only [Act.put, sT, sS, sZ]
    refine tkG 7 (some 65) (.move (.tmp 64)) none (.bool true) (fun o ho w2 hw => by unfold execOp; rw [ho]; go_simp) (Hc5111) ?_
    simp only [Act.put, sT, sS, sZ]
    refine tkG 8 (some 66) (.move (.tmp 11)) (some (7, true)) (.string sg) (fun o ho w2 hw => by unfold execOp; rw [ho]; go_simp) (Hc5111) ?_
    simp only [Act.put, sT, sS, sZ]
    refine tkG 10 (some 68) (.move (.tmp 6)) (some (7, true)) (.slice (some ⟨g6, 0, none⟩) 2 2) (fun o ho w2 hw => by unfold execOp; rw [ho]; go_simp) (Hc5111) ?_
    simp only [Act.put, sT, sS, sZ]
    refine tkG 11 (some 69) (.move (.tmp 7)) (some (7, true)) (.int .i64 0) (fun o ho w2 hw => by unfold execOp; rw [ho]; go_simp) (Hc5111) ?_
    simp only [Act.put, sT, sS, sZ]
    refine tkG 12 (some 70) (.indexAddr 45 (.tmp 68) (.tmp 69)) (some (7, true)) (.pointer (some ⟨g6, 0, none⟩)) (fun o ho w2 hw => exec_ia45 (.tmp 68) (.tmp 69) ho g6 0 rfl rfl (by decide) w2) (Hc5111) ?_
    simp only [Act.put, sT, sS, sZ]
    refine tkG 13 (some 71) (.load 9 (.tmp 70)) (some (7, true)) (.string G0) (fun o ho w2 hw => exec_load_one _ 9 (.tmp 70) ho ⟨g6, 0, none⟩ rfl _ (cell_part (hw.get g6 (strRow [G0, G1]) 9 (by simp)) 0 _ (row2_0 _ _)) _ Tryz.underlying9 rfl) (Hc5111) ?_
    simp only [Act.put, sT, sS, sZ]
    refine AnyF.ready (rs := [9]) (by kernel_rfl) (by simp) (R.rclG (some 67) 22 #[.tmp 66] #[9] (some (7, true)) #[.string sg] (enters_of Tryz.func22 (by kernel_rfl) rfl) _ (H22g.out _) ?_ ReadyF.nil)
    rintro v wc5112 ⟨he, hb⟩
    cases he
    have Hc5112 := Hc5111.below hb
    clear hb
    refine ⟨Hc5112, ?_⟩
    simp only [Act.put, sT, sS, sZ]
    refine tkG 14 (some 72) (.binOp .eql 9 (.tmp 67) (.tmp 71) 9) (some (7, true)) (.bool true) (fun o ho w2 hw => exec_eq_same (.tmp 67) (.tmp 71) ho G0 rfl rfl w2) (Hc5112) ?_
    simp only [Act.put, sT, sS, sZ]
    refine tkG 15 (some 73) (.pick (.tmp 65) (.tmp 72) (.const (.bool false))) none (.bool true) (fun o ho w2 hw => by unfold execOp; rw [ho]; go_simp) (Hc5112) ?_
    simp only [Act.put, sT, sS, sZ]
    refine tkG 16 (some 74) (.move (.tmp 73)) none (.bool true) (fun o ho w2 hw => by unfold execOp; rw [ho]; go_simp) (Hc5112) ?_
    simp only [Act.put, sT, sS, sZ]
    refine tkG 17 (some 75) (.move (.tmp 9)) (some (16, true)) (.string pk) (fun o ho w2 hw => by unfold execOp; rw [ho]; go_simp) (Hc5112) ?_
    simp only [Act.put, sT, sS, sZ]
    refine tkG 18 (some 76) (.move (.tmp 5)) (some (16, true)) (.slice (some ⟨g5, 0, none⟩) 2 2) (fun o ho w2 hw => by unfold execOp; rw [ho]; go_simp) (Hc5112) ?_
    simp only [Act.put, sT, sS, sZ]
    refine tkG 19 (some 77) (.move (.tmp 7)) (some (16, true)) (.int .i64 0) (fun o ho w2 hw => by unfold execOp; rw [ho]; go_simp) (Hc5112) ?_
    simp only [Act.put, sT, sS, sZ]
    refine tkG 20 (some 78) (.indexAddr 45 (.tmp 76) (.tmp 77)) (some (16, true)) (.pointer (some ⟨g5, 0, none⟩)) (fun o ho w2 hw => exec_ia45 (.tmp 76) (.tmp 77) ho g5 0 rfl rfl (by decide) w2) (Hc5112) ?_
    simp only [Act.put, sT, sS, sZ]
    refine tkG 21 (some 79) (.load 9 (.tmp 78)) (some (16, true)) (.string M0) (fun o ho w2 hw => exec_load_one _ 9 (.tmp 78) ho ⟨g5, 0, none⟩ rfl _ (cell_part (hw.get g5 (strRow [M0, M1]) 9 (by simp)) 0 _ (row2_0 _ _)) _ Tryz.underlying9 rfl) (Hc5112) ?_
    simp only [Act.put, sT, sS, sZ]
    refine tkG 22 (some 80) (.move (.tmp 11)) (some (16, true)) (.string sg) (fun o ho w2 hw => by unfold execOp; rw [ho]; go_simp) (Hc5112) ?_
    simp only [Act.put, sT, sS, sZ]
    refine AnyF.ready (rs := [23]) (by kernel_rfl) (by simp) (R.rclG (some 81) 14 #[.tmp 75, .tmp 79, .tmp 80] #[9, 9, 9] (some (16, true)) #[.string pk, .string M0, .string sg] (enters_of Tryz.func14 (by kernel_rfl) rfl) _ (H14t.out _ (HG.out.below Hc5112.1)) ?_ ReadyF.nil)
    rintro v wc5113 ⟨he, hb⟩
    cases he
    have Hc5113 := Hc5112.below hb
    clear hb
    refine ⟨Hc5113, ?_⟩
    simp only [Act.put, sT, sS, sZ]
    refine tkG 24 (some 82) (.pick (.tmp 74) (.tmp 81) (.const (.bool false))) none (.bool true) (fun o ho w2 hw => by unfold execOp; rw [ho]; go_simp) (Hc5113) ?_
    simp only [Act.put, sT, sS, sZ]
    refine tkG 25 (some 83) (.move (.tmp 82)) none (.bool true) (fun o ho w2 hw => by unfold execOp; rw [ho]; go_simp) (Hc5113) ?_
    simp only [Act.put, sT, sS, sZ]
    refine tkG 26 (some 84) (.move (.tmp 9)) (some (25, true)) (.string pk) (fun o ho w2 hw => by unfold execOp; rw [ho]; go_simp) (Hc5113) ?_
    simp only [Act.put, sT, sS, sZ]
    refine tkG 27 (some 85) (.move (.tmp 5)) (some (25, true)) (.slice (some ⟨g5, 0, none⟩) 2 2) (fun o ho w2 hw => by unfold execOp; rw [ho]; go_simp) (Hc5113) ?_
    simp only [Act.put, sT, sS, sZ]
    refine tkG 28 (some 86) (.move (.tmp 7)) (some (25, true)) (.int .i64 0) (fun o ho w2 hw => by unfold execOp; rw [ho]; go_simp) (Hc5113) ?_
    simp only [Act.put, sT, sS, sZ]
    refine tkG 29 (some 87) (.indexAddr 45 (.tmp 85) (.tmp 86)) (some (25, true)) (.pointer (some ⟨g5, 0, none⟩)) (fun o ho w2 hw => exec_ia45 (.tmp 85) (.tmp 86) ho g5 0 rfl rfl (by decide) w2) (Hc5113) ?_
    simp only [Act.put, sT, sS, sZ]
    refine tkG 30 (some 88) (.load 9 (.tmp 87)) (some (25, true)) (.string M0) (fun o ho w2 hw => exec_load_one _ 9 (.tmp 87) ho ⟨g5, 0, none⟩ rfl _ (cell_part (hw.get g5 (strRow [M0, M1]) 9 (by simp)) 0 _ (row2_0 _ _)) _ Tryz.underlying9 rfl) (Hc5113) ?_
    simp only [Act.put, sT, sS, sZ]
    refine tkG 31 (some 89) (.binOp .add 9 (.tmp 88) (.const (.string { data := #[120] })) 9) (some (25, true)) (.string mx) (fun o ho w2 hw => exec_addx (.tmp 88) ho rfl M0 mx lM hmx.out rfl w2) (Hc5113) ?_
    simp only [Act.put, sT, sS, sZ]
    refine tkG 32 (some 90) (.move (.tmp 11)) (some (25, true)) (.string sg) (fun o ho w2 hw => by unfold execOp; rw [ho]; go_simp) (Hc5113) ?_
    simp only [Act.put, sT, sS, sZ]
    refine AnyF.ready (rs := [33]) (by kernel_rfl) (by simp) (R.rclG (some 91) 14 #[.tmp 84, .tmp 89, .tmp 90] #[9, 9, 9] (some (25, true)) #[.string pk, .string mx, .string sg] (enters_of Tryz.func14 (by kernel_rfl) rfl) _ (H14f.out _ (HG.out.below Hc5113.1)) ?_ ReadyF.nil)
    rintro v wc5114 ⟨he, hb⟩
    cases he
    have Hc5114 := Hc5113.below hb
    clear hb
    refine ⟨Hc5114, ?_⟩
    simp only [Act.put, sT, sS, sZ]
    refine tkG 34 (some 92) (.unOp .not 4 (.tmp 91)) (some (25, true)) (.bool true) (fun o ho w2 hw => by unfold execOp; rw [ho]; go_simp) (Hc5114) ?_
    simp only [Act.put, sT, sS, sZ]
    refine tkG 35 (some 93) (.pick (.tmp 83) (.tmp 92) (.const (.bool false))) none (.bool true) (fun o ho w2 hw => by unfold execOp; rw [ho]; go_simp) (Hc5114) ?_
    simp only [Act.put, sT, sS, sZ]
    refine tkG 36 (some 94) (.move (.tmp 93)) none (.bool true) (fun o ho w2 hw => by unfold execOp; rw [ho]; go_simp) (Hc5114) ?_
    simp only [Act.put, sT, sS, sZ]
    refine AnyF.ready (rs := [37]) (by kernel_rfl) (by simp) (R.rclG (some 95) 9 #[] #[] (some (36, true)) #[] (enters_of Tryz.func9 (by kernel_rfl) rfl) _ (HA.out _) ?_ ReadyF.nil)
    rintro v wc5115 ⟨he, hb⟩
    cases he
    have Hc5115 := Hc5114.below hb
    clear hb
    refine ⟨Hc5115, ?_⟩
    simp only [Act.put, sT, sS, sZ]
    refine tkG 38 (some 96) (.pick (.tmp 94) (.tmp 95) (.const (.bool false))) none (.bool true) (fun o ho w2 hw => by unfold execOp; rw [ho]; go_simp) (Hc5115) ?_
    simp only [Act.put, sT, sS, sZ]
    refine tkG 39 (some 2) (.assign (.tmp 96)) none (.bool true) (fun o ho w2 hw => by unfold execOp; rw [ho]; go_simp) (Hc5115) ?_
    simp only [Act.put, sT, sS, sZ]
    refine AnyF.done (by kernel_rfl) ?_ _
    exact nrm_intro ⟨rfl, Hc5115⟩
  rintro a' w9 ⟨rfl, hk9⟩
  go_wp2_with fail
  exact ⟨rfl, _, results_tmp rfl _ _ _, rfl, hk9.1⟩
set_option maxRecDepth 100000 in
set_option maxHeartbeats 8000000 in
theorem known_1 (n : Nat) (hn : n < 256) (hj : n % 2 = 1) (w : World) (hG9 : Glob9 w) :
    Calls Tryz.prog 5 #[.int .u8 (n : Int)] w fun e w' => e = .returned (.bool true) ∧ Below w.heap.size w w' := by
  have hnk : (n : Int) % 2 = 1 := by omega
  have hnt : (n : Int).tmod 2 = 1 := by rw [Int.tmod_eq_emod_of_nonneg (by omega)]; exact hnk
  clear hj
  obtain ⟨S0, hS0⟩ : ∃ x : ByteArray, Hid (x = kSH0) := ⟨_, Lib.hid rfl⟩
  obtain ⟨P0, hP0⟩ : ∃ x : ByteArray, Hid (x = kPH0) := ⟨_, Lib.hid rfl⟩
  obtain ⟨G0, hG0⟩ : ∃ x : ByteArray, Hid (x = kGH0) := ⟨_, Lib.hid rfl⟩
  obtain ⟨M0, hM0⟩ : ∃ x : ByteArray, Hid (x = ⟨kM0.toArray⟩) := ⟨_, Lib.hid rfl⟩
  obtain ⟨S1, hS1⟩ : ∃ x : ByteArray, Hid (x = kSH1) := ⟨_, Lib.hid rfl⟩
  obtain ⟨P1, hP1⟩ : ∃ x : ByteArray, Hid (x = kPH1) := ⟨_, Lib.hid rfl⟩
  obtain ⟨G1, hG1⟩ : ∃ x : ByteArray, Hid (x = kGH1) := ⟨_, Lib.hid rfl⟩
  obtain ⟨M1, hM1⟩ : ∃ x : ByteArray, Hid (x = ⟨kM1.toArray⟩) := ⟨_, Lib.hid rfl⟩
  obtain ⟨sd, hsd⟩ : ∃ x : ByteArray, Hid (x = ⟨kS1.toArray⟩) := ⟨_, Lib.hid rfl⟩
  obtain ⟨pk, hpk⟩ : ∃ x : ByteArray, Hid (x = ⟨kPubL1.toArray⟩) := ⟨_, Lib.hid rfl⟩
  obtain ⟨sg, hsg⟩ : ∃ x : ByteArray, Hid (x = ⟨kHeadL1.toArray⟩ ++ ⟨kTailL1.toArray⟩) := ⟨_, Lib.hid rfl⟩
  obtain ⟨mx, hmx⟩ : ∃ x : ByteArray, Hid (M1 ++ ({ data := #[120] } : ByteArray) = x) := ⟨_, Lib.hid rfl⟩
  have lM : M1.size ≤ 1000 := by rw [hM1.out]; decide
  have H21 : Hid (∀ w, Calls Tryz.prog 21 #[.string S1] w fun e w' => e = .returned (.agg #[.string sd, .bool true]) ∧ Below w.heap.size w w') := by
    refine Lib.hid (fun w => ?_)
    have h := R.rgethex_any S1 (by rw [hS1.out]; decide) w
    rw [show S1.data.toList = kSH1.data.toList by rw [hS1.out], getS1] at h
    rw [hsd.out]
    exact h
  have H10 : Hid (∀ w, Glob9 w → Calls Tryz.prog 10 #[.string sd] w fun e w' => e = .returned (.tuple #[.string pk, .bool true]) ∧ Below w.heap.size w w') := by
    refine Lib.hid (fun w hw => ?_)
    have h := public_yes sd (by rw [hsd.out]; rfl) w hw.2.1
    rw [show sd.data.toList = kS1 by rw [hsd.out], pub1, ← hpk.out] at h
    exact h
  have H12 : Hid (∀ w, Glob9 w → Calls Tryz.prog 12 #[.string sd, .string M1] w fun e w' => e = .returned (.tuple #[.string sg, .bool true]) ∧ Below w.heap.size w w') := by
    refine Lib.hid (fun w hw => ?_)
    have h := sign_yes sd M1 (by rw [hsd.out]; rfl) (by omega) w hw.2.1 hw.2.2
    rw [show sd.data.toList = kS1 by rw [hsd.out], show M1.data.toList = kM1 by rw [hM1.out], head1, tail1, ← hsg.out] at h
    exact h
  have e3 : sg.data.toList = kHeadL1 ++ kTailL1 := by
    rw [hsg.out]
    rfl
  have e2 : mx.data.toList = kM1 ++ [120] := by
    rw [← hmx.out, hM1.out]
    rfl
  have H22p : Hid (∀ w, Calls Tryz.prog 22 #[.string pk] w fun e w' => e = .returned (.string P1) ∧ Below w.heap.size w w') := by
    refine Lib.hid (fun w => ?_)
    have h := R.rhex_any pk (by rw [hpk.out]; decide) w
    rw [show pk.data.toList = kPubL1 by rw [hpk.out], hexP1, ← hP1.out] at h
    exact h
  have H22g : Hid (∀ w, Calls Tryz.prog 22 #[.string sg] w fun e w' => e = .returned (.string G1) ∧ Below w.heap.size w w') := by
    refine Lib.hid (fun w => ?_)
    have h := R.rhex_any sg (by rw [hsg.out]; decide) w
    rw [e3, hexG1, ← hG1.out] at h
    exact h
  have hA : FromR pk (kPub1P, true) := by rw [hpk.out]; exact fromPub1
  have hAp : true = true → pk.size = 32 ∧ onN kPub1P := fun _ => ⟨by rw [hpk.out]; rfl, pubOn1⟩
  have hs : S7.fromL (sg.data.toList.drop 32) = (22493278956989295319831480986006851106061907369804654499116800046813764104, true) := by rw [e3]; exact from1
  have H14t : Hid (∀ w, Glob9 w → Calls Tryz.prog 14 #[.string pk, .string M1, .string sg] w fun e w' => e = .returned (.bool true) ∧ Below w.heap.size w w') := by
    refine Lib.hid (fun w hw => ?_)
    have h := verify_core pk M1 sg (by rw [hsg.out]; decide) (by rw [hpk.out]; decide) (by omega) _ _ hA hAp _ _ hs w hw
    rw [show pk.data.toList = kPubL1 by rw [hpk.out], show M1.data.toList = kM1 by rw [hM1.out], e3, good1] at h
    exact h
  have H14f : Hid (∀ w, Glob9 w → Calls Tryz.prog 14 #[.string pk, .string mx, .string sg] w fun e w' => e = .returned (.bool false) ∧ Below w.heap.size w w') := by
    refine Lib.hid (fun w hw => ?_)
    have h := verify_core pk mx sg (by rw [hsg.out]; decide) (by rw [hpk.out]; decide) (by rw [← hmx.out, ByteArray.size_append]; show M1.size + 1 ≤ _; omega) _ _ hA hAp _ _ hs w hw
    rw [show pk.data.toList = kPubL1 by rw [hpk.out], e2, e3, bad1] at h
    exact h
  have HA : Hid (∀ w, _) := Lib.hid (fun w => awake_any w)
  have HG := Lib.hid hG9
  have hbS0 : Hid (Value.string kSH0 = .string S0) := Lib.hid (by rw [hS0.out])
  have hbS1 : Hid (Value.string kSH1 = .string S1) := Lib.hid (by rw [hS1.out])
  have hbP0 : Hid (Value.string kPH0 = .string P0) := Lib.hid (by rw [hP0.out])
  have hbP1 : Hid (Value.string kPH1 = .string P1) := Lib.hid (by rw [hP1.out])
  have hbG0 : Hid (Value.string kGH0 = .string G0) := Lib.hid (by rw [hG0.out])
  have hbG1 : Hid (Value.string kGH1 = .string G1) := Lib.hid (by rw [hG1.out])
  have hbM0 : Hid (Value.string ⟨kM0.toArray⟩ = .string M0) := Lib.hid (by rw [hM0.out])
  have hbM1 : Hid (Value.string ⟨kM1.toArray⟩ = .string M1) := Lib.hid (by rw [hM1.out])
  clear hS0 hS1 hP0 hP1 hG0 hG1 hM0 hM1 hsd hpk hsg e2 e3 hA hAp hs hG9
  have HS0 : Hid (Kt w [] w) := Lib.hid (Kt.nil w)
  go_enter Tryz.func5, Tryz.ntmps5
  go_upto_region 1 with fail
  go_upto_region 1 with fail
  refine wp_region_list ?_
  refine wpList_run rfl _ (exec_build2 _ _ _ rfl S0 S1 (by exact hbS0.out) (by exact hbS1.out)) ?_
  simp only [Act.put, sT, sS, sZ]
  have bg3 := HS0.out.1.size
  have HS1 := Lib.hid (HS0.out.new (strRow [S0, S1]) 9)
  clear HS0
  generalize w.alloc (.cells (strRow [S0, S1]) 9) = w1 at *
  refine wpList_run rfl (.slice (some ⟨w.heap.size, 0, none⟩) 2 2) (exec_assign (.tmp 13) rfl _ rfl _) ?_
  simp only [Act.put, sT, sS, sZ]
  refine wpList_nil ?_
  go_upto_region 2 with fail
  refine wp_region_list ?_
  refine wpList_run rfl _ (exec_build2 _ _ _ rfl P0 P1 (by exact hbP0.out) (by exact hbP1.out)) ?_
  simp only [Act.put, sT, sS, sZ]
  have lg4_0 := HS1.out.lt w.heap.size (strRow [S0, S1]) 9 (by simp)
  have bg4 := HS1.out.1.size
  have HS2 := Lib.hid (HS1.out.new (strRow [P0, P1]) 9)
  clear HS1
  generalize w1.alloc (.cells (strRow [P0, P1]) 9) = w2 at *
  generalize hgg4 : w1.heap.size = g4 at *
  clear hgg4
  refine wpList_run rfl (.slice (some ⟨g4, 0, none⟩) 2 2) (exec_assign (.tmp 14) rfl _ rfl _) ?_
  simp only [Act.put, sT, sS, sZ]
  refine wpList_nil ?_
  go_upto_region 3 with fail
  refine wp_region_list ?_
  refine wpList_run rfl _ (exec_build2 _ _ _ rfl M0 M1 (by exact hbM0.out) (by exact hbM1.out)) ?_
  simp only [Act.put, sT, sS, sZ]
  have lg5_0 := HS2.out.lt g4 (strRow [P0, P1]) 9 (by simp)
  have lg5_1 := HS2.out.lt w.heap.size (strRow [S0, S1]) 9 (by simp)
  have bg5 := HS2.out.1.size
  have HS3 := Lib.hid (HS2.out.new (strRow [M0, M1]) 9)
  clear HS2
  generalize w2.alloc (.cells (strRow [M0, M1]) 9) = w3 at *
  generalize hgg5 : w2.heap.size = g5 at *
  clear hgg5
  refine wpList_run rfl (.slice (some ⟨g5, 0, none⟩) 2 2) (exec_assign (.tmp 15) rfl _ rfl _) ?_
  simp only [Act.put, sT, sS, sZ]
  refine wpList_nil ?_
  go_upto_region 4 with fail
  refine wp_region_list ?_
  refine wpList_run rfl _ (exec_build2 _ _ _ rfl G0 G1 (by exact hbG0.out) (by exact hbG1.out)) ?_
  simp only [Act.put, sT, sS, sZ]
  have lg6_0 := HS3.out.lt g5 (strRow [M0, M1]) 9 (by simp)
  have lg6_1 := HS3.out.lt g4 (strRow [P0, P1]) 9 (by simp)
  have lg6_2 := HS3.out.lt w.heap.size (strRow [S0, S1]) 9 (by simp)
  have bg6 := HS3.out.1.size
  have HS4 := Lib.hid (HS3.out.new (strRow [G0, G1]) 9)
  clear HS3
  generalize w3.alloc (.cells (strRow [G0, G1]) 9) = w4 at *
  generalize hgg6 : w3.heap.size = g6 at *
  clear hgg6
  refine wpList_run rfl (.slice (some ⟨g6, 0, none⟩) 2 2) (exec_assign (.tmp 16) rfl _ rfl _) ?_
  simp only [Act.put, sT, sS, sZ]
  refine wpList_nil ?_
  have hc4 := cell_part (HS4.out.get w.heap.size (strRow [S0, S1]) 9 (by simp)) 1 _ (row2_1 _ _)
  go_wp2_with fail
  clear hc4
  refine (H21.out _).mono ?_
  rintro e w5 ⟨rfl, hb⟩
  have HS5 := Lib.hid ((HS4.out.below hb).sub (m := [(g6, strRow [G0, G1], 9), (g5, strRow [M0, M1], 9), (g4, strRow [P0, P1], 9)]) (fun p hp => by simp at hp ⊢; rcases hp with rfl | rfl | rfl <;> simp))
  clear hb HS4
  go_wp2_with (refine wpList_run rfl (.string sd) (exec_fieldV 26 (.tmp 24) 0 rfl _ _ rfl _ (field_said _ _ _)) ?_)
  refine (H10.out _ (HG.out.below HS5.out.1)).mono ?_
  rintro e w6 ⟨rfl, hb⟩
  have HS6 := Lib.hid (HS5.out.below hb)
  clear hb HS5
  have hc6 := cell_part (HS6.out.get g5 (strRow [M0, M1]) 9 (by simp)) 1 _ (row2_1 _ _)
  go_wp2_with fail
  clear hc6
  refine (H12.out _ (HG.out.below HS6.out.1)).mono ?_
  rintro e w7 ⟨rfl, hb⟩
  have HS7 := Lib.hid (HS6.out.below hb)
  clear hb HS6
  go_upto_region 9 with fail
  refine wp_cut (fun a' W' => a' = { tmps := #[.int .u8 (n : Int), undef, .bool false, .slice (some ⟨w.heap.size, 0, none⟩) 2 2, .slice (some ⟨g4, 0, none⟩) 2 2, .slice (some ⟨g5, 0, none⟩) 2 2, .slice (some ⟨g6, 0, none⟩) 2 2, .int .i64 1, .string sd, .string pk, .bool true, .string sg, .bool true, .slice (some ⟨w.heap.size, 0, none⟩) 2 2, .slice (some ⟨g4, 0, none⟩) 2 2, .slice (some ⟨g5, 0, none⟩) 2 2, .slice (some ⟨g6, 0, none⟩) 2 2, .int .u8 (n : Int), .int .i64 (n : Int), .int .i64 1, .slice (some ⟨w.heap.size, 0, none⟩) 2 2, .int .i64 1, .pointer (some ⟨w.heap.size, 1, none⟩), .string S1, .agg #[.string sd, .bool true], .string sd, .tuple #[.string pk, .bool true], .string sd, .tuple #[.string pk, .bool true], .string pk, .bool true, .tuple #[.string sg, .bool true], .string sd, .slice (some ⟨g5, 0, none⟩) 2 2, .int .i64 1, .pointer (some ⟨g5, 1, none⟩), .string M1, .tuple #[.string sg, .bool true], .string sg, .bool true, .int .i64 1, .bool false, .bool false, undef, undef, undef, undef, undef, undef, .bool false, .bool false, .bool true, .bool false, .bool false, .bool false, .bool true, .bool false, .bool false, undef, undef, undef, undef, undef, undef, undef, undef, undef, undef, undef, undef, undef, undef, undef, undef, undef, undef, undef, undef, undef, undef, undef, undef, undef, undef, undef, undef, undef, undef, undef, undef, undef, undef, undef, undef, undef, undef, undef], defers := [] } ∧ Kt w [(g6, strRow [G0, G1], 9), (g5, strRow [M0, M1], 9), (g4, strRow [P0, P1], 9)] W') ?_ ?_
  · skip
    refine wp_region_any (by kernel_rfl) ?_
    change wpAny _ _ _ _ _ _ _ (World.drew _)
    have HD9 := HS7.out.drew
    generalize w7.drew = wd9 at *
    refine any_of_F (S := Kt w [(g6, strRow [G0, G1], 9), (g5, strRow [M0, M1], 9), (g4, strRow [P0, P1], 9)]) (f := 1000) _ _ _ _ ?_
    refine tkG 0 (some 40) (.move (.tmp 7)) none (.int .i64 1) (fun o ho w2 hw => by unfold execOp; rw [ho]; go_simp) (HD9) ?_
    simp only [Act.put, sT, sS, sZ]
    refine tkG 1 (some 41) (.binOp .eql 3 (.tmp 40) (.const (.int .i64 0)) 3) none (.bool false) (fun o ho w2 hw => by unfold execOp; rw [ho]; go_simp) (HD9) ?_
    simp only [Act.put, sT, sS, sZ]
    refine tkG 2 (some 42) (.move (.tmp 41)) none (.bool false) (fun o ho w2 hw => by unfold execOp; rw [ho]; go_simp) (HD9) ?_
    simp only [Act.put, sT, sS, sZ]
    refine R.skG 3 (some 43) (.move (.tmp 9)) (some (2, true)) (HD9) ?_
    simp only [Act.put, sT, sS, sZ]
    refine R.skG 4 (some 44) (.call { callee := .value (.func 22), args := #[.tmp 43], argTypes := #[9] }) (some (2, true)) (HD9) ?_
    simp only [Act.put, sT, sS, sZ]
    refine R.skG 5 (some 45) (.move (.tmp 4)) (some (2, true)) (HD9) ?_
    simp only [Act.put, sT, sS, sZ]
    refine R.skG 6 (some 46) (.indexAddr 45 (.tmp 45) (.const (.int .i64 0))) (some (2, true)) (HD9) ?_
    simp only [Act.put, sT, sS, sZ]
    refine R.skG 7 (some 47) (.load 9 (.tmp 46)) (some (2, true)) (HD9) ?_
    simp only [Act.put, sT, sS, sZ]
    refine R.skG 8 (some 48) (.binOp .neq 9 (.tmp 44) (.tmp 47) 9) (some (2, true)) (HD9) ?_
    simp only [Act.put, sT, sS, sZ]
    refine tkG 9 (some 49) (.pick (.tmp 42) (.tmp 48) (.const (.bool false))) none (.bool false) (fun o ho w2 hw => by unfold execOp; rw [ho]; go_simp) (HD9) ?_
    simp only [Act.put, sT, sS, sZ]
    refine tkG 10 (some 50) (.move (.tmp 49)) none (.bool false) (fun o ho w2 hw => by unfold execOp; rw [ho]; go_simp) (HD9) ?_
    simp only [Act.put, sT, sS, sZ]
    refine tkG 11 (some 51) (.move (.tmp 10)) (some (10, false)) (.bool true) (fun o ho w2 hw => by unfold execOp; rw [ho]; go_simp) (HD9) ?_
    simp only [Act.put, sT, sS, sZ]
    refine tkG 12 (some 52) (.unOp .not 4 (.tmp 51)) (some (10, false)) (.bool false) (fun o ho w2 hw => by unfold execOp; rw [ho]; go_simp) (HD9) ?_
    simp only [Act.put, sT, sS, sZ]
    refine tkG 13 (some 53) (.pick (.tmp 50) (.const (.bool true)) (.tmp 52)) none (.bool false) (fun o ho w2 hw => by unfold execOp; rw [ho]; go_simp) (HD9) ?_
    simp only [Act.put, sT, sS, sZ]
    refine tkG 14 (some 54) (.move (.tmp 53)) none (.bool false) (fun o ho w2 hw => by unfold execOp; rw [ho]; go_simp) (HD9) ?_
    simp only [Act.put, sT, sS, sZ]
    refine tkG 15 (some 55) (.move (.tmp 12)) (some (14, false)) (.bool true) (fun o ho w2 hw => by unfold execOp; rw [ho]; go_simp) (HD9) ?_
    simp only [Act.put, sT, sS, sZ]
    refine tkG 16 (some 56) (.unOp .not 4 (.tmp 55)) (some (14, false)) (.bool false) (fun o ho w2 hw => by unfold execOp; rw [ho]; go_simp) (HD9) ?_
    simp only [Act.put, sT, sS, sZ]
    refine tkG 17 (some 57) (.pick (.tmp 54) (.const (.bool true)) (.tmp 56)) none (.bool false) (fun o ho w2 hw => by unfold execOp; rw [ho]; go_simp) (HD9) ?_
    simp only [Act.put, sT, sS, sZ]
    refine AnyF.done (by kernel_rfl) ?_ _
    exact nrm_intro ⟨rfl, HD9⟩
  rintro a' w8 ⟨rfl, hk8⟩
  have HS8 := Lib.hid hk8
  clear hk8 HS7
  go_upto_region 11 with fail
  refine wp_cut (fun a' W' => a' = { tmps := #[.int .u8 (n : Int), undef, .bool true, .slice (some ⟨w.heap.size, 0, none⟩) 2 2, .slice (some ⟨g4, 0, none⟩) 2 2, .slice (some ⟨g5, 0, none⟩) 2 2, .slice (some ⟨g6, 0, none⟩) 2 2, .int .i64 1, .string sd, .string pk, .bool true, .string sg, .bool true, .slice (some ⟨w.heap.size, 0, none⟩) 2 2, .slice (some ⟨g4, 0, none⟩) 2 2, .slice (some ⟨g5, 0, none⟩) 2 2, .slice (some ⟨g6, 0, none⟩) 2 2, .int .u8 (n : Int), .int .i64 (n : Int), .int .i64 1, .slice (some ⟨w.heap.size, 0, none⟩) 2 2, .int .i64 1, .pointer (some ⟨w.heap.size, 1, none⟩), .string S1, .agg #[.string sd, .bool true], .string sd, .tuple #[.string pk, .bool true], .string sd, .tuple #[.string pk, .bool true], .string pk, .bool true, .tuple #[.string sg, .bool true], .string sd, .slice (some ⟨g5, 0, none⟩) 2 2, .int .i64 1, .pointer (some ⟨g5, 1, none⟩), .string M1, .tuple #[.string sg, .bool true], .string sg, .bool true, .int .i64 1, .bool false, .bool false, undef, undef, undef, undef, undef, undef, .bool false, .bool false, .bool true, .bool false, .bool false, .bool false, .bool true, .bool false, .bool false, .string pk, .string P1, .slice (some ⟨g4, 0, none⟩) 2 2, .int .i64 1, .pointer (some ⟨g4, 1, none⟩), .string P1, .bool true, .bool true, .string sg, .string G1, .slice (some ⟨g6, 0, none⟩) 2 2, .int .i64 1, .pointer (some ⟨g6, 1, none⟩), .string G1, .bool true, .bool true, .bool true, .string pk, .slice (some ⟨g5, 0, none⟩) 2 2, .int .i64 1, .pointer (some ⟨g5, 1, none⟩), .string M1, .string sg, .bool true, .bool true, .bool true, .string pk, .slice (some ⟨g5, 0, none⟩) 2 2, .int .i64 1, .pointer (some ⟨g5, 1, none⟩), .string M1, .string mx, .string sg, .bool false, .bool true, .bool true, .bool true, .bool true, .bool true], defers := [] } ∧ Kt w [(g6, strRow [G0, G1], 9), (g5, strRow [M0, M1], 9), (g4, strRow [P0, P1], 9)] W') ?_ ?_
  · skip
    refine wp_region_any (by kernel_rfl) ?_
    change wpAny _ _ _ _ _ _ _ (World.drew _)
    have HD11 := HS8.out.drew
    generalize w8.drew = wd11 at *
    refine any_of_F (S := Kt w [(g6, strRow [G0, G1], 9), (g5, strRow [M0, M1], 9), (g4, strRow [P0, P1], 9)]) (f := 1000) _ _ _ _ ?_
    refine tkG 0 (some 58) (.move (.tmp 9)) none (.string pk) (fun o ho w2 hw => by unfold execOp; rw [ho]; go_simp) (HD11) ?_
    simp only [Act.put, sT, sS, sZ]
    refine tkG 2 (some 60) (.move (.tmp 4)) none (.slice (some ⟨g4, 0, none⟩) 2 2) (fun o ho w2 hw => by unfold execOp; rw [ho]; go_simp) (HD11) ?_
    simp only [Act.put, sT, sS, sZ]
    refine tkG 3 (some 61) (.move (.tmp 7)) none (.int .i64 1) (fun o ho w2 hw => by unfold execOp; rw [ho]; go_simp) (HD11) ?_
    simp only [Act.put, sT, sS, sZ]
    refine tkG 4 (some 62) (.indexAddr 45 (.tmp 60) (.tmp 61)) none (.pointer (some ⟨g4, 1, none⟩)) (fun o ho w2 hw => exec_ia45 (.tmp 60) (.tmp 61) ho g4 1 rfl rfl (by decide) w2) (HD11) ?_
    simp only [Act.put, sT, sS, sZ]
    refine tkG 5 (some 63) (.load 9 (.tmp 62)) none (.string P1) (fun o ho w2 hw => exec_load_one _ 9 (.tmp 62) ho ⟨g4, 1, none⟩ rfl _ (cell_part (hw.get g4 (strRow [P0, P1]) 9 (by simp)) 1 _ (row2_1 _ _)) _ Tryz.underlying9 rfl) (HD11) ?_
    simp only [Act.put, sT, sS, sZ]
    refine AnyF.ready (rs := [1]) (by kernel_rfl) (by simp) (ReadyF.call (some 59) 22 #[.tmp 58] #[9] rfl #[.string pk] (by simp [Act.eval]) (enters_of Tryz.func22 (by kernel_rfl) rfl) _ (H22p.out _) ?_ (fun c w' h => by cases h.1) (fun w' h => by cases h.1) ReadyF.nil)
    rintro v wc5111 ⟨he, hb⟩
    cases he
    have Hc5111 := HD11.below hb
    clear hb
    refine ⟨Hc5111, ?_⟩
    simp only [Act.put, sT, sS, sZ]
    refine tkG 6 (some 64) (.binOp .eql 9 (.tmp 59) (.tmp 63) 9) none (.bool true) (fun o ho w2 hw => exec_eq_same (.tmp 59) (.tmp 63) ho P1 rfl rfl w2) (Hc5111) ?_
    simp only [Act.put, sT, sS, sZ]
    refine tkG 7 (some 65) (.move (.tmp 64)) none (.bool true) (fun o ho w2 hw => by unfold execOp; rw [ho]; go_simp) (Hc5111) ?_
    simp only [Act.put, sT, sS, sZ]
    refine tkG 8 (some 66) (.move (.tmp 11)) (some (7, true)) (.string sg) (fun o ho w2 hw => by unfold execOp; rw [ho]; go_simp) (Hc5111) ?_
    simp only [Act.put, sT, sS, sZ]
    refine tkG 10 (some 68) (.move (.tmp 6)) (some (7, true)) (.slice (some ⟨g6, 0, none⟩) 2 2) (fun o ho w2 hw => by unfold execOp; rw [ho]; go_simp) (Hc5111) ?_
    simp only [Act.put, sT, sS, sZ]
    refine tkG 11 (some 69) (.move (.tmp 7)) (some (7, true)) (.int .i64 1) (fun o ho w2 hw => by unfold execOp; rw [ho]; go_simp) (Hc5111) ?_
    simp only [Act.put, sT, sS, sZ]
    refine tkG 12 (some 70) (.indexAddr 45 (.tmp 68) (.tmp 69)) (some (7, true)) (.pointer (some ⟨g6, 1, none⟩)) (fun o ho w2 hw => exec_ia45 (.tmp 68) (.tmp 69) ho g6 1 rfl rfl (by decide) w2) (Hc5111) ?_
    simp only [Act.put, sT, sS, sZ]
    refine tkG 13 (some 71) (.load 9 (.tmp 70)) (some (7, true)) (.string G1) (fun o ho w2 hw => exec_load_one _ 9 (.tmp 70) ho ⟨g6, 1, none⟩ rfl _ (cell_part (hw.get g6 (strRow [G0, G1]) 9 (by simp)) 1 _ (row2_1 _ _)) _ Tryz.underlying9 rfl) (Hc5111) ?_
    simp only [Act.put, sT, sS, sZ]
    refine AnyF.ready (rs := [9]) (by kernel_rfl) (by simp) (R.rclG (some 67) 22 #[.tmp 66] #[9] (some (7, true)) #[.string sg] (enters_of Tryz.func22 (by kernel_rfl) rfl) _ (H22g.out _) ?_ ReadyF.nil)
    rintro v wc5112 ⟨he, hb⟩
    cases he
    have Hc5112 := Hc5111.below hb
    clear hb
    refine ⟨Hc5112, ?_⟩
    simp only [Act.put, sT, sS, sZ]
    refine tkG 14 (some 72) (.binOp .eql 9 (.tmp 67) (.tmp 71) 9) (some (7, true)) (.bool true) (fun o ho w2 hw => exec_eq_same (.tmp 67) (.tmp 71) ho G1 rfl rfl w2) (Hc5112) ?_
    simp only [Act.put, sT, sS, sZ]
    refine tkG 15 (some 73) (.pick (.tmp 65) (.tmp 72) (.const (.bool false))) none (.bool true) (fun o ho w2 hw => by unfold execOp; rw [ho]; go_simp) (Hc5112) ?_
    simp only [Act.put, sT, sS, sZ]
    refine tkG 16 (some 74) (.move (.tmp 73)) none (.bool true) (fun o ho w2 hw => by unfold execOp; rw [ho]; go_simp) (Hc5112) ?_
    simp only [Act.put, sT, sS, sZ]
    refine tkG 17 (some 75) (.move (.tmp 9)) (some (16, true)) (.string pk) (fun o ho w2 hw => by unfold execOp; rw [ho]; go_simp) (Hc5112) ?_
    simp only [Act.put, sT, sS, sZ]
    refine tkG 18 (some 76) (.move (.tmp 5)) (some (16, true)) (.slice (some ⟨g5, 0, none⟩) 2 2) (fun o ho w2 hw => by unfold execOp; rw [ho]; go_simp) (Hc5112) ?_
    simp only [Act.put, sT, sS, sZ]
    refine tkG 19 (some 77) (.move (.tmp 7)) (some (16, true)) (.int .i64 1) (fun o ho w2 hw => by unfold execOp; rw [ho]; go_simp) (Hc5112) ?_
    simp only [Act.put, sT, sS, sZ]
    refine tkG 20 (some 78) (.indexAddr 45 (.tmp 76) (.tmp 77)) (some (16, true)) (.pointer (some ⟨g5, 1, none⟩)) (fun o ho w2 hw => exec_ia45 (.tmp 76) (.tmp 77) ho g5 1 rfl rfl (by decide) w2) (Hc5112) ?_
    simp only [Act.put, sT, sS, sZ]
    refine tkG 21 (some 79) (.load 9 (.tmp 78)) (some (16, true)) (.string M1) (fun o ho w2 hw => exec_load_one _ 9 (.tmp 78) ho ⟨g5, 1, none⟩ rfl _ (cell_part (hw.get g5 (strRow [M0, M1]) 9 (by simp)) 1 _ (row2_1 _ _)) _ Tryz.underlying9 rfl) (Hc5112) ?_
    simp only [Act.put, sT, sS, sZ]
    refine tkG 22 (some 80) (.move (.tmp 11)) (some (16, true)) (.string sg) (fun o ho w2 hw => by unfold execOp; rw [ho]; go_simp) (Hc5112) ?_
    simp only [Act.put, sT, sS, sZ]
    refine AnyF.ready (rs := [23]) (by kernel_rfl) (by simp) (R.rclG (some 81) 14 #[.tmp 75, .tmp 79, .tmp 80] #[9, 9, 9] (some (16, true)) #[.string pk, .string M1, .string sg] (enters_of Tryz.func14 (by kernel_rfl) rfl) _ (H14t.out _ (HG.out.below Hc5112.1)) ?_ ReadyF.nil)
    rintro v wc5113 ⟨he, hb⟩
    cases he
    have Hc5113 := Hc5112.below hb
    clear hb
    refine ⟨Hc5113, ?_⟩
    simp only [Act.put, sT, sS, sZ]
    refine tkG 24 (some 82) (.pick (.tmp 74) (.tmp 81) (.const (.bool false))) none (.bool true) (fun o ho w2 hw => by unfold execOp; rw [ho]; go_simp) (Hc5113) ?_
    simp only [Act.put, sT, sS, sZ]
    refine tkG 25 (some 83) (.move (.tmp 82)) none (.bool true) (fun o ho w2 hw => by unfold execOp; rw [ho]; go_simp) (Hc5113) ?_
    simp only [Act.put, sT, sS, sZ]
    refine tkG 26 (some 84) (.move (.tmp 9)) (some (25, true)) (.string pk) (fun o ho w2 hw => by unfold execOp; rw [ho]; go_simp) (Hc5113) ?_
    simp only [Act.put, sT, sS, sZ]
    refine tkG 27 (some 85) (.move (.tmp 5)) (some (25, true)) (.slice (some ⟨g5, 0, none⟩) 2 2) (fun o ho w2 hw => by unfold execOp; rw [ho]; go_simp) (Hc5113) ?_
    simp only [Act.put, sT, sS, sZ]
    refine tkG 28 (some 86) (.move (.tmp 7)) (some (25, true)) (.int .i64 1) (fun o ho w2 hw => by unfold execOp; rw [ho]; go_simp) (Hc5113) ?_
    simp only [Act.put, sT, sS, sZ]
    refine tkG 29 (some 87) (.indexAddr 45 (.tmp 85) (.tmp 86)) (some (25, true)) (.pointer (some ⟨g5, 1, none⟩)) (fun o ho w2 hw => exec_ia45 (.tmp 85) (.tmp 86) ho g5 1 rfl rfl (by decide) w2) (Hc5113) ?_
    simp only [Act.put, sT, sS, sZ]
    refine tkG 30 (some 88) (.load 9 (.tmp 87)) (some (25, true)) (.string M1) (fun o ho w2 hw => exec_load_one _ 9 (.tmp 87) ho ⟨g5, 1, none⟩ rfl _ (cell_part (hw.get g5 (strRow [M0, M1]) 9 (by simp)) 1 _ (row2_1 _ _)) _ Tryz.underlying9 rfl) (Hc5113) ?_
    simp only [Act.put, sT, sS, sZ]
    refine tkG 31 (some 89) (.binOp .add 9 (.tmp 88) (.const (.string { data := #[120] })) 9) (some (25, true)) (.string mx) (fun o ho w2 hw => exec_addx (.tmp 88) ho rfl M1 mx lM hmx.out rfl w2) (Hc5113) ?_
    simp only [Act.put, sT, sS, sZ]
    refine tkG 32 (some 90) (.move (.tmp 11)) (some (25, true)) (.string sg) (fun o ho w2 hw => by unfold execOp; rw [ho]; go_simp) (Hc5113) ?_
    simp only [Act.put, sT, sS, sZ]
    refine AnyF.ready (rs := [33]) (by kernel_rfl) (by simp) (R.rclG (some 91) 14 #[.tmp 84, .tmp 89, .tmp 90] #[9, 9, 9] (some (25, true)) #[.string pk, .string mx, .string sg] (enters_of Tryz.func14 (by kernel_rfl) rfl) _ (H14f.out _ (HG.out.below Hc5113.1)) ?_ ReadyF.nil)
    rintro v wc5114 ⟨he, hb⟩
    cases he
    have Hc5114 := Hc5113.below hb
    clear hb
    refine ⟨Hc5114, ?_⟩
    simp only [Act.put, sT, sS, sZ]
    refine tkG 34 (some 92) (.unOp .not 4 (.tmp 91)) (some (25, true)) (.bool true) (fun o ho w2 hw => by unfold execOp; rw [ho]; go_simp) (Hc5114) ?_
    simp only [Act.put, sT, sS, sZ]
    refine tkG 35 (some 93) (.pick (.tmp 83) (.tmp 92) (.const (.bool false))) none (.bool true) (fun o ho w2 hw => by unfold execOp; rw [ho]; go_simp) (Hc5114) ?_
    simp only [Act.put, sT, sS, sZ]
    refine tkG 36 (some 94) (.move (.tmp 93)) none (.bool true) (fun o ho w2 hw => by unfold execOp; rw [ho]; go_simp) (Hc5114) ?_
    simp only [Act.put, sT, sS, sZ]
    refine AnyF.ready (rs := [37]) (by kernel_rfl) (by simp) (R.rclG (some 95) 9 #[] #[] (some (36, true)) #[] (enters_of Tryz.func9 (by kernel_rfl) rfl) _ (HA.out _) ?_ ReadyF.nil)
    rintro v wc5115 ⟨he, hb⟩
    cases he
    have Hc5115 := Hc5114.below hb
    clear hb
    refine ⟨Hc5115, ?_⟩
    simp only [Act.put, sT, sS, sZ]
    refine tkG 38 (some 96) (.pick (.tmp 94) (.tmp 95) (.const (.bool false))) none (.bool true) (fun o ho w2 hw => by unfold execOp; rw [ho]; go_simp) (Hc5115) ?_
    simp only [Act.put, sT, sS, sZ]
    refine tkG 39 (some 2) (.assign (.tmp 96)) none (.bool true) (fun o ho w2 hw => by unfold execOp; rw [ho]; go_simp) (Hc5115) ?_
    simp only [Act.put, sT, sS, sZ]
    refine AnyF.done (by kernel_rfl) ?_ _
    exact nrm_intro ⟨rfl, Hc5115⟩
  rintro a' w9 ⟨rfl, hk9⟩
  go_wp2_with fail
  exact ⟨rfl, _, results_tmp rfl _ _ _, rfl, hk9.1⟩
theorem known_any (n : Nat) (hn : n < 256) (w : World) (hG9 : Glob9 w) : Calls Tryz.prog 5 #[.int .u8 (n : Int)] w fun e w' => e = .returned (.bool true) ∧ Below w.heap.size w w' := by
  rcases (show n % 2 = 0 ∨ n % 2 = 1 by omega) with h | h
  · exact known_0 n hn h w hG9
  · exact known_1 n hn h w hG9
end Go.Proofs.YtdajmekliodmcaaGreatDoor.P8
