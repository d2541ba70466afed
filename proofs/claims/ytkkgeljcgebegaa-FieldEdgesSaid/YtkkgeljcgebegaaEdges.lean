/- The law FieldEdges walked: it returns true at any number of 8 bits and any of 256, and no memory that was there is changed. No condition but that. -/
import Derived.Test.YtkkgeljcgebegaaLaws
namespace Go.Proofs.Ytkkgeljcgebegaa
open Go.RowKit Go.Shelf
set_option linter.unusedVariables false
set_option linter.unusedSimpArgs false
theorem enters17 : ∀ args w, (callFunc 17 args).run Try.prog w = .ok (.enter 17 args) w := enters_of Try.func17 (by kernel_rfl) rfl
theorem exec_build4 {P : Program} {ρ : Operand → Value} {o : Oper} (w : World) (t : TypeId) (x0 x1 x2 x3 : Operand) (ho : o.op = .build t #[(0, x0), (1, x1), (2, x2), (3, x3)]) (u0 u1 u2 u3 : Value) (h0 : ρ x0 = u0) (h1 : ρ x1 = u1) (h2 : ρ x2 = u2) (h3 : ρ x3 = u3) (v : Value)
    (hrun : (Instr.build t #[(0, u0), (1, u1), (2, u2), (3, u3)]).run P w = .ok v w) : (execOp ρ o).run P w = .ok (.value v) w := by
  subst h0 h1 h2 h3
  unfold execOp
  simp [ho, hrun]
theorem buildAll (w : World) : (Instr.build 24 #[(0, .int .u64 18446744073709551615), (1, .int .u64 18446744073709551615), (2, .int .u64 18446744073709551615), (3, .int .u64 18446744073709551615)]).run Try.prog w = .ok (.agg (num 115792089237316195423570985008687907853269984665640564039457584007913129639935)) w := by
  rw [num_lit, show dig 115792089237316195423570985008687907853269984665640564039457584007913129639935 0 = 18446744073709551615 by decide, show dig 115792089237316195423570985008687907853269984665640564039457584007913129639935 1 = 18446744073709551615 by decide, show dig 115792089237316195423570985008687907853269984665640564039457584007913129639935 2 = 18446744073709551615 by decide, show dig 115792089237316195423570985008687907853269984665640564039457584007913129639935 3 = 18446744073709551615 by decide]
  kernel_rfl
set_option maxRecDepth 100000 in
set_option maxHeartbeats 1000000 in
theorem edges_any (n a : Nat) (hn : n < 256) (ha : a < 115792089237316195423570985008687907853269984665640564039457584007913129639936) (w : World) :
    Calls Try.prog 5 #[.int .u8 n, .agg (num a)] w fun e w' => e = .returned (.bool true) ∧ Below w.heap.size w w' := by
  have hn4 : n < 115792089237316195423570985008687907853269984665640564039457584007913129639936 := by omega
  have H0 := Lib.hid (subf_any 0 n (by decide) hn4)
  have H1 := Lib.hid (norm_any 115792089237316195423570985008687907853269984665640564039457584007913129639935 (by decide))
  rw [show 115792089237316195423570985008687907853269984665640564039457584007913129639935 % pp = 37 by decide] at H1
  have H2 := Lib.hid (addf_any (subF 0 n) n (pp_lt (subF_lt _ _)) hn4)
  rw [addF_subF 0 n hn4, Nat.zero_mod] at H2
  have H3 := Lib.hid (prime_any)
  have H4 := Lib.hid (addf_any a pp ha (by decide))
  rw [addF_pp] at H4
  have H5 := Lib.hid (norm_any a ha)
  have H6 := Lib.hid (mulf_any a pp ha (by decide))
  rw [mulF_pp] at H6
  have H7 := Lib.hid (mulf_any (subF 0 n) (subF 0 n) (pp_lt (subF_lt _ _)) (pp_lt (subF_lt _ _)))
  rw [subF_zero_sq n hn4] at H7
  have H8 := Lib.hid (mulf_any n n hn4 hn4)
  have H9 := Lib.hid (inv_any 1 (by decide))
  rw [invF_one] at H9
  have H10 := Lib.hid (inv_any pp (by decide))
  rw [invF_zero_of pp (Nat.mod_self _)] at H10
  have H11 := Lib.hid (awake_any)
  have hb0 := build0_run
  have hb1 := build_run 1 (by decide)
  have hb37 := build_run 37 (by decide)
  have hbn := build_run n (by omega)
  have hba := buildAll
  have hwn : IntKind.u64.wrap (n : Int) = (n : Int) := wrap_id (by omega)
  have HZ := zero_run
  clear ha hn4
  obtain ⟨A, hA⟩ : ∃ A, Hid (A = num a) := ⟨_, Lib.hid rfl⟩
  have IA : IsNum A := by rw [hA.out]; exact isNum _
  obtain ⟨AL, hAL⟩ : ∃ AL, Hid (AL = num 115792089237316195423570985008687907853269984665640564039457584007913129639935) := ⟨_, Lib.hid rfl⟩
  have IAL : IsNum AL := by rw [hAL.out]; exact isNum _
  obtain ⟨K, hK⟩ : ∃ K, Hid (K = num n) := ⟨_, Lib.hid rfl⟩
  have IK : IsNum K := by rw [hK.out]; exact isNum _
  obtain ⟨L, hL⟩ : ∃ L, Hid (L = num (subF 0 n)) := ⟨_, Lib.hid rfl⟩
  have IL : IsNum L := by rw [hL.out]; exact isNum _
  obtain ⟨N37, hN37⟩ : ∃ N37, Hid (N37 = num 37) := ⟨_, Lib.hid rfl⟩
  have IN37 : IsNum N37 := by rw [hN37.out]; exact isNum _
  obtain ⟨NA, hNA⟩ : ∃ NA, Hid (NA = num (a % pp)) := ⟨_, Lib.hid rfl⟩
  have INA : IsNum NA := by rw [hNA.out]; exact isNum _
  obtain ⟨X, hX⟩ : ∃ X, Hid (X = num (mulF n n)) := ⟨_, Lib.hid rfl⟩
  have IX : IsNum X := by rw [hX.out]; exact isNum _
  obtain ⟨PR, hPR⟩ : ∃ PR, Hid (PR = num pp) := ⟨_, Lib.hid rfl⟩
  have IPR : IsNum PR := by rw [hPR.out]; exact isNum _
  obtain ⟨U1, hU1⟩ : ∃ U1, Hid (U1 = num 1) := ⟨_, Lib.hid rfl⟩
  have IU1 : IsNum U1 := by rw [hU1.out]; exact isNum _
  obtain ⟨Z, hZ⟩ : ∃ Z, Hid (Z = num 0) := ⟨_, Lib.hid rfl⟩
  have IZ : IsNum Z := by rw [hZ.out]; exact isNum _
  rw [← hZ.out, ← hK.out, ← hL.out] at H0
  rw [← hAL.out, ← hN37.out] at H1
  rw [← hL.out, ← hK.out, ← hZ.out] at H2
  rw [← hPR.out] at H3
  rw [← hA.out, ← hPR.out, ← hNA.out] at H4
  rw [← hA.out, ← hNA.out] at H5
  rw [← hA.out, ← hPR.out, ← hZ.out] at H6
  rw [← hL.out, ← hX.out] at H7
  rw [← hK.out, ← hX.out] at H8
  rw [← hU1.out] at H9
  rw [← hPR.out, ← hZ.out] at H10
  rw [← hZ.out] at hb0
  rw [← hU1.out] at hb1
  rw [← hN37.out] at hb37
  rw [← hK.out] at hbn
  rw [← hAL.out] at hba
  have HZ2 : ∀ w, (zeroValue 24).run Try.prog w = .ok (.agg Z) w := by rw [hZ.out]; exact HZ
  have IZ2 := IZ.size
  rw [← hA.out]
  clear HZ hA hAL hK hL hN37 hNA hX hPR hU1 hZ
  have hz4 : ∀ W : World, Kn W [(W.heap.size, A), (W.heap.size + 1, AL), (W.heap.size + 1 + 1, K)] (((W.alloc (.cells A 24)).alloc (.cells AL 24)).alloc (.cells K 24)) := by
    intro W
    have h := (((Kn.nil W).new A).new AL).new K
    simp only [World.size_alloc] at h
    exact h.sub (fun p hp => by simp at hp ⊢; rcases hp with h | h | h <;> simp [h])
  have HS := Lib.hid (hz4 w)
  clear hz4
  have HBN := Lib.hid hbn
  have HBA := Lib.hid hba
  have HB0 := Lib.hid hb0
  clear hbn hba
  go_enter Try.func5, Try.ntmps5
  go_upto_region 2 with (first | (refine wpList_run rfl _ (exec_alloc_agg _ 24 rfl _ (HZ2 _)) ?_) | (refine wpList_run rfl _ (exec_build4 _ 24 (.const (.int .u64 18446744073709551615)) (.const (.int .u64 18446744073709551615)) (.const (.int .u64 18446744073709551615)) (.const (.int .u64 18446744073709551615)) rfl _ _ _ _ rfl rfl rfl rfl _ (HBA.out _)) ?_) | (refine wpList_run0 rfl (exec_new24 _ (.tmp 5) (.tmp 8) rfl _ _ rfl AL IAL rfl IZ2) ?_))
  simp only [Act.put, List.setIfInBounds_toArray, List.set_cons_succ, List.set_cons_zero, World.size_alloc]
  generalize hW2 : (w.alloc (.cells A 24)).alloc (.cells AL 24) = W2
  have hs2 : W2.heap.size = w.heap.size + 1 + 1 := by rw [← hW2]; simp
  rw [hW2] at HS
  clear hW2
  go_upto_region 3 with (first | (refine wpList_run rfl _ (exec_alloc_agg _ 24 rfl _ (HZ2 _)) ?_) | (refine wpList_run rfl _ (exec_build1 _ 24 0 (.tmp 10) rfl (.int .u64 (n : Int)) rfl _ (HBN.out _)) ?_) | (refine wpList_run0 rfl (exec_new24 _ (.tmp 6) (.tmp 11) rfl _ _ rfl K IK rfl IZ2) ?_))
  simp only [Act.put, List.setIfInBounds_toArray, List.set_cons_succ, List.set_cons_zero]
  rw [← hs2] at HS
  generalize W2.alloc (.cells K 24) = W3 at *
  generalize W2.heap.size = gK at *
  clear hs2
  go_wp2_with (first | (refine wpList_run rfl _ (exec_build0 rfl (.agg Z) (HB0.out _) _) ?_) | (refine wpList_run rfl _ (exec_load_of _ 24 (.tmp 6) rfl ⟨gK, 0, none⟩ rfl (.agg K) ?L6) ?_))
  case L6 => exact HS.out.load gK K (by simp) IK
  refine (H0.out _).mono ?_
  rintro e w1 ⟨rfl, hb⟩
  have HS1 := HS.out.below hb
  clear hb HS H0
  have HA2 : Kn w [(w.heap.size, A), (w.heap.size + 1, AL), (gK, K), (w1.heap.size, L)] (w1.alloc (.cells L 24)) := by
    have h := HS1.new L
    exact h.sub (fun p hp => by simp at hp ⊢; rcases hp with h | h | h | h <;> simp [h])
  have HS2 := Lib.hid HA2
  clear HA2 HS1
  go_wp2_with (first | (refine wpList_run rfl _ (exec_alloc_agg _ 24 rfl _ (HZ2 _)) ?_) | (refine wpList_run0 rfl (exec_new24 _ (.tmp 7) (.tmp 14) rfl _ _ rfl L IL rfl IZ2) ?_))
  simp only [Act.put, List.setIfInBounds_toArray, List.set_cons_succ, List.set_cons_zero]
  generalize w1.alloc (.cells L 24) = W4 at *
  generalize w1.heap.size = gL at *
  refine wp_nrm ?_
  refine wp_region_any (by kernel_rfl) ?_
  change wpAny _ _ _ _ _ _ _ (World.drew _)
  have HD := HS2.out.drew
  generalize W4.drew = Wd at *
  refine any_of_F (S := Kn w [(w.heap.size, A), (w.heap.size + 1, AL), (gK, K), (gL, L)]) (f := 1000) _ _ _ _ ?_
  refine AnyF.takeG (by rfl) 0 (some 15) (.load 24 (.tmp 5)) none (.agg AL) rfl (by kernel_rfl) (by kernel_rfl) (by kernel_rfl) (fun _ _ _ h => h) rfl (fun o h => by obtain rfl := Option.some.inj h; rfl) (fun o ho w2 hw => exec_load_of _ 24 (.tmp 5) ho ⟨w.heap.size + 1, 0, none⟩ rfl _ (hw.load (w.heap.size + 1) AL (by simp) IAL)) HD ?_
  simp only [Act.put, List.setIfInBounds_toArray, List.set_cons_succ, List.set_cons_zero]
  refine AnyF.takeG (by rfl) 2 (some 17) (.build 24 #[(0, .const (.int .u64 37))]) none (.agg N37) rfl (by kernel_rfl) (by kernel_rfl) (by kernel_rfl) (fun _ _ _ h => h) rfl (fun o h => by obtain rfl := Option.some.inj h; rfl) (fun o ho w2 hw => exec_build1 w2 24 0 (.const (.int .u64 37)) ho _ rfl _ (hb37 w2)) HD ?_
  simp only [Act.put, List.setIfInBounds_toArray, List.set_cons_succ, List.set_cons_zero]
  refine AnyF.ready (rs := [1]) (by kernel_rfl) (by simp) (ReadyF.call (some 16) 9 #[.tmp 15] #[24] rfl #[.agg AL] (by simp [Act.eval]) enters9 _ (H1.out _) ?_ (fun c w' h => by cases h.1) (fun w' h => by cases h.1) ReadyF.nil)
  rintro v wt1 ⟨he, hb⟩
  cases he
  have Ht2 := HD.below hb
  clear hb
  refine ⟨Ht2, ?_⟩
  simp only [Act.put, List.setIfInBounds_toArray, List.set_cons_succ, List.set_cons_zero]
  refine AnyF.takeG (by rfl) 3 (some 18) (.binOp .eql 24 (.tmp 16) (.tmp 17) 24) none (.bool true) rfl (by kernel_rfl) (by kernel_rfl) (by kernel_rfl) (fun _ _ _ h => h) rfl (fun o h => by obtain rfl := Option.some.inj h; rfl) (fun o ho w2 hw => exec_eqA (.tmp 16) (.tmp 17) ho N37 IN37 rfl rfl w2) Ht2 ?_
  simp only [Act.put, List.setIfInBounds_toArray, List.set_cons_succ, List.set_cons_zero]
  refine AnyF.takeG (by rfl) 4 (some 19) (.move (.tmp 18)) none (.bool true) rfl (by kernel_rfl) (by kernel_rfl) (by kernel_rfl) (fun _ _ _ h => h) rfl (fun o h => by obtain rfl := Option.some.inj h; rfl) (fun o ho w2 hw => exec_move (.tmp 18) ho _ rfl w2) Ht2 ?_
  simp only [Act.put, List.setIfInBounds_toArray, List.set_cons_succ, List.set_cons_zero]
  refine AnyF.takeG (by rfl) 5 (some 20) (.load 24 (.tmp 7)) (some (4, true)) (.agg L) rfl (by kernel_rfl) (by kernel_rfl) (by kernel_rfl) (fun _ _ _ h => h) rfl (fun o h => by obtain rfl := Option.some.inj h; rfl) (fun o ho w2 hw => exec_load_of _ 24 (.tmp 7) ho ⟨gL, 0, none⟩ rfl _ (hw.load (gL) L (by simp) IL)) Ht2 ?_
  simp only [Act.put, List.setIfInBounds_toArray, List.set_cons_succ, List.set_cons_zero]
  refine AnyF.takeG (by rfl) 6 (some 21) (.load 24 (.tmp 6)) (some (4, true)) (.agg K) rfl (by kernel_rfl) (by kernel_rfl) (by kernel_rfl) (fun _ _ _ h => h) rfl (fun o h => by obtain rfl := Option.some.inj h; rfl) (fun o ho w2 hw => exec_load_of _ 24 (.tmp 6) ho ⟨gK, 0, none⟩ rfl _ (hw.load (gK) K (by simp) IK)) Ht2 ?_
  simp only [Act.put, List.setIfInBounds_toArray, List.set_cons_succ, List.set_cons_zero]
  refine AnyF.takeG (by rfl) 8 (some 23) (.build 24 #[]) (some (4, true)) (.agg Z) rfl (by kernel_rfl) (by kernel_rfl) (by kernel_rfl) (fun _ _ _ h => h) rfl (fun o h => by obtain rfl := Option.some.inj h; rfl) (fun o ho w2 hw => exec_build0 ho _ (hb0 w2) w2) Ht2 ?_
  simp only [Act.put, List.setIfInBounds_toArray, List.set_cons_succ, List.set_cons_zero]
  refine AnyF.ready (rs := [7]) (by kernel_rfl) (by simp) (ReadyF.callG (some 22) 6 #[.tmp 20, .tmp 21] #[24, 24] (some (4, true)) rfl (fun o h => by obtain rfl := Option.some.inj h; rfl) #[.agg L, .agg K] (by simp [Act.eval]) enters6 _ (H2.out _) ?_ (fun c w' h => by cases h.1) (fun w' h => by cases h.1) ReadyF.nil)
  rintro v wt3 ⟨he, hb⟩
  cases he
  have Ht4 := Ht2.below hb
  clear hb
  refine ⟨Ht4, ?_⟩
  simp only [Act.put, List.setIfInBounds_toArray, List.set_cons_succ, List.set_cons_zero]
  refine AnyF.takeG (by rfl) 9 (some 24) (.binOp .eql 24 (.tmp 22) (.tmp 23) 24) (some (4, true)) (.bool true) rfl (by kernel_rfl) (by kernel_rfl) (by kernel_rfl) (fun _ _ _ h => h) rfl (fun o h => by obtain rfl := Option.some.inj h; rfl) (fun o ho w2 hw => exec_eqA (.tmp 22) (.tmp 23) ho Z IZ rfl rfl w2) Ht4 ?_
  simp only [Act.put, List.setIfInBounds_toArray, List.set_cons_succ, List.set_cons_zero]
  refine AnyF.takeG (by rfl) 10 (some 25) (.pick (.tmp 19) (.tmp 24) (.const (.bool false))) none (.bool true) rfl (by kernel_rfl) (by kernel_rfl) (by kernel_rfl) (fun _ _ _ h => h) rfl (fun o h => by obtain rfl := Option.some.inj h; rfl) (fun o ho w2 hw => exec_pickt (.tmp 19) (.tmp 24) (.const (.bool false)) ho rfl _ rfl w2) Ht4 ?_
  simp only [Act.put, List.setIfInBounds_toArray, List.set_cons_succ, List.set_cons_zero]
  refine AnyF.takeG (by rfl) 11 (some 26) (.move (.tmp 25)) none (.bool true) rfl (by kernel_rfl) (by kernel_rfl) (by kernel_rfl) (fun _ _ _ h => h) rfl (fun o h => by obtain rfl := Option.some.inj h; rfl) (fun o ho w2 hw => exec_move (.tmp 25) ho _ rfl w2) Ht4 ?_
  simp only [Act.put, List.setIfInBounds_toArray, List.set_cons_succ, List.set_cons_zero]
  refine AnyF.takeG (by rfl) 12 (some 27) (.load 24 (.tmp 3)) (some (11, true)) (.agg A) rfl (by kernel_rfl) (by kernel_rfl) (by kernel_rfl) (fun _ _ _ h => h) rfl (fun o h => by obtain rfl := Option.some.inj h; rfl) (fun o ho w2 hw => exec_load_of _ 24 (.tmp 3) ho ⟨w.heap.size, 0, none⟩ rfl _ (hw.load (w.heap.size) A (by simp) IA)) Ht4 ?_
  simp only [Act.put, List.setIfInBounds_toArray, List.set_cons_succ, List.set_cons_zero]
  refine AnyF.takeG (by rfl) 15 (some 30) (.load 24 (.tmp 3)) (some (11, true)) (.agg A) rfl (by kernel_rfl) (by kernel_rfl) (by kernel_rfl) (fun _ _ _ h => h) rfl (fun o h => by obtain rfl := Option.some.inj h; rfl) (fun o ho w2 hw => exec_load_of _ 24 (.tmp 3) ho ⟨w.heap.size, 0, none⟩ rfl _ (hw.load (w.heap.size) A (by simp) IA)) Ht4 ?_
  simp only [Act.put, List.setIfInBounds_toArray, List.set_cons_succ, List.set_cons_zero]
  refine AnyF.ready (rs := [13]) (by kernel_rfl) (by simp) (ReadyF.callG (some 28) 11 #[] #[] (some (11, true)) rfl (fun o h => by obtain rfl := Option.some.inj h; rfl) #[] (by simp [Act.eval]) enters11 _ (H3.out _) ?_ (fun c w' h => by cases h.1) (fun w' h => by cases h.1) ReadyF.nil)
  rintro v wt5 ⟨he, hb⟩
  cases he
  have Ht6 := Ht4.below hb
  clear hb
  refine ⟨Ht6, ?_⟩
  simp only [Act.put, List.setIfInBounds_toArray, List.set_cons_succ, List.set_cons_zero]
  refine AnyF.ready (rs := [14]) (by kernel_rfl) (by simp) (ReadyF.callG (some 29) 6 #[.tmp 27, .tmp 28] #[24, 24] (some (11, true)) rfl (fun o h => by obtain rfl := Option.some.inj h; rfl) #[.agg A, .agg PR] (by simp [Act.eval]) enters6 _ (H4.out _) ?_ (fun c w' h => by cases h.1) (fun w' h => by cases h.1) ReadyF.nil)
  rintro v wt7 ⟨he, hb⟩
  cases he
  have Ht8 := Ht6.below hb
  clear hb
  refine ⟨Ht8, ?_⟩
  simp only [Act.put, List.setIfInBounds_toArray, List.set_cons_succ, List.set_cons_zero]
  refine AnyF.ready (rs := [16]) (by kernel_rfl) (by simp) (ReadyF.callG (some 31) 9 #[.tmp 30] #[24] (some (11, true)) rfl (fun o h => by obtain rfl := Option.some.inj h; rfl) #[.agg A] (by simp [Act.eval]) enters9 _ (H5.out _) ?_ (fun c w' h => by cases h.1) (fun w' h => by cases h.1) ReadyF.nil)
  rintro v wt9 ⟨he, hb⟩
  cases he
  have Ht10 := Ht8.below hb
  clear hb
  refine ⟨Ht10, ?_⟩
  simp only [Act.put, List.setIfInBounds_toArray, List.set_cons_succ, List.set_cons_zero]
  refine AnyF.takeG (by rfl) 17 (some 32) (.binOp .eql 24 (.tmp 29) (.tmp 31) 24) (some (11, true)) (.bool true) rfl (by kernel_rfl) (by kernel_rfl) (by kernel_rfl) (fun _ _ _ h => h) rfl (fun o h => by obtain rfl := Option.some.inj h; rfl) (fun o ho w2 hw => exec_eqA (.tmp 29) (.tmp 31) ho NA INA rfl rfl w2) Ht10 ?_
  simp only [Act.put, List.setIfInBounds_toArray, List.set_cons_succ, List.set_cons_zero]
  refine AnyF.takeG (by rfl) 18 (some 33) (.pick (.tmp 26) (.tmp 32) (.const (.bool false))) none (.bool true) rfl (by kernel_rfl) (by kernel_rfl) (by kernel_rfl) (fun _ _ _ h => h) rfl (fun o h => by obtain rfl := Option.some.inj h; rfl) (fun o ho w2 hw => exec_pickt (.tmp 26) (.tmp 32) (.const (.bool false)) ho rfl _ rfl w2) Ht10 ?_
  simp only [Act.put, List.setIfInBounds_toArray, List.set_cons_succ, List.set_cons_zero]
  refine AnyF.takeG (by rfl) 19 (some 34) (.move (.tmp 33)) none (.bool true) rfl (by kernel_rfl) (by kernel_rfl) (by kernel_rfl) (fun _ _ _ h => h) rfl (fun o h => by obtain rfl := Option.some.inj h; rfl) (fun o ho w2 hw => exec_move (.tmp 33) ho _ rfl w2) Ht10 ?_
  simp only [Act.put, List.setIfInBounds_toArray, List.set_cons_succ, List.set_cons_zero]
  refine AnyF.takeG (by rfl) 20 (some 35) (.load 24 (.tmp 3)) (some (19, true)) (.agg A) rfl (by kernel_rfl) (by kernel_rfl) (by kernel_rfl) (fun _ _ _ h => h) rfl (fun o h => by obtain rfl := Option.some.inj h; rfl) (fun o ho w2 hw => exec_load_of _ 24 (.tmp 3) ho ⟨w.heap.size, 0, none⟩ rfl _ (hw.load (w.heap.size) A (by simp) IA)) Ht10 ?_
  simp only [Act.put, List.setIfInBounds_toArray, List.set_cons_succ, List.set_cons_zero]
  refine AnyF.takeG (by rfl) 23 (some 38) (.build 24 #[]) (some (19, true)) (.agg Z) rfl (by kernel_rfl) (by kernel_rfl) (by kernel_rfl) (fun _ _ _ h => h) rfl (fun o h => by obtain rfl := Option.some.inj h; rfl) (fun o ho w2 hw => exec_build0 ho _ (hb0 w2) w2) Ht10 ?_
  simp only [Act.put, List.setIfInBounds_toArray, List.set_cons_succ, List.set_cons_zero]
  refine AnyF.ready (rs := [21]) (by kernel_rfl) (by simp) (ReadyF.callG (some 36) 11 #[] #[] (some (19, true)) rfl (fun o h => by obtain rfl := Option.some.inj h; rfl) #[] (by simp [Act.eval]) enters11 _ (H3.out _) ?_ (fun c w' h => by cases h.1) (fun w' h => by cases h.1) ReadyF.nil)
  rintro v wt11 ⟨he, hb⟩
  cases he
  have Ht12 := Ht10.below hb
  clear hb
  refine ⟨Ht12, ?_⟩
  simp only [Act.put, List.setIfInBounds_toArray, List.set_cons_succ, List.set_cons_zero]
  refine AnyF.ready (rs := [22]) (by kernel_rfl) (by simp) (ReadyF.callG (some 37) 7 #[.tmp 35, .tmp 36] #[24, 24] (some (19, true)) rfl (fun o h => by obtain rfl := Option.some.inj h; rfl) #[.agg A, .agg PR] (by simp [Act.eval]) enters7 _ (H6.out _) ?_ (fun c w' h => by cases h.1) (fun w' h => by cases h.1) ReadyF.nil)
  rintro v wt13 ⟨he, hb⟩
  cases he
  have Ht14 := Ht12.below hb
  clear hb
  refine ⟨Ht14, ?_⟩
  simp only [Act.put, List.setIfInBounds_toArray, List.set_cons_succ, List.set_cons_zero]
  refine AnyF.takeG (by rfl) 24 (some 39) (.binOp .eql 24 (.tmp 37) (.tmp 38) 24) (some (19, true)) (.bool true) rfl (by kernel_rfl) (by kernel_rfl) (by kernel_rfl) (fun _ _ _ h => h) rfl (fun o h => by obtain rfl := Option.some.inj h; rfl) (fun o ho w2 hw => exec_eqA (.tmp 37) (.tmp 38) ho Z IZ rfl rfl w2) Ht14 ?_
  simp only [Act.put, List.setIfInBounds_toArray, List.set_cons_succ, List.set_cons_zero]
  refine AnyF.takeG (by rfl) 25 (some 40) (.pick (.tmp 34) (.tmp 39) (.const (.bool false))) none (.bool true) rfl (by kernel_rfl) (by kernel_rfl) (by kernel_rfl) (fun _ _ _ h => h) rfl (fun o h => by obtain rfl := Option.some.inj h; rfl) (fun o ho w2 hw => exec_pickt (.tmp 34) (.tmp 39) (.const (.bool false)) ho rfl _ rfl w2) Ht14 ?_
  simp only [Act.put, List.setIfInBounds_toArray, List.set_cons_succ, List.set_cons_zero]
  refine AnyF.takeG (by rfl) 26 (some 41) (.move (.tmp 40)) none (.bool true) rfl (by kernel_rfl) (by kernel_rfl) (by kernel_rfl) (fun _ _ _ h => h) rfl (fun o h => by obtain rfl := Option.some.inj h; rfl) (fun o ho w2 hw => exec_move (.tmp 40) ho _ rfl w2) Ht14 ?_
  simp only [Act.put, List.setIfInBounds_toArray, List.set_cons_succ, List.set_cons_zero]
  refine AnyF.takeG (by rfl) 27 (some 42) (.load 24 (.tmp 7)) (some (26, true)) (.agg L) rfl (by kernel_rfl) (by kernel_rfl) (by kernel_rfl) (fun _ _ _ h => h) rfl (fun o h => by obtain rfl := Option.some.inj h; rfl) (fun o ho w2 hw => exec_load_of _ 24 (.tmp 7) ho ⟨gL, 0, none⟩ rfl _ (hw.load (gL) L (by simp) IL)) Ht14 ?_
  simp only [Act.put, List.setIfInBounds_toArray, List.set_cons_succ, List.set_cons_zero]
  refine AnyF.takeG (by rfl) 28 (some 43) (.load 24 (.tmp 7)) (some (26, true)) (.agg L) rfl (by kernel_rfl) (by kernel_rfl) (by kernel_rfl) (fun _ _ _ h => h) rfl (fun o h => by obtain rfl := Option.some.inj h; rfl) (fun o ho w2 hw => exec_load_of _ 24 (.tmp 7) ho ⟨gL, 0, none⟩ rfl _ (hw.load (gL) L (by simp) IL)) Ht14 ?_
  simp only [Act.put, List.setIfInBounds_toArray, List.set_cons_succ, List.set_cons_zero]
  refine AnyF.takeG (by rfl) 30 (some 45) (.load 24 (.tmp 6)) (some (26, true)) (.agg K) rfl (by kernel_rfl) (by kernel_rfl) (by kernel_rfl) (fun _ _ _ h => h) rfl (fun o h => by obtain rfl := Option.some.inj h; rfl) (fun o ho w2 hw => exec_load_of _ 24 (.tmp 6) ho ⟨gK, 0, none⟩ rfl _ (hw.load (gK) K (by simp) IK)) Ht14 ?_
  simp only [Act.put, List.setIfInBounds_toArray, List.set_cons_succ, List.set_cons_zero]
  refine AnyF.takeG (by rfl) 31 (some 46) (.load 24 (.tmp 6)) (some (26, true)) (.agg K) rfl (by kernel_rfl) (by kernel_rfl) (by kernel_rfl) (fun _ _ _ h => h) rfl (fun o h => by obtain rfl := Option.some.inj h; rfl) (fun o ho w2 hw => exec_load_of _ 24 (.tmp 6) ho ⟨gK, 0, none⟩ rfl _ (hw.load (gK) K (by simp) IK)) Ht14 ?_
  simp only [Act.put, List.setIfInBounds_toArray, List.set_cons_succ, List.set_cons_zero]
  refine AnyF.ready (rs := [29]) (by kernel_rfl) (by simp) (ReadyF.callG (some 44) 7 #[.tmp 42, .tmp 43] #[24, 24] (some (26, true)) rfl (fun o h => by obtain rfl := Option.some.inj h; rfl) #[.agg L, .agg L] (by simp [Act.eval]) enters7 _ (H7.out _) ?_ (fun c w' h => by cases h.1) (fun w' h => by cases h.1) ReadyF.nil)
  rintro v wt15 ⟨he, hb⟩
  cases he
  have Ht16 := Ht14.below hb
  clear hb
  refine ⟨Ht16, ?_⟩
  simp only [Act.put, List.setIfInBounds_toArray, List.set_cons_succ, List.set_cons_zero]
  refine AnyF.ready (rs := [32]) (by kernel_rfl) (by simp) (ReadyF.callG (some 47) 7 #[.tmp 45, .tmp 46] #[24, 24] (some (26, true)) rfl (fun o h => by obtain rfl := Option.some.inj h; rfl) #[.agg K, .agg K] (by simp [Act.eval]) enters7 _ (H8.out _) ?_ (fun c w' h => by cases h.1) (fun w' h => by cases h.1) ReadyF.nil)
  rintro v wt17 ⟨he, hb⟩
  cases he
  have Ht18 := Ht16.below hb
  clear hb
  refine ⟨Ht18, ?_⟩
  simp only [Act.put, List.setIfInBounds_toArray, List.set_cons_succ, List.set_cons_zero]
  refine AnyF.takeG (by rfl) 33 (some 48) (.binOp .eql 24 (.tmp 44) (.tmp 47) 24) (some (26, true)) (.bool true) rfl (by kernel_rfl) (by kernel_rfl) (by kernel_rfl) (fun _ _ _ h => h) rfl (fun o h => by obtain rfl := Option.some.inj h; rfl) (fun o ho w2 hw => exec_eqA (.tmp 44) (.tmp 47) ho X IX rfl rfl w2) Ht18 ?_
  simp only [Act.put, List.setIfInBounds_toArray, List.set_cons_succ, List.set_cons_zero]
  refine AnyF.takeG (by rfl) 34 (some 49) (.pick (.tmp 41) (.tmp 48) (.const (.bool false))) none (.bool true) rfl (by kernel_rfl) (by kernel_rfl) (by kernel_rfl) (fun _ _ _ h => h) rfl (fun o h => by obtain rfl := Option.some.inj h; rfl) (fun o ho w2 hw => exec_pickt (.tmp 41) (.tmp 48) (.const (.bool false)) ho rfl _ rfl w2) Ht18 ?_
  simp only [Act.put, List.setIfInBounds_toArray, List.set_cons_succ, List.set_cons_zero]
  refine AnyF.takeG (by rfl) 35 (some 50) (.move (.tmp 49)) none (.bool true) rfl (by kernel_rfl) (by kernel_rfl) (by kernel_rfl) (fun _ _ _ h => h) rfl (fun o h => by obtain rfl := Option.some.inj h; rfl) (fun o ho w2 hw => exec_move (.tmp 49) ho _ rfl w2) Ht18 ?_
  simp only [Act.put, List.setIfInBounds_toArray, List.set_cons_succ, List.set_cons_zero]
  refine AnyF.takeG (by rfl) 36 (some 51) (.build 24 #[(0, .const (.int .u64 1))]) (some (35, true)) (.agg U1) rfl (by kernel_rfl) (by kernel_rfl) (by kernel_rfl) (fun _ _ _ h => h) rfl (fun o h => by obtain rfl := Option.some.inj h; rfl) (fun o ho w2 hw => exec_build1 w2 24 0 (.const (.int .u64 1)) ho _ rfl _ (hb1 w2)) Ht18 ?_
  simp only [Act.put, List.setIfInBounds_toArray, List.set_cons_succ, List.set_cons_zero]
  refine AnyF.takeG (by rfl) 38 (some 53) (.build 24 #[(0, .const (.int .u64 1))]) (some (35, true)) (.agg U1) rfl (by kernel_rfl) (by kernel_rfl) (by kernel_rfl) (fun _ _ _ h => h) rfl (fun o h => by obtain rfl := Option.some.inj h; rfl) (fun o ho w2 hw => exec_build1 w2 24 0 (.const (.int .u64 1)) ho _ rfl _ (hb1 w2)) Ht18 ?_
  simp only [Act.put, List.setIfInBounds_toArray, List.set_cons_succ, List.set_cons_zero]
  refine AnyF.ready (rs := [37]) (by kernel_rfl) (by simp) (ReadyF.callG (some 52) 17 #[.tmp 51] #[24] (some (35, true)) rfl (fun o h => by obtain rfl := Option.some.inj h; rfl) #[.agg U1] (by simp [Act.eval]) enters17 _ (H9.out _) ?_ (fun c w' h => by cases h.1) (fun w' h => by cases h.1) ReadyF.nil)
  rintro v wt19 ⟨he, hb⟩
  cases he
  have Ht20 := Ht18.below hb
  clear hb
  refine ⟨Ht20, ?_⟩
  simp only [Act.put, List.setIfInBounds_toArray, List.set_cons_succ, List.set_cons_zero]
  refine AnyF.takeG (by rfl) 39 (some 54) (.binOp .eql 24 (.tmp 52) (.tmp 53) 24) (some (35, true)) (.bool true) rfl (by kernel_rfl) (by kernel_rfl) (by kernel_rfl) (fun _ _ _ h => h) rfl (fun o h => by obtain rfl := Option.some.inj h; rfl) (fun o ho w2 hw => exec_eqA (.tmp 52) (.tmp 53) ho U1 IU1 rfl rfl w2) Ht20 ?_
  simp only [Act.put, List.setIfInBounds_toArray, List.set_cons_succ, List.set_cons_zero]
  refine AnyF.takeG (by rfl) 40 (some 55) (.pick (.tmp 50) (.tmp 54) (.const (.bool false))) none (.bool true) rfl (by kernel_rfl) (by kernel_rfl) (by kernel_rfl) (fun _ _ _ h => h) rfl (fun o h => by obtain rfl := Option.some.inj h; rfl) (fun o ho w2 hw => exec_pickt (.tmp 50) (.tmp 54) (.const (.bool false)) ho rfl _ rfl w2) Ht20 ?_
  simp only [Act.put, List.setIfInBounds_toArray, List.set_cons_succ, List.set_cons_zero]
  refine AnyF.takeG (by rfl) 41 (some 56) (.move (.tmp 55)) none (.bool true) rfl (by kernel_rfl) (by kernel_rfl) (by kernel_rfl) (fun _ _ _ h => h) rfl (fun o h => by obtain rfl := Option.some.inj h; rfl) (fun o ho w2 hw => exec_move (.tmp 55) ho _ rfl w2) Ht20 ?_
  simp only [Act.put, List.setIfInBounds_toArray, List.set_cons_succ, List.set_cons_zero]
  refine AnyF.takeG (by rfl) 44 (some 59) (.build 24 #[]) (some (41, true)) (.agg Z) rfl (by kernel_rfl) (by kernel_rfl) (by kernel_rfl) (fun _ _ _ h => h) rfl (fun o h => by obtain rfl := Option.some.inj h; rfl) (fun o ho w2 hw => exec_build0 ho _ (hb0 w2) w2) Ht20 ?_
  simp only [Act.put, List.setIfInBounds_toArray, List.set_cons_succ, List.set_cons_zero]
  refine AnyF.ready (rs := [42]) (by kernel_rfl) (by simp) (ReadyF.callG (some 57) 11 #[] #[] (some (41, true)) rfl (fun o h => by obtain rfl := Option.some.inj h; rfl) #[] (by simp [Act.eval]) enters11 _ (H3.out _) ?_ (fun c w' h => by cases h.1) (fun w' h => by cases h.1) ReadyF.nil)
  rintro v wt21 ⟨he, hb⟩
  cases he
  have Ht22 := Ht20.below hb
  clear hb
  refine ⟨Ht22, ?_⟩
  simp only [Act.put, List.setIfInBounds_toArray, List.set_cons_succ, List.set_cons_zero]
  refine AnyF.ready (rs := [43]) (by kernel_rfl) (by simp) (ReadyF.callG (some 58) 17 #[.tmp 57] #[24] (some (41, true)) rfl (fun o h => by obtain rfl := Option.some.inj h; rfl) #[.agg PR] (by simp [Act.eval]) enters17 _ (H10.out _) ?_ (fun c w' h => by cases h.1) (fun w' h => by cases h.1) ReadyF.nil)
  rintro v wt23 ⟨he, hb⟩
  cases he
  have Ht24 := Ht22.below hb
  clear hb
  refine ⟨Ht24, ?_⟩
  simp only [Act.put, List.setIfInBounds_toArray, List.set_cons_succ, List.set_cons_zero]
  refine AnyF.takeG (by rfl) 45 (some 60) (.binOp .eql 24 (.tmp 58) (.tmp 59) 24) (some (41, true)) (.bool true) rfl (by kernel_rfl) (by kernel_rfl) (by kernel_rfl) (fun _ _ _ h => h) rfl (fun o h => by obtain rfl := Option.some.inj h; rfl) (fun o ho w2 hw => exec_eqA (.tmp 58) (.tmp 59) ho Z IZ rfl rfl w2) Ht24 ?_
  simp only [Act.put, List.setIfInBounds_toArray, List.set_cons_succ, List.set_cons_zero]
  refine AnyF.takeG (by rfl) 46 (some 61) (.pick (.tmp 56) (.tmp 60) (.const (.bool false))) none (.bool true) rfl (by kernel_rfl) (by kernel_rfl) (by kernel_rfl) (fun _ _ _ h => h) rfl (fun o h => by obtain rfl := Option.some.inj h; rfl) (fun o ho w2 hw => exec_pickt (.tmp 56) (.tmp 60) (.const (.bool false)) ho rfl _ rfl w2) Ht24 ?_
  simp only [Act.put, List.setIfInBounds_toArray, List.set_cons_succ, List.set_cons_zero]
  refine AnyF.takeG (by rfl) 47 (some 62) (.move (.tmp 61)) none (.bool true) rfl (by kernel_rfl) (by kernel_rfl) (by kernel_rfl) (fun _ _ _ h => h) rfl (fun o h => by obtain rfl := Option.some.inj h; rfl) (fun o ho w2 hw => exec_move (.tmp 61) ho _ rfl w2) Ht24 ?_
  simp only [Act.put, List.setIfInBounds_toArray, List.set_cons_succ, List.set_cons_zero]
  refine AnyF.ready (rs := [48]) (by kernel_rfl) (by simp) (ReadyF.callG (some 63) 12 #[] #[] (some (47, true)) rfl (fun o h => by obtain rfl := Option.some.inj h; rfl) #[] (by simp [Act.eval]) enters12 _ (H11.out _) ?_ (fun c w' h => by cases h.1) (fun w' h => by cases h.1) ReadyF.nil)
  rintro v wt25 ⟨he, hb⟩
  cases he
  have Ht26 := Ht24.below hb
  clear hb
  refine ⟨Ht26, ?_⟩
  simp only [Act.put, List.setIfInBounds_toArray, List.set_cons_succ, List.set_cons_zero]
  refine AnyF.takeG (by rfl) 49 (some 64) (.pick (.tmp 62) (.tmp 63) (.const (.bool false))) none (.bool true) rfl (by kernel_rfl) (by kernel_rfl) (by kernel_rfl) (fun _ _ _ h => h) rfl (fun o h => by obtain rfl := Option.some.inj h; rfl) (fun o ho w2 hw => exec_pickt (.tmp 62) (.tmp 63) (.const (.bool false)) ho rfl _ rfl w2) Ht26 ?_
  simp only [Act.put, List.setIfInBounds_toArray, List.set_cons_succ, List.set_cons_zero]
  refine AnyF.takeG (by rfl) 50 (some 4) (.assign (.tmp 64)) none (.bool true) rfl (by kernel_rfl) (by kernel_rfl) (by kernel_rfl) (fun _ _ _ h => h) rfl (fun o h => by obtain rfl := Option.some.inj h; rfl) (fun o ho w2 hw => exec_assign (.tmp 64) ho _ rfl w2) Ht26 ?_
  simp only [Act.put, List.setIfInBounds_toArray, List.set_cons_succ, List.set_cons_zero]
  refine AnyF.done (by kernel_rfl) ?_ _
  refine nrm_intro ?_
  go_wp2
  go_ret
  exact ⟨rfl, Ht26.1⟩
end Go.Proofs.Ytkkgeljcgebegaa
