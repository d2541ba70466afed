/- MulAdd of the document: a product with a sum, modulo the order. No condition but that the numbers have 256 bits. -/
import Derived.Test.YtfcnfcolhahghaaDoorRReduce
import Derived.Test.YtfcnfcolhahghaaDoorRMul
namespace Go.Proofs.YtfcnfcolhahghaaDoor
open Go.RowKit Go.Shelf
set_option linter.unusedVariables false
set_option linter.unusedSimpArgs false
theorem enters26 : ∀ args w, (callFunc 26 args).run Tryd.prog w = .ok (.enter 26 args) w := enters_of Tryd.func26 (by kernel_rfl) rfl
theorem enters27 : ∀ args w, (callFunc 27 args).run Tryd.prog w = .ok (.enter 27 args) w := enters_of Tryd.func27 (by kernel_rfl) rfl
theorem exec_quo32 {ρ : Operand → Value} {o : Oper} (x : Operand) (ho : o.op = .binOp .quo 3 x (.const (.int .i64 32)) 3) (hc : ρ (.const (.int .i64 32)) = .int .i64 32) (i j : Nat) (hi : i < 1000) (hx : ρ x = .int .i64 (i : Int)) (hj : j = i / 32) (w : World) : (execOp ρ o).run Tryd.prog w = .ok (.value (.int .i64 (j : Int))) w := by
  have hq : (i : Int).tdiv 32 = (j : Int) := by rw [Int.tdiv_eq_ediv_of_nonneg (by omega)]; omega
  have hq2 : (i : Int) / 32 = (j : Int) := by omega
  have hw : IntKind.i64.wrap (j : Int) = (j : Int) := IntWalk.i64_in _ (by omega)
  clear hj
  unfold execOp
  rw [ho]
  simp only [hx, hc]
  go_simp
theorem exec_rem32 {ρ : Operand → Value} {o : Oper} (x : Operand) (ho : o.op = .binOp .rem 3 x (.const (.int .i64 32)) 3) (hc : ρ (.const (.int .i64 32)) = .int .i64 32) (i j : Nat) (hi : i < 1000) (hx : ρ x = .int .i64 (i : Int)) (hj : j = i % 32) (w : World) : (execOp ρ o).run Tryd.prog w = .ok (.value (.int .i64 (j : Int))) w := by
  have hq : (i : Int).tmod 32 = (j : Int) := by rw [Int.tmod_eq_emod_of_nonneg (by omega)]; omega
  have hq2 : (i : Int) % 32 = (j : Int) := by omega
  have hw : IntKind.i64.wrap (j : Int) = (j : Int) := IntWalk.i64_in _ (by omega)
  clear hj
  unfold execOp
  rw [ho]
  simp only [hx, hc]
  go_simp
theorem exec_indexAddr49 {ρ : Operand → Value} {o : Oper} (x y : Operand) (ho : o.op = .indexAddr 49 x y) (b i : Nat) (hx : ρ x = .pointer (some ⟨b, 0, none⟩)) (hy : ρ y = .int .i64 (i : Int)) (hi : i < 16) (w : World) :
    (execOp ρ o).run Tryd.prog w = .ok (.value (.pointer (some ⟨b, i, none⟩))) w := by
  unfold execOp
  rw [ho]
  simp only [hx, hy]
  have h1 : (i : Int) < 16 := by omega
  go_simp
theorem exec_and1 {ρ : Operand → Value} {o : Oper} (x : Operand) (ho : o.op = .binOp .and 22 x (.const (.int .u64 1)) 22) (hc : ρ (.const (.int .u64 1)) = .int .u64 1) (d r : Nat) (hd : d < 18446744073709551616) (hr : r = d % 2) (hx : ρ x = .int .u64 (d : Int)) (w : World) : (execOp ρ o).run Tryd.prog w = .ok (.value (.int .u64 (r : Int))) w := by
  have hb := and_one d r hd hr
  clear hr
  unfold execOp
  rw [ho]
  simp only [hx, hc]
  go_simp
/-- A number's words of 32 bits. -/
def dl (N j : Nat) : Nat := N / 4294967296 ^ j % 4294967296
theorem v32_dl (l : Nat → Nat) (n : Nat) (hl : ∀ j, j < n → l j < 4294967296) : ∀ j, j < n → dl (v32 n l) j = l j := by
  intro j hj
  have h1 := v32_split l j (n - j)
  rw [show j + (n - j) = n by omega] at h1
  have h2 := v32_lt l j (fun i hi => hl i (by omega))
  have h3 := v32_split (fun i => l (j + i)) 1 (n - j - 1)
  rw [show 1 + (n - j - 1) = n - j by omega] at h3
  unfold dl
  rw [h1, Nat.add_mul_div_left _ _ (Nat.pow_pos (by decide)), Nat.div_eq_of_lt h2, Nat.zero_add, h3]
  have h4 : v32 1 (fun i => l (j + i)) = l j := by show 0 + l (j + 0) * 4294967296 ^ 0 = l j; rw [Nat.add_zero, Nat.pow_zero]; omega
  rw [h4, show (4294967296 : Nat) ^ 1 = 4294967296 from rfl, Nat.add_mul_mod_self_left, Nat.mod_eq_of_lt (hl j hj)]
theorem mulnum_det (a b : Nat) (ha : a < 115792089237316195423570985008687907853269984665640564039457584007913129639936) (hb : b < 115792089237316195423570985008687907853269984665640564039457584007913129639936) (w : World) :
    Calls Tryd.prog 26 #[.agg (num a), .agg (num b)] w fun e w' => e = .returned (.agg (rowOf .u64 16 (dl (a * b))).toArray) ∧ Below w.heap.size w w' := by
  refine (mulnum_any a b ha hb w).mono ?_
  rintro e w1 ⟨⟨l, hl, hv, rfl⟩, h⟩
  refine ⟨?_, h⟩
  rw [← hv, rowOf_ext (v32_dl l 16 hl)]
theorem dl_lt (N j : Nat) : dl N j < 4294967296 := Nat.mod_lt _ (by decide)
theorem dl_bit (N i : Nat) : dl N (i / 32) / 2 ^ (i % 32) % 2 = N / 2 ^ i % 2 := by
  unfold dl
  have h : (2 : Nat) ^ i = 4294967296 ^ (i / 32) * 2 ^ (i % 32) := by
    rw [show (4294967296 : Nat) = 2 ^ 32 from rfl, ← Nat.pow_mul, ← Nat.pow_add]
    congr 1
    omega
  rw [h, ← Nat.div_div_eq_div_mul]
  generalize N / 4294967296 ^ (i / 32) = x
  have hq : i % 32 < 32 := Nat.mod_lt _ (by decide)
  generalize i % 32 = q at *
  have e : (4294967296 : Nat) = 2 ^ q * 2 ^ (32 - q) := by
    rw [← Nat.pow_add, show q + (32 - q) = 32 by omega]
  rw [e, Nat.mod_mul_right_div_self, show 32 - q = (31 - q) + 1 by omega, Nat.pow_succ, Nat.mod_mul_left_mod]
set_option maxRecDepth 100000 in
set_option maxHeartbeats 1000000 in
theorem rmuladd_any (a b c : Nat) (ha : a < 115792089237316195423570985008687907853269984665640564039457584007913129639936) (hb : b < 115792089237316195423570985008687907853269984665640564039457584007913129639936) (hc : c < 115792089237316195423570985008687907853269984665640564039457584007913129639936) (w : World) :
    Calls Tryd.prog 13 #[.agg (num a), .agg (num b), .agg (num c)] w fun e w' => e = .returned (.agg (num (muladdL a b c))) ∧ Below w.heap.size w w' := by
  have hLL : LL = 7237005577332262213973186563042994240857116359379907606001950938285454250989 := rfl
  have la : a % LL < LL := Nat.mod_lt _ LL_pos
  have lb : b % LL < LL := Nat.mod_lt _ LL_pos
  have lc : c % LL < LL := Nat.mod_lt _ LL_pos
  obtain ⟨V, hV⟩ : ∃ V, V = a % LL * (b % LL) := ⟨_, rfl⟩
  have lv : V % LL < LL := Nat.mod_lt _ LL_pos
  obtain ⟨E, hE1, hE2, hV0⟩ : ∃ E, E ≤ 512 ∧ 512 ≤ E ∧ V / 2 ^ E = 0 := by
    obtain ⟨F, hF⟩ : ∃ F : Nat, F = 256 := ⟨_, rfl⟩
    refine ⟨F + F, by omega, by omega, ?_⟩
    apply Nat.div_eq_of_lt
    rw [hV]
    have h1 : a % LL * (b % LL) ≤ LL * LL := Nat.mul_le_mul (Nat.le_of_lt la) (Nat.le_of_lt lb)
    have h0 : LL < 2 ^ F := by rw [hF]; decide
    have h2 : LL * LL < 2 ^ (F + F) := by
      rw [Nat.pow_add]
      exact Nat.mul_lt_mul'' h0 h0
    exact Nat.lt_of_le_of_lt h1 h2
  have H1 := Lib.hid (modulo_any a ha)
  have H2 := Lib.hid (modulo_any b hb)
  have H3 := Lib.hid (mulnum_det (a % LL) (b % LL) (LL_lt la) (LL_lt lb))
  rw [← hV] at H3
  have H4 := Lib.hid (modulo_any c hc)
  have H5 := Lib.hid (addnum_any (V % LL) (c % LL) (LL_lt lv) (LL_lt lc))
  have hsm : V % LL + c % LL < 115792089237316195423570985008687907853269984665640564039457584007913129639936 := by omega
  rw [Nat.mod_eq_of_lt hsm, Nat.div_eq_of_lt hsm] at H5
  have H6 := Lib.hid (modulo_any (V % LL + c % LL) hsm)
  rw [show (V % LL + c % LL) % LL = muladdL a b c by rw [hV]; exact muladd_mods a b c] at H6
  have HDJ : Hid (∀ j, j < 16 → (rowOf .u64 16 (dl V)).toArray[j]? = some (.int .u64 (dl V j : Int))) := Lib.hid (fun j hj => by rw [List.getElem?_toArray, rowOf_get _ _ _ _ hj])
  obtain ⟨D, hD⟩ : ∃ D, Hid (D = (rowOf .u64 16 (dl V)).toArray) := ⟨_, Lib.hid rfl⟩
  have ID : IsRw 16 D := by rw [hD.out]; exact ⟨_, rfl⟩
  obtain ⟨Z16, hZ16⟩ : ∃ Z16, Hid (Z16 = (rowOf .u64 16 (fun _ => 0)).toArray) := ⟨_, Lib.hid rfl⟩
  have IZ16 : IsRw 16 Z16 := by rw [hZ16.out]; exact ⟨_, rfl⟩
  have SZF : Z16.size = 16 := by rw [hZ16.out, rowOf_size]
  have HZF : ∀ w, (zeroValue 49).run Tryd.prog w = .ok (.agg Z16) w := by rw [hZ16.out]; exact zero50
  obtain ⟨A, hA⟩ : ∃ A, Hid (A = num a) := ⟨_, Lib.hid rfl⟩
  have IA : IsNum A := by rw [hA.out]; exact isNum _
  obtain ⟨B, hB⟩ : ∃ B, Hid (B = num b) := ⟨_, Lib.hid rfl⟩
  have IB : IsNum B := by rw [hB.out]; exact isNum _
  obtain ⟨C, hC⟩ : ∃ C, Hid (C = num c) := ⟨_, Lib.hid rfl⟩
  have IC : IsNum C := by rw [hC.out]; exact isNum _
  obtain ⟨NA, hNA⟩ : ∃ NA, Hid (NA = num (a % LL)) := ⟨_, Lib.hid rfl⟩
  have INA : IsNum NA := by rw [hNA.out]; exact isNum _
  obtain ⟨NB, hNB⟩ : ∃ NB, Hid (NB = num (b % LL)) := ⟨_, Lib.hid rfl⟩
  have INB : IsNum NB := by rw [hNB.out]; exact isNum _
  obtain ⟨NC, hNC⟩ : ∃ NC, Hid (NC = num (c % LL)) := ⟨_, Lib.hid rfl⟩
  have INC : IsNum NC := by rw [hNC.out]; exact isNum _
  obtain ⟨MM, hMM⟩ : ∃ MM, Hid (MM = num (V % LL)) := ⟨_, Lib.hid rfl⟩
  have IMM : IsNum MM := by rw [hMM.out]; exact isNum _
  obtain ⟨SM, hSM⟩ : ∃ SM, Hid (SM = num (V % LL + c % LL)) := ⟨_, Lib.hid rfl⟩
  have ISM : IsNum SM := by rw [hSM.out]; exact isNum _
  obtain ⟨R, hR⟩ : ∃ R, Hid (R = num (muladdL a b c)) := ⟨_, Lib.hid rfl⟩
  have IR : IsNum R := by rw [hR.out]; exact isNum _
  have HZ := zero_run
  obtain ⟨Z, hZ⟩ : ∃ Z, Hid (Z = num 0) := ⟨_, Lib.hid rfl⟩
  have IZ : IsNum Z := by rw [hZ.out]; exact isNum _
  have IZ2 := IZ.size
  have HZ2 : ∀ w, (zeroValue 24).run Tryd.prog w = .ok (.agg Z) w := by rw [hZ.out]; exact HZ
  clear HZ
  rw [← hA.out, ← hNA.out] at H1
  rw [← hB.out, ← hNB.out] at H2
  rw [← hNA.out, ← hNB.out, ← hD.out] at H3
  rw [← hC.out, ← hNC.out] at H4
  rw [← hMM.out, ← hNC.out, ← hSM.out] at H5
  rw [← hSM.out, ← hR.out] at H6
  rw [← hD.out] at HDJ
  rw [← hA.out, ← hB.out, ← hC.out, ← hR.out]
  clear hLL la lb lc lv hsm ha hb hc hV hA hB hC hNA hNB hNC hSM hR hD hZ16
  have hz4 : ∀ W : World, Kt W [(W.heap.size, A, 24), (W.heap.size + 1, B, 24), (W.heap.size + 1 + 1, C, 24), (W.heap.size + 1 + 1 + 1, Z, 24)] ((((W.alloc (.cells A 24)).alloc (.cells B 24)).alloc (.cells C 24)).alloc (.cells Z 24)) := by
    intro W
    have h := ((((Kt.nil W).new A 24).new B 24).new C 24).new Z 24
    try simp only [World.size_alloc] at h
    exact h.sub (fun p hp => by simp at hp ⊢; rcases hp with h | h | h | h <;> simp [h])
  have HS := Lib.hid (hz4 w)
  clear hz4
  go_enter Tryd.func13, Tryd.ntmps13
  go_upto_region 1 with ((refine wpList_run rfl _ (exec_alloc_agg _ 24 rfl _ (HZ2 _)) ?_); try simp only [World.size_alloc])
  try simp only [Act.put, List.setIfInBounds_toArray, List.set_cons_succ, List.set_cons_zero]
  generalize ((((w.alloc (.cells A 24)).alloc (.cells B 24)).alloc (.cells C 24)).alloc (.cells Z 24)) = W0 at *
  refine wp_cut (fun a' W => ∃ g7, a' = { tmps := #[.agg A, .agg B, .agg C, .pointer (some ⟨w.heap.size, 0, none⟩), .pointer (some ⟨w.heap.size + 1, 0, none⟩), .pointer (some ⟨w.heap.size + 1 + 1, 0, none⟩), .pointer (some ⟨w.heap.size + 1 + 1 + 1, 0, none⟩), .pointer (some ⟨g7, 0, none⟩), undef, undef, undef, undef, .agg A, .agg NA, .agg B, .agg NB, .agg D, undef, undef, undef, undef, undef, undef, undef, undef, undef, undef, undef, undef, undef, undef, undef, undef, undef, undef, undef, undef, undef, undef, undef], defers := [] } ∧ Kt w [(w.heap.size + 1 + 1, C, 24), (w.heap.size + 1 + 1 + 1, Z, 24), (g7, D, 49)] W ∧ w.heap.size + 1 + 1 + 1 < g7) ?_ ?_
  · refine wp_region_any (by kernel_rfl) ?_
    change wpAny _ _ _ _ _ _ _ (World.drew _)
    have HD := HS.out.drew
    clear HS
    generalize W0.drew = Wd at *
    refine any_of_F (S := Kt w [(w.heap.size, A, 24), (w.heap.size + 1, B, 24), (w.heap.size + 1 + 1, C, 24), (w.heap.size + 1 + 1 + 1, Z, 24)]) (f := 1000) _ _ _ _ ?_
    refine AnyF.takeG (by rfl) 0 (some 12) (.load 24 (.tmp 3)) none (.agg A) rfl (by kernel_rfl) (by kernel_rfl) (by kernel_rfl) (fun _ _ _ h => h) rfl (fun o h => by obtain rfl := Option.some.inj h; rfl) (fun o ho w2 hw => exec_load_of _ 24 (.tmp 3) ho ⟨w.heap.size, 0, none⟩ rfl _ (loadA IA (hw.get (w.heap.size) A 24 (by simp)))) HD ?_
    simp only [Act.put, List.setIfInBounds_toArray, List.set_cons_succ, List.set_cons_zero]
    refine AnyF.takeG (by rfl) 2 (some 14) (.load 24 (.tmp 4)) none (.agg B) rfl (by kernel_rfl) (by kernel_rfl) (by kernel_rfl) (fun _ _ _ h => h) rfl (fun o h => by obtain rfl := Option.some.inj h; rfl) (fun o ho w2 hw => exec_load_of _ 24 (.tmp 4) ho ⟨w.heap.size + 1, 0, none⟩ rfl _ (loadA IB (hw.get (w.heap.size + 1) B 24 (by simp)))) HD ?_
    simp only [Act.put, List.setIfInBounds_toArray, List.set_cons_succ, List.set_cons_zero]
    refine AnyF.ready (rs := [1, 5]) (by kernel_rfl) (by simp) (ReadyF.call (some 13) 27 #[.tmp 12] #[24] rfl #[.agg A] (by simp [Act.eval]) enters27 _ (H1.out _) ?_ (fun c w' h => by cases h.1) (fun w' h => by cases h.1) (ReadyF.op (some 7) (.alloc 49) rfl (.pointer (some ⟨Wd.heap.size, 0, none⟩)) (fun o ho => exec_alloc_agg _ 49 ho _ (HZF _)) (HD.alloc _) ?_ ReadyF.nil))
    · rintro v ws1 ⟨he, hb⟩
      cases he
      have Hs2 := HD.below hb
      clear hb
      refine ⟨Hs2, ?_⟩
      simp only [Act.put, List.setIfInBounds_toArray, List.set_cons_succ, List.set_cons_zero]
      refine AnyF.ready (rs := [3, 5]) (by kernel_rfl) (by simp) (ReadyF.call (some 15) 27 #[.tmp 14] #[24] rfl #[.agg B] (by simp [Act.eval]) enters27 _ (H2.out _) ?_ (fun c w' h => by cases h.1) (fun w' h => by cases h.1) (ReadyF.op (some 7) (.alloc 49) rfl (.pointer (some ⟨ws1.heap.size, 0, none⟩)) (fun o ho => exec_alloc_agg _ 49 ho _ (HZF _)) (Hs2.alloc _) ?_ ReadyF.nil))
      · rintro v ws3 ⟨he, hb⟩
        cases he
        have Hs4 := Hs2.below hb
        clear hb
        refine ⟨Hs4, ?_⟩
        simp only [Act.put, List.setIfInBounds_toArray, List.set_cons_succ, List.set_cons_zero]
        refine AnyF.ready (rs := [4, 5]) (by kernel_rfl) (by simp) (ReadyF.call (some 16) 26 #[.tmp 13, .tmp 15] #[24, 24] rfl #[.agg NA, .agg NB] (by simp [Act.eval]) enters26 _ (H3.out _) ?_ (fun c w' h => by cases h.1) (fun w' h => by cases h.1) (ReadyF.op (some 7) (.alloc 49) rfl (.pointer (some ⟨ws3.heap.size, 0, none⟩)) (fun o ho => exec_alloc_agg _ 49 ho _ (HZF _)) (Hs4.alloc _) ?_ ReadyF.nil))
        · rintro v ws5 ⟨he, hb⟩
          cases he
          have Hs6 := Hs4.below hb
          clear hb
          refine ⟨Hs6, ?_⟩
          simp only [Act.put, List.setIfInBounds_toArray, List.set_cons_succ, List.set_cons_zero]
          refine AnyF.ready (rs := [5]) (by kernel_rfl) (by simp) (ReadyF.op (some 7) (.alloc 49) rfl (.pointer (some ⟨ws5.heap.size, 0, none⟩)) (fun o ho => exec_alloc_agg _ 49 ho _ (HZF _)) (Hs6.alloc _) ?_ ReadyF.nil)
          have l0ws7 := Hs6.lt (w.heap.size) A 24 (by simp)
          have l1ws7 := Hs6.lt (w.heap.size + 1) B 24 (by simp)
          have l2ws7 := Hs6.lt (w.heap.size + 1 + 1) C 24 (by simp)
          have l3ws7 := Hs6.lt (w.heap.size + 1 + 1 + 1) Z 24 (by simp)
          have Hs8 := Hs6.alloc (.cells Z16 49)
          have Es9 := (Hs6.sub (m := []) (fun p hp => by cases hp)).new Z16 49
          simp only [Act.put, List.setIfInBounds_toArray, List.set_cons_succ, List.set_cons_zero]
          obtain ⟨ws7, hws7⟩ : ∃ W, W = ws5.alloc (.cells Z16 49) := ⟨_, rfl⟩
          rw [← hws7] at Hs8 Es9 ⊢
          clear hws7
          refine AnyF.ready (rs := [6]) (by kernel_rfl) (by simp) (ReadyF.op0 (.store 49 (.tmp 7) (.tmp 16)) rfl (fun o ho => exec_store50 ws7 (.tmp 7) (.tmp 16) ho (ws5.heap.size) rfl D ID rfl Z16 49 (Es9.get (ws5.heap.size) Z16 49 (by simp)) SZF) (Hs8.set (ws5.heap.size) D Z16 49 (Es9.get (ws5.heap.size) Z16 49 (by simp)) (by omega) (fun p hp => by simp at hp; rcases hp with rfl | rfl | rfl | rfl <;> exact .inr ⟨by simp, by simp only; omega⟩)) ?_ ReadyF.nil)
          have Hs11 := Hs8.set (ws5.heap.size) D Z16 49 (Es9.get (ws5.heap.size) Z16 49 (by simp)) (by omega) (m := [(w.heap.size, A, 24), (w.heap.size + 1, B, 24), (w.heap.size + 1 + 1, C, 24), (w.heap.size + 1 + 1 + 1, Z, 24)]) (fun p hp => by simp at hp; rcases hp with rfl | rfl | rfl | rfl <;> exact .inr ⟨by simp, by simp only; omega⟩)
          have Es12 := Es9.set (ws5.heap.size) D Z16 49 (Es9.get (ws5.heap.size) Z16 49 (by simp)) (by omega) (m := [(ws5.heap.size, D, 49)]) (fun p hp => by simp at hp; subst hp; first | exact .inl rfl | exact .inr ⟨by simp, by simp only; omega⟩)
          generalize ws7.setRow (ws5.heap.size) D = ws10 at *
          refine AnyF.done (by kernel_rfl) ?_ _
          refine nrm_intro ⟨ws5.heap.size, rfl, (Hs11.app Es12).sub (fun p hp => by simp at hp; rcases hp with rfl | rfl | rfl <;> simp), by omega⟩
        · have l0ws13 := Hs4.lt (w.heap.size) A 24 (by simp)
          have l1ws13 := Hs4.lt (w.heap.size + 1) B 24 (by simp)
          have l2ws13 := Hs4.lt (w.heap.size + 1 + 1) C 24 (by simp)
          have l3ws13 := Hs4.lt (w.heap.size + 1 + 1 + 1) Z 24 (by simp)
          have Hs14 := Hs4.alloc (.cells Z16 49)
          have Es15 := (Hs4.sub (m := []) (fun p hp => by cases hp)).new Z16 49
          simp only [Act.put, List.setIfInBounds_toArray, List.set_cons_succ, List.set_cons_zero]
          obtain ⟨ws13, hws13⟩ : ∃ W, W = ws3.alloc (.cells Z16 49) := ⟨_, rfl⟩
          rw [← hws13] at Hs14 Es15 ⊢
          clear hws13
          refine AnyF.ready (rs := [4]) (by kernel_rfl) (by simp) (ReadyF.call (some 16) 26 #[.tmp 13, .tmp 15] #[24, 24] rfl #[.agg NA, .agg NB] (by simp [Act.eval]) enters26 _ (H3.out _) ?_ (fun c w' h => by cases h.1) (fun w' h => by cases h.1) ReadyF.nil)
          rintro v ws16 ⟨he, hb⟩
          cases he
          have Hs17 := Hs14.below hb
          have Es18 := Es15.below hb
          clear hb
          refine ⟨Hs17, ?_⟩
          simp only [Act.put, List.setIfInBounds_toArray, List.set_cons_succ, List.set_cons_zero]
          refine AnyF.ready (rs := [6]) (by kernel_rfl) (by simp) (ReadyF.op0 (.store 49 (.tmp 7) (.tmp 16)) rfl (fun o ho => exec_store50 ws16 (.tmp 7) (.tmp 16) ho (ws3.heap.size) rfl D ID rfl Z16 49 (Es18.get (ws3.heap.size) Z16 49 (by simp)) SZF) (Hs17.set (ws3.heap.size) D Z16 49 (Es18.get (ws3.heap.size) Z16 49 (by simp)) (by omega) (fun p hp => by simp at hp; rcases hp with rfl | rfl | rfl | rfl <;> exact .inr ⟨by simp, by simp only; omega⟩)) ?_ ReadyF.nil)
          have Hs20 := Hs17.set (ws3.heap.size) D Z16 49 (Es18.get (ws3.heap.size) Z16 49 (by simp)) (by omega) (m := [(w.heap.size, A, 24), (w.heap.size + 1, B, 24), (w.heap.size + 1 + 1, C, 24), (w.heap.size + 1 + 1 + 1, Z, 24)]) (fun p hp => by simp at hp; rcases hp with rfl | rfl | rfl | rfl <;> exact .inr ⟨by simp, by simp only; omega⟩)
          have Es21 := Es18.set (ws3.heap.size) D Z16 49 (Es18.get (ws3.heap.size) Z16 49 (by simp)) (by omega) (m := [(ws3.heap.size, D, 49)]) (fun p hp => by simp at hp; subst hp; first | exact .inl rfl | exact .inr ⟨by simp, by simp only; omega⟩)
          generalize ws16.setRow (ws3.heap.size) D = ws19 at *
          refine AnyF.done (by kernel_rfl) ?_ _
          refine nrm_intro ⟨ws3.heap.size, rfl, (Hs20.app Es21).sub (fun p hp => by simp at hp; rcases hp with rfl | rfl | rfl <;> simp), by omega⟩
      · have l0ws22 := Hs2.lt (w.heap.size) A 24 (by simp)
        have l1ws22 := Hs2.lt (w.heap.size + 1) B 24 (by simp)
        have l2ws22 := Hs2.lt (w.heap.size + 1 + 1) C 24 (by simp)
        have l3ws22 := Hs2.lt (w.heap.size + 1 + 1 + 1) Z 24 (by simp)
        have Hs23 := Hs2.alloc (.cells Z16 49)
        have Es24 := (Hs2.sub (m := []) (fun p hp => by cases hp)).new Z16 49
        simp only [Act.put, List.setIfInBounds_toArray, List.set_cons_succ, List.set_cons_zero]
        obtain ⟨ws22, hws22⟩ : ∃ W, W = ws1.alloc (.cells Z16 49) := ⟨_, rfl⟩
        rw [← hws22] at Hs23 Es24 ⊢
        clear hws22
        refine AnyF.ready (rs := [3]) (by kernel_rfl) (by simp) (ReadyF.call (some 15) 27 #[.tmp 14] #[24] rfl #[.agg B] (by simp [Act.eval]) enters27 _ (H2.out _) ?_ (fun c w' h => by cases h.1) (fun w' h => by cases h.1) ReadyF.nil)
        rintro v ws25 ⟨he, hb⟩
        cases he
        have Hs26 := Hs23.below hb
        have Es27 := Es24.below hb
        clear hb
        refine ⟨Hs26, ?_⟩
        simp only [Act.put, List.setIfInBounds_toArray, List.set_cons_succ, List.set_cons_zero]
        refine AnyF.ready (rs := [4]) (by kernel_rfl) (by simp) (ReadyF.call (some 16) 26 #[.tmp 13, .tmp 15] #[24, 24] rfl #[.agg NA, .agg NB] (by simp [Act.eval]) enters26 _ (H3.out _) ?_ (fun c w' h => by cases h.1) (fun w' h => by cases h.1) ReadyF.nil)
        rintro v ws28 ⟨he, hb⟩
        cases he
        have Hs29 := Hs26.below hb
        have Es30 := Es27.below hb
        clear hb
        refine ⟨Hs29, ?_⟩
        simp only [Act.put, List.setIfInBounds_toArray, List.set_cons_succ, List.set_cons_zero]
        refine AnyF.ready (rs := [6]) (by kernel_rfl) (by simp) (ReadyF.op0 (.store 49 (.tmp 7) (.tmp 16)) rfl (fun o ho => exec_store50 ws28 (.tmp 7) (.tmp 16) ho (ws1.heap.size) rfl D ID rfl Z16 49 (Es30.get (ws1.heap.size) Z16 49 (by simp)) SZF) (Hs29.set (ws1.heap.size) D Z16 49 (Es30.get (ws1.heap.size) Z16 49 (by simp)) (by omega) (fun p hp => by simp at hp; rcases hp with rfl | rfl | rfl | rfl <;> exact .inr ⟨by simp, by simp only; omega⟩)) ?_ ReadyF.nil)
        have Hs32 := Hs29.set (ws1.heap.size) D Z16 49 (Es30.get (ws1.heap.size) Z16 49 (by simp)) (by omega) (m := [(w.heap.size, A, 24), (w.heap.size + 1, B, 24), (w.heap.size + 1 + 1, C, 24), (w.heap.size + 1 + 1 + 1, Z, 24)]) (fun p hp => by simp at hp; rcases hp with rfl | rfl | rfl | rfl <;> exact .inr ⟨by simp, by simp only; omega⟩)
        have Es33 := Es30.set (ws1.heap.size) D Z16 49 (Es30.get (ws1.heap.size) Z16 49 (by simp)) (by omega) (m := [(ws1.heap.size, D, 49)]) (fun p hp => by simp at hp; subst hp; first | exact .inl rfl | exact .inr ⟨by simp, by simp only; omega⟩)
        generalize ws28.setRow (ws1.heap.size) D = ws31 at *
        refine AnyF.done (by kernel_rfl) ?_ _
        refine nrm_intro ⟨ws1.heap.size, rfl, (Hs32.app Es33).sub (fun p hp => by simp at hp; rcases hp with rfl | rfl | rfl <;> simp), by omega⟩
    · have l0ws34 := HD.lt (w.heap.size) A 24 (by simp)
      have l1ws34 := HD.lt (w.heap.size + 1) B 24 (by simp)
      have l2ws34 := HD.lt (w.heap.size + 1 + 1) C 24 (by simp)
      have l3ws34 := HD.lt (w.heap.size + 1 + 1 + 1) Z 24 (by simp)
      have Hs35 := HD.alloc (.cells Z16 49)
      have Es36 := (HD.sub (m := []) (fun p hp => by cases hp)).new Z16 49
      simp only [Act.put, List.setIfInBounds_toArray, List.set_cons_succ, List.set_cons_zero]
      obtain ⟨ws34, hws34⟩ : ∃ W, W = Wd.alloc (.cells Z16 49) := ⟨_, rfl⟩
      rw [← hws34] at Hs35 Es36 ⊢
      clear hws34
      refine AnyF.ready (rs := [1]) (by kernel_rfl) (by simp) (ReadyF.call (some 13) 27 #[.tmp 12] #[24] rfl #[.agg A] (by simp [Act.eval]) enters27 _ (H1.out _) ?_ (fun c w' h => by cases h.1) (fun w' h => by cases h.1) ReadyF.nil)
      rintro v ws37 ⟨he, hb⟩
      cases he
      have Hs38 := Hs35.below hb
      have Es39 := Es36.below hb
      clear hb
      refine ⟨Hs38, ?_⟩
      simp only [Act.put, List.setIfInBounds_toArray, List.set_cons_succ, List.set_cons_zero]
      refine AnyF.ready (rs := [3]) (by kernel_rfl) (by simp) (ReadyF.call (some 15) 27 #[.tmp 14] #[24] rfl #[.agg B] (by simp [Act.eval]) enters27 _ (H2.out _) ?_ (fun c w' h => by cases h.1) (fun w' h => by cases h.1) ReadyF.nil)
      rintro v ws40 ⟨he, hb⟩
      cases he
      have Hs41 := Hs38.below hb
      have Es42 := Es39.below hb
      clear hb
      refine ⟨Hs41, ?_⟩
      simp only [Act.put, List.setIfInBounds_toArray, List.set_cons_succ, List.set_cons_zero]
      refine AnyF.ready (rs := [4]) (by kernel_rfl) (by simp) (ReadyF.call (some 16) 26 #[.tmp 13, .tmp 15] #[24, 24] rfl #[.agg NA, .agg NB] (by simp [Act.eval]) enters26 _ (H3.out _) ?_ (fun c w' h => by cases h.1) (fun w' h => by cases h.1) ReadyF.nil)
      rintro v ws43 ⟨he, hb⟩
      cases he
      have Hs44 := Hs41.below hb
      have Es45 := Es42.below hb
      clear hb
      refine ⟨Hs44, ?_⟩
      simp only [Act.put, List.setIfInBounds_toArray, List.set_cons_succ, List.set_cons_zero]
      refine AnyF.ready (rs := [6]) (by kernel_rfl) (by simp) (ReadyF.op0 (.store 49 (.tmp 7) (.tmp 16)) rfl (fun o ho => exec_store50 ws43 (.tmp 7) (.tmp 16) ho (Wd.heap.size) rfl D ID rfl Z16 49 (Es45.get (Wd.heap.size) Z16 49 (by simp)) SZF) (Hs44.set (Wd.heap.size) D Z16 49 (Es45.get (Wd.heap.size) Z16 49 (by simp)) (by omega) (fun p hp => by simp at hp; rcases hp with rfl | rfl | rfl | rfl <;> exact .inr ⟨by simp, by simp only; omega⟩)) ?_ ReadyF.nil)
      have Hs47 := Hs44.set (Wd.heap.size) D Z16 49 (Es45.get (Wd.heap.size) Z16 49 (by simp)) (by omega) (m := [(w.heap.size, A, 24), (w.heap.size + 1, B, 24), (w.heap.size + 1 + 1, C, 24), (w.heap.size + 1 + 1 + 1, Z, 24)]) (fun p hp => by simp at hp; rcases hp with rfl | rfl | rfl | rfl <;> exact .inr ⟨by simp, by simp only; omega⟩)
      have Es48 := Es45.set (Wd.heap.size) D Z16 49 (Es45.get (Wd.heap.size) Z16 49 (by simp)) (by omega) (m := [(Wd.heap.size, D, 49)]) (fun p hp => by simp at hp; subst hp; first | exact .inl rfl | exact .inr ⟨by simp, by simp only; omega⟩)
      generalize ws43.setRow (Wd.heap.size) D = ws46 at *
      refine AnyF.done (by kernel_rfl) ?_ _
      refine nrm_intro ⟨Wd.heap.size, rfl, (Hs47.app Es48).sub (fun p hp => by simp at hp; rcases hp with rfl | rfl | rfl <;> simp), by omega⟩
  · rintro a' W5 ⟨g7, rfl, HK5, hg7⟩
    have hg7b := HK5.lt g7 D 49 (by simp)
    have HK6 : Hid (Kt w [(w.heap.size + 1 + 1, C, 24), (w.heap.size + 1 + 1 + 1, Z, 24), (g7, D, 49), (W5.heap.size, Z, 24)] (W5.alloc (.cells Z 24))) := Lib.hid ((HK5.new Z 24).sub (fun p hp => by simp at hp ⊢; rcases hp with rfl | rfl | rfl | rfl <;> simp))
    clear HK5
    go_wp2_with ((refine wpList_run rfl _ (exec_alloc_agg _ 24 rfl _ (HZ2 _)) ?_); try simp only [World.size_alloc])
    try simp only [Act.put, List.setIfInBounds_toArray, List.set_cons_succ, List.set_cons_zero]
    generalize W5.alloc (.cells Z 24) = W6 at *
    generalize W5.heap.size = g8 at *
    go_loopw [9] (fun x wr => ∃ u : Nat, u ≤ E ∧ x = .int .i64 ((u : Int) - 1) ∧ Kt w [(w.heap.size + 1 + 1, C, 24), (w.heap.size + 1 + 1 + 1, Z, 24), (g7, D, 49), (g8, num (V / 2 ^ u % LL), 24)] wr) (fun x _ => (1 + intOf x).toNat)
    case atStart => exact ⟨E, Nat.le_refl _, congrArg (Value.int IntKind.i64) (by omega), by rw [hV0, show 0 % LL = 0 from Nat.zero_mod _, ← hZ.out]; exact HK6.out⟩
    case round =>
      clear HK6
      obtain ⟨v, hv, rfl, hK0⟩ := hrel
      have HK := Lib.hid hK0
      clear hK0
      cases v with
      | zero =>
        have hR0 : num (V / 2 ^ 0 % LL) = MM := by rw [Nat.pow_zero, Nat.div_one]; exact hMM.out.symm
        rw [hR0] at HK
        rw [show ((0 : Nat) : Int) - 1 = (-1 : Int) from rfl]
        clear hR0 HDJ hv hV0 hMM hZ
        go_wp2
        refine wp_region_any (by kernel_rfl) ?_
        change wpAny _ _ _ _ _ _ _ (World.drew _)
        have HD := HK.out.drew
        clear HK
        generalize wr.drew = Wd at *
        refine any_of_F (S := Kt w [(w.heap.size + 1 + 1, C, 24), (w.heap.size + 1 + 1 + 1, Z, 24), (g7, D, 49), (g8, MM, 24)]) (f := 1000) _ _ _ _ ?_
        refine AnyF.takeG (by rfl) 0 (some 32) (.load 24 (.tmp 8)) none (.agg MM) rfl (by kernel_rfl) (by kernel_rfl) (by kernel_rfl) (fun _ _ _ h => h) rfl (fun o h => by obtain rfl := Option.some.inj h; rfl) (fun o ho w2 hw => exec_load_of _ 24 (.tmp 8) ho ⟨g8, 0, none⟩ rfl _ (loadA IMM (hw.get (g8) MM 24 (by simp)))) HD ?_
        simp only [Act.put, List.setIfInBounds_toArray, List.set_cons_succ, List.set_cons_zero]
        refine AnyF.takeG (by rfl) 1 (some 33) (.load 24 (.tmp 5)) none (.agg C) rfl (by kernel_rfl) (by kernel_rfl) (by kernel_rfl) (fun _ _ _ h => h) rfl (fun o h => by obtain rfl := Option.some.inj h; rfl) (fun o ho w2 hw => exec_load_of _ 24 (.tmp 5) ho ⟨w.heap.size + 1 + 1, 0, none⟩ rfl _ (loadA IC (hw.get (w.heap.size + 1 + 1) C 24 (by simp)))) HD ?_
        simp only [Act.put, List.setIfInBounds_toArray, List.set_cons_succ, List.set_cons_zero]
        refine AnyF.ready (rs := [2, 7]) (by kernel_rfl) (by simp) (ReadyF.call (some 34) 27 #[.tmp 33] #[24] rfl #[.agg C] (by simp [Act.eval]) enters27 _ (H4.out _) ?_ (fun c w' h => by cases h.1) (fun w' h => by cases h.1) (ReadyF.op (some 10) (.alloc 24) rfl (.pointer (some ⟨Wd.heap.size, 0, none⟩)) (fun o ho => exec_alloc_agg _ 24 ho _ (HZ2 _)) (HD.alloc _) ?_ ReadyF.nil))
        · rintro v wy1 ⟨he, hb⟩
          cases he
          have Hy2 := HD.below hb
          clear hb
          refine ⟨Hy2, ?_⟩
          simp only [Act.put, List.setIfInBounds_toArray, List.set_cons_succ, List.set_cons_zero]
          refine AnyF.ready (rs := [3, 7]) (by kernel_rfl) (by simp) (ReadyF.call (some 35) 18 #[.tmp 32, .tmp 34] #[24, 24] rfl #[.agg MM, .agg NC] (by simp [Act.eval]) enters18 _ (H5.out _) ?_ (fun c w' h => by cases h.1) (fun w' h => by cases h.1) (ReadyF.op (some 10) (.alloc 24) rfl (.pointer (some ⟨wy1.heap.size, 0, none⟩)) (fun o ho => exec_alloc_agg _ 24 ho _ (HZ2 _)) (Hy2.alloc _) ?_ ReadyF.nil))
          · rintro v wy3 ⟨he, hb⟩
            cases he
            have Hy4 := Hy2.below hb
            clear hb
            refine ⟨Hy4, ?_⟩
            simp only [Act.put, List.setIfInBounds_toArray, List.set_cons_succ, List.set_cons_zero]
            refine AnyF.takeG (by rfl) 4 (some 31) (.move (.tmp 35)) none (.tuple #[.agg SM, .int .u64 0]) rfl (by kernel_rfl) (by kernel_rfl) (by kernel_rfl) (fun _ _ _ h => h) rfl (fun o h => by obtain rfl := Option.some.inj h; rfl) (fun o ho w2 hw => exec_move (.tmp 35) ho _ rfl w2) Hy4 ?_
            simp only [Act.put, List.setIfInBounds_toArray, List.set_cons_succ, List.set_cons_zero]
            refine AnyF.takeG (by rfl) 5 (some 36) (.extract (.tmp 31) 0) none (.agg SM) rfl (by kernel_rfl) (by kernel_rfl) (by kernel_rfl) (fun _ _ _ h => h) rfl (fun o h => by obtain rfl := Option.some.inj h; rfl) (fun o ho w2 hw => exec_extract (.tmp 31) 0 ho _ _ rfl rfl w2) Hy4 ?_
            simp only [Act.put, List.setIfInBounds_toArray, List.set_cons_succ, List.set_cons_zero]
            refine AnyF.takeG (by rfl) 6 (some 37) (.extract (.tmp 31) 1) none (.int .u64 0) rfl (by kernel_rfl) (by kernel_rfl) (by kernel_rfl) (fun _ _ _ h => h) rfl (fun o h => by obtain rfl := Option.some.inj h; rfl) (fun o ho w2 hw => exec_extract (.tmp 31) 1 ho _ _ rfl rfl w2) Hy4 ?_
            simp only [Act.put, List.setIfInBounds_toArray, List.set_cons_succ, List.set_cons_zero]
            refine AnyF.ready (rs := [7]) (by kernel_rfl) (by simp) (ReadyF.op (some 10) (.alloc 24) rfl (.pointer (some ⟨wy3.heap.size, 0, none⟩)) (fun o ho => exec_alloc_agg _ 24 ho _ (HZ2 _)) (Hy4.alloc _) ?_ ReadyF.nil)
            have l0wy5 := Hy4.lt (w.heap.size + 1 + 1) C 24 (by simp)
            have l1wy5 := Hy4.lt (w.heap.size + 1 + 1 + 1) Z 24 (by simp)
            have l2wy5 := Hy4.lt (g7) D 49 (by simp)
            have l3wy5 := Hy4.lt (g8) MM 24 (by simp)
            have Hy6 := Hy4.alloc (.cells Z 24)
            have Ey7 := (Hy4.sub (m := []) (fun p hp => by cases hp)).new Z 24
            simp only [Act.put, List.setIfInBounds_toArray, List.set_cons_succ, List.set_cons_zero]
            obtain ⟨wy5, hwy5⟩ : ∃ W, W = wy3.alloc (.cells Z 24) := ⟨_, rfl⟩
            rw [← hwy5] at Hy6 Ey7 ⊢
            clear hwy5
            refine AnyF.ready (rs := [8]) (by kernel_rfl) (by simp) (ReadyF.op0 (.store 24 (.tmp 10) (.tmp 36)) rfl (fun o ho => exec_store24 wy5 (.tmp 10) (.tmp 36) ho (wy3.heap.size) rfl SM ISM rfl Z 24 (Ey7.get (wy3.heap.size) Z 24 (by simp)) IZ2) (Hy6.set (wy3.heap.size) SM Z 24 (Ey7.get (wy3.heap.size) Z 24 (by simp)) (by omega) (fun p hp => by simp at hp; rcases hp with rfl | rfl | rfl | rfl <;> exact .inr ⟨by simp, by simp only; omega⟩)) ?_ ReadyF.nil)
            have Hy9 := Hy6.set (wy3.heap.size) SM Z 24 (Ey7.get (wy3.heap.size) Z 24 (by simp)) (by omega) (m := [(w.heap.size + 1 + 1, C, 24), (w.heap.size + 1 + 1 + 1, Z, 24), (g7, D, 49), (g8, MM, 24)]) (fun p hp => by simp at hp; rcases hp with rfl | rfl | rfl | rfl <;> exact .inr ⟨by simp, by simp only; omega⟩)
            have Ey10 := Ey7.set (wy3.heap.size) SM Z 24 (Ey7.get (wy3.heap.size) Z 24 (by simp)) (by omega) (m := [(wy3.heap.size, SM, 24)]) (fun p hp => by simp at hp; subst hp; first | exact .inl rfl | exact .inr ⟨by simp, by simp only; omega⟩)
            generalize wy5.setRow (wy3.heap.size) SM = wy8 at *
            refine AnyF.takeG (by rfl) 9 (some 11) (.assign (.tmp 37)) none (.int .u64 0) rfl (by kernel_rfl) (by kernel_rfl) (by kernel_rfl) (fun _ _ _ h => h) rfl (fun o h => by obtain rfl := Option.some.inj h; rfl) (fun o ho w2 hw => exec_assign (.tmp 37) ho _ rfl w2) Hy9 ?_
            simp only [Act.put, List.setIfInBounds_toArray, List.set_cons_succ, List.set_cons_zero]
            refine AnyF.done (by kernel_rfl) ?_ _
            have HQ := Lib.hid (Hy9.app Ey10)
            have hl10 := HQ.out.get (wy3.heap.size) SM 24 (by simp)
            go_wp2_with (refine wpList_run rfl _ (exec_load_of _ 24 (.tmp 10) rfl ⟨wy3.heap.size, 0, none⟩ rfl (.agg SM) (loadA ISM hl10)) ?_)
            clear hl10
            refine (H6.out _).mono ?_
            rintro e w9 ⟨rfl, hb⟩
            have HQ9 := HQ.out.below hb
            clear hb H6
            have hz9 := HQ9.get (w.heap.size + 1 + 1 + 1) Z 24 (by simp)
            go_wp2_with (refine wpList_run0 rfl (exec_store24 _ (.tmp 6) (.tmp 39) rfl (w.heap.size + 1 + 1 + 1) rfl R IR rfl Z 24 hz9 IZ2) ?_)
            have HSZ : Kt w [(w.heap.size + 1 + 1 + 1, R, 24)] (World.setRow _ (w.heap.size + 1 + 1 + 1) R) := HQ9.set (w.heap.size + 1 + 1 + 1) R Z 24 hz9 (by omega) (fun p hp => by simp at hp; subst hp; exact .inl rfl)
            exact bodyPost_ret (results_cell rfl _ _ _ ⟨w.heap.size + 1 + 1 + 1, 0, none⟩ rfl _ (loadA IR (HSZ.get (w.heap.size + 1 + 1 + 1) R 24 (by simp)))) rfl ⟨rfl, HSZ.1⟩
          · have l0wy11 := Hy2.lt (w.heap.size + 1 + 1) C 24 (by simp)
            have l1wy11 := Hy2.lt (w.heap.size + 1 + 1 + 1) Z 24 (by simp)
            have l2wy11 := Hy2.lt (g7) D 49 (by simp)
            have l3wy11 := Hy2.lt (g8) MM 24 (by simp)
            have Hy12 := Hy2.alloc (.cells Z 24)
            have Ey13 := (Hy2.sub (m := []) (fun p hp => by cases hp)).new Z 24
            simp only [Act.put, List.setIfInBounds_toArray, List.set_cons_succ, List.set_cons_zero]
            obtain ⟨wy11, hwy11⟩ : ∃ W, W = wy1.alloc (.cells Z 24) := ⟨_, rfl⟩
            rw [← hwy11] at Hy12 Ey13 ⊢
            clear hwy11
            refine AnyF.ready (rs := [3]) (by kernel_rfl) (by simp) (ReadyF.call (some 35) 18 #[.tmp 32, .tmp 34] #[24, 24] rfl #[.agg MM, .agg NC] (by simp [Act.eval]) enters18 _ (H5.out _) ?_ (fun c w' h => by cases h.1) (fun w' h => by cases h.1) ReadyF.nil)
            rintro v wy14 ⟨he, hb⟩
            cases he
            have Hy15 := Hy12.below hb
            have Ey16 := Ey13.below hb
            clear hb
            refine ⟨Hy15, ?_⟩
            simp only [Act.put, List.setIfInBounds_toArray, List.set_cons_succ, List.set_cons_zero]
            refine AnyF.takeG (by rfl) 4 (some 31) (.move (.tmp 35)) none (.tuple #[.agg SM, .int .u64 0]) rfl (by kernel_rfl) (by kernel_rfl) (by kernel_rfl) (fun _ _ _ h => h) rfl (fun o h => by obtain rfl := Option.some.inj h; rfl) (fun o ho w2 hw => exec_move (.tmp 35) ho _ rfl w2) Hy15 ?_
            simp only [Act.put, List.setIfInBounds_toArray, List.set_cons_succ, List.set_cons_zero]
            refine AnyF.takeG (by rfl) 5 (some 36) (.extract (.tmp 31) 0) none (.agg SM) rfl (by kernel_rfl) (by kernel_rfl) (by kernel_rfl) (fun _ _ _ h => h) rfl (fun o h => by obtain rfl := Option.some.inj h; rfl) (fun o ho w2 hw => exec_extract (.tmp 31) 0 ho _ _ rfl rfl w2) Hy15 ?_
            simp only [Act.put, List.setIfInBounds_toArray, List.set_cons_succ, List.set_cons_zero]
            refine AnyF.takeG (by rfl) 6 (some 37) (.extract (.tmp 31) 1) none (.int .u64 0) rfl (by kernel_rfl) (by kernel_rfl) (by kernel_rfl) (fun _ _ _ h => h) rfl (fun o h => by obtain rfl := Option.some.inj h; rfl) (fun o ho w2 hw => exec_extract (.tmp 31) 1 ho _ _ rfl rfl w2) Hy15 ?_
            simp only [Act.put, List.setIfInBounds_toArray, List.set_cons_succ, List.set_cons_zero]
            refine AnyF.ready (rs := [8]) (by kernel_rfl) (by simp) (ReadyF.op0 (.store 24 (.tmp 10) (.tmp 36)) rfl (fun o ho => exec_store24 wy14 (.tmp 10) (.tmp 36) ho (wy1.heap.size) rfl SM ISM rfl Z 24 (Ey16.get (wy1.heap.size) Z 24 (by simp)) IZ2) (Hy15.set (wy1.heap.size) SM Z 24 (Ey16.get (wy1.heap.size) Z 24 (by simp)) (by omega) (fun p hp => by simp at hp; rcases hp with rfl | rfl | rfl | rfl <;> exact .inr ⟨by simp, by simp only; omega⟩)) ?_ ReadyF.nil)
            have Hy18 := Hy15.set (wy1.heap.size) SM Z 24 (Ey16.get (wy1.heap.size) Z 24 (by simp)) (by omega) (m := [(w.heap.size + 1 + 1, C, 24), (w.heap.size + 1 + 1 + 1, Z, 24), (g7, D, 49), (g8, MM, 24)]) (fun p hp => by simp at hp; rcases hp with rfl | rfl | rfl | rfl <;> exact .inr ⟨by simp, by simp only; omega⟩)
            have Ey19 := Ey16.set (wy1.heap.size) SM Z 24 (Ey16.get (wy1.heap.size) Z 24 (by simp)) (by omega) (m := [(wy1.heap.size, SM, 24)]) (fun p hp => by simp at hp; subst hp; first | exact .inl rfl | exact .inr ⟨by simp, by simp only; omega⟩)
            generalize wy14.setRow (wy1.heap.size) SM = wy17 at *
            refine AnyF.takeG (by rfl) 9 (some 11) (.assign (.tmp 37)) none (.int .u64 0) rfl (by kernel_rfl) (by kernel_rfl) (by kernel_rfl) (fun _ _ _ h => h) rfl (fun o h => by obtain rfl := Option.some.inj h; rfl) (fun o ho w2 hw => exec_assign (.tmp 37) ho _ rfl w2) Hy18 ?_
            simp only [Act.put, List.setIfInBounds_toArray, List.set_cons_succ, List.set_cons_zero]
            refine AnyF.done (by kernel_rfl) ?_ _
            have HQ := Lib.hid (Hy18.app Ey19)
            have hl10 := HQ.out.get (wy1.heap.size) SM 24 (by simp)
            go_wp2_with (refine wpList_run rfl _ (exec_load_of _ 24 (.tmp 10) rfl ⟨wy1.heap.size, 0, none⟩ rfl (.agg SM) (loadA ISM hl10)) ?_)
            clear hl10
            refine (H6.out _).mono ?_
            rintro e w9 ⟨rfl, hb⟩
            have HQ9 := HQ.out.below hb
            clear hb H6
            have hz9 := HQ9.get (w.heap.size + 1 + 1 + 1) Z 24 (by simp)
            go_wp2_with (refine wpList_run0 rfl (exec_store24 _ (.tmp 6) (.tmp 39) rfl (w.heap.size + 1 + 1 + 1) rfl R IR rfl Z 24 hz9 IZ2) ?_)
            have HSZ : Kt w [(w.heap.size + 1 + 1 + 1, R, 24)] (World.setRow _ (w.heap.size + 1 + 1 + 1) R) := HQ9.set (w.heap.size + 1 + 1 + 1) R Z 24 hz9 (by omega) (fun p hp => by simp at hp; subst hp; exact .inl rfl)
            exact bodyPost_ret (results_cell rfl _ _ _ ⟨w.heap.size + 1 + 1 + 1, 0, none⟩ rfl _ (loadA IR (HSZ.get (w.heap.size + 1 + 1 + 1) R 24 (by simp)))) rfl ⟨rfl, HSZ.1⟩
        · have l0wy20 := HD.lt (w.heap.size + 1 + 1) C 24 (by simp)
          have l1wy20 := HD.lt (w.heap.size + 1 + 1 + 1) Z 24 (by simp)
          have l2wy20 := HD.lt (g7) D 49 (by simp)
          have l3wy20 := HD.lt (g8) MM 24 (by simp)
          have Hy21 := HD.alloc (.cells Z 24)
          have Ey22 := (HD.sub (m := []) (fun p hp => by cases hp)).new Z 24
          simp only [Act.put, List.setIfInBounds_toArray, List.set_cons_succ, List.set_cons_zero]
          obtain ⟨wy20, hwy20⟩ : ∃ W, W = Wd.alloc (.cells Z 24) := ⟨_, rfl⟩
          rw [← hwy20] at Hy21 Ey22 ⊢
          clear hwy20
          refine AnyF.ready (rs := [2]) (by kernel_rfl) (by simp) (ReadyF.call (some 34) 27 #[.tmp 33] #[24] rfl #[.agg C] (by simp [Act.eval]) enters27 _ (H4.out _) ?_ (fun c w' h => by cases h.1) (fun w' h => by cases h.1) ReadyF.nil)
          rintro v wy23 ⟨he, hb⟩
          cases he
          have Hy24 := Hy21.below hb
          have Ey25 := Ey22.below hb
          clear hb
          refine ⟨Hy24, ?_⟩
          simp only [Act.put, List.setIfInBounds_toArray, List.set_cons_succ, List.set_cons_zero]
          refine AnyF.ready (rs := [3]) (by kernel_rfl) (by simp) (ReadyF.call (some 35) 18 #[.tmp 32, .tmp 34] #[24, 24] rfl #[.agg MM, .agg NC] (by simp [Act.eval]) enters18 _ (H5.out _) ?_ (fun c w' h => by cases h.1) (fun w' h => by cases h.1) ReadyF.nil)
          rintro v wy26 ⟨he, hb⟩
          cases he
          have Hy27 := Hy24.below hb
          have Ey28 := Ey25.below hb
          clear hb
          refine ⟨Hy27, ?_⟩
          simp only [Act.put, List.setIfInBounds_toArray, List.set_cons_succ, List.set_cons_zero]
          refine AnyF.takeG (by rfl) 4 (some 31) (.move (.tmp 35)) none (.tuple #[.agg SM, .int .u64 0]) rfl (by kernel_rfl) (by kernel_rfl) (by kernel_rfl) (fun _ _ _ h => h) rfl (fun o h => by obtain rfl := Option.some.inj h; rfl) (fun o ho w2 hw => exec_move (.tmp 35) ho _ rfl w2) Hy27 ?_
          simp only [Act.put, List.setIfInBounds_toArray, List.set_cons_succ, List.set_cons_zero]
          refine AnyF.takeG (by rfl) 5 (some 36) (.extract (.tmp 31) 0) none (.agg SM) rfl (by kernel_rfl) (by kernel_rfl) (by kernel_rfl) (fun _ _ _ h => h) rfl (fun o h => by obtain rfl := Option.some.inj h; rfl) (fun o ho w2 hw => exec_extract (.tmp 31) 0 ho _ _ rfl rfl w2) Hy27 ?_
          simp only [Act.put, List.setIfInBounds_toArray, List.set_cons_succ, List.set_cons_zero]
          refine AnyF.takeG (by rfl) 6 (some 37) (.extract (.tmp 31) 1) none (.int .u64 0) rfl (by kernel_rfl) (by kernel_rfl) (by kernel_rfl) (fun _ _ _ h => h) rfl (fun o h => by obtain rfl := Option.some.inj h; rfl) (fun o ho w2 hw => exec_extract (.tmp 31) 1 ho _ _ rfl rfl w2) Hy27 ?_
          simp only [Act.put, List.setIfInBounds_toArray, List.set_cons_succ, List.set_cons_zero]
          refine AnyF.ready (rs := [8]) (by kernel_rfl) (by simp) (ReadyF.op0 (.store 24 (.tmp 10) (.tmp 36)) rfl (fun o ho => exec_store24 wy26 (.tmp 10) (.tmp 36) ho (Wd.heap.size) rfl SM ISM rfl Z 24 (Ey28.get (Wd.heap.size) Z 24 (by simp)) IZ2) (Hy27.set (Wd.heap.size) SM Z 24 (Ey28.get (Wd.heap.size) Z 24 (by simp)) (by omega) (fun p hp => by simp at hp; rcases hp with rfl | rfl | rfl | rfl <;> exact .inr ⟨by simp, by simp only; omega⟩)) ?_ ReadyF.nil)
          have Hy30 := Hy27.set (Wd.heap.size) SM Z 24 (Ey28.get (Wd.heap.size) Z 24 (by simp)) (by omega) (m := [(w.heap.size + 1 + 1, C, 24), (w.heap.size + 1 + 1 + 1, Z, 24), (g7, D, 49), (g8, MM, 24)]) (fun p hp => by simp at hp; rcases hp with rfl | rfl | rfl | rfl <;> exact .inr ⟨by simp, by simp only; omega⟩)
          have Ey31 := Ey28.set (Wd.heap.size) SM Z 24 (Ey28.get (Wd.heap.size) Z 24 (by simp)) (by omega) (m := [(Wd.heap.size, SM, 24)]) (fun p hp => by simp at hp; subst hp; first | exact .inl rfl | exact .inr ⟨by simp, by simp only; omega⟩)
          generalize wy26.setRow (Wd.heap.size) SM = wy29 at *
          refine AnyF.takeG (by rfl) 9 (some 11) (.assign (.tmp 37)) none (.int .u64 0) rfl (by kernel_rfl) (by kernel_rfl) (by kernel_rfl) (fun _ _ _ h => h) rfl (fun o h => by obtain rfl := Option.some.inj h; rfl) (fun o ho w2 hw => exec_assign (.tmp 37) ho _ rfl w2) Hy30 ?_
          simp only [Act.put, List.setIfInBounds_toArray, List.set_cons_succ, List.set_cons_zero]
          refine AnyF.done (by kernel_rfl) ?_ _
          have HQ := Lib.hid (Hy30.app Ey31)
          have hl10 := HQ.out.get (Wd.heap.size) SM 24 (by simp)
          go_wp2_with (refine wpList_run rfl _ (exec_load_of _ 24 (.tmp 10) rfl ⟨Wd.heap.size, 0, none⟩ rfl (.agg SM) (loadA ISM hl10)) ?_)
          clear hl10
          refine (H6.out _).mono ?_
          rintro e w9 ⟨rfl, hb⟩
          have HQ9 := HQ.out.below hb
          clear hb H6
          have hz9 := HQ9.get (w.heap.size + 1 + 1 + 1) Z 24 (by simp)
          go_wp2_with (refine wpList_run0 rfl (exec_store24 _ (.tmp 6) (.tmp 39) rfl (w.heap.size + 1 + 1 + 1) rfl R IR rfl Z 24 hz9 IZ2) ?_)
          have HSZ : Kt w [(w.heap.size + 1 + 1 + 1, R, 24)] (World.setRow _ (w.heap.size + 1 + 1 + 1) R) := HQ9.set (w.heap.size + 1 + 1 + 1) R Z 24 hz9 (by omega) (fun p hp => by simp at hp; subst hp; exact .inl rfl)
          exact bodyPost_ret (results_cell rfl _ _ _ ⟨w.heap.size + 1 + 1 + 1, 0, none⟩ rfl _ (loadA IR (HSZ.get (w.heap.size + 1 + 1 + 1) R 24 (by simp)))) rfl ⟨rfl, HSZ.1⟩
      | succ i =>
        obtain ⟨j, hj0⟩ : ∃ j, j = i / 32 := ⟨_, rfl⟩
        obtain ⟨q, hq0⟩ : ∃ q, q = i % 32 := ⟨_, rfl⟩
        have hj16 : j < 16 := by omega
        have hq64 : q < 64 := by omega
        have hi1 : i < 1000 := by omega
        obtain ⟨d, hd0⟩ : ∃ d, d = dl V j := ⟨_, rfl⟩
        have hdj := HDJ.out j hj16
        rw [← hd0] at hdj
        have hd64 : d < 18446744073709551616 := by have h := dl_lt V j; omega
        obtain ⟨y, hy0⟩ : ∃ y, y = d / 2 ^ q := ⟨_, rfl⟩
        have hy64 : y < 18446744073709551616 := by rw [hy0]; exact Nat.lt_of_le_of_lt (Nat.div_le_self _ _) hd64
        obtain ⟨r, hr0⟩ : ∃ r, r = y % 2 := ⟨_, rfl⟩
        have hr2 : r < 2 := by omega
        have hrv : r = V / 2 ^ i % 2 := by rw [hr0, hy0, hd0, hq0, hj0]; exact dl_bit V i
        have HR0 := reduced_any (V / 2 ^ (i + 1) % LL) r (Nat.mod_lt _ LL_pos) hr2
        rw [hrv, bit_step, ← hrv] at HR0
        have HR := Lib.hid HR0
        obtain ⟨N0, hN0⟩ : ∃ N0, Hid (N0 = num (V / 2 ^ (i + 1) % LL)) := ⟨_, Lib.hid rfl⟩
        have IN0 : IsNum N0 := by rw [hN0.out]; exact isNum _
        obtain ⟨N1, hN1⟩ : ∃ N1, Hid (N1 = num (V / 2 ^ i % LL)) := ⟨_, Lib.hid rfl⟩
        have IN1 : IsNum N1 := by rw [hN1.out]; exact isNum _
        rw [← hN0.out] at HK HR
        rw [← hN1.out] at HR
        have hj := Lib.hid hj0
        have hq := Lib.hid hq0
        have hy := Lib.hid hy0
        have hr := Lib.hid hr0
        rw [show ((i + 1 : Nat) : Int) - 1 = (i : Int) by omega]
        clear hj0 hq0 hd0 hy0 hr0 hrv HR0 HDJ hV0 hMM hZ
        have hgg := HK.out.lt g8 N0 24 (by simp)
        go_wp2
        refine wp_region_any (by kernel_rfl) ?_
        change wpAny _ _ _ _ _ _ _ (World.drew _)
        have HD := HK.out.drew
        clear HK
        generalize wr.drew = Wd at *
        refine any_of_F (S := Kt w [(w.heap.size + 1 + 1, C, 24), (w.heap.size + 1 + 1 + 1, Z, 24), (g7, D, 49), (g8, N0, 24)]) (f := 10) _ _ _ _ ?_
        refine AnyF.take 0 (some 21) (.load 24 (.tmp 8)) (.agg N0) rfl (by kernel_rfl) (by kernel_rfl) (by kernel_rfl) (fun _ _ _ h => h) rfl (by kernel_rfl) (fun o ho w2 hw => exec_load_of _ 24 (.tmp 8) ho ⟨g8, 0, none⟩ rfl _ (loadA IN0 (hw.get (g8) N0 24 (by simp)))) HD ?_
        simp only [Act.put, List.setIfInBounds_toArray, List.set_cons_succ, List.set_cons_zero]
        refine AnyF.take 1 (some 22) (.move (.tmp 9)) (.int .i64 (i : Int)) rfl (by kernel_rfl) (by kernel_rfl) (by kernel_rfl) (fun _ _ _ h => h) rfl (by kernel_rfl) (fun o ho w2 hw => exec_move (.tmp 9) ho _ rfl w2) HD ?_
        simp only [Act.put, List.setIfInBounds_toArray, List.set_cons_succ, List.set_cons_zero]
        refine AnyF.take 2 (some 23) (.binOp .quo 3 (.tmp 22) (.const (.int .i64 32)) 3) (.int .i64 (j : Int)) rfl (by kernel_rfl) (by kernel_rfl) (by kernel_rfl) (fun _ _ _ h => h) rfl (by kernel_rfl) (fun o ho w2 hw => exec_quo32 (.tmp 22) ho rfl i j hi1 rfl hj.out w2) HD ?_
        simp only [Act.put, List.setIfInBounds_toArray, List.set_cons_succ, List.set_cons_zero]
        refine AnyF.take 3 (some 24) (.indexAddr 49 (.tmp 7) (.tmp 23)) (.pointer (some ⟨g7, j, none⟩)) rfl (by kernel_rfl) (by kernel_rfl) (by kernel_rfl) (fun _ _ _ h => h) rfl (by kernel_rfl) (fun o ho w2 hw => exec_indexAddr49 (.tmp 7) (.tmp 23) ho g7 j rfl rfl hj16 w2) HD ?_
        simp only [Act.put, List.setIfInBounds_toArray, List.set_cons_succ, List.set_cons_zero]
        refine AnyF.take 4 (some 25) (.load 22 (.tmp 24)) (.int .u64 (d : Int)) rfl (by kernel_rfl) (by kernel_rfl) (by kernel_rfl) (fun _ _ _ h => h) rfl (by kernel_rfl) (fun o ho w2 hw => exec_load_one w2 22 (.tmp 24) ho ⟨g7, j, none⟩ rfl _ ((hw.cell g7 D 49 (by simp) j).trans hdj) _ Tryd.underlying22 rfl) HD ?_
        simp only [Act.put, List.setIfInBounds_toArray, List.set_cons_succ, List.set_cons_zero]
        refine AnyF.take 5 (some 26) (.move (.tmp 9)) (.int .i64 (i : Int)) rfl (by kernel_rfl) (by kernel_rfl) (by kernel_rfl) (fun _ _ _ h => h) rfl (by kernel_rfl) (fun o ho w2 hw => exec_move (.tmp 9) ho _ rfl w2) HD ?_
        simp only [Act.put, List.setIfInBounds_toArray, List.set_cons_succ, List.set_cons_zero]
        refine AnyF.take 6 (some 27) (.binOp .rem 3 (.tmp 26) (.const (.int .i64 32)) 3) (.int .i64 (q : Int)) rfl (by kernel_rfl) (by kernel_rfl) (by kernel_rfl) (fun _ _ _ h => h) rfl (by kernel_rfl) (fun o ho w2 hw => exec_rem32 (.tmp 26) ho rfl i q hi1 rfl hq.out w2) HD ?_
        simp only [Act.put, List.setIfInBounds_toArray, List.set_cons_succ, List.set_cons_zero]
        refine AnyF.take 7 (some 28) (.binOp .shr 22 (.tmp 25) (.tmp 27) 3) (.int .u64 (y : Int)) rfl (by kernel_rfl) (by kernel_rfl) (by kernel_rfl) (fun _ _ _ h => h) rfl (by kernel_rfl) (fun o ho w2 hw => exec_shr (.tmp 25) (.tmp 27) ho d q hq64 rfl rfl y hy.out w2) HD ?_
        simp only [Act.put, List.setIfInBounds_toArray, List.set_cons_succ, List.set_cons_zero]
        refine AnyF.take 8 (some 29) (.binOp .and 22 (.tmp 28) (.const (.int .u64 1)) 22) (.int .u64 (r : Int)) rfl (by kernel_rfl) (by kernel_rfl) (by kernel_rfl) (fun _ _ _ h => h) rfl (by kernel_rfl) (fun o ho w2 hw => exec_and1 (.tmp 28) ho rfl y r hy64 hr.out rfl w2) HD ?_
        simp only [Act.put, List.setIfInBounds_toArray, List.set_cons_succ, List.set_cons_zero]
        refine AnyF.ready (rs := [9]) (by kernel_rfl) (by simp) (ReadyF.call (some 30) 23 #[.tmp 21, .tmp 29] #[24, 22] rfl #[.agg N0, .int .u64 (r : Int)] (by simp [Act.eval]) enters23 _ (HR.out _) ?_ (fun c w' h => by cases h.1) (fun w' h => by cases h.1) ReadyF.nil)
        rintro v wv1 ⟨he, hb⟩
        cases he
        have Hv2 := HD.below hb
        clear hb
        refine ⟨Hv2, ?_⟩
        simp only [Act.put, List.setIfInBounds_toArray, List.set_cons_succ, List.set_cons_zero]
        refine AnyF.ready (rs := [10]) (by kernel_rfl) (by simp) (ReadyF.last (.store 24 (.tmp 8) (.tmp 30)) rfl (fun o ho => exec_store24 wv1 (.tmp 8) (.tmp 30) ho (g8) rfl N1 IN1 rfl N0 24 (Hv2.get (g8) N0 24 (by simp)) IN0.size) ?_ ReadyF.nil)
        refine any_doneF (by kernel_rfl) ?_ _
        have HN : Kt w [(w.heap.size + 1 + 1, C, 24), (w.heap.size + 1 + 1 + 1, Z, 24), (g7, D, 49), (g8, N1, 24)] (wv1.setRow g8 N1) := Hv2.set g8 N1 N0 24 (Hv2.get g8 N0 24 (by simp)) (by omega) (fun p hp => by simp at hp; rcases hp with rfl | rfl | rfl | rfl <;> first | exact .inl rfl | exact .inr ⟨by simp, by simp only; omega⟩)
        rw [hN1.out] at HN
        have HN := Lib.hid HN
        rw [hN1.out]
        generalize wv1.setRow g8 (num (V / 2 ^ i % LL)) = W9 at *
        go_wp2
        go_roundw
        case rel => exact ⟨i, by omega, rfl, HN.out⟩
        case measure => simp [intOf]; omega
end Go.Proofs.YtfcnfcolhahghaaDoor
