/- reduced of the document: one bit more, modulo the order. No condition but that the number is below the order, and the bit is one. -/
import Derived.Test.YtfcnfcolhahghaaDoorLaws
namespace Go.Proofs.YtfcnfcolhahghaaDoor
open Go.RowKit Go.Shelf
set_option linter.unusedVariables false
set_option linter.unusedSimpArgs false
theorem enters31 : ∀ args w, (callFunc 31 args).run Tryd.prog w = .ok (.enter 31 args) w := enters_of Tryd.func31 (by kernel_rfl) rfl
theorem or_bit (d b : Nat) (hd : d < 18446744073709551616) (he : d % 2 = 0) (hb : b < 2) : bits .or .u64 (d : Int) (b : Int) = ((d + b : Nat) : Int) := by
  have h := bits_or_u64_nat d b hd (by omega)
  rw [h]
  have h2 : d ||| b = d + b := by
    have e : d = 2 ^ 1 * (d / 2) := by omega
    rw [e]
    exact (Nat.two_pow_add_eq_or_of_lt (by omega) _).symm
  rw [h2]
theorem dig_bit_up (x b : Nat) (hx : x % 2 = 0) (hb : b < 2) : ∀ j, j < 4 → upd (dig x) 0 (dig x 0 + b) j = dig (x + b) j := by
  intro j hj
  unfold upd
  rcases (show j = 0 ∨ j = 1 ∨ j = 2 ∨ j = 3 by omega) with rfl | rfl | rfl | rfl
  · rw [if_pos rfl, dig_0, dig_0]; omega
  · rw [if_neg (by decide), dig_1, dig_1]; omega
  · rw [if_neg (by decide), dig_2, dig_2]; omega
  · rw [if_neg (by decide), dig_3, dig_3]; omega
set_option maxRecDepth 100000 in
set_option maxHeartbeats 1000000 in
theorem reduced_any (a b : Nat) (ha : a < LL) (hb : b < 2) (w : World) :
    Calls Tryd.prog 23 #[.agg (num a), .int .u64 b] w fun e w' => e = .returned (.agg (num ((2 * a + b) % LL))) ∧ Below w.heap.size w w' := by
  have hLL : LL = 7237005577332262213973186563042994240857116359379907606001950938285454250989 := rfl
  have ha4 := LL_lt ha
  have h2a : 2 * a < 115792089237316195423570985008687907853269984665640564039457584007913129639936 := by omega
  have h2b : 2 * a + b < 115792089237316195423570985008687907853269984665640564039457584007913129639936 := by omega
  have H1 := Lib.hid (addnum_any a a ha4 ha4)
  rw [show a + a = 2 * a by omega, Nat.mod_eq_of_lt h2a, Nat.div_eq_of_lt h2a] at H1
  have HO := Lib.hid order_any
  have H3 := Lib.hid (less_any (2 * a + b) LL h2b LL_num)
  have H4 := Lib.hid (subnum_any (2 * a + b) LL h2b LL_num)
  have hst := red_step a b hb
  rw [Nat.mod_eq_of_lt ha] at hst
  have HST := Lib.hid hst
  have hev : dig (2 * a) 0 % 2 = 0 := by rw [dig_0]; omega
  have hor := or_bit (dig (2 * a) 0) b (dig_lt _ _) hev hb
  have HUP := Lib.hid (dig_bit_up (2 * a) b (by omega) hb)
  have HLE : Hid (¬ 2 * a + b < LL → subM (2 * a + b) LL = 2 * a + b - LL) := fun h => subM_le _ _ (by omega) h2b
  clear hLL ha4 h2a h2b hst hev ha
  obtain ⟨A, hA⟩ : ∃ A, Hid (A = num a) := ⟨_, Lib.hid rfl⟩
  have IA : IsNum A := by rw [hA.out]; exact isNum _
  obtain ⟨S, hS⟩ : ∃ S, Hid (S = num (2 * a)) := ⟨_, Lib.hid rfl⟩
  have IS : IsNum S := by rw [hS.out]; exact isNum _
  obtain ⟨S2, hS2⟩ : ∃ S2, Hid (S2 = num (2 * a + b)) := ⟨_, Lib.hid rfl⟩
  have IS2 : IsNum S2 := by rw [hS2.out]; exact isNum _
  obtain ⟨OL, hOL⟩ : ∃ OL, Hid (OL = num LL) := ⟨_, Lib.hid rfl⟩
  have IOL : IsNum OL := by rw [hOL.out]; exact isNum _
  obtain ⟨R, hR⟩ : ∃ R, Hid (R = num ((2 * a + b) % LL)) := ⟨_, Lib.hid rfl⟩
  have IR : IsNum R := by rw [hR.out]; exact isNum _
  have HZ := zero_run
  obtain ⟨Z, hZ⟩ : ∃ Z, Hid (Z = num 0) := ⟨_, Lib.hid rfl⟩
  have IZ : IsNum Z := by rw [hZ.out]; exact isNum _
  have IZ2 := IZ.size
  have HZ2 : ∀ w, (zeroValue 24).run Tryd.prog w = .ok (.agg Z) w := by rw [hZ.out]; exact HZ
  clear HZ
  have HUP2 : Hid ((rowOf .u64 4 (upd (dig (2 * a)) 0 (dig (2 * a) 0 + b))).toArray = S2) := by
    unfold Hid
    rw [hS2.out, rowOf_ext HUP.out]
    rfl
  have HSR : Hid (S = (rowOf .u64 4 (dig (2 * a))).toArray) := hS
  rw [← hA.out, ← hS.out] at H1
  rw [← hOL.out] at HO
  rw [← hS2.out, ← hOL.out] at H3 H4
  rw [← hA.out, ← hR.out]
  obtain ⟨d, hd⟩ : ∃ d, Hid (d = dig (2 * a) 0) := ⟨_, Lib.hid rfl⟩
  obtain ⟨r, hr⟩ : ∃ r, Hid (r = dig (2 * a) 0 + b) := ⟨_, Lib.hid rfl⟩
  rw [← hr.out] at hor HUP2
  rw [← hd.out] at hor
  clear HUP hb hA hOL hS hZ
  have hz4 : ∀ W : World, Kn W [(W.heap.size, A), (W.heap.size + 1, Z)] ((W.alloc (.cells A 24)).alloc (.cells Z 24)) := by
    intro W
    have h := ((Kn.nil W).new A).new Z
    try simp only [World.size_alloc] at h
    exact h.sub (fun p hp => by simp at hp ⊢; rcases hp with h | h <;> simp [h])
  have HS := Lib.hid (hz4 w)
  clear hz4
  go_enter Tryd.func23, Tryd.ntmps23
  go_upto_region 1 with ((refine wpList_run rfl _ (exec_alloc_agg _ 24 rfl _ (HZ2 _)) ?_); try simp only [World.size_alloc])
  try simp only [Act.put, List.setIfInBounds_toArray, List.set_cons_succ, List.set_cons_zero]
  generalize (w.alloc (.cells A 24)).alloc (.cells Z 24) = W0 at *
  have hl1 := HS.out.load (w.heap.size) A (by simp) IA
  go_wp2_with (refine wpList_run rfl _ (exec_load_of _ 24 (.tmp 2) rfl ⟨w.heap.size, 0, none⟩ rfl (.agg A) hl1) ?_)
  clear hl1
  refine (H1.out _).mono ?_
  rintro e w1 ⟨rfl, hb⟩
  have HS1 := Lib.hid (HS.out.below hb)
  clear hb HS H1
  have hk0 := HS1.out.lt (w.heap.size) A (by simp)
  have hk1 := HS1.out.lt (w.heap.size + 1) Z (by simp)
  have HS2_ : Kn w [(w.heap.size, A), (w.heap.size + 1, Z), (w1.heap.size, S)] (w1.alloc (.cells S 24)) := (HS1.out.new S).sub (fun p hp => by simp at hp ⊢; rcases hp with h | h | h <;> simp [h])
  have HS2 := Lib.hid HS2_
  clear HS2_ HS1
  go_upto_region 2 with (first | ((refine wpList_run rfl _ (exec_alloc_agg _ 24 rfl _ (HZ2 _)) ?_); try simp only [World.size_alloc]) | (refine wpList_run0 rfl (exec_new24 _ (.tmp 5) (.tmp 11) rfl _ _ rfl S IS rfl IZ2) ?_))
  try simp only [Act.put, List.setIfInBounds_toArray, List.set_cons_succ, List.set_cons_zero]
  generalize w1.alloc (.cells S 24) = W1 at *
  generalize w1.heap.size = gS at *
  have hrow : Row W1 gS 24 .u64 4 (dig (2 * a)) := by
    have h := HS2.out.get gS S (by simp)
    rw [HSR.out] at h
    exact h
  have hc0 := hrow.cell 0 (by decide)
  rw [← hd.out] at hc0
  have hf0 := hrow.free 0
  have HS3 : Hid (Kn w [(w.heap.size, A), (w.heap.size + 1, Z), (gS, S2)] (W1.setCell ⟨gS, 0, none⟩ (.int .u64 (r : Int)))) := by
    have h := HS2.out.setw (m := [(w.heap.size, A), (w.heap.size + 1, Z), (gS, (rowOf .u64 4 (upd (dig (2 * a)) 0 r)).toArray)]) gS (dig (2 * a)) 0 r hrow (by omega) (fun p hp => by simp at hp; rcases hp with rfl | rfl | rfl <;> first | exact .inl rfl | exact .inr ⟨by simp, by simp only; omega⟩)
    rw [HUP2.out] at h
    exact Lib.hid h
  have hor2 : bits .or .u64 (d : Int) (b : Int) = (r : Int) := hor
  clear hrow HS2 hor HUP2 HSR hd hr
  go_upto_region 3 with (refine wpList_run rfl _ (exec_indexAddr24 (.tmp 5) (.const (.int .i64 0)) rfl gS 0 rfl rfl (by decide) _) ?_)
  try simp only [Act.put, List.setIfInBounds_toArray, List.set_cons_succ, List.set_cons_zero]
  clear hc0 hf0 hor2
  generalize W1.setCell ⟨gS, 0, none⟩ (.int .u64 (r : Int)) = W2 at *
  by_cases hlt : 2 * a + b < LL
  · rw [if_pos hlt] at HST
    have hRS : R = S2 := by rw [hR.out, hS2.out, ← HST.out]
    subst hRS
    rw [decide_eq_true hlt] at H3
    clear HST HLE hlt hR hS2 H4
    go_wp2
    refine wp_region_any (by kernel_rfl) ?_
    change wpAny _ _ _ _ _ _ _ (World.drew _)
    have HD3 := HS3.out.drew
    clear HS3
    generalize W2.drew = Wd3 at *
    refine any_of_F (S := Kn w [(w.heap.size, A), (w.heap.size + 1, Z), (gS, R)]) (f := 1000) _ _ _ _ ?_
    refine AnyF.takeG (by rfl) 0 (some 18) (.load 24 (.tmp 5)) none (.agg R) rfl (by kernel_rfl) (by kernel_rfl) (by kernel_rfl) (fun _ _ _ h => h) rfl (fun o h => by obtain rfl := Option.some.inj h; rfl) (fun o ho w2 hw => exec_load_of _ 24 (.tmp 5) ho ⟨gS, 0, none⟩ rfl _ (hw.load (gS) R (by simp) IR)) HD3 ?_
    simp only [Act.put, List.setIfInBounds_toArray, List.set_cons_succ, List.set_cons_zero]
    refine AnyF.ready (rs := [1]) (by kernel_rfl) (by simp) (ReadyF.call (some 19) 16 #[] #[] rfl #[] (by simp [Act.eval]) enters16 _ (HO.out _) ?_ (fun c w' h => by cases h.1) (fun w' h => by cases h.1) ReadyF.nil)
    rintro v wq1 ⟨he, hb⟩
    cases he
    have Hq2 := HD3.below hb
    clear hb
    refine ⟨Hq2, ?_⟩
    simp only [Act.put, List.setIfInBounds_toArray, List.set_cons_succ, List.set_cons_zero]
    refine AnyF.ready (rs := [2]) (by kernel_rfl) (by simp) (ReadyF.call (some 20) 17 #[.tmp 18, .tmp 19] #[24, 24] rfl #[.agg R, .agg OL] (by simp [Act.eval]) enters17 _ (H3.out _) ?_ (fun c w' h => by cases h.1) (fun w' h => by cases h.1) ReadyF.nil)
    rintro v wq3 ⟨he, hb⟩
    cases he
    have Hq4 := Hq2.below hb
    clear hb
    refine ⟨Hq4, ?_⟩
    simp only [Act.put, List.setIfInBounds_toArray, List.set_cons_succ, List.set_cons_zero]
    refine AnyF.takeG (by rfl) 3 (some 21) (.unOp .not 4 (.tmp 20)) none (.bool false) rfl (by kernel_rfl) (by kernel_rfl) (by kernel_rfl) (fun _ _ _ h => h) rfl (fun o h => by obtain rfl := Option.some.inj h; rfl) (fun o ho w2 hw => exec_notb (.tmp 20) ho true false rfl rfl w2) Hq4 ?_
    simp only [Act.put, List.setIfInBounds_toArray, List.set_cons_succ, List.set_cons_zero]
    refine AnyF.done (by kernel_rfl) ?_ _
    have hl5 := Hq4.load gS R (by simp) IR
    go_wp2_with (first | (refine wpList_run rfl _ (exec_load_of _ 24 (.tmp 5) rfl ⟨gS, 0, none⟩ rfl (.agg R) hl5) ?_) | (refine wpList_run0 rfl (exec_store_kn (w0 := w) (l := [(w.heap.size, A), (w.heap.size + 1, Z), (gS, R)]) _ Hq4 (.tmp 4) (.tmp 25) rfl (w.heap.size + 1) rfl R IR rfl Z IZ (by simp)) ?_))
    have HSZ : Kn w [(w.heap.size + 1, R)] (World.setRow _ (w.heap.size + 1) R) := Hq4.set (w.heap.size + 1) R Z (Hq4.get (w.heap.size + 1) Z (by simp)) (by omega) (fun p hp => by simp at hp; subst hp; simp)
    exact bodyPost_ret (results_cell rfl _ _ _ ⟨w.heap.size + 1, 0, none⟩ rfl _ (HSZ.load (w.heap.size + 1) R (by simp) IR)) rfl ⟨rfl, HSZ.1⟩
  · rw [if_neg hlt] at HST
    have hRS : num (subM (2 * a + b) LL) = R := by rw [hR.out, HLE.out hlt, HST.out]
    rw [hRS] at H4
    rw [decide_eq_false hlt] at H3
    clear HST HLE hlt hR hS2 hRS
    go_wp2
    refine wp_region_any (by kernel_rfl) ?_
    change wpAny _ _ _ _ _ _ _ (World.drew _)
    have HD3 := HS3.out.drew
    clear HS3
    generalize W2.drew = Wd3 at *
    refine any_of_F (S := Kn w [(w.heap.size, A), (w.heap.size + 1, Z), (gS, S2)]) (f := 1000) _ _ _ _ ?_
    refine AnyF.takeG (by rfl) 0 (some 18) (.load 24 (.tmp 5)) none (.agg S2) rfl (by kernel_rfl) (by kernel_rfl) (by kernel_rfl) (fun _ _ _ h => h) rfl (fun o h => by obtain rfl := Option.some.inj h; rfl) (fun o ho w2 hw => exec_load_of _ 24 (.tmp 5) ho ⟨gS, 0, none⟩ rfl _ (hw.load (gS) S2 (by simp) IS2)) HD3 ?_
    simp only [Act.put, List.setIfInBounds_toArray, List.set_cons_succ, List.set_cons_zero]
    refine AnyF.ready (rs := [1]) (by kernel_rfl) (by simp) (ReadyF.call (some 19) 16 #[] #[] rfl #[] (by simp [Act.eval]) enters16 _ (HO.out _) ?_ (fun c w' h => by cases h.1) (fun w' h => by cases h.1) ReadyF.nil)
    rintro v wq1 ⟨he, hb⟩
    cases he
    have Hq2 := HD3.below hb
    clear hb
    refine ⟨Hq2, ?_⟩
    simp only [Act.put, List.setIfInBounds_toArray, List.set_cons_succ, List.set_cons_zero]
    refine AnyF.ready (rs := [2]) (by kernel_rfl) (by simp) (ReadyF.call (some 20) 17 #[.tmp 18, .tmp 19] #[24, 24] rfl #[.agg S2, .agg OL] (by simp [Act.eval]) enters17 _ (H3.out _) ?_ (fun c w' h => by cases h.1) (fun w' h => by cases h.1) ReadyF.nil)
    rintro v wq3 ⟨he, hb⟩
    cases he
    have Hq4 := Hq2.below hb
    clear hb
    refine ⟨Hq4, ?_⟩
    simp only [Act.put, List.setIfInBounds_toArray, List.set_cons_succ, List.set_cons_zero]
    refine AnyF.takeG (by rfl) 3 (some 21) (.unOp .not 4 (.tmp 20)) none (.bool true) rfl (by kernel_rfl) (by kernel_rfl) (by kernel_rfl) (fun _ _ _ h => h) rfl (fun o h => by obtain rfl := Option.some.inj h; rfl) (fun o ho w2 hw => exec_notb (.tmp 20) ho false true rfl rfl w2) Hq4 ?_
    simp only [Act.put, List.setIfInBounds_toArray, List.set_cons_succ, List.set_cons_zero]
    refine AnyF.done (by kernel_rfl) ?_ _
    go_wp2
    refine wp_region_any (by kernel_rfl) ?_
    change wpAny _ _ _ _ _ _ _ (World.drew _)
    have HD4 := Hq4.drew
    clear Hq4
    generalize wq3.drew = Wd4 at *
    refine any_of_F (S := Kn w [(w.heap.size, A), (w.heap.size + 1, Z), (gS, S2)]) (f := 3) _ _ _ _ ?_
    refine AnyF.take 0 (some 22) (.load 24 (.tmp 5)) (.agg S2) rfl (by kernel_rfl) (by kernel_rfl) (by kernel_rfl) (fun _ _ _ h => h) rfl (by kernel_rfl) (fun o ho w2 hw => exec_load_of _ 24 (.tmp 5) ho ⟨gS, 0, none⟩ rfl _ (hw.load (gS) S2 (by simp) IS2)) HD4 ?_
    simp only [Act.put, List.setIfInBounds_toArray, List.set_cons_succ, List.set_cons_zero]
    refine AnyF.ready (rs := [1]) (by kernel_rfl) (by simp) (ReadyF.call (some 23) 16 #[] #[] rfl #[] (by simp [Act.eval]) enters16 _ (HO.out _) ?_ (fun c w' h => by cases h.1) (fun w' h => by cases h.1) ReadyF.nil)
    rintro v wu1 ⟨he, hb⟩
    cases he
    have Hu2 := HD4.below hb
    clear hb
    refine ⟨Hu2, ?_⟩
    simp only [Act.put, List.setIfInBounds_toArray, List.set_cons_succ, List.set_cons_zero]
    refine AnyF.ready (rs := [2]) (by kernel_rfl) (by simp) (ReadyF.call (some 24) 31 #[.tmp 22, .tmp 23] #[24, 24] rfl #[.agg S2, .agg OL] (by simp [Act.eval]) enters31 _ (H4.out _) ?_ (fun c w' h => by cases h.1) (fun w' h => by cases h.1) ReadyF.nil)
    rintro v wu3 ⟨he, hb⟩
    cases he
    have Hu4 := Hu2.below hb
    clear hb
    refine ⟨Hu4, ?_⟩
    simp only [Act.put, List.setIfInBounds_toArray, List.set_cons_succ, List.set_cons_zero]
    refine AnyF.ready (rs := [3]) (by kernel_rfl) (by simp) (ReadyF.last (.store 24 (.tmp 5) (.tmp 24)) rfl (fun o ho => exec_store_kn wu3 Hu4 (.tmp 5) (.tmp 24) ho (gS) rfl R IR rfl S2 IS2 (by simp)) ?_ ReadyF.nil)
    refine any_doneF (by kernel_rfl) ?_ _
    have HS9 : Kn w [(w.heap.size, A), (w.heap.size + 1, Z), (gS, R)] (wu3.setRow gS R) := Hu4.set gS R S2 (Hu4.get gS S2 (by simp)) (by omega) (fun p hp => by simp at hp; rcases hp with rfl | rfl | rfl <;> first | exact .inl rfl | exact .inr ⟨by simp, by simp only; omega⟩)
    generalize wu3.setRow gS R = W9 at *
    have hl5 := HS9.load gS R (by simp) IR
    go_wp2_with (first | (refine wpList_run rfl _ (exec_load_of _ 24 (.tmp 5) rfl ⟨gS, 0, none⟩ rfl (.agg R) hl5) ?_) | (refine wpList_run0 rfl (exec_store_kn (w0 := w) (l := [(w.heap.size, A), (w.heap.size + 1, Z), (gS, R)]) _ HS9 (.tmp 4) (.tmp 25) rfl (w.heap.size + 1) rfl R IR rfl Z IZ (by simp)) ?_))
    have HSZ : Kn w [(w.heap.size + 1, R)] (World.setRow _ (w.heap.size + 1) R) := HS9.set (w.heap.size + 1) R Z (HS9.get (w.heap.size + 1) Z (by simp)) (by omega) (fun p hp => by simp at hp; subst hp; simp)
    exact bodyPost_ret (results_cell rfl _ _ _ ⟨w.heap.size + 1, 0, none⟩ rfl _ (HSZ.load (w.heap.size + 1) R (by simp) IR)) rfl ⟨rfl, HSZ.1⟩
end Go.Proofs.YtfcnfcolhahghaaDoor
