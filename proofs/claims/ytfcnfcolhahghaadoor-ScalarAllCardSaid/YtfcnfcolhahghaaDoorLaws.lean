/- The law ScalarLaws walked: it returns true at any four numbers, and no memory that was there is changed. No condition but that they have 256 bits, and that the order stands in memory. -/
import Derived.Test.YtfcnfcolhahghaaDoorAwake
namespace Go.Proofs.YtfcnfcolhahghaaDoor
open Go.RowKit Go.Shelf
set_option linter.unusedVariables false
set_option linter.unusedSimpArgs false
theorem enters17 : ∀ args w, (callFunc 17 args).run Tryd.prog w = .ok (.enter 17 args) w := enters_of Tryd.func17 (by kernel_rfl) rfl
theorem enters7 : ∀ args w, (callFunc 7 args).run Tryd.prog w = .ok (.enter 7 args) w := enters_of Tryd.func7 (by kernel_rfl) rfl
/-- A store over a whole number, the operation named first. -/
theorem exec_store_kh {ρ : Operand → Value} {o : Oper} (x y : Operand) (ho : o.op = .store 24 x y) {w0 : World} (w : World) {l : List (Nat × Array Value)} (h : Kn w0 l w) (g : Nat) (hx : ρ x = .pointer (some ⟨g, 0, none⟩)) (A : Array Value) (hA : IsNum A) (hy : ρ y = .agg A)
    (B : Array Value) (hB : IsNum B) (hm : (g, B) ∈ l) : (execOp ρ o).run Tryd.prog w = .ok .skip (w.setRow g A) := exec_store_kn w h x y ho g hx A hA hy B hB hm
theorem exec_eqA {ρ : Operand → Value} {o : Oper} (x y : Operand) (ho : o.op = .binOp .eql 24 x y 24) (A : Array Value) (hA : IsNum A) (hx : ρ x = .agg A) (hy : ρ y = .agg A) (w : World) :
    (execOp ρ o).run Tryd.prog w = .ok (.value (.bool true)) w := by
  obtain ⟨f, rfl⟩ := hA
  unfold execOp
  rw [ho]
  simp only [hx, hy]
  have hl : (rowOf .u64 4 f).toArray = #[.int .u64 (f 0 : Int), .int .u64 (f 1 : Int), .int .u64 (f 2 : Int), .int .u64 (f 3 : Int)] := rfl
  have h := eq24 (f 0) (f 1) (f 2) (f 3) (f 0) (f 1) (f 2) (f 3) w
  simp only [decide_true, Bool.and_self] at h
  go_simp
theorem muladdL_lt (a b c : Nat) : muladdL a b c < LL := Nat.mod_lt _ LL_pos
theorem muladdL_comm (a b c : Nat) : muladdL b a c = muladdL a b c := by unfold muladdL; rw [Nat.mul_comm]
theorem muladdL_through (a b c d : Nat) : muladdL a b (muladdL a c d) = muladdL a (muladdL b 1 c) d := by
  unfold muladdL
  rw [Nat.add_mod_mod, Nat.add_mod (a * ((b * 1 + c) % LL)) d, Nat.mul_mod_mod, ← Nat.add_mod, Nat.mul_one, Nat.mul_add, Nat.add_assoc]
theorem muladdL_order (a c : Nat) : muladdL a LL c = c % LL := by unfold muladdL; rw [Nat.add_comm, Nat.add_mul_mod_self_right]
theorem muladdL_none (a c : Nat) : muladdL 0 a c = c % LL := by unfold muladdL; rw [Nat.zero_mul, Nat.zero_add]
theorem muladdL_over (a : Nat) : muladdL a 1 LL = a % LL := by unfold muladdL; rw [Nat.mul_one, Nat.add_mod_right]
theorem muladdL_alone (a : Nat) : muladdL a 1 0 = a % LL := by unfold muladdL; rw [Nat.mul_one, Nat.add_zero]
theorem exec_build0 {ρ : Operand → Value} {o : Oper} (ho : o.op = .build 24 #[]) (v : Value) {w : World} (hrun : (Instr.build 24 #[]).run Tryd.prog w = .ok v w) (w2 : World) (hw : w2 = w := by rfl) : (execOp ρ o).run Tryd.prog w2 = .ok (.value v) w2 := by
  subst hw
  unfold execOp
  simp [ho, hrun]
set_option maxRecDepth 100000 in
set_option maxHeartbeats 1000000 in
theorem laws_any (a b c d : Nat) (ha : a < 115792089237316195423570985008687907853269984665640564039457584007913129639936) (hb : b < 115792089237316195423570985008687907853269984665640564039457584007913129639936) (hc : c < 115792089237316195423570985008687907853269984665640564039457584007913129639936) (hd : d < 115792089237316195423570985008687907853269984665640564039457584007913129639936) (w : World) (hG0 : Glob w) :
    Calls Tryd.prog 4 #[.agg (num a), .agg (num b), .agg (num c), .agg (num d)] w fun e w' => e = .returned (.bool true) ∧ Below w.heap.size w w' := by
  have HG := Lib.hid hG0
  have H1 : Hid (∀ w, Glob w → _) := Lib.hid (muladd_any b 1 c hb (by decide) hc)
  have H2 : Hid (∀ w, Glob w → _) := Lib.hid (muladd_any a b c ha hb hc)
  have H3 : Hid (∀ w, Glob w → _) := Lib.hid (muladd_any b a c hb ha hc)
  rw [muladdL_comm] at H3
  have H4 : Hid (∀ w, Glob w → _) := Lib.hid (muladd_any a (muladdL b 1 c) d ha (LL_lt (muladdL_lt _ _ _)) hd)
  have H5 : Hid (∀ w, Glob w → _) := Lib.hid (muladd_any a c d ha hc hd)
  have H6 : Hid (∀ w, Glob w → _) := Lib.hid (muladd_any a b (muladdL a c d) ha hb (LL_lt (muladdL_lt _ _ _)))
  rw [muladdL_through] at H6
  have H7 : Hid (∀ w, Glob w → _) := Lib.hid (muladd_any a LL c ha LL_num hc)
  rw [muladdL_order] at H7
  have H8 : Hid (∀ w, Glob w → _) := Lib.hid (muladd_any 0 a c (by decide) ha hc)
  rw [muladdL_none] at H8
  have H9 : Hid (∀ w, Glob w → _) := Lib.hid (muladd_any a 1 LL ha (by decide) LL_num)
  rw [muladdL_over] at H9
  have H10 : Hid (∀ w, Glob w → _) := Lib.hid (muladd_any a 1 0 ha (by decide) (by decide))
  rw [muladdL_alone] at H10
  have H11 := Lib.hid (less_any (muladdL b 1 c) LL (LL_lt (muladdL_lt _ _ _)) LL_num)
  rw [show decide (muladdL b 1 c < LL) = true from decide_eq_true (muladdL_lt _ _ _)] at H11
  have H12 : Hid (∀ w, Glob w → _) := Lib.hid awake_any
  have HO := Lib.hid order_any
  have hb0 := build0_run
  have hb1 := build_run 1 (by decide)
  clear ha hb hc hd hG0
  obtain ⟨A, hA⟩ : ∃ A, Hid (A = num a) := ⟨_, Lib.hid rfl⟩
  have IA : IsNum A := by rw [hA.out]; exact isNum _
  obtain ⟨B, hB⟩ : ∃ B, Hid (B = num b) := ⟨_, Lib.hid rfl⟩
  have IB : IsNum B := by rw [hB.out]; exact isNum _
  obtain ⟨C, hC⟩ : ∃ C, Hid (C = num c) := ⟨_, Lib.hid rfl⟩
  have IC : IsNum C := by rw [hC.out]; exact isNum _
  obtain ⟨D, hD⟩ : ∃ D, Hid (D = num d) := ⟨_, Lib.hid rfl⟩
  have ID : IsNum D := by rw [hD.out]; exact isNum _
  obtain ⟨S, hS⟩ : ∃ S, Hid (S = num (muladdL b 1 c)) := ⟨_, Lib.hid rfl⟩
  have IS : IsNum S := by rw [hS.out]; exact isNum _
  obtain ⟨M, hM⟩ : ∃ M, Hid (M = num (muladdL a b c)) := ⟨_, Lib.hid rfl⟩
  have IM : IsNum M := by rw [hM.out]; exact isNum _
  obtain ⟨X, hX⟩ : ∃ X, Hid (X = num (muladdL a (muladdL b 1 c) d)) := ⟨_, Lib.hid rfl⟩
  have IX : IsNum X := by rw [hX.out]; exact isNum _
  obtain ⟨Y, hY⟩ : ∃ Y, Hid (Y = num (muladdL a c d)) := ⟨_, Lib.hid rfl⟩
  have IY : IsNum Y := by rw [hY.out]; exact isNum _
  obtain ⟨OL, hOL⟩ : ∃ OL, Hid (OL = num LL) := ⟨_, Lib.hid rfl⟩
  have IOL : IsNum OL := by rw [hOL.out]; exact isNum _
  obtain ⟨NC, hNC⟩ : ∃ NC, Hid (NC = num (c % LL)) := ⟨_, Lib.hid rfl⟩
  have INC : IsNum NC := by rw [hNC.out]; exact isNum _
  obtain ⟨NA, hNA⟩ : ∃ NA, Hid (NA = num (a % LL)) := ⟨_, Lib.hid rfl⟩
  have INA : IsNum NA := by rw [hNA.out]; exact isNum _
  obtain ⟨U1, hU1⟩ : ∃ U1, Hid (U1 = num 1) := ⟨_, Lib.hid rfl⟩
  have IU1 : IsNum U1 := by rw [hU1.out]; exact isNum _
  have HZ := zero_run
  obtain ⟨Z, hZ⟩ : ∃ Z, Hid (Z = num 0) := ⟨_, Lib.hid rfl⟩
  have IZ : IsNum Z := by rw [hZ.out]; exact isNum _
  have IZ2 := IZ.size
  have HZ2 : ∀ w, (zeroValue 24).run Tryd.prog w = .ok (.agg Z) w := by rw [hZ.out]; exact HZ
  clear HZ
  rw [← hB.out, ← hU1.out, ← hC.out, ← hS.out] at H1
  rw [← hA.out, ← hB.out, ← hC.out, ← hM.out] at H2
  rw [← hB.out, ← hA.out, ← hC.out, ← hM.out] at H3
  rw [← hA.out, ← hS.out, ← hD.out, ← hX.out] at H4
  rw [← hA.out, ← hC.out, ← hD.out, ← hY.out] at H5
  rw [← hA.out, ← hB.out, ← hY.out, ← hX.out] at H6
  rw [← hA.out, ← hOL.out, ← hC.out, ← hNC.out] at H7
  rw [← hZ.out, ← hA.out, ← hC.out, ← hNC.out] at H8
  rw [← hA.out, ← hU1.out, ← hOL.out, ← hNA.out] at H9
  rw [← hA.out, ← hU1.out, ← hZ.out, ← hNA.out] at H10
  rw [← hS.out, ← hOL.out] at H11
  rw [← hOL.out] at HO
  rw [← hZ.out] at hb0
  rw [← hU1.out] at hb1
  rw [← hA.out, ← hB.out, ← hC.out, ← hD.out]
  have HB0 := Lib.hid hb0
  have HB1 := Lib.hid hb1
  clear hZ hb0 hb1 hA hB hC hD hS hM hX hY hOL hNC hNA hU1
  have hz4 : ∀ W : World, Kn W [(W.heap.size, A), (W.heap.size + 1, B), (W.heap.size + 1 + 1, C), (W.heap.size + 1 + 1 + 1, D), (W.heap.size + 1 + 1 + 1 + 1, Z), (W.heap.size + 1 + 1 + 1 + 1 + 1, Z)] ((((((W.alloc (.cells A 24)).alloc (.cells B 24)).alloc (.cells C 24)).alloc (.cells D 24)).alloc (.cells Z 24)).alloc (.cells Z 24)) := by
    intro W
    have h := ((((((Kn.nil W).new A).new B).new C).new D).new Z).new Z
    try simp only [World.size_alloc] at h
    exact h.sub (fun p hp => by simp at hp ⊢; rcases hp with h | h | h | h | h | h <;> simp [h])
  have HS := Lib.hid (hz4 w)
  clear hz4
  have HS2 : Hid (Kn w [(w.heap.size, A), (w.heap.size + 1, B), (w.heap.size + 1 + 1, C), (w.heap.size + 1 + 1 + 1, D), (w.heap.size + 1 + 1 + 1 + 1, U1), (w.heap.size + 1 + 1 + 1 + 1 + 1, Z)] ((((((((w.alloc (.cells A 24)).alloc (.cells B 24)).alloc (.cells C 24)).alloc (.cells D 24)).alloc (.cells Z 24)).alloc (.cells Z 24))).setRow (w.heap.size + 1 + 1 + 1 + 1) U1)) := Lib.hid (HS.out.set (w.heap.size + 1 + 1 + 1 + 1) U1 Z (HS.out.get (w.heap.size + 1 + 1 + 1 + 1) Z (by simp)) (by omega) (fun p hp => by simp at hp; rcases hp with rfl | rfl | rfl | rfl | rfl | rfl <;> first | exact .inl rfl | exact .inr ⟨by simp, by simp only; omega⟩))
  have HS3 : Hid (Kn w [(w.heap.size, A), (w.heap.size + 1, B), (w.heap.size + 1 + 1, C), (w.heap.size + 1 + 1 + 1, D), (w.heap.size + 1 + 1 + 1 + 1, U1), (w.heap.size + 1 + 1 + 1 + 1 + 1, Z)] (((((((((w.alloc (.cells A 24)).alloc (.cells B 24)).alloc (.cells C 24)).alloc (.cells D 24)).alloc (.cells Z 24)).alloc (.cells Z 24))).setRow (w.heap.size + 1 + 1 + 1 + 1) U1).setRow (w.heap.size + 1 + 1 + 1 + 1 + 1) Z)) := Lib.hid (HS2.out.set (w.heap.size + 1 + 1 + 1 + 1 + 1) Z Z (HS2.out.get (w.heap.size + 1 + 1 + 1 + 1 + 1) Z (by simp)) (by omega) (fun p hp => by simp at hp; rcases hp with rfl | rfl | rfl | rfl | rfl | rfl <;> first | exact .inl rfl | exact .inr ⟨by simp, by simp only; omega⟩))
  go_enter Tryd.func4, Tryd.ntmps4
  go_upto_region 1 with fail
  try simp only [Act.put, List.setIfInBounds_toArray, List.set_cons_succ, List.set_cons_zero]
  go_upto_region 2 with (refine wpList_run rfl _ (exec_build1 _ 24 0 (.const (.int .u64 1)) rfl (.int .u64 1) rfl _ (HB1.out _)) ?_; refine wpList_run rfl _ (exec_build0 rfl (.agg Z) (HB0.out _) _) ?_; refine wpList_run rfl _ (exec_alloc_agg _ 24 rfl _ (HZ2 _)) ?_; refine wpList_run rfl _ (exec_alloc_agg _ 24 rfl _ (HZ2 _)) ?_; (simp only [World.size_alloc]); refine wpList_run0 rfl (exec_store_kh (.tmp 9) (.tmp 12) rfl (w0 := w) (l := [(w.heap.size, A), (w.heap.size + 1, B), (w.heap.size + 1 + 1, C), (w.heap.size + 1 + 1 + 1, D), (w.heap.size + 1 + 1 + 1 + 1, Z), (w.heap.size + 1 + 1 + 1 + 1 + 1, Z)]) _ HS.out (w.heap.size + 1 + 1 + 1 + 1) rfl U1 IU1 rfl Z IZ (by simp)) ?_; refine wpList_run0 rfl (exec_store_kh (.tmp 10) (.tmp 13) rfl (w0 := w) (l := [(w.heap.size, A), (w.heap.size + 1, B), (w.heap.size + 1 + 1, C), (w.heap.size + 1 + 1 + 1, D), (w.heap.size + 1 + 1 + 1 + 1, U1), (w.heap.size + 1 + 1 + 1 + 1 + 1, Z)]) _ HS2.out (w.heap.size + 1 + 1 + 1 + 1 + 1) rfl Z IZ rfl Z IZ (by simp)) ?_; generalize ((((((((w.alloc (.cells A 24)).alloc (.cells B 24)).alloc (.cells C 24)).alloc (.cells D 24)).alloc (.cells Z 24)).alloc (.cells Z 24))).setRow (w.heap.size + 1 + 1 + 1 + 1) U1).setRow (w.heap.size + 1 + 1 + 1 + 1 + 1) Z = W3 at *)
  try simp only [Act.put, List.setIfInBounds_toArray, List.set_cons_succ, List.set_cons_zero]
  clear HS HS2
  have hl5 := HS3.out.load (w.heap.size + 1) B (by simp) IB
  have hl9 := HS3.out.load (w.heap.size + 1 + 1 + 1 + 1) U1 (by simp) IU1
  have hl6 := HS3.out.load (w.heap.size + 1 + 1) C (by simp) IC
  go_wp2_with (first | (refine wpList_run rfl _ (exec_load_of _ 24 (.tmp 5) rfl ⟨w.heap.size + 1, 0, none⟩ rfl (.agg B) hl5) ?_) | (refine wpList_run rfl _ (exec_load_of _ 24 (.tmp 9) rfl ⟨w.heap.size + 1 + 1 + 1 + 1, 0, none⟩ rfl (.agg U1) hl9) ?_) | (refine wpList_run rfl _ (exec_load_of _ 24 (.tmp 6) rfl ⟨w.heap.size + 1 + 1, 0, none⟩ rfl (.agg C) hl6) ?_))
  clear hl5 hl9 hl6
  refine (H1.out _ (HG.out.kn HS3.out)).mono ?_
  rintro e w4 ⟨rfl, hb⟩
  have HS4 := Lib.hid (HS3.out.below hb)
  clear hb HS3 H1
  have HS5 : Hid (Kn w [(w.heap.size, A), (w.heap.size + 1, B), (w.heap.size + 1 + 1, C), (w.heap.size + 1 + 1 + 1, D), (w.heap.size + 1 + 1 + 1 + 1, U1), (w.heap.size + 1 + 1 + 1 + 1 + 1, Z), (w4.heap.size, S)] (w4.alloc (.cells S 24))) := Lib.hid ((HS4.out.new S).sub (fun p hp => by simp at hp ⊢; rcases hp with rfl | rfl | rfl | rfl | rfl | rfl | rfl <;> simp))
  go_upto_region 3 with (first | ((refine wpList_run rfl _ (exec_alloc_agg _ 24 rfl _ (HZ2 _)) ?_); try simp only [World.size_alloc]) | (refine wpList_run0 rfl (exec_new24 _ (.tmp 11) (.tmp 17) rfl _ _ rfl S IS rfl IZ2) ?_))
  try simp only [Act.put, List.setIfInBounds_toArray, List.set_cons_succ, List.set_cons_zero]
  clear HS4
  generalize w4.alloc (.cells S 24) = W5 at *
  generalize w4.heap.size = gS at *
  go_wp2
  refine wp_nrm ?_
  refine wp_region_any (by kernel_rfl) ?_
  change wpAny _ _ _ _ _ _ _ (World.drew _)
  have HD := HS5.out.drew
  clear HS5
  generalize W5.drew = Wd at *
  refine any_of_F (S := Kn w [(w.heap.size, A), (w.heap.size + 1, B), (w.heap.size + 1 + 1, C), (w.heap.size + 1 + 1 + 1, D), (w.heap.size + 1 + 1 + 1 + 1, U1), (w.heap.size + 1 + 1 + 1 + 1 + 1, Z), (gS, S)]) (f := 1000) _ _ _ _ ?_
  refine AnyF.takeG (by rfl) 0 (some 18) (.load 24 (.tmp 4)) none (.agg A) rfl (by kernel_rfl) (by kernel_rfl) (by kernel_rfl) (fun _ _ _ h => h) rfl (fun o h => by obtain rfl := Option.some.inj h; rfl) (fun o ho w2 hw => exec_load_of _ 24 (.tmp 4) ho ⟨w.heap.size, 0, none⟩ rfl _ (hw.load (w.heap.size) A (by simp) IA)) HD ?_
  simp only [Act.put, List.setIfInBounds_toArray, List.set_cons_succ, List.set_cons_zero]
  refine AnyF.takeG (by rfl) 1 (some 19) (.load 24 (.tmp 5)) none (.agg B) rfl (by kernel_rfl) (by kernel_rfl) (by kernel_rfl) (fun _ _ _ h => h) rfl (fun o h => by obtain rfl := Option.some.inj h; rfl) (fun o ho w2 hw => exec_load_of _ 24 (.tmp 5) ho ⟨w.heap.size + 1, 0, none⟩ rfl _ (hw.load (w.heap.size + 1) B (by simp) IB)) HD ?_
  simp only [Act.put, List.setIfInBounds_toArray, List.set_cons_succ, List.set_cons_zero]
  refine AnyF.takeG (by rfl) 2 (some 20) (.load 24 (.tmp 6)) none (.agg C) rfl (by kernel_rfl) (by kernel_rfl) (by kernel_rfl) (fun _ _ _ h => h) rfl (fun o h => by obtain rfl := Option.some.inj h; rfl) (fun o ho w2 hw => exec_load_of _ 24 (.tmp 6) ho ⟨w.heap.size + 1 + 1, 0, none⟩ rfl _ (hw.load (w.heap.size + 1 + 1) C (by simp) IC)) HD ?_
  simp only [Act.put, List.setIfInBounds_toArray, List.set_cons_succ, List.set_cons_zero]
  refine AnyF.takeG (by rfl) 4 (some 22) (.load 24 (.tmp 5)) none (.agg B) rfl (by kernel_rfl) (by kernel_rfl) (by kernel_rfl) (fun _ _ _ h => h) rfl (fun o h => by obtain rfl := Option.some.inj h; rfl) (fun o ho w2 hw => exec_load_of _ 24 (.tmp 5) ho ⟨w.heap.size + 1, 0, none⟩ rfl _ (hw.load (w.heap.size + 1) B (by simp) IB)) HD ?_
  simp only [Act.put, List.setIfInBounds_toArray, List.set_cons_succ, List.set_cons_zero]
  refine AnyF.takeG (by rfl) 5 (some 23) (.load 24 (.tmp 4)) none (.agg A) rfl (by kernel_rfl) (by kernel_rfl) (by kernel_rfl) (fun _ _ _ h => h) rfl (fun o h => by obtain rfl := Option.some.inj h; rfl) (fun o ho w2 hw => exec_load_of _ 24 (.tmp 4) ho ⟨w.heap.size, 0, none⟩ rfl _ (hw.load (w.heap.size) A (by simp) IA)) HD ?_
  simp only [Act.put, List.setIfInBounds_toArray, List.set_cons_succ, List.set_cons_zero]
  refine AnyF.takeG (by rfl) 6 (some 24) (.load 24 (.tmp 6)) none (.agg C) rfl (by kernel_rfl) (by kernel_rfl) (by kernel_rfl) (fun _ _ _ h => h) rfl (fun o h => by obtain rfl := Option.some.inj h; rfl) (fun o ho w2 hw => exec_load_of _ 24 (.tmp 6) ho ⟨w.heap.size + 1 + 1, 0, none⟩ rfl _ (hw.load (w.heap.size + 1 + 1) C (by simp) IC)) HD ?_
  simp only [Act.put, List.setIfInBounds_toArray, List.set_cons_succ, List.set_cons_zero]
  refine AnyF.ready (rs := [3]) (by kernel_rfl) (by simp) (ReadyF.call (some 21) 12 #[.tmp 18, .tmp 19, .tmp 20] #[24, 24, 24] rfl #[.agg A, .agg B, .agg C] (by simp [Act.eval]) enters12 _ (H2.out _ (HG.out.kn HD)) ?_ (fun c w' h => by cases h.1) (fun w' h => by cases h.1) ReadyF.nil)
  rintro v wt1 ⟨he, hb⟩
  cases he
  have Ht2 := HD.below hb
  clear hb
  refine ⟨Ht2, ?_⟩
  simp only [Act.put, List.setIfInBounds_toArray, List.set_cons_succ, List.set_cons_zero]
  refine AnyF.ready (rs := [7]) (by kernel_rfl) (by simp) (ReadyF.call (some 25) 12 #[.tmp 22, .tmp 23, .tmp 24] #[24, 24, 24] rfl #[.agg B, .agg A, .agg C] (by simp [Act.eval]) enters12 _ (H3.out _ (HG.out.kn Ht2)) ?_ (fun c w' h => by cases h.1) (fun w' h => by cases h.1) ReadyF.nil)
  rintro v wt3 ⟨he, hb⟩
  cases he
  have Ht4 := Ht2.below hb
  clear hb
  refine ⟨Ht4, ?_⟩
  simp only [Act.put, List.setIfInBounds_toArray, List.set_cons_succ, List.set_cons_zero]
  refine AnyF.takeG (by rfl) 8 (some 26) (.binOp .eql 24 (.tmp 21) (.tmp 25) 24) none (.bool true) rfl (by kernel_rfl) (by kernel_rfl) (by kernel_rfl) (fun _ _ _ h => h) rfl (fun o h => by obtain rfl := Option.some.inj h; rfl) (fun o ho w2 hw => exec_eqA (.tmp 21) (.tmp 25) ho M IM rfl rfl w2) Ht4 ?_
  simp only [Act.put, List.setIfInBounds_toArray, List.set_cons_succ, List.set_cons_zero]
  refine AnyF.takeG (by rfl) 9 (some 27) (.move (.tmp 26)) none (.bool true) rfl (by kernel_rfl) (by kernel_rfl) (by kernel_rfl) (fun _ _ _ h => h) rfl (fun o h => by obtain rfl := Option.some.inj h; rfl) (fun o ho w2 hw => exec_move (.tmp 26) ho _ rfl w2) Ht4 ?_
  simp only [Act.put, List.setIfInBounds_toArray, List.set_cons_succ, List.set_cons_zero]
  refine AnyF.takeG (by rfl) 10 (some 28) (.load 24 (.tmp 4)) (some (9, true)) (.agg A) rfl (by kernel_rfl) (by kernel_rfl) (by kernel_rfl) (fun _ _ _ h => h) rfl (fun o h => by obtain rfl := Option.some.inj h; rfl) (fun o ho w2 hw => exec_load_of _ 24 (.tmp 4) ho ⟨w.heap.size, 0, none⟩ rfl _ (hw.load (w.heap.size) A (by simp) IA)) Ht4 ?_
  simp only [Act.put, List.setIfInBounds_toArray, List.set_cons_succ, List.set_cons_zero]
  refine AnyF.takeG (by rfl) 11 (some 29) (.load 24 (.tmp 11)) (some (9, true)) (.agg S) rfl (by kernel_rfl) (by kernel_rfl) (by kernel_rfl) (fun _ _ _ h => h) rfl (fun o h => by obtain rfl := Option.some.inj h; rfl) (fun o ho w2 hw => exec_load_of _ 24 (.tmp 11) ho ⟨gS, 0, none⟩ rfl _ (hw.load (gS) S (by simp) IS)) Ht4 ?_
  simp only [Act.put, List.setIfInBounds_toArray, List.set_cons_succ, List.set_cons_zero]
  refine AnyF.takeG (by rfl) 12 (some 30) (.load 24 (.tmp 7)) (some (9, true)) (.agg D) rfl (by kernel_rfl) (by kernel_rfl) (by kernel_rfl) (fun _ _ _ h => h) rfl (fun o h => by obtain rfl := Option.some.inj h; rfl) (fun o ho w2 hw => exec_load_of _ 24 (.tmp 7) ho ⟨w.heap.size + 1 + 1 + 1, 0, none⟩ rfl _ (hw.load (w.heap.size + 1 + 1 + 1) D (by simp) ID)) Ht4 ?_
  simp only [Act.put, List.setIfInBounds_toArray, List.set_cons_succ, List.set_cons_zero]
  refine AnyF.takeG (by rfl) 14 (some 32) (.load 24 (.tmp 4)) (some (9, true)) (.agg A) rfl (by kernel_rfl) (by kernel_rfl) (by kernel_rfl) (fun _ _ _ h => h) rfl (fun o h => by obtain rfl := Option.some.inj h; rfl) (fun o ho w2 hw => exec_load_of _ 24 (.tmp 4) ho ⟨w.heap.size, 0, none⟩ rfl _ (hw.load (w.heap.size) A (by simp) IA)) Ht4 ?_
  simp only [Act.put, List.setIfInBounds_toArray, List.set_cons_succ, List.set_cons_zero]
  refine AnyF.takeG (by rfl) 15 (some 33) (.load 24 (.tmp 5)) (some (9, true)) (.agg B) rfl (by kernel_rfl) (by kernel_rfl) (by kernel_rfl) (fun _ _ _ h => h) rfl (fun o h => by obtain rfl := Option.some.inj h; rfl) (fun o ho w2 hw => exec_load_of _ 24 (.tmp 5) ho ⟨w.heap.size + 1, 0, none⟩ rfl _ (hw.load (w.heap.size + 1) B (by simp) IB)) Ht4 ?_
  simp only [Act.put, List.setIfInBounds_toArray, List.set_cons_succ, List.set_cons_zero]
  refine AnyF.takeG (by rfl) 16 (some 34) (.load 24 (.tmp 4)) (some (9, true)) (.agg A) rfl (by kernel_rfl) (by kernel_rfl) (by kernel_rfl) (fun _ _ _ h => h) rfl (fun o h => by obtain rfl := Option.some.inj h; rfl) (fun o ho w2 hw => exec_load_of _ 24 (.tmp 4) ho ⟨w.heap.size, 0, none⟩ rfl _ (hw.load (w.heap.size) A (by simp) IA)) Ht4 ?_
  simp only [Act.put, List.setIfInBounds_toArray, List.set_cons_succ, List.set_cons_zero]
  refine AnyF.takeG (by rfl) 17 (some 35) (.load 24 (.tmp 6)) (some (9, true)) (.agg C) rfl (by kernel_rfl) (by kernel_rfl) (by kernel_rfl) (fun _ _ _ h => h) rfl (fun o h => by obtain rfl := Option.some.inj h; rfl) (fun o ho w2 hw => exec_load_of _ 24 (.tmp 6) ho ⟨w.heap.size + 1 + 1, 0, none⟩ rfl _ (hw.load (w.heap.size + 1 + 1) C (by simp) IC)) Ht4 ?_
  simp only [Act.put, List.setIfInBounds_toArray, List.set_cons_succ, List.set_cons_zero]
  refine AnyF.takeG (by rfl) 18 (some 36) (.load 24 (.tmp 7)) (some (9, true)) (.agg D) rfl (by kernel_rfl) (by kernel_rfl) (by kernel_rfl) (fun _ _ _ h => h) rfl (fun o h => by obtain rfl := Option.some.inj h; rfl) (fun o ho w2 hw => exec_load_of _ 24 (.tmp 7) ho ⟨w.heap.size + 1 + 1 + 1, 0, none⟩ rfl _ (hw.load (w.heap.size + 1 + 1 + 1) D (by simp) ID)) Ht4 ?_
  simp only [Act.put, List.setIfInBounds_toArray, List.set_cons_succ, List.set_cons_zero]
  refine AnyF.ready (rs := [13]) (by kernel_rfl) (by simp) (ReadyF.callG (some 31) 12 #[.tmp 28, .tmp 29, .tmp 30] #[24, 24, 24] (some (9, true)) rfl (fun o h => by obtain rfl := Option.some.inj h; rfl) #[.agg A, .agg S, .agg D] (by simp [Act.eval]) enters12 _ (H4.out _ (HG.out.kn Ht4)) ?_ (fun c w' h => by cases h.1) (fun w' h => by cases h.1) ReadyF.nil)
  rintro v wt5 ⟨he, hb⟩
  cases he
  have Ht6 := Ht4.below hb
  clear hb
  refine ⟨Ht6, ?_⟩
  simp only [Act.put, List.setIfInBounds_toArray, List.set_cons_succ, List.set_cons_zero]
  refine AnyF.ready (rs := [19]) (by kernel_rfl) (by simp) (ReadyF.callG (some 37) 12 #[.tmp 34, .tmp 35, .tmp 36] #[24, 24, 24] (some (9, true)) rfl (fun o h => by obtain rfl := Option.some.inj h; rfl) #[.agg A, .agg C, .agg D] (by simp [Act.eval]) enters12 _ (H5.out _ (HG.out.kn Ht6)) ?_ (fun c w' h => by cases h.1) (fun w' h => by cases h.1) ReadyF.nil)
  rintro v wt7 ⟨he, hb⟩
  cases he
  have Ht8 := Ht6.below hb
  clear hb
  refine ⟨Ht8, ?_⟩
  simp only [Act.put, List.setIfInBounds_toArray, List.set_cons_succ, List.set_cons_zero]
  refine AnyF.ready (rs := [20]) (by kernel_rfl) (by simp) (ReadyF.callG (some 38) 12 #[.tmp 32, .tmp 33, .tmp 37] #[24, 24, 24] (some (9, true)) rfl (fun o h => by obtain rfl := Option.some.inj h; rfl) #[.agg A, .agg B, .agg Y] (by simp [Act.eval]) enters12 _ (H6.out _ (HG.out.kn Ht8)) ?_ (fun c w' h => by cases h.1) (fun w' h => by cases h.1) ReadyF.nil)
  rintro v wt9 ⟨he, hb⟩
  cases he
  have Ht10 := Ht8.below hb
  clear hb
  refine ⟨Ht10, ?_⟩
  simp only [Act.put, List.setIfInBounds_toArray, List.set_cons_succ, List.set_cons_zero]
  refine AnyF.takeG (by rfl) 21 (some 39) (.binOp .eql 24 (.tmp 31) (.tmp 38) 24) (some (9, true)) (.bool true) rfl (by kernel_rfl) (by kernel_rfl) (by kernel_rfl) (fun _ _ _ h => h) rfl (fun o h => by obtain rfl := Option.some.inj h; rfl) (fun o ho w2 hw => exec_eqA (.tmp 31) (.tmp 38) ho X IX rfl rfl w2) Ht10 ?_
  simp only [Act.put, List.setIfInBounds_toArray, List.set_cons_succ, List.set_cons_zero]
  refine AnyF.takeG (by rfl) 22 (some 40) (.pick (.tmp 27) (.tmp 39) (.const (.bool false))) none (.bool true) rfl (by kernel_rfl) (by kernel_rfl) (by kernel_rfl) (fun _ _ _ h => h) rfl (fun o h => by obtain rfl := Option.some.inj h; rfl) (fun o ho w2 hw => exec_pickt (.tmp 27) (.tmp 39) (.const (.bool false)) ho rfl _ rfl w2) Ht10 ?_
  simp only [Act.put, List.setIfInBounds_toArray, List.set_cons_succ, List.set_cons_zero]
  refine AnyF.takeG (by rfl) 23 (some 41) (.move (.tmp 40)) none (.bool true) rfl (by kernel_rfl) (by kernel_rfl) (by kernel_rfl) (fun _ _ _ h => h) rfl (fun o h => by obtain rfl := Option.some.inj h; rfl) (fun o ho w2 hw => exec_move (.tmp 40) ho _ rfl w2) Ht10 ?_
  simp only [Act.put, List.setIfInBounds_toArray, List.set_cons_succ, List.set_cons_zero]
  refine AnyF.takeG (by rfl) 24 (some 42) (.load 24 (.tmp 4)) (some (23, true)) (.agg A) rfl (by kernel_rfl) (by kernel_rfl) (by kernel_rfl) (fun _ _ _ h => h) rfl (fun o h => by obtain rfl := Option.some.inj h; rfl) (fun o ho w2 hw => exec_load_of _ 24 (.tmp 4) ho ⟨w.heap.size, 0, none⟩ rfl _ (hw.load (w.heap.size) A (by simp) IA)) Ht10 ?_
  simp only [Act.put, List.setIfInBounds_toArray, List.set_cons_succ, List.set_cons_zero]
  refine AnyF.takeG (by rfl) 26 (some 44) (.load 24 (.tmp 6)) (some (23, true)) (.agg C) rfl (by kernel_rfl) (by kernel_rfl) (by kernel_rfl) (fun _ _ _ h => h) rfl (fun o h => by obtain rfl := Option.some.inj h; rfl) (fun o ho w2 hw => exec_load_of _ 24 (.tmp 6) ho ⟨w.heap.size + 1 + 1, 0, none⟩ rfl _ (hw.load (w.heap.size + 1 + 1) C (by simp) IC)) Ht10 ?_
  simp only [Act.put, List.setIfInBounds_toArray, List.set_cons_succ, List.set_cons_zero]
  refine AnyF.takeG (by rfl) 28 (some 46) (.load 24 (.tmp 10)) (some (23, true)) (.agg Z) rfl (by kernel_rfl) (by kernel_rfl) (by kernel_rfl) (fun _ _ _ h => h) rfl (fun o h => by obtain rfl := Option.some.inj h; rfl) (fun o ho w2 hw => exec_load_of _ 24 (.tmp 10) ho ⟨w.heap.size + 1 + 1 + 1 + 1 + 1, 0, none⟩ rfl _ (hw.load (w.heap.size + 1 + 1 + 1 + 1 + 1) Z (by simp) IZ)) Ht10 ?_
  simp only [Act.put, List.setIfInBounds_toArray, List.set_cons_succ, List.set_cons_zero]
  refine AnyF.takeG (by rfl) 29 (some 47) (.load 24 (.tmp 4)) (some (23, true)) (.agg A) rfl (by kernel_rfl) (by kernel_rfl) (by kernel_rfl) (fun _ _ _ h => h) rfl (fun o h => by obtain rfl := Option.some.inj h; rfl) (fun o ho w2 hw => exec_load_of _ 24 (.tmp 4) ho ⟨w.heap.size, 0, none⟩ rfl _ (hw.load (w.heap.size) A (by simp) IA)) Ht10 ?_
  simp only [Act.put, List.setIfInBounds_toArray, List.set_cons_succ, List.set_cons_zero]
  refine AnyF.takeG (by rfl) 30 (some 48) (.load 24 (.tmp 6)) (some (23, true)) (.agg C) rfl (by kernel_rfl) (by kernel_rfl) (by kernel_rfl) (fun _ _ _ h => h) rfl (fun o h => by obtain rfl := Option.some.inj h; rfl) (fun o ho w2 hw => exec_load_of _ 24 (.tmp 6) ho ⟨w.heap.size + 1 + 1, 0, none⟩ rfl _ (hw.load (w.heap.size + 1 + 1) C (by simp) IC)) Ht10 ?_
  simp only [Act.put, List.setIfInBounds_toArray, List.set_cons_succ, List.set_cons_zero]
  refine AnyF.ready (rs := [25]) (by kernel_rfl) (by simp) (ReadyF.callG (some 43) 16 #[] #[] (some (23, true)) rfl (fun o h => by obtain rfl := Option.some.inj h; rfl) #[] (by simp [Act.eval]) enters16 _ (HO.out _) ?_ (fun c w' h => by cases h.1) (fun w' h => by cases h.1) ReadyF.nil)
  rintro v wt11 ⟨he, hb⟩
  cases he
  have Ht12 := Ht10.below hb
  clear hb
  refine ⟨Ht12, ?_⟩
  simp only [Act.put, List.setIfInBounds_toArray, List.set_cons_succ, List.set_cons_zero]
  refine AnyF.ready (rs := [27]) (by kernel_rfl) (by simp) (ReadyF.callG (some 45) 12 #[.tmp 42, .tmp 43, .tmp 44] #[24, 24, 24] (some (23, true)) rfl (fun o h => by obtain rfl := Option.some.inj h; rfl) #[.agg A, .agg OL, .agg C] (by simp [Act.eval]) enters12 _ (H7.out _ (HG.out.kn Ht12)) ?_ (fun c w' h => by cases h.1) (fun w' h => by cases h.1) ReadyF.nil)
  rintro v wt13 ⟨he, hb⟩
  cases he
  have Ht14 := Ht12.below hb
  clear hb
  refine ⟨Ht14, ?_⟩
  simp only [Act.put, List.setIfInBounds_toArray, List.set_cons_succ, List.set_cons_zero]
  refine AnyF.ready (rs := [31]) (by kernel_rfl) (by simp) (ReadyF.callG (some 49) 12 #[.tmp 46, .tmp 47, .tmp 48] #[24, 24, 24] (some (23, true)) rfl (fun o h => by obtain rfl := Option.some.inj h; rfl) #[.agg Z, .agg A, .agg C] (by simp [Act.eval]) enters12 _ (H8.out _ (HG.out.kn Ht14)) ?_ (fun c w' h => by cases h.1) (fun w' h => by cases h.1) ReadyF.nil)
  rintro v wt15 ⟨he, hb⟩
  cases he
  have Ht16 := Ht14.below hb
  clear hb
  refine ⟨Ht16, ?_⟩
  simp only [Act.put, List.setIfInBounds_toArray, List.set_cons_succ, List.set_cons_zero]
  refine AnyF.takeG (by rfl) 32 (some 50) (.binOp .eql 24 (.tmp 45) (.tmp 49) 24) (some (23, true)) (.bool true) rfl (by kernel_rfl) (by kernel_rfl) (by kernel_rfl) (fun _ _ _ h => h) rfl (fun o h => by obtain rfl := Option.some.inj h; rfl) (fun o ho w2 hw => exec_eqA (.tmp 45) (.tmp 49) ho NC INC rfl rfl w2) Ht16 ?_
  simp only [Act.put, List.setIfInBounds_toArray, List.set_cons_succ, List.set_cons_zero]
  refine AnyF.takeG (by rfl) 33 (some 51) (.pick (.tmp 41) (.tmp 50) (.const (.bool false))) none (.bool true) rfl (by kernel_rfl) (by kernel_rfl) (by kernel_rfl) (fun _ _ _ h => h) rfl (fun o h => by obtain rfl := Option.some.inj h; rfl) (fun o ho w2 hw => exec_pickt (.tmp 41) (.tmp 50) (.const (.bool false)) ho rfl _ rfl w2) Ht16 ?_
  simp only [Act.put, List.setIfInBounds_toArray, List.set_cons_succ, List.set_cons_zero]
  refine AnyF.takeG (by rfl) 34 (some 52) (.move (.tmp 51)) none (.bool true) rfl (by kernel_rfl) (by kernel_rfl) (by kernel_rfl) (fun _ _ _ h => h) rfl (fun o h => by obtain rfl := Option.some.inj h; rfl) (fun o ho w2 hw => exec_move (.tmp 51) ho _ rfl w2) Ht16 ?_
  simp only [Act.put, List.setIfInBounds_toArray, List.set_cons_succ, List.set_cons_zero]
  refine AnyF.takeG (by rfl) 35 (some 53) (.load 24 (.tmp 4)) (some (34, true)) (.agg A) rfl (by kernel_rfl) (by kernel_rfl) (by kernel_rfl) (fun _ _ _ h => h) rfl (fun o h => by obtain rfl := Option.some.inj h; rfl) (fun o ho w2 hw => exec_load_of _ 24 (.tmp 4) ho ⟨w.heap.size, 0, none⟩ rfl _ (hw.load (w.heap.size) A (by simp) IA)) Ht16 ?_
  simp only [Act.put, List.setIfInBounds_toArray, List.set_cons_succ, List.set_cons_zero]
  refine AnyF.takeG (by rfl) 36 (some 54) (.load 24 (.tmp 9)) (some (34, true)) (.agg U1) rfl (by kernel_rfl) (by kernel_rfl) (by kernel_rfl) (fun _ _ _ h => h) rfl (fun o h => by obtain rfl := Option.some.inj h; rfl) (fun o ho w2 hw => exec_load_of _ 24 (.tmp 9) ho ⟨w.heap.size + 1 + 1 + 1 + 1, 0, none⟩ rfl _ (hw.load (w.heap.size + 1 + 1 + 1 + 1) U1 (by simp) IU1)) Ht16 ?_
  simp only [Act.put, List.setIfInBounds_toArray, List.set_cons_succ, List.set_cons_zero]
  refine AnyF.takeG (by rfl) 39 (some 57) (.load 24 (.tmp 4)) (some (34, true)) (.agg A) rfl (by kernel_rfl) (by kernel_rfl) (by kernel_rfl) (fun _ _ _ h => h) rfl (fun o h => by obtain rfl := Option.some.inj h; rfl) (fun o ho w2 hw => exec_load_of _ 24 (.tmp 4) ho ⟨w.heap.size, 0, none⟩ rfl _ (hw.load (w.heap.size) A (by simp) IA)) Ht16 ?_
  simp only [Act.put, List.setIfInBounds_toArray, List.set_cons_succ, List.set_cons_zero]
  refine AnyF.takeG (by rfl) 40 (some 58) (.load 24 (.tmp 9)) (some (34, true)) (.agg U1) rfl (by kernel_rfl) (by kernel_rfl) (by kernel_rfl) (fun _ _ _ h => h) rfl (fun o h => by obtain rfl := Option.some.inj h; rfl) (fun o ho w2 hw => exec_load_of _ 24 (.tmp 9) ho ⟨w.heap.size + 1 + 1 + 1 + 1, 0, none⟩ rfl _ (hw.load (w.heap.size + 1 + 1 + 1 + 1) U1 (by simp) IU1)) Ht16 ?_
  simp only [Act.put, List.setIfInBounds_toArray, List.set_cons_succ, List.set_cons_zero]
  refine AnyF.takeG (by rfl) 41 (some 59) (.load 24 (.tmp 10)) (some (34, true)) (.agg Z) rfl (by kernel_rfl) (by kernel_rfl) (by kernel_rfl) (fun _ _ _ h => h) rfl (fun o h => by obtain rfl := Option.some.inj h; rfl) (fun o ho w2 hw => exec_load_of _ 24 (.tmp 10) ho ⟨w.heap.size + 1 + 1 + 1 + 1 + 1, 0, none⟩ rfl _ (hw.load (w.heap.size + 1 + 1 + 1 + 1 + 1) Z (by simp) IZ)) Ht16 ?_
  simp only [Act.put, List.setIfInBounds_toArray, List.set_cons_succ, List.set_cons_zero]
  refine AnyF.ready (rs := [37]) (by kernel_rfl) (by simp) (ReadyF.callG (some 55) 16 #[] #[] (some (34, true)) rfl (fun o h => by obtain rfl := Option.some.inj h; rfl) #[] (by simp [Act.eval]) enters16 _ (HO.out _) ?_ (fun c w' h => by cases h.1) (fun w' h => by cases h.1) ReadyF.nil)
  rintro v wt17 ⟨he, hb⟩
  cases he
  have Ht18 := Ht16.below hb
  clear hb
  refine ⟨Ht18, ?_⟩
  simp only [Act.put, List.setIfInBounds_toArray, List.set_cons_succ, List.set_cons_zero]
  refine AnyF.ready (rs := [38]) (by kernel_rfl) (by simp) (ReadyF.callG (some 56) 12 #[.tmp 53, .tmp 54, .tmp 55] #[24, 24, 24] (some (34, true)) rfl (fun o h => by obtain rfl := Option.some.inj h; rfl) #[.agg A, .agg U1, .agg OL] (by simp [Act.eval]) enters12 _ (H9.out _ (HG.out.kn Ht18)) ?_ (fun c w' h => by cases h.1) (fun w' h => by cases h.1) ReadyF.nil)
  rintro v wt19 ⟨he, hb⟩
  cases he
  have Ht20 := Ht18.below hb
  clear hb
  refine ⟨Ht20, ?_⟩
  simp only [Act.put, List.setIfInBounds_toArray, List.set_cons_succ, List.set_cons_zero]
  refine AnyF.ready (rs := [42]) (by kernel_rfl) (by simp) (ReadyF.callG (some 60) 12 #[.tmp 57, .tmp 58, .tmp 59] #[24, 24, 24] (some (34, true)) rfl (fun o h => by obtain rfl := Option.some.inj h; rfl) #[.agg A, .agg U1, .agg Z] (by simp [Act.eval]) enters12 _ (H10.out _ (HG.out.kn Ht20)) ?_ (fun c w' h => by cases h.1) (fun w' h => by cases h.1) ReadyF.nil)
  rintro v wt21 ⟨he, hb⟩
  cases he
  have Ht22 := Ht20.below hb
  clear hb
  refine ⟨Ht22, ?_⟩
  simp only [Act.put, List.setIfInBounds_toArray, List.set_cons_succ, List.set_cons_zero]
  refine AnyF.takeG (by rfl) 43 (some 61) (.binOp .eql 24 (.tmp 56) (.tmp 60) 24) (some (34, true)) (.bool true) rfl (by kernel_rfl) (by kernel_rfl) (by kernel_rfl) (fun _ _ _ h => h) rfl (fun o h => by obtain rfl := Option.some.inj h; rfl) (fun o ho w2 hw => exec_eqA (.tmp 56) (.tmp 60) ho NA INA rfl rfl w2) Ht22 ?_
  simp only [Act.put, List.setIfInBounds_toArray, List.set_cons_succ, List.set_cons_zero]
  refine AnyF.takeG (by rfl) 44 (some 62) (.pick (.tmp 52) (.tmp 61) (.const (.bool false))) none (.bool true) rfl (by kernel_rfl) (by kernel_rfl) (by kernel_rfl) (fun _ _ _ h => h) rfl (fun o h => by obtain rfl := Option.some.inj h; rfl) (fun o ho w2 hw => exec_pickt (.tmp 52) (.tmp 61) (.const (.bool false)) ho rfl _ rfl w2) Ht22 ?_
  simp only [Act.put, List.setIfInBounds_toArray, List.set_cons_succ, List.set_cons_zero]
  refine AnyF.takeG (by rfl) 45 (some 63) (.move (.tmp 62)) none (.bool true) rfl (by kernel_rfl) (by kernel_rfl) (by kernel_rfl) (fun _ _ _ h => h) rfl (fun o h => by obtain rfl := Option.some.inj h; rfl) (fun o ho w2 hw => exec_move (.tmp 62) ho _ rfl w2) Ht22 ?_
  simp only [Act.put, List.setIfInBounds_toArray, List.set_cons_succ, List.set_cons_zero]
  refine AnyF.takeG (by rfl) 46 (some 64) (.load 24 (.tmp 11)) (some (45, true)) (.agg S) rfl (by kernel_rfl) (by kernel_rfl) (by kernel_rfl) (fun _ _ _ h => h) rfl (fun o h => by obtain rfl := Option.some.inj h; rfl) (fun o ho w2 hw => exec_load_of _ 24 (.tmp 11) ho ⟨gS, 0, none⟩ rfl _ (hw.load (gS) S (by simp) IS)) Ht22 ?_
  simp only [Act.put, List.setIfInBounds_toArray, List.set_cons_succ, List.set_cons_zero]
  refine AnyF.ready (rs := [47]) (by kernel_rfl) (by simp) (ReadyF.callG (some 65) 16 #[] #[] (some (45, true)) rfl (fun o h => by obtain rfl := Option.some.inj h; rfl) #[] (by simp [Act.eval]) enters16 _ (HO.out _) ?_ (fun c w' h => by cases h.1) (fun w' h => by cases h.1) ReadyF.nil)
  rintro v wt23 ⟨he, hb⟩
  cases he
  have Ht24 := Ht22.below hb
  clear hb
  refine ⟨Ht24, ?_⟩
  simp only [Act.put, List.setIfInBounds_toArray, List.set_cons_succ, List.set_cons_zero]
  refine AnyF.ready (rs := [48]) (by kernel_rfl) (by simp) (ReadyF.callG (some 66) 17 #[.tmp 64, .tmp 65] #[24, 24] (some (45, true)) rfl (fun o h => by obtain rfl := Option.some.inj h; rfl) #[.agg S, .agg OL] (by simp [Act.eval]) enters17 _ (H11.out _) ?_ (fun c w' h => by cases h.1) (fun w' h => by cases h.1) ReadyF.nil)
  rintro v wt25 ⟨he, hb⟩
  cases he
  have Ht26 := Ht24.below hb
  clear hb
  refine ⟨Ht26, ?_⟩
  simp only [Act.put, List.setIfInBounds_toArray, List.set_cons_succ, List.set_cons_zero]
  refine AnyF.takeG (by rfl) 49 (some 67) (.pick (.tmp 63) (.tmp 66) (.const (.bool false))) none (.bool true) rfl (by kernel_rfl) (by kernel_rfl) (by kernel_rfl) (fun _ _ _ h => h) rfl (fun o h => by obtain rfl := Option.some.inj h; rfl) (fun o ho w2 hw => exec_pickt (.tmp 63) (.tmp 66) (.const (.bool false)) ho rfl _ rfl w2) Ht26 ?_
  simp only [Act.put, List.setIfInBounds_toArray, List.set_cons_succ, List.set_cons_zero]
  refine AnyF.takeG (by rfl) 50 (some 68) (.move (.tmp 67)) none (.bool true) rfl (by kernel_rfl) (by kernel_rfl) (by kernel_rfl) (fun _ _ _ h => h) rfl (fun o h => by obtain rfl := Option.some.inj h; rfl) (fun o ho w2 hw => exec_move (.tmp 67) ho _ rfl w2) Ht26 ?_
  simp only [Act.put, List.setIfInBounds_toArray, List.set_cons_succ, List.set_cons_zero]
  refine AnyF.ready (rs := [51]) (by kernel_rfl) (by simp) (ReadyF.callG (some 69) 7 #[] #[] (some (50, true)) rfl (fun o h => by obtain rfl := Option.some.inj h; rfl) #[] (by simp [Act.eval]) enters7 _ (H12.out _ (HG.out.kn Ht26)) ?_ (fun c w' h => by cases h.1) (fun w' h => by cases h.1) ReadyF.nil)
  rintro v wt27 ⟨he, hb⟩
  cases he
  have Ht28 := Ht26.below hb
  clear hb
  refine ⟨Ht28, ?_⟩
  simp only [Act.put, List.setIfInBounds_toArray, List.set_cons_succ, List.set_cons_zero]
  refine AnyF.takeG (by rfl) 52 (some 70) (.pick (.tmp 68) (.tmp 69) (.const (.bool false))) none (.bool true) rfl (by kernel_rfl) (by kernel_rfl) (by kernel_rfl) (fun _ _ _ h => h) rfl (fun o h => by obtain rfl := Option.some.inj h; rfl) (fun o ho w2 hw => exec_pickt (.tmp 68) (.tmp 69) (.const (.bool false)) ho rfl _ rfl w2) Ht28 ?_
  simp only [Act.put, List.setIfInBounds_toArray, List.set_cons_succ, List.set_cons_zero]
  refine AnyF.takeG (by rfl) 53 (some 8) (.assign (.tmp 70)) none (.bool true) rfl (by kernel_rfl) (by kernel_rfl) (by kernel_rfl) (fun _ _ _ h => h) rfl (fun o h => by obtain rfl := Option.some.inj h; rfl) (fun o ho w2 hw => exec_assign (.tmp 70) ho _ rfl w2) Ht28 ?_
  simp only [Act.put, List.setIfInBounds_toArray, List.set_cons_succ, List.set_cons_zero]
  refine AnyF.done (by kernel_rfl) ?_ _
  refine nrm_intro ?_
  go_wp2
  go_ret
  exact ⟨rfl, Ht28.1⟩
end Go.Proofs.YtfcnfcolhahghaaDoor
