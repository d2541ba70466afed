/- The law FieldAll walked: it returns true at any two numbers of 256 bits and any text, and no memory that was there is changed. The number turn is as the program lays it. -/
import Derived.Test.YtkkgeljcgebegaaDoorRBytes
import Derived.Test.YtkkgeljcgebegaaDoorRoot
import Derived.Test.YtkkgeljcgebegaaDoorAwake
namespace Go.Proofs.YtkkgeljcgebegaaDoor
open Go.RowKit Go.Shelf
set_option linter.unusedVariables false
set_option linter.unusedSimpArgs false
theorem ea6 : ∀ args w, (callFunc 6 args).run Tryd.prog w = .ok (.enter 6 args) w := enters_of Tryd.func6 (by kernel_rfl) rfl
theorem ea13 : ∀ args w, (callFunc 13 args).run Tryd.prog w = .ok (.enter 13 args) w := enters_of Tryd.func13 (by kernel_rfl) rfl
theorem ea14 : ∀ args w, (callFunc 14 args).run Tryd.prog w = .ok (.enter 14 args) w := enters_of Tryd.func14 (by kernel_rfl) rfl
theorem ea15 : ∀ args w, (callFunc 15 args).run Tryd.prog w = .ok (.enter 15 args) w := enters_of Tryd.func15 (by kernel_rfl) rfl
theorem ea16 : ∀ args w, (callFunc 16 args).run Tryd.prog w = .ok (.enter 16 args) w := enters_of Tryd.func16 (by kernel_rfl) rfl
theorem ea17 : ∀ args w, (callFunc 17 args).run Tryd.prog w = .ok (.enter 17 args) w := enters_of Tryd.func17 (by kernel_rfl) rfl
theorem ea18 : ∀ args w, (callFunc 18 args).run Tryd.prog w = .ok (.enter 18 args) w := enters_of Tryd.func18 (by kernel_rfl) rfl
theorem ea19 : ∀ args w, (callFunc 19 args).run Tryd.prog w = .ok (.enter 19 args) w := enters_of Tryd.func19 (by kernel_rfl) rfl
theorem ea20 : ∀ args w, (callFunc 20 args).run Tryd.prog w = .ok (.enter 20 args) w := enters_of Tryd.func20 (by kernel_rfl) rfl
theorem ea21 : ∀ args w, (callFunc 21 args).run Tryd.prog w = .ok (.enter 21 args) w := enters_of Tryd.func21 (by kernel_rfl) rfl
theorem ea22 : ∀ args w, (callFunc 22 args).run Tryd.prog w = .ok (.enter 22 args) w := enters_of Tryd.func22 (by kernel_rfl) rfl
theorem ea12 : ∀ args w, (callFunc 12 args).run Tryd.prog w = .ok (.enter 12 args) w := enters_of Tryd.func12 (by kernel_rfl) rfl
theorem ea11 : ∀ args w, (callFunc 11 args).run Tryd.prog w = .ok (.enter 11 args) w := enters_of Tryd.func11 (by kernel_rfl) rfl
theorem exec_eqAA {ρ : Operand → Value} {o : Oper} (x y : Operand) (ho : o.op = .binOp .eql 24 x y 24) (A : Array Value) (hA : IsNum A) (hx : ρ x = .agg A) (hy : ρ y = .agg A) (w : World) :
    (execOp ρ o).run Tryd.prog w = .ok (.value (.bool true)) w := by
  obtain ⟨f, rfl⟩ := hA
  unfold execOp
  rw [ho]
  simp only [hx, hy]
  have hl : (rowOf .u64 4 f).toArray = #[.int .u64 (f 0 : Int), .int .u64 (f 1 : Int), .int .u64 (f 2 : Int), .int .u64 (f 3 : Int)] := rfl
  have h := eq24 (f 0) (f 1) (f 2) (f 3) (f 0) (f 1) (f 2) (f 3) w
  simp only [decide_true, Bool.and_self] at h
  go_simp
theorem exec_eqBB {ρ : Operand → Value} {o : Oper} (x y : Operand) (ho : o.op = .binOp .eql 4 x y 4) (b : Bool) (hx : ρ x = .bool b) (hy : ρ y = .bool b) (w : World) :
    (execOp ρ o).run Tryd.prog w = .ok (.value (.bool true)) w := by
  unfold execOp
  rw [ho]
  simp only [hx, hy]
  cases b <;> go_simp
theorem exec_eqSS {ρ : Operand → Value} {o : Oper} (x y : Operand) (ho : o.op = .binOp .eql 9 x y 9) (b : ByteArray) (hx : ρ x = .string b) (hy : ρ y = .string b) (w : World) :
    (execOp ρ o).run Tryd.prog w = .ok (.value (.bool true)) w := by
  unfold execOp
  rw [ho]
  simp only [hx, hy]
  go_simp
theorem exec_field29_0 {ρ : Operand → Value} {o : Oper} (x : Operand) (ho : o.op = .fieldAddr 29 x 0) (b : Nat) (hx : ρ x = .pointer (some ⟨b, 0, none⟩)) (w : World) : (execOp ρ o).run Tryd.prog w = .ok (.value (.pointer (some ⟨b, 0, none⟩))) w := by
  unfold execOp
  simp only [ho, hx]
  kernel_rfl
theorem exec_field29_1 {ρ : Operand → Value} {o : Oper} (x : Operand) (ho : o.op = .fieldAddr 29 x 1) (b : Nat) (hx : ρ x = .pointer (some ⟨b, 0, none⟩)) (w : World) : (execOp ρ o).run Tryd.prog w = .ok (.value (.pointer (some ⟨b, 4, none⟩))) w := by
  unfold execOp
  simp only [ho, hx]
  kernel_rfl
theorem got_num {W : World} {g : Nat} {G A : Array Value} {f : Nat → Nat} {b : Bool} (hG : Hid (G = gotV f b)) (hA : Hid (A = (rowOf .u64 4 f).toArray)) {t : TypeId} (hg : W.heap[g]? = some (.cells G t (0, 0))) : (loadVar 24 ⟨g, 0, none⟩).run Tryd.prog W = .ok (.agg A) W := by
  rw [hA.out]
  refine run_loadVar_seg W 24 g 0 (rowOf .u64 4 f) _ (fun j v hv => ?_) Tryd.underlying24 rfl (size24 f)
  rw [Nat.zero_add, cell_of_row W g j _ t (0, 0) hg, hG.out, gotV, List.getElem?_toArray, List.getElem?_append_left (by have := (List.getElem?_eq_some_iff.1 hv).1; exact this), hv]
theorem got_bool {W : World} {g : Nat} {G : Array Value} {f : Nat → Nat} {b : Bool} (hG : Hid (G = gotV f b)) {t : TypeId} (hg : W.heap[g]? = some (.cells G t (0, 0))) : W.cell? ⟨g, 4, none⟩ = some (.bool b) := by
  rw [cell_of_row W g 4 _ t (0, 0) hg, hG.out, gotV, List.getElem?_toArray, List.getElem?_append_right (by rw [rowOf_length]; omega), rowOf_length]
  rfl
theorem exec_new29 {ρ : Operand → Value} {o : Oper} (w : World) (x y : Operand) (ho : o.op = .store 29 x y) (c : Array Value) (t : TypeId) (hx : ρ x = .pointer (some ⟨w.heap.size, 0, none⟩)) (A : Array Value) (hA : IsGot A) (hy : ρ y = .agg A) (h5 : c.size = 5) :
    (execOp ρ o).run Tryd.prog (w.alloc (.cells c t)) = .ok .skip (w.alloc (.cells A t)) := by
  obtain ⟨f, b, rfl⟩ := hA
  exact exec_store_new w 29 x y ho c t hx (rowOf .u64 4 f ++ [Value.bool b]) hy (by rw [gotL]; exact h5) (gotOne f b) (size29 f b)
set_option maxRecDepth 100000 in
set_option maxHeartbeats 4000000 in
theorem all_law (a b : Nat) (s : ByteArray) (ha : a < 115792089237316195423570985008687907853269984665640564039457584007913129639936) (hb : b < 115792089237316195423570985008687907853269984665640564039457584007913129639936) (hs : s.size ≤ maxLen) (w : World) (hG0 : Glob w) :
    Calls Tryd.prog 3 #[.agg (num a), .agg (num b), .string s] w fun e w' => e = .returned (.bool true) ∧ Below w.heap.size w w' := by
  unfold maxLen at hs
  have hs2 : s.size ≤ 9223372036854775807 := by omega
  have hG := Lib.hid hG0
  have H1 : Hid (∀ W, Glob W → Calls Tryd.prog 7 #[.agg (num a)] W fun e w' => e = .returned (.tuple #[.agg (num (rootF a).1), .bool (rootF a).2]) ∧ Below W.heap.size W w') := Lib.hid (fun W h => root_any a ha W h)
  have H2 := Lib.hid (rroot_any a ha)
  have H3 := Lib.hid (from_any s hs2)
  have H4 := Lib.hid (rfrom_any s hs2)
  have H5 := Lib.hid (norm_any a ha)
  have H6 := Lib.hid (rnorm_any a ha)
  have H7 := Lib.hid (addf_any a b ha hb)
  have H8 := Lib.hid (radd_any a b ha hb)
  have H9 := Lib.hid (subf_any a b ha hb)
  have H10 := Lib.hid (rsub_any a b ha hb)
  have H11 := Lib.hid (mulf_any a b ha hb)
  have H12 := Lib.hid (rmulf_any a b ha hb)
  have H13 := Lib.hid (inv_any a ha)
  have H14 := Lib.hid (rinv_any a ha)
  have H15 := Lib.hid (bytes_any a ha)
  have H16 := Lib.hid (rbytes_any a ha)
  have H17 := Lib.hid awake_any
  have HZ := zero_run
  generalize (rootF a).2 = rb at *
  generalize (fromF s.data.toList).2 = fb at *
  obtain ⟨SB, hSB⟩ : ∃ SB : ByteArray, Hid (SB = ⟨(bytesN (a % pp)).toArray⟩) := ⟨_, Lib.hid rfl⟩
  rw [← hSB.out] at H15 H16
  obtain ⟨A, hA⟩ : ∃ A, Hid (A = num a) := ⟨_, Lib.hid rfl⟩
  have IA : IsNum A := by rw [hA.out]; exact isNum _
  obtain ⟨B, hB⟩ : ∃ B, Hid (B = num b) := ⟨_, Lib.hid rfl⟩
  have IB : IsNum B := by rw [hB.out]; exact isNum _
  obtain ⟨X, hX⟩ : ∃ X, Hid (X = num (rootF a).1) := ⟨_, Lib.hid rfl⟩
  have IX : IsNum X := by rw [hX.out]; exact isNum _
  obtain ⟨FN, hFN⟩ : ∃ FN, Hid (FN = num (fromF s.data.toList).1) := ⟨_, Lib.hid rfl⟩
  have IFN : IsNum FN := by rw [hFN.out]; exact isNum _
  obtain ⟨N, hN⟩ : ∃ N, Hid (N = num (a % pp)) := ⟨_, Lib.hid rfl⟩
  have IN : IsNum N := by rw [hN.out]; exact isNum _
  obtain ⟨S, hS⟩ : ∃ S, Hid (S = num (addF a b)) := ⟨_, Lib.hid rfl⟩
  have IS : IsNum S := by rw [hS.out]; exact isNum _
  obtain ⟨D, hD⟩ : ∃ D, Hid (D = num (subF a b)) := ⟨_, Lib.hid rfl⟩
  have ID : IsNum D := by rw [hD.out]; exact isNum _
  obtain ⟨M, hM⟩ : ∃ M, Hid (M = num (mulF a b)) := ⟨_, Lib.hid rfl⟩
  have IM : IsNum M := by rw [hM.out]; exact isNum _
  obtain ⟨I, hI⟩ : ∃ I, Hid (I = num (invF a)) := ⟨_, Lib.hid rfl⟩
  have II : IsNum I := by rw [hI.out]; exact isNum _
  obtain ⟨Z, hZ⟩ : ∃ Z, Hid (Z = num 0) := ⟨_, Lib.hid rfl⟩
  have IZ : IsNum Z := by rw [hZ.out]; exact isNum _
  obtain ⟨ZG, hZG⟩ : ∃ ZG, Hid (ZG = gotV (fun _ => 0) false) := ⟨_, Lib.hid rfl⟩
  have IZG : IsGot ZG := by rw [hZG.out]; exact ⟨_, _, rfl⟩
  obtain ⟨GR, hGR⟩ : ∃ GR, Hid (GR = gotV (dig (rootF a).1) rb) := ⟨_, Lib.hid rfl⟩
  have IGR : IsGot GR := by rw [hGR.out]; exact ⟨_, _, rfl⟩
  obtain ⟨GF, hGF⟩ : ∃ GF, Hid (GF = gotV (dig (fromF s.data.toList).1) fb) := ⟨_, Lib.hid rfl⟩
  have IGF : IsGot GF := by rw [hGF.out]; exact ⟨_, _, rfl⟩
  rw [← hA.out, ← hX.out] at H1
  rw [← hA.out, ← hGR.out] at H2
  rw [← hFN.out] at H3
  rw [← hGF.out] at H4
  rw [← hA.out, ← hN.out] at H5
  rw [← hA.out, ← hN.out] at H6
  rw [← hA.out, ← hB.out, ← hS.out] at H7
  rw [← hA.out, ← hB.out, ← hS.out] at H8
  rw [← hA.out, ← hB.out, ← hD.out] at H9
  rw [← hA.out, ← hB.out, ← hD.out] at H10
  rw [← hA.out, ← hB.out, ← hM.out] at H11
  rw [← hA.out, ← hB.out, ← hM.out] at H12
  rw [← hA.out, ← hI.out] at H13
  rw [← hA.out, ← hI.out] at H14
  rw [← hA.out] at H15
  rw [← hA.out] at H16
  have hX2 : Hid (X = (rowOf .u64 4 (dig (rootF a).1)).toArray) := hX
  have hFN2 : Hid (FN = (rowOf .u64 4 (dig (fromF s.data.toList).1)).toArray) := hFN
  have HZ2 : ∀ w, (zeroValue 24).run Tryd.prog w = .ok (.agg Z) w := by rw [hZ.out]; exact HZ
  have IZ2 := IZ.size
  have HZG : ∀ w, (zeroValue 29).run Tryd.prog w = .ok (.agg ZG) w := by rw [hZG.out]; exact zero29
  have SZG := IZG.size
  rw [← hA.out, ← hB.out]
  clear HZ ha hb hA hB hX hFN hN hS hD hM hI hZ hZG hSB hs2 hG0
  have hz4 : ∀ W : World, Kt W [(W.heap.size, A, 24), (W.heap.size + 1, B, 24)] ((W.alloc (.cells A 24)).alloc (.cells B 24)) := by
    intro W
    have h := (((Kt.nil W).new A 24).new B 24)
    try simp only [World.size_alloc] at h
    exact h.sub (fun p hp => by simp at hp ⊢; rcases hp with h | h <;> simp [h])
  have HS := Lib.hid (hz4 w)
  clear hz4
  go_enter Tryd.func3, Tryd.ntmps3
  go_upto_region 1 with fail
  try simp only [Act.put, List.setIfInBounds_toArray, List.set_cons_succ, List.set_cons_zero]
  generalize (w.alloc (.cells A 24)).alloc (.cells B 24) = W0 at *
  by_cases hlong : 60 < s.size
  · have hlI : (60 : Int) < (s.size : Int) := by omega
    go_wp2_with fail
    refine (H17.out _).mono ?_
    rintro e w1 ⟨rfl, hb⟩
    have HS1 := Lib.hid (HS.out.below hb)
    clear hb
    go_wp2
    go_ret
    exact ⟨rfl, HS1.out.1⟩
  have hlI : ¬ ((60 : Int) < (s.size : Int)) := by omega
  have hlI2 : (s.size : Int) ≤ 60 := by omega
  have hl1 := loadA IA (HS.out.get (w.heap.size) A 24 (by simp))
  have HC := Lib.hid (H1.out _ (hG.out.below HS.out.1))
  go_wp2_with (refine wpList_run rfl _ (exec_load_of _ 24 (.tmp 3) rfl ⟨w.heap.size, 0, none⟩ rfl (.agg A) hl1) ?_)
  clear hl1
  refine (HC.out).mono ?_
  rintro e w2 ⟨rfl, hb⟩
  have HS3 := Lib.hid (HS.out.below hb)
  clear hb HS HC
  clear H1
  have HS4 : Hid (Kt w [(w.heap.size, A, 24), (w.heap.size + 1, B, 24), (w2.heap.size, X, 24)] (w2.alloc (.cells X 24))) := Lib.hid ((HS3.out.new X 24).sub (fun p hp => by simp at hp; rcases hp with rfl | rfl | rfl <;> simp))
  have l0g7 := HS3.out.lt (w.heap.size) A 24 (by simp)
  have l1g7 := HS3.out.lt (w.heap.size + 1) B 24 (by simp)
  clear HS3
  go_upto_region 4 with (first | ((refine wpList_run rfl _ (exec_alloc_agg _ 24 rfl _ (HZ2 _)) ?_); try simp only [World.size_alloc]) | (refine wpList_run0 rfl (exec_new24 _ (.tmp 7) (.tmp 20) rfl _ _ rfl X IX rfl IZ2) ?_))
  try simp only [Act.put, List.setIfInBounds_toArray, List.set_cons_succ, List.set_cons_zero]
  generalize w2.alloc (.cells X 24) = W5 at *
  generalize w2.heap.size = g7 at *
  have hl6 := loadA IA (HS4.out.get (w.heap.size) A 24 (by simp))
  go_wp2_with (refine wpList_run rfl _ (exec_load_of _ 24 (.tmp 3) rfl ⟨w.heap.size, 0, none⟩ rfl (.agg A) hl6) ?_)
  clear hl6
  refine (H2.out _).mono ?_
  rintro e w7 ⟨rfl, hb⟩
  have HS8 := Lib.hid (HS4.out.below hb)
  clear hb HS4 H2
  have HS9 : Hid (Kt w [(w.heap.size, A, 24), (w.heap.size + 1, B, 24), (g7, X, 24), (w7.heap.size, GR, 29)] (w7.alloc (.cells GR 29))) := Lib.hid ((HS8.out.new GR 29).sub (fun p hp => by simp at hp; rcases hp with rfl | rfl | rfl | rfl <;> simp))
  have l0g9 := HS8.out.lt (w.heap.size) A 24 (by simp)
  have l1g9 := HS8.out.lt (w.heap.size + 1) B 24 (by simp)
  have l2g9 := HS8.out.lt (g7) X 24 (by simp)
  clear HS8
  go_upto_region 5 with (first | ((refine wpList_run rfl _ (exec_alloc_agg _ 29 rfl _ (HZG _)) ?_); try simp only [World.size_alloc]) | (refine wpList_run0 rfl (exec_new29 _ (.tmp 9) (.tmp 23) rfl _ _ rfl GR IGR rfl SZG) ?_))
  try simp only [Act.put, List.setIfInBounds_toArray, List.set_cons_succ, List.set_cons_zero]
  generalize w7.alloc (.cells GR 29) = W10 at *
  generalize w7.heap.size = g9 at *
  go_wp2_with fail
  refine (H3.out _).mono ?_
  rintro e w11 ⟨rfl, hb⟩
  have HS12 := Lib.hid (HS9.out.below hb)
  clear hb HS9 H3
  have HS13 : Hid (Kt w [(w.heap.size, A, 24), (w.heap.size + 1, B, 24), (g7, X, 24), (g9, GR, 29), (w11.heap.size, FN, 24)] (w11.alloc (.cells FN 24))) := Lib.hid ((HS12.out.new FN 24).sub (fun p hp => by simp at hp; rcases hp with rfl | rfl | rfl | rfl | rfl <;> simp))
  have l0g10 := HS12.out.lt (w.heap.size) A 24 (by simp)
  have l1g10 := HS12.out.lt (w.heap.size + 1) B 24 (by simp)
  have l2g10 := HS12.out.lt (g7) X 24 (by simp)
  have l3g10 := HS12.out.lt (g9) GR 29 (by simp)
  clear HS12
  go_upto_region 6 with (first | ((refine wpList_run rfl _ (exec_alloc_agg _ 24 rfl _ (HZ2 _)) ?_); try simp only [World.size_alloc]) | (refine wpList_run0 rfl (exec_new24 _ (.tmp 10) (.tmp 27) rfl _ _ rfl FN IFN rfl IZ2) ?_))
  try simp only [Act.put, List.setIfInBounds_toArray, List.set_cons_succ, List.set_cons_zero]
  generalize w11.alloc (.cells FN 24) = W14 at *
  generalize w11.heap.size = g10 at *
  go_wp2_with fail
  refine (H4.out _).mono ?_
  rintro e w15 ⟨rfl, hb⟩
  have HS16 := Lib.hid (HS13.out.below hb)
  clear hb HS13 H4
  have HS17 : Hid (Kt w [(w.heap.size, A, 24), (w.heap.size + 1, B, 24), (g7, X, 24), (g9, GR, 29), (g10, FN, 24), (w15.heap.size, GF, 29)] (w15.alloc (.cells GF 29))) := Lib.hid ((HS16.out.new GF 29).sub (fun p hp => by simp at hp; rcases hp with rfl | rfl | rfl | rfl | rfl | rfl <;> simp))
  have l0g12 := HS16.out.lt (w.heap.size) A 24 (by simp)
  have l1g12 := HS16.out.lt (w.heap.size + 1) B 24 (by simp)
  have l2g12 := HS16.out.lt (g7) X 24 (by simp)
  have l3g12 := HS16.out.lt (g9) GR 29 (by simp)
  have l4g12 := HS16.out.lt (g10) FN 24 (by simp)
  clear HS16
  go_upto_region 7 with (first | ((refine wpList_run rfl _ (exec_alloc_agg _ 29 rfl _ (HZG _)) ?_); try simp only [World.size_alloc]) | (refine wpList_run0 rfl (exec_new29 _ (.tmp 12) (.tmp 30) rfl _ _ rfl GF IGF rfl SZG) ?_))
  try simp only [Act.put, List.setIfInBounds_toArray, List.set_cons_succ, List.set_cons_zero]
  generalize w15.alloc (.cells GF 29) = W18 at *
  generalize w15.heap.size = g12 at *
  refine wp_nrm ?_
  refine wp_region_any (by kernel_rfl) ?_
  change wpAny _ _ _ _ _ _ _ (World.drew _)
  have HD := HS17.out.drew
  clear HS17
  generalize W18.drew = Wd at *
  refine any_of_F (S := Kt w [(w.heap.size, A, 24), (w.heap.size + 1, B, 24), (g7, X, 24), (g9, GR, 29), (g10, FN, 24), (g12, GF, 29)]) (f := 1000) _ _ _ _ ?_
  refine AnyF.takeG (by rfl) 0 (some 31) (.load 24 (.tmp 3)) none (.agg A) rfl (by kernel_rfl) (by kernel_rfl) (by kernel_rfl) (fun _ _ _ h => h) rfl (fun o h => by obtain rfl := Option.some.inj h; rfl) (fun o ho w2 hw => exec_load_of _ 24 (.tmp 3) ho ⟨w.heap.size, 0, none⟩ rfl _ (loadA IA (hw.get (w.heap.size) A 24 (by simp)))) HD ?_
  simp only [Act.put, List.setIfInBounds_toArray, List.set_cons_succ, List.set_cons_zero]
  refine AnyF.takeG (by rfl) 2 (some 33) (.load 24 (.tmp 3)) none (.agg A) rfl (by kernel_rfl) (by kernel_rfl) (by kernel_rfl) (fun _ _ _ h => h) rfl (fun o h => by obtain rfl := Option.some.inj h; rfl) (fun o ho w2 hw => exec_load_of _ 24 (.tmp 3) ho ⟨w.heap.size, 0, none⟩ rfl _ (loadA IA (hw.get (w.heap.size) A 24 (by simp)))) HD ?_
  simp only [Act.put, List.setIfInBounds_toArray, List.set_cons_succ, List.set_cons_zero]
  refine AnyF.ready (rs := [1]) (by kernel_rfl) (by simp) (ReadyF.call (some 32) 11 #[.tmp 31] #[24] rfl #[.agg A] (by simp [Act.eval]) ea11 _ (H5.out _) ?_ (fun c w' h => by cases h.1) (fun w' h => by cases h.1) ReadyF.nil)
  rintro v wt1 ⟨he, hb⟩
  cases he
  have Ht2 := HD.below hb
  clear hb
  refine ⟨Ht2, ?_⟩
  simp only [Act.put, List.setIfInBounds_toArray, List.set_cons_succ, List.set_cons_zero]
  refine AnyF.ready (rs := [3]) (by kernel_rfl) (by simp) (ReadyF.call (some 34) 12 #[.tmp 33] #[24] rfl #[.agg A] (by simp [Act.eval]) ea12 _ (H6.out _) ?_ (fun c w' h => by cases h.1) (fun w' h => by cases h.1) ReadyF.nil)
  rintro v wt3 ⟨he, hb⟩
  cases he
  have Ht4 := Ht2.below hb
  clear hb
  refine ⟨Ht4, ?_⟩
  simp only [Act.put, List.setIfInBounds_toArray, List.set_cons_succ, List.set_cons_zero]
  refine AnyF.takeG (by rfl) 4 (some 35) (.binOp .eql 24 (.tmp 32) (.tmp 34) 24) none (.bool true) rfl (by kernel_rfl) (by kernel_rfl) (by kernel_rfl) (fun _ _ _ h => h) rfl (fun o h => by obtain rfl := Option.some.inj h; rfl) (fun o ho w2 hw => exec_eqAA (.tmp 32) (.tmp 34) ho N IN rfl rfl w2) Ht4 ?_
  simp only [Act.put, List.setIfInBounds_toArray, List.set_cons_succ, List.set_cons_zero]
  refine AnyF.takeG (by rfl) 5 (some 36) (.move (.tmp 35)) none (.bool true) rfl (by kernel_rfl) (by kernel_rfl) (by kernel_rfl) (fun _ _ _ h => h) rfl (fun o h => by obtain rfl := Option.some.inj h; rfl) (fun o ho w2 hw => exec_move (.tmp 35) ho _ rfl w2) Ht4 ?_
  simp only [Act.put, List.setIfInBounds_toArray, List.set_cons_succ, List.set_cons_zero]
  refine AnyF.takeG (by rfl) 6 (some 37) (.load 24 (.tmp 3)) (some (5, true)) (.agg A) rfl (by kernel_rfl) (by kernel_rfl) (by kernel_rfl) (fun _ _ _ h => h) rfl (fun o h => by obtain rfl := Option.some.inj h; rfl) (fun o ho w2 hw => exec_load_of _ 24 (.tmp 3) ho ⟨w.heap.size, 0, none⟩ rfl _ (loadA IA (hw.get (w.heap.size) A 24 (by simp)))) Ht4 ?_
  simp only [Act.put, List.setIfInBounds_toArray, List.set_cons_succ, List.set_cons_zero]
  refine AnyF.takeG (by rfl) 7 (some 38) (.load 24 (.tmp 4)) (some (5, true)) (.agg B) rfl (by kernel_rfl) (by kernel_rfl) (by kernel_rfl) (fun _ _ _ h => h) rfl (fun o h => by obtain rfl := Option.some.inj h; rfl) (fun o ho w2 hw => exec_load_of _ 24 (.tmp 4) ho ⟨w.heap.size + 1, 0, none⟩ rfl _ (loadA IB (hw.get (w.heap.size + 1) B 24 (by simp)))) Ht4 ?_
  simp only [Act.put, List.setIfInBounds_toArray, List.set_cons_succ, List.set_cons_zero]
  refine AnyF.takeG (by rfl) 9 (some 40) (.load 24 (.tmp 3)) (some (5, true)) (.agg A) rfl (by kernel_rfl) (by kernel_rfl) (by kernel_rfl) (fun _ _ _ h => h) rfl (fun o h => by obtain rfl := Option.some.inj h; rfl) (fun o ho w2 hw => exec_load_of _ 24 (.tmp 3) ho ⟨w.heap.size, 0, none⟩ rfl _ (loadA IA (hw.get (w.heap.size) A 24 (by simp)))) Ht4 ?_
  simp only [Act.put, List.setIfInBounds_toArray, List.set_cons_succ, List.set_cons_zero]
  refine AnyF.takeG (by rfl) 10 (some 41) (.load 24 (.tmp 4)) (some (5, true)) (.agg B) rfl (by kernel_rfl) (by kernel_rfl) (by kernel_rfl) (fun _ _ _ h => h) rfl (fun o h => by obtain rfl := Option.some.inj h; rfl) (fun o ho w2 hw => exec_load_of _ 24 (.tmp 4) ho ⟨w.heap.size + 1, 0, none⟩ rfl _ (loadA IB (hw.get (w.heap.size + 1) B 24 (by simp)))) Ht4 ?_
  simp only [Act.put, List.setIfInBounds_toArray, List.set_cons_succ, List.set_cons_zero]
  refine AnyF.ready (rs := [8]) (by kernel_rfl) (by simp) (ReadyF.callG (some 39) 13 #[.tmp 37, .tmp 38] #[24, 24] (some (5, true)) rfl (fun o h => by obtain rfl := Option.some.inj h; rfl) #[.agg A, .agg B] (by simp [Act.eval]) ea13 _ (H7.out _) ?_ (fun c w' h => by cases h.1) (fun w' h => by cases h.1) ReadyF.nil)
  rintro v wt5 ⟨he, hb⟩
  cases he
  have Ht6 := Ht4.below hb
  clear hb
  refine ⟨Ht6, ?_⟩
  simp only [Act.put, List.setIfInBounds_toArray, List.set_cons_succ, List.set_cons_zero]
  refine AnyF.ready (rs := [11]) (by kernel_rfl) (by simp) (ReadyF.callG (some 42) 14 #[.tmp 40, .tmp 41] #[24, 24] (some (5, true)) rfl (fun o h => by obtain rfl := Option.some.inj h; rfl) #[.agg A, .agg B] (by simp [Act.eval]) ea14 _ (H8.out _) ?_ (fun c w' h => by cases h.1) (fun w' h => by cases h.1) ReadyF.nil)
  rintro v wt7 ⟨he, hb⟩
  cases he
  have Ht8 := Ht6.below hb
  clear hb
  refine ⟨Ht8, ?_⟩
  simp only [Act.put, List.setIfInBounds_toArray, List.set_cons_succ, List.set_cons_zero]
  refine AnyF.takeG (by rfl) 12 (some 43) (.binOp .eql 24 (.tmp 39) (.tmp 42) 24) (some (5, true)) (.bool true) rfl (by kernel_rfl) (by kernel_rfl) (by kernel_rfl) (fun _ _ _ h => h) rfl (fun o h => by obtain rfl := Option.some.inj h; rfl) (fun o ho w2 hw => exec_eqAA (.tmp 39) (.tmp 42) ho S IS rfl rfl w2) Ht8 ?_
  simp only [Act.put, List.setIfInBounds_toArray, List.set_cons_succ, List.set_cons_zero]
  refine AnyF.takeG (by rfl) 13 (some 44) (.pick (.tmp 36) (.tmp 43) (.const (.bool false))) none (.bool true) rfl (by kernel_rfl) (by kernel_rfl) (by kernel_rfl) (fun _ _ _ h => h) rfl (fun o h => by obtain rfl := Option.some.inj h; rfl) (fun o ho w2 hw => exec_pickt (.tmp 36) (.tmp 43) (.const (.bool false)) ho rfl _ rfl w2) Ht8 ?_
  simp only [Act.put, List.setIfInBounds_toArray, List.set_cons_succ, List.set_cons_zero]
  refine AnyF.takeG (by rfl) 14 (some 45) (.move (.tmp 44)) none (.bool true) rfl (by kernel_rfl) (by kernel_rfl) (by kernel_rfl) (fun _ _ _ h => h) rfl (fun o h => by obtain rfl := Option.some.inj h; rfl) (fun o ho w2 hw => exec_move (.tmp 44) ho _ rfl w2) Ht8 ?_
  simp only [Act.put, List.setIfInBounds_toArray, List.set_cons_succ, List.set_cons_zero]
  refine AnyF.takeG (by rfl) 15 (some 46) (.load 24 (.tmp 3)) (some (14, true)) (.agg A) rfl (by kernel_rfl) (by kernel_rfl) (by kernel_rfl) (fun _ _ _ h => h) rfl (fun o h => by obtain rfl := Option.some.inj h; rfl) (fun o ho w2 hw => exec_load_of _ 24 (.tmp 3) ho ⟨w.heap.size, 0, none⟩ rfl _ (loadA IA (hw.get (w.heap.size) A 24 (by simp)))) Ht8 ?_
  simp only [Act.put, List.setIfInBounds_toArray, List.set_cons_succ, List.set_cons_zero]
  refine AnyF.takeG (by rfl) 16 (some 47) (.load 24 (.tmp 4)) (some (14, true)) (.agg B) rfl (by kernel_rfl) (by kernel_rfl) (by kernel_rfl) (fun _ _ _ h => h) rfl (fun o h => by obtain rfl := Option.some.inj h; rfl) (fun o ho w2 hw => exec_load_of _ 24 (.tmp 4) ho ⟨w.heap.size + 1, 0, none⟩ rfl _ (loadA IB (hw.get (w.heap.size + 1) B 24 (by simp)))) Ht8 ?_
  simp only [Act.put, List.setIfInBounds_toArray, List.set_cons_succ, List.set_cons_zero]
  refine AnyF.takeG (by rfl) 18 (some 49) (.load 24 (.tmp 3)) (some (14, true)) (.agg A) rfl (by kernel_rfl) (by kernel_rfl) (by kernel_rfl) (fun _ _ _ h => h) rfl (fun o h => by obtain rfl := Option.some.inj h; rfl) (fun o ho w2 hw => exec_load_of _ 24 (.tmp 3) ho ⟨w.heap.size, 0, none⟩ rfl _ (loadA IA (hw.get (w.heap.size) A 24 (by simp)))) Ht8 ?_
  simp only [Act.put, List.setIfInBounds_toArray, List.set_cons_succ, List.set_cons_zero]
  refine AnyF.takeG (by rfl) 19 (some 50) (.load 24 (.tmp 4)) (some (14, true)) (.agg B) rfl (by kernel_rfl) (by kernel_rfl) (by kernel_rfl) (fun _ _ _ h => h) rfl (fun o h => by obtain rfl := Option.some.inj h; rfl) (fun o ho w2 hw => exec_load_of _ 24 (.tmp 4) ho ⟨w.heap.size + 1, 0, none⟩ rfl _ (loadA IB (hw.get (w.heap.size + 1) B 24 (by simp)))) Ht8 ?_
  simp only [Act.put, List.setIfInBounds_toArray, List.set_cons_succ, List.set_cons_zero]
  refine AnyF.ready (rs := [17]) (by kernel_rfl) (by simp) (ReadyF.callG (some 48) 15 #[.tmp 46, .tmp 47] #[24, 24] (some (14, true)) rfl (fun o h => by obtain rfl := Option.some.inj h; rfl) #[.agg A, .agg B] (by simp [Act.eval]) ea15 _ (H9.out _) ?_ (fun c w' h => by cases h.1) (fun w' h => by cases h.1) ReadyF.nil)
  rintro v wt9 ⟨he, hb⟩
  cases he
  have Ht10 := Ht8.below hb
  clear hb
  refine ⟨Ht10, ?_⟩
  simp only [Act.put, List.setIfInBounds_toArray, List.set_cons_succ, List.set_cons_zero]
  refine AnyF.ready (rs := [20]) (by kernel_rfl) (by simp) (ReadyF.callG (some 51) 16 #[.tmp 49, .tmp 50] #[24, 24] (some (14, true)) rfl (fun o h => by obtain rfl := Option.some.inj h; rfl) #[.agg A, .agg B] (by simp [Act.eval]) ea16 _ (H10.out _) ?_ (fun c w' h => by cases h.1) (fun w' h => by cases h.1) ReadyF.nil)
  rintro v wt11 ⟨he, hb⟩
  cases he
  have Ht12 := Ht10.below hb
  clear hb
  refine ⟨Ht12, ?_⟩
  simp only [Act.put, List.setIfInBounds_toArray, List.set_cons_succ, List.set_cons_zero]
  refine AnyF.takeG (by rfl) 21 (some 52) (.binOp .eql 24 (.tmp 48) (.tmp 51) 24) (some (14, true)) (.bool true) rfl (by kernel_rfl) (by kernel_rfl) (by kernel_rfl) (fun _ _ _ h => h) rfl (fun o h => by obtain rfl := Option.some.inj h; rfl) (fun o ho w2 hw => exec_eqAA (.tmp 48) (.tmp 51) ho D ID rfl rfl w2) Ht12 ?_
  simp only [Act.put, List.setIfInBounds_toArray, List.set_cons_succ, List.set_cons_zero]
  refine AnyF.takeG (by rfl) 22 (some 53) (.pick (.tmp 45) (.tmp 52) (.const (.bool false))) none (.bool true) rfl (by kernel_rfl) (by kernel_rfl) (by kernel_rfl) (fun _ _ _ h => h) rfl (fun o h => by obtain rfl := Option.some.inj h; rfl) (fun o ho w2 hw => exec_pickt (.tmp 45) (.tmp 52) (.const (.bool false)) ho rfl _ rfl w2) Ht12 ?_
  simp only [Act.put, List.setIfInBounds_toArray, List.set_cons_succ, List.set_cons_zero]
  refine AnyF.takeG (by rfl) 23 (some 54) (.move (.tmp 53)) none (.bool true) rfl (by kernel_rfl) (by kernel_rfl) (by kernel_rfl) (fun _ _ _ h => h) rfl (fun o h => by obtain rfl := Option.some.inj h; rfl) (fun o ho w2 hw => exec_move (.tmp 53) ho _ rfl w2) Ht12 ?_
  simp only [Act.put, List.setIfInBounds_toArray, List.set_cons_succ, List.set_cons_zero]
  refine AnyF.takeG (by rfl) 24 (some 55) (.load 24 (.tmp 3)) (some (23, true)) (.agg A) rfl (by kernel_rfl) (by kernel_rfl) (by kernel_rfl) (fun _ _ _ h => h) rfl (fun o h => by obtain rfl := Option.some.inj h; rfl) (fun o ho w2 hw => exec_load_of _ 24 (.tmp 3) ho ⟨w.heap.size, 0, none⟩ rfl _ (loadA IA (hw.get (w.heap.size) A 24 (by simp)))) Ht12 ?_
  simp only [Act.put, List.setIfInBounds_toArray, List.set_cons_succ, List.set_cons_zero]
  refine AnyF.takeG (by rfl) 25 (some 56) (.load 24 (.tmp 4)) (some (23, true)) (.agg B) rfl (by kernel_rfl) (by kernel_rfl) (by kernel_rfl) (fun _ _ _ h => h) rfl (fun o h => by obtain rfl := Option.some.inj h; rfl) (fun o ho w2 hw => exec_load_of _ 24 (.tmp 4) ho ⟨w.heap.size + 1, 0, none⟩ rfl _ (loadA IB (hw.get (w.heap.size + 1) B 24 (by simp)))) Ht12 ?_
  simp only [Act.put, List.setIfInBounds_toArray, List.set_cons_succ, List.set_cons_zero]
  refine AnyF.takeG (by rfl) 27 (some 58) (.load 24 (.tmp 3)) (some (23, true)) (.agg A) rfl (by kernel_rfl) (by kernel_rfl) (by kernel_rfl) (fun _ _ _ h => h) rfl (fun o h => by obtain rfl := Option.some.inj h; rfl) (fun o ho w2 hw => exec_load_of _ 24 (.tmp 3) ho ⟨w.heap.size, 0, none⟩ rfl _ (loadA IA (hw.get (w.heap.size) A 24 (by simp)))) Ht12 ?_
  simp only [Act.put, List.setIfInBounds_toArray, List.set_cons_succ, List.set_cons_zero]
  refine AnyF.takeG (by rfl) 28 (some 59) (.load 24 (.tmp 4)) (some (23, true)) (.agg B) rfl (by kernel_rfl) (by kernel_rfl) (by kernel_rfl) (fun _ _ _ h => h) rfl (fun o h => by obtain rfl := Option.some.inj h; rfl) (fun o ho w2 hw => exec_load_of _ 24 (.tmp 4) ho ⟨w.heap.size + 1, 0, none⟩ rfl _ (loadA IB (hw.get (w.heap.size + 1) B 24 (by simp)))) Ht12 ?_
  simp only [Act.put, List.setIfInBounds_toArray, List.set_cons_succ, List.set_cons_zero]
  refine AnyF.ready (rs := [26]) (by kernel_rfl) (by simp) (ReadyF.callG (some 57) 17 #[.tmp 55, .tmp 56] #[24, 24] (some (23, true)) rfl (fun o h => by obtain rfl := Option.some.inj h; rfl) #[.agg A, .agg B] (by simp [Act.eval]) ea17 _ (H11.out _) ?_ (fun c w' h => by cases h.1) (fun w' h => by cases h.1) ReadyF.nil)
  rintro v wt13 ⟨he, hb⟩
  cases he
  have Ht14 := Ht12.below hb
  clear hb
  refine ⟨Ht14, ?_⟩
  simp only [Act.put, List.setIfInBounds_toArray, List.set_cons_succ, List.set_cons_zero]
  refine AnyF.ready (rs := [29]) (by kernel_rfl) (by simp) (ReadyF.callG (some 60) 18 #[.tmp 58, .tmp 59] #[24, 24] (some (23, true)) rfl (fun o h => by obtain rfl := Option.some.inj h; rfl) #[.agg A, .agg B] (by simp [Act.eval]) ea18 _ (H12.out _) ?_ (fun c w' h => by cases h.1) (fun w' h => by cases h.1) ReadyF.nil)
  rintro v wt15 ⟨he, hb⟩
  cases he
  have Ht16 := Ht14.below hb
  clear hb
  refine ⟨Ht16, ?_⟩
  simp only [Act.put, List.setIfInBounds_toArray, List.set_cons_succ, List.set_cons_zero]
  refine AnyF.takeG (by rfl) 30 (some 61) (.binOp .eql 24 (.tmp 57) (.tmp 60) 24) (some (23, true)) (.bool true) rfl (by kernel_rfl) (by kernel_rfl) (by kernel_rfl) (fun _ _ _ h => h) rfl (fun o h => by obtain rfl := Option.some.inj h; rfl) (fun o ho w2 hw => exec_eqAA (.tmp 57) (.tmp 60) ho M IM rfl rfl w2) Ht16 ?_
  simp only [Act.put, List.setIfInBounds_toArray, List.set_cons_succ, List.set_cons_zero]
  refine AnyF.takeG (by rfl) 31 (some 62) (.pick (.tmp 54) (.tmp 61) (.const (.bool false))) none (.bool true) rfl (by kernel_rfl) (by kernel_rfl) (by kernel_rfl) (fun _ _ _ h => h) rfl (fun o h => by obtain rfl := Option.some.inj h; rfl) (fun o ho w2 hw => exec_pickt (.tmp 54) (.tmp 61) (.const (.bool false)) ho rfl _ rfl w2) Ht16 ?_
  simp only [Act.put, List.setIfInBounds_toArray, List.set_cons_succ, List.set_cons_zero]
  refine AnyF.takeG (by rfl) 32 (some 63) (.move (.tmp 62)) none (.bool true) rfl (by kernel_rfl) (by kernel_rfl) (by kernel_rfl) (fun _ _ _ h => h) rfl (fun o h => by obtain rfl := Option.some.inj h; rfl) (fun o ho w2 hw => exec_move (.tmp 62) ho _ rfl w2) Ht16 ?_
  simp only [Act.put, List.setIfInBounds_toArray, List.set_cons_succ, List.set_cons_zero]
  refine AnyF.takeG (by rfl) 33 (some 64) (.load 24 (.tmp 3)) (some (32, true)) (.agg A) rfl (by kernel_rfl) (by kernel_rfl) (by kernel_rfl) (fun _ _ _ h => h) rfl (fun o h => by obtain rfl := Option.some.inj h; rfl) (fun o ho w2 hw => exec_load_of _ 24 (.tmp 3) ho ⟨w.heap.size, 0, none⟩ rfl _ (loadA IA (hw.get (w.heap.size) A 24 (by simp)))) Ht16 ?_
  simp only [Act.put, List.setIfInBounds_toArray, List.set_cons_succ, List.set_cons_zero]
  refine AnyF.takeG (by rfl) 35 (some 66) (.load 24 (.tmp 3)) (some (32, true)) (.agg A) rfl (by kernel_rfl) (by kernel_rfl) (by kernel_rfl) (fun _ _ _ h => h) rfl (fun o h => by obtain rfl := Option.some.inj h; rfl) (fun o ho w2 hw => exec_load_of _ 24 (.tmp 3) ho ⟨w.heap.size, 0, none⟩ rfl _ (loadA IA (hw.get (w.heap.size) A 24 (by simp)))) Ht16 ?_
  simp only [Act.put, List.setIfInBounds_toArray, List.set_cons_succ, List.set_cons_zero]
  refine AnyF.ready (rs := [34]) (by kernel_rfl) (by simp) (ReadyF.callG (some 65) 19 #[.tmp 64] #[24] (some (32, true)) rfl (fun o h => by obtain rfl := Option.some.inj h; rfl) #[.agg A] (by simp [Act.eval]) ea19 _ (H13.out _) ?_ (fun c w' h => by cases h.1) (fun w' h => by cases h.1) ReadyF.nil)
  rintro v wt17 ⟨he, hb⟩
  cases he
  have Ht18 := Ht16.below hb
  clear hb
  refine ⟨Ht18, ?_⟩
  simp only [Act.put, List.setIfInBounds_toArray, List.set_cons_succ, List.set_cons_zero]
  refine AnyF.ready (rs := [36]) (by kernel_rfl) (by simp) (ReadyF.callG (some 67) 20 #[.tmp 66] #[24] (some (32, true)) rfl (fun o h => by obtain rfl := Option.some.inj h; rfl) #[.agg A] (by simp [Act.eval]) ea20 _ (H14.out _) ?_ (fun c w' h => by cases h.1) (fun w' h => by cases h.1) ReadyF.nil)
  rintro v wt19 ⟨he, hb⟩
  cases he
  have Ht20 := Ht18.below hb
  clear hb
  refine ⟨Ht20, ?_⟩
  simp only [Act.put, List.setIfInBounds_toArray, List.set_cons_succ, List.set_cons_zero]
  refine AnyF.takeG (by rfl) 37 (some 68) (.binOp .eql 24 (.tmp 65) (.tmp 67) 24) (some (32, true)) (.bool true) rfl (by kernel_rfl) (by kernel_rfl) (by kernel_rfl) (fun _ _ _ h => h) rfl (fun o h => by obtain rfl := Option.some.inj h; rfl) (fun o ho w2 hw => exec_eqAA (.tmp 65) (.tmp 67) ho I II rfl rfl w2) Ht20 ?_
  simp only [Act.put, List.setIfInBounds_toArray, List.set_cons_succ, List.set_cons_zero]
  refine AnyF.takeG (by rfl) 38 (some 69) (.pick (.tmp 63) (.tmp 68) (.const (.bool false))) none (.bool true) rfl (by kernel_rfl) (by kernel_rfl) (by kernel_rfl) (fun _ _ _ h => h) rfl (fun o h => by obtain rfl := Option.some.inj h; rfl) (fun o ho w2 hw => exec_pickt (.tmp 63) (.tmp 68) (.const (.bool false)) ho rfl _ rfl w2) Ht20 ?_
  simp only [Act.put, List.setIfInBounds_toArray, List.set_cons_succ, List.set_cons_zero]
  refine AnyF.takeG (by rfl) 39 (some 70) (.move (.tmp 69)) none (.bool true) rfl (by kernel_rfl) (by kernel_rfl) (by kernel_rfl) (fun _ _ _ h => h) rfl (fun o h => by obtain rfl := Option.some.inj h; rfl) (fun o ho w2 hw => exec_move (.tmp 69) ho _ rfl w2) Ht20 ?_
  simp only [Act.put, List.setIfInBounds_toArray, List.set_cons_succ, List.set_cons_zero]
  refine AnyF.takeG (by rfl) 40 (some 71) (.load 24 (.tmp 7)) (some (39, true)) (.agg X) rfl (by kernel_rfl) (by kernel_rfl) (by kernel_rfl) (fun _ _ _ h => h) rfl (fun o h => by obtain rfl := Option.some.inj h; rfl) (fun o ho w2 hw => exec_load_of _ 24 (.tmp 7) ho ⟨g7, 0, none⟩ rfl _ (loadA IX (hw.get (g7) X 24 (by simp)))) Ht20 ?_
  simp only [Act.put, List.setIfInBounds_toArray, List.set_cons_succ, List.set_cons_zero]
  refine AnyF.takeG (by rfl) 41 (some 72) (.fieldAddr 29 (.tmp 9) 0) (some (39, true)) (.pointer (some ⟨g9, 0, none⟩)) rfl (by kernel_rfl) (by kernel_rfl) (by kernel_rfl) (fun _ _ _ h => h) rfl (fun o h => by obtain rfl := Option.some.inj h; rfl) (fun o ho w2 hw => exec_field29_0 (.tmp 9) ho g9 rfl w2) Ht20 ?_
  simp only [Act.put, List.setIfInBounds_toArray, List.set_cons_succ, List.set_cons_zero]
  refine AnyF.takeG (by rfl) 42 (some 73) (.load 24 (.tmp 72)) (some (39, true)) (.agg X) rfl (by kernel_rfl) (by kernel_rfl) (by kernel_rfl) (fun _ _ _ h => h) rfl (fun o h => by obtain rfl := Option.some.inj h; rfl) (fun o ho w2 hw => exec_load_of _ 24 (.tmp 72) ho ⟨g9, 0, none⟩ rfl _ (got_num hGR hX2 (hw.get (g9) GR 29 (by simp)))) Ht20 ?_
  simp only [Act.put, List.setIfInBounds_toArray, List.set_cons_succ, List.set_cons_zero]
  refine AnyF.takeG (by rfl) 43 (some 74) (.binOp .eql 24 (.tmp 71) (.tmp 73) 24) (some (39, true)) (.bool true) rfl (by kernel_rfl) (by kernel_rfl) (by kernel_rfl) (fun _ _ _ h => h) rfl (fun o h => by obtain rfl := Option.some.inj h; rfl) (fun o ho w2 hw => exec_eqAA (.tmp 71) (.tmp 73) ho X IX rfl rfl w2) Ht20 ?_
  simp only [Act.put, List.setIfInBounds_toArray, List.set_cons_succ, List.set_cons_zero]
  refine AnyF.takeG (by rfl) 44 (some 75) (.pick (.tmp 70) (.tmp 74) (.const (.bool false))) none (.bool true) rfl (by kernel_rfl) (by kernel_rfl) (by kernel_rfl) (fun _ _ _ h => h) rfl (fun o h => by obtain rfl := Option.some.inj h; rfl) (fun o ho w2 hw => exec_pickt (.tmp 70) (.tmp 74) (.const (.bool false)) ho rfl _ rfl w2) Ht20 ?_
  simp only [Act.put, List.setIfInBounds_toArray, List.set_cons_succ, List.set_cons_zero]
  refine AnyF.takeG (by rfl) 45 (some 76) (.move (.tmp 75)) none (.bool true) rfl (by kernel_rfl) (by kernel_rfl) (by kernel_rfl) (fun _ _ _ h => h) rfl (fun o h => by obtain rfl := Option.some.inj h; rfl) (fun o ho w2 hw => exec_move (.tmp 75) ho _ rfl w2) Ht20 ?_
  simp only [Act.put, List.setIfInBounds_toArray, List.set_cons_succ, List.set_cons_zero]
  refine AnyF.takeG (by rfl) 46 (some 77) (.move (.tmp 8)) (some (45, true)) (.bool rb) rfl (by kernel_rfl) (by kernel_rfl) (by kernel_rfl) (fun _ _ _ h => h) rfl (fun o h => by obtain rfl := Option.some.inj h; rfl) (fun o ho w2 hw => exec_move (.tmp 8) ho _ rfl w2) Ht20 ?_
  simp only [Act.put, List.setIfInBounds_toArray, List.set_cons_succ, List.set_cons_zero]
  refine AnyF.takeG (by rfl) 47 (some 78) (.fieldAddr 29 (.tmp 9) 1) (some (45, true)) (.pointer (some ⟨g9, 4, none⟩)) rfl (by kernel_rfl) (by kernel_rfl) (by kernel_rfl) (fun _ _ _ h => h) rfl (fun o h => by obtain rfl := Option.some.inj h; rfl) (fun o ho w2 hw => exec_field29_1 (.tmp 9) ho g9 rfl w2) Ht20 ?_
  simp only [Act.put, List.setIfInBounds_toArray, List.set_cons_succ, List.set_cons_zero]
  refine AnyF.takeG (by rfl) 48 (some 79) (.load 4 (.tmp 78)) (some (45, true)) (.bool rb) rfl (by kernel_rfl) (by kernel_rfl) (by kernel_rfl) (fun _ _ _ h => h) rfl (fun o h => by obtain rfl := Option.some.inj h; rfl) (fun o ho w2 hw => exec_load_one w2 4 (.tmp 78) ho ⟨g9, 4, none⟩ rfl _ (got_bool hGR (hw.get (g9) GR 29 (by simp))) _ Tryd.underlying4 rfl) Ht20 ?_
  simp only [Act.put, List.setIfInBounds_toArray, List.set_cons_succ, List.set_cons_zero]
  refine AnyF.takeG (by rfl) 49 (some 80) (.binOp .eql 4 (.tmp 77) (.tmp 79) 4) (some (45, true)) (.bool true) rfl (by kernel_rfl) (by kernel_rfl) (by kernel_rfl) (fun _ _ _ h => h) rfl (fun o h => by obtain rfl := Option.some.inj h; rfl) (fun o ho w2 hw => exec_eqBB (.tmp 77) (.tmp 79) ho rb rfl rfl w2) Ht20 ?_
  simp only [Act.put, List.setIfInBounds_toArray, List.set_cons_succ, List.set_cons_zero]
  refine AnyF.takeG (by rfl) 50 (some 81) (.pick (.tmp 76) (.tmp 80) (.const (.bool false))) none (.bool true) rfl (by kernel_rfl) (by kernel_rfl) (by kernel_rfl) (fun _ _ _ h => h) rfl (fun o h => by obtain rfl := Option.some.inj h; rfl) (fun o ho w2 hw => exec_pickt (.tmp 76) (.tmp 80) (.const (.bool false)) ho rfl _ rfl w2) Ht20 ?_
  simp only [Act.put, List.setIfInBounds_toArray, List.set_cons_succ, List.set_cons_zero]
  refine AnyF.takeG (by rfl) 51 (some 82) (.move (.tmp 81)) none (.bool true) rfl (by kernel_rfl) (by kernel_rfl) (by kernel_rfl) (fun _ _ _ h => h) rfl (fun o h => by obtain rfl := Option.some.inj h; rfl) (fun o ho w2 hw => exec_move (.tmp 81) ho _ rfl w2) Ht20 ?_
  simp only [Act.put, List.setIfInBounds_toArray, List.set_cons_succ, List.set_cons_zero]
  refine AnyF.takeG (by rfl) 52 (some 83) (.load 24 (.tmp 3)) (some (51, true)) (.agg A) rfl (by kernel_rfl) (by kernel_rfl) (by kernel_rfl) (fun _ _ _ h => h) rfl (fun o h => by obtain rfl := Option.some.inj h; rfl) (fun o ho w2 hw => exec_load_of _ 24 (.tmp 3) ho ⟨w.heap.size, 0, none⟩ rfl _ (loadA IA (hw.get (w.heap.size) A 24 (by simp)))) Ht20 ?_
  simp only [Act.put, List.setIfInBounds_toArray, List.set_cons_succ, List.set_cons_zero]
  refine AnyF.takeG (by rfl) 54 (some 85) (.load 24 (.tmp 3)) (some (51, true)) (.agg A) rfl (by kernel_rfl) (by kernel_rfl) (by kernel_rfl) (fun _ _ _ h => h) rfl (fun o h => by obtain rfl := Option.some.inj h; rfl) (fun o ho w2 hw => exec_load_of _ 24 (.tmp 3) ho ⟨w.heap.size, 0, none⟩ rfl _ (loadA IA (hw.get (w.heap.size) A 24 (by simp)))) Ht20 ?_
  simp only [Act.put, List.setIfInBounds_toArray, List.set_cons_succ, List.set_cons_zero]
  refine AnyF.ready (rs := [53]) (by kernel_rfl) (by simp) (ReadyF.callG (some 84) 21 #[.tmp 83] #[24] (some (51, true)) rfl (fun o h => by obtain rfl := Option.some.inj h; rfl) #[.agg A] (by simp [Act.eval]) ea21 _ (H15.out _) ?_ (fun c w' h => by cases h.1) (fun w' h => by cases h.1) ReadyF.nil)
  rintro v wt21 ⟨he, hb⟩
  cases he
  have Ht22 := Ht20.below hb
  clear hb
  refine ⟨Ht22, ?_⟩
  simp only [Act.put, List.setIfInBounds_toArray, List.set_cons_succ, List.set_cons_zero]
  refine AnyF.ready (rs := [55]) (by kernel_rfl) (by simp) (ReadyF.callG (some 86) 22 #[.tmp 85] #[24] (some (51, true)) rfl (fun o h => by obtain rfl := Option.some.inj h; rfl) #[.agg A] (by simp [Act.eval]) ea22 _ (H16.out _) ?_ (fun c w' h => by cases h.1) (fun w' h => by cases h.1) ReadyF.nil)
  rintro v wt23 ⟨he, hb⟩
  cases he
  have Ht24 := Ht22.below hb
  clear hb
  refine ⟨Ht24, ?_⟩
  simp only [Act.put, List.setIfInBounds_toArray, List.set_cons_succ, List.set_cons_zero]
  refine AnyF.takeG (by rfl) 56 (some 87) (.binOp .eql 9 (.tmp 84) (.tmp 86) 9) (some (51, true)) (.bool true) rfl (by kernel_rfl) (by kernel_rfl) (by kernel_rfl) (fun _ _ _ h => h) rfl (fun o h => by obtain rfl := Option.some.inj h; rfl) (fun o ho w2 hw => exec_eqSS (.tmp 84) (.tmp 86) ho SB rfl rfl w2) Ht24 ?_
  simp only [Act.put, List.setIfInBounds_toArray, List.set_cons_succ, List.set_cons_zero]
  refine AnyF.takeG (by rfl) 57 (some 88) (.pick (.tmp 82) (.tmp 87) (.const (.bool false))) none (.bool true) rfl (by kernel_rfl) (by kernel_rfl) (by kernel_rfl) (fun _ _ _ h => h) rfl (fun o h => by obtain rfl := Option.some.inj h; rfl) (fun o ho w2 hw => exec_pickt (.tmp 82) (.tmp 87) (.const (.bool false)) ho rfl _ rfl w2) Ht24 ?_
  simp only [Act.put, List.setIfInBounds_toArray, List.set_cons_succ, List.set_cons_zero]
  refine AnyF.takeG (by rfl) 58 (some 89) (.move (.tmp 88)) none (.bool true) rfl (by kernel_rfl) (by kernel_rfl) (by kernel_rfl) (fun _ _ _ h => h) rfl (fun o h => by obtain rfl := Option.some.inj h; rfl) (fun o ho w2 hw => exec_move (.tmp 88) ho _ rfl w2) Ht24 ?_
  simp only [Act.put, List.setIfInBounds_toArray, List.set_cons_succ, List.set_cons_zero]
  refine AnyF.takeG (by rfl) 59 (some 90) (.load 24 (.tmp 10)) (some (58, true)) (.agg FN) rfl (by kernel_rfl) (by kernel_rfl) (by kernel_rfl) (fun _ _ _ h => h) rfl (fun o h => by obtain rfl := Option.some.inj h; rfl) (fun o ho w2 hw => exec_load_of _ 24 (.tmp 10) ho ⟨g10, 0, none⟩ rfl _ (loadA IFN (hw.get (g10) FN 24 (by simp)))) Ht24 ?_
  simp only [Act.put, List.setIfInBounds_toArray, List.set_cons_succ, List.set_cons_zero]
  refine AnyF.takeG (by rfl) 60 (some 91) (.fieldAddr 29 (.tmp 12) 0) (some (58, true)) (.pointer (some ⟨g12, 0, none⟩)) rfl (by kernel_rfl) (by kernel_rfl) (by kernel_rfl) (fun _ _ _ h => h) rfl (fun o h => by obtain rfl := Option.some.inj h; rfl) (fun o ho w2 hw => exec_field29_0 (.tmp 12) ho g12 rfl w2) Ht24 ?_
  simp only [Act.put, List.setIfInBounds_toArray, List.set_cons_succ, List.set_cons_zero]
  refine AnyF.takeG (by rfl) 61 (some 92) (.load 24 (.tmp 91)) (some (58, true)) (.agg FN) rfl (by kernel_rfl) (by kernel_rfl) (by kernel_rfl) (fun _ _ _ h => h) rfl (fun o h => by obtain rfl := Option.some.inj h; rfl) (fun o ho w2 hw => exec_load_of _ 24 (.tmp 91) ho ⟨g12, 0, none⟩ rfl _ (got_num hGF hFN2 (hw.get (g12) GF 29 (by simp)))) Ht24 ?_
  simp only [Act.put, List.setIfInBounds_toArray, List.set_cons_succ, List.set_cons_zero]
  refine AnyF.takeG (by rfl) 62 (some 93) (.binOp .eql 24 (.tmp 90) (.tmp 92) 24) (some (58, true)) (.bool true) rfl (by kernel_rfl) (by kernel_rfl) (by kernel_rfl) (fun _ _ _ h => h) rfl (fun o h => by obtain rfl := Option.some.inj h; rfl) (fun o ho w2 hw => exec_eqAA (.tmp 90) (.tmp 92) ho FN IFN rfl rfl w2) Ht24 ?_
  simp only [Act.put, List.setIfInBounds_toArray, List.set_cons_succ, List.set_cons_zero]
  refine AnyF.takeG (by rfl) 63 (some 94) (.pick (.tmp 89) (.tmp 93) (.const (.bool false))) none (.bool true) rfl (by kernel_rfl) (by kernel_rfl) (by kernel_rfl) (fun _ _ _ h => h) rfl (fun o h => by obtain rfl := Option.some.inj h; rfl) (fun o ho w2 hw => exec_pickt (.tmp 89) (.tmp 93) (.const (.bool false)) ho rfl _ rfl w2) Ht24 ?_
  simp only [Act.put, List.setIfInBounds_toArray, List.set_cons_succ, List.set_cons_zero]
  refine AnyF.takeG (by rfl) 64 (some 95) (.move (.tmp 94)) none (.bool true) rfl (by kernel_rfl) (by kernel_rfl) (by kernel_rfl) (fun _ _ _ h => h) rfl (fun o h => by obtain rfl := Option.some.inj h; rfl) (fun o ho w2 hw => exec_move (.tmp 94) ho _ rfl w2) Ht24 ?_
  simp only [Act.put, List.setIfInBounds_toArray, List.set_cons_succ, List.set_cons_zero]
  refine AnyF.takeG (by rfl) 65 (some 96) (.move (.tmp 11)) (some (64, true)) (.bool fb) rfl (by kernel_rfl) (by kernel_rfl) (by kernel_rfl) (fun _ _ _ h => h) rfl (fun o h => by obtain rfl := Option.some.inj h; rfl) (fun o ho w2 hw => exec_move (.tmp 11) ho _ rfl w2) Ht24 ?_
  simp only [Act.put, List.setIfInBounds_toArray, List.set_cons_succ, List.set_cons_zero]
  refine AnyF.takeG (by rfl) 66 (some 97) (.fieldAddr 29 (.tmp 12) 1) (some (64, true)) (.pointer (some ⟨g12, 4, none⟩)) rfl (by kernel_rfl) (by kernel_rfl) (by kernel_rfl) (fun _ _ _ h => h) rfl (fun o h => by obtain rfl := Option.some.inj h; rfl) (fun o ho w2 hw => exec_field29_1 (.tmp 12) ho g12 rfl w2) Ht24 ?_
  simp only [Act.put, List.setIfInBounds_toArray, List.set_cons_succ, List.set_cons_zero]
  refine AnyF.takeG (by rfl) 67 (some 98) (.load 4 (.tmp 97)) (some (64, true)) (.bool fb) rfl (by kernel_rfl) (by kernel_rfl) (by kernel_rfl) (fun _ _ _ h => h) rfl (fun o h => by obtain rfl := Option.some.inj h; rfl) (fun o ho w2 hw => exec_load_one w2 4 (.tmp 97) ho ⟨g12, 4, none⟩ rfl _ (got_bool hGF (hw.get (g12) GF 29 (by simp))) _ Tryd.underlying4 rfl) Ht24 ?_
  simp only [Act.put, List.setIfInBounds_toArray, List.set_cons_succ, List.set_cons_zero]
  refine AnyF.takeG (by rfl) 68 (some 99) (.binOp .eql 4 (.tmp 96) (.tmp 98) 4) (some (64, true)) (.bool true) rfl (by kernel_rfl) (by kernel_rfl) (by kernel_rfl) (fun _ _ _ h => h) rfl (fun o h => by obtain rfl := Option.some.inj h; rfl) (fun o ho w2 hw => exec_eqBB (.tmp 96) (.tmp 98) ho fb rfl rfl w2) Ht24 ?_
  simp only [Act.put, List.setIfInBounds_toArray, List.set_cons_succ, List.set_cons_zero]
  refine AnyF.takeG (by rfl) 69 (some 100) (.pick (.tmp 95) (.tmp 99) (.const (.bool false))) none (.bool true) rfl (by kernel_rfl) (by kernel_rfl) (by kernel_rfl) (fun _ _ _ h => h) rfl (fun o h => by obtain rfl := Option.some.inj h; rfl) (fun o ho w2 hw => exec_pickt (.tmp 95) (.tmp 99) (.const (.bool false)) ho rfl _ rfl w2) Ht24 ?_
  simp only [Act.put, List.setIfInBounds_toArray, List.set_cons_succ, List.set_cons_zero]
  refine AnyF.takeG (by rfl) 70 (some 101) (.move (.tmp 100)) none (.bool true) rfl (by kernel_rfl) (by kernel_rfl) (by kernel_rfl) (fun _ _ _ h => h) rfl (fun o h => by obtain rfl := Option.some.inj h; rfl) (fun o ho w2 hw => exec_move (.tmp 100) ho _ rfl w2) Ht24 ?_
  simp only [Act.put, List.setIfInBounds_toArray, List.set_cons_succ, List.set_cons_zero]
  refine AnyF.ready (rs := [71]) (by kernel_rfl) (by simp) (ReadyF.callG (some 102) 6 #[] #[] (some (70, true)) rfl (fun o h => by obtain rfl := Option.some.inj h; rfl) #[] (by simp [Act.eval]) ea6 _ (H17.out _) ?_ (fun c w' h => by cases h.1) (fun w' h => by cases h.1) ReadyF.nil)
  rintro v wt25 ⟨he, hb⟩
  cases he
  have Ht26 := Ht24.below hb
  clear hb
  refine ⟨Ht26, ?_⟩
  simp only [Act.put, List.setIfInBounds_toArray, List.set_cons_succ, List.set_cons_zero]
  refine AnyF.takeG (by rfl) 72 (some 103) (.pick (.tmp 101) (.tmp 102) (.const (.bool false))) none (.bool true) rfl (by kernel_rfl) (by kernel_rfl) (by kernel_rfl) (fun _ _ _ h => h) rfl (fun o h => by obtain rfl := Option.some.inj h; rfl) (fun o ho w2 hw => exec_pickt (.tmp 101) (.tmp 102) (.const (.bool false)) ho rfl _ rfl w2) Ht26 ?_
  simp only [Act.put, List.setIfInBounds_toArray, List.set_cons_succ, List.set_cons_zero]
  refine AnyF.takeG (by rfl) 73 (some 6) (.assign (.tmp 103)) none (.bool true) rfl (by kernel_rfl) (by kernel_rfl) (by kernel_rfl) (fun _ _ _ h => h) rfl (fun o h => by obtain rfl := Option.some.inj h; rfl) (fun o ho w2 hw => exec_assign (.tmp 103) ho _ rfl w2) Ht26 ?_
  simp only [Act.put, List.setIfInBounds_toArray, List.set_cons_succ, List.set_cons_zero]
  refine AnyF.done (by kernel_rfl) ?_ _
  refine nrm_intro ?_
  go_wp2
  go_ret
  exact ⟨rfl, Ht26.1⟩
end Go.Proofs.YtkkgeljcgebegaaDoor
