/- The law ScalarAll walked: it returns true at any text and any three numbers of 256 bits, and no memory that was there is changed. The order is as the program lays it. -/
import Derived.Test.YtfcnfcolhahghaaDoorRFrom
namespace Go.Proofs.YtfcnfcolhahghaaDoor
open Go.RowKit Go.Shelf
set_option linter.unusedVariables false
set_option linter.unusedSimpArgs false
theorem enters9 : ∀ args w, (callFunc 9 args).run Tryd.prog w = .ok (.enter 9 args) w := enters_of Tryd.func9 (by kernel_rfl) rfl
theorem enters13 : ∀ args w, (callFunc 13 args).run Tryd.prog w = .ok (.enter 13 args) w := enters_of Tryd.func13 (by kernel_rfl) rfl
theorem enters14 : ∀ args w, (callFunc 14 args).run Tryd.prog w = .ok (.enter 14 args) w := enters_of Tryd.func14 (by kernel_rfl) rfl
theorem exec_eqAA {ρ : Operand → Value} {o : Oper} (x y : Operand) (ho : o.op = .binOp .eql 24 x y 24) (A : Array Value) (hA : IsNum A) (hx : ρ x = .agg A) (hy : ρ y = .agg A) (w : World) :
    (execOp ρ o).run Tryd.prog w = .ok (.value (.bool true)) w := by
  obtain ⟨f, rfl⟩ := hA
  unfold execOp
  rw [ho]
  simp only [hx, hy]
  have hl : (rowOf .u64 4 f).toArray = #[.int .u64 (f 0 : Int), .int .u64 (f 1 : Int), .int .u64 (f 2 : Int), .int .u64 (f 3 : Int)] := rfl
  have h := eq24 (f 0) (f 1) (f 2) (f 3) (f 0) (f 1) (f 2) (f 3) w
  simp only [decide_true, Bool.and_self] at h
  go_simp
theorem exec_eqBB {ρ : Operand → Value} {o : Oper} (x y : Operand) (ho : o.op = .binOp .eql 4 x y 4) (b : Bool) (hx : ρ x = .bool b) (hy : ρ y = .bool b) (w : World) :
    (execOp ρ o).run Tryd.prog w = .ok (.value (.bool true)) w := by
  unfold execOp
  rw [ho]
  simp only [hx, hy]
  cases b <;> go_simp
theorem exec_eqSS {ρ : Operand → Value} {o : Oper} (x y : Operand) (ho : o.op = .binOp .eql 9 x y 9) (b : ByteArray) (hx : ρ x = .string b) (hy : ρ y = .string b) (w : World) :
    (execOp ρ o).run Tryd.prog w = .ok (.value (.bool true)) w := by
  unfold execOp
  rw [ho]
  simp only [hx, hy]
  go_simp
theorem exec_field29_0 {ρ : Operand → Value} {o : Oper} (x : Operand) (ho : o.op = .fieldAddr 29 x 0) (b : Nat) (hx : ρ x = .pointer (some ⟨b, 0, none⟩)) (w : World) : (execOp ρ o).run Tryd.prog w = .ok (.value (.pointer (some ⟨b, 0, none⟩))) w := by
  unfold execOp
  simp only [ho, hx]
  kernel_rfl
theorem exec_field29_1 {ρ : Operand → Value} {o : Oper} (x : Operand) (ho : o.op = .fieldAddr 29 x 1) (b : Nat) (hx : ρ x = .pointer (some ⟨b, 0, none⟩)) (w : World) : (execOp ρ o).run Tryd.prog w = .ok (.value (.pointer (some ⟨b, 4, none⟩))) w := by
  unfold execOp
  simp only [ho, hx]
  kernel_rfl
theorem got_num {W : World} {g : Nat} {G A : Array Value} {f : Nat → Nat} {b : Bool} (hG : Hid (G = gotV f b)) (hA : Hid (A = (rowOf .u64 4 f).toArray)) {t : TypeId} (hg : W.heap[g]? = some (.cells G t (0, 0))) : (loadVar 24 ⟨g, 0, none⟩).run Tryd.prog W = .ok (.agg A) W := by
  rw [hA.out]
  refine run_loadVar_seg W 24 g 0 (rowOf .u64 4 f) _ (fun j v hv => ?_) Tryd.underlying24 rfl (size24 f)
  rw [Nat.zero_add, cell_of_row W g j _ t (0, 0) hg, hG.out, gotV, List.getElem?_toArray, List.getElem?_append_left (by have := (List.getElem?_eq_some_iff.1 hv).1; exact this), hv]
theorem got_bool {W : World} {g : Nat} {G : Array Value} {f : Nat → Nat} {b : Bool} (hG : Hid (G = gotV f b)) {t : TypeId} (hg : W.heap[g]? = some (.cells G t (0, 0))) : W.cell? ⟨g, 4, none⟩ = some (.bool b) := by
  rw [cell_of_row W g 4 _ t (0, 0) hg, hG.out, gotV, List.getElem?_toArray, List.getElem?_append_right (by rw [rowOf_length]; omega), rowOf_length]
  rfl
theorem exec_new29 {ρ : Operand → Value} {o : Oper} (w : World) (x y : Operand) (ho : o.op = .store 29 x y) (c : Array Value) (t : TypeId) (hx : ρ x = .pointer (some ⟨w.heap.size, 0, none⟩)) (A : Array Value) (hA : IsGot A) (hy : ρ y = .agg A) (h5 : c.size = 5) :
    (execOp ρ o).run Tryd.prog (w.alloc (.cells c t)) = .ok .skip (w.alloc (.cells A t)) := by
  obtain ⟨f, b, rfl⟩ := hA
  exact exec_store_new w 29 x y ho c t hx (rowOf .u64 4 f ++ [Value.bool b]) hy (by rw [gotL]; exact h5) (gotOne f b) (size29 f b)
set_option maxRecDepth 100000 in
set_option maxHeartbeats 4000000 in
theorem all_law (s : ByteArray) (a b c : Nat) (hs : s.size ≤ maxLen) (ha : a < 115792089237316195423570985008687907853269984665640564039457584007913129639936) (hb : b < 115792089237316195423570985008687907853269984665640564039457584007913129639936) (hc : c < 115792089237316195423570985008687907853269984665640564039457584007913129639936) (w : World) (hG0 : Glob w) :
    Calls Tryd.prog 3 #[.string s, .agg (num a), .agg (num b), .agg (num c)] w fun e w' => e = .returned (.bool true) ∧ Below w.heap.size w w' := by
  unfold maxLen at hs
  have hs2 : s.size ≤ 9223372036854775807 := by omega
  have HG := Lib.hid hG0
  have H3 : Hid (∀ w, Glob w → _) := Lib.hid (from_any s hs2)
  have H4 := Lib.hid (rfrom_any s hs2)
  have H5 : Hid (∀ w, Glob w → _) := Lib.hid (reduce_any s hs2)
  have H6 := Lib.hid (rreduce_any s hs2)
  have H7 : Hid (∀ w, Glob w → _) := Lib.hid (muladd_any a b c ha hb hc)
  have H8 := Lib.hid (rmuladd_any a b c ha hb hc)
  have H9 : Hid (∀ w, Glob w → _) := Lib.hid (bytes_any a ha)
  have H10 := Lib.hid (rbytesof_any a ha)
  have H11 : Hid (∀ w, Glob w → _) := Lib.hid awake_any
  generalize (fromL s.data.toList).2 = fb at *
  obtain ⟨SB, hSB⟩ : ∃ SB : ByteArray, Hid (SB = ⟨(bytesN (a % LL)).toArray⟩) := ⟨_, Lib.hid rfl⟩
  rw [← hSB.out] at H9 H10
  obtain ⟨A, hA⟩ : ∃ A, Hid (A = num a) := ⟨_, Lib.hid rfl⟩
  have IA : IsNum A := by rw [hA.out]; exact isNum _
  obtain ⟨B, hB⟩ : ∃ B, Hid (B = num b) := ⟨_, Lib.hid rfl⟩
  have IB : IsNum B := by rw [hB.out]; exact isNum _
  obtain ⟨C, hC⟩ : ∃ C, Hid (C = num c) := ⟨_, Lib.hid rfl⟩
  have IC : IsNum C := by rw [hC.out]; exact isNum _
  obtain ⟨X, hX⟩ : ∃ X, Hid (X = num (fromL s.data.toList).1) := ⟨_, Lib.hid rfl⟩
  have IX : IsNum X := by rw [hX.out]; exact isNum _
  obtain ⟨V, hV⟩ : ∃ V, Hid (V = num (reduceL s.data.toList)) := ⟨_, Lib.hid rfl⟩
  have IV : IsNum V := by rw [hV.out]; exact isNum _
  obtain ⟨M, hM⟩ : ∃ M, Hid (M = num (muladdL a b c)) := ⟨_, Lib.hid rfl⟩
  have IM : IsNum M := by rw [hM.out]; exact isNum _
  have HZ := zero_run
  obtain ⟨Z, hZ⟩ : ∃ Z, Hid (Z = num 0) := ⟨_, Lib.hid rfl⟩
  have IZ : IsNum Z := by rw [hZ.out]; exact isNum _
  have IZ2 := IZ.size
  have HZ2 : ∀ w, (zeroValue 24).run Tryd.prog w = .ok (.agg Z) w := by rw [hZ.out]; exact HZ
  clear HZ
  obtain ⟨ZG, hZG⟩ : ∃ ZG, Hid (ZG = gotV (fun _ => 0) false) := ⟨_, Lib.hid rfl⟩
  have IZG : IsGot ZG := by rw [hZG.out]; exact ⟨_, _, rfl⟩
  obtain ⟨GF, hGF⟩ : ∃ GF, Hid (GF = gotV (dig (fromL s.data.toList).1) fb) := ⟨_, Lib.hid rfl⟩
  have IGF : IsGot GF := by rw [hGF.out]; exact ⟨_, _, rfl⟩
  rw [← hX.out] at H3
  rw [← hGF.out] at H4
  rw [← hV.out] at H5
  rw [← hV.out] at H6
  rw [← hA.out, ← hB.out, ← hC.out, ← hM.out] at H7
  rw [← hA.out, ← hB.out, ← hC.out, ← hM.out] at H8
  rw [← hA.out] at H9
  rw [← hA.out] at H10
  have hX2 : Hid (X = (rowOf .u64 4 (dig (fromL s.data.toList).1)).toArray) := hX
  have HZG : ∀ w, (zeroValue 29).run Tryd.prog w = .ok (.agg ZG) w := by rw [hZG.out]; exact zero29
  have SZG := IZG.size
  rw [← hA.out, ← hB.out, ← hC.out]
  clear ha hb hc hA hB hC hX hV hM hZ hZG hSB hs2 hG0
  have hz4 : ∀ W : World, Kt W [(W.heap.size, A, 24), (W.heap.size + 1, B, 24), (W.heap.size + 1 + 1, C, 24)] (((W.alloc (.cells A 24)).alloc (.cells B 24)).alloc (.cells C 24)) := by
    intro W
    have h := ((((Kt.nil W).new A 24).new B 24).new C 24)
    try simp only [World.size_alloc] at h
    exact h.sub (fun p hp => by simp at hp ⊢; rcases hp with h | h | h <;> simp [h])
  have HS := Lib.hid (hz4 w)
  clear hz4
  go_enter Tryd.func3, Tryd.ntmps3
  go_upto_region 1 with fail
  try simp only [Act.put, List.setIfInBounds_toArray, List.set_cons_succ, List.set_cons_zero]
  generalize ((w.alloc (.cells A 24)).alloc (.cells B 24)).alloc (.cells C 24) = W0 at *
  by_cases hlong : 100 < s.size
  · have hlI : (100 : Int) < (s.size : Int) := by omega
    go_wp2_with fail
    refine (H11.out _ (HG.out.below HS.out.1)).mono ?_
    rintro e w1 ⟨rfl, hb⟩
    have HS1 := Lib.hid (HS.out.below hb)
    clear hb
    go_wp2
    go_ret
    exact ⟨rfl, HS1.out.1⟩
  have hlI : ¬ ((100 : Int) < (s.size : Int)) := by omega
  have hlI2 : (s.size : Int) ≤ 100 := by omega
  go_wp2_with fail
  refine (H3.out _ (HG.out.below HS.out.1)).mono ?_
  rintro e w1 ⟨rfl, hb⟩
  have HS2 := Lib.hid (HS.out.below hb)
  clear hb HS H3
  have HS3 : Hid (Kt w [(w.heap.size, A, 24), (w.heap.size + 1, B, 24), (w.heap.size + 1 + 1, C, 24), (w1.heap.size, X, 24)] (w1.alloc (.cells X 24))) := Lib.hid ((HS2.out.new X 24).sub (fun p hp => by simp at hp; rcases hp with rfl | rfl | rfl | rfl <;> simp))
  have l0g9 := HS2.out.lt (w.heap.size) A 24 (by simp)
  have l1g9 := HS2.out.lt (w.heap.size + 1) B 24 (by simp)
  have l2g9 := HS2.out.lt (w.heap.size + 1 + 1) C 24 (by simp)
  clear HS2
  go_upto_region 4 with (first | ((refine wpList_run rfl _ (exec_alloc_agg _ 24 rfl _ (HZ2 _)) ?_); try simp only [World.size_alloc]) | (refine wpList_run0 rfl (exec_new24 _ (.tmp 9) (.tmp 19) rfl _ _ rfl X IX rfl IZ2) ?_))
  try simp only [Act.put, List.setIfInBounds_toArray, List.set_cons_succ, List.set_cons_zero]
  generalize w1.alloc (.cells X 24) = W4 at *
  generalize w1.heap.size = g9 at *
  go_wp2_with fail
  refine (H4.out _).mono ?_
  rintro e w5 ⟨rfl, hb⟩
  have HS6 := Lib.hid (HS3.out.below hb)
  clear hb HS3 H4
  have HS7 : Hid (Kt w [(w.heap.size, A, 24), (w.heap.size + 1, B, 24), (w.heap.size + 1 + 1, C, 24), (g9, X, 24), (w5.heap.size, GF, 29)] (w5.alloc (.cells GF 29))) := Lib.hid ((HS6.out.new GF 29).sub (fun p hp => by simp at hp; rcases hp with rfl | rfl | rfl | rfl | rfl <;> simp))
  have l0g11 := HS6.out.lt (w.heap.size) A 24 (by simp)
  have l1g11 := HS6.out.lt (w.heap.size + 1) B 24 (by simp)
  have l2g11 := HS6.out.lt (w.heap.size + 1 + 1) C 24 (by simp)
  have l3g11 := HS6.out.lt (g9) X 24 (by simp)
  clear HS6
  go_upto_region 5 with (first | ((refine wpList_run rfl _ (exec_alloc_agg _ 29 rfl _ (HZG _)) ?_); try simp only [World.size_alloc]) | (refine wpList_run0 rfl (exec_new29 _ (.tmp 11) (.tmp 22) rfl _ _ rfl GF IGF rfl SZG) ?_))
  try simp only [Act.put, List.setIfInBounds_toArray, List.set_cons_succ, List.set_cons_zero]
  generalize w5.alloc (.cells GF 29) = W8 at *
  generalize w5.heap.size = g11 at *
  refine wp_nrm ?_
  refine wp_region_any (by kernel_rfl) ?_
  change wpAny _ _ _ _ _ _ _ (World.drew _)
  have HD := HS7.out.drew
  clear HS7
  generalize W8.drew = Wd at *
  refine any_of_F (S := Kt w [(w.heap.size, A, 24), (w.heap.size + 1, B, 24), (w.heap.size + 1 + 1, C, 24), (g9, X, 24), (g11, GF, 29)]) (f := 1000) _ _ _ _ ?_
  refine AnyF.takeG (by rfl) 0 (some 23) (.move (.tmp 0)) none (.string s) rfl (by kernel_rfl) (by kernel_rfl) (by kernel_rfl) (fun _ _ _ h => h) rfl (fun o h => by obtain rfl := Option.some.inj h; rfl) (fun o ho w2 hw => exec_move (.tmp 0) ho _ rfl w2) HD ?_
  simp only [Act.put, List.setIfInBounds_toArray, List.set_cons_succ, List.set_cons_zero]
  refine AnyF.takeG (by rfl) 2 (some 25) (.move (.tmp 0)) none (.string s) rfl (by kernel_rfl) (by kernel_rfl) (by kernel_rfl) (fun _ _ _ h => h) rfl (fun o h => by obtain rfl := Option.some.inj h; rfl) (fun o ho w2 hw => exec_move (.tmp 0) ho _ rfl w2) HD ?_
  simp only [Act.put, List.setIfInBounds_toArray, List.set_cons_succ, List.set_cons_zero]
  refine AnyF.ready (rs := [1]) (by kernel_rfl) (by simp) (ReadyF.call (some 24) 10 #[.tmp 23] #[9] rfl #[.string s] (by simp [Act.eval]) enters10 _ (H5.out _ (HG.out.below HD.1)) ?_ (fun c w' h => by cases h.1) (fun w' h => by cases h.1) ReadyF.nil)
  rintro v wt1 ⟨he, hb⟩
  cases he
  have Ht2 := HD.below hb
  clear hb
  refine ⟨Ht2, ?_⟩
  simp only [Act.put, List.setIfInBounds_toArray, List.set_cons_succ, List.set_cons_zero]
  refine AnyF.ready (rs := [3]) (by kernel_rfl) (by simp) (ReadyF.call (some 26) 11 #[.tmp 25] #[9] rfl #[.string s] (by simp [Act.eval]) enters11 _ (H6.out _) ?_ (fun c w' h => by cases h.1) (fun w' h => by cases h.1) ReadyF.nil)
  rintro v wt3 ⟨he, hb⟩
  cases he
  have Ht4 := Ht2.below hb
  clear hb
  refine ⟨Ht4, ?_⟩
  simp only [Act.put, List.setIfInBounds_toArray, List.set_cons_succ, List.set_cons_zero]
  refine AnyF.takeG (by rfl) 4 (some 27) (.binOp .eql 24 (.tmp 24) (.tmp 26) 24) none (.bool true) rfl (by kernel_rfl) (by kernel_rfl) (by kernel_rfl) (fun _ _ _ h => h) rfl (fun o h => by obtain rfl := Option.some.inj h; rfl) (fun o ho w2 hw => exec_eqAA (.tmp 24) (.tmp 26) ho V IV rfl rfl w2) Ht4 ?_
  simp only [Act.put, List.setIfInBounds_toArray, List.set_cons_succ, List.set_cons_zero]
  refine AnyF.takeG (by rfl) 5 (some 28) (.move (.tmp 27)) none (.bool true) rfl (by kernel_rfl) (by kernel_rfl) (by kernel_rfl) (fun _ _ _ h => h) rfl (fun o h => by obtain rfl := Option.some.inj h; rfl) (fun o ho w2 hw => exec_move (.tmp 27) ho _ rfl w2) Ht4 ?_
  simp only [Act.put, List.setIfInBounds_toArray, List.set_cons_succ, List.set_cons_zero]
  refine AnyF.takeG (by rfl) 6 (some 29) (.load 24 (.tmp 5)) (some (5, true)) (.agg A) rfl (by kernel_rfl) (by kernel_rfl) (by kernel_rfl) (fun _ _ _ h => h) rfl (fun o h => by obtain rfl := Option.some.inj h; rfl) (fun o ho w2 hw => exec_load_of _ 24 (.tmp 5) ho ⟨w.heap.size, 0, none⟩ rfl _ (loadA IA (hw.get (w.heap.size) A 24 (by simp)))) Ht4 ?_
  simp only [Act.put, List.setIfInBounds_toArray, List.set_cons_succ, List.set_cons_zero]
  refine AnyF.takeG (by rfl) 7 (some 30) (.load 24 (.tmp 6)) (some (5, true)) (.agg B) rfl (by kernel_rfl) (by kernel_rfl) (by kernel_rfl) (fun _ _ _ h => h) rfl (fun o h => by obtain rfl := Option.some.inj h; rfl) (fun o ho w2 hw => exec_load_of _ 24 (.tmp 6) ho ⟨w.heap.size + 1, 0, none⟩ rfl _ (loadA IB (hw.get (w.heap.size + 1) B 24 (by simp)))) Ht4 ?_
  simp only [Act.put, List.setIfInBounds_toArray, List.set_cons_succ, List.set_cons_zero]
  refine AnyF.takeG (by rfl) 8 (some 31) (.load 24 (.tmp 7)) (some (5, true)) (.agg C) rfl (by kernel_rfl) (by kernel_rfl) (by kernel_rfl) (fun _ _ _ h => h) rfl (fun o h => by obtain rfl := Option.some.inj h; rfl) (fun o ho w2 hw => exec_load_of _ 24 (.tmp 7) ho ⟨w.heap.size + 1 + 1, 0, none⟩ rfl _ (loadA IC (hw.get (w.heap.size + 1 + 1) C 24 (by simp)))) Ht4 ?_
  simp only [Act.put, List.setIfInBounds_toArray, List.set_cons_succ, List.set_cons_zero]
  refine AnyF.takeG (by rfl) 10 (some 33) (.load 24 (.tmp 5)) (some (5, true)) (.agg A) rfl (by kernel_rfl) (by kernel_rfl) (by kernel_rfl) (fun _ _ _ h => h) rfl (fun o h => by obtain rfl := Option.some.inj h; rfl) (fun o ho w2 hw => exec_load_of _ 24 (.tmp 5) ho ⟨w.heap.size, 0, none⟩ rfl _ (loadA IA (hw.get (w.heap.size) A 24 (by simp)))) Ht4 ?_
  simp only [Act.put, List.setIfInBounds_toArray, List.set_cons_succ, List.set_cons_zero]
  refine AnyF.takeG (by rfl) 11 (some 34) (.load 24 (.tmp 6)) (some (5, true)) (.agg B) rfl (by kernel_rfl) (by kernel_rfl) (by kernel_rfl) (fun _ _ _ h => h) rfl (fun o h => by obtain rfl := Option.some.inj h; rfl) (fun o ho w2 hw => exec_load_of _ 24 (.tmp 6) ho ⟨w.heap.size + 1, 0, none⟩ rfl _ (loadA IB (hw.get (w.heap.size + 1) B 24 (by simp)))) Ht4 ?_
  simp only [Act.put, List.setIfInBounds_toArray, List.set_cons_succ, List.set_cons_zero]
  refine AnyF.takeG (by rfl) 12 (some 35) (.load 24 (.tmp 7)) (some (5, true)) (.agg C) rfl (by kernel_rfl) (by kernel_rfl) (by kernel_rfl) (fun _ _ _ h => h) rfl (fun o h => by obtain rfl := Option.some.inj h; rfl) (fun o ho w2 hw => exec_load_of _ 24 (.tmp 7) ho ⟨w.heap.size + 1 + 1, 0, none⟩ rfl _ (loadA IC (hw.get (w.heap.size + 1 + 1) C 24 (by simp)))) Ht4 ?_
  simp only [Act.put, List.setIfInBounds_toArray, List.set_cons_succ, List.set_cons_zero]
  refine AnyF.ready (rs := [9]) (by kernel_rfl) (by simp) (ReadyF.callG (some 32) 12 #[.tmp 29, .tmp 30, .tmp 31] #[24, 24, 24] (some (5, true)) rfl (fun o h => by obtain rfl := Option.some.inj h; rfl) #[.agg A, .agg B, .agg C] (by simp [Act.eval]) enters12 _ (H7.out _ (HG.out.below Ht4.1)) ?_ (fun c w' h => by cases h.1) (fun w' h => by cases h.1) ReadyF.nil)
  rintro v wt5 ⟨he, hb⟩
  cases he
  have Ht6 := Ht4.below hb
  clear hb
  refine ⟨Ht6, ?_⟩
  simp only [Act.put, List.setIfInBounds_toArray, List.set_cons_succ, List.set_cons_zero]
  refine AnyF.ready (rs := [13]) (by kernel_rfl) (by simp) (ReadyF.callG (some 36) 13 #[.tmp 33, .tmp 34, .tmp 35] #[24, 24, 24] (some (5, true)) rfl (fun o h => by obtain rfl := Option.some.inj h; rfl) #[.agg A, .agg B, .agg C] (by simp [Act.eval]) enters13 _ (H8.out _) ?_ (fun c w' h => by cases h.1) (fun w' h => by cases h.1) ReadyF.nil)
  rintro v wt7 ⟨he, hb⟩
  cases he
  have Ht8 := Ht6.below hb
  clear hb
  refine ⟨Ht8, ?_⟩
  simp only [Act.put, List.setIfInBounds_toArray, List.set_cons_succ, List.set_cons_zero]
  refine AnyF.takeG (by rfl) 14 (some 37) (.binOp .eql 24 (.tmp 32) (.tmp 36) 24) (some (5, true)) (.bool true) rfl (by kernel_rfl) (by kernel_rfl) (by kernel_rfl) (fun _ _ _ h => h) rfl (fun o h => by obtain rfl := Option.some.inj h; rfl) (fun o ho w2 hw => exec_eqAA (.tmp 32) (.tmp 36) ho M IM rfl rfl w2) Ht8 ?_
  simp only [Act.put, List.setIfInBounds_toArray, List.set_cons_succ, List.set_cons_zero]
  refine AnyF.takeG (by rfl) 15 (some 38) (.pick (.tmp 28) (.tmp 37) (.const (.bool false))) none (.bool true) rfl (by kernel_rfl) (by kernel_rfl) (by kernel_rfl) (fun _ _ _ h => h) rfl (fun o h => by obtain rfl := Option.some.inj h; rfl) (fun o ho w2 hw => exec_pickt (.tmp 28) (.tmp 37) (.const (.bool false)) ho rfl _ rfl w2) Ht8 ?_
  simp only [Act.put, List.setIfInBounds_toArray, List.set_cons_succ, List.set_cons_zero]
  refine AnyF.takeG (by rfl) 16 (some 39) (.move (.tmp 38)) none (.bool true) rfl (by kernel_rfl) (by kernel_rfl) (by kernel_rfl) (fun _ _ _ h => h) rfl (fun o h => by obtain rfl := Option.some.inj h; rfl) (fun o ho w2 hw => exec_move (.tmp 38) ho _ rfl w2) Ht8 ?_
  simp only [Act.put, List.setIfInBounds_toArray, List.set_cons_succ, List.set_cons_zero]
  refine AnyF.takeG (by rfl) 17 (some 40) (.load 24 (.tmp 5)) (some (16, true)) (.agg A) rfl (by kernel_rfl) (by kernel_rfl) (by kernel_rfl) (fun _ _ _ h => h) rfl (fun o h => by obtain rfl := Option.some.inj h; rfl) (fun o ho w2 hw => exec_load_of _ 24 (.tmp 5) ho ⟨w.heap.size, 0, none⟩ rfl _ (loadA IA (hw.get (w.heap.size) A 24 (by simp)))) Ht8 ?_
  simp only [Act.put, List.setIfInBounds_toArray, List.set_cons_succ, List.set_cons_zero]
  refine AnyF.takeG (by rfl) 19 (some 42) (.load 24 (.tmp 5)) (some (16, true)) (.agg A) rfl (by kernel_rfl) (by kernel_rfl) (by kernel_rfl) (fun _ _ _ h => h) rfl (fun o h => by obtain rfl := Option.some.inj h; rfl) (fun o ho w2 hw => exec_load_of _ 24 (.tmp 5) ho ⟨w.heap.size, 0, none⟩ rfl _ (loadA IA (hw.get (w.heap.size) A 24 (by simp)))) Ht8 ?_
  simp only [Act.put, List.setIfInBounds_toArray, List.set_cons_succ, List.set_cons_zero]
  refine AnyF.ready (rs := [18]) (by kernel_rfl) (by simp) (ReadyF.callG (some 41) 14 #[.tmp 40] #[24] (some (16, true)) rfl (fun o h => by obtain rfl := Option.some.inj h; rfl) #[.agg A] (by simp [Act.eval]) enters14 _ (H9.out _ (HG.out.below Ht8.1)) ?_ (fun c w' h => by cases h.1) (fun w' h => by cases h.1) ReadyF.nil)
  rintro v wt9 ⟨he, hb⟩
  cases he
  have Ht10 := Ht8.below hb
  clear hb
  refine ⟨Ht10, ?_⟩
  simp only [Act.put, List.setIfInBounds_toArray, List.set_cons_succ, List.set_cons_zero]
  refine AnyF.ready (rs := [20]) (by kernel_rfl) (by simp) (ReadyF.callG (some 43) 15 #[.tmp 42] #[24] (some (16, true)) rfl (fun o h => by obtain rfl := Option.some.inj h; rfl) #[.agg A] (by simp [Act.eval]) enters15 _ (H10.out _) ?_ (fun c w' h => by cases h.1) (fun w' h => by cases h.1) ReadyF.nil)
  rintro v wt11 ⟨he, hb⟩
  cases he
  have Ht12 := Ht10.below hb
  clear hb
  refine ⟨Ht12, ?_⟩
  simp only [Act.put, List.setIfInBounds_toArray, List.set_cons_succ, List.set_cons_zero]
  refine AnyF.takeG (by rfl) 21 (some 44) (.binOp .eql 9 (.tmp 41) (.tmp 43) 9) (some (16, true)) (.bool true) rfl (by kernel_rfl) (by kernel_rfl) (by kernel_rfl) (fun _ _ _ h => h) rfl (fun o h => by obtain rfl := Option.some.inj h; rfl) (fun o ho w2 hw => exec_eqSS (.tmp 41) (.tmp 43) ho SB rfl rfl w2) Ht12 ?_
  simp only [Act.put, List.setIfInBounds_toArray, List.set_cons_succ, List.set_cons_zero]
  refine AnyF.takeG (by rfl) 22 (some 45) (.pick (.tmp 39) (.tmp 44) (.const (.bool false))) none (.bool true) rfl (by kernel_rfl) (by kernel_rfl) (by kernel_rfl) (fun _ _ _ h => h) rfl (fun o h => by obtain rfl := Option.some.inj h; rfl) (fun o ho w2 hw => exec_pickt (.tmp 39) (.tmp 44) (.const (.bool false)) ho rfl _ rfl w2) Ht12 ?_
  simp only [Act.put, List.setIfInBounds_toArray, List.set_cons_succ, List.set_cons_zero]
  refine AnyF.takeG (by rfl) 23 (some 46) (.move (.tmp 45)) none (.bool true) rfl (by kernel_rfl) (by kernel_rfl) (by kernel_rfl) (fun _ _ _ h => h) rfl (fun o h => by obtain rfl := Option.some.inj h; rfl) (fun o ho w2 hw => exec_move (.tmp 45) ho _ rfl w2) Ht12 ?_
  simp only [Act.put, List.setIfInBounds_toArray, List.set_cons_succ, List.set_cons_zero]
  refine AnyF.takeG (by rfl) 24 (some 47) (.load 24 (.tmp 9)) (some (23, true)) (.agg X) rfl (by kernel_rfl) (by kernel_rfl) (by kernel_rfl) (fun _ _ _ h => h) rfl (fun o h => by obtain rfl := Option.some.inj h; rfl) (fun o ho w2 hw => exec_load_of _ 24 (.tmp 9) ho ⟨g9, 0, none⟩ rfl _ (loadA IX (hw.get (g9) X 24 (by simp)))) Ht12 ?_
  simp only [Act.put, List.setIfInBounds_toArray, List.set_cons_succ, List.set_cons_zero]
  refine AnyF.takeG (by rfl) 25 (some 48) (.fieldAddr 29 (.tmp 11) 0) (some (23, true)) (.pointer (some ⟨g11, 0, none⟩)) rfl (by kernel_rfl) (by kernel_rfl) (by kernel_rfl) (fun _ _ _ h => h) rfl (fun o h => by obtain rfl := Option.some.inj h; rfl) (fun o ho w2 hw => exec_field29_0 (.tmp 11) ho g11 rfl w2) Ht12 ?_
  simp only [Act.put, List.setIfInBounds_toArray, List.set_cons_succ, List.set_cons_zero]
  refine AnyF.takeG (by rfl) 26 (some 49) (.load 24 (.tmp 48)) (some (23, true)) (.agg X) rfl (by kernel_rfl) (by kernel_rfl) (by kernel_rfl) (fun _ _ _ h => h) rfl (fun o h => by obtain rfl := Option.some.inj h; rfl) (fun o ho w2 hw => exec_load_of _ 24 (.tmp 48) ho ⟨g11, 0, none⟩ rfl _ (got_num hGF hX2 (hw.get (g11) GF 29 (by simp)))) Ht12 ?_
  simp only [Act.put, List.setIfInBounds_toArray, List.set_cons_succ, List.set_cons_zero]
  refine AnyF.takeG (by rfl) 27 (some 50) (.binOp .eql 24 (.tmp 47) (.tmp 49) 24) (some (23, true)) (.bool true) rfl (by kernel_rfl) (by kernel_rfl) (by kernel_rfl) (fun _ _ _ h => h) rfl (fun o h => by obtain rfl := Option.some.inj h; rfl) (fun o ho w2 hw => exec_eqAA (.tmp 47) (.tmp 49) ho X IX rfl rfl w2) Ht12 ?_
  simp only [Act.put, List.setIfInBounds_toArray, List.set_cons_succ, List.set_cons_zero]
  refine AnyF.takeG (by rfl) 28 (some 51) (.pick (.tmp 46) (.tmp 50) (.const (.bool false))) none (.bool true) rfl (by kernel_rfl) (by kernel_rfl) (by kernel_rfl) (fun _ _ _ h => h) rfl (fun o h => by obtain rfl := Option.some.inj h; rfl) (fun o ho w2 hw => exec_pickt (.tmp 46) (.tmp 50) (.const (.bool false)) ho rfl _ rfl w2) Ht12 ?_
  simp only [Act.put, List.setIfInBounds_toArray, List.set_cons_succ, List.set_cons_zero]
  refine AnyF.takeG (by rfl) 29 (some 52) (.move (.tmp 51)) none (.bool true) rfl (by kernel_rfl) (by kernel_rfl) (by kernel_rfl) (fun _ _ _ h => h) rfl (fun o h => by obtain rfl := Option.some.inj h; rfl) (fun o ho w2 hw => exec_move (.tmp 51) ho _ rfl w2) Ht12 ?_
  simp only [Act.put, List.setIfInBounds_toArray, List.set_cons_succ, List.set_cons_zero]
  refine AnyF.takeG (by rfl) 30 (some 53) (.move (.tmp 10)) (some (29, true)) (.bool fb) rfl (by kernel_rfl) (by kernel_rfl) (by kernel_rfl) (fun _ _ _ h => h) rfl (fun o h => by obtain rfl := Option.some.inj h; rfl) (fun o ho w2 hw => exec_move (.tmp 10) ho _ rfl w2) Ht12 ?_
  simp only [Act.put, List.setIfInBounds_toArray, List.set_cons_succ, List.set_cons_zero]
  refine AnyF.takeG (by rfl) 31 (some 54) (.fieldAddr 29 (.tmp 11) 1) (some (29, true)) (.pointer (some ⟨g11, 4, none⟩)) rfl (by kernel_rfl) (by kernel_rfl) (by kernel_rfl) (fun _ _ _ h => h) rfl (fun o h => by obtain rfl := Option.some.inj h; rfl) (fun o ho w2 hw => exec_field29_1 (.tmp 11) ho g11 rfl w2) Ht12 ?_
  simp only [Act.put, List.setIfInBounds_toArray, List.set_cons_succ, List.set_cons_zero]
  refine AnyF.takeG (by rfl) 32 (some 55) (.load 4 (.tmp 54)) (some (29, true)) (.bool fb) rfl (by kernel_rfl) (by kernel_rfl) (by kernel_rfl) (fun _ _ _ h => h) rfl (fun o h => by obtain rfl := Option.some.inj h; rfl) (fun o ho w2 hw => exec_load_one w2 4 (.tmp 54) ho ⟨g11, 4, none⟩ rfl _ (got_bool hGF (hw.get (g11) GF 29 (by simp))) _ Tryd.underlying4 rfl) Ht12 ?_
  simp only [Act.put, List.setIfInBounds_toArray, List.set_cons_succ, List.set_cons_zero]
  refine AnyF.takeG (by rfl) 33 (some 56) (.binOp .eql 4 (.tmp 53) (.tmp 55) 4) (some (29, true)) (.bool true) rfl (by kernel_rfl) (by kernel_rfl) (by kernel_rfl) (fun _ _ _ h => h) rfl (fun o h => by obtain rfl := Option.some.inj h; rfl) (fun o ho w2 hw => exec_eqBB (.tmp 53) (.tmp 55) ho fb rfl rfl w2) Ht12 ?_
  simp only [Act.put, List.setIfInBounds_toArray, List.set_cons_succ, List.set_cons_zero]
  refine AnyF.takeG (by rfl) 34 (some 57) (.pick (.tmp 52) (.tmp 56) (.const (.bool false))) none (.bool true) rfl (by kernel_rfl) (by kernel_rfl) (by kernel_rfl) (fun _ _ _ h => h) rfl (fun o h => by obtain rfl := Option.some.inj h; rfl) (fun o ho w2 hw => exec_pickt (.tmp 52) (.tmp 56) (.const (.bool false)) ho rfl _ rfl w2) Ht12 ?_
  simp only [Act.put, List.setIfInBounds_toArray, List.set_cons_succ, List.set_cons_zero]
  refine AnyF.takeG (by rfl) 35 (some 58) (.move (.tmp 57)) none (.bool true) rfl (by kernel_rfl) (by kernel_rfl) (by kernel_rfl) (fun _ _ _ h => h) rfl (fun o h => by obtain rfl := Option.some.inj h; rfl) (fun o ho w2 hw => exec_move (.tmp 57) ho _ rfl w2) Ht12 ?_
  simp only [Act.put, List.setIfInBounds_toArray, List.set_cons_succ, List.set_cons_zero]
  refine AnyF.ready (rs := [36]) (by kernel_rfl) (by simp) (ReadyF.callG (some 59) 7 #[] #[] (some (35, true)) rfl (fun o h => by obtain rfl := Option.some.inj h; rfl) #[] (by simp [Act.eval]) enters7 _ (H11.out _ (HG.out.below Ht12.1)) ?_ (fun c w' h => by cases h.1) (fun w' h => by cases h.1) ReadyF.nil)
  rintro v wt13 ⟨he, hb⟩
  cases he
  have Ht14 := Ht12.below hb
  clear hb
  refine ⟨Ht14, ?_⟩
  simp only [Act.put, List.setIfInBounds_toArray, List.set_cons_succ, List.set_cons_zero]
  refine AnyF.takeG (by rfl) 37 (some 60) (.pick (.tmp 58) (.tmp 59) (.const (.bool false))) none (.bool true) rfl (by kernel_rfl) (by kernel_rfl) (by kernel_rfl) (fun _ _ _ h => h) rfl (fun o h => by obtain rfl := Option.some.inj h; rfl) (fun o ho w2 hw => exec_pickt (.tmp 58) (.tmp 59) (.const (.bool false)) ho rfl _ rfl w2) Ht14 ?_
  simp only [Act.put, List.setIfInBounds_toArray, List.set_cons_succ, List.set_cons_zero]
  refine AnyF.takeG (by rfl) 38 (some 8) (.assign (.tmp 60)) none (.bool true) rfl (by kernel_rfl) (by kernel_rfl) (by kernel_rfl) (fun _ _ _ h => h) rfl (fun o h => by obtain rfl := Option.some.inj h; rfl) (fun o ho w2 hw => exec_assign (.tmp 60) ho _ rfl w2) Ht14 ?_
  simp only [Act.put, List.setIfInBounds_toArray, List.set_cons_succ, List.set_cons_zero]
  refine AnyF.done (by kernel_rfl) ?_ _
  refine nrm_intro ?_
  go_wp2
  go_ret
  exact ⟨rfl, Ht14.1⟩
end Go.Proofs.YtfcnfcolhahghaaDoor
