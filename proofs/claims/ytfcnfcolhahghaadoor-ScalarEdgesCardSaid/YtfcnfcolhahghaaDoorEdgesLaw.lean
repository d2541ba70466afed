/- The law ScalarEdges walked: it returns true at any number and any text, and no memory that was there is changed. No condition but that the order stands in memory. -/
import Derived.Test.YtfcnfcolhahghaaDoorBackLaw
namespace Go.Proofs.YtfcnfcolhahghaaDoor
open Go.RowKit Go.Shelf
set_option linter.unusedVariables false
set_option linter.unusedSimpArgs false
def LM : Nat := 7237005577332262213973186563042994240857116359379907606001950938285454250988
theorem LM_lt : LM < LL := by decide
theorem LM_row : (rowOf .u64 4 (upd (dig LL) 0 6346243789798364140)).toArray = num LM := by
  unfold num
  rw [rowOf_ext (f := upd (dig LL) 0 6346243789798364140) (g := dig LM)]
  intro j hj
  rcases (show j = 0 ∨ j = 1 ∨ j = 2 ∨ j = 3 by omega) with rfl | rfl | rfl | rfl <;> decide
theorem dig_LL0 : dig LL 0 = 6346243789798364141 := by decide
theorem edge_one : muladdL LM 1 1 = 0 := by decide
theorem edge_sq : muladdL LM LM 0 = 1 := by decide
theorem edge_k (n : Nat) : muladdL LM n n = 0 := by
  unfold muladdL
  rw [show LM * n + n = LL * n by rw [show LL = LM + 1 by decide, Nat.add_mul, Nat.one_mul]]
  exact Nat.mul_mod_right _ _
theorem edge_up (l : List UInt8) (h : l.length ≤ 40) : reduceL (0 :: l) = muladdL 256 (reduceL l) 0 := by
  unfold reduceL muladdL
  rw [List.take_of_length_le (by rw [List.length_cons]; omega), List.take_of_length_le (by omega), Nat.add_zero, Nat.mul_mod_mod]
  show (0 + 256 * leVal l) % LL = _
  rw [Nat.zero_add]
theorem exec_conv43 {ρ : Operand → Value} {o : Oper} (x : Operand) (ho : o.op = .convert 43 22 x) (c : Nat) (hc : c < 18446744073709551616) (hx : ρ x = .int .u16 (c : Int)) (w : World) : (execOp ρ o).run Tryd.prog w = .ok (.value (.int .u64 (c : Int))) w := by
  have hw : IntKind.u64.wrap (c : Int) = (c : Int) := wrap_id hc
  unfold execOp
  rw [ho]
  simp only [hx]
  go_simp
set_option maxRecDepth 100000 in
set_option maxHeartbeats 1000000 in
theorem edges_any (n : Nat) (s : ByteArray) (hn : n < 65536) (hs : s.size ≤ 40) (w : World) (hG0 : Glob w) :
    Calls Tryd.prog 6 #[.int .u16 n, .string s] w fun e w' => e = .returned (.bool true) ∧ Below w.heap.size w w' := by
  have HG := Lib.hid hG0
  have hn4 : n < 115792089237316195423570985008687907853269984665640564039457584007913129639936 := by omega
  have hlm4 : LM < 115792089237316195423570985008687907853269984665640564039457584007913129639936 := LL_lt LM_lt
  have hv4 := LL_lt (reduceL_lt s.data.toList)
  have hsl : s.data.toList.length = s.size := rfl
  have hsb : (⟨(bytesN LM).toArray⟩ : ByteArray).size = 32 := bytesN_length _
  obtain ⟨S33, h33⟩ : ∃ S33 : ByteArray, S33 = (⟨(bytesN LM).toArray⟩ : ByteArray) ++ ⟨#[0]⟩ := ⟨_, rfl⟩
  have h33s : S33.size = 33 := by rw [h33, ByteArray.size_append, hsb]; rfl
  obtain ⟨S0, hS0⟩ : ∃ S0 : ByteArray, S0 = (⟨#[0]⟩ : ByteArray) ++ s := ⟨_, rfl⟩
  have hS0l : S0.data.toList = 0 :: s.data.toList := by rw [hS0]; simp [ByteArray.data_append]
  have hS0s : S0.size ≤ 41 := by
    show S0.data.toList.length ≤ 41
    rw [hS0l, List.length_cons]
    omega
  have HO := Lib.hid order_any
  have H1 : Hid (∀ w, Glob w → _) := Lib.hid (bytes_any LM hlm4)
  rw [Nat.mod_eq_of_lt LM_lt] at H1
  have H2 : Hid (∀ w, Glob w → _) := Lib.hid (from_any ⟨(bytesN LM).toArray⟩ (by rw [hsb]; omega))
  rw [show fromL (⟨(bytesN LM).toArray⟩ : ByteArray).data.toList = (LM, true) by
    show fromL (bytesN LM) = _
    unfold fromL
    rw [leVal_bytesN _ hlm4, if_pos ⟨bytesN_length _, LM_lt⟩]] at H2
  have H3 : Hid (∀ w, Glob w → _) := Lib.hid (from_any S33 (by omega))
  rw [show fromL S33.data.toList = (0, false) by
    unfold fromL
    rw [if_neg]
    rintro ⟨h, _⟩
    have h2 : S33.data.toList.length = 33 := h33s
    omega] at H3
  have H4 : Hid (∀ w, Glob w → _) := Lib.hid (reduce_any ⟨#[]⟩ (by decide))
  rw [show reduceL (⟨#[]⟩ : ByteArray).data.toList = 0 by decide] at H4
  have H5 : Hid (∀ w, Glob w → _) := Lib.hid (muladd_any LM 1 1 hlm4 (by decide) (by decide))
  rw [edge_one] at H5
  have H6 : Hid (∀ w, Glob w → _) := Lib.hid (muladd_any LM LM 0 hlm4 hlm4 (by decide))
  rw [edge_sq] at H6
  have H7 : Hid (∀ w, Glob w → _) := Lib.hid (muladd_any LM n n hlm4 hn4 hn4)
  rw [edge_k] at H7
  have H8 : Hid (∀ w, Glob w → _) := Lib.hid (reduce_any ⟨(bytesN LM).toArray⟩ (by rw [hsb]; omega))
  rw [show reduceL (⟨(bytesN LM).toArray⟩ : ByteArray).data.toList = LM by
    show reduceL (bytesN LM) = _
    rw [reduceL_bytes _ hlm4, Nat.mod_eq_of_lt LM_lt]] at H8
  have H9 : Hid (∀ w, Glob w → _) := Lib.hid (reduce_any S0 (by omega))
  rw [hS0l, edge_up _ hs] at H9
  have H10 : Hid (∀ w, Glob w → _) := Lib.hid (reduce_any s (by omega))
  have H11 : Hid (∀ w, Glob w → _) := Lib.hid (muladd_any 256 (reduceL s.data.toList) 0 (by decide) hv4 (by decide))
  have H12 : Hid (∀ w, Glob w → _) := Lib.hid awake_any
  have hbn := build_run n (by omega)
  have hb1 := build_run 1 (by decide)
  have hb256 := build_run 256 (by decide)
  have hb0 := build0_run
  have hrowL := LM_row
  obtain ⟨K, hK⟩ : ∃ K, Hid (K = num n) := ⟨_, Lib.hid rfl⟩
  have IK : IsNum K := by rw [hK.out]; exact isNum _
  obtain ⟨U1, hU1⟩ : ∃ U1, Hid (U1 = num 1) := ⟨_, Lib.hid rfl⟩
  have IU1 : IsNum U1 := by rw [hU1.out]; exact isNum _
  obtain ⟨OL, hOL⟩ : ∃ OL, Hid (OL = num LL) := ⟨_, Lib.hid rfl⟩
  have IOL : IsNum OL := by rw [hOL.out]; exact isNum _
  obtain ⟨LA, hLA⟩ : ∃ LA, Hid (LA = num LM) := ⟨_, Lib.hid rfl⟩
  have ILA : IsNum LA := by rw [hLA.out]; exact isNum _
  obtain ⟨V, hV⟩ : ∃ V, Hid (V = num (reduceL s.data.toList)) := ⟨_, Lib.hid rfl⟩
  have IV : IsNum V := by rw [hV.out]; exact isNum _
  obtain ⟨X, hX⟩ : ∃ X, Hid (X = num (muladdL 256 (reduceL s.data.toList) 0)) := ⟨_, Lib.hid rfl⟩
  have IX : IsNum X := by rw [hX.out]; exact isNum _
  obtain ⟨C256, hC256⟩ : ∃ C256, Hid (C256 = num 256) := ⟨_, Lib.hid rfl⟩
  have IC256 : IsNum C256 := by rw [hC256.out]; exact isNum _
  have HZ := zero_run
  obtain ⟨Z, hZ⟩ : ∃ Z, Hid (Z = num 0) := ⟨_, Lib.hid rfl⟩
  have IZ : IsNum Z := by rw [hZ.out]; exact isNum _
  have IZ2 := IZ.size
  have HZ2 : ∀ w, (zeroValue 24).run Tryd.prog w = .ok (.agg Z) w := by rw [hZ.out]; exact HZ
  clear HZ
  obtain ⟨SB, hSB⟩ : ∃ SB : ByteArray, Hid (SB = ⟨(bytesN LM).toArray⟩) := ⟨_, Lib.hid rfl⟩
  obtain ⟨ES, hES⟩ : ∃ ES : ByteArray, Hid (ES = ⟨#[]⟩) := ⟨_, Lib.hid rfl⟩
  obtain ⟨NS, hNS⟩ : ∃ NS : ByteArray, Hid (NS = ⟨#[0]⟩) := ⟨_, Lib.hid rfl⟩
  rw [← hOL.out] at HO
  rw [← hLA.out, ← hSB.out] at H1
  rw [← hSB.out] at H2 h33 hsb H8
  rw [show num (LM, true).fst = LA from hLA.out.symm] at H2
  rw [show num (0, false).fst = Z from hZ.out.symm] at H3
  rw [← hZ.out] at H4
  rw [← hLA.out, ← hU1.out, ← hZ.out] at H5
  rw [← hLA.out, ← hZ.out, ← hU1.out] at H6
  rw [← hLA.out, ← hK.out, ← hZ.out] at H7
  rw [← hLA.out] at H8 hrowL
  rw [← hX.out] at H9
  rw [← hV.out] at H10
  rw [← hC256.out, ← hV.out, ← hZ.out, ← hX.out] at H11
  rw [← hK.out] at hbn
  rw [← hU1.out] at hb1
  rw [← hC256.out] at hb256
  rw [← hZ.out] at hb0
  rw [← hNS.out] at h33 hS0
  have HBN := Lib.hid hbn
  have HB1 := Lib.hid hb1
  have HB256 := Lib.hid hb256
  have HB0 := Lib.hid hb0
  have H33 := Lib.hid h33.symm
  have HS0 := Lib.hid hS0.symm
  have HRL := Lib.hid hrowL
  have hsI : (s.size : Int) ≤ 40 := by omega
  have hs6 : s.size ≤ 1000000 := by omega
  have hsb6 : SB.size ≤ 1000000 := by omega
  have hns6 : NS.size ≤ 1000000 := by rw [hNS.out]; decide
  have hn64 : n < 18446744073709551616 := by omega
  clear hG0 hn4 hlm4 hv4 hsl hsb h33 h33s hS0 hS0l hS0s hbn hb1 hb256 hb0 hrowL hn hs hK hU1 hLA hV hX hC256 hZ hSB
  have HS : Hid (Kn w [] w) := Lib.hid (Kn.nil w)
  go_enter Tryd.func6, Tryd.ntmps6
  have HS1_ : Kn w [(w.heap.size, K)] (w.alloc (.cells K 24)) := (HS.out.new K).sub (fun p hp => by simp at hp ⊢; simp [hp])
  have HS1 := Lib.hid HS1_
  clear HS1_ HS
  go_upto_region 4 with (first | (refine wpList_run rfl _ (exec_conv43 (.tmp 17) rfl n hn64 rfl _) ?_) | (refine wpList_run rfl _ (exec_build1 _ 24 0 (.tmp 18) rfl (.int .u64 (n : Int)) rfl _ (HBN.out _)) ?_) | ((refine wpList_run rfl _ (exec_alloc_agg _ 24 rfl _ (HZ2 _)) ?_); try simp only [World.size_alloc]) | (refine wpList_run0 rfl (exec_new24 _ (.tmp 5) (.tmp 19) rfl _ _ rfl K IK rfl IZ2) ?_))
  try simp only [Act.put, List.setIfInBounds_toArray, List.set_cons_succ, List.set_cons_zero]
  obtain ⟨W1, hW1⟩ : ∃ W1, W1 = w.alloc (.cells K 24) := ⟨_, rfl⟩
  rw [← hW1] at HS1 ⊢
  clear hW1
  have hk0 := HS1.out.lt (w.heap.size) K (by simp)
  have HS2_ : Kn w [(w.heap.size, K), (W1.heap.size, U1)] (W1.alloc (.cells U1 24)) := (HS1.out.new U1).sub (fun p hp => by simp at hp ⊢; rcases hp with h | h <;> simp [h])
  have HS2 := Lib.hid HS2_
  clear HS2_ HS1
  go_upto_region 5 with (first | (refine wpList_run rfl _ (exec_build1 _ 24 0 (.const (.int .u64 1)) rfl (.int .u64 1) rfl _ (HB1.out _)) ?_) | ((refine wpList_run rfl _ (exec_alloc_agg _ 24 rfl _ (HZ2 _)) ?_); try simp only [World.size_alloc]) | (refine wpList_run0 rfl (exec_new24 _ (.tmp 6) (.tmp 20) rfl _ _ rfl U1 IU1 rfl IZ2) ?_))
  try simp only [Act.put, List.setIfInBounds_toArray, List.set_cons_succ, List.set_cons_zero]
  generalize W1.alloc (.cells U1 24) = W2 at *
  generalize W1.heap.size = gU at *
  go_wp2_with fail
  refine (HO.out _).mono ?_
  rintro e w3 ⟨rfl, hb⟩
  have HS3 := Lib.hid (HS2.out.below hb)
  clear hb HS2 HO
  have hku := HS3.out.lt gU U1 (by simp)
  have hkk := HS3.out.lt (w.heap.size) K (by simp)
  have HS4_ : Kn w [(w.heap.size, K), (gU, U1), (w3.heap.size, OL)] (w3.alloc (.cells OL 24)) := (HS3.out.new OL).sub (fun p hp => by simp at hp ⊢; rcases hp with h | h | h <;> simp [h])
  have HS4 := Lib.hid HS4_
  clear HS4_ HS3
  go_upto_region 6 with (first | ((refine wpList_run rfl _ (exec_alloc_agg _ 24 rfl _ (HZ2 _)) ?_); try simp only [World.size_alloc]) | (refine wpList_run0 rfl (exec_new24 _ (.tmp 7) (.tmp 21) rfl _ _ rfl OL IOL rfl IZ2) ?_))
  try simp only [Act.put, List.setIfInBounds_toArray, List.set_cons_succ, List.set_cons_zero]
  generalize w3.alloc (.cells OL 24) = W4 at *
  generalize w3.heap.size = gL at *
  have hrow : Row W4 gL 24 .u64 4 (dig LL) := by
    have h := HS4.out.get gL OL (by simp)
    rw [hOL.out] at h
    exact h
  have hc0 : W4.cell? ⟨gL, 0, none⟩ = some (.int .u64 6346243789798364141) := by
    have h := hrow.cell 0 (by decide)
    rw [dig_LL0] at h
    exact h
  have hf0 := hrow.free 0
  have HS5 : Hid (Kn w [(w.heap.size, K), (gU, U1), (gL, LA)] (W4.setCell ⟨gL, 0, none⟩ (.int .u64 6346243789798364140))) := by
    have h := HS4.out.setw (m := [(w.heap.size, K), (gU, U1), (gL, (rowOf .u64 4 (upd (dig LL) 0 6346243789798364140)).toArray)]) gL (dig LL) 0 6346243789798364140 hrow (by omega) (fun p hp => by simp at hp; rcases hp with rfl | rfl | rfl <;> first | exact .inl rfl | exact .inr ⟨by simp, by simp only; omega⟩)
    rw [HRL.out] at h
    exact Lib.hid h
  clear hrow HS4
  go_upto_region 7 with (refine wpList_run rfl _ (exec_indexAddr24 (.tmp 7) (.const (.int .i64 0)) rfl gL 0 rfl rfl (by decide) _) ?_)
  try simp only [Act.put, List.setIfInBounds_toArray, List.set_cons_succ, List.set_cons_zero]
  clear hc0 hf0
  generalize W4.setCell ⟨gL, 0, none⟩ (.int .u64 6346243789798364140) = W5 at *
  have hl26 := HS5.out.load gL LA (by simp) ILA
  go_wp2_with (refine wpList_run rfl _ (exec_load_of _ 24 (.tmp 7) rfl ⟨gL, 0, none⟩ rfl (.agg LA) hl26) ?_)
  clear hl26
  refine (H1.out _ (HG.out.kn HS5.out)).mono ?_
  rintro e w6 ⟨rfl, hb⟩
  have HS6 := Lib.hid (HS5.out.below hb)
  clear hb HS5 H1
  go_wp2_with fail
  refine (H2.out _ (HG.out.kn HS6.out)).mono ?_
  rintro e w7 ⟨rfl, hb⟩
  have HS7 := Lib.hid (HS6.out.below hb)
  clear hb HS6 H2
  have HS8_ : Kn w [(w.heap.size, K), (gU, U1), (gL, LA), (w7.heap.size, LA)] (w7.alloc (.cells LA 24)) := (HS7.out.new LA).sub (fun p hp => by simp at hp ⊢; rcases hp with h | h | h | h <;> simp [h])
  have HS8 := Lib.hid HS8_
  clear HS8_ HS7
  go_upto_region 9 with (first | ((refine wpList_run rfl _ (exec_alloc_agg _ 24 rfl _ (HZ2 _)) ?_); try simp only [World.size_alloc]) | (refine wpList_run0 rfl (exec_new24 _ (.tmp 9) (.tmp 31) rfl _ _ rfl LA ILA rfl IZ2) ?_))
  try simp only [Act.put, List.setIfInBounds_toArray, List.set_cons_succ, List.set_cons_zero]
  generalize w7.alloc (.cells LA 24) = W7 at *
  generalize w7.heap.size = gX at *
  rw [← hNS.out]
  go_wp2_with (refine wpList_run rfl _ (exec_catv (.tmp 34) _ rfl SB NS S33 hsb6 hns6 H33.out rfl rfl _) ?_)
  refine (H3.out _ (HG.out.kn HS8.out)).mono ?_
  rintro e w8 ⟨rfl, hb⟩
  have HS9 := Lib.hid (HS8.out.below hb)
  clear hb HS8 H3
  have HS10 := Lib.hid (HS9.out.alloc (.cells Z 24))
  clear HS9
  go_upto_region 10 with (first | ((refine wpList_run rfl _ (exec_alloc_agg _ 24 rfl _ (HZ2 _)) ?_); try simp only [World.size_alloc]) | (refine wpList_run0 rfl (exec_new24 _ (.tmp 11) (.tmp 37) rfl _ _ rfl Z IZ rfl IZ2) ?_))
  try simp only [Act.put, List.setIfInBounds_toArray, List.set_cons_succ, List.set_cons_zero]
  generalize w8.alloc (.cells Z 24) = W8 at *
  generalize w8.heap.size = gY at *
  go_wp2
  refine wp_nrm ?_
  refine wp_region_any (by kernel_rfl) ?_
  change wpAny _ _ _ _ _ _ _ (World.drew _)
  have HD := HS10.out.drew
  clear HS10
  generalize W8.drew = Wd at *
  refine any_of_F (S := Kn w [(w.heap.size, K), (gU, U1), (gL, LA), (gX, LA)]) (f := 1000) _ _ _ _ ?_
  refine AnyF.takeG (by rfl) 1 (some 40) (.build 24 #[]) none (.agg Z) rfl (by kernel_rfl) (by kernel_rfl) (by kernel_rfl) (fun _ _ _ h => h) rfl (fun o h => by obtain rfl := Option.some.inj h; rfl) (fun o ho w2 hw => exec_build0 ho _ (HB0.out w2) w2) HD ?_
  simp only [Act.put, List.setIfInBounds_toArray, List.set_cons_succ, List.set_cons_zero]
  refine AnyF.ready (rs := [0]) (by kernel_rfl) (by simp) (ReadyF.call (some 39) 10 #[.const (.string { data := #[] })] #[9] rfl #[.string { data := #[] }] (by simp [Act.eval]) enters10 _ (H4.out _ (HG.out.kn HD)) ?_ (fun c w' h => by cases h.1) (fun w' h => by cases h.1) ReadyF.nil)
  rintro v wt1 ⟨he, hb⟩
  cases he
  have Ht2 := HD.below hb
  clear hb
  refine ⟨Ht2, ?_⟩
  simp only [Act.put, List.setIfInBounds_toArray, List.set_cons_succ, List.set_cons_zero]
  refine AnyF.takeG (by rfl) 2 (some 41) (.binOp .eql 24 (.tmp 39) (.tmp 40) 24) none (.bool true) rfl (by kernel_rfl) (by kernel_rfl) (by kernel_rfl) (fun _ _ _ h => h) rfl (fun o h => by obtain rfl := Option.some.inj h; rfl) (fun o ho w2 hw => exec_eqA (.tmp 39) (.tmp 40) ho Z IZ rfl rfl w2) Ht2 ?_
  simp only [Act.put, List.setIfInBounds_toArray, List.set_cons_succ, List.set_cons_zero]
  refine AnyF.takeG (by rfl) 3 (some 42) (.move (.tmp 41)) none (.bool true) rfl (by kernel_rfl) (by kernel_rfl) (by kernel_rfl) (fun _ _ _ h => h) rfl (fun o h => by obtain rfl := Option.some.inj h; rfl) (fun o ho w2 hw => exec_move (.tmp 41) ho _ rfl w2) Ht2 ?_
  simp only [Act.put, List.setIfInBounds_toArray, List.set_cons_succ, List.set_cons_zero]
  refine AnyF.takeG (by rfl) 4 (some 43) (.load 24 (.tmp 7)) (some (3, true)) (.agg LA) rfl (by kernel_rfl) (by kernel_rfl) (by kernel_rfl) (fun _ _ _ h => h) rfl (fun o h => by obtain rfl := Option.some.inj h; rfl) (fun o ho w2 hw => exec_load_of _ 24 (.tmp 7) ho ⟨gL, 0, none⟩ rfl _ (hw.load (gL) LA (by simp) ILA)) Ht2 ?_
  simp only [Act.put, List.setIfInBounds_toArray, List.set_cons_succ, List.set_cons_zero]
  refine AnyF.takeG (by rfl) 5 (some 44) (.load 24 (.tmp 6)) (some (3, true)) (.agg U1) rfl (by kernel_rfl) (by kernel_rfl) (by kernel_rfl) (fun _ _ _ h => h) rfl (fun o h => by obtain rfl := Option.some.inj h; rfl) (fun o ho w2 hw => exec_load_of _ 24 (.tmp 6) ho ⟨gU, 0, none⟩ rfl _ (hw.load (gU) U1 (by simp) IU1)) Ht2 ?_
  simp only [Act.put, List.setIfInBounds_toArray, List.set_cons_succ, List.set_cons_zero]
  refine AnyF.takeG (by rfl) 6 (some 45) (.load 24 (.tmp 6)) (some (3, true)) (.agg U1) rfl (by kernel_rfl) (by kernel_rfl) (by kernel_rfl) (fun _ _ _ h => h) rfl (fun o h => by obtain rfl := Option.some.inj h; rfl) (fun o ho w2 hw => exec_load_of _ 24 (.tmp 6) ho ⟨gU, 0, none⟩ rfl _ (hw.load (gU) U1 (by simp) IU1)) Ht2 ?_
  simp only [Act.put, List.setIfInBounds_toArray, List.set_cons_succ, List.set_cons_zero]
  refine AnyF.takeG (by rfl) 8 (some 47) (.build 24 #[]) (some (3, true)) (.agg Z) rfl (by kernel_rfl) (by kernel_rfl) (by kernel_rfl) (fun _ _ _ h => h) rfl (fun o h => by obtain rfl := Option.some.inj h; rfl) (fun o ho w2 hw => exec_build0 ho _ (HB0.out w2) w2) Ht2 ?_
  simp only [Act.put, List.setIfInBounds_toArray, List.set_cons_succ, List.set_cons_zero]
  refine AnyF.ready (rs := [7]) (by kernel_rfl) (by simp) (ReadyF.callG (some 46) 12 #[.tmp 43, .tmp 44, .tmp 45] #[24, 24, 24] (some (3, true)) rfl (fun o h => by obtain rfl := Option.some.inj h; rfl) #[.agg LA, .agg U1, .agg U1] (by simp [Act.eval]) enters12 _ (H5.out _ (HG.out.kn Ht2)) ?_ (fun c w' h => by cases h.1) (fun w' h => by cases h.1) ReadyF.nil)
  rintro v wt3 ⟨he, hb⟩
  cases he
  have Ht4 := Ht2.below hb
  clear hb
  refine ⟨Ht4, ?_⟩
  simp only [Act.put, List.setIfInBounds_toArray, List.set_cons_succ, List.set_cons_zero]
  refine AnyF.takeG (by rfl) 9 (some 48) (.binOp .eql 24 (.tmp 46) (.tmp 47) 24) (some (3, true)) (.bool true) rfl (by kernel_rfl) (by kernel_rfl) (by kernel_rfl) (fun _ _ _ h => h) rfl (fun o h => by obtain rfl := Option.some.inj h; rfl) (fun o ho w2 hw => exec_eqA (.tmp 46) (.tmp 47) ho Z IZ rfl rfl w2) Ht4 ?_
  simp only [Act.put, List.setIfInBounds_toArray, List.set_cons_succ, List.set_cons_zero]
  refine AnyF.takeG (by rfl) 10 (some 49) (.pick (.tmp 42) (.tmp 48) (.const (.bool false))) none (.bool true) rfl (by kernel_rfl) (by kernel_rfl) (by kernel_rfl) (fun _ _ _ h => h) rfl (fun o h => by obtain rfl := Option.some.inj h; rfl) (fun o ho w2 hw => exec_pickt (.tmp 42) (.tmp 48) (.const (.bool false)) ho rfl _ rfl w2) Ht4 ?_
  simp only [Act.put, List.setIfInBounds_toArray, List.set_cons_succ, List.set_cons_zero]
  refine AnyF.takeG (by rfl) 11 (some 50) (.move (.tmp 49)) none (.bool true) rfl (by kernel_rfl) (by kernel_rfl) (by kernel_rfl) (fun _ _ _ h => h) rfl (fun o h => by obtain rfl := Option.some.inj h; rfl) (fun o ho w2 hw => exec_move (.tmp 49) ho _ rfl w2) Ht4 ?_
  simp only [Act.put, List.setIfInBounds_toArray, List.set_cons_succ, List.set_cons_zero]
  refine AnyF.takeG (by rfl) 12 (some 51) (.load 24 (.tmp 7)) (some (11, true)) (.agg LA) rfl (by kernel_rfl) (by kernel_rfl) (by kernel_rfl) (fun _ _ _ h => h) rfl (fun o h => by obtain rfl := Option.some.inj h; rfl) (fun o ho w2 hw => exec_load_of _ 24 (.tmp 7) ho ⟨gL, 0, none⟩ rfl _ (hw.load (gL) LA (by simp) ILA)) Ht4 ?_
  simp only [Act.put, List.setIfInBounds_toArray, List.set_cons_succ, List.set_cons_zero]
  refine AnyF.takeG (by rfl) 13 (some 52) (.load 24 (.tmp 7)) (some (11, true)) (.agg LA) rfl (by kernel_rfl) (by kernel_rfl) (by kernel_rfl) (fun _ _ _ h => h) rfl (fun o h => by obtain rfl := Option.some.inj h; rfl) (fun o ho w2 hw => exec_load_of _ 24 (.tmp 7) ho ⟨gL, 0, none⟩ rfl _ (hw.load (gL) LA (by simp) ILA)) Ht4 ?_
  simp only [Act.put, List.setIfInBounds_toArray, List.set_cons_succ, List.set_cons_zero]
  refine AnyF.takeG (by rfl) 14 (some 53) (.build 24 #[]) (some (11, true)) (.agg Z) rfl (by kernel_rfl) (by kernel_rfl) (by kernel_rfl) (fun _ _ _ h => h) rfl (fun o h => by obtain rfl := Option.some.inj h; rfl) (fun o ho w2 hw => exec_build0 ho _ (HB0.out w2) w2) Ht4 ?_
  simp only [Act.put, List.setIfInBounds_toArray, List.set_cons_succ, List.set_cons_zero]
  refine AnyF.takeG (by rfl) 16 (some 55) (.load 24 (.tmp 6)) (some (11, true)) (.agg U1) rfl (by kernel_rfl) (by kernel_rfl) (by kernel_rfl) (fun _ _ _ h => h) rfl (fun o h => by obtain rfl := Option.some.inj h; rfl) (fun o ho w2 hw => exec_load_of _ 24 (.tmp 6) ho ⟨gU, 0, none⟩ rfl _ (hw.load (gU) U1 (by simp) IU1)) Ht4 ?_
  simp only [Act.put, List.setIfInBounds_toArray, List.set_cons_succ, List.set_cons_zero]
  refine AnyF.ready (rs := [15]) (by kernel_rfl) (by simp) (ReadyF.callG (some 54) 12 #[.tmp 51, .tmp 52, .tmp 53] #[24, 24, 24] (some (11, true)) rfl (fun o h => by obtain rfl := Option.some.inj h; rfl) #[.agg LA, .agg LA, .agg Z] (by simp [Act.eval]) enters12 _ (H6.out _ (HG.out.kn Ht4)) ?_ (fun c w' h => by cases h.1) (fun w' h => by cases h.1) ReadyF.nil)
  rintro v wt5 ⟨he, hb⟩
  cases he
  have Ht6 := Ht4.below hb
  clear hb
  refine ⟨Ht6, ?_⟩
  simp only [Act.put, List.setIfInBounds_toArray, List.set_cons_succ, List.set_cons_zero]
  refine AnyF.takeG (by rfl) 17 (some 56) (.binOp .eql 24 (.tmp 54) (.tmp 55) 24) (some (11, true)) (.bool true) rfl (by kernel_rfl) (by kernel_rfl) (by kernel_rfl) (fun _ _ _ h => h) rfl (fun o h => by obtain rfl := Option.some.inj h; rfl) (fun o ho w2 hw => exec_eqA (.tmp 54) (.tmp 55) ho U1 IU1 rfl rfl w2) Ht6 ?_
  simp only [Act.put, List.setIfInBounds_toArray, List.set_cons_succ, List.set_cons_zero]
  refine AnyF.takeG (by rfl) 18 (some 57) (.pick (.tmp 50) (.tmp 56) (.const (.bool false))) none (.bool true) rfl (by kernel_rfl) (by kernel_rfl) (by kernel_rfl) (fun _ _ _ h => h) rfl (fun o h => by obtain rfl := Option.some.inj h; rfl) (fun o ho w2 hw => exec_pickt (.tmp 50) (.tmp 56) (.const (.bool false)) ho rfl _ rfl w2) Ht6 ?_
  simp only [Act.put, List.setIfInBounds_toArray, List.set_cons_succ, List.set_cons_zero]
  refine AnyF.takeG (by rfl) 19 (some 58) (.move (.tmp 57)) none (.bool true) rfl (by kernel_rfl) (by kernel_rfl) (by kernel_rfl) (fun _ _ _ h => h) rfl (fun o h => by obtain rfl := Option.some.inj h; rfl) (fun o ho w2 hw => exec_move (.tmp 57) ho _ rfl w2) Ht6 ?_
  simp only [Act.put, List.setIfInBounds_toArray, List.set_cons_succ, List.set_cons_zero]
  refine AnyF.takeG (by rfl) 20 (some 59) (.load 24 (.tmp 7)) (some (19, true)) (.agg LA) rfl (by kernel_rfl) (by kernel_rfl) (by kernel_rfl) (fun _ _ _ h => h) rfl (fun o h => by obtain rfl := Option.some.inj h; rfl) (fun o ho w2 hw => exec_load_of _ 24 (.tmp 7) ho ⟨gL, 0, none⟩ rfl _ (hw.load (gL) LA (by simp) ILA)) Ht6 ?_
  simp only [Act.put, List.setIfInBounds_toArray, List.set_cons_succ, List.set_cons_zero]
  refine AnyF.takeG (by rfl) 21 (some 60) (.load 24 (.tmp 5)) (some (19, true)) (.agg K) rfl (by kernel_rfl) (by kernel_rfl) (by kernel_rfl) (fun _ _ _ h => h) rfl (fun o h => by obtain rfl := Option.some.inj h; rfl) (fun o ho w2 hw => exec_load_of _ 24 (.tmp 5) ho ⟨w.heap.size, 0, none⟩ rfl _ (hw.load (w.heap.size) K (by simp) IK)) Ht6 ?_
  simp only [Act.put, List.setIfInBounds_toArray, List.set_cons_succ, List.set_cons_zero]
  refine AnyF.takeG (by rfl) 22 (some 61) (.load 24 (.tmp 5)) (some (19, true)) (.agg K) rfl (by kernel_rfl) (by kernel_rfl) (by kernel_rfl) (fun _ _ _ h => h) rfl (fun o h => by obtain rfl := Option.some.inj h; rfl) (fun o ho w2 hw => exec_load_of _ 24 (.tmp 5) ho ⟨w.heap.size, 0, none⟩ rfl _ (hw.load (w.heap.size) K (by simp) IK)) Ht6 ?_
  simp only [Act.put, List.setIfInBounds_toArray, List.set_cons_succ, List.set_cons_zero]
  refine AnyF.takeG (by rfl) 24 (some 63) (.build 24 #[]) (some (19, true)) (.agg Z) rfl (by kernel_rfl) (by kernel_rfl) (by kernel_rfl) (fun _ _ _ h => h) rfl (fun o h => by obtain rfl := Option.some.inj h; rfl) (fun o ho w2 hw => exec_build0 ho _ (HB0.out w2) w2) Ht6 ?_
  simp only [Act.put, List.setIfInBounds_toArray, List.set_cons_succ, List.set_cons_zero]
  refine AnyF.ready (rs := [23]) (by kernel_rfl) (by simp) (ReadyF.callG (some 62) 12 #[.tmp 59, .tmp 60, .tmp 61] #[24, 24, 24] (some (19, true)) rfl (fun o h => by obtain rfl := Option.some.inj h; rfl) #[.agg LA, .agg K, .agg K] (by simp [Act.eval]) enters12 _ (H7.out _ (HG.out.kn Ht6)) ?_ (fun c w' h => by cases h.1) (fun w' h => by cases h.1) ReadyF.nil)
  rintro v wt7 ⟨he, hb⟩
  cases he
  have Ht8 := Ht6.below hb
  clear hb
  refine ⟨Ht8, ?_⟩
  simp only [Act.put, List.setIfInBounds_toArray, List.set_cons_succ, List.set_cons_zero]
  refine AnyF.takeG (by rfl) 25 (some 64) (.binOp .eql 24 (.tmp 62) (.tmp 63) 24) (some (19, true)) (.bool true) rfl (by kernel_rfl) (by kernel_rfl) (by kernel_rfl) (fun _ _ _ h => h) rfl (fun o h => by obtain rfl := Option.some.inj h; rfl) (fun o ho w2 hw => exec_eqA (.tmp 62) (.tmp 63) ho Z IZ rfl rfl w2) Ht8 ?_
  simp only [Act.put, List.setIfInBounds_toArray, List.set_cons_succ, List.set_cons_zero]
  refine AnyF.takeG (by rfl) 26 (some 65) (.pick (.tmp 58) (.tmp 64) (.const (.bool false))) none (.bool true) rfl (by kernel_rfl) (by kernel_rfl) (by kernel_rfl) (fun _ _ _ h => h) rfl (fun o h => by obtain rfl := Option.some.inj h; rfl) (fun o ho w2 hw => exec_pickt (.tmp 58) (.tmp 64) (.const (.bool false)) ho rfl _ rfl w2) Ht8 ?_
  simp only [Act.put, List.setIfInBounds_toArray, List.set_cons_succ, List.set_cons_zero]
  refine AnyF.takeG (by rfl) 27 (some 66) (.move (.tmp 65)) none (.bool true) rfl (by kernel_rfl) (by kernel_rfl) (by kernel_rfl) (fun _ _ _ h => h) rfl (fun o h => by obtain rfl := Option.some.inj h; rfl) (fun o ho w2 hw => exec_move (.tmp 65) ho _ rfl w2) Ht8 ?_
  simp only [Act.put, List.setIfInBounds_toArray, List.set_cons_succ, List.set_cons_zero]
  refine AnyF.takeG (by rfl) 28 (some 67) (.move (.tmp 10)) (some (27, true)) (.bool true) rfl (by kernel_rfl) (by kernel_rfl) (by kernel_rfl) (fun _ _ _ h => h) rfl (fun o h => by obtain rfl := Option.some.inj h; rfl) (fun o ho w2 hw => exec_move (.tmp 10) ho _ rfl w2) Ht8 ?_
  simp only [Act.put, List.setIfInBounds_toArray, List.set_cons_succ, List.set_cons_zero]
  refine AnyF.takeG (by rfl) 29 (some 68) (.pick (.tmp 66) (.tmp 67) (.const (.bool false))) none (.bool true) rfl (by kernel_rfl) (by kernel_rfl) (by kernel_rfl) (fun _ _ _ h => h) rfl (fun o h => by obtain rfl := Option.some.inj h; rfl) (fun o ho w2 hw => exec_pickt (.tmp 66) (.tmp 67) (.const (.bool false)) ho rfl _ rfl w2) Ht8 ?_
  simp only [Act.put, List.setIfInBounds_toArray, List.set_cons_succ, List.set_cons_zero]
  refine AnyF.takeG (by rfl) 30 (some 69) (.move (.tmp 68)) none (.bool true) rfl (by kernel_rfl) (by kernel_rfl) (by kernel_rfl) (fun _ _ _ h => h) rfl (fun o h => by obtain rfl := Option.some.inj h; rfl) (fun o ho w2 hw => exec_move (.tmp 68) ho _ rfl w2) Ht8 ?_
  simp only [Act.put, List.setIfInBounds_toArray, List.set_cons_succ, List.set_cons_zero]
  refine AnyF.takeG (by rfl) 31 (some 70) (.load 24 (.tmp 9)) (some (30, true)) (.agg LA) rfl (by kernel_rfl) (by kernel_rfl) (by kernel_rfl) (fun _ _ _ h => h) rfl (fun o h => by obtain rfl := Option.some.inj h; rfl) (fun o ho w2 hw => exec_load_of _ 24 (.tmp 9) ho ⟨gX, 0, none⟩ rfl _ (hw.load (gX) LA (by simp) ILA)) Ht8 ?_
  simp only [Act.put, List.setIfInBounds_toArray, List.set_cons_succ, List.set_cons_zero]
  refine AnyF.takeG (by rfl) 32 (some 71) (.load 24 (.tmp 7)) (some (30, true)) (.agg LA) rfl (by kernel_rfl) (by kernel_rfl) (by kernel_rfl) (fun _ _ _ h => h) rfl (fun o h => by obtain rfl := Option.some.inj h; rfl) (fun o ho w2 hw => exec_load_of _ 24 (.tmp 7) ho ⟨gL, 0, none⟩ rfl _ (hw.load (gL) LA (by simp) ILA)) Ht8 ?_
  simp only [Act.put, List.setIfInBounds_toArray, List.set_cons_succ, List.set_cons_zero]
  refine AnyF.takeG (by rfl) 33 (some 72) (.binOp .eql 24 (.tmp 70) (.tmp 71) 24) (some (30, true)) (.bool true) rfl (by kernel_rfl) (by kernel_rfl) (by kernel_rfl) (fun _ _ _ h => h) rfl (fun o h => by obtain rfl := Option.some.inj h; rfl) (fun o ho w2 hw => exec_eqA (.tmp 70) (.tmp 71) ho LA ILA rfl rfl w2) Ht8 ?_
  simp only [Act.put, List.setIfInBounds_toArray, List.set_cons_succ, List.set_cons_zero]
  refine AnyF.takeG (by rfl) 34 (some 73) (.pick (.tmp 69) (.tmp 72) (.const (.bool false))) none (.bool true) rfl (by kernel_rfl) (by kernel_rfl) (by kernel_rfl) (fun _ _ _ h => h) rfl (fun o h => by obtain rfl := Option.some.inj h; rfl) (fun o ho w2 hw => exec_pickt (.tmp 69) (.tmp 72) (.const (.bool false)) ho rfl _ rfl w2) Ht8 ?_
  simp only [Act.put, List.setIfInBounds_toArray, List.set_cons_succ, List.set_cons_zero]
  refine AnyF.takeG (by rfl) 35 (some 74) (.move (.tmp 73)) none (.bool true) rfl (by kernel_rfl) (by kernel_rfl) (by kernel_rfl) (fun _ _ _ h => h) rfl (fun o h => by obtain rfl := Option.some.inj h; rfl) (fun o ho w2 hw => exec_move (.tmp 73) ho _ rfl w2) Ht8 ?_
  simp only [Act.put, List.setIfInBounds_toArray, List.set_cons_succ, List.set_cons_zero]
  refine AnyF.takeG (by rfl) 36 (some 75) (.move (.tmp 12)) (some (35, true)) (.bool false) rfl (by kernel_rfl) (by kernel_rfl) (by kernel_rfl) (fun _ _ _ h => h) rfl (fun o h => by obtain rfl := Option.some.inj h; rfl) (fun o ho w2 hw => exec_move (.tmp 12) ho _ rfl w2) Ht8 ?_
  simp only [Act.put, List.setIfInBounds_toArray, List.set_cons_succ, List.set_cons_zero]
  refine AnyF.takeG (by rfl) 37 (some 76) (.unOp .not 4 (.tmp 75)) (some (35, true)) (.bool true) rfl (by kernel_rfl) (by kernel_rfl) (by kernel_rfl) (fun _ _ _ h => h) rfl (fun o h => by obtain rfl := Option.some.inj h; rfl) (fun o ho w2 hw => exec_notf (.tmp 75) ho rfl w2) Ht8 ?_
  simp only [Act.put, List.setIfInBounds_toArray, List.set_cons_succ, List.set_cons_zero]
  refine AnyF.takeG (by rfl) 38 (some 77) (.pick (.tmp 74) (.tmp 76) (.const (.bool false))) none (.bool true) rfl (by kernel_rfl) (by kernel_rfl) (by kernel_rfl) (fun _ _ _ h => h) rfl (fun o h => by obtain rfl := Option.some.inj h; rfl) (fun o ho w2 hw => exec_pickt (.tmp 74) (.tmp 76) (.const (.bool false)) ho rfl _ rfl w2) Ht8 ?_
  simp only [Act.put, List.setIfInBounds_toArray, List.set_cons_succ, List.set_cons_zero]
  refine AnyF.takeG (by rfl) 39 (some 78) (.move (.tmp 77)) none (.bool true) rfl (by kernel_rfl) (by kernel_rfl) (by kernel_rfl) (fun _ _ _ h => h) rfl (fun o h => by obtain rfl := Option.some.inj h; rfl) (fun o ho w2 hw => exec_move (.tmp 77) ho _ rfl w2) Ht8 ?_
  simp only [Act.put, List.setIfInBounds_toArray, List.set_cons_succ, List.set_cons_zero]
  refine AnyF.takeG (by rfl) 40 (some 79) (.move (.tmp 8)) (some (39, true)) (.string SB) rfl (by kernel_rfl) (by kernel_rfl) (by kernel_rfl) (fun _ _ _ h => h) rfl (fun o h => by obtain rfl := Option.some.inj h; rfl) (fun o ho w2 hw => exec_move (.tmp 8) ho _ rfl w2) Ht8 ?_
  simp only [Act.put, List.setIfInBounds_toArray, List.set_cons_succ, List.set_cons_zero]
  refine AnyF.takeG (by rfl) 42 (some 81) (.load 24 (.tmp 7)) (some (39, true)) (.agg LA) rfl (by kernel_rfl) (by kernel_rfl) (by kernel_rfl) (fun _ _ _ h => h) rfl (fun o h => by obtain rfl := Option.some.inj h; rfl) (fun o ho w2 hw => exec_load_of _ 24 (.tmp 7) ho ⟨gL, 0, none⟩ rfl _ (hw.load (gL) LA (by simp) ILA)) Ht8 ?_
  simp only [Act.put, List.setIfInBounds_toArray, List.set_cons_succ, List.set_cons_zero]
  refine AnyF.ready (rs := [41]) (by kernel_rfl) (by simp) (ReadyF.callG (some 80) 10 #[.tmp 79] #[9] (some (39, true)) rfl (fun o h => by obtain rfl := Option.some.inj h; rfl) #[.string SB] (by simp [Act.eval]) enters10 _ (H8.out _ (HG.out.kn Ht8)) ?_ (fun c w' h => by cases h.1) (fun w' h => by cases h.1) ReadyF.nil)
  rintro v wt9 ⟨he, hb⟩
  cases he
  have Ht10 := Ht8.below hb
  clear hb
  refine ⟨Ht10, ?_⟩
  simp only [Act.put, List.setIfInBounds_toArray, List.set_cons_succ, List.set_cons_zero]
  refine AnyF.takeG (by rfl) 43 (some 82) (.binOp .eql 24 (.tmp 80) (.tmp 81) 24) (some (39, true)) (.bool true) rfl (by kernel_rfl) (by kernel_rfl) (by kernel_rfl) (fun _ _ _ h => h) rfl (fun o h => by obtain rfl := Option.some.inj h; rfl) (fun o ho w2 hw => exec_eqA (.tmp 80) (.tmp 81) ho LA ILA rfl rfl w2) Ht10 ?_
  simp only [Act.put, List.setIfInBounds_toArray, List.set_cons_succ, List.set_cons_zero]
  refine AnyF.takeG (by rfl) 44 (some 83) (.pick (.tmp 78) (.tmp 82) (.const (.bool false))) none (.bool true) rfl (by kernel_rfl) (by kernel_rfl) (by kernel_rfl) (fun _ _ _ h => h) rfl (fun o h => by obtain rfl := Option.some.inj h; rfl) (fun o ho w2 hw => exec_pickt (.tmp 78) (.tmp 82) (.const (.bool false)) ho rfl _ rfl w2) Ht10 ?_
  simp only [Act.put, List.setIfInBounds_toArray, List.set_cons_succ, List.set_cons_zero]
  refine AnyF.takeG (by rfl) 45 (some 84) (.move (.tmp 83)) none (.bool true) rfl (by kernel_rfl) (by kernel_rfl) (by kernel_rfl) (fun _ _ _ h => h) rfl (fun o h => by obtain rfl := Option.some.inj h; rfl) (fun o ho w2 hw => exec_move (.tmp 83) ho _ rfl w2) Ht10 ?_
  simp only [Act.put, List.setIfInBounds_toArray, List.set_cons_succ, List.set_cons_zero]
  refine AnyF.takeG (by rfl) 46 (some 85) (.move (.tmp 1)) (some (45, true)) (.string s) rfl (by kernel_rfl) (by kernel_rfl) (by kernel_rfl) (fun _ _ _ h => h) rfl (fun o h => by obtain rfl := Option.some.inj h; rfl) (fun o ho w2 hw => exec_move (.tmp 1) ho _ rfl w2) Ht10 ?_
  simp only [Act.put, List.setIfInBounds_toArray, List.set_cons_succ, List.set_cons_zero]
  refine AnyF.takeG (by rfl) 47 (some 86) (.binOp .add 9 (.const (.string { data := #[0] })) (.tmp 85) 9) (some (45, true)) (.string S0) rfl (by kernel_rfl) (by kernel_rfl) (by kernel_rfl) (fun _ _ _ h => h) rfl (fun o h => by obtain rfl := Option.some.inj h; rfl) (fun o ho w2 hw => exec_catv _ (.tmp 85) ho NS s S0 hns6 hs6 HS0.out (hNS.out ▸ rfl) rfl w2) Ht10 ?_
  simp only [Act.put, List.setIfInBounds_toArray, List.set_cons_succ, List.set_cons_zero]
  refine AnyF.takeG (by rfl) 49 (some 88) (.build 24 #[(0, .const (.int .u64 256))]) (some (45, true)) (.agg C256) rfl (by kernel_rfl) (by kernel_rfl) (by kernel_rfl) (fun _ _ _ h => h) rfl (fun o h => by obtain rfl := Option.some.inj h; rfl) (fun o ho w2 hw => exec_build1 w2 24 0 (.const (.int .u64 256)) ho _ rfl _ (HB256.out w2)) Ht10 ?_
  simp only [Act.put, List.setIfInBounds_toArray, List.set_cons_succ, List.set_cons_zero]
  refine AnyF.takeG (by rfl) 50 (some 89) (.move (.tmp 1)) (some (45, true)) (.string s) rfl (by kernel_rfl) (by kernel_rfl) (by kernel_rfl) (fun _ _ _ h => h) rfl (fun o h => by obtain rfl := Option.some.inj h; rfl) (fun o ho w2 hw => exec_move (.tmp 1) ho _ rfl w2) Ht10 ?_
  simp only [Act.put, List.setIfInBounds_toArray, List.set_cons_succ, List.set_cons_zero]
  refine AnyF.takeG (by rfl) 52 (some 91) (.build 24 #[]) (some (45, true)) (.agg Z) rfl (by kernel_rfl) (by kernel_rfl) (by kernel_rfl) (fun _ _ _ h => h) rfl (fun o h => by obtain rfl := Option.some.inj h; rfl) (fun o ho w2 hw => exec_build0 ho _ (HB0.out w2) w2) Ht10 ?_
  simp only [Act.put, List.setIfInBounds_toArray, List.set_cons_succ, List.set_cons_zero]
  refine AnyF.ready (rs := [48]) (by kernel_rfl) (by simp) (ReadyF.callG (some 87) 10 #[.tmp 86] #[9] (some (45, true)) rfl (fun o h => by obtain rfl := Option.some.inj h; rfl) #[.string S0] (by simp [Act.eval]) enters10 _ (H9.out _ (HG.out.kn Ht10)) ?_ (fun c w' h => by cases h.1) (fun w' h => by cases h.1) ReadyF.nil)
  rintro v wt11 ⟨he, hb⟩
  cases he
  have Ht12 := Ht10.below hb
  clear hb
  refine ⟨Ht12, ?_⟩
  simp only [Act.put, List.setIfInBounds_toArray, List.set_cons_succ, List.set_cons_zero]
  refine AnyF.ready (rs := [51]) (by kernel_rfl) (by simp) (ReadyF.callG (some 90) 10 #[.tmp 89] #[9] (some (45, true)) rfl (fun o h => by obtain rfl := Option.some.inj h; rfl) #[.string s] (by simp [Act.eval]) enters10 _ (H10.out _ (HG.out.kn Ht12)) ?_ (fun c w' h => by cases h.1) (fun w' h => by cases h.1) ReadyF.nil)
  rintro v wt13 ⟨he, hb⟩
  cases he
  have Ht14 := Ht12.below hb
  clear hb
  refine ⟨Ht14, ?_⟩
  simp only [Act.put, List.setIfInBounds_toArray, List.set_cons_succ, List.set_cons_zero]
  refine AnyF.ready (rs := [53]) (by kernel_rfl) (by simp) (ReadyF.callG (some 92) 12 #[.tmp 88, .tmp 90, .tmp 91] #[24, 24, 24] (some (45, true)) rfl (fun o h => by obtain rfl := Option.some.inj h; rfl) #[.agg C256, .agg V, .agg Z] (by simp [Act.eval]) enters12 _ (H11.out _ (HG.out.kn Ht14)) ?_ (fun c w' h => by cases h.1) (fun w' h => by cases h.1) ReadyF.nil)
  rintro v wt15 ⟨he, hb⟩
  cases he
  have Ht16 := Ht14.below hb
  clear hb
  refine ⟨Ht16, ?_⟩
  simp only [Act.put, List.setIfInBounds_toArray, List.set_cons_succ, List.set_cons_zero]
  refine AnyF.takeG (by rfl) 54 (some 93) (.binOp .eql 24 (.tmp 87) (.tmp 92) 24) (some (45, true)) (.bool true) rfl (by kernel_rfl) (by kernel_rfl) (by kernel_rfl) (fun _ _ _ h => h) rfl (fun o h => by obtain rfl := Option.some.inj h; rfl) (fun o ho w2 hw => exec_eqA (.tmp 87) (.tmp 92) ho X IX rfl rfl w2) Ht16 ?_
  simp only [Act.put, List.setIfInBounds_toArray, List.set_cons_succ, List.set_cons_zero]
  refine AnyF.takeG (by rfl) 55 (some 94) (.pick (.tmp 84) (.tmp 93) (.const (.bool false))) none (.bool true) rfl (by kernel_rfl) (by kernel_rfl) (by kernel_rfl) (fun _ _ _ h => h) rfl (fun o h => by obtain rfl := Option.some.inj h; rfl) (fun o ho w2 hw => exec_pickt (.tmp 84) (.tmp 93) (.const (.bool false)) ho rfl _ rfl w2) Ht16 ?_
  simp only [Act.put, List.setIfInBounds_toArray, List.set_cons_succ, List.set_cons_zero]
  refine AnyF.takeG (by rfl) 56 (some 95) (.move (.tmp 94)) none (.bool true) rfl (by kernel_rfl) (by kernel_rfl) (by kernel_rfl) (fun _ _ _ h => h) rfl (fun o h => by obtain rfl := Option.some.inj h; rfl) (fun o ho w2 hw => exec_move (.tmp 94) ho _ rfl w2) Ht16 ?_
  simp only [Act.put, List.setIfInBounds_toArray, List.set_cons_succ, List.set_cons_zero]
  refine AnyF.ready (rs := [57]) (by kernel_rfl) (by simp) (ReadyF.callG (some 96) 7 #[] #[] (some (56, true)) rfl (fun o h => by obtain rfl := Option.some.inj h; rfl) #[] (by simp [Act.eval]) enters7 _ (H12.out _ (HG.out.kn Ht16)) ?_ (fun c w' h => by cases h.1) (fun w' h => by cases h.1) ReadyF.nil)
  rintro v wt17 ⟨he, hb⟩
  cases he
  have Ht18 := Ht16.below hb
  clear hb
  refine ⟨Ht18, ?_⟩
  simp only [Act.put, List.setIfInBounds_toArray, List.set_cons_succ, List.set_cons_zero]
  refine AnyF.takeG (by rfl) 58 (some 97) (.pick (.tmp 95) (.tmp 96) (.const (.bool false))) none (.bool true) rfl (by kernel_rfl) (by kernel_rfl) (by kernel_rfl) (fun _ _ _ h => h) rfl (fun o h => by obtain rfl := Option.some.inj h; rfl) (fun o ho w2 hw => exec_pickt (.tmp 95) (.tmp 96) (.const (.bool false)) ho rfl _ rfl w2) Ht18 ?_
  simp only [Act.put, List.setIfInBounds_toArray, List.set_cons_succ, List.set_cons_zero]
  refine AnyF.takeG (by rfl) 59 (some 4) (.assign (.tmp 97)) none (.bool true) rfl (by kernel_rfl) (by kernel_rfl) (by kernel_rfl) (fun _ _ _ h => h) rfl (fun o h => by obtain rfl := Option.some.inj h; rfl) (fun o ho w2 hw => exec_assign (.tmp 97) ho _ rfl w2) Ht18 ?_
  simp only [Act.put, List.setIfInBounds_toArray, List.set_cons_succ, List.set_cons_zero]
  refine AnyF.done (by kernel_rfl) ?_ _
  refine nrm_intro ?_
  go_wp2
  go_ret
  exact ⟨rfl, Ht18.1⟩
set_option maxRecDepth 100000 in
set_option maxHeartbeats 1000000 in
theorem edges_law (a0 : Int) (s : ByteArray) (w0 : (Lit.int .u16 a0).wf = true) (hs : s.size ≤ maxLen) (w : World) (hG0 : Glob w) :
    Calls Tryd.prog 6 #[.int .u16 a0, .string s] w fun e w' => e = .returned (.bool true) ∧ Below w.heap.size w w' := by
  by_cases h : s.size ≤ 40
  · simp [Lit.wf, IntKind.min, IntKind.max, IntKind.signed, IntKind.bits] at w0
    obtain ⟨n, rfl⟩ := Int.eq_ofNat_of_zero_le w0.1
    exact edges_any n s (by omega) h w hG0
  · have hI : (40 : Int) < (s.size : Int) := by omega
    have H := Lib.hid (awake_any w hG0)
    clear hG0
    unfold maxLen at *
    go_enter Tryd.func6, Tryd.ntmps6
    go_wp2_with fail
    refine H.out.mono ?_
    rintro e w1 ⟨rfl, hb⟩
    go_wp2
    go_ret
    exact ⟨rfl, hb⟩
end Go.Proofs.YtfcnfcolhahghaaDoor
