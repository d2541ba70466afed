/- Root of the document: the even root modulo the prime, with whether there is one. No condition but that the number has 256 bits. -/
import Derived.Test.YtgbliacncahooaaDoorGNum
import Derived.Test.YtgbliacncahooaaDoorGRPw
namespace Go.Proofs.YtgbliacncahooaaDoor
open Go.RowKit Go.Shelf
set_option linter.unusedVariables false
set_option linter.unusedSimpArgs false
theorem enters59 : ∀ args w, (callFunc 59 args).run Tryd.prog w = .ok (.enter 59 args) w := enters_of Tryd.func59 (by kernel_rfl) rfl
theorem enters58 : ∀ args w, (callFunc 58 args).run Tryd.prog w = .ok (.enter 58 args) w := enters_of Tryd.func58 (by kernel_rfl) rfl
/-- A number with whether it is one, in memory. -/
def gotV (f : Nat → Nat) (b : Bool) : Array Value := (rowOf .u64 4 f ++ [Value.bool b]).toArray
def IsGot (A : Array Value) : Prop := ∃ f b, A = gotV f b
theorem IsGot.size {A : Array Value} (h : IsGot A) : A.size = 5 := by obtain ⟨f, b, rfl⟩ := h; simp [gotV, rowOf_length]
theorem gotL (f : Nat → Nat) (b : Bool) : (rowOf .u64 4 f ++ [Value.bool b]).length = 5 := by simp [rowOf_length]
theorem size29 (f : Nat → Nat) (b : Bool) : (Tryd.prog.info? 60).map (·.size) = some (rowOf .u64 4 f ++ [Value.bool b]).length := by rw [gotL]; kernel_rfl
theorem gotOne (f : Nat → Nat) (b : Bool) : ∀ v ∈ rowOf .u64 4 f ++ [Value.bool b], v.oneCell' = true := by
  intro v hv
  rcases List.mem_append.1 hv with h | h
  · exact rowOf_one _ _ _ v h
  · simp at h; subst h; rfl
theorem zero29 (w : World) : (zeroValue 60).run Tryd.prog w = .ok (.agg (gotV (fun _ => 0) false)) w := by kernel_rfl
theorem load29 {W : World} {g : Nat} {A : Array Value} (hA : IsGot A) {t : TypeId} (hg : W.heap[g]? = some (.cells A t (0, 0))) : (loadVar 60 ⟨g, 0, none⟩).run Tryd.prog W = .ok (.agg A) W := by
  obtain ⟨f, b, rfl⟩ := hA
  exact run_loadVar_seg W 60 g 0 (rowOf .u64 4 f ++ [Value.bool b]) _ (fun j v hv => by rw [Nat.zero_add, cell_of_row W g j _ t (0, 0) hg, gotV, List.getElem?_toArray, hv]) Tryd.underlying60 rfl (size29 f b)
theorem exec_store29 {ρ : Operand → Value} {o : Oper} (w : World) (x y : Operand) (ho : o.op = .store 60 x y) (g : Nat) (hx : ρ x = .pointer (some ⟨g, 0, none⟩)) (A : Array Value) (hA : IsGot A) (hy : ρ y = .agg A) (cur : Array Value) (t : TypeId)
    (hg : w.heap[g]? = some (.cells cur t (0, 0))) (h8 : cur.size = 5) : (execOp ρ o).run Tryd.prog w = .ok .skip (w.setRow g A) := by
  obtain ⟨f, b, rfl⟩ := hA
  have h := exec_store_seg (P := Tryd.prog) (ρ := ρ) (o := o) w 60 x y ho g 0 hx (rowOf .u64 4 f ++ [Value.bool b]) hy cur t hg (by rw [gotL]; omega) (gotOne f b) (size29 f b)
  rwa [splice_all _ _ (by rw [gotL]; exact h8)] at h
theorem build29_0 (w : World) : (Instr.build 60 #[]).run Tryd.prog w = .ok (.agg (gotV (fun _ => 0) false)) w := by kernel_rfl
theorem build29_lit (a b c d : Value) (e : Bool) (w : World) : (Instr.build 60 #[(0, .agg #[a, b, c, d]), (1, .bool e)]).run Tryd.prog w = .ok (.agg #[a, b, c, d, .bool e]) w := by kernel_rfl
theorem build29 (f : Nat → Nat) (b : Bool) (w : World) : (Instr.build 60 #[(0, .agg (rowOf .u64 4 f).toArray), (1, .bool b)]).run Tryd.prog w = .ok (.agg (gotV f b)) w := build29_lit _ _ _ _ b w
theorem exec_build2 {ρ : Operand → Value} {o : Oper} (w : World) (t : TypeId) (k k2 : Nat) (x x2 : Operand) (ho : o.op = .build t #[(k, x), (k2, x2)]) (u u2 : Value) (hx : ρ x = u) (hx2 : ρ x2 = u2) (v : Value)
    (hrun : (Instr.build t #[(k, u), (k2, u2)]).run Tryd.prog w = .ok v w) : (execOp ρ o).run Tryd.prog w = .ok (.value v) w := by
  subst hx hx2
  unfold execOp
  simp [ho, hrun]
theorem exec_store24k {ρ : Operand → Value} {o : Oper} (w : World) (x y : Operand) (ho : o.op = .store 24 x y) (g : Nat) (hx : ρ x = .pointer (some ⟨g, 0, none⟩)) (A : Array Value) (hA : IsNum A) (hy : ρ y = .agg A) (cur : Array Value) (t : TypeId)
    (hg : w.heap[g]? = some (.cells cur t (0, 0))) (h4 : cur.size = 4) : (execOp ρ o).run Tryd.prog w = .ok .skip (w.setRow g A) := exec_store24 w x y ho g hx A hA hy cur t hg h4
theorem exec_build0g {ρ : Operand → Value} {o : Oper} {t : TypeId} (ho : o.op = .build t #[]) (v : Value) {w : World} (hrun : (Instr.build t #[]).run Tryd.prog w = .ok v w) (w2 : World) (hw : w2 = w := by rfl) : (execOp ρ o).run Tryd.prog w2 = .ok (.value v) w2 := by
  subst hw
  unfold execOp
  simp [ho, hrun]
set_option maxRecDepth 100000 in
set_option maxHeartbeats 1000000 in
theorem rroot_any (a : Nat) (ha : a < 115792089237316195423570985008687907853269984665640564039457584007913129639936) (w : World) :
    Calls Tryd.prog 35 #[.agg (num a)] w fun e w' => e = .returned (.agg (gotV (dig (rootF a).1) (rootF a).2)) ∧ Below w.heap.size w w' := by
  have hN4 : a % pp < 115792089237316195423570985008687907853269984665640564039457584007913129639936 := pp_lt (Nat.mod_lt _ pp_pos)
  have H1 := Lib.hid (rnorm_any a ha)
  have HP := Lib.hid prime_any
  have H2 := Lib.hid (addnum_any pp 3 (by decide) (by decide))
  have H3 := Lib.hid (shift_any (pp + 3) 3 (by decide) (by decide))
  have H4 := Lib.hid (rpow_any (a % pp) ((pp + 3) / 2 ^ 3) hN4 (by decide))
  rw [powF_mod, show powF a ((pp + 3) / 2 ^ 3) = rootR a by unfold rootR; congr 1] at H4
  rw [show (pp + 3) % 115792089237316195423570985008687907853269984665640564039457584007913129639936 = pp + 3 by decide] at H2
  generalize (pp + 3) / 115792089237316195423570985008687907853269984665640564039457584007913129639936 = c0 at H2
  have H5 := Lib.hid (rmulf_any (rootR a) (rootR a) (pp_lt (rootR_lt a)) (pp_lt (rootR_lt a)))
  have H6 := Lib.hid (subnum_any pp 1 (by decide) (by decide))
  rw [subM_le pp 1 (by decide) (by decide)] at H6
  have H7 := Lib.hid (shift_any (pp - 1) 2 (by decide) (by decide))
  have H8 := Lib.hid (rpow_any 2 ((pp - 1) / 2 ^ 2) (by decide) (by decide))
  rw [show powF 2 ((pp - 1) / 2 ^ 2) = tn by rw [show (pp - 1) / 2 ^ 2 = 14474011154664524427946373126085988481658748083205070504932198000989141204987 by decide]; exact two_tn] at H8
  have H9 := Lib.hid (rmulf_any (rootR a) tn (pp_lt (rootR_lt a)) (by decide))
  have H10 := Lib.hid (rmulf_any (rootT a) (rootT a) (pp_lt (rootT_lt a)) (pp_lt (rootT_lt a)))
  have H11 := Lib.hid (rsub_any 0 (rootT a) (by decide) (pp_lt (rootT_lt a)))
  have hb0 := build0_run
  have hb1 := build_run 1 (by decide)
  have hb2 := build_run 2 (by decide)
  have hb3 := build_run 3 (by decide)
  have HZ := zero_run
  have hrm4 : mulF (rootR a) (rootR a) < 115792089237316195423570985008687907853269984665640564039457584007913129639936 := pp_lt (mulF_lt _ _)
  have htm4 : mulF (rootT a) (rootT a) < 115792089237316195423570985008687907853269984665640564039457584007913129639936 := pp_lt (mulF_lt _ _)
  have hRT : Hid (rootT a = if mulF (rootR a) (rootR a) = a % pp then rootR a else mulF (rootR a) tn) := Lib.hid rfl
  have hRF : Hid (rootF a = if mulF (rootT a) (rootT a) = a % pp then (if rootT a % 2 = 1 then subF 0 (rootT a) else rootT a, true) else (0, false)) := Lib.hid rfl
  have hc0 : (num (rootT a))[0]? = some (.int .u64 (dig (rootT a) 0 : Int)) := num_get _ 0 (by decide)
  have hod := dig0_odd (rootT a)
  have hdl := dig_lt (rootT a) 0
  have hB1 := Lib.hid (build29 (dig (rootT a)) true)
  have hB2 := Lib.hid (build29 (dig (subF 0 (rootT a))) true)
  generalize dig (rootT a) 0 = d at *
  obtain ⟨A, hA⟩ : ∃ A, Hid (A = num a) := ⟨_, Lib.hid rfl⟩
  have IA : IsNum A := by rw [hA.out]; exact isNum _
  obtain ⟨N, hN⟩ : ∃ N, Hid (N = num (a % pp)) := ⟨_, Lib.hid rfl⟩
  have IN : IsNum N := by rw [hN.out]; exact isNum _
  obtain ⟨PR, hPR⟩ : ∃ PR, Hid (PR = num pp) := ⟨_, Lib.hid rfl⟩
  have IPR : IsNum PR := by rw [hPR.out]; exact isNum _
  obtain ⟨P3, hP3⟩ : ∃ P3, Hid (P3 = num (pp + 3)) := ⟨_, Lib.hid rfl⟩
  have IP3 : IsNum P3 := by rw [hP3.out]; exact isNum _
  obtain ⟨E, hE⟩ : ∃ E, Hid (E = num ((pp + 3) / 2 ^ 3)) := ⟨_, Lib.hid rfl⟩
  have IE : IsNum E := by rw [hE.out]; exact isNum _
  obtain ⟨R, hR⟩ : ∃ R, Hid (R = num (rootR a)) := ⟨_, Lib.hid rfl⟩
  have IR : IsNum R := by rw [hR.out]; exact isNum _
  obtain ⟨RR, hRR⟩ : ∃ RR, Hid (RR = num (mulF (rootR a) (rootR a))) := ⟨_, Lib.hid rfl⟩
  have IRR : IsNum RR := by rw [hRR.out]; exact isNum _
  obtain ⟨PM, hPM⟩ : ∃ PM, Hid (PM = num (pp - 1)) := ⟨_, Lib.hid rfl⟩
  have IPM : IsNum PM := by rw [hPM.out]; exact isNum _
  obtain ⟨F, hF⟩ : ∃ F, Hid (F = num ((pp - 1) / 2 ^ 2)) := ⟨_, Lib.hid rfl⟩
  have IF : IsNum F := by rw [hF.out]; exact isNum _
  obtain ⟨T, hT⟩ : ∃ T, Hid (T = num tn) := ⟨_, Lib.hid rfl⟩
  have IT : IsNum T := by rw [hT.out]; exact isNum _
  obtain ⟨S, hS⟩ : ∃ S, Hid (S = num (mulF (rootR a) tn)) := ⟨_, Lib.hid rfl⟩
  have IS : IsNum S := by rw [hS.out]; exact isNum _
  obtain ⟨X, hX⟩ : ∃ X, Hid (X = num (rootT a)) := ⟨_, Lib.hid rfl⟩
  have IX : IsNum X := by rw [hX.out]; exact isNum _
  obtain ⟨XX, hXX⟩ : ∃ XX, Hid (XX = num (mulF (rootT a) (rootT a))) := ⟨_, Lib.hid rfl⟩
  have IXX : IsNum XX := by rw [hXX.out]; exact isNum _
  obtain ⟨Y, hY⟩ : ∃ Y, Hid (Y = num (subF 0 (rootT a))) := ⟨_, Lib.hid rfl⟩
  have IY : IsNum Y := by rw [hY.out]; exact isNum _
  obtain ⟨Z, hZ⟩ : ∃ Z, Hid (Z = num 0) := ⟨_, Lib.hid rfl⟩
  have IZ : IsNum Z := by rw [hZ.out]; exact isNum _
  obtain ⟨U1, hU1⟩ : ∃ U1, Hid (U1 = num 1) := ⟨_, Lib.hid rfl⟩
  have IU1 : IsNum U1 := by rw [hU1.out]; exact isNum _
  obtain ⟨U2, hU2⟩ : ∃ U2, Hid (U2 = num 2) := ⟨_, Lib.hid rfl⟩
  have IU2 : IsNum U2 := by rw [hU2.out]; exact isNum _
  obtain ⟨U3, hU3⟩ : ∃ U3, Hid (U3 = num 3) := ⟨_, Lib.hid rfl⟩
  have IU3 : IsNum U3 := by rw [hU3.out]; exact isNum _
  obtain ⟨ZG, hZG⟩ : ∃ ZG, Hid (ZG = gotV (fun _ => 0) false) := ⟨_, Lib.hid rfl⟩
  have IZG : IsGot ZG := by rw [hZG.out]; exact ⟨_, _, rfl⟩
  obtain ⟨GX, hGX⟩ : ∃ GX, Hid (GX = gotV (dig (rootT a)) true) := ⟨_, Lib.hid rfl⟩
  have IGX : IsGot GX := by rw [hGX.out]; exact ⟨_, _, rfl⟩
  obtain ⟨GY, hGY⟩ : ∃ GY, Hid (GY = gotV (dig (subF 0 (rootT a))) true) := ⟨_, Lib.hid rfl⟩
  have IGY : IsGot GY := by rw [hGY.out]; exact ⟨_, _, rfl⟩
  rw [← hA.out, ← hN.out] at H1
  rw [← hPR.out] at HP
  rw [← hPR.out, ← hU3.out, ← hP3.out] at H2
  rw [← hP3.out, ← hE.out] at H3
  rw [← hN.out, ← hE.out, ← hR.out] at H4
  rw [← hR.out, ← hRR.out] at H5
  rw [← hPR.out, ← hU1.out, ← hPM.out] at H6
  rw [← hPM.out, ← hF.out] at H7
  rw [← hU2.out, ← hF.out, ← hT.out] at H8
  rw [← hR.out, ← hT.out, ← hS.out] at H9
  rw [← hX.out, ← hXX.out] at H10
  rw [← hZ.out, ← hX.out, ← hY.out] at H11
  rw [← hZ.out] at hb0
  rw [← hU1.out] at hb1
  rw [← hU2.out] at hb2
  rw [← hU3.out] at hb3
  rw [← hX.out] at hc0
  have hB1 : Hid (∀ w, (Instr.build 60 #[(0, .agg X), (1, .bool true)]).run Tryd.prog w = .ok (.agg GX) w) := by rw [hX.out, hGX.out]; exact hB1
  have hB2 : Hid (∀ w, (Instr.build 60 #[(0, .agg Y), (1, .bool true)]).run Tryd.prog w = .ok (.agg GY) w) := by rw [hY.out, hGY.out]; exact hB2
  have HB0 := Lib.hid hb0
  have HB1 := Lib.hid hb1
  have HB2 := Lib.hid hb2
  have HB3 := Lib.hid hb3
  have HZ2 : ∀ w, (zeroValue 24).run Tryd.prog w = .ok (.agg Z) w := by rw [hZ.out]; exact HZ
  have IZ2 := IZ.size
  have HZG : ∀ w, (zeroValue 60).run Tryd.prog w = .ok (.agg ZG) w := by rw [hZG.out]; exact zero29
  have HBG : Hid (∀ w, (Instr.build 60 #[]).run Tryd.prog w = .ok (.agg ZG) w) := by rw [hZG.out]; exact Lib.hid build29_0
  have SZG := IZG.size
  have hZG2 : Hid (ZG = gotV (dig 0) false) := by unfold Hid; rw [hZG.out]; rfl
  rw [← hA.out]
  clear HZ hb0 hb1 hb2 hb3 ha hA hPR hP3 hE hPM hF hT hU1 hU2 hU3 hZ hY
  have hz4 : ∀ W : World, Kt W [(W.heap.size, A, 24), (W.heap.size + 1, ZG, 60)] ((W.alloc (.cells A 24)).alloc (.cells ZG 60)) := by
    intro W
    have h := (((Kt.nil W).new A 24).new ZG 60)
    simp only [World.size_alloc] at h
    exact h.sub (fun p hp => by simp at hp ⊢; rcases hp with h | h <;> simp [h])
  have HS := Lib.hid (hz4 w)
  clear hz4
  go_enter Tryd.func35, Tryd.ntmps35
  go_upto_region 1 with ((refine wpList_run rfl _ (exec_alloc_agg _ 60 rfl _ (HZG _)) ?_); try simp only [World.size_alloc])
  try simp only [Act.put, sT, sS, sZ]
  generalize (w.alloc (.cells A 24)).alloc (.cells ZG 60) = W0 at *
  have hl1 := loadA IA (HS.out.get (w.heap.size) A 24 (by simp))
  go_wp2_with (refine wpList_run rfl _ (exec_load_of _ 24 (.tmp 1) rfl ⟨w.heap.size, 0, none⟩ rfl (.agg A) hl1) ?_)
  clear hl1
  refine (H1.out _).mono ?_
  rintro e w2 ⟨rfl, hb⟩
  have HS3 := Lib.hid (HS.out.below hb)
  clear hb HS H1
  go_upto_region 2 with (refine wpList_run0 rfl (exec_store24 _ (.tmp 1) (.tmp 7) rfl (w.heap.size) rfl N IN rfl A 24 (HS3.out.get (w.heap.size) A 24 (by simp)) IA.size) ?_)
  try simp only [Act.put, sT, sS, sZ]
  have HS4 : Hid (Kt w [(w.heap.size, N, 24), (w.heap.size + 1, ZG, 60)] (w2.setRow (w.heap.size) N)) := Lib.hid (HS3.out.set (w.heap.size) N A 24 (HS3.out.get (w.heap.size) A 24 (by simp)) (by omega) (fun p hp => by simp at hp; rcases hp with rfl | rfl <;> first | exact .inl rfl | exact .inr ⟨by simp, by simp only; omega⟩))
  clear HS3
  generalize w2.setRow (w.heap.size) N = W5 at *
  go_wp2_with fail
  refine (HP.out _).mono ?_
  rintro e w6 ⟨rfl, hb⟩
  have HS7 := Lib.hid (HS4.out.below hb)
  clear hb HS4
  go_wp2_with (refine wpList_run rfl _ (exec_build1 _ 24 0 (.const (.int .u64 3)) rfl (.int .u64 3) rfl _ (HB3.out _)) ?_)
  refine (H2.out _).mono ?_
  rintro e w8 ⟨rfl, hb⟩
  have HS9 := Lib.hid (HS7.out.below hb)
  clear hb HS7 H2
  have HS10 : Hid (Kt w [(w.heap.size, N, 24), (w.heap.size + 1, ZG, 60), (w8.heap.size, P3, 24)] (w8.alloc (.cells P3 24))) := Lib.hid ((HS9.out.new P3 24).sub (fun p hp => by simp at hp; rcases hp with rfl | rfl | rfl <;> simp))
  have l0g3 := HS9.out.lt (w.heap.size) N 24 (by simp)
  have l1g3 := HS9.out.lt (w.heap.size + 1) ZG 60 (by simp)
  clear HS9
  go_upto_region 3 with (first | ((refine wpList_run rfl _ (exec_alloc_agg _ 24 rfl _ (HZ2 _)) ?_); try simp only [World.size_alloc]) | (refine wpList_run0 rfl (exec_new24 _ (.tmp 3) (.tmp 12) rfl _ _ rfl P3 IP3 rfl IZ2) ?_))
  try simp only [Act.put, sT, sS, sZ]
  generalize w8.alloc (.cells P3 24) = W11 at *
  generalize w8.heap.size = g3 at *
  refine wp_cut (fun a' W => ∃ g5, a' = { tmps := #[.agg A, .pointer (some ⟨w.heap.size, 0, none⟩), .pointer (some ⟨w.heap.size + 1, 0, none⟩), .pointer (some ⟨g3, 0, none⟩), .int .u64 (c0 : Int), .pointer (some ⟨g5, 0, none⟩), .agg A, .agg N, .tuple #[.agg P3, .int .u64 (c0 : Int)], .agg PR, .agg U3, .tuple #[.agg P3, .int .u64 (c0 : Int)], .agg P3, .int .u64 (c0 : Int), .agg N, .agg P3, .agg E, .agg R, undef, undef, undef, undef, undef, undef, undef, undef, undef, undef, undef, undef, undef, undef, undef, undef, undef, undef, undef, undef, undef, undef, undef, undef, undef, undef, undef, undef], defers := [] } ∧ Kt w [(w.heap.size, N, 24), (w.heap.size + 1, ZG, 60), (g3, P3, 24), (g5, R, 24)] W ∧ g3 < g5) ?_ ?_
  · refine wp_region_any (by kernel_rfl) ?_
    change wpAny _ _ _ _ _ _ _ (World.drew _)
    have HD := HS10.out.drew
    generalize W11.drew = Wd at *
    refine any_of_F (S := Kt w [(w.heap.size, N, 24), (w.heap.size + 1, ZG, 60), (g3, P3, 24)]) (f := 5) _ _ _ _ ?_
    refine tkL 0 (some 14) (.load 24 (.tmp 1)) (.agg N) (fun o ho w2 hw => exec_load_of _ 24 (.tmp 1) ho ⟨w.heap.size, 0, none⟩ rfl _ (loadA IN (hw.get (w.heap.size) N 24 (by simp)))) HD ?_
    simp only [Act.put, sT, sS, sZ]
    refine tkL 1 (some 15) (.load 24 (.tmp 3)) (.agg P3) (fun o ho w2 hw => exec_load_of _ 24 (.tmp 3) ho ⟨g3, 0, none⟩ rfl _ (loadA IP3 (hw.get (g3) P3 24 (by simp)))) HD ?_
    simp only [Act.put, sT, sS, sZ]
    refine rdy [2, 4] (rcl (some 16) 59 #[.tmp 15, .const (.int .i64 3)] #[24, 3] #[.agg P3, .int .i64 3] enters59 _ (H3.out _) ?_ (ral 5 24 HZ2 (HD.alloc _) ?_ ReadyF.nil))
    · rintro v ws1 ⟨he, hb⟩
      cases he
      have Hs2 := HD.below hb
      clear hb
      refine ⟨Hs2, ?_⟩
      simp only [Act.put, sT, sS, sZ]
      refine rdy [3, 4] (rcl (some 17) 58 #[.tmp 14, .tmp 16] #[24, 24] #[.agg N, .agg E] enters58 _ (H4.out _) ?_ (ral 5 24 HZ2 (Hs2.alloc _) ?_ ReadyF.nil))
      · rintro v ws3 ⟨he, hb⟩
        cases he
        have Hs4 := Hs2.below hb
        clear hb
        refine ⟨Hs4, ?_⟩
        simp only [Act.put, sT, sS, sZ]
        refine rdy [4] (ral 5 24 HZ2 (Hs4.alloc _) ?_ ReadyF.nil)
        have l0ws5 := Hs4.lt (w.heap.size) N 24 (by simp)
        have l1ws5 := Hs4.lt (w.heap.size + 1) ZG 60 (by simp)
        have l2ws5 := Hs4.lt (g3) P3 24 (by simp)
        have Hs6 := Hs4.alloc (.cells Z 24)
        have Es7 := (Hs4.sub (m := []) (fun p hp => by cases hp)).new Z 24
        simp only [Act.put, sT, sS, sZ]
        obtain ⟨ws5, hws5⟩ : ∃ W, W = ws3.alloc (.cells Z 24) := ⟨_, rfl⟩
        rw [← hws5] at Hs6 Es7 ⊢
        clear hws5
        refine rdy [5] (ReadyF.last (.store 24 (.tmp 5) (.tmp 17)) rfl (fun o ho => exec_store24 ws5 (.tmp 5) (.tmp 17) ho (ws3.heap.size) rfl R IR rfl Z 24 (Es7.get (ws3.heap.size) Z 24 (by simp)) IZ2) ?_ ReadyF.nil)
        refine any_doneF (by kernel_rfl) ?_ _
        refine nrm_intro ⟨_, rfl, (Hs6.set (ws3.heap.size) R Z 24 (Es7.get (ws3.heap.size) Z 24 (by simp)) (by omega) (m := [(w.heap.size, N, 24), (w.heap.size + 1, ZG, 60), (g3, P3, 24), (ws3.heap.size, R, 24)]) (fun p hp => by simp at hp; rcases hp with rfl | rfl | rfl | rfl <;> first | exact .inl rfl | exact .inr ⟨by simp, by simp only; omega⟩)), by omega⟩
      · have l0ws8 := Hs2.lt (w.heap.size) N 24 (by simp)
        have l1ws8 := Hs2.lt (w.heap.size + 1) ZG 60 (by simp)
        have l2ws8 := Hs2.lt (g3) P3 24 (by simp)
        have Hs9 := Hs2.alloc (.cells Z 24)
        have Es10 := (Hs2.sub (m := []) (fun p hp => by cases hp)).new Z 24
        simp only [Act.put, sT, sS, sZ]
        obtain ⟨ws8, hws8⟩ : ∃ W, W = ws1.alloc (.cells Z 24) := ⟨_, rfl⟩
        rw [← hws8] at Hs9 Es10 ⊢
        clear hws8
        refine rdy [3] (rcl (some 17) 58 #[.tmp 14, .tmp 16] #[24, 24] #[.agg N, .agg E] enters58 _ (H4.out _) ?_ ReadyF.nil)
        rintro v ws11 ⟨he, hb⟩
        cases he
        have Hs12 := Hs9.below hb
        have Es13 := Es10.below hb
        clear hb
        refine ⟨Hs12, ?_⟩
        simp only [Act.put, sT, sS, sZ]
        refine rdy [5] (ReadyF.last (.store 24 (.tmp 5) (.tmp 17)) rfl (fun o ho => exec_store24 ws11 (.tmp 5) (.tmp 17) ho (ws1.heap.size) rfl R IR rfl Z 24 (Es13.get (ws1.heap.size) Z 24 (by simp)) IZ2) ?_ ReadyF.nil)
        refine any_doneF (by kernel_rfl) ?_ _
        refine nrm_intro ⟨_, rfl, (Hs12.set (ws1.heap.size) R Z 24 (Es13.get (ws1.heap.size) Z 24 (by simp)) (by omega) (m := [(w.heap.size, N, 24), (w.heap.size + 1, ZG, 60), (g3, P3, 24), (ws1.heap.size, R, 24)]) (fun p hp => by simp at hp; rcases hp with rfl | rfl | rfl | rfl <;> first | exact .inl rfl | exact .inr ⟨by simp, by simp only; omega⟩)), by omega⟩
    · have l0ws14 := HD.lt (w.heap.size) N 24 (by simp)
      have l1ws14 := HD.lt (w.heap.size + 1) ZG 60 (by simp)
      have l2ws14 := HD.lt (g3) P3 24 (by simp)
      have Hs15 := HD.alloc (.cells Z 24)
      have Es16 := (HD.sub (m := []) (fun p hp => by cases hp)).new Z 24
      simp only [Act.put, sT, sS, sZ]
      obtain ⟨ws14, hws14⟩ : ∃ W, W = Wd.alloc (.cells Z 24) := ⟨_, rfl⟩
      rw [← hws14] at Hs15 Es16 ⊢
      clear hws14
      refine rdy [2] (rcl (some 16) 59 #[.tmp 15, .const (.int .i64 3)] #[24, 3] #[.agg P3, .int .i64 3] enters59 _ (H3.out _) ?_ ReadyF.nil)
      rintro v ws17 ⟨he, hb⟩
      cases he
      have Hs18 := Hs15.below hb
      have Es19 := Es16.below hb
      clear hb
      refine ⟨Hs18, ?_⟩
      simp only [Act.put, sT, sS, sZ]
      refine rdy [3] (rcl (some 17) 58 #[.tmp 14, .tmp 16] #[24, 24] #[.agg N, .agg E] enters58 _ (H4.out _) ?_ ReadyF.nil)
      rintro v ws20 ⟨he, hb⟩
      cases he
      have Hs21 := Hs18.below hb
      have Es22 := Es19.below hb
      clear hb
      refine ⟨Hs21, ?_⟩
      simp only [Act.put, sT, sS, sZ]
      refine rdy [5] (ReadyF.last (.store 24 (.tmp 5) (.tmp 17)) rfl (fun o ho => exec_store24 ws20 (.tmp 5) (.tmp 17) ho (Wd.heap.size) rfl R IR rfl Z 24 (Es22.get (Wd.heap.size) Z 24 (by simp)) IZ2) ?_ ReadyF.nil)
      refine any_doneF (by kernel_rfl) ?_ _
      refine nrm_intro ⟨_, rfl, (Hs21.set (Wd.heap.size) R Z 24 (Es22.get (Wd.heap.size) Z 24 (by simp)) (by omega) (m := [(w.heap.size, N, 24), (w.heap.size + 1, ZG, 60), (g3, P3, 24), (Wd.heap.size, R, 24)]) (fun p hp => by simp at hp; rcases hp with rfl | rfl | rfl | rfl <;> first | exact .inl rfl | exact .inr ⟨by simp, by simp only; omega⟩)), by omega⟩
  rintro a' W3 ⟨g5, rfl, HK0, l5⟩
  have HK := Lib.hid HK0
  clear HS10 HK0 H3 H4
  go_upto_region 4 with fail
  try simp only [Act.put, sT, sS, sZ]
  by_cases hc1 : mulF (rootR a) (rootR a) = a % pp
  · have hXR : Hid (R = X) := by unfold Hid; rw [hR.out, hX.out, hRT.out, if_pos hc1]
    have hd3 : decide (mulF (rootT a) (rootT a) = a % pp) = !false := by rw [hRT.out, if_pos hc1]; simp [hc1]
    rw [hXR.out] at HK ⊢
    clear hXR hc1 hRT H5 H9 hR
    refine wp_nrm ?_
    refine wp_region_any (by kernel_rfl) ?_
    change wpAny _ _ _ _ _ _ _ (World.drew _)
    have HD := HK.out.drew
    generalize W3.drew = Wd at *
    refine any_of_F (S := Kt w [(w.heap.size, N, 24), (w.heap.size + 1, ZG, 60), (g3, P3, 24), (g5, X, 24)]) (f := 1000) _ _ _ _ ?_
    refine tkG 0 (some 18) (.load 24 (.tmp 5)) none (.agg X) (fun o ho w2 hw => exec_load_of _ 24 (.tmp 5) ho ⟨g5, 0, none⟩ rfl _ (loadA IX (hw.get (g5) X 24 (by simp)))) HD ?_
    simp only [Act.put, sT, sS, sZ]
    refine tkG 1 (some 19) (.load 24 (.tmp 5)) none (.agg X) (fun o ho w2 hw => exec_load_of _ 24 (.tmp 5) ho ⟨g5, 0, none⟩ rfl _ (loadA IX (hw.get (g5) X 24 (by simp)))) HD ?_
    simp only [Act.put, sT, sS, sZ]
    refine tkG 3 (some 21) (.load 24 (.tmp 1)) none (.agg N) (fun o ho w2 hw => exec_load_of _ 24 (.tmp 1) ho ⟨w.heap.size, 0, none⟩ rfl _ (loadA IN (hw.get (w.heap.size) N 24 (by simp)))) HD ?_
    simp only [Act.put, sT, sS, sZ]
    refine rdy [2] (rcl (some 20) 34 #[.tmp 18, .tmp 19] #[24, 24] #[.agg X, .agg X] enters34 _ (H10.out _) ?_ ReadyF.nil)
    rintro v wx1 ⟨he, hb⟩
    cases he
    have Hx2 := HD.below hb
    clear hb
    refine ⟨Hx2, ?_⟩
    simp only [Act.put, sT, sS, sZ]
    refine tkG 4 (some 22) (.binOp .neq 24 (.tmp 20) (.tmp 21) 24) none (.bool false) (fun o ho w2 hw => exec_neqL (.tmp 20) (.tmp 21) ho _ _ htm4 hN4 XX N hXX hN rfl rfl false hd3 w2) Hx2 ?_
    simp only [Act.put, sT, sS, sZ]
    refine AnyF.done (by kernel_rfl) ?_ _
    refine nrm_intro ?_
    have HSa := Lib.hid Hx2
    go_upto_region 6 with fail
    try simp only [Act.put, sT, sS, sZ]
    by_cases hc2 : mulF (rootT a) (rootT a) = a % pp
    · have hdc : decide (mulF (rootT a) (rootT a) = a % pp) = !false := by simp [hc2]
      by_cases hod1 : rootT a % 2 = 1
      · have hrf : Hid (rootF a = (subF 0 (rootT a), true)) := by unfold Hid; rw [hRF.out, if_pos hc2, if_pos hod1]
        have hod2 : bits .and .u64 (d : Int) 1 = 1 := by have h := and_one d (d % 2) hdl rfl; rw [show d % 2 = 1 by omega] at h; exact h
        clear hRF hc2 hod1 hod
        refine wp_nrm ?_
        refine wp_region_any (by kernel_rfl) ?_
        change wpAny _ _ _ _ _ _ _ (World.drew _)
        have HD := HSa.out.drew
        generalize wx1.drew = Wd at *
        refine any_of_F (S := Kt w [(w.heap.size, N, 24), (w.heap.size + 1, ZG, 60), (g3, P3, 24), (g5, X, 24)]) (f := 1000) _ _ _ _ ?_
        refine tkG 0 (some 31) (.load 24 (.tmp 5)) none (.agg X) (fun o ho w2 hw => exec_load_of _ 24 (.tmp 5) ho ⟨g5, 0, none⟩ rfl _ (loadA IX (hw.get (g5) X 24 (by simp)))) HD ?_
        simp only [Act.put, sT, sS, sZ]
        refine tkG 1 (some 32) (.load 24 (.tmp 5)) none (.agg X) (fun o ho w2 hw => exec_load_of _ 24 (.tmp 5) ho ⟨g5, 0, none⟩ rfl _ (loadA IX (hw.get (g5) X 24 (by simp)))) HD ?_
        simp only [Act.put, sT, sS, sZ]
        refine tkG 3 (some 34) (.load 24 (.tmp 1)) none (.agg N) (fun o ho w2 hw => exec_load_of _ 24 (.tmp 1) ho ⟨w.heap.size, 0, none⟩ rfl _ (loadA IN (hw.get (w.heap.size) N 24 (by simp)))) HD ?_
        simp only [Act.put, sT, sS, sZ]
        refine rdy [2] (rcl (some 33) 34 #[.tmp 31, .tmp 32] #[24, 24] #[.agg X, .agg X] enters34 _ (H10.out _) ?_ ReadyF.nil)
        rintro v wu1 ⟨he, hb⟩
        cases he
        have Hu2 := HD.below hb
        clear hb
        refine ⟨Hu2, ?_⟩
        simp only [Act.put, sT, sS, sZ]
        refine tkG 4 (some 35) (.binOp .neq 24 (.tmp 33) (.tmp 34) 24) none (.bool false) (fun o ho w2 hw => exec_neqL (.tmp 33) (.tmp 34) ho _ _ htm4 hN4 XX N hXX hN rfl rfl false hdc w2) Hu2 ?_
        simp only [Act.put, sT, sS, sZ]
        refine AnyF.done (by kernel_rfl) ?_ _
        refine nrm_intro ?_
        have Hu2h := Lib.hid Hu2
        have hcell := (Hu2.cell g5 X 24 (by simp) 0).trans hc0
        have hl1 := loadA IX (Hu2h.out.get (g5) X 24 (by simp))
        go_wp2_with (first | (refine wpList_run rfl _ (exec_indexAddr24 (.tmp 5) (.const (.int .i64 0)) rfl g5 0 rfl rfl (by decide) _) ?_) | (refine wpList_run rfl _ (exec_load_one _ 22 (.tmp 37) rfl ⟨g5, 0, none⟩ rfl _ hcell _ Tryd.underlying22 rfl) ?_) | (refine wpList_run rfl _ (exec_load_of _ 24 (.tmp 5) rfl ⟨g5, 0, none⟩ rfl (.agg X) hl1) ?_) | (refine wpList_run rfl _ (exec_build0 rfl (.agg Z) (HB0.out _) _) ?_))
        refine (H11.out _).mono ?_
        rintro e w2 ⟨rfl, hb⟩
        have HS3 := Lib.hid (Hu2h.out.below hb)
        clear hb Hu2h H11
        go_upto_region 10 with (refine wpList_run0 rfl (exec_store24 _ (.tmp 5) (.tmp 43) rfl (g5) rfl Y IY rfl X 24 (HS3.out.get (g5) X 24 (by simp)) IX.size) ?_)
        try simp only [Act.put, sT, sS, sZ]
        have HS4 : Hid (Kt w [(w.heap.size, N, 24), (w.heap.size + 1, ZG, 60), (g3, P3, 24), (g5, Y, 24)] (w2.setRow (g5) Y)) := Lib.hid (HS3.out.set (g5) Y X 24 (HS3.out.get (g5) X 24 (by simp)) (by omega) (fun p hp => by simp at hp; rcases hp with rfl | rfl | rfl | rfl <;> first | exact .inl rfl | exact .inr ⟨by simp, by simp only; omega⟩))
        clear HS3
        generalize w2.setRow (g5) Y = W5 at *
        have hl6 := loadA IY (HS4.out.get (g5) Y 24 (by simp))
        go_wp2_with (first | (refine wpList_run rfl _ (exec_load_of _ 24 (.tmp 5) rfl ⟨g5, 0, none⟩ rfl (.agg Y) hl6) ?_) | (refine wpList_run rfl _ (exec_build2 _ 60 0 1 (.tmp 44) (.const (.bool true)) rfl (.agg Y) (.bool true) rfl rfl _ (hB2.out _)) ?_) | (refine wpList_run0 rfl (exec_store29 _ (.tmp 2) (.tmp 45) rfl (w.heap.size + 1) rfl GY IGY rfl ZG 60 (HS4.out.get (w.heap.size + 1) ZG 60 (by simp)) SZG) ?_))
        have HSZ : Kt w [(w.heap.size + 1, GY, 60)] (World.setRow _ (w.heap.size + 1) GY) := HS4.out.set (w.heap.size + 1) GY ZG 60 (HS4.out.get (w.heap.size + 1) ZG 60 (by simp)) (by omega) (fun p hp => by simp at hp; subst hp; exact .inl rfl)
        exact bodyPost_ret (results_cell rfl _ _ _ ⟨w.heap.size + 1, 0, none⟩ rfl _ (load29 IGY (HSZ.get (w.heap.size + 1) GY 60 (by simp)))) rfl ⟨by rw [hrf.out, hGY.out], HSZ.1⟩
      · have hrf : Hid (rootF a = (rootT a, true)) := by unfold Hid; rw [hRF.out, if_pos hc2, if_neg hod1]
        have hod2 : bits .and .u64 (d : Int) 1 = 0 := by have h := and_one d (d % 2) hdl rfl; rw [show d % 2 = 0 by omega] at h; exact h
        clear hRF hc2 hod1 hod
        refine wp_nrm ?_
        refine wp_region_any (by kernel_rfl) ?_
        change wpAny _ _ _ _ _ _ _ (World.drew _)
        have HD := HSa.out.drew
        generalize wx1.drew = Wd at *
        refine any_of_F (S := Kt w [(w.heap.size, N, 24), (w.heap.size + 1, ZG, 60), (g3, P3, 24), (g5, X, 24)]) (f := 1000) _ _ _ _ ?_
        refine tkG 0 (some 31) (.load 24 (.tmp 5)) none (.agg X) (fun o ho w2 hw => exec_load_of _ 24 (.tmp 5) ho ⟨g5, 0, none⟩ rfl _ (loadA IX (hw.get (g5) X 24 (by simp)))) HD ?_
        simp only [Act.put, sT, sS, sZ]
        refine tkG 1 (some 32) (.load 24 (.tmp 5)) none (.agg X) (fun o ho w2 hw => exec_load_of _ 24 (.tmp 5) ho ⟨g5, 0, none⟩ rfl _ (loadA IX (hw.get (g5) X 24 (by simp)))) HD ?_
        simp only [Act.put, sT, sS, sZ]
        refine tkG 3 (some 34) (.load 24 (.tmp 1)) none (.agg N) (fun o ho w2 hw => exec_load_of _ 24 (.tmp 1) ho ⟨w.heap.size, 0, none⟩ rfl _ (loadA IN (hw.get (w.heap.size) N 24 (by simp)))) HD ?_
        simp only [Act.put, sT, sS, sZ]
        refine rdy [2] (rcl (some 33) 34 #[.tmp 31, .tmp 32] #[24, 24] #[.agg X, .agg X] enters34 _ (H10.out _) ?_ ReadyF.nil)
        rintro v wu1 ⟨he, hb⟩
        cases he
        have Hu2 := HD.below hb
        clear hb
        refine ⟨Hu2, ?_⟩
        simp only [Act.put, sT, sS, sZ]
        refine tkG 4 (some 35) (.binOp .neq 24 (.tmp 33) (.tmp 34) 24) none (.bool false) (fun o ho w2 hw => exec_neqL (.tmp 33) (.tmp 34) ho _ _ htm4 hN4 XX N hXX hN rfl rfl false hdc w2) Hu2 ?_
        simp only [Act.put, sT, sS, sZ]
        refine AnyF.done (by kernel_rfl) ?_ _
        refine nrm_intro ?_
        have Hu2h := Lib.hid Hu2
        have hcell := (Hu2.cell g5 X 24 (by simp) 0).trans hc0
        have hl1 := loadA IX (Hu2h.out.get (g5) X 24 (by simp))
        go_wp2_with (first | (refine wpList_run rfl _ (exec_indexAddr24 (.tmp 5) (.const (.int .i64 0)) rfl g5 0 rfl rfl (by decide) _) ?_) | (refine wpList_run rfl _ (exec_load_one _ 22 (.tmp 37) rfl ⟨g5, 0, none⟩ rfl _ hcell _ Tryd.underlying22 rfl) ?_) | (refine wpList_run rfl _ (exec_load_of _ 24 (.tmp 5) rfl ⟨g5, 0, none⟩ rfl (.agg X) hl1) ?_) | (refine wpList_run rfl _ (exec_build2 _ 60 0 1 (.tmp 44) (.const (.bool true)) rfl (.agg X) (.bool true) rfl rfl _ (hB1.out _)) ?_) | (refine wpList_run0 rfl (exec_store29 _ (.tmp 2) (.tmp 45) rfl (w.heap.size + 1) rfl GX IGX rfl ZG 60 (Hu2h.out.get (w.heap.size + 1) ZG 60 (by simp)) SZG) ?_))
        have HSZ : Kt w [(w.heap.size + 1, GX, 60)] (World.setRow _ (w.heap.size + 1) GX) := Hu2h.out.set (w.heap.size + 1) GX ZG 60 (Hu2h.out.get (w.heap.size + 1) ZG 60 (by simp)) (by omega) (fun p hp => by simp at hp; subst hp; exact .inl rfl)
        exact bodyPost_ret (results_cell rfl _ _ _ ⟨w.heap.size + 1, 0, none⟩ rfl _ (load29 IGX (HSZ.get (w.heap.size + 1) GX 60 (by simp)))) rfl ⟨by rw [hrf.out, hGX.out], HSZ.1⟩
    · have hrf : Hid (rootF a = (0, false)) := by unfold Hid; rw [hRF.out, if_neg hc2]
      have hdc : decide (mulF (rootT a) (rootT a) = a % pp) = !true := by simp [hc2]
      clear hRF hc2 hod
      refine wp_nrm ?_
      refine wp_region_any (by kernel_rfl) ?_
      change wpAny _ _ _ _ _ _ _ (World.drew _)
      have HD := HSa.out.drew
      generalize wx1.drew = Wd at *
      refine any_of_F (S := Kt w [(w.heap.size, N, 24), (w.heap.size + 1, ZG, 60), (g3, P3, 24), (g5, X, 24)]) (f := 1000) _ _ _ _ ?_
      refine tkG 0 (some 31) (.load 24 (.tmp 5)) none (.agg X) (fun o ho w2 hw => exec_load_of _ 24 (.tmp 5) ho ⟨g5, 0, none⟩ rfl _ (loadA IX (hw.get (g5) X 24 (by simp)))) HD ?_
      simp only [Act.put, sT, sS, sZ]
      refine tkG 1 (some 32) (.load 24 (.tmp 5)) none (.agg X) (fun o ho w2 hw => exec_load_of _ 24 (.tmp 5) ho ⟨g5, 0, none⟩ rfl _ (loadA IX (hw.get (g5) X 24 (by simp)))) HD ?_
      simp only [Act.put, sT, sS, sZ]
      refine tkG 3 (some 34) (.load 24 (.tmp 1)) none (.agg N) (fun o ho w2 hw => exec_load_of _ 24 (.tmp 1) ho ⟨w.heap.size, 0, none⟩ rfl _ (loadA IN (hw.get (w.heap.size) N 24 (by simp)))) HD ?_
      simp only [Act.put, sT, sS, sZ]
      refine rdy [2] (rcl (some 33) 34 #[.tmp 31, .tmp 32] #[24, 24] #[.agg X, .agg X] enters34 _ (H10.out _) ?_ ReadyF.nil)
      rintro v wu1 ⟨he, hb⟩
      cases he
      have Hu2 := HD.below hb
      clear hb
      refine ⟨Hu2, ?_⟩
      simp only [Act.put, sT, sS, sZ]
      refine tkG 4 (some 35) (.binOp .neq 24 (.tmp 33) (.tmp 34) 24) none (.bool true) (fun o ho w2 hw => exec_neqL (.tmp 33) (.tmp 34) ho _ _ htm4 hN4 XX N hXX hN rfl rfl true hdc w2) Hu2 ?_
      simp only [Act.put, sT, sS, sZ]
      refine AnyF.done (by kernel_rfl) ?_ _
      refine nrm_intro ?_
      have Hu2h := Lib.hid Hu2
      go_wp2_with (first | (refine wpList_run rfl _ (exec_build0g rfl (.agg ZG) (HBG.out _) _) ?_) | (refine wpList_run0 rfl (exec_store29 _ (.tmp 2) (.tmp 36) rfl (w.heap.size + 1) rfl ZG IZG rfl ZG 60 (Hu2h.out.get (w.heap.size + 1) ZG 60 (by simp)) SZG) ?_))
      have HSZ : Kt w [(w.heap.size + 1, ZG, 60)] (World.setRow _ (w.heap.size + 1) ZG) := Hu2h.out.set (w.heap.size + 1) ZG ZG 60 (Hu2h.out.get (w.heap.size + 1) ZG 60 (by simp)) (by omega) (fun p hp => by simp at hp; subst hp; exact .inl rfl)
      exact bodyPost_ret (results_cell rfl _ _ _ ⟨w.heap.size + 1, 0, none⟩ rfl _ (load29 IZG (HSZ.get (w.heap.size + 1) ZG 60 (by simp)))) rfl ⟨by rw [hrf.out, hZG2.out], HSZ.1⟩
  · have hXS : Hid (S = X) := by unfold Hid; rw [hS.out, hX.out, hRT.out, if_neg hc1]
    have hd3 : decide (mulF (rootR a) (rootR a) = a % pp) = !true := by simp [hc1]
    rw [hXS.out] at H9
    clear hXS hc1 hRT
    refine wp_nrm ?_
    refine wp_region_any (by kernel_rfl) ?_
    change wpAny _ _ _ _ _ _ _ (World.drew _)
    have HD := HK.out.drew
    generalize W3.drew = Wd at *
    refine any_of_F (S := Kt w [(w.heap.size, N, 24), (w.heap.size + 1, ZG, 60), (g3, P3, 24), (g5, R, 24)]) (f := 1000) _ _ _ _ ?_
    refine tkG 0 (some 18) (.load 24 (.tmp 5)) none (.agg R) (fun o ho w2 hw => exec_load_of _ 24 (.tmp 5) ho ⟨g5, 0, none⟩ rfl _ (loadA IR (hw.get (g5) R 24 (by simp)))) HD ?_
    simp only [Act.put, sT, sS, sZ]
    refine tkG 1 (some 19) (.load 24 (.tmp 5)) none (.agg R) (fun o ho w2 hw => exec_load_of _ 24 (.tmp 5) ho ⟨g5, 0, none⟩ rfl _ (loadA IR (hw.get (g5) R 24 (by simp)))) HD ?_
    simp only [Act.put, sT, sS, sZ]
    refine tkG 3 (some 21) (.load 24 (.tmp 1)) none (.agg N) (fun o ho w2 hw => exec_load_of _ 24 (.tmp 1) ho ⟨w.heap.size, 0, none⟩ rfl _ (loadA IN (hw.get (w.heap.size) N 24 (by simp)))) HD ?_
    simp only [Act.put, sT, sS, sZ]
    refine rdy [2] (rcl (some 20) 34 #[.tmp 18, .tmp 19] #[24, 24] #[.agg R, .agg R] enters34 _ (H5.out _) ?_ ReadyF.nil)
    rintro v wx1 ⟨he, hb⟩
    cases he
    have Hx2 := HD.below hb
    clear hb
    refine ⟨Hx2, ?_⟩
    simp only [Act.put, sT, sS, sZ]
    refine tkG 4 (some 22) (.binOp .neq 24 (.tmp 20) (.tmp 21) 24) none (.bool true) (fun o ho w2 hw => exec_neqL (.tmp 20) (.tmp 21) ho _ _ hrm4 hN4 RR N hRR hN rfl rfl true hd3 w2) Hx2 ?_
    simp only [Act.put, sT, sS, sZ]
    refine AnyF.done (by kernel_rfl) ?_ _
    refine nrm_intro ?_
    have HSa := Lib.hid Hx2
    go_upto_region 5 with fail
    try simp only [Act.put, sT, sS, sZ]
    refine wp_nrm ?_
    refine wp_region_any (by kernel_rfl) ?_
    change wpAny _ _ _ _ _ _ _ (World.drew _)
    have HD := HSa.out.drew
    generalize wx1.drew = Wd at *
    refine any_of_F (S := Kt w [(w.heap.size, N, 24), (w.heap.size + 1, ZG, 60), (g3, P3, 24), (g5, R, 24)]) (f := 8) _ _ _ _ ?_
    refine tkL 0 (some 23) (.load 24 (.tmp 5)) (.agg R) (fun o ho w2 hw => exec_load_of _ 24 (.tmp 5) ho ⟨g5, 0, none⟩ rfl _ (loadA IR (hw.get (g5) R 24 (by simp)))) HD ?_
    simp only [Act.put, sT, sS, sZ]
    refine tkL 1 (some 24) (.build 24 #[(0, .const (.int .u64 2))]) (.agg U2) (fun o ho w2 hw => exec_build1 w2 24 0 (.const (.int .u64 2)) ho _ rfl _ (HB2.out w2)) HD ?_
    simp only [Act.put, sT, sS, sZ]
    refine tkL 3 (some 26) (.build 24 #[(0, .const (.int .u64 1))]) (.agg U1) (fun o ho w2 hw => exec_build1 w2 24 0 (.const (.int .u64 1)) ho _ rfl _ (HB1.out w2)) HD ?_
    simp only [Act.put, sT, sS, sZ]
    refine rdy [2] (rcl (some 25) 33 #[] #[] #[] enters33 _ (HP.out _) ?_ ReadyF.nil)
    rintro v wv1 ⟨he, hb⟩
    cases he
    have Hv2 := HD.below hb
    clear hb
    refine ⟨Hv2, ?_⟩
    simp only [Act.put, sT, sS, sZ]
    refine rdy [4] (rcl (some 27) 50 #[.tmp 25, .tmp 26] #[24, 24] #[.agg PR, .agg U1] enters50 _ (H6.out _) ?_ ReadyF.nil)
    rintro v wv3 ⟨he, hb⟩
    cases he
    have Hv4 := Hv2.below hb
    clear hb
    refine ⟨Hv4, ?_⟩
    simp only [Act.put, sT, sS, sZ]
    refine rdy [5] (rcl (some 28) 59 #[.tmp 27, .const (.int .i64 2)] #[24, 3] #[.agg PM, .int .i64 2] enters59 _ (H7.out _) ?_ ReadyF.nil)
    rintro v wv5 ⟨he, hb⟩
    cases he
    have Hv6 := Hv4.below hb
    clear hb
    refine ⟨Hv6, ?_⟩
    simp only [Act.put, sT, sS, sZ]
    refine rdy [6] (rcl (some 29) 58 #[.tmp 24, .tmp 28] #[24, 24] #[.agg U2, .agg F] enters58 _ (H8.out _) ?_ ReadyF.nil)
    rintro v wv7 ⟨he, hb⟩
    cases he
    have Hv8 := Hv6.below hb
    clear hb
    refine ⟨Hv8, ?_⟩
    simp only [Act.put, sT, sS, sZ]
    refine rdy [7] (rcl (some 30) 34 #[.tmp 23, .tmp 29] #[24, 24] #[.agg R, .agg T] enters34 _ (H9.out _) ?_ ReadyF.nil)
    rintro v wv9 ⟨he, hb⟩
    cases he
    have Hv10 := Hv8.below hb
    clear hb
    refine ⟨Hv10, ?_⟩
    simp only [Act.put, sT, sS, sZ]
    refine rdy [8] (ReadyF.last (.store 24 (.tmp 5) (.tmp 30)) rfl (fun o ho => exec_store24 wv9 (.tmp 5) (.tmp 30) ho (g5) rfl X IX rfl R 24 (Hv10.get (g5) R 24 (by simp)) IR.size) ?_ ReadyF.nil)
    refine any_doneF (by kernel_rfl) ?_ _
    refine nrm_intro ?_
    have HSc : Hid (Kt w [(w.heap.size, N, 24), (w.heap.size + 1, ZG, 60), (g3, P3, 24), (g5, X, 24)] (World.setRow _ g5 X)) := Lib.hid (Hv10.set g5 X R 24 (Hv10.get g5 R 24 (by simp)) (by omega) (fun p hp => by simp at hp; rcases hp with rfl | rfl | rfl | rfl <;> first | exact .inl rfl | exact .inr ⟨by simp, by simp only; omega⟩))
    generalize World.setRow _ g5 X = W4 at *
    go_upto_region 6 with fail
    try simp only [Act.put, sT, sS, sZ]
    by_cases hc2 : mulF (rootT a) (rootT a) = a % pp
    · have hdc : decide (mulF (rootT a) (rootT a) = a % pp) = !false := by simp [hc2]
      by_cases hod1 : rootT a % 2 = 1
      · have hrf : Hid (rootF a = (subF 0 (rootT a), true)) := by unfold Hid; rw [hRF.out, if_pos hc2, if_pos hod1]
        have hod2 : bits .and .u64 (d : Int) 1 = 1 := by have h := and_one d (d % 2) hdl rfl; rw [show d % 2 = 1 by omega] at h; exact h
        clear hRF hc2 hod1 hod
        refine wp_nrm ?_
        refine wp_region_any (by kernel_rfl) ?_
        change wpAny _ _ _ _ _ _ _ (World.drew _)
        have HD := HSc.out.drew
        generalize W4.drew = Wd at *
        refine any_of_F (S := Kt w [(w.heap.size, N, 24), (w.heap.size + 1, ZG, 60), (g3, P3, 24), (g5, X, 24)]) (f := 1000) _ _ _ _ ?_
        refine tkG 0 (some 31) (.load 24 (.tmp 5)) none (.agg X) (fun o ho w2 hw => exec_load_of _ 24 (.tmp 5) ho ⟨g5, 0, none⟩ rfl _ (loadA IX (hw.get (g5) X 24 (by simp)))) HD ?_
        simp only [Act.put, sT, sS, sZ]
        refine tkG 1 (some 32) (.load 24 (.tmp 5)) none (.agg X) (fun o ho w2 hw => exec_load_of _ 24 (.tmp 5) ho ⟨g5, 0, none⟩ rfl _ (loadA IX (hw.get (g5) X 24 (by simp)))) HD ?_
        simp only [Act.put, sT, sS, sZ]
        refine tkG 3 (some 34) (.load 24 (.tmp 1)) none (.agg N) (fun o ho w2 hw => exec_load_of _ 24 (.tmp 1) ho ⟨w.heap.size, 0, none⟩ rfl _ (loadA IN (hw.get (w.heap.size) N 24 (by simp)))) HD ?_
        simp only [Act.put, sT, sS, sZ]
        refine rdy [2] (rcl (some 33) 34 #[.tmp 31, .tmp 32] #[24, 24] #[.agg X, .agg X] enters34 _ (H10.out _) ?_ ReadyF.nil)
        rintro v wu1 ⟨he, hb⟩
        cases he
        have Hu2 := HD.below hb
        clear hb
        refine ⟨Hu2, ?_⟩
        simp only [Act.put, sT, sS, sZ]
        refine tkG 4 (some 35) (.binOp .neq 24 (.tmp 33) (.tmp 34) 24) none (.bool false) (fun o ho w2 hw => exec_neqL (.tmp 33) (.tmp 34) ho _ _ htm4 hN4 XX N hXX hN rfl rfl false hdc w2) Hu2 ?_
        simp only [Act.put, sT, sS, sZ]
        refine AnyF.done (by kernel_rfl) ?_ _
        refine nrm_intro ?_
        have Hu2h := Lib.hid Hu2
        have hcell := (Hu2.cell g5 X 24 (by simp) 0).trans hc0
        have hl1 := loadA IX (Hu2h.out.get (g5) X 24 (by simp))
        go_wp2_with (first | (refine wpList_run rfl _ (exec_indexAddr24 (.tmp 5) (.const (.int .i64 0)) rfl g5 0 rfl rfl (by decide) _) ?_) | (refine wpList_run rfl _ (exec_load_one _ 22 (.tmp 37) rfl ⟨g5, 0, none⟩ rfl _ hcell _ Tryd.underlying22 rfl) ?_) | (refine wpList_run rfl _ (exec_load_of _ 24 (.tmp 5) rfl ⟨g5, 0, none⟩ rfl (.agg X) hl1) ?_) | (refine wpList_run rfl _ (exec_build0 rfl (.agg Z) (HB0.out _) _) ?_))
        refine (H11.out _).mono ?_
        rintro e w2 ⟨rfl, hb⟩
        have HS3 := Lib.hid (Hu2h.out.below hb)
        clear hb Hu2h H11
        go_upto_region 10 with (refine wpList_run0 rfl (exec_store24 _ (.tmp 5) (.tmp 43) rfl (g5) rfl Y IY rfl X 24 (HS3.out.get (g5) X 24 (by simp)) IX.size) ?_)
        try simp only [Act.put, sT, sS, sZ]
        have HS4 : Hid (Kt w [(w.heap.size, N, 24), (w.heap.size + 1, ZG, 60), (g3, P3, 24), (g5, Y, 24)] (w2.setRow (g5) Y)) := Lib.hid (HS3.out.set (g5) Y X 24 (HS3.out.get (g5) X 24 (by simp)) (by omega) (fun p hp => by simp at hp; rcases hp with rfl | rfl | rfl | rfl <;> first | exact .inl rfl | exact .inr ⟨by simp, by simp only; omega⟩))
        clear HS3
        generalize w2.setRow (g5) Y = W5 at *
        have hl6 := loadA IY (HS4.out.get (g5) Y 24 (by simp))
        go_wp2_with (first | (refine wpList_run rfl _ (exec_load_of _ 24 (.tmp 5) rfl ⟨g5, 0, none⟩ rfl (.agg Y) hl6) ?_) | (refine wpList_run rfl _ (exec_build2 _ 60 0 1 (.tmp 44) (.const (.bool true)) rfl (.agg Y) (.bool true) rfl rfl _ (hB2.out _)) ?_) | (refine wpList_run0 rfl (exec_store29 _ (.tmp 2) (.tmp 45) rfl (w.heap.size + 1) rfl GY IGY rfl ZG 60 (HS4.out.get (w.heap.size + 1) ZG 60 (by simp)) SZG) ?_))
        have HSZ : Kt w [(w.heap.size + 1, GY, 60)] (World.setRow _ (w.heap.size + 1) GY) := HS4.out.set (w.heap.size + 1) GY ZG 60 (HS4.out.get (w.heap.size + 1) ZG 60 (by simp)) (by omega) (fun p hp => by simp at hp; subst hp; exact .inl rfl)
        exact bodyPost_ret (results_cell rfl _ _ _ ⟨w.heap.size + 1, 0, none⟩ rfl _ (load29 IGY (HSZ.get (w.heap.size + 1) GY 60 (by simp)))) rfl ⟨by rw [hrf.out, hGY.out], HSZ.1⟩
      · have hrf : Hid (rootF a = (rootT a, true)) := by unfold Hid; rw [hRF.out, if_pos hc2, if_neg hod1]
        have hod2 : bits .and .u64 (d : Int) 1 = 0 := by have h := and_one d (d % 2) hdl rfl; rw [show d % 2 = 0 by omega] at h; exact h
        clear hRF hc2 hod1 hod
        refine wp_nrm ?_
        refine wp_region_any (by kernel_rfl) ?_
        change wpAny _ _ _ _ _ _ _ (World.drew _)
        have HD := HSc.out.drew
        generalize W4.drew = Wd at *
        refine any_of_F (S := Kt w [(w.heap.size, N, 24), (w.heap.size + 1, ZG, 60), (g3, P3, 24), (g5, X, 24)]) (f := 1000) _ _ _ _ ?_
        refine tkG 0 (some 31) (.load 24 (.tmp 5)) none (.agg X) (fun o ho w2 hw => exec_load_of _ 24 (.tmp 5) ho ⟨g5, 0, none⟩ rfl _ (loadA IX (hw.get (g5) X 24 (by simp)))) HD ?_
        simp only [Act.put, sT, sS, sZ]
        refine tkG 1 (some 32) (.load 24 (.tmp 5)) none (.agg X) (fun o ho w2 hw => exec_load_of _ 24 (.tmp 5) ho ⟨g5, 0, none⟩ rfl _ (loadA IX (hw.get (g5) X 24 (by simp)))) HD ?_
        simp only [Act.put, sT, sS, sZ]
        refine tkG 3 (some 34) (.load 24 (.tmp 1)) none (.agg N) (fun o ho w2 hw => exec_load_of _ 24 (.tmp 1) ho ⟨w.heap.size, 0, none⟩ rfl _ (loadA IN (hw.get (w.heap.size) N 24 (by simp)))) HD ?_
        simp only [Act.put, sT, sS, sZ]
        refine rdy [2] (rcl (some 33) 34 #[.tmp 31, .tmp 32] #[24, 24] #[.agg X, .agg X] enters34 _ (H10.out _) ?_ ReadyF.nil)
        rintro v wu1 ⟨he, hb⟩
        cases he
        have Hu2 := HD.below hb
        clear hb
        refine ⟨Hu2, ?_⟩
        simp only [Act.put, sT, sS, sZ]
        refine tkG 4 (some 35) (.binOp .neq 24 (.tmp 33) (.tmp 34) 24) none (.bool false) (fun o ho w2 hw => exec_neqL (.tmp 33) (.tmp 34) ho _ _ htm4 hN4 XX N hXX hN rfl rfl false hdc w2) Hu2 ?_
        simp only [Act.put, sT, sS, sZ]
        refine AnyF.done (by kernel_rfl) ?_ _
        refine nrm_intro ?_
        have Hu2h := Lib.hid Hu2
        have hcell := (Hu2.cell g5 X 24 (by simp) 0).trans hc0
        have hl1 := loadA IX (Hu2h.out.get (g5) X 24 (by simp))
        go_wp2_with (first | (refine wpList_run rfl _ (exec_indexAddr24 (.tmp 5) (.const (.int .i64 0)) rfl g5 0 rfl rfl (by decide) _) ?_) | (refine wpList_run rfl _ (exec_load_one _ 22 (.tmp 37) rfl ⟨g5, 0, none⟩ rfl _ hcell _ Tryd.underlying22 rfl) ?_) | (refine wpList_run rfl _ (exec_load_of _ 24 (.tmp 5) rfl ⟨g5, 0, none⟩ rfl (.agg X) hl1) ?_) | (refine wpList_run rfl _ (exec_build2 _ 60 0 1 (.tmp 44) (.const (.bool true)) rfl (.agg X) (.bool true) rfl rfl _ (hB1.out _)) ?_) | (refine wpList_run0 rfl (exec_store29 _ (.tmp 2) (.tmp 45) rfl (w.heap.size + 1) rfl GX IGX rfl ZG 60 (Hu2h.out.get (w.heap.size + 1) ZG 60 (by simp)) SZG) ?_))
        have HSZ : Kt w [(w.heap.size + 1, GX, 60)] (World.setRow _ (w.heap.size + 1) GX) := Hu2h.out.set (w.heap.size + 1) GX ZG 60 (Hu2h.out.get (w.heap.size + 1) ZG 60 (by simp)) (by omega) (fun p hp => by simp at hp; subst hp; exact .inl rfl)
        exact bodyPost_ret (results_cell rfl _ _ _ ⟨w.heap.size + 1, 0, none⟩ rfl _ (load29 IGX (HSZ.get (w.heap.size + 1) GX 60 (by simp)))) rfl ⟨by rw [hrf.out, hGX.out], HSZ.1⟩
    · have hrf : Hid (rootF a = (0, false)) := by unfold Hid; rw [hRF.out, if_neg hc2]
      have hdc : decide (mulF (rootT a) (rootT a) = a % pp) = !true := by simp [hc2]
      clear hRF hc2 hod
      refine wp_nrm ?_
      refine wp_region_any (by kernel_rfl) ?_
      change wpAny _ _ _ _ _ _ _ (World.drew _)
      have HD := HSc.out.drew
      generalize W4.drew = Wd at *
      refine any_of_F (S := Kt w [(w.heap.size, N, 24), (w.heap.size + 1, ZG, 60), (g3, P3, 24), (g5, X, 24)]) (f := 1000) _ _ _ _ ?_
      refine tkG 0 (some 31) (.load 24 (.tmp 5)) none (.agg X) (fun o ho w2 hw => exec_load_of _ 24 (.tmp 5) ho ⟨g5, 0, none⟩ rfl _ (loadA IX (hw.get (g5) X 24 (by simp)))) HD ?_
      simp only [Act.put, sT, sS, sZ]
      refine tkG 1 (some 32) (.load 24 (.tmp 5)) none (.agg X) (fun o ho w2 hw => exec_load_of _ 24 (.tmp 5) ho ⟨g5, 0, none⟩ rfl _ (loadA IX (hw.get (g5) X 24 (by simp)))) HD ?_
      simp only [Act.put, sT, sS, sZ]
      refine tkG 3 (some 34) (.load 24 (.tmp 1)) none (.agg N) (fun o ho w2 hw => exec_load_of _ 24 (.tmp 1) ho ⟨w.heap.size, 0, none⟩ rfl _ (loadA IN (hw.get (w.heap.size) N 24 (by simp)))) HD ?_
      simp only [Act.put, sT, sS, sZ]
      refine rdy [2] (rcl (some 33) 34 #[.tmp 31, .tmp 32] #[24, 24] #[.agg X, .agg X] enters34 _ (H10.out _) ?_ ReadyF.nil)
      rintro v wu1 ⟨he, hb⟩
      cases he
      have Hu2 := HD.below hb
      clear hb
      refine ⟨Hu2, ?_⟩
      simp only [Act.put, sT, sS, sZ]
      refine tkG 4 (some 35) (.binOp .neq 24 (.tmp 33) (.tmp 34) 24) none (.bool true) (fun o ho w2 hw => exec_neqL (.tmp 33) (.tmp 34) ho _ _ htm4 hN4 XX N hXX hN rfl rfl true hdc w2) Hu2 ?_
      simp only [Act.put, sT, sS, sZ]
      refine AnyF.done (by kernel_rfl) ?_ _
      refine nrm_intro ?_
      have Hu2h := Lib.hid Hu2
      go_wp2_with (first | (refine wpList_run rfl _ (exec_build0g rfl (.agg ZG) (HBG.out _) _) ?_) | (refine wpList_run0 rfl (exec_store29 _ (.tmp 2) (.tmp 36) rfl (w.heap.size + 1) rfl ZG IZG rfl ZG 60 (Hu2h.out.get (w.heap.size + 1) ZG 60 (by simp)) SZG) ?_))
      have HSZ : Kt w [(w.heap.size + 1, ZG, 60)] (World.setRow _ (w.heap.size + 1) ZG) := Hu2h.out.set (w.heap.size + 1) ZG ZG 60 (Hu2h.out.get (w.heap.size + 1) ZG 60 (by simp)) (by omega) (fun p hp => by simp at hp; subst hp; exact .inl rfl)
      exact bodyPost_ret (results_cell rfl _ _ _ ⟨w.heap.size + 1, 0, none⟩ rfl _ (load29 IZG (HSZ.get (w.heap.size + 1) ZG 60 (by simp)))) rfl ⟨by rw [hrf.out, hZG2.out], HSZ.1⟩
end Go.Proofs.YtgbliacncahooaaDoor
