/- about and Verify of package sig. No condition but that the text is not too long, and that the curve's number, its first point, the field's number and the order stand in memory. -/
import Derived.Test.YtdajmekliodmcaaGreatDoorK26
import Derived.Test.YtdajmekliodmcaaGreatDoorK35
namespace Go.Proofs.YtdajmekliodmcaaGreatDoor.P8
open Go.RowKit Go.Shelf
set_option linter.unusedVariables false
set_option linter.unusedSimpArgs false
theorem results_tmp {fn : Func} {a : Tmp} (h : fn.results = #[.tmp a]) (tmps : Array Value) (P : Program) (w : World) : (results fn tmps).run P w = .ok (tmps.getD a undef) w := by
  unfold results
  rw [h]
  simp [Array.mapM_eq_mapM_toList]
theorem exec_store_part {ρ : Operand → Value} {o : Oper} (w : World) (x y : Operand) (ho : o.op = .store 36 x y) (g off : Nat) (hx : ρ x = .pointer (some ⟨g, off, none⟩)) (A : Array Value) (hA : IsNum A) (hy : ρ y = .agg A) (cur new : Array Value) (t : TypeId)
    (hg : w.heap[g]? = some (.cells cur t (0, 0))) (hsz : off + 4 ≤ cur.size) (hn : splice cur off A.toList = new) : (execOp ρ o).run Tryz.prog w = .ok .skip (w.setRow g new) := by
  obtain ⟨f, rfl⟩ := hA
  subst hn
  exact exec_store_seg (P := Tryz.prog) (ρ := ρ) (o := o) w 36 x y ho g off hx (rowOf .u64 4 f) hy cur t hg (by rw [rowOf_length]; omega) (rowOf_one _ _ _) (size24 f)
theorem splice_left (A B C : Array Value) (h : A.size = C.size) : splice (A ++ B) 0 C.toList = C ++ B := by
  unfold splice
  simp [h.symm]
theorem enQ32 : ∀ args w, (callFunc 32 args).run Tryz.prog w = .ok (.enter 32 args) w := enters_of Tryz.func32 (by kernel_rfl) rfl
theorem enQ46 : ∀ args w, (callFunc 46 args).run Tryz.prog w = .ok (.enter 46 args) w := enters_of Tryz.func46 (by kernel_rfl) rfl
theorem enQ47 : ∀ args w, (callFunc 47 args).run Tryz.prog w = .ok (.enter 47 args) w := enters_of Tryz.func47 (by kernel_rfl) rfl
set_option maxRecDepth 100000 in
set_option maxHeartbeats 2000000 in
theorem turn_any (x y : Nat) (hx : x < 115792089237316195423570985008687907853269984665640564039457584007913129639936) (w : World) :
    Calls Tryz.prog 47 #[.agg (num x ++ num y)] w fun e w' => e = .returned (.agg (num (subF 0 x) ++ num y)) ∧ Below w.heap.size w w' := by
  have HC := Lib.hid (subf_any 0 x (by decide) hx)
  obtain ⟨X, hX⟩ : ∃ X, Hid (X = num x) := ⟨_, Lib.hid rfl⟩
  have IX : IsNum X := by rw [hX.out]; exact isNum _
  obtain ⟨Y, hY⟩ : ∃ X, Hid (X = num y) := ⟨_, Lib.hid rfl⟩
  have IY : IsNum Y := by rw [hY.out]; exact isNum _
  obtain ⟨U, hU⟩ : ∃ X, Hid (X = num (subF 0 x)) := ⟨_, Lib.hid rfl⟩
  have IU : IsNum U := by rw [hU.out]; exact isNum _
  obtain ⟨Z, hZ⟩ : ∃ X, Hid (X = num 0) := ⟨_, Lib.hid rfl⟩
  obtain ⟨PA, hPA⟩ : ∃ P, Hid (P = X ++ Y) := ⟨_, Lib.hid rfl⟩
  have IPA : IsRw 8 PA := by rw [hPA.out]; exact rw_app (isRw4 IX) (isRw4 IY)
  have SPA : Part PA 0 X := by rw [hPA.out]; exact part_left 0 (part_all X) Y
  obtain ⟨PT, hPT⟩ : ∃ P, Hid (P = U ++ Y) := ⟨_, Lib.hid rfl⟩
  have IPT : IsRw 8 PT := by rw [hPT.out]; exact rw_app (isRw4 IU) (isRw4 IY)
  have SP : splice PA 0 U.toList = PT := by rw [hPA.out, hPT.out]; exact splice_left _ _ _ (by rw [IX.size, IU.size])
  obtain ⟨ZR1, hZR1⟩ : ∃ zz9, Hid (zz9 = (rowOf .u64 8 (fun _ => 0)).toArray) := ⟨_, Lib.hid rfl⟩
  have SZZR1 : ZR1.size = 8 := by rw [hZR1.out]; rfl
  have HZ26 : ∀ w, (zeroValue 60).run Tryz.prog w = .ok (.agg ZR1) w := by rw [hZR1.out]; exact zeroT26
  have BN : ∀ w, (Instr.build 36 #[]).run Tryz.prog w = .ok (.agg Z) w := by rw [hZ.out]; exact build0_run
  rw [← hX.out, ← hU.out, ← hZ.out] at HC
  rw [← hX.out, ← hY.out, ← hU.out, ← hPA.out, ← hPT.out]
  clear hX hY hU hZ hPA hPT hZR1
  go_enter Tryz.func47, Tryz.ntmps47
  have HS : Hid (Kt w [] w) := Lib.hid (Kt.nil w)
  go_upto_region 0 with fail
  refine wp_region_list ?_
  refine wpList_run rfl _ (exec_box _ 60 (.tmp 0) rfl _ rfl (PA) rfl) ?_
  simp only [Act.put, sT, sS, sZ]
  have bg3 := HS.out.1.size
  have HS2 := Lib.hid (HS.out.new PA 60)
  clear HS
  generalize w.alloc (.cells PA 60) = w1 at *
  refine wpList_run rfl _ (exec_alloc_agg _ 60 rfl _ (HZ26 _)) ?_
  simp only [Act.put, sT, sS, sZ]
  have lg6_0 := HS2.out.lt (w.heap.size) PA 60 (by simp)
  have bg6 := HS2.out.1.size
  have HS5 := Lib.hid (HS2.out.new ZR1 60)
  clear HS2
  generalize w1.alloc (.cells ZR1 60) = w4 at *
  generalize w1.heap.size = g6 at *
  refine wpList_nil ?_
  go_upto_region 1 with fail
  refine wp_region_list ?_
  refine wpList_run rfl (.agg Z) (exec_buildN _ 36 #[] rfl #[] (by simp [Act.eval]) _ (BN _)) ?_
  simp only [Act.put, sT, sS, sZ]
  refine wpList_run rfl (.pointer (some ⟨w.heap.size, 0, none⟩)) (exec_field 60 (.tmp 1) 0 rfl _ _ rfl _ (fa26_0 (w.heap.size) _)) ?_
  simp only [Act.put, sT, sS, sZ]
  refine wpList_run rfl (.agg X) (exec_load_of _ 36 (.tmp 4) rfl ⟨w.heap.size, 0, none⟩ rfl _ (load_part (HS5.out.get (w.heap.size) PA 60 (by simp)) IX 0 SPA)) ?_
  simp only [Act.put, sT, sS, sZ]
  refine wpList_callF rfl 89 #[.tmp 3, .tmp 5] #[36, 36] rfl #[.agg Z, .agg X] en30 (HC.out _) ?_
  rintro v w7 ⟨he, hb⟩
  cases he
  have HS8 := Lib.hid (HS5.out.below hb)
  clear hb HS5
  simp only [Act.put, sT, sS, sZ]
  refine wpList_run rfl (.pointer (some ⟨w.heap.size, 0, none⟩)) (exec_field 60 (.tmp 1) 0 rfl _ _ rfl _ (fa26_0 (w.heap.size) _)) ?_
  simp only [Act.put, sT, sS, sZ]
  refine wpList_run0 rfl (exec_store_part _ (.tmp 7) (.tmp 6) rfl (w.heap.size) 0 rfl U IU rfl PA PT 60 (HS8.out.get (w.heap.size) PA 60 (by simp)) (by rw [IPA.sz]; decide) SP) ?_
  simp only [Act.put, sT, sS, sZ]
  have HS9 : Hid (Kt w [(g6, ZR1, 60), (w.heap.size, PT, 60)] (w7.setRow (w.heap.size) PT)) := Lib.hid (HS8.out.set (w.heap.size) PT PA 60 (HS8.out.get (w.heap.size) PA 60 (by simp)) (by omega) (fun p hp => by simp at hp; rcases hp with rfl | rfl <;> first | exact .inl rfl | exact .inr ⟨by simp, by simp only; omega⟩))
  clear HS8
  generalize w7.setRow (w.heap.size) PT = w10 at *
  refine wpList_nil ?_
  go_upto_region 2 with fail
  refine wp_region_list ?_
  refine wpList_run rfl (.agg PT) (exec_load_of _ 60 (.tmp 1) rfl ⟨w.heap.size, 0, none⟩ rfl _ (loadT26 IPT (HS9.out.get (w.heap.size) PT 60 (by simp)))) ?_
  simp only [Act.put, sT, sS, sZ]
  refine wpList_run0 rfl (exec_storeT26 _ (.tmp 2) (.tmp 8) rfl g6 rfl PT IPT rfl ZR1 60 (HS9.out.get g6 ZR1 60 (by simp)) SZZR1) ?_
  simp only [Act.put, sT, sS, sZ]
  have HS11 : Hid (Kt w [(g6, PT, 60)] (w10.setRow g6 PT)) := Lib.hid (HS9.out.set g6 PT ZR1 60 (HS9.out.get g6 ZR1 60 (by simp)) (by omega) (fun p hp => by simp at hp; subst hp; exact .inl rfl))
  generalize w10.setRow g6 PT = w12 at *
  refine wpList_nil ?_
  go_wp2
  exact bodyPost_ret (results_cell rfl _ _ _ ⟨g6, 0, none⟩ rfl _ (loadT26 IPT (HS11.out.get g6 PT 60 (by simp)))) rfl ⟨rfl, HS11.out.1⟩
def verR (p m g : List UInt8) (A : Nat × Nat) (s : Nat) : Bool := decide (bytesN (encP (addN (mulN s baseN) (turnN (mulN (numT (g.take 32 ++ (p ++ m))) A)))) = g.take 32)
theorem fromL_some {l : List UInt8} {s : Nat} (h : S7.fromL l = (s, true)) : s < 115792089237316195423570985008687907853269984665640564039457584007913129639936 := by
  unfold S7.fromL at h
  split at h
  · rename_i hc
    obtain ⟨h1, _⟩ := Prod.mk.inj h
    rw [← h1]
    exact S7.LL_lt hc.2
  · cases h
set_option maxRecDepth 100000 in
set_option maxHeartbeats 4000000 in
theorem verify_core (p m g : ByteArray) (h64 : g.size = 64) (hp : p.size ≤ 9223372036854775807) (hm : m.size ≤ 99000) (A : Nat × Nat) (b1 : Bool) (hF : FromR p (A, b1)) (hAp : b1 = true → p.size = 32 ∧ onN A) (s : Nat) (b2 : Bool) (hs : S7.fromL (g.data.toList.drop 32) = (s, b2)) (w : World) (hG9 : Glob9 w) :
    Calls Tryz.prog 14 #[.string p, .string m, .string g] w fun e w' => e = .returned (.bool (b1 && (b2 && verR p.data.toList m.data.toList g.data.toList A s))) ∧ Below w.heap.size w w' := by
  obtain ⟨g2, hg2⟩ : ∃ x : ByteArray, Hid (x = g.extract 32 64) := ⟨_, Lib.hid rfl⟩
  have e2 : g2.data.toList = g.data.toList.drop 32 := by
    rw [hg2.out]
    simp only [ByteArray.data_extract, Array.toList_extract, List.extract]
    rw [List.take_of_length_le (by have : g.data.toList.length = 64 := h64
                                   rw [List.length_drop]; omega)]
  have HA : Hid (∀ w, Glob9 w → Calls Tryz.prog 44 #[.string p] w fun e w' => e = .returned (.tuple #[.agg (ptV A), .bool b1]) ∧ Below w.heap.size w w') := Lib.hid (fun w (hw : Glob9 w) => hF w hw.1 hw.2.1)
  clear hF
  have HB : Hid (∀ w, Glob9 w → Calls Tryz.prog 45 #[.string g2] w fun e w' => e = .returned (.tuple #[.agg (num s), .bool b2]) ∧ Below w.heap.size w w') := by
    refine Lib.hid (fun w hw => ?_)
    have h := S7.from_any g2 (by rw [hg2.out, ByteArray.size_extract]; omega) w hw.2.2
    rw [e2, hs] at h
    exact h
  obtain ⟨PA, hPA⟩ : ∃ P, Hid (P = ptV A) := ⟨_, Lib.hid rfl⟩
  have IPA : IsRw 8 PA := by rw [hPA.out]; exact ptV_rw _
  obtain ⟨SA, hSA⟩ : ∃ P, Hid (P = num s) := ⟨_, Lib.hid rfl⟩
  have ISA : IsNum SA := by rw [hSA.out]; exact isNum _
  obtain ⟨Z, hZe⟩ : ∃ Z, Hid (Z = num 0) := ⟨_, Lib.hid rfl⟩
  have IZ : IsNum Z := by rw [hZe.out]; exact isNum 0
  have SZZ := IZ.size
  have HZ36 : ∀ w, (zeroValue 36).run Tryz.prog w = .ok (.agg Z) w := by rw [hZe.out]; exact zero_run
  obtain ⟨ZR1, hZR1⟩ : ∃ zz9, Hid (zz9 = (rowOf .u64 8 (fun _ => 0)).toArray) := ⟨_, Lib.hid rfl⟩
  have SZZR1 : ZR1.size = 8 := by rw [hZR1.out]; rfl
  have HZ60 : ∀ w, (zeroValue 60).run Tryz.prog w = .ok (.agg ZR1) w := by rw [hZR1.out]; exact zeroT26
  rw [← hPA.out] at HA
  rw [← hSA.out] at HB
  have hne : ((g.size : Int) != 64) = false := by rw [bne_eq_false_iff_eq]; omega
  have hgs : (g.size : Int) = 64 := by omega
  have HS0 : Hid (Kt w [] w) := Lib.hid (Kt.nil w)
  have HG := Lib.hid hG9
  clear hG9 hZR1 hZe
  go_enter Tryz.func14, Tryz.ntmps14
  go_wp2_with fail
  refine (HA.out _ HG.out).mono ?_
  rintro e w2 ⟨rfl, hb⟩
  have HS1 := HS0.out.below hb
  clear hb HS0 HA
  have HS2 := Lib.hid (HS1.new ZR1 60)
  have bg := HS1.1.size
  clear HS1
  generalize hg : w2.heap.size = g7 at *
  go_upto_region 3 with (first | (refine wpList_run rfl _ (exec_alloc_agg _ 60 rfl _ (HZ60 _)) ?_) | (refine wpList_run0 rfl (exec_storeT26 _ (.tmp 7) (.tmp 19) rfl g7 (by rw [← hg]; rfl) PA IPA rfl ZR1 60 (HS2.out.get g7 ZR1 60 (by simp)) SZZR1) ?_))
  try simp only [Act.put, sT, sS, sZ]
  try rw [hg]
  have HS3 : Hid (Kt w [(g7, PA, 60)] ((w2.alloc (.cells ZR1 60)).setRow g7 PA)) := Lib.hid (HS2.out.set g7 PA ZR1 60 (HS2.out.get g7 ZR1 60 (by simp)) (by omega) (fun p hp => by simp at hp; subst hp; exact .inl rfl))
  clear HS2
  generalize (w2.alloc (.cells ZR1 60)).setRow g7 PA = w3 at *
  clear hg
  go_wp2_with fail
  rw [← hg2.out]
  refine (HB.out _ (HG.out.below HS3.out.1)).mono ?_
  rintro e w4 ⟨rfl, hb⟩
  have HS4 := HS3.out.below hb
  clear hb HS3 HB
  have HS5 := Lib.hid ((HS4.new Z 36).sub (m := [(g7, PA, 60), (w4.heap.size, Z, 36)]) (fun p hp => by simp at hp ⊢; rcases hp with rfl | rfl <;> simp))
  have bg2 := HS4.1.size
  have lg2 := HS4.lt g7 PA 60 (by simp)
  clear HS4
  generalize hg3 : w4.heap.size = g9 at *
  have HS6 : Hid (Kt w [(g7, PA, 60), (g9, SA, 36)] ((w4.alloc (.cells Z 36)).setRow g9 SA)) := Lib.hid (HS5.out.set g9 SA Z 36 (HS5.out.get g9 Z 36 (by simp)) (by omega) (fun p hp => by simp at hp; rcases hp with rfl | rfl <;> first | exact .inl rfl | exact .inr ⟨by simp, by simp only; omega⟩))
  have hsz : ((w4.alloc (.cells Z 36)).setRow g9 SA).heap.size = g9 + 1 := by rw [setRow_size, World.size_alloc, hg3]
  cases b1
  · go_wp2_with (first | (refine wpList_run rfl _ (exec_alloc_agg _ 36 rfl _ (HZ36 _)) ?_) | (refine wpList_run0 rfl (exec_store24 _ (.tmp 9) (.tmp 25) rfl g9 (by rw [← hg3]; rfl) SA ISA rfl Z 36 (HS5.out.get g9 Z 36 (by simp)) SZZ) ?_))
    exact ⟨rfl, _, results_tmp rfl _ _ _, rfl, HS6.out.1⟩
  cases b2
  · go_wp2_with (first | (refine wpList_run rfl _ (exec_alloc_agg _ 36 rfl _ (HZ36 _)) ?_) | (refine wpList_run0 rfl (exec_store24 _ (.tmp 9) (.tmp 25) rfl g9 (by rw [← hg3]; rfl) SA ISA rfl Z 36 (HS5.out.get g9 Z 36 (by simp)) SZZ) ?_))
    exact ⟨rfl, _, results_tmp rfl _ _ _, rfl, HS6.out.1⟩
  obtain ⟨hp32, hon⟩ := hAp rfl
  have ls := fromL_some hs
  obtain ⟨g1, hg1⟩ : ∃ x : ByteArray, Hid (x = g.extract 0 32) := ⟨_, Lib.hid rfl⟩
  have e1 : g1.data.toList = g.data.toList.take 32 := by
    rw [hg1.out]
    simp only [ByteArray.data_extract, Array.toList_extract, List.extract, List.drop_zero]
  have g1s : g1.size = 32 := by rw [hg1.out, ByteArray.size_extract]; omega
  obtain ⟨k, hk⟩ : ∃ k, Hid (k = numT (g.data.toList.take 32 ++ (p.data.toList ++ m.data.toList))) := ⟨_, Lib.hid rfl⟩
  have lk : k < 115792089237316195423570985008687907853269984665640564039457584007913129639936 := by rw [hk.out]; exact numT_lt _
  have HN : Hid (∀ (w : World) (bk : Nat), w.heap[bk]? = some (.cells (strRow [g1, p, m]) 9 (0, 0)) → S7.Glob w → Calls Tryz.prog 37 #[.slice (some ⟨bk, 0, none⟩) 3 3] w fun e w' => e = .returned (.agg (num k)) ∧ Below w.heap.size w w') := by
    refine Lib.hid (fun w bk hrow hw => ?_)
    have h := number_any bk [g1, p, m] 3 9 (g.data.toList.take 32 ++ (p.data.toList ++ m.data.toList)) w hrow rfl (by omega) (by rw [← e1]; exact join3 _ _ _) (by
      have a1 : p.data.toList.length = 32 := hp32
      have a2 : m.data.toList.length ≤ 99000 := hm
      rw [List.length_append, List.length_append, List.length_take]; omega) hw
    rw [hk.out]
    exact h
  have hmo := mulN_on hon k
  have hto := turnN_on hmo
  have hbo := mulN_on baseN_on s
  have hao := addN_on hbo hto
  have H32 : Hid (∀ w, Glob w → _) := Lib.hid (fun w hw => ofBase_any s ls w hw)
  have H48 : Hid (∀ w, Glob w → Calls Tryz.prog 48 #[.agg (num k), .agg (ptV A)] w fun e w' => e = .returned (.agg (ptV (mulN k A))) ∧ Below w.heap.size w w') := Lib.hid (fun w hw => mul_pt k A lk hon w hw)
  have H47 : Hid (∀ w, Calls Tryz.prog 47 #[.agg (ptV (mulN k A))] w fun e w' => e = .returned (.agg (ptV (turnN (mulN k A)))) ∧ Below w.heap.size w w') := Lib.hid (fun w => turn_any (mulN k A).1 (mulN k A).2 (pp_lt hmo.1) w)
  have H46 : Hid (∀ w, Glob w → Calls Tryz.prog 46 #[.agg (ptV (mulN s baseN)), .agg (ptV (turnN (mulN k A)))] w fun e w' => e = .returned (.agg (ptV (addN (mulN s baseN) (turnN (mulN k A))))) ∧ Below w.heap.size w w') := Lib.hid (fun w hw => add_any _ _ hbo hto w hw)
  obtain ⟨E, hE⟩ : ∃ x : ByteArray, Hid (x = ⟨(bytesN (encP (addN (mulN s baseN) (turnN (mulN k A))))).toArray⟩) := ⟨_, Lib.hid rfl⟩
  have H31 : Hid (∀ w, Calls Tryz.prog 31 #[.agg (ptV (addN (mulN s baseN) (turnN (mulN k A))))] w fun e w' => e = .returned (.string E) ∧ Below w.heap.size w w') := by
    refine Lib.hid (fun w => ?_)
    rw [hE.out]
    exact bytes_pt _ _ (pp_lt hao.1) hao.2.1 w
  have hlast : verR p.data.toList m.data.toList g.data.toList A s = (E.toList == g1.toList) := by
    unfold verR
    rw [← hk.out, ← e1]
    rw [show bytesN (encP (addN (mulN s baseN) (turnN (mulN k A)))) = E.data.toList by rw [hE.out]]
    rw [ByteArray.toList_eq, ByteArray.toList_eq]
    rw [Bool.eq_iff_iff, decide_eq_true_eq, beq_iff_eq]
  have hq : Hid ((E.toList == g1.toList) = (true && (true && verR p.data.toList m.data.toList g.data.toList A s))) := Lib.hid (by rw [hlast]; rfl)
  obtain ⟨KA, hKA⟩ : ∃ P, Hid (P = num k) := ⟨_, Lib.hid rfl⟩
  have IKA : IsNum KA := by rw [hKA.out]; exact isNum _
  obtain ⟨BA, hBA⟩ : ∃ P, Hid (P = ptV (mulN s baseN)) := ⟨_, Lib.hid rfl⟩
  obtain ⟨MA, hMA⟩ : ∃ P, Hid (P = ptV (mulN k A)) := ⟨_, Lib.hid rfl⟩
  obtain ⟨TA, hTA⟩ : ∃ P, Hid (P = ptV (turnN (mulN k A))) := ⟨_, Lib.hid rfl⟩
  obtain ⟨HA, hHA⟩ : ∃ P, Hid (P = ptV (addN (mulN s baseN) (turnN (mulN k A)))) := ⟨_, Lib.hid rfl⟩
  have IHA : IsRw 8 HA := by rw [hHA.out]; exact ptV_rw _
  rw [← hKA.out] at HN H48
  rw [← hSA.out, ← hBA.out] at H32
  rw [← hPA.out, ← hMA.out] at H48
  rw [← hMA.out, ← hTA.out] at H47
  rw [← hBA.out, ← hTA.out, ← hHA.out] at H46
  rw [← hHA.out] at H31
  clear hPA hSA hKA hBA hMA hTA hHA hlast hE hk lk ls hmo hto hbo hao hon hAp hs e1 e2
  go_wp2_with (first | (refine wpList_run rfl _ (exec_build3 _ (.tmp 34) (.tmp 35) (.tmp 36) rfl g1 p m (by rw [hg1.out]; rfl) rfl rfl) ?_) | (refine wpList_run rfl _ (exec_alloc_agg _ 36 rfl _ (HZ36 _)) ?_) | (refine wpList_run0 rfl (exec_store24 _ (.tmp 9) (.tmp 25) rfl g9 (by rw [← hg3]; rfl) SA ISA rfl Z 36 (HS5.out.get g9 Z 36 (by simp)) SZZ) ?_))
  rw [← hg1.out]
  generalize (w4.alloc (.cells Z 36)).setRow g9 SA = w5 at *
  have HS7 := Lib.hid (HS6.out.alloc (.cells (strRow [g1, p, m]) 9))
  refine (HN.out _ (g9 + 1) (by rw [← hsz]; exact World.alloc_heap_new w5 _) (HG.out.below HS7.out.1).2.2).mono ?_
  rintro e w7 ⟨rfl, hb⟩
  have HS8 := HS7.out.below hb
  clear hb HS7 HS6 HN
  have HS9 := Lib.hid ((HS8.new Z 36).sub (m := [(g7, PA, 60), (g9, SA, 36), (w7.heap.size, Z, 36)]) (fun p hp => by simp at hp ⊢; rcases hp with rfl | rfl | rfl <;> simp))
  have bg4 := HS8.1.size
  have lg4 := HS8.lt g7 PA 60 (by simp)
  have lg5 := HS8.lt g9 SA 36 (by simp)
  clear HS8
  generalize hg5 : w7.heap.size = g11 at *
  go_upto_region 7 with (first | (refine wpList_run rfl _ (exec_alloc_agg _ 36 rfl _ (HZ36 _)) ?_) | (refine wpList_run0 rfl (exec_store24 _ (.tmp 11) (.tmp 38) rfl g11 (by rw [← hg5]; rfl) KA IKA rfl Z 36 (HS9.out.get g11 Z 36 (by simp)) SZZ) ?_))
  try simp only [Act.put, sT, sS, sZ]
  try rw [hg5]
  have HS10 : Hid (Kt w [(g7, PA, 60), (g9, SA, 36), (g11, KA, 36)] ((w7.alloc (.cells Z 36)).setRow g11 KA)) := Lib.hid (HS9.out.set g11 KA Z 36 (HS9.out.get g11 Z 36 (by simp)) (by omega) (fun p hp => by simp at hp; rcases hp with rfl | rfl | rfl <;> first | exact .inl rfl | exact .inr ⟨by simp, by simp only; omega⟩))
  clear HS9
  generalize (w7.alloc (.cells Z 36)).setRow g11 KA = w8 at *
  clear hg5
  go_upto_region 8 with fail
  refine wp_cut (fun a' W' => ∃ gn, a' = { tmps := #[.string p, .string m, .string g, undef, undef, undef, .bool false, .pointer (some ⟨g7, 0, none⟩), .bool true, .pointer (some ⟨g9, 0, none⟩), .bool true, .pointer (some ⟨g11, 0, none⟩), .pointer (some ⟨gn, 0, none⟩), .string g, .int IntKind.i64 64, .bool false, .tuple #[.agg PA, .bool true], .string p, .tuple #[.agg PA, .bool true], .agg PA, .bool true, .tuple #[.agg SA, .bool true], .string g, .string g2, .tuple #[.agg SA, .bool true], .agg SA, .bool true, .bool true, .bool false, .bool false, .bool true, .bool false, .bool false, .string g, .string g1, .string p, .string m, .slice (some ⟨g9 + 1, 0, none⟩) 3 3, .agg KA, .agg SA, .agg BA, .agg KA, .agg PA, .agg MA, .agg TA, .agg HA, undef, undef, undef, undef, undef], defers := [] } ∧ Kt w [(g7, PA, 60), (g9, SA, 36), (g11, KA, 36), (gn, HA, 60)] W' ∧ w.heap.size ≤ gn ∧ gn ≠ g7 ∧ gn ≠ g9 ∧ gn ≠ g11) ?_ ?_
  · skip
    refine wp_region_any (by kernel_rfl) ?_
    change wpAny _ _ _ _ _ _ _ (World.drew _)
    have HDc := HS10.out.drew
    clear HS10
    generalize w8.drew = wdc at *
    refine any_of_F (S := Kt w [(g7, PA, 60), (g9, SA, 36), (g11, KA, 36)]) (f := 1000) _ _ _ _ ?_
    refine F_have 1 #[true, true, true, true, true, true, true, true, false] (fun aJ WJ => ∃ gn, aJ = { tmps := #[.string p, .string m, .string g, undef, undef, undef, .bool false, .pointer (some ⟨g7, 0, none⟩), .bool true, .pointer (some ⟨g9, 0, none⟩), .bool true, .pointer (some ⟨g11, 0, none⟩), .pointer (some ⟨gn, 0, none⟩), .string g, .int IntKind.i64 64, .bool false, .tuple #[.agg PA, .bool true], .string p, .tuple #[.agg PA, .bool true], .agg PA, .bool true, .tuple #[.agg SA, .bool true], .string g, .string g2, .tuple #[.agg SA, .bool true], .agg SA, .bool true, .bool true, .bool false, .bool false, .bool true, .bool false, .bool false, .string g, .string g1, .string p, .string m, .slice (some ⟨g9 + 1, 0, none⟩) 3 3, .agg KA, .agg SA, .agg BA, .agg KA, .agg PA, .agg MA, .agg TA, .agg HA, undef, undef, undef, undef, undef], defers := [] } ∧ Kt w [(g7, PA, 60), (g9, SA, 36), (g11, KA, 36)] WJ ∧ Kt w [(gn, ZR1, 60)] WJ ∧ w.heap.size ≤ gn ∧ gn ≠ g7 ∧ gn ≠ g9 ∧ gn ≠ g11) ?_ ?_
    · rintro aJ wjc4 ⟨gn, rfl, Hj, Ej, fc_0, fc_1, fc_2, fc_3⟩
      have Hk := Hj.set gn HA ZR1 60 (Ej.get gn ZR1 60 (by simp)) (by omega) (m := [(g7, PA, 60), (g9, SA, 36), (g11, KA, 36)]) (fun p hp => by simp at hp; rcases hp with rfl | rfl | rfl <;> exact .inr ⟨by simp, by simp only; omega⟩)
      have Ek := Ej.set gn HA ZR1 60 (Ej.get gn ZR1 60 (by simp)) (by omega) (m := [(gn, HA, 60)]) (fun p hp => by simp at hp; subst hp; first | exact .inl rfl | exact .inr ⟨by simp, by simp only; omega⟩)
      refine rdy [8] (ReadyF.op0 (.store 60 (.tmp 12) (.tmp 45)) rfl (fun o ho => exec_storeT26 wjc4 (.tmp 12) (.tmp 45) ho gn rfl HA IHA rfl ZR1 60 (Ej.get gn ZR1 60 (by simp)) SZZR1) Hk ?_ ReadyF.nil)
      generalize wjc4.setRow gn HA = wk at *
      refine AnyF.done (by kernel_rfl) ?_ _
      refine nrm_intro ⟨gn, rfl, (Hk.app Ek).sub (fun p hp => by simp at hp; rcases hp with rfl | rfl | rfl | rfl <;> simp), by omega, by omega, by omega, by omega⟩
    intro Jc4
    refine F_have 2 #[true, true, true, true, true, true, false, true, false] (fun aJ WJ => ∃ gn, aJ = { tmps := #[.string p, .string m, .string g, undef, undef, undef, .bool false, .pointer (some ⟨g7, 0, none⟩), .bool true, .pointer (some ⟨g9, 0, none⟩), .bool true, .pointer (some ⟨g11, 0, none⟩), .pointer (some ⟨gn, 0, none⟩), .string g, .int IntKind.i64 64, .bool false, .tuple #[.agg PA, .bool true], .string p, .tuple #[.agg PA, .bool true], .agg PA, .bool true, .tuple #[.agg SA, .bool true], .string g, .string g2, .tuple #[.agg SA, .bool true], .agg SA, .bool true, .bool true, .bool false, .bool false, .bool true, .bool false, .bool false, .string g, .string g1, .string p, .string m, .slice (some ⟨g9 + 1, 0, none⟩) 3 3, .agg KA, .agg SA, .agg BA, .agg KA, .agg PA, .agg MA, .agg TA, undef, undef, undef, undef, undef, undef], defers := [] } ∧ Kt w [(g7, PA, 60), (g9, SA, 36), (g11, KA, 36)] WJ ∧ Kt w [(gn, ZR1, 60)] WJ ∧ w.heap.size ≤ gn ∧ gn ≠ g7 ∧ gn ≠ g9 ∧ gn ≠ g11) ?_ ?_
    · rintro aJ wjc3 ⟨gn, rfl, Hj, Ej, fc_0, fc_1, fc_2, fc_3⟩
      refine rdy [6] (rcl (some 45) 46 #[.tmp 40, .tmp 44] #[60, 60] #[.agg BA, .agg TA] enQ46 _ (H46.out _ (HG.out.below Hj.1).2.1) ?_ ReadyF.nil)
      rintro v wq ⟨he, hb⟩
      cases he
      have Hq := Hj.below hb
      have Eq := Ej.below hb
      clear hb
      refine ⟨Hq, ?_⟩
      simp only [Act.put, sT, sS, sZ]
      exact F_to (by kernel_rfl) (by kernel_rfl) (Jc4 _ _ ⟨gn, rfl, Hq, Eq, by omega, by omega, by omega, by omega⟩)
    intro Jc3
    refine F_have 3 #[true, true, true, true, true, false, false, true, false] (fun aJ WJ => ∃ gn, aJ = { tmps := #[.string p, .string m, .string g, undef, undef, undef, .bool false, .pointer (some ⟨g7, 0, none⟩), .bool true, .pointer (some ⟨g9, 0, none⟩), .bool true, .pointer (some ⟨g11, 0, none⟩), .pointer (some ⟨gn, 0, none⟩), .string g, .int IntKind.i64 64, .bool false, .tuple #[.agg PA, .bool true], .string p, .tuple #[.agg PA, .bool true], .agg PA, .bool true, .tuple #[.agg SA, .bool true], .string g, .string g2, .tuple #[.agg SA, .bool true], .agg SA, .bool true, .bool true, .bool false, .bool false, .bool true, .bool false, .bool false, .string g, .string g1, .string p, .string m, .slice (some ⟨g9 + 1, 0, none⟩) 3 3, .agg KA, .agg SA, .agg BA, .agg KA, .agg PA, .agg MA, undef, undef, undef, undef, undef, undef, undef], defers := [] } ∧ Kt w [(g7, PA, 60), (g9, SA, 36), (g11, KA, 36)] WJ ∧ Kt w [(gn, ZR1, 60)] WJ ∧ w.heap.size ≤ gn ∧ gn ≠ g7 ∧ gn ≠ g9 ∧ gn ≠ g11) ?_ ?_
    · rintro aJ wjc2 ⟨gn, rfl, Hj, Ej, fc_0, fc_1, fc_2, fc_3⟩
      refine rdy [5] (rcl (some 44) 47 #[.tmp 43] #[60] #[.agg MA] enQ47 _ (H47.out _) ?_ ReadyF.nil)
      rintro v wq ⟨he, hb⟩
      cases he
      have Hq := Hj.below hb
      have Eq := Ej.below hb
      clear hb
      refine ⟨Hq, ?_⟩
      simp only [Act.put, sT, sS, sZ]
      exact F_to (by kernel_rfl) (by kernel_rfl) (Jc3 _ _ ⟨gn, rfl, Hq, Eq, by omega, by omega, by omega, by omega⟩)
    intro Jc2
    refine F_have 4 #[true, true, true, true, false, false, false, true, false] (fun aJ WJ => ∃ gn, aJ = { tmps := #[.string p, .string m, .string g, undef, undef, undef, .bool false, .pointer (some ⟨g7, 0, none⟩), .bool true, .pointer (some ⟨g9, 0, none⟩), .bool true, .pointer (some ⟨g11, 0, none⟩), .pointer (some ⟨gn, 0, none⟩), .string g, .int IntKind.i64 64, .bool false, .tuple #[.agg PA, .bool true], .string p, .tuple #[.agg PA, .bool true], .agg PA, .bool true, .tuple #[.agg SA, .bool true], .string g, .string g2, .tuple #[.agg SA, .bool true], .agg SA, .bool true, .bool true, .bool false, .bool false, .bool true, .bool false, .bool false, .string g, .string g1, .string p, .string m, .slice (some ⟨g9 + 1, 0, none⟩) 3 3, .agg KA, .agg SA, .agg BA, .agg KA, .agg PA, undef, undef, undef, undef, undef, undef, undef, undef], defers := [] } ∧ Kt w [(g7, PA, 60), (g9, SA, 36), (g11, KA, 36)] WJ ∧ Kt w [(gn, ZR1, 60)] WJ ∧ w.heap.size ≤ gn ∧ gn ≠ g7 ∧ gn ≠ g9 ∧ gn ≠ g11) ?_ ?_
    · rintro aJ wjc1 ⟨gn, rfl, Hj, Ej, fc_0, fc_1, fc_2, fc_3⟩
      refine rdy [4] (rcl (some 43) 48 #[.tmp 41, .tmp 42] #[36, 60] #[.agg KA, .agg PA] enQ48 _ (H48.out _ (HG.out.below Hj.1).2.1) ?_ ReadyF.nil)
      rintro v wq ⟨he, hb⟩
      cases he
      have Hq := Hj.below hb
      have Eq := Ej.below hb
      clear hb
      refine ⟨Hq, ?_⟩
      simp only [Act.put, sT, sS, sZ]
      exact F_to (by kernel_rfl) (by kernel_rfl) (Jc2 _ _ ⟨gn, rfl, Hq, Eq, by omega, by omega, by omega, by omega⟩)
    intro Jc1
    refine F_have 5 #[true, false, true, true, false, false, false, true, false] (fun aJ WJ => ∃ gn, aJ = { tmps := #[.string p, .string m, .string g, undef, undef, undef, .bool false, .pointer (some ⟨g7, 0, none⟩), .bool true, .pointer (some ⟨g9, 0, none⟩), .bool true, .pointer (some ⟨g11, 0, none⟩), .pointer (some ⟨gn, 0, none⟩), .string g, .int IntKind.i64 64, .bool false, .tuple #[.agg PA, .bool true], .string p, .tuple #[.agg PA, .bool true], .agg PA, .bool true, .tuple #[.agg SA, .bool true], .string g, .string g2, .tuple #[.agg SA, .bool true], .agg SA, .bool true, .bool true, .bool false, .bool false, .bool true, .bool false, .bool false, .string g, .string g1, .string p, .string m, .slice (some ⟨g9 + 1, 0, none⟩) 3 3, .agg KA, .agg SA, undef, .agg KA, .agg PA, undef, undef, undef, undef, undef, undef, undef, undef], defers := [] } ∧ Kt w [(g7, PA, 60), (g9, SA, 36), (g11, KA, 36)] WJ ∧ Kt w [(gn, ZR1, 60)] WJ ∧ w.heap.size ≤ gn ∧ gn ≠ g7 ∧ gn ≠ g9 ∧ gn ≠ g11) ?_ ?_
    · rintro aJ wjc0 ⟨gn, rfl, Hj, Ej, fc_0, fc_1, fc_2, fc_3⟩
      refine rdy [1] (rcl (some 40) 32 #[.tmp 39] #[36] #[.agg SA] enQ32 _ (H32.out _ (HG.out.below Hj.1).2.1) ?_ ReadyF.nil)
      rintro v wq ⟨he, hb⟩
      cases he
      have Hq := Hj.below hb
      have Eq := Ej.below hb
      clear hb
      refine ⟨Hq, ?_⟩
      simp only [Act.put, sT, sS, sZ]
      exact F_to (by kernel_rfl) (by kernel_rfl) (Jc1 _ _ ⟨gn, rfl, Hq, Eq, by omega, by omega, by omega, by omega⟩)
    intro Jc0
    refine tkG 0 (some 39) (.load 36 (.tmp 9)) none (.agg SA) (fun o ho w2 hw => exec_load_of _ 36 (.tmp 9) ho ⟨g9, 0, none⟩ rfl _ (loadA24 ISA (hw.get g9 SA 36 (by simp)))) HDc ?_
    simp only [Act.put, sT, sS, sZ]
    refine tkG 2 (some 41) (.load 36 (.tmp 11)) none (.agg KA) (fun o ho w2 hw => exec_load_of _ 36 (.tmp 11) ho ⟨g11, 0, none⟩ rfl _ (loadA24 IKA (hw.get g11 KA 36 (by simp)))) HDc ?_
    simp only [Act.put, sT, sS, sZ]
    refine tkG 3 (some 42) (.load 60 (.tmp 7)) none (.agg PA) (fun o ho w2 hw => exec_load_of _ 60 (.tmp 7) ho ⟨g7, 0, none⟩ rfl _ (loadT26 IPA (hw.get g7 PA 60 (by simp)))) HDc ?_
    simp only [Act.put, sT, sS, sZ]
    refine rdy [1, 7] (rcl (some 40) 32 #[.tmp 39] #[36] #[.agg SA] enQ32 _ (H32.out _ (HG.out.below HDc.1).2.1) ?_ (ral 12 60 HZ60 (HDc.alloc _) ?_ ReadyF.nil))
    rotate_left
    · skip
      have l0 := HDc.lt (g7) PA 60 (by simp)
      have l1 := HDc.lt (g9) SA 36 (by simp)
      have l2 := HDc.lt (g11) KA 36 (by simp)
      have bb := HDc.1.size
      have Hq := HDc.alloc (.cells ZR1 60)
      have Eq := (HDc.sub (m := []) (fun p hp => by cases hp)).new ZR1 60
      simp only [Act.put, sT, sS, sZ]
      obtain ⟨wq, hwq⟩ : ∃ W, W = wdc.alloc (.cells ZR1 60) := ⟨_, rfl⟩
      rw [← hwq] at Hq Eq ⊢
      clear hwq
      exact F_to (by kernel_rfl) (by kernel_rfl) (Jc0 _ _ ⟨wdc.heap.size, rfl, Hq, Eq, by omega, by omega, by omega, by omega⟩)
    rintro v wrc0 ⟨he, hb⟩
    cases he
    have Hrc0 := HDc.below hb
    clear hb
    refine ⟨Hrc0, ?_⟩
    simp only [Act.put, sT, sS, sZ]
    refine rdy [4, 7] (rcl (some 43) 48 #[.tmp 41, .tmp 42] #[36, 60] #[.agg KA, .agg PA] enQ48 _ (H48.out _ (HG.out.below Hrc0.1).2.1) ?_ (ral 12 60 HZ60 (Hrc0.alloc _) ?_ ReadyF.nil))
    rotate_left
    · skip
      have l0 := Hrc0.lt (g7) PA 60 (by simp)
      have l1 := Hrc0.lt (g9) SA 36 (by simp)
      have l2 := Hrc0.lt (g11) KA 36 (by simp)
      have bb := Hrc0.1.size
      have Hq := Hrc0.alloc (.cells ZR1 60)
      have Eq := (Hrc0.sub (m := []) (fun p hp => by cases hp)).new ZR1 60
      simp only [Act.put, sT, sS, sZ]
      obtain ⟨wq, hwq⟩ : ∃ W, W = wrc0.alloc (.cells ZR1 60) := ⟨_, rfl⟩
      rw [← hwq] at Hq Eq ⊢
      clear hwq
      exact F_to (by kernel_rfl) (by kernel_rfl) (Jc1 _ _ ⟨wrc0.heap.size, rfl, Hq, Eq, by omega, by omega, by omega, by omega⟩)
    rintro v wrc1 ⟨he, hb⟩
    cases he
    have Hrc1 := Hrc0.below hb
    clear hb
    refine ⟨Hrc1, ?_⟩
    simp only [Act.put, sT, sS, sZ]
    refine rdy [5, 7] (rcl (some 44) 47 #[.tmp 43] #[60] #[.agg MA] enQ47 _ (H47.out _) ?_ (ral 12 60 HZ60 (Hrc1.alloc _) ?_ ReadyF.nil))
    rotate_left
    · skip
      have l0 := Hrc1.lt (g7) PA 60 (by simp)
      have l1 := Hrc1.lt (g9) SA 36 (by simp)
      have l2 := Hrc1.lt (g11) KA 36 (by simp)
      have bb := Hrc1.1.size
      have Hq := Hrc1.alloc (.cells ZR1 60)
      have Eq := (Hrc1.sub (m := []) (fun p hp => by cases hp)).new ZR1 60
      simp only [Act.put, sT, sS, sZ]
      obtain ⟨wq, hwq⟩ : ∃ W, W = wrc1.alloc (.cells ZR1 60) := ⟨_, rfl⟩
      rw [← hwq] at Hq Eq ⊢
      clear hwq
      exact F_to (by kernel_rfl) (by kernel_rfl) (Jc2 _ _ ⟨wrc1.heap.size, rfl, Hq, Eq, by omega, by omega, by omega, by omega⟩)
    rintro v wrc2 ⟨he, hb⟩
    cases he
    have Hrc2 := Hrc1.below hb
    clear hb
    refine ⟨Hrc2, ?_⟩
    simp only [Act.put, sT, sS, sZ]
    refine rdy [6, 7] (rcl (some 45) 46 #[.tmp 40, .tmp 44] #[60, 60] #[.agg BA, .agg TA] enQ46 _ (H46.out _ (HG.out.below Hrc2.1).2.1) ?_ (ral 12 60 HZ60 (Hrc2.alloc _) ?_ ReadyF.nil))
    rotate_left
    · skip
      have l0 := Hrc2.lt (g7) PA 60 (by simp)
      have l1 := Hrc2.lt (g9) SA 36 (by simp)
      have l2 := Hrc2.lt (g11) KA 36 (by simp)
      have bb := Hrc2.1.size
      have Hq := Hrc2.alloc (.cells ZR1 60)
      have Eq := (Hrc2.sub (m := []) (fun p hp => by cases hp)).new ZR1 60
      simp only [Act.put, sT, sS, sZ]
      obtain ⟨wq, hwq⟩ : ∃ W, W = wrc2.alloc (.cells ZR1 60) := ⟨_, rfl⟩
      rw [← hwq] at Hq Eq ⊢
      clear hwq
      exact F_to (by kernel_rfl) (by kernel_rfl) (Jc3 _ _ ⟨wrc2.heap.size, rfl, Hq, Eq, by omega, by omega, by omega, by omega⟩)
    rintro v wrc3 ⟨he, hb⟩
    cases he
    have Hrc3 := Hrc2.below hb
    clear hb
    refine ⟨Hrc3, ?_⟩
    simp only [Act.put, sT, sS, sZ]
    refine rdy [7] (ral 12 60 HZ60 (Hrc3.alloc _) ?_ ReadyF.nil)
    have l0 := Hrc3.lt (g7) PA 60 (by simp)
    have l1 := Hrc3.lt (g9) SA 36 (by simp)
    have l2 := Hrc3.lt (g11) KA 36 (by simp)
    have bb := Hrc3.1.size
    have Hq := Hrc3.alloc (.cells ZR1 60)
    have Eq := (Hrc3.sub (m := []) (fun p hp => by cases hp)).new ZR1 60
    simp only [Act.put, sT, sS, sZ]
    obtain ⟨wq, hwq⟩ : ∃ W, W = wrc3.alloc (.cells ZR1 60) := ⟨_, rfl⟩
    rw [← hwq] at Hq Eq ⊢
    clear hwq
    exact F_to (by kernel_rfl) (by kernel_rfl) (Jc4 _ _ ⟨wrc3.heap.size, rfl, Hq, Eq, by omega, by omega, by omega, by omega⟩)
  rintro a' w9 ⟨g12, rfl, hk9, fc_0, fc_1, fc_2, fc_3⟩
  have HS11 := Lib.hid (hk9.sub (m := [(g12, HA, 60)]) (fun p hp => by simp at hp; subst hp; simp))
  clear hk9
  go_upto_region 9 with fail
  refine wp_cut (fun a' W' => a' = { tmps := #[.string p, .string m, .string g, undef, undef, undef, .bool (E.toList == g1.toList), .pointer (some ⟨g7, 0, none⟩), .bool true, .pointer (some ⟨g9, 0, none⟩), .bool true, .pointer (some ⟨g11, 0, none⟩), .pointer (some ⟨g12, 0, none⟩), .string g, .int IntKind.i64 64, .bool false, .tuple #[.agg PA, .bool true], .string p, .tuple #[.agg PA, .bool true], .agg PA, .bool true, .tuple #[.agg SA, .bool true], .string g, .string g2, .tuple #[.agg SA, .bool true], .agg SA, .bool true, .bool true, .bool false, .bool false, .bool true, .bool false, .bool false, .string g, .string g1, .string p, .string m, .slice (some ⟨g9 + 1, 0, none⟩) 3 3, .agg KA, .agg SA, .agg BA, .agg KA, .agg PA, .agg MA, .agg TA, .agg HA, .agg HA, .string E, .string g, .string g1, .bool (E.toList == g1.toList)], defers := [] } ∧ Kt w [(g12, HA, 60)] W') ?_ ?_
  · skip
    refine wp_region_any (by kernel_rfl) ?_
    change wpAny _ _ _ _ _ _ _ (World.drew _)
    have HDr := HS11.out.drew
    generalize w9.drew = wdr at *
    refine any_of_F (S := Kt w [(g12, HA, 60)]) (f := 1000) _ _ _ _ ?_
    refine tkG 0 (some 46) (.load 60 (.tmp 12)) none (.agg HA) (fun o ho w2 hw => exec_load_of _ 60 (.tmp 12) ho ⟨g12, 0, none⟩ rfl _ (loadT26 IHA (hw.get g12 HA 60 (by simp)))) (HDr) ?_
    simp only [Act.put, sT, sS, sZ]
    refine tkG 2 (some 48) (.move (.tmp 2)) none (.string g) (fun o ho w2 hw => by obtain _ := hw; unfold execOp; rw [ho]; go_simp) (HDr) ?_
    simp only [Act.put, sT, sS, sZ]
    refine tkG 3 (some 49) (.slice 9 (.tmp 48) none (some (.const (.int .i64 32))) none) none (.string g1) (fun o ho w2 hw => by have hgx := hg1.out; unfold execOp; rw [ho]; go_simp) (HDr) ?_
    simp only [Act.put, sT, sS, sZ]
    refine AnyF.ready (rs := [1]) (by kernel_rfl) (by simp) (ReadyF.call (some 47) 31 #[.tmp 46] #[60] rfl #[.agg HA] (by simp [Act.eval]) (enters_of Tryz.func31 (by kernel_rfl) rfl) _ (H31.out _) ?_ (fun c w' h => by cases h.1) (fun w' h => by cases h.1) ReadyF.nil)
    rintro v wc1491 ⟨he, hb⟩
    cases he
    have Hc1491 := HDr.below hb
    clear hb
    refine ⟨Hc1491, ?_⟩
    simp only [Act.put, sT, sS, sZ]
    refine tkG 4 (some 50) (.binOp .eql 9 (.tmp 47) (.tmp 49) 9) none (.bool (E.toList == g1.toList)) (fun o ho w2 hw => by obtain _ := hw; unfold execOp; rw [ho]; go_simp) (Hc1491) ?_
    simp only [Act.put, sT, sS, sZ]
    refine tkG 5 (some 6) (.assign (.tmp 50)) none (.bool (E.toList == g1.toList)) (fun o ho w2 hw => by obtain _ := hw; unfold execOp; rw [ho]; go_simp) (Hc1491) ?_
    simp only [Act.put, sT, sS, sZ]
    refine AnyF.done (by kernel_rfl) ?_ _
    exact nrm_intro ⟨rfl, Hc1491⟩
  rintro a' w10 ⟨rfl, hk10⟩
  go_wp2_with fail
  exact ⟨rfl, _, results_tmp rfl _ _ _, by exact congrArg (fun b => Ending.returned (Value.bool b)) hq.out, hk10.1⟩
end Go.Proofs.YtdajmekliodmcaaGreatDoor.P8
