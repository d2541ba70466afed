/- The document's first point. No condition. -/
import Derived.Test.YtgbliacncahooaaDoorGExA
import Derived.Test.YtgbliacncahooaaDoorGFrA
import Derived.Test.YtgbliacncahooaaDoorGPtA
namespace Go.Proofs.YtgbliacncahooaaDoor
open Go.RowKit Go.Shelf
set_option linter.unusedVariables false
set_option linter.unusedSimpArgs false
theorem decQ_base : decQ baseN.2 0 = (baseN, true) := by
  have h := decP_base
  rw [base_y, decP_eq] at h
  have h1 : baseN.2 < hb := Nat.lt_trans baseN_on.2.1 pp_hb
  rw [Nat.mod_eq_of_lt h1, Nat.div_eq_of_lt h1] at h
  exact h
theorem decQ_even {y : Nat} {p : Nat × Nat} (h : decQ y 0 = (p, true)) : y < pp ∧ (rootF (fromU y)).2 = true ∧ (rootF (fromU y)).1 = p.1 ∧ y = p.2 := by
  unfold decQ at h
  obtain ⟨rr, hrr⟩ : ∃ rr, rr = rootF (fromU y) := ⟨_, rfl⟩
  rw [← hrr] at h ⊢
  clear hrr
  split at h
  · rename_i hc
    rw [if_neg (by decide)] at h
    obtain ⟨h1, _⟩ := Prod.mk.inj h
    exact ⟨hc.1, hc.2.1, by rw [← h1], by rw [← h1]⟩
  · obtain ⟨_, h1⟩ := Prod.mk.inj h
    cases h1
theorem rfrom_base (y : Nat) (hd : decQ y 0 = (baseN, true)) (w : World) :
    Calls Tryd.prog 12 #[.string ⟨(bytesN y).toArray⟩] w fun e w' => e = .returned (.agg (num baseN.1 ++ num baseN.2 ++ #[.bool true])) ∧ Below w.heap.size w w' := by
  obtain ⟨h1, h2, h3, h4⟩ := decQ_even hd
  obtain ⟨m, b, hmb, hm, hv⟩ := top_byte y (pp_lt h1)
  have h128 := top_small h1 hv
  have h := rfrom_d0 m b b hm (by omega) y hv h1 h2 h128 w
  rw [h3] at h
  rw [hmb, ← h4]
  exact h
theorem base2_mod : baseN.2 % pp = baseN.2 := Nat.mod_eq_of_lt baseN_on.2.1
set_option maxRecDepth 100000 in
set_option maxHeartbeats 2000000 in
theorem rbase_any (w : World) : Calls Tryd.prog 16 #[] w fun e w' => e = .returned (.agg (num baseN.1 ++ num baseN.2)) ∧ Below w.heap.size w w' := by
  have HB := Lib.hid (rbytes_any baseN.2 base2_b4)
  rw [base2_mod] at HB
  have HF := Lib.hid (rfrom_base baseN.2 decQ_base)
  have HC9 := Lib.hid (rinv_any (5) (by decide))
  have HC10 := Lib.hid (rmulf_any (4) (invF (5)) (by decide) (pp_lt (invF_lt _)))
  rw [base_y] at HC10
  obtain ⟨NN1, hNN1⟩ : ∃ zz9, Hid (zz9 = num (baseN.1)) := ⟨_, Lib.hid rfl⟩
  have INN1 : IsNum NN1 := by rw [hNN1.out]; exact isNum _
  obtain ⟨NN2, hNN2⟩ : ∃ zz9, Hid (zz9 = num (baseN.2)) := ⟨_, Lib.hid rfl⟩
  have INN2 : IsNum NN2 := by rw [hNN2.out]; exact isNum _
  obtain ⟨Bp, hBp⟩ : ∃ zz9, Hid (zz9 = NN1 ++ NN2) := ⟨_, Lib.hid rfl⟩
  have IBp : IsRw 8 Bp := by rw [hBp.out]; exact rw_app (isRw4 INN1) (isRw4 INN2)
  have SBp_0 : Part Bp 0 NN1 := by rw [hBp.out]; exact part_left 0 (part_all NN1) NN2
  have SBp_4 : Part Bp 4 NN2 := by rw [hBp.out]; exact part_right (NN1) NN2 4 (by simp [INN1.size])
  obtain ⟨SP0, hSP0⟩ : ∃ zz9, Hid (zz9 = Bp ++ #[.bool true]) := ⟨_, Lib.hid rfl⟩
  obtain ⟨ZR3, hZR3⟩ : ∃ zz9, Hid (zz9 = (rowOf .u64 8 (fun _ => 0)).toArray) := ⟨_, Lib.hid rfl⟩
  have SZZR3 : ZR3.size = 8 := by rw [hZR3.out]; rfl
  obtain ⟨NN5, hNN5⟩ : ∃ zz9, Hid (zz9 = num (4)) := ⟨_, Lib.hid rfl⟩
  have INN5 : IsNum NN5 := by rw [hNN5.out]; exact isNum _
  obtain ⟨NN7, hNN7⟩ : ∃ zz9, Hid (zz9 = num (5)) := ⟨_, Lib.hid rfl⟩
  have INN7 : IsNum NN7 := by rw [hNN7.out]; exact isNum _
  obtain ⟨NN8, hNN8⟩ : ∃ zz9, Hid (zz9 = num (invF (5))) := ⟨_, Lib.hid rfl⟩
  have INN8 : IsNum NN8 := by rw [hNN8.out]; exact isNum _
  have HZ26 : ∀ w, (zeroValue 26).run Tryd.prog w = .ok (.agg ZR3) w := by rw [hZR3.out]; exact zeroT26
  have HSP : ∀ w, (Instr.field 31 (.agg SP0) 0).run Tryd.prog w = .ok (.agg Bp) w := by rw [hSP0.out]; exact field31 IBp true
  have BF4 : ∀ w, (Instr.build 24 #[(0, .int .u64 4)]).run Tryd.prog w = .ok (.agg NN5) w := by rw [hNN5.out]; exact build_run 4 (by decide)
  have BF6 : ∀ w, (Instr.build 24 #[(0, .int .u64 5)]).run Tryd.prog w = .ok (.agg NN7) w := by rw [hNN7.out]; exact build_run 5 (by decide)
  try simp only [← hNN1.out, ← hNN2.out, ← hNN5.out, ← hNN7.out, ← hNN8.out] at HC9 HC10 HB HF ⊢
  try simp only [← hBp.out, ← hZR3.out] at HC9 HC10 HB HF ⊢
  try simp only [← hSP0.out] at HC9 HC10 HB HF ⊢
  clear hNN1 hNN2 hBp hSP0 hZR3 hNN5 hNN7 hNN8 
  go_enter Tryd.func16, Tryd.ntmps16
  have HS : Hid (Kt w [] w) := Lib.hid (Kt.nil w)
  go_upto_region 0 with fail
  refine wp_region_list ?_
  refine wpList_run rfl _ (exec_alloc_agg _ 26 rfl _ (HZ26 _)) ?_
  simp only [Act.put, sT, sS, sZ]
  have bg3 := HS.out.1.size
  have HS2 := Lib.hid (HS.out.new ZR3 26)
  clear HS
  generalize w.alloc (.cells ZR3 26) = w1 at *
  refine wpList_nil ?_
  go_upto_region 1 with fail
  refine wp_region_list ?_
  refine wpList_run rfl (.agg NN5) (exec_buildN _ 24 #[(0, .const (.int .u64 4))] rfl #[(0, .int .u64 4)] (by simp [Act.eval]) _ (BF4 _)) ?_
  simp only [Act.put, sT, sS, sZ]
  refine wpList_run rfl (.agg NN7) (exec_buildN _ 24 #[(0, .const (.int .u64 5))] rfl #[(0, .int .u64 5)] (by simp [Act.eval]) _ (BF6 _)) ?_
  simp only [Act.put, sT, sS, sZ]
  refine wpList_callF rfl 36 #[.tmp 2] #[24] rfl #[.agg NN7] en36 (HC9.out _) ?_
  rintro v w4 ⟨he, hb⟩
  cases he
  have HS5 := Lib.hid (HS2.out.below hb)
  clear hb HS2
  simp only [Act.put, sT, sS, sZ]
  refine wpList_callF rfl 34 #[.tmp 1, .tmp 3] #[24, 24] rfl #[.agg NN5, .agg NN8] en34 (HC10.out _) ?_
  rintro v w6 ⟨he, hb⟩
  cases he
  have HS7 := Lib.hid (HS5.out.below hb)
  clear hb HS5
  simp only [Act.put, sT, sS, sZ]
  refine wpList_callF rfl 42 #[.tmp 4] #[24] rfl #[.agg NN2] en42 (HB.out _) ?_
  rintro v w8 ⟨he, hb⟩
  cases he
  have HS9 := Lib.hid (HS7.out.below hb)
  clear hb HS7
  simp only [Act.put, sT, sS, sZ]
  refine wpList_callF rfl 12 #[.tmp 5] #[9] rfl #[.string ⟨(bytesN baseN.2).toArray⟩] en12 (HF.out _) ?_
  rintro v w10 ⟨he, hb⟩
  cases he
  have HS11 := Lib.hid (HS9.out.below hb)
  clear hb HS9
  simp only [Act.put, sT, sS, sZ]
  refine wpList_run rfl (.agg Bp) (exec_fieldV 31 (.tmp 6) 0 rfl _ _ rfl _ (HSP _)) ?_
  simp only [Act.put, sT, sS, sZ]
  refine wpList_run0 rfl (exec_storeT26 _ (.tmp 0) (.tmp 7) rfl (w.heap.size) rfl Bp IBp rfl ZR3 26 (HS11.out.get (w.heap.size) ZR3 26 (by simp)) SZZR3) ?_
  simp only [Act.put, sT, sS, sZ]
  have HS13 : Hid (Kt w [(w.heap.size, Bp, 26)] (w10.setRow (w.heap.size) Bp)) := Lib.hid (HS11.out.set (w.heap.size) Bp ZR3 26 (HS11.out.get (w.heap.size) ZR3 26 (by simp)) (by omega) (fun p hp => by simp at hp; subst hp; exact .inl rfl))
  clear HS11
  generalize w10.setRow (w.heap.size) Bp = w12 at *
  refine wpList_nil ?_
  go_wp2
  exact bodyPost_ret (results_cell rfl _ _ _ ⟨w.heap.size, 0, none⟩ rfl _ (loadT26 IBp (HS13.out.get (w.heap.size) Bp 26 (by simp)))) rfl ⟨rfl, HS13.out.1⟩
end Go.Proofs.YtgbliacncahooaaDoor
