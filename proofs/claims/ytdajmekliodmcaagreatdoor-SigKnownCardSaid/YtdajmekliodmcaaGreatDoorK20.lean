/- Several texts, one behind the other; each says by itself what it proves, and on what conditions. -/
import Derived.Test.YtdajmekliodmcaaGreatDoorK18
import Derived.Test.YtdajmekliodmcaaGreatDoorK19
namespace Go.Proofs.YtdajmekliodmcaaGreatDoor.P8
open Go.RowKit Go.Shelf
set_option linter.unusedVariables false
set_option linter.unusedSimpArgs false
theorem sum4 (t u : Rat4) (ht : B4r t) (hu : B4r u) (w : World) (hG : Glob w) :
    Calls Tryz.prog 91 #[.agg (ratV t), .agg (ratV u)] w fun e w' => e = .returned (.agg (ratV (sumR t u))) ∧ Below w.heap.size w w' := by
  simp only [ratV, sumR]
  exact sum_any t.1 t.2.1 t.2.2.1 t.2.2.2 u.1 u.2.1 u.2.2.1 u.2.2.2 ht.1 ht.2.1 ht.2.2.1 ht.2.2.2 hu.1 hu.2.1 hu.2.2.1 hu.2.2.2 w hG
theorem plain4 (t : Rat4) (ht : B4r t) (w : World) :
    Calls Tryz.prog 90 #[.agg (ratV t)] w fun e w' => e = .returned (.agg (ptV (plainR t))) ∧ Below w.heap.size w w' := by
  simp only [ratV, plainR, ptV]
  exact plain_any t.1 t.2.1 t.2.2.1 t.2.2.2 ht.1 ht.2.1 ht.2.2.1 ht.2.2.2 w
attribute [local go_sem] Oper.semAt_some
theorem bitsOf_any (A : Array Value) (w : World) : Calls Tryz.prog 93 #[.agg A] w fun e w' => e = .returned (.func (.func 135) #[] #[.pointer (some ⟨w.heap.size, 0, none⟩)]) ∧ w.alloc (.cells A 36) = w' := (callsIn_wide (n := 6)).1 (bitsOf_in 6 A w)
theorem kt_own {B : Nat} {w W W' : World} {l : List (Nat × Array Value × TypeId)} {row : Option Nat} (h : Kt w l W) (hw : w.heap.size ≤ B) (hl : ∀ p ∈ l, p.1 < B) (hg : W.grownBy W' row) (hr : ∀ r, row = some r → B ≤ r ∧ ∃ o : Obj, W.heap[r]? = some o ∧ o.isCells = false) : Kt w l W' :=
  ⟨below_own h.1 hw h.1.size hg hr, fun p hp => (hg.block p.1 (Array.getElem?_eq_some_iff.1 (h.2 p hp)).1 (fun e => by have := (hr p.1 e.symm).1; have := hl p hp; omega)).trans (h.2 p hp)⟩
def MI (w : World) (gR g5 g6 n : Nat) (ZR Q : Array Value) (p : Nat × Nat) (pre : List Bool) (W : World) : Prop := Kt w [(gR, ZR, 60), (g5, ratV (fastR p pre), 103), (g6, Q, 103)] W ∧ n ≤ W.heap.size
theorem mI_own (w : World) (gR g5 g6 n : Nat) (ZR Q : Array Value) (p : Nat × Nat) (B : Nat) (h0 : w.heap.size ≤ B) (h1 : gR < B) (h2 : g5 < B) (h3 : g6 < B) : OwnFrom B (MI w gR g5 g6 n ZR Q p) := by
  rintro s W W' row ⟨h, h4⟩ hg hr
  exact ⟨kt_own h h0 (fun p hp => by simp at hp; rcases hp with rfl | rfl | rfl <;> simp <;> omega) hg hr, Nat.le_trans h4 hg.size⟩
set_option maxRecDepth 100000 in
set_option maxHeartbeats 2000000 in
theorem mul_any (k : Nat) (p : Nat × Nat) (hk : k < 115792089237316195423570985008687907853269984665640564039457584007913129639936) (hp : onN p) (w : World) (hG0 : Glob w) :
    Calls Tryz.prog 48 #[.agg (num k), .agg (num p.1 ++ num p.2)] w fun e w' => e = .returned (.agg (ptV (mulN k p))) ∧ Below w.heap.size w w' := by
  have HG := Lib.hid hG0
  have G1 : Hid (∀ t W, B4r t → Glob W → Calls Tryz.prog 91 #[.agg (ratV t), .agg (ratV t)] W fun e w' => e = .returned (.agg (ratV (sumR t t))) ∧ Below W.heap.size W w') := Lib.hid (fun t W h hG => sum4 t t h h W hG)
  have G2 : Hid (∀ t W, B4r t → Glob W → Calls Tryz.prog 91 #[.agg (ratV t), .agg (ratV (overR p))] W fun e w' => e = .returned (.agg (ratV (sumR t (overR p)))) ∧ Below W.heap.size W w') := Lib.hid (fun t W h hG => sum4 t (overR p) h (overR_b4 hp) W hG)
  have G3 := Lib.hid (plain4 (fastR p (bitsTo k 256)) (fastR_b4 _ _))
  rw [mul_plain hp, hvB_all k hk] at G3
  obtain ⟨R, hR⟩ : ∃ R, Hid (R = ptV (mulN k p)) := ⟨_, Lib.hid rfl⟩
  have IR : IsRw 8 R := by rw [hR.out]; exact ptV_rw _
  rw [← hR.out] at G3 ⊢
  clear hR
  have HC9 := Lib.hid (over_any (0) (1) (by decide) (by decide))
  have HC13 := Lib.hid (over_any (p.1) (p.2) (pp_lt hp.1) (pp_lt hp.2.1))
  obtain ⟨Kx, hKx⟩ : ∃ zz9, Hid (zz9 = num (k)) := ⟨_, Lib.hid rfl⟩
  have IKx : IsNum Kx := by rw [hKx.out]; exact isNum _
  obtain ⟨Px, hPx⟩ : ∃ zz9, Hid (zz9 = num (p.1)) := ⟨_, Lib.hid rfl⟩
  have IPx : IsNum Px := by rw [hPx.out]; exact isNum _
  obtain ⟨Py, hPy⟩ : ∃ zz9, Hid (zz9 = num (p.2)) := ⟨_, Lib.hid rfl⟩
  have IPy : IsNum Py := by rw [hPy.out]; exact isNum _
  obtain ⟨Pa, hPa⟩ : ∃ zz9, Hid (zz9 = Px ++ Py) := ⟨_, Lib.hid rfl⟩
  have IPa : IsRw 8 Pa := by rw [hPa.out]; exact rw_app (isRw4 IPx) (isRw4 IPy)
  have SPa_0 : Part Pa 0 Px := by rw [hPa.out]; exact part_left 0 (part_all Px) Py
  have SPa_4 : Part Pa 4 Py := by rw [hPa.out]; exact part_right (Px) Py 4 (by simp [IPx.size])
  obtain ⟨ZR1, hZR1⟩ : ∃ zz9, Hid (zz9 = (rowOf .u64 8 (fun _ => 0)).toArray) := ⟨_, Lib.hid rfl⟩
  have SZZR1 : ZR1.size = 8 := by rw [hZR1.out]; rfl
  obtain ⟨NN3, hNN3⟩ : ∃ zz9, Hid (zz9 = num (1)) := ⟨_, Lib.hid rfl⟩
  have INN3 : IsNum NN3 := by rw [hNN3.out]; exact isNum _
  obtain ⟨NN5, hNN5⟩ : ∃ zz9, Hid (zz9 = num (0)) := ⟨_, Lib.hid rfl⟩
  have INN5 : IsNum NN5 := by rw [hNN5.out]; exact isNum _
  obtain ⟨PP6, hPP6⟩ : ∃ zz9, Hid (zz9 = NN5 ++ NN3) := ⟨_, Lib.hid rfl⟩
  have IPP6 : IsRw 8 PP6 := by rw [hPP6.out]; exact rw_app (isRw4 INN5) (isRw4 INN3)
  have SPP6_0 : Part PP6 0 NN5 := by rw [hPP6.out]; exact part_left 0 (part_all NN5) NN3
  have SPP6_4 : Part PP6 4 NN3 := by rw [hPP6.out]; exact part_right (NN5) NN3 4 (by simp [INN5.size])
  obtain ⟨NN7, hNN7⟩ : ∃ zz9, Hid (zz9 = num (mulF (0) (1))) := ⟨_, Lib.hid rfl⟩
  have INN7 : IsNum NN7 := by rw [hNN7.out]; exact isNum _
  obtain ⟨PP8, hPP8⟩ : ∃ zz9, Hid (zz9 = NN5 ++ NN3 ++ NN3 ++ NN7) := ⟨_, Lib.hid rfl⟩
  have IPP8 : IsRw 16 PP8 := by rw [hPP8.out]; exact rw_app (rw_app (rw_app (isRw4 INN5) (isRw4 INN3)) (isRw4 INN3)) (isRw4 INN7)
  have SPP8_0 : Part PP8 0 NN5 := by rw [hPP8.out]; exact part_left 0 (part_left 0 (part_left 0 (part_all NN5) NN3) NN3) NN7
  have SPP8_4 : Part PP8 4 NN3 := by rw [hPP8.out]; exact part_left 4 (part_left 4 (part_right (NN5) NN3 4 (by simp [INN5.size])) NN3) NN7
  have SPP8_8 : Part PP8 8 NN3 := by rw [hPP8.out]; exact part_left 8 (part_right (NN5 ++ NN3) NN3 8 (by simp [INN5.size, INN3.size])) NN7
  have SPP8_12 : Part PP8 12 NN7 := by rw [hPP8.out]; exact part_right (NN5 ++ NN3 ++ NN3) NN7 12 (by simp [INN5.size, INN3.size, INN3.size])
  obtain ⟨ZR10, hZR10⟩ : ∃ zz9, Hid (zz9 = (rowOf .u64 16 (fun _ => 0)).toArray) := ⟨_, Lib.hid rfl⟩
  have SZZR10 : ZR10.size = 16 := by rw [hZR10.out]; rfl
  obtain ⟨NN11, hNN11⟩ : ∃ zz9, Hid (zz9 = num (mulF (p.1) (p.2))) := ⟨_, Lib.hid rfl⟩
  have INN11 : IsNum NN11 := by rw [hNN11.out]; exact isNum _
  obtain ⟨PP12, hPP12⟩ : ∃ zz9, Hid (zz9 = Px ++ Py ++ NN3 ++ NN11) := ⟨_, Lib.hid rfl⟩
  have IPP12 : IsRw 16 PP12 := by rw [hPP12.out]; exact rw_app (rw_app (rw_app (isRw4 IPx) (isRw4 IPy)) (isRw4 INN3)) (isRw4 INN11)
  have SPP12_0 : Part PP12 0 Px := by rw [hPP12.out]; exact part_left 0 (part_left 0 (part_left 0 (part_all Px) Py) NN3) NN11
  have SPP12_4 : Part PP12 4 Py := by rw [hPP12.out]; exact part_left 4 (part_left 4 (part_right (Px) Py 4 (by simp [IPx.size])) NN3) NN11
  have SPP12_8 : Part PP12 8 NN3 := by rw [hPP12.out]; exact part_left 8 (part_right (Px ++ Py) NN3 8 (by simp [IPx.size, IPy.size])) NN11
  have SPP12_12 : Part PP12 12 NN11 := by rw [hPP12.out]; exact part_right (Px ++ Py ++ NN3) NN11 12 (by simp [IPx.size, IPy.size, INN3.size])
  have HZ26 : ∀ w, (zeroValue 60).run Tryz.prog w = .ok (.agg ZR1) w := by rw [hZR1.out]; exact zeroT26
  have HZ66 : ∀ w, (zeroValue 103).run Tryz.prog w = .ok (.agg ZR10) w := by rw [hZR10.out]; exact zeroT66
  have BF2 : ∀ w, (Instr.build 36 #[(0, .int .u64 1)]).run Tryz.prog w = .ok (.agg NN3) w := by rw [hNN3.out]; exact build_run 1 (by decide)
  have BF4 : ∀ w, (Instr.build 60 #[(1, .agg NN3)]).run Tryz.prog w = .ok (.agg PP6) w := by have q := bp1 INN3; rw [← hNN5.out] at q; rw [hPP6.out]; exact q
  have ER0 : Hid (PP8 = ratV (fastR p [])) := by unfold Hid; rw [hPP8.out, hNN5.out, hNN3.out, hNN7.out]; rfl
  have EQ0 : Hid (PP12 = ratV (overR p)) := by unfold Hid; rw [hPP12.out, hPx.out, hPy.out, hNN3.out, hNN11.out]; rfl
  have EK : Hid (Kx = num k) := Lib.hid hKx.out
  try simp only [← hKx.out, ← hPx.out, ← hPy.out, ← hNN3.out, ← hNN5.out, ← hNN7.out, ← hNN11.out] at HC9 HC13 ⊢
  try simp only [← hPP8.out, ← hZR10.out, ← hPP12.out] at HC9 HC13 ⊢
  try simp only [← hPa.out, ← hZR1.out, ← hPP6.out] at HC9 HC13 ⊢
  clear hKx hPx hPy hPa hZR1 hNN3 hNN5 hPP6 hNN7 hPP8 hZR10 hNN11 hPP12 hk hp hG0
  rw [← EQ0.out] at G2
  refine (callsIn_wide (n := 6)).1 ?_
  refine callsIn_of_wp_marks Tryz.func48 rfl trivial ?_ rfl
  simp only [Tryz.ntmps48, List.size_toArray, List.length_cons, List.length_nil, Nat.reduceAdd, Nat.reduceSub, Array.replicate_succ, Array.replicate_zero, List.push_toArray, List.append_toArray, List.nil_append, List.cons_append]
  refine wpIn_wide.2 ?_
  have HS : Hid (Kt w [] w) := Lib.hid (Kt.nil w)
  go_upto_region 0 with fail
  refine wp_region_list ?_
  refine wpList_run rfl _ (exec_box _ 36 (.tmp 0) rfl _ rfl (Kx) rfl) ?_
  simp only [Act.put, sT, sS, sZ]
  have bg3 := HS.out.1.size
  have HS2 := Lib.hid (HS.out.new Kx 36)
  clear HS
  generalize w.alloc (.cells Kx 36) = w1 at *
  refine wpList_run rfl _ (exec_box _ 60 (.tmp 1) rfl _ rfl (Pa) rfl) ?_
  simp only [Act.put, sT, sS, sZ]
  have lg6_0 := HS2.out.lt (w.heap.size) Kx 36 (by simp)
  have bg6 := HS2.out.1.size
  have HS5 := Lib.hid (HS2.out.new Pa 60)
  clear HS2
  generalize w1.alloc (.cells Pa 60) = w4 at *
  generalize w1.heap.size = g6 at *
  refine wpList_run rfl _ (exec_alloc_agg _ 60 rfl _ (HZ26 _)) ?_
  simp only [Act.put, sT, sS, sZ]
  have lg9_0 := HS5.out.lt (g6) Pa 60 (by simp)
  have lg9_1 := HS5.out.lt (w.heap.size) Kx 36 (by simp)
  have bg9 := HS5.out.1.size
  have HS8 := Lib.hid (HS5.out.new ZR1 60)
  clear HS5
  generalize w4.alloc (.cells ZR1 60) = w7 at *
  generalize w4.heap.size = g9 at *
  refine wpList_nil ?_
  go_upto_region 1 with fail
  refine wp_cut (fun a' W' => ∃ gq10s0 gq10s1, a' = { tmps := #[.agg Kx, .agg Pa, .pointer (some ⟨w.heap.size, 0, none⟩), .pointer (some ⟨g6, 0, none⟩), .pointer (some ⟨g9, 0, none⟩), .pointer (some ⟨gq10s0, 0, none⟩), .pointer (some ⟨gq10s1, 0, none⟩), undef, .agg NN3, .agg PP6, .agg PP8, .agg Pa, .agg PP12, undef, undef, undef, undef, undef, undef, undef, undef, undef, undef, undef, undef], defers := [] } ∧ Kt w [(g9, ZR1, 60), (w.heap.size, Kx, 36), (gq10s0, PP8, 103), (gq10s1, PP12, 103)] W' ∧ w.heap.size ≤ gq10s0 ∧ w.heap.size ≤ gq10s1 ∧ gq10s0 ≠ g9 ∧ gq10s0 ≠ g6 ∧ gq10s0 ≠ w.heap.size ∧ gq10s1 ≠ g9 ∧ gq10s1 ≠ g6 ∧ gq10s1 ≠ w.heap.size ∧ gq10s1 ≠ gq10s0) ?_ ?_
  · refine wp_region_any (by kernel_rfl) ?_
    change wpAny _ _ _ _ _ _ _ (World.drew _)
    have HDq10x1 := HS8.out.drew
    clear HS8
    generalize w7.drew = wdq10x2 at *
    refine any_of_F (S := Kt w [(g9, ZR1, 60), (g6, Pa, 60), (w.heap.size, Kx, 36)]) (f := 1000) _ _ _ _ ?_
    refine F_have 2 #[true, true, true, true, true, true, true, false, false] (fun a W => ∃ gjq10_0_0 gjq10_0_1, a = { tmps := #[.agg Kx, .agg Pa, .pointer (some ⟨w.heap.size, 0, none⟩), .pointer (some ⟨g6, 0, none⟩), .pointer (some ⟨g9, 0, none⟩), .pointer (some ⟨gjq10_0_0, 0, none⟩), .pointer (some ⟨gjq10_0_1, 0, none⟩), undef, .agg NN3, .agg PP6, .agg PP8, .agg Pa, .agg PP12, undef, undef, undef, undef, undef, undef, undef, undef, undef, undef, undef, undef], defers := [] } ∧ Kt w [(g9, ZR1, 60), (g6, Pa, 60), (w.heap.size, Kx, 36)] W ∧ Kt w [(gjq10_0_0, ZR10, 103), (gjq10_0_1, ZR10, 103)] W ∧ w.heap.size ≤ gjq10_0_0 ∧ w.heap.size ≤ gjq10_0_1 ∧ gjq10_0_0 ≠ g9 ∧ gjq10_0_0 ≠ g6 ∧ gjq10_0_0 ≠ w.heap.size ∧ gjq10_0_1 ≠ g9 ∧ gjq10_0_1 ≠ g6 ∧ gjq10_0_1 ≠ w.heap.size ∧ gjq10_0_1 ≠ gjq10_0_0) ?_ ?_
    · rintro a wq10x11 ⟨gjq10_0_0, gjq10_0_1, rfl, Hq10x12, Eq10x13, fJq10_0_0, fJq10_0_1, fJq10_0_2, fJq10_0_3, fJq10_0_4, fJq10_0_5, fJq10_0_6, fJq10_0_7, fJq10_0_8⟩
      refine rdy [7] (ReadyF.op0 (.store 103 (.tmp 5) (.tmp 10)) rfl (fun o ho => exec_storeT66 wq10x11 (.tmp 5) (.tmp 10) ho (gjq10_0_0) rfl PP8 IPP8 rfl ZR10 103 (Eq10x13.get (gjq10_0_0) ZR10 103 (by simp)) SZZR10) (Hq10x12.set (gjq10_0_0) PP8 ZR10 103 (Eq10x13.get (gjq10_0_0) ZR10 103 (by simp)) (by omega) (fun p hp => by simp at hp; rcases hp with rfl | rfl | rfl <;> exact .inr ⟨by simp, by simp only; omega⟩)) ?_ ReadyF.nil)
      have Hq10x15 := Hq10x12.set (gjq10_0_0) PP8 ZR10 103 (Eq10x13.get (gjq10_0_0) ZR10 103 (by simp)) (by omega) (m := [(g9, ZR1, 60), (g6, Pa, 60), (w.heap.size, Kx, 36)]) (fun p hp => by simp at hp; rcases hp with rfl | rfl | rfl <;> exact .inr ⟨by simp, by simp only; omega⟩)
      have Eq10x16 := Eq10x13.set (gjq10_0_0) PP8 ZR10 103 (Eq10x13.get (gjq10_0_0) ZR10 103 (by simp)) (by omega) (m := [(gjq10_0_0, PP8, 103), (gjq10_0_1, ZR10, 103)]) (fun p hp => by simp at hp; rcases hp with rfl | rfl <;> first | exact .inl rfl | exact .inr ⟨by simp, by simp only; omega⟩)
      generalize wq10x11.setRow (gjq10_0_0) PP8 = wq10x14 at *
      refine rdy [8] (ReadyF.op0 (.store 103 (.tmp 6) (.tmp 12)) rfl (fun o ho => exec_storeT66 wq10x14 (.tmp 6) (.tmp 12) ho (gjq10_0_1) rfl PP12 IPP12 rfl ZR10 103 (Eq10x16.get (gjq10_0_1) ZR10 103 (by simp)) SZZR10) (Hq10x15.set (gjq10_0_1) PP12 ZR10 103 (Eq10x16.get (gjq10_0_1) ZR10 103 (by simp)) (by omega) (fun p hp => by simp at hp; rcases hp with rfl | rfl | rfl <;> exact .inr ⟨by simp, by simp only; omega⟩)) ?_ ReadyF.nil)
      have Hq10x18 := Hq10x15.set (gjq10_0_1) PP12 ZR10 103 (Eq10x16.get (gjq10_0_1) ZR10 103 (by simp)) (by omega) (m := [(g9, ZR1, 60), (g6, Pa, 60), (w.heap.size, Kx, 36)]) (fun p hp => by simp at hp; rcases hp with rfl | rfl | rfl <;> exact .inr ⟨by simp, by simp only; omega⟩)
      have Eq10x19 := Eq10x16.set (gjq10_0_1) PP12 ZR10 103 (Eq10x16.get (gjq10_0_1) ZR10 103 (by simp)) (by omega) (m := [(gjq10_0_0, PP8, 103), (gjq10_0_1, PP12, 103)]) (fun p hp => by simp at hp; rcases hp with rfl | rfl <;> first | exact .inl rfl | exact .inr ⟨by simp, by simp only; omega⟩)
      generalize wq10x14.setRow (gjq10_0_1) PP12 = wq10x17 at *
      refine AnyF.done (by kernel_rfl) ?_ _
      refine nrm_intro ⟨gjq10_0_0, gjq10_0_1, rfl, (Hq10x18.app Eq10x19).sub (fun p hp => by simp at hp; rcases hp with rfl | rfl | rfl | rfl <;> simp), by omega, by omega, by omega, by omega, by omega, by omega, by omega, by omega, by omega⟩
    intro Jq10_0
    refine F_have 3 #[true, true, true, true, true, true, false, false, false] (fun a W => ∃ gjq10_1_0, a = { tmps := #[.agg Kx, .agg Pa, .pointer (some ⟨w.heap.size, 0, none⟩), .pointer (some ⟨g6, 0, none⟩), .pointer (some ⟨g9, 0, none⟩), .pointer (some ⟨gjq10_1_0, 0, none⟩), undef, undef, .agg NN3, .agg PP6, .agg PP8, .agg Pa, .agg PP12, undef, undef, undef, undef, undef, undef, undef, undef, undef, undef, undef, undef], defers := [] } ∧ Kt w [(g9, ZR1, 60), (g6, Pa, 60), (w.heap.size, Kx, 36)] W ∧ Kt w [(gjq10_1_0, ZR10, 103)] W ∧ w.heap.size ≤ gjq10_1_0 ∧ gjq10_1_0 ≠ g9 ∧ gjq10_1_0 ≠ g6 ∧ gjq10_1_0 ≠ w.heap.size) ?_ ?_
    · rintro a wq10x20 ⟨gjq10_1_0, rfl, Hq10x21, Eq10x22, fJq10_1_0, fJq10_1_1, fJq10_1_2, fJq10_1_3⟩
      refine rdy [6] (ral 6 103 HZ66 (Hq10x21.alloc _) ?_ ReadyF.nil)
      have l0wq10x23 := Hq10x21.lt (g9) ZR1 60 (by simp)
      have l1wq10x23 := Hq10x21.lt (g6) Pa 60 (by simp)
      have l2wq10x23 := Hq10x21.lt (w.heap.size) Kx 36 (by simp)
      have m0wq10x23 := Eq10x22.lt (gjq10_1_0) ZR10 103 (by simp)
      have bwq10x23 := Hq10x21.1.size
      have Hq10x24 := Hq10x21.alloc (.cells ZR10 103)
      have Eq10x25 := Eq10x22.new ZR10 103
      simp only [Act.put, sT, sS, sZ]
      obtain ⟨wq10x23, hwq10x23⟩ : ∃ W, W = wq10x20.alloc (.cells ZR10 103) := ⟨_, rfl⟩
      rw [← hwq10x23] at Hq10x24 Eq10x25 ⊢
      clear hwq10x23
      exact F_to (by kernel_rfl) (by kernel_rfl) (Jq10_0 _ _ ⟨gjq10_1_0, wq10x20.heap.size, rfl, Hq10x24, Eq10x25.sub (fun p hp => by simp at hp; rcases hp with rfl | rfl <;> simp), by omega, by omega, by omega, by omega, by omega, by omega, by omega, by omega, by omega⟩)
    intro Jq10_1
    refine F_have 3 #[true, true, true, true, true, false, true, false, false] (fun a W => ∃ gjq10_2_0, a = { tmps := #[.agg Kx, .agg Pa, .pointer (some ⟨w.heap.size, 0, none⟩), .pointer (some ⟨g6, 0, none⟩), .pointer (some ⟨g9, 0, none⟩), undef, .pointer (some ⟨gjq10_2_0, 0, none⟩), undef, .agg NN3, .agg PP6, .agg PP8, .agg Pa, .agg PP12, undef, undef, undef, undef, undef, undef, undef, undef, undef, undef, undef, undef], defers := [] } ∧ Kt w [(g9, ZR1, 60), (g6, Pa, 60), (w.heap.size, Kx, 36)] W ∧ Kt w [(gjq10_2_0, ZR10, 103)] W ∧ w.heap.size ≤ gjq10_2_0 ∧ gjq10_2_0 ≠ g9 ∧ gjq10_2_0 ≠ g6 ∧ gjq10_2_0 ≠ w.heap.size) ?_ ?_
    · rintro a wq10x26 ⟨gjq10_2_0, rfl, Hq10x27, Eq10x28, fJq10_2_0, fJq10_2_1, fJq10_2_2, fJq10_2_3⟩
      refine rdy [5] (ral 5 103 HZ66 (Hq10x27.alloc _) ?_ ReadyF.nil)
      have l0wq10x29 := Hq10x27.lt (g9) ZR1 60 (by simp)
      have l1wq10x29 := Hq10x27.lt (g6) Pa 60 (by simp)
      have l2wq10x29 := Hq10x27.lt (w.heap.size) Kx 36 (by simp)
      have m0wq10x29 := Eq10x28.lt (gjq10_2_0) ZR10 103 (by simp)
      have bwq10x29 := Hq10x27.1.size
      have Hq10x30 := Hq10x27.alloc (.cells ZR10 103)
      have Eq10x31 := Eq10x28.new ZR10 103
      simp only [Act.put, sT, sS, sZ]
      obtain ⟨wq10x29, hwq10x29⟩ : ∃ W, W = wq10x26.alloc (.cells ZR10 103) := ⟨_, rfl⟩
      rw [← hwq10x29] at Hq10x30 Eq10x31 ⊢
      clear hwq10x29
      exact F_to (by kernel_rfl) (by kernel_rfl) (Jq10_0 _ _ ⟨wq10x26.heap.size, gjq10_2_0, rfl, Hq10x30, Eq10x31, by omega, by omega, by omega, by omega, by omega, by omega, by omega, by omega, by omega⟩)
    intro Jq10_2
    refine F_have 3 #[true, true, true, true, false, true, true, false, false] (fun a W => ∃ gjq10_3_0 gjq10_3_1, a = { tmps := #[.agg Kx, .agg Pa, .pointer (some ⟨w.heap.size, 0, none⟩), .pointer (some ⟨g6, 0, none⟩), .pointer (some ⟨g9, 0, none⟩), .pointer (some ⟨gjq10_3_0, 0, none⟩), .pointer (some ⟨gjq10_3_1, 0, none⟩), undef, .agg NN3, .agg PP6, .agg PP8, .agg Pa, undef, undef, undef, undef, undef, undef, undef, undef, undef, undef, undef, undef, undef], defers := [] } ∧ Kt w [(g9, ZR1, 60), (g6, Pa, 60), (w.heap.size, Kx, 36)] W ∧ Kt w [(gjq10_3_0, ZR10, 103), (gjq10_3_1, ZR10, 103)] W ∧ w.heap.size ≤ gjq10_3_0 ∧ w.heap.size ≤ gjq10_3_1 ∧ gjq10_3_0 ≠ g9 ∧ gjq10_3_0 ≠ g6 ∧ gjq10_3_0 ≠ w.heap.size ∧ gjq10_3_1 ≠ g9 ∧ gjq10_3_1 ≠ g6 ∧ gjq10_3_1 ≠ w.heap.size ∧ gjq10_3_1 ≠ gjq10_3_0) ?_ ?_
    · rintro a wq10x32 ⟨gjq10_3_0, gjq10_3_1, rfl, Hq10x33, Eq10x34, fJq10_3_0, fJq10_3_1, fJq10_3_2, fJq10_3_3, fJq10_3_4, fJq10_3_5, fJq10_3_6, fJq10_3_7, fJq10_3_8⟩
      refine rdy [4] (rcl (some 12) 92 #[.tmp 11] #[60] #[.agg Pa] en45 _ (HC13.out _) ?_ ReadyF.nil)
      rintro v wq10x35 ⟨he, hb⟩
      cases he
      have Hq10x36 := Hq10x33.below hb
      have Eq10x37 := Eq10x34.below hb
      clear hb
      refine ⟨Hq10x36, ?_⟩
      simp only [Act.put, sT, sS, sZ]
      exact F_to (by kernel_rfl) (by kernel_rfl) (Jq10_0 _ _ ⟨gjq10_3_0, gjq10_3_1, rfl, Hq10x36, Eq10x37, by omega, by omega, by omega, by omega, by omega, by omega, by omega, by omega, by omega⟩)
    intro Jq10_3
    refine F_have 4 #[true, true, true, true, false, true, false, false, false] (fun a W => ∃ gjq10_4_0, a = { tmps := #[.agg Kx, .agg Pa, .pointer (some ⟨w.heap.size, 0, none⟩), .pointer (some ⟨g6, 0, none⟩), .pointer (some ⟨g9, 0, none⟩), .pointer (some ⟨gjq10_4_0, 0, none⟩), undef, undef, .agg NN3, .agg PP6, .agg PP8, .agg Pa, undef, undef, undef, undef, undef, undef, undef, undef, undef, undef, undef, undef, undef], defers := [] } ∧ Kt w [(g9, ZR1, 60), (g6, Pa, 60), (w.heap.size, Kx, 36)] W ∧ Kt w [(gjq10_4_0, ZR10, 103)] W ∧ w.heap.size ≤ gjq10_4_0 ∧ gjq10_4_0 ≠ g9 ∧ gjq10_4_0 ≠ g6 ∧ gjq10_4_0 ≠ w.heap.size) ?_ ?_
    · rintro a wq10x38 ⟨gjq10_4_0, rfl, Hq10x39, Eq10x40, fJq10_4_0, fJq10_4_1, fJq10_4_2, fJq10_4_3⟩
      refine rdy [4, 6] (rcl (some 12) 92 #[.tmp 11] #[60] #[.agg Pa] en45 _ (HC13.out _) ?_ (ral 6 103 HZ66 (Hq10x39.alloc _) ?_ ReadyF.nil))
      · rintro v wq10x41 ⟨he, hb⟩
        cases he
        have Hq10x42 := Hq10x39.below hb
        have Eq10x43 := Eq10x40.below hb
        clear hb
        refine ⟨Hq10x42, ?_⟩
        simp only [Act.put, sT, sS, sZ]
        exact F_to (by kernel_rfl) (by kernel_rfl) (Jq10_1 _ _ ⟨gjq10_4_0, rfl, Hq10x42, Eq10x43, by omega, by omega, by omega, by omega⟩)
      · have l0wq10x44 := Hq10x39.lt (g9) ZR1 60 (by simp)
        have l1wq10x44 := Hq10x39.lt (g6) Pa 60 (by simp)
        have l2wq10x44 := Hq10x39.lt (w.heap.size) Kx 36 (by simp)
        have m0wq10x44 := Eq10x40.lt (gjq10_4_0) ZR10 103 (by simp)
        have bwq10x44 := Hq10x39.1.size
        have Hq10x45 := Hq10x39.alloc (.cells ZR10 103)
        have Eq10x46 := Eq10x40.new ZR10 103
        simp only [Act.put, sT, sS, sZ]
        obtain ⟨wq10x44, hwq10x44⟩ : ∃ W, W = wq10x38.alloc (.cells ZR10 103) := ⟨_, rfl⟩
        rw [← hwq10x44] at Hq10x45 Eq10x46 ⊢
        clear hwq10x44
        exact F_to (by kernel_rfl) (by kernel_rfl) (Jq10_3 _ _ ⟨gjq10_4_0, wq10x38.heap.size, rfl, Hq10x45, Eq10x46.sub (fun p hp => by simp at hp; rcases hp with rfl | rfl <;> simp), by omega, by omega, by omega, by omega, by omega, by omega, by omega, by omega, by omega⟩)
    intro Jq10_4
    refine F_have 4 #[true, true, true, true, false, false, true, false, false] (fun a W => ∃ gjq10_5_0, a = { tmps := #[.agg Kx, .agg Pa, .pointer (some ⟨w.heap.size, 0, none⟩), .pointer (some ⟨g6, 0, none⟩), .pointer (some ⟨g9, 0, none⟩), undef, .pointer (some ⟨gjq10_5_0, 0, none⟩), undef, .agg NN3, .agg PP6, .agg PP8, .agg Pa, undef, undef, undef, undef, undef, undef, undef, undef, undef, undef, undef, undef, undef], defers := [] } ∧ Kt w [(g9, ZR1, 60), (g6, Pa, 60), (w.heap.size, Kx, 36)] W ∧ Kt w [(gjq10_5_0, ZR10, 103)] W ∧ w.heap.size ≤ gjq10_5_0 ∧ gjq10_5_0 ≠ g9 ∧ gjq10_5_0 ≠ g6 ∧ gjq10_5_0 ≠ w.heap.size) ?_ ?_
    · rintro a wq10x47 ⟨gjq10_5_0, rfl, Hq10x48, Eq10x49, fJq10_5_0, fJq10_5_1, fJq10_5_2, fJq10_5_3⟩
      refine rdy [4, 5] (rcl (some 12) 92 #[.tmp 11] #[60] #[.agg Pa] en45 _ (HC13.out _) ?_ (ral 5 103 HZ66 (Hq10x48.alloc _) ?_ ReadyF.nil))
      · rintro v wq10x50 ⟨he, hb⟩
        cases he
        have Hq10x51 := Hq10x48.below hb
        have Eq10x52 := Eq10x49.below hb
        clear hb
        refine ⟨Hq10x51, ?_⟩
        simp only [Act.put, sT, sS, sZ]
        exact F_to (by kernel_rfl) (by kernel_rfl) (Jq10_2 _ _ ⟨gjq10_5_0, rfl, Hq10x51, Eq10x52, by omega, by omega, by omega, by omega⟩)
      · have l0wq10x53 := Hq10x48.lt (g9) ZR1 60 (by simp)
        have l1wq10x53 := Hq10x48.lt (g6) Pa 60 (by simp)
        have l2wq10x53 := Hq10x48.lt (w.heap.size) Kx 36 (by simp)
        have m0wq10x53 := Eq10x49.lt (gjq10_5_0) ZR10 103 (by simp)
        have bwq10x53 := Hq10x48.1.size
        have Hq10x54 := Hq10x48.alloc (.cells ZR10 103)
        have Eq10x55 := Eq10x49.new ZR10 103
        simp only [Act.put, sT, sS, sZ]
        obtain ⟨wq10x53, hwq10x53⟩ : ∃ W, W = wq10x47.alloc (.cells ZR10 103) := ⟨_, rfl⟩
        rw [← hwq10x53] at Hq10x54 Eq10x55 ⊢
        clear hwq10x53
        exact F_to (by kernel_rfl) (by kernel_rfl) (Jq10_3 _ _ ⟨wq10x47.heap.size, gjq10_5_0, rfl, Hq10x54, Eq10x55, by omega, by omega, by omega, by omega, by omega, by omega, by omega, by omega, by omega⟩)
    intro Jq10_5
    refine F_have 4 #[true, true, false, true, false, true, true, false, false] (fun a W => ∃ gjq10_6_0 gjq10_6_1, a = { tmps := #[.agg Kx, .agg Pa, .pointer (some ⟨w.heap.size, 0, none⟩), .pointer (some ⟨g6, 0, none⟩), .pointer (some ⟨g9, 0, none⟩), .pointer (some ⟨gjq10_6_0, 0, none⟩), .pointer (some ⟨gjq10_6_1, 0, none⟩), undef, .agg NN3, .agg PP6, undef, .agg Pa, undef, undef, undef, undef, undef, undef, undef, undef, undef, undef, undef, undef, undef], defers := [] } ∧ Kt w [(g9, ZR1, 60), (g6, Pa, 60), (w.heap.size, Kx, 36)] W ∧ Kt w [(gjq10_6_0, ZR10, 103), (gjq10_6_1, ZR10, 103)] W ∧ w.heap.size ≤ gjq10_6_0 ∧ w.heap.size ≤ gjq10_6_1 ∧ gjq10_6_0 ≠ g9 ∧ gjq10_6_0 ≠ g6 ∧ gjq10_6_0 ≠ w.heap.size ∧ gjq10_6_1 ≠ g9 ∧ gjq10_6_1 ≠ g6 ∧ gjq10_6_1 ≠ w.heap.size ∧ gjq10_6_1 ≠ gjq10_6_0) ?_ ?_
    · rintro a wq10x56 ⟨gjq10_6_0, gjq10_6_1, rfl, Hq10x57, Eq10x58, fJq10_6_0, fJq10_6_1, fJq10_6_2, fJq10_6_3, fJq10_6_4, fJq10_6_5, fJq10_6_6, fJq10_6_7, fJq10_6_8⟩
      refine rdy [2] (rcl (some 10) 92 #[.tmp 9] #[60] #[.agg PP6] en45 _ (HC9.out _) ?_ ReadyF.nil)
      rintro v wq10x59 ⟨he, hb⟩
      cases he
      have Hq10x60 := Hq10x57.below hb
      have Eq10x61 := Eq10x58.below hb
      clear hb
      refine ⟨Hq10x60, ?_⟩
      simp only [Act.put, sT, sS, sZ]
      exact F_to (by kernel_rfl) (by kernel_rfl) (Jq10_3 _ _ ⟨gjq10_6_0, gjq10_6_1, rfl, Hq10x60, Eq10x61, by omega, by omega, by omega, by omega, by omega, by omega, by omega, by omega, by omega⟩)
    intro Jq10_6
    refine tkG 0 (some 8) (.build 36 #[(0, .const (.int .u64 1))]) none (.agg NN3) (fun o ho w2 hw => exec_buildN _ 36 #[(0, .const (.int .u64 1))] ho #[(0, .int .u64 1)] (by simp [Act.eval]) _ (BF2 _)) HDq10x1 ?_
    simp only [Act.put, sT, sS, sZ]
    refine tkG 1 (some 9) (.build 60 #[(1, .tmp 8)]) none (.agg PP6) (fun o ho w2 hw => exec_buildN _ 60 #[(1, .tmp 8)] ho #[(1, .agg NN3)] (by simp [Act.eval]) _ (BF4 _)) HDq10x1 ?_
    simp only [Act.put, sT, sS, sZ]
    refine tkG 3 (some 11) (.load 60 (.tmp 3)) none (.agg Pa) (fun o ho w2 hw => exec_load_of _ 60 (.tmp 3) ho ⟨g6, 0, none⟩ rfl _ (loadT26 IPa (hw.get (g6) Pa 60 (by simp)))) HDq10x1 ?_
    simp only [Act.put, sT, sS, sZ]
    refine rdy [2, 5, 6] (rcl (some 10) 92 #[.tmp 9] #[60] #[.agg PP6] en45 _ (HC9.out _) ?_ (ral 5 103 HZ66 (HDq10x1.alloc _) ?_ (ral 6 103 HZ66 (HDq10x1.alloc _) ?_ ReadyF.nil)))
    · rintro v wq10x62 ⟨he, hb⟩
      cases he
      have Hq10x63 := HDq10x1.below hb
      clear hb
      refine ⟨Hq10x63, ?_⟩
      simp only [Act.put, sT, sS, sZ]
      refine rdy [4, 5, 6] (rcl (some 12) 92 #[.tmp 11] #[60] #[.agg Pa] en45 _ (HC13.out _) ?_ (ral 5 103 HZ66 (Hq10x63.alloc _) ?_ (ral 6 103 HZ66 (Hq10x63.alloc _) ?_ ReadyF.nil)))
      · rintro v wq10x64 ⟨he, hb⟩
        cases he
        have Hq10x65 := Hq10x63.below hb
        clear hb
        refine ⟨Hq10x65, ?_⟩
        simp only [Act.put, sT, sS, sZ]
        refine rdy [5, 6] (ral 5 103 HZ66 (Hq10x65.alloc _) ?_ (ral 6 103 HZ66 (Hq10x65.alloc _) ?_ ReadyF.nil))
        · have l0wq10x66 := Hq10x65.lt (g9) ZR1 60 (by simp)
          have l1wq10x66 := Hq10x65.lt (g6) Pa 60 (by simp)
          have l2wq10x66 := Hq10x65.lt (w.heap.size) Kx 36 (by simp)
          have bwq10x66 := Hq10x65.1.size
          have Hq10x67 := Hq10x65.alloc (.cells ZR10 103)
          have Eq10x68 := (Hq10x65.sub (m := []) (fun p hp => by cases hp)).new ZR10 103
          simp only [Act.put, sT, sS, sZ]
          obtain ⟨wq10x66, hwq10x66⟩ : ∃ W, W = wq10x64.alloc (.cells ZR10 103) := ⟨_, rfl⟩
          rw [← hwq10x66] at Hq10x67 Eq10x68 ⊢
          clear hwq10x66
          exact F_to (by kernel_rfl) (by kernel_rfl) (Jq10_1 _ _ ⟨wq10x64.heap.size, rfl, Hq10x67, Eq10x68, by omega, by omega, by omega, by omega⟩)
        · have l0wq10x69 := Hq10x65.lt (g9) ZR1 60 (by simp)
          have l1wq10x69 := Hq10x65.lt (g6) Pa 60 (by simp)
          have l2wq10x69 := Hq10x65.lt (w.heap.size) Kx 36 (by simp)
          have bwq10x69 := Hq10x65.1.size
          have Hq10x70 := Hq10x65.alloc (.cells ZR10 103)
          have Eq10x71 := (Hq10x65.sub (m := []) (fun p hp => by cases hp)).new ZR10 103
          simp only [Act.put, sT, sS, sZ]
          obtain ⟨wq10x69, hwq10x69⟩ : ∃ W, W = wq10x64.alloc (.cells ZR10 103) := ⟨_, rfl⟩
          rw [← hwq10x69] at Hq10x70 Eq10x71 ⊢
          clear hwq10x69
          exact F_to (by kernel_rfl) (by kernel_rfl) (Jq10_2 _ _ ⟨wq10x64.heap.size, rfl, Hq10x70, Eq10x71, by omega, by omega, by omega, by omega⟩)
      · have l0wq10x72 := Hq10x63.lt (g9) ZR1 60 (by simp)
        have l1wq10x72 := Hq10x63.lt (g6) Pa 60 (by simp)
        have l2wq10x72 := Hq10x63.lt (w.heap.size) Kx 36 (by simp)
        have bwq10x72 := Hq10x63.1.size
        have Hq10x73 := Hq10x63.alloc (.cells ZR10 103)
        have Eq10x74 := (Hq10x63.sub (m := []) (fun p hp => by cases hp)).new ZR10 103
        simp only [Act.put, sT, sS, sZ]
        obtain ⟨wq10x72, hwq10x72⟩ : ∃ W, W = wq10x62.alloc (.cells ZR10 103) := ⟨_, rfl⟩
        rw [← hwq10x72] at Hq10x73 Eq10x74 ⊢
        clear hwq10x72
        exact F_to (by kernel_rfl) (by kernel_rfl) (Jq10_4 _ _ ⟨wq10x62.heap.size, rfl, Hq10x73, Eq10x74, by omega, by omega, by omega, by omega⟩)
      · have l0wq10x75 := Hq10x63.lt (g9) ZR1 60 (by simp)
        have l1wq10x75 := Hq10x63.lt (g6) Pa 60 (by simp)
        have l2wq10x75 := Hq10x63.lt (w.heap.size) Kx 36 (by simp)
        have bwq10x75 := Hq10x63.1.size
        have Hq10x76 := Hq10x63.alloc (.cells ZR10 103)
        have Eq10x77 := (Hq10x63.sub (m := []) (fun p hp => by cases hp)).new ZR10 103
        simp only [Act.put, sT, sS, sZ]
        obtain ⟨wq10x75, hwq10x75⟩ : ∃ W, W = wq10x62.alloc (.cells ZR10 103) := ⟨_, rfl⟩
        rw [← hwq10x75] at Hq10x76 Eq10x77 ⊢
        clear hwq10x75
        exact F_to (by kernel_rfl) (by kernel_rfl) (Jq10_5 _ _ ⟨wq10x62.heap.size, rfl, Hq10x76, Eq10x77, by omega, by omega, by omega, by omega⟩)
    · have l0wq10x78 := HDq10x1.lt (g9) ZR1 60 (by simp)
      have l1wq10x78 := HDq10x1.lt (g6) Pa 60 (by simp)
      have l2wq10x78 := HDq10x1.lt (w.heap.size) Kx 36 (by simp)
      have bwq10x78 := HDq10x1.1.size
      have Hq10x79 := HDq10x1.alloc (.cells ZR10 103)
      have Eq10x80 := (HDq10x1.sub (m := []) (fun p hp => by cases hp)).new ZR10 103
      simp only [Act.put, sT, sS, sZ]
      obtain ⟨wq10x78, hwq10x78⟩ : ∃ W, W = wdq10x2.alloc (.cells ZR10 103) := ⟨_, rfl⟩
      rw [← hwq10x78] at Hq10x79 Eq10x80 ⊢
      clear hwq10x78
      refine rdy [2, 6] (rcl (some 10) 92 #[.tmp 9] #[60] #[.agg PP6] en45 _ (HC9.out _) ?_ (ral 6 103 HZ66 (Hq10x79.alloc _) ?_ ReadyF.nil))
      · rintro v wq10x81 ⟨he, hb⟩
        cases he
        have Hq10x82 := Hq10x79.below hb
        have Eq10x83 := Eq10x80.below hb
        clear hb
        refine ⟨Hq10x82, ?_⟩
        simp only [Act.put, sT, sS, sZ]
        exact F_to (by kernel_rfl) (by kernel_rfl) (Jq10_4 _ _ ⟨wdq10x2.heap.size, rfl, Hq10x82, Eq10x83, by omega, by omega, by omega, by omega⟩)
      · have l0wq10x84 := Hq10x79.lt (g9) ZR1 60 (by simp)
        have l1wq10x84 := Hq10x79.lt (g6) Pa 60 (by simp)
        have l2wq10x84 := Hq10x79.lt (w.heap.size) Kx 36 (by simp)
        have m0wq10x84 := Eq10x80.lt (wdq10x2.heap.size) ZR10 103 (by simp)
        have bwq10x84 := Hq10x79.1.size
        have Hq10x85 := Hq10x79.alloc (.cells ZR10 103)
        have Eq10x86 := Eq10x80.new ZR10 103
        simp only [Act.put, sT, sS, sZ]
        obtain ⟨wq10x84, hwq10x84⟩ : ∃ W, W = wq10x78.alloc (.cells ZR10 103) := ⟨_, rfl⟩
        rw [← hwq10x84] at Hq10x85 Eq10x86 ⊢
        clear hwq10x84
        exact F_to (by kernel_rfl) (by kernel_rfl) (Jq10_6 _ _ ⟨wdq10x2.heap.size, wq10x78.heap.size, rfl, Hq10x85, Eq10x86.sub (fun p hp => by simp at hp; rcases hp with rfl | rfl <;> simp), by omega, by omega, by omega, by omega, by omega, by omega, by omega, by omega, by omega⟩)
    · have l0wq10x87 := HDq10x1.lt (g9) ZR1 60 (by simp)
      have l1wq10x87 := HDq10x1.lt (g6) Pa 60 (by simp)
      have l2wq10x87 := HDq10x1.lt (w.heap.size) Kx 36 (by simp)
      have bwq10x87 := HDq10x1.1.size
      have Hq10x88 := HDq10x1.alloc (.cells ZR10 103)
      have Eq10x89 := (HDq10x1.sub (m := []) (fun p hp => by cases hp)).new ZR10 103
      simp only [Act.put, sT, sS, sZ]
      obtain ⟨wq10x87, hwq10x87⟩ : ∃ W, W = wdq10x2.alloc (.cells ZR10 103) := ⟨_, rfl⟩
      rw [← hwq10x87] at Hq10x88 Eq10x89 ⊢
      clear hwq10x87
      refine rdy [2, 5] (rcl (some 10) 92 #[.tmp 9] #[60] #[.agg PP6] en45 _ (HC9.out _) ?_ (ral 5 103 HZ66 (Hq10x88.alloc _) ?_ ReadyF.nil))
      · rintro v wq10x90 ⟨he, hb⟩
        cases he
        have Hq10x91 := Hq10x88.below hb
        have Eq10x92 := Eq10x89.below hb
        clear hb
        refine ⟨Hq10x91, ?_⟩
        simp only [Act.put, sT, sS, sZ]
        exact F_to (by kernel_rfl) (by kernel_rfl) (Jq10_5 _ _ ⟨wdq10x2.heap.size, rfl, Hq10x91, Eq10x92, by omega, by omega, by omega, by omega⟩)
      · have l0wq10x93 := Hq10x88.lt (g9) ZR1 60 (by simp)
        have l1wq10x93 := Hq10x88.lt (g6) Pa 60 (by simp)
        have l2wq10x93 := Hq10x88.lt (w.heap.size) Kx 36 (by simp)
        have m0wq10x93 := Eq10x89.lt (wdq10x2.heap.size) ZR10 103 (by simp)
        have bwq10x93 := Hq10x88.1.size
        have Hq10x94 := Hq10x88.alloc (.cells ZR10 103)
        have Eq10x95 := Eq10x89.new ZR10 103
        simp only [Act.put, sT, sS, sZ]
        obtain ⟨wq10x93, hwq10x93⟩ : ∃ W, W = wq10x87.alloc (.cells ZR10 103) := ⟨_, rfl⟩
        rw [← hwq10x93] at Hq10x94 Eq10x95 ⊢
        clear hwq10x93
        exact F_to (by kernel_rfl) (by kernel_rfl) (Jq10_6 _ _ ⟨wq10x87.heap.size, wdq10x2.heap.size, rfl, Hq10x94, Eq10x95, by omega, by omega, by omega, by omega, by omega, by omega, by omega, by omega, by omega⟩)
  rintro a' w11 ⟨gq10s0, gq10s1, rfl, hk, e13, e14, e15, e16, e17, e18, e19, e20, e21⟩
  have HS12 := Lib.hid hk
  clear hk HS8
  go_upto_region 2 with fail
  refine wp_region_list ?_
  refine wpList_run rfl (.agg Kx) (exec_load_of _ 36 (.tmp 2) rfl ⟨w.heap.size, 0, none⟩ rfl _ (loadA24 IKx (HS12.out.get (w.heap.size) Kx 36 (by simp)))) ?_
  simp only [Act.put, sT, sS, sZ]
  refine wpList_callF rfl 93 #[.tmp 13] #[36] rfl #[.agg Kx] en48 (bitsOf_any Kx _) ?_
  rintro v wB ⟨he, hwB⟩
  cases he
  simp only [Act.put, sT, sS, sZ]
  have lR := HS12.out.lt (g9) ZR1 60 (by simp)
  have l5 := HS12.out.lt (gq10s0) PP8 103 (by simp)
  have l6 := HS12.out.lt (gq10s1) PP12 103 (by simp)
  have lw := HS12.out.1.size
  have hbox0 : wB.heap[w11.heap.size]? = some (.cells (num k) 36 (0, 0)) := by rw [← hwB, ← EK.out]; exact heap_alloc_new _ _
  have hbox := Lib.hid hbox0
  have hszB : wB.heap.size = w11.heap.size + 1 := by rw [← hwB]; simp
  have hI0 : Hid (MI w (g9) (gq10s0) (gq10s1) (w11.heap.size + 1) ZR1 PP12 p [] wB) := by
    refine Lib.hid ⟨?_, by omega⟩
    rw [← ER0.out, ← hwB]
    exact (HS12.out.alloc _).sub (fun p hp => by simp at hp; rcases hp with rfl | rfl | rfl <;> simp)
  clear hbox0 hwB HS12 ER0 EK
  generalize w11.heap.size = gB at *
  refine wpList_nil ?_
  go_wp2
  refine (wpIn_wide (n := 6)).1 ?_
  refine wpIn_rangeFunc_ownF rfl (by omega) (gf := 135) (lb := #[.pointer (some ⟨gB, 0, none⟩)]) rfl trivial (enters_of Tryz.func135 (by kernel_rfl) rfl) (bits_stops 5 gB k wB hbox.out (by omega))
    (fun h1 h2 => Eq.trans h2 h1) (fun W l o o' hl ho hoc _ => World.putObj_heap_other (by omega)) (Below.refl _ _) (fun _ => rfl)
    (MI w (g9) (gq10s0) (gq10s1) (gB + 1) ZR1 PP12 p) (fun _ _ _ => False) (mI_own w _ _ _ _ _ _ _ _ (by omega) (by omega) (by omega) (by omega)) (fun _ _ _ _ _ hs _ _ => hs) hI0.out
    (fun x => { tmps := #[.agg Kx, .agg Pa, .pointer (some ⟨w.heap.size, 0, none⟩), .pointer (some ⟨g6, 0, none⟩), .pointer (some ⟨g9, 0, none⟩), .pointer (some ⟨gq10s0, 0, none⟩), .pointer (some ⟨gq10s1, 0, none⟩), .bool x, .agg NN3, .agg PP6, .agg PP8, .agg Pa, .agg PP12, .agg Kx, .func (.func 135) #[] #[.pointer (some ⟨gB, 0, none⟩)], .bool x, undef, undef, undef, undef, undef, undef, undef, undef, undef], defers := [] }) ?assign ?body ?done ?stop
  case assign =>
    intro l x W K hK
    unfold encB
    gi_wp2
    exact hK
  case body =>
    rintro l pre x W ⟨hK, hWs⟩ _
    obtain ⟨t, ht⟩ : ∃ t, Hid (t = fastR p pre) := ⟨_, Lib.hid rfl⟩
    have hb4 : B4r t := by rw [ht.out]; exact fastR_b4 _ _
    have hnx : fastR p (pre ++ [x]) = if x then sumR (sumR t t) (overR p) else sumR t t := by rw [fastR_snoc, ← ht.out]
    rw [← ht.out] at hK
    have H1 := Lib.hid (G1.out t W hb4 (HG.out.below hK.1))
    have H2 := Lib.hid (fun W2 => G2.out (sumR t t) W2 (sumR_b4 t t))
    obtain ⟨TT, hTT⟩ : ∃ X, Hid (X = ratV t) := ⟨_, Lib.hid rfl⟩
    obtain ⟨T2, hT2⟩ : ∃ X, Hid (X = ratV (sumR t t)) := ⟨_, Lib.hid rfl⟩
    obtain ⟨T3, hT3⟩ : ∃ X, Hid (X = ratV (sumR (sumR t t) (overR p))) := ⟨_, Lib.hid rfl⟩
    have ITT : IsRw 16 TT := by rw [hTT.out]; exact ratV_rw _
    have IT2 : IsRw 16 T2 := by rw [hT2.out]; exact ratV_rw _
    have IT3 : IsRw 16 T3 := by rw [hT3.out]; exact ratV_rw _
    have HNX : Hid (ratV (fastR p (pre ++ [x])) = if x then T3 else T2) := by
      unfold Hid
      rw [hnx, hT3.out, hT2.out]
      cases x <;> rfl
    rw [← hTT.out, ← hT2.out] at H1
    rw [← hT2.out, ← hT3.out] at H2
    rw [← hTT.out] at hK
    have HK := Lib.hid hK
    clear hK hnx hI0 hbox ht hb4 hTT hT2 hT3 G1 G2 G3 EQ0
    have hl1 := loadT66 ITT (HK.out.get (gq10s0) TT 103 (by simp))
    gi_wp2_with (refine wpListIn_run rfl rfl rfl _ (exec_load_of _ 103 (.tmp 5) rfl ⟨gq10s0, 0, none⟩ rfl (.agg TT) hl1) ?_)
    refine ⟨trivial, ?_⟩
    refine (CallsIn.inRound l (callsIn_wide.2 H1.out)).mono ?_
    rintro e W1 ⟨rfl, hb1⟩
    clear hl1
    have HK1 := Lib.hid (HK.out.below hb1)
    have HKE := Lib.hid (keeps_of_below hb1)
    have HB3 : Hid (W1.heap[gB]? = W.heap[gB]?) := Lib.hid (hb1.block _ (by omega))
    have hW1s : gB + 1 ≤ W1.heap.size := Nat.le_trans hWs hb1.size
    have hg1 := HK1.out.get (gq10s0) TT 103 (by simp)
    clear hb1 H1
    have HK2 : Hid (Kt w [(g9, ZR1, 60), (gq10s0, T2, 103), (gq10s1, PP12, 103)] (W1.setRow (gq10s0) T2)) := Lib.hid (HK1.out.set (gq10s0) T2 TT 103 hg1 (by omega) (fun p hp => by simp at hp; rcases hp with rfl | rfl | rfl <;> first | exact .inl rfl | exact .inr ⟨by simp, by simp only; omega⟩))
    have HKE2 : Hid (KeepsOthers W (W1.setRow (gq10s0) T2)) := Lib.hid (HKE.out.trans (keeps_setRow hg1))
    have HB32 : Hid ((W1.setRow (gq10s0) T2).heap[gB]? = W.heap[gB]?) := Lib.hid ((setRow_other _ _ _ _ (by omega)).trans HB3.out)
    have hW2s : gB + 1 ≤ (W1.setRow (gq10s0) T2).heap.size := by simp; omega
    cases x with
    | false =>
      gi_wp2_with (refine wpListIn_run0 rfl rfl rfl (exec_storeT66 _ (.tmp 5) (.tmp 18) rfl (gq10s0) rfl T2 IT2 rfl TT 103 hg1 ITT.sz) ?_)
      refine ⟨HKE2.out, HB32.out, ?_, hW2s⟩
      rw [HNX.out]
      exact HK2.out
    | true =>
      have H3 := Lib.hid (H2.out (W1.setRow (gq10s0) T2) (HG.out.below HK2.out.1))
      have hl2 := loadT66 IT2 (HK2.out.get (gq10s0) T2 103 (by simp))
      have hl3 := loadT66 IPP12 (HK2.out.get (gq10s1) PP12 103 (by simp))
      clear H2
      gi_wp2_with (first | (refine wpListIn_run0 rfl rfl rfl (exec_storeT66 _ (.tmp 5) (.tmp 18) rfl (gq10s0) rfl T2 IT2 rfl TT 103 hg1 ITT.sz) ?_) | (refine wpListIn_run rfl rfl rfl _ (exec_load_of _ 103 (.tmp 5) rfl ⟨gq10s0, 0, none⟩ rfl (.agg T2) hl2) ?_) | (refine wpListIn_run rfl rfl rfl _ (exec_load_of _ 103 (.tmp 6) rfl ⟨gq10s1, 0, none⟩ rfl (.agg PP12) hl3) ?_))
      refine ⟨trivial, ?_⟩
      refine (CallsIn.inRound l (callsIn_wide.2 H3.out)).mono ?_
      rintro e W3 ⟨rfl, hb3⟩
      have HK3 := Lib.hid (HK2.out.below hb3)
      have HKE3 := Lib.hid (HKE2.out.trans (keeps_of_below hb3))
      have HB33 : Hid (W3.heap[gB]? = W.heap[gB]?) := Lib.hid ((hb3.block _ (by omega)).trans HB32.out)
      have hW3s : gB + 1 ≤ W3.heap.size := Nat.le_trans hW2s hb3.size
      have hg3 := HK3.out.get (gq10s0) T2 103 (by simp)
      clear hb3 H3 hl2 hl3 hg1
      have HK4 : Hid (Kt w [(g9, ZR1, 60), (gq10s0, T3, 103), (gq10s1, PP12, 103)] (W3.setRow (gq10s0) T3)) := Lib.hid (HK3.out.set (gq10s0) T3 T2 103 hg3 (by omega) (fun p hp => by simp at hp; rcases hp with rfl | rfl | rfl <;> first | exact .inl rfl | exact .inr ⟨by simp, by simp only; omega⟩))
      have HKE4 : Hid (KeepsOthers W (W3.setRow (gq10s0) T3)) := Lib.hid (HKE3.out.trans (keeps_setRow hg3))
      have HB34 : Hid ((W3.setRow (gq10s0) T3).heap[gB]? = W.heap[gB]?) := Lib.hid ((setRow_other _ _ _ _ (by omega)).trans HB33.out)
      have hW4s : gB + 1 ≤ (W3.setRow (gq10s0) T3).heap.size := by simp; omega
      gi_wp2_with (refine wpListIn_run0 rfl rfl rfl (exec_storeT66 _ (.tmp 5) (.tmp 22) rfl (gq10s0) rfl T3 IT3 rfl T2 103 hg3 IT2.sz) ?_)
      refine ⟨HKE4.out, HB34.out, ?_, hW4s⟩
      rw [HNX.out]
      exact HK4.out
  case done =>
    rintro D xs W hD rfl ⟨hK, hWs⟩ hDf
    obtain ⟨F, hF⟩ : ∃ F, Hid (F = ratV (fastR p (bitsTo k 256))) := ⟨_, Lib.hid rfl⟩
    have IF : IsRw 16 F := by rw [hF.out]; exact ratV_rw _
    rw [← hF.out] at hK G3
    have HK := Lib.hid hK
    have HDf := Lib.hid hDf
    clear hK hDf hI0 hbox hF G1 G2
    have hl7 := loadT66 IF (HK.out.get (gq10s0) F 103 (by simp))
    go_wp2_with (refine wpList_run rfl _ (exec_load_of _ 103 (.tmp 5) rfl ⟨gq10s0, 0, none⟩ rfl (.agg F) hl7) ?_)
    refine (G3.out W).mono ?_
    rintro e W1 ⟨rfl, hb1⟩
    have HK1 := Lib.hid (HK.out.below hb1)
    have HDf1 : Hid (W1.heap[D]? = some (.deferred (some []))) := Lib.hid ((hb1.block _ (Array.getElem?_eq_some_iff.1 HDf.out).1).trans HDf.out)
    clear hb1 hl7 HK HDf
    have hg7 := HK1.out.get (g9) ZR1 60 (by simp)
    go_wp2_with (refine wpList_run0 rfl (exec_storeT26 _ (.tmp 4) (.tmp 24) rfl (g9) rfl R IR rfl ZR1 60 hg7 SZZR1) ?_)
    have HKS : Kt w [(g9, R, 60)] (W1.setRow (g9) R) := HK1.out.set (g9) R ZR1 60 hg7 (by omega) (fun p hp => by simp at hp; subst hp; simp)
    have hK2 : (W1.setRow (g9) R).heap[D]? = some (.deferred (some [])) := (setRow_other _ _ _ _ (by omega)).trans HDf1.out
    generalize W1.setRow (g9) R = W2 at *
    refine ⟨by simp, .inl ⟨_, _, rfl, run_takeDeferred hK2, ?_⟩⟩
    have hrow7 : (W2.putObj D (.deferred none)).heap[g9]? = some (.cells R 60 (0, 0)) := (World.putObj_heap_other (by omega)).trans (HKS.get (g9) R 60 (by simp))
    exact ⟨_, results_cell rfl _ _ _ ⟨g9, 0, none⟩ rfl _ (loadT26 IR hrow7), rfl, HKS.1.trans (belowK_b (w := w) (Nat.le_refl _) W2 D _ _ (by omega) hK2 rfl rfl)⟩
  case stop =>
    rintro D c pre W _ _ h _
    exact h.elim
end Go.Proofs.YtdajmekliodmcaaGreatDoor.P8
