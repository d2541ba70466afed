/- Several texts, one behind the other; each says by itself what it proves, and on what conditions. -/
import Derived.Test.YtdajmekliodmcaaGreatDoorK08
import Derived.Deep.CutBlock
import Derived.Deep.DeepCutAuto
namespace Go.Proofs.YtdajmekliodmcaaGreatDoor.P8
open Go.RowKit Go.Shelf
set_option linter.unusedVariables false
set_option linter.unusedSimpArgs false
theorem enters67 : ∀ args w, (callFunc 166 args).run Tryz.prog w = .ok (.enter 166 args) w := enters_of Tryz.func166 (by kernel_rfl) rfl
theorem enters68 : ∀ args w, (callFunc 167 args).run Tryz.prog w = .ok (.enter 167 args) w := enters_of Tryz.func167 (by kernel_rfl) rfl
theorem enters40 : ∀ args w, (callFunc 130 args).run Tryz.prog w = .ok (.enter 130 args) w := enters_of Tryz.func130 (by kernel_rfl) rfl
set_option maxRecDepth 100000 in
set_option maxHeartbeats 1000000 in
theorem squared_any (a n : Nat) (ha : a < 115792089237316195423570985008687907853269984665640564039457584007913129639936) (hn : n ≤ 1000000) (w : World) :
    Calls Tryz.prog 166 #[.agg (num a), .int .i64 n] w fun e w' => e = .returned (.agg (num (sqF a n))) ∧ Below w.heap.size w w' := by
  have HL := Lib.hid (fun i => sqF_lt a i ha)
  have HNX := Lib.hid (fun i => sqF_succ a i)
  have H0 := Lib.hid (sqF_zero a)
  clear ha
  have HZ := zero_run
  have IZ := isNum 0
  obtain ⟨A, hA⟩ : ∃ A, Hid (A = num a) := ⟨_, Lib.hid rfl⟩
  have IA : IsNum A := by rw [hA.out]; exact isNum _
  have hz4 : ∀ W : World, Kn W [(W.heap.size, A), (W.heap.size + 1, (num 0))] ((W.alloc (.cells A 36)).alloc (.cells (num 0) 36)) := by
    intro W
    have h := ((Kn.nil W).new A).new (num 0)
    simp only [World.size_alloc] at h
    exact h.sub (fun p hp => by simp at hp ⊢; rcases hp with h | h <;> simp [h])
  have HS := Lib.hid (hz4 w)
  clear hz4
  rw [← hA.out]
  generalize num 0 = Z at *
  go_enter Tryz.func166, Tryz.ntmps166
  go_wp2_with (((refine wpList_run rfl _ (exec_alloc_agg _ 36 rfl _ (HZ _)) ?_); try simp only [World.size_alloc]))
  generalize (w.alloc (.cells A 36)).alloc (.cells Z 36) = W0 at *
  go_loopw [6] (fun u wr => ∃ i : Nat, u = .int .i64 i ∧ i ≤ n ∧ Kn w [(w.heap.size, num (sqF a i)), (w.heap.size + 1, Z)] wr) (fun u _ => n - (intOf u).toNat)
  case atStart => exact ⟨0, rfl, Nat.zero_le _, by rw [H0.out, ← hA.out]; exact HS.out⟩
  case round =>
    clear HS
    obtain ⟨i, rfl, hi, HK⟩ := hrel
    by_cases hlt : i < n
    · have HM := Lib.hid (mulf_any (sqF a i) (sqF a i) (HL.out i) (HL.out i))
      rw [HNX.out] at HM
      have hlti : (i : Int) < n := by omega
      obtain ⟨S, hS⟩ : ∃ S, Hid (S = num (sqF a i)) := ⟨_, Lib.hid rfl⟩
      have IS : IsNum S := by rw [hS.out]; exact isNum _
      obtain ⟨R, hR⟩ : ∃ R, Hid (R = num (sqF a (i + 1))) := ⟨_, Lib.hid rfl⟩
      have IR : IsNum R := by rw [hR.out]; exact isNum _
      rw [← hS.out, ← hR.out] at HM
      rw [← hS.out] at HK
      go_wp2_with (first | (refine wpList_run rfl _ (exec_load_of _ 36 (.tmp 2) rfl ⟨w.heap.size, 0, none⟩ rfl (.agg S) ?L2) ?_))
      case L2 => exact HK.load (w.heap.size) S (by simp) IS
      refine (HM.out _).mono ?_
      rintro e w5 ⟨rfl, hb⟩
      have HS5 := HK.below hb
      clear hb HK
      go_wp2_with ((refine wpList_run0 rfl (exec_store_kn (w0 := w) (l := [(w.heap.size, S), (w.heap.size + 1, Z)]) _ ?S5 (.tmp 2) (.tmp 10) rfl (w.heap.size) rfl R IR rfl S IS (by simp)) ?_))
      case S5 => exact HS5
      have HS6 : Kn w [(w.heap.size, R), (w.heap.size + 1, Z)] (w5.setRow (w.heap.size) R) := HS5.set (w.heap.size) R S (HS5.get (w.heap.size) S (by simp)) (by omega) (fun p hp => by simp at hp; rcases hp with rfl | rfl <;> simp)
      clear HS5
      generalize w5.setRow (w.heap.size) R = w6 at *
      go_roundw
      case rel => exact ⟨i + 1, by simp, by omega, by rw [← hR.out]; exact HS6⟩
      case measure => simp [intOf]; omega
    · obtain rfl : i = n := by omega
      obtain ⟨S, hS⟩ : ∃ S, Hid (S = num (sqF a i)) := ⟨_, Lib.hid rfl⟩
      have IS : IsNum S := by rw [hS.out]; exact isNum _
      rw [← hS.out] at HK
      go_wp2_with (first | (refine wpList_run rfl _ (exec_load_of _ 36 (.tmp 2) rfl ⟨w.heap.size, 0, none⟩ rfl (.agg S) ?L2) ?_) | (refine wpList_run0 rfl (exec_store_kn (w0 := w) (l := [(w.heap.size, S), (w.heap.size + 1, Z)]) _ ?S5 (.tmp 4) (.tmp 12) rfl (w.heap.size + 1) rfl S IS rfl Z IZ (by simp)) ?_))
      case L2 => exact HK.load (w.heap.size) S (by simp) IS
      case S5 => exact HK
      have HS6 : Kn w [(w.heap.size + 1, S)] (wr.setRow (w.heap.size + 1) S) := HK.set (w.heap.size + 1) S Z (HK.get (w.heap.size + 1) Z (by simp)) (by omega) (fun p hp => by simp at hp; subst hp; simp)
      exact bodyPost_ret (results_cell rfl _ _ _ ⟨w.heap.size + 1, 0, none⟩ rfl _ (HS6.load (w.heap.size + 1) S (by simp) IS)) rfl ⟨by rw [hS.out], HS6.1⟩
set_option maxRecDepth 100000 in
set_option maxHeartbeats 1000000 in
theorem ones_step (a n h : Nat) (ha : a < 115792089237316195423570985008687907853269984665640564039457584007913129639936) (hn : n ≤ 1000) (hh : 0 < h) (hnh : n / 2 = h) (ih : ∀ w, Calls Tryz.prog 167 #[.agg (num a), .int .i64 h] w fun e w' => e = .returned (.agg (num (onF a h))) ∧ Below w.heap.size w w') (w : World) :
    Calls Tryz.prog 167 #[.agg (num a), .int .i64 n] w fun e w' => e = .returned (.agg (num (onF a n))) ∧ Below w.heap.size w w' := by
  have hl1 := onF_lt a h ha
  have HSQ := Lib.hid (squared_any (onF a h) h hl1 (by omega))
  have hl2 := sqF_lt (onF a h) h hl1
  have HMU := Lib.hid (mulf_any (sqF (onF a h) h) (onF a h) hl2 hl1)
  have hl3 := pp_lt (mulF_lt (sqF (onF a h) h) (onF a h))
  have HSQ1 := Lib.hid (squared_any (mulF (sqF (onF a h) h) (onF a h)) 1 hl3 (by omega))
  have HMU1 := Lib.hid (mulf_any (sqF (mulF (sqF (onF a h) h) (onF a h)) 1) a (sqF_lt _ 1 hl3) ha)
  have HEV : Hid (n % 2 = 0 → num (mulF (sqF (onF a h) h) (onF a h)) = num (onF a n)) := fun hm => by rw [onF_even a n h hh (by omega)]
  have HOD : Hid (n % 2 = 1 → num (mulF (sqF (mulF (sqF (onF a h) h) (onF a h)) 1) a) = num (onF a n)) := fun hm => by rw [onF_odd a n h hh (by omega)]
  have HIH := Lib.hid ih
  clear ih hl1 hl2 hl3 ha
  obtain ⟨A, hA⟩ : ∃ A, Hid (A = num a) := ⟨_, Lib.hid rfl⟩
  have IA : IsNum A := by rw [hA.out]; exact isNum _
  obtain ⟨H, hH⟩ : ∃ H, Hid (H = num (onF a h)) := ⟨_, Lib.hid rfl⟩
  have IH : IsNum H := by rw [hH.out]; exact isNum _
  obtain ⟨Sq, hSq⟩ : ∃ Sq, Hid (Sq = num (sqF (onF a h) h)) := ⟨_, Lib.hid rfl⟩
  have ISq : IsNum Sq := by rw [hSq.out]; exact isNum _
  obtain ⟨P, hP⟩ : ∃ P, Hid (P = num (mulF (sqF (onF a h) h) (onF a h))) := ⟨_, Lib.hid rfl⟩
  have IP : IsNum P := by rw [hP.out]; exact isNum _
  obtain ⟨Sq1, hSq1⟩ : ∃ Sq1, Hid (Sq1 = num (sqF (mulF (sqF (onF a h) h) (onF a h)) 1)) := ⟨_, Lib.hid rfl⟩
  have ISq1 : IsNum Sq1 := by rw [hSq1.out]; exact isNum _
  obtain ⟨R, hR⟩ : ∃ R, Hid (R = num (mulF (sqF (mulF (sqF (onF a h) h) (onF a h)) 1) a)) := ⟨_, Lib.hid rfl⟩
  have IR : IsNum R := by rw [hR.out]; exact isNum _
  obtain ⟨O, hO⟩ : ∃ O, Hid (O = num (onF a n)) := ⟨_, Lib.hid rfl⟩
  have IOo : IsNum O := by rw [hO.out]; exact isNum _
  rw [← hA.out, ← hH.out] at HIH
  rw [← hH.out, ← hSq.out] at HSQ
  rw [← hSq.out, ← hH.out, ← hP.out] at HMU
  rw [← hP.out, ← hSq1.out] at HSQ1
  rw [← hSq1.out, ← hA.out, ← hR.out] at HMU1
  rw [← hP.out, ← hO.out] at HEV
  rw [← hR.out, ← hO.out] at HOD
  rw [← hA.out, ← hO.out]
  clear hA hH hSq hP hSq1 hR hO
  have HZ := zero_run
  have IZ := isNum 0
  have IZ2 := IZ.size
  have hz4 : ∀ W : World, Kn W [(W.heap.size, A), (W.heap.size + 1, (num 0))] ((W.alloc (.cells A 36)).alloc (.cells (num 0) 36)) := by
    intro W
    have h := ((Kn.nil W).new A).new (num 0)
    simp only [World.size_alloc] at h
    exact h.sub (fun p hp => by simp at hp ⊢; rcases hp with h | h <;> simp [h])
  have HS := Lib.hid (hz4 w)
  clear hz4
  generalize num 0 = Z at *
  have hn1 : ((n : Int) == 1) = false := by simp; omega
  have hq2 : (n : Int) / 2 = (h : Int) := by omega
  have hwr : IntKind.i64.wrap (h : Int) = (h : Int) := IntWalk.i64_in _ (by omega)
  have hq3 : (n : Int).tdiv 2 = (h : Int) := by rw [Int.tdiv_eq_ediv_of_nonneg (by omega)]; exact hq2
  go_enter Tryz.func167, Tryz.ntmps167
  go_wp2_with (first | ((refine wpList_run rfl _ (exec_alloc_agg _ 36 rfl _ (HZ _)) ?_); try simp only [World.size_alloc]) | (refine wpList_run rfl _ (exec_load_of _ 36 (.tmp 2) rfl ⟨w.heap.size, 0, none⟩ rfl (.agg A) ?L2) ?_))
  case L2 => exact HS.out.load (w.heap.size) A (by simp) IA
  refine (HIH.out _).mono ?_
  rintro e w1 ⟨rfl, hb⟩
  have HS1 := HS.out.below hb
  clear hb HS HIH
  have HA2 : Kn w [(w.heap.size, A), (w.heap.size + 1, Z), (w1.heap.size, H)] (w1.alloc (.cells H 36)) := by
    have h := HS1.new H
    exact h.sub (fun p hp => by simp at hp ⊢; rcases hp with h | h | h <;> simp [h])
  have hlt1 := HS1.lt (w.heap.size + 1) Z (by simp)
  have HS2 := Lib.hid HA2
  clear HA2 HS1
  go_wp2_with (first | ((refine wpList_run rfl _ (exec_alloc_agg _ 36 rfl _ (HZ _)) ?_); try simp only [World.size_alloc]) | (refine wpList_run0 rfl (exec_new24 _ (.tmp 5) (.tmp 13) rfl _ _ rfl H IH rfl IZ2) ?_))
  generalize w1.alloc (.cells H 36) = W1 at *
  obtain ⟨gH, hgH⟩ : ∃ g, g = w1.heap.size := ⟨_, rfl⟩
  rw [← hgH] at HS2 hlt1 ⊢
  clear hgH
  have HK3 := HS2
  simp only [Act.put, sT, sS, sZ]
  refine wp_cut (fun a' W => ∃ gP, a' = { tmps := #[.agg A, .int .i64 n, .pointer (some ⟨w.heap.size, 0, none⟩), undef, .pointer (some ⟨w.heap.size + 1, 0, none⟩), .pointer (some ⟨gH, 0, none⟩), .pointer (some ⟨gP, 0, none⟩), .int .i64 n, .bool false, undef, .agg A, .int .i64 n, .int .i64 h, .agg H, .agg H, .int .i64 n, .int .i64 h, .agg Sq, .agg H, .agg P, undef, undef, undef, undef, undef, undef, undef, undef], defers := [] } ∧ Kn w [(w.heap.size, A), (w.heap.size + 1, Z), (gP, P)] W ∧ w.heap.size + 1 < gP) ?_ ?_
  · refine wp_region_any (by kernel_rfl) ?_
    change wpAny _ _ _ _ _ _ _ (World.drew _)
    have HS3 := HS2.out.drew
    generalize W1.drew = Wd at *
    refine any_of_F (S := Kn w [(w.heap.size, A), (w.heap.size + 1, Z), (gH, H)]) (f := 7) _ _ _ _ ?_
    refine tkL 0 (some 14) (.load 36 (.tmp 5)) (.agg H) (fun o ho w2 hw => exec_load_of _ 36 (.tmp 5) ho ⟨gH, 0, none⟩ rfl _ (hw.load (gH) H (by simp) IH)) HS3 ?_
    simp only [Act.put, sT, sS, sZ]
    refine tkL 1 (some 15) (.move (.tmp 1)) (.int .i64 n) (fun o ho w2 hw => exec_move (.tmp 1) ho _ rfl w2) HS3 ?_
    simp only [Act.put, sT, sS, sZ]
    refine tkL 2 (some 16) (.binOp .quo 3 (.tmp 15) (.const (.int .i64 2)) 3) (.int .i64 h) (fun o ho w2 hw => by unfold execOp; rw [ho]; go_simp) HS3 ?_
    simp only [Act.put, sT, sS, sZ]
    refine tkL 4 (some 18) (.load 36 (.tmp 5)) (.agg H) (fun o ho w2 hw => exec_load_of _ 36 (.tmp 5) ho ⟨gH, 0, none⟩ rfl _ (hw.load (gH) H (by simp) IH)) HS3 ?_
    simp only [Act.put, sT, sS, sZ]
    refine rdy [3, 6] (rcl (some 17) 166 #[.tmp 14, .tmp 16] #[36, 3] #[.agg H, .int .i64 h] enters67 _ (HSQ.out _) ?_ (ral 6 36 HZ (HS3.alloc _) ?_ ReadyF.nil))
    · rintro v wq1 ⟨he, hb⟩
      cases he
      have Hq2 := HS3.below hb
      clear hb
      refine ⟨Hq2, ?_⟩
      simp only [Act.put, sT, sS, sZ]
      refine rdy [5, 6] (rcl (some 19) 130 #[.tmp 17, .tmp 18] #[36, 36] #[.agg Sq, .agg H] enters40 _ (HMU.out _) ?_ (ral 6 36 HZ (Hq2.alloc _) ?_ ReadyF.nil))
      · rintro v wq3 ⟨he, hb⟩
        cases he
        have Hq4 := Hq2.below hb
        clear hb
        refine ⟨Hq4, ?_⟩
        simp only [Act.put, sT, sS, sZ]
        refine rdy [6] (ral 6 36 HZ (Hq4.alloc _) ?_ ReadyF.nil)
        have l0wq5 := Hq4.lt (w.heap.size) A (by simp)
        have l1wq5 := Hq4.lt (w.heap.size + 1) Z (by simp)
        have l2wq5 := Hq4.lt (gH) H (by simp)
        have Hq6 := Hq4.alloc (.cells Z 36)
        have Eq7 := Hq4.new Z
        simp only [Act.put, sT, sS, sZ]
        obtain ⟨wq5, hwq5⟩ : ∃ W, W = wq3.alloc (.cells Z 36) := ⟨_, rfl⟩
        rw [← hwq5] at Hq6 Eq7 ⊢
        clear hwq5
        refine rdy [7] (ReadyF.last (.store 36 (.tmp 6) (.tmp 19)) rfl (fun o ho => exec_store_kn wq5 Eq7 (.tmp 6) (.tmp 19) ho (wq3.heap.size) rfl P IP rfl Z IZ (by simp)) ?_ ReadyF.nil)
        refine any_doneF (by kernel_rfl) ?_ _
        refine nrm_intro ⟨_, rfl, ?_, by omega⟩
        exact Eq7.set (wq3.heap.size) P Z (Eq7.get (wq3.heap.size) Z (by simp)) (by omega) (fun p hp => by simp at hp; rcases hp with rfl | rfl | rfl <;> simp <;> omega)
      · have l0wq8 := Hq2.lt (w.heap.size) A (by simp)
        have l1wq8 := Hq2.lt (w.heap.size + 1) Z (by simp)
        have l2wq8 := Hq2.lt (gH) H (by simp)
        have Hq9 := Hq2.alloc (.cells Z 36)
        have Eq10 := Hq2.new Z
        simp only [Act.put, sT, sS, sZ]
        obtain ⟨wq8, hwq8⟩ : ∃ W, W = wq1.alloc (.cells Z 36) := ⟨_, rfl⟩
        rw [← hwq8] at Hq9 Eq10 ⊢
        clear hwq8
        refine rdy [5] (rcl (some 19) 130 #[.tmp 17, .tmp 18] #[36, 36] #[.agg Sq, .agg H] enters40 _ (HMU.out _) ?_ ReadyF.nil)
        rintro v wq11 ⟨he, hb⟩
        cases he
        have Hq12 := Hq9.below hb
        have Eq13 := Eq10.below hb
        clear hb
        refine ⟨Hq12, ?_⟩
        simp only [Act.put, sT, sS, sZ]
        refine rdy [7] (ReadyF.last (.store 36 (.tmp 6) (.tmp 19)) rfl (fun o ho => exec_store_kn wq11 Eq13 (.tmp 6) (.tmp 19) ho (wq1.heap.size) rfl P IP rfl Z IZ (by simp)) ?_ ReadyF.nil)
        refine any_doneF (by kernel_rfl) ?_ _
        refine nrm_intro ⟨_, rfl, ?_, by omega⟩
        exact Eq13.set (wq1.heap.size) P Z (Eq13.get (wq1.heap.size) Z (by simp)) (by omega) (fun p hp => by simp at hp; rcases hp with rfl | rfl | rfl <;> simp <;> omega)
    · have l0wq14 := HS3.lt (w.heap.size) A (by simp)
      have l1wq14 := HS3.lt (w.heap.size + 1) Z (by simp)
      have l2wq14 := HS3.lt (gH) H (by simp)
      have Hq15 := HS3.alloc (.cells Z 36)
      have Eq16 := HS3.new Z
      simp only [Act.put, sT, sS, sZ]
      obtain ⟨wq14, hwq14⟩ : ∃ W, W = Wd.alloc (.cells Z 36) := ⟨_, rfl⟩
      rw [← hwq14] at Hq15 Eq16 ⊢
      clear hwq14
      refine rdy [3] (rcl (some 17) 166 #[.tmp 14, .tmp 16] #[36, 3] #[.agg H, .int .i64 h] enters67 _ (HSQ.out _) ?_ ReadyF.nil)
      rintro v wq17 ⟨he, hb⟩
      cases he
      have Hq18 := Hq15.below hb
      have Eq19 := Eq16.below hb
      clear hb
      refine ⟨Hq18, ?_⟩
      simp only [Act.put, sT, sS, sZ]
      refine rdy [5] (rcl (some 19) 130 #[.tmp 17, .tmp 18] #[36, 36] #[.agg Sq, .agg H] enters40 _ (HMU.out _) ?_ ReadyF.nil)
      rintro v wq20 ⟨he, hb⟩
      cases he
      have Hq21 := Hq18.below hb
      have Eq22 := Eq19.below hb
      clear hb
      refine ⟨Hq21, ?_⟩
      simp only [Act.put, sT, sS, sZ]
      refine rdy [7] (ReadyF.last (.store 36 (.tmp 6) (.tmp 19)) rfl (fun o ho => exec_store_kn wq20 Eq22 (.tmp 6) (.tmp 19) ho (Wd.heap.size) rfl P IP rfl Z IZ (by simp)) ?_ ReadyF.nil)
      refine any_doneF (by kernel_rfl) ?_ _
      refine nrm_intro ⟨_, rfl, ?_, by omega⟩
      exact Eq22.set (Wd.heap.size) P Z (Eq22.get (Wd.heap.size) Z (by simp)) (by omega) (fun p hp => by simp at hp; rcases hp with rfl | rfl | rfl <;> simp <;> omega)
  · rintro a' W5 ⟨gP, rfl, HKP, hgP⟩
    clear HS2 HK3 HSQ HMU
    rcases (show n % 2 = 0 ∨ n % 2 = 1 by omega) with hm | hm
    · have hr3 : (n : Int).tmod 2 = 0 := by rw [Int.tmod_eq_emod_of_nonneg (by omega)]; omega
      have HEV2 := Lib.hid (HEV.out hm)
      clear HEV HOD hm
      go_wp2_with (first | (refine wpList_run rfl _ (exec_load_of _ 36 (.tmp 6) rfl ⟨gP, 0, none⟩ rfl (.agg P) ?L6) ?_) | (refine wpList_run0 rfl (exec_store_kn (w0 := w) (l := [(w.heap.size, A), (w.heap.size + 1, Z), (gP, P)]) _ ?S7 (.tmp 4) (.tmp 27) rfl (w.heap.size + 1) rfl P IP rfl Z IZ (by simp)) ?_))
      case L6 => exact HKP.load gP P (by simp) IP
      case S7 => exact HKP
      have HS9 : Kn w [(w.heap.size + 1, P)] (W5.setRow (w.heap.size + 1) P) := HKP.set (w.heap.size + 1) P Z (HKP.get (w.heap.size + 1) Z (by simp)) (by omega) (fun p hp => by simp at hp; subst hp; simp)
      exact bodyPost_ret (results_cell rfl _ _ _ ⟨w.heap.size + 1, 0, none⟩ rfl _ (HS9.load (w.heap.size + 1) P (by simp) IP)) rfl ⟨by rw [HEV2.out], HS9.1⟩
    · have hr3 : (n : Int).tmod 2 = 1 := by rw [Int.tmod_eq_emod_of_nonneg (by omega)]; omega
      have HOD2 := Lib.hid (HOD.out hm)
      clear HEV HOD hm
      go_wp2
      refine wp_region_any (by kernel_rfl) ?_
      change wpAny _ _ _ _ _ _ _ (World.drew _)
      have HKD := HKP.drew
      generalize W5.drew = Wd at *
      refine any_of_F (S := Kn w [(w.heap.size, A), (w.heap.size + 1, Z), (gP, P)]) (f := 4) _ _ _ _ ?_
      refine tkL 0 (some 23) (.load 36 (.tmp 6)) (.agg P) (fun o ho w2 hw => exec_load_of _ 36 (.tmp 6) ho ⟨gP, 0, none⟩ rfl _ (hw.load (gP) P (by simp) IP)) HKD ?_
      simp only [Act.put, sT, sS, sZ]
      refine tkL 2 (some 25) (.load 36 (.tmp 2)) (.agg A) (fun o ho w2 hw => exec_load_of _ 36 (.tmp 2) ho ⟨w.heap.size, 0, none⟩ rfl _ (hw.load (w.heap.size) A (by simp) IA)) HKD ?_
      simp only [Act.put, sT, sS, sZ]
      refine rdy [1] (rcl (some 24) 166 #[.tmp 23, .const (.int .i64 1)] #[36, 3] #[.agg P, .int .i64 1] enters67 _ (HSQ1.out _) ?_ ReadyF.nil)
      rintro v wr1 ⟨he, hb⟩
      cases he
      have Hr2 := HKD.below hb
      clear hb
      refine ⟨Hr2, ?_⟩
      simp only [Act.put, sT, sS, sZ]
      refine rdy [3] (rcl (some 26) 130 #[.tmp 24, .tmp 25] #[36, 36] #[.agg Sq1, .agg A] enters40 _ (HMU1.out _) ?_ ReadyF.nil)
      rintro v wr3 ⟨he, hb⟩
      cases he
      have Hr4 := Hr2.below hb
      clear hb
      refine ⟨Hr4, ?_⟩
      simp only [Act.put, sT, sS, sZ]
      refine rdy [4] (ReadyF.last (.store 36 (.tmp 6) (.tmp 26)) rfl (fun o ho => exec_store_kn wr3 Hr4 (.tmp 6) (.tmp 26) ho (gP) rfl R IR rfl P IP (by simp)) ?_ ReadyF.nil)
      refine any_doneF (by kernel_rfl) ?_ _
      have HS8 : Kn w [(w.heap.size, A), (w.heap.size + 1, Z), (gP, R)] (wr3.setRow gP R) := Hr4.set gP R P (Hr4.get gP P (by simp)) (by omega) (fun p hp => by simp at hp; rcases hp with rfl | rfl | rfl <;> simp <;> omega)
      generalize wr3.setRow gP R = W8 at *
      go_wp2_with (first | (refine wpList_run rfl _ (exec_load_of _ 36 (.tmp 6) rfl ⟨gP, 0, none⟩ rfl (.agg R) ?L6) ?_) | (refine wpList_run0 rfl (exec_store_kn (w0 := w) (l := [(w.heap.size, A), (w.heap.size + 1, Z), (gP, R)]) _ ?S7 (.tmp 4) (.tmp 27) rfl (w.heap.size + 1) rfl R IR rfl Z IZ (by simp)) ?_))
      case L6 => exact HS8.load gP R (by simp) IR
      case S7 => exact HS8
      have HS9 : Kn w [(w.heap.size + 1, R)] (W8.setRow (w.heap.size + 1) R) := HS8.set (w.heap.size + 1) R Z (HS8.get (w.heap.size + 1) Z (by simp)) (by omega) (fun p hp => by simp at hp; subst hp; simp)
      exact bodyPost_ret (results_cell rfl _ _ _ ⟨w.heap.size + 1, 0, none⟩ rfl _ (HS9.load (w.heap.size + 1) R (by simp) IR)) rfl ⟨by rw [HOD2.out], HS9.1⟩
set_option maxRecDepth 100000 in
set_option maxHeartbeats 1000000 in
theorem ones_one (a : Nat) (w : World) :
    Calls Tryz.prog 167 #[.agg (num a), .int .i64 1] w fun e w' => e = .returned (.agg (num a)) ∧ Below w.heap.size w w' := by
  have HZ := zero_run
  have IZ := isNum 0
  obtain ⟨A, hA⟩ : ∃ A, Hid (A = num a) := ⟨_, Lib.hid rfl⟩
  have IA : IsNum A := by rw [hA.out]; exact isNum _
  have hz4 : ∀ W : World, Kn W [(W.heap.size, A), (W.heap.size + 1, (num 0))] ((W.alloc (.cells A 36)).alloc (.cells (num 0) 36)) := by
    intro W
    have h := ((Kn.nil W).new A).new (num 0)
    simp only [World.size_alloc] at h
    exact h.sub (fun p hp => by simp at hp ⊢; rcases hp with h | h <;> simp [h])
  have HS := Lib.hid (hz4 w)
  clear hz4
  rw [← hA.out]
  generalize num 0 = Z at *
  go_enter Tryz.func167, Tryz.ntmps167
  go_wp2_with (first | ((refine wpList_run rfl _ (exec_alloc_agg _ 36 rfl _ (HZ _)) ?_); try simp only [World.size_alloc]) | (refine wpList_run rfl _ (exec_load_of _ 36 (.tmp 2) rfl ⟨w.heap.size, 0, none⟩ rfl (.agg A) ?L2) ?_) | (refine wpList_run0 rfl (exec_store_kn (w0 := w) (l := [(w.heap.size, A), (w.heap.size + 1, Z)]) _ ?S4 (.tmp 4) (.tmp 9) rfl (w.heap.size + 1) rfl A IA rfl Z IZ (by simp)) ?_))
  case L2 => exact HS.out.load (w.heap.size) A (by simp) IA
  case S4 => exact HS.out
  have HS9 : Kn w [(w.heap.size + 1, A)] (((w.alloc (.cells A 36)).alloc (.cells Z 36)).setRow (w.heap.size + 1) A) := HS.out.set (w.heap.size + 1) A Z (HS.out.get (w.heap.size + 1) Z (by simp)) (by omega) (fun p hp => by simp at hp; subst hp; simp)
  exact bodyPost_ret (results_cell rfl _ _ _ ⟨w.heap.size + 1, 0, none⟩ rfl _ (HS9.load (w.heap.size + 1) A (by simp) IA)) rfl ⟨by rw [hA.out], HS9.1⟩
theorem ones_any (a n : Nat) (ha : a < 115792089237316195423570985008687907853269984665640564039457584007913129639936) (h1 : 0 < n) (hn : n ≤ 1000) : ∀ w, Calls Tryz.prog 167 #[.agg (num a), .int .i64 n] w fun e w' => e = .returned (.agg (num (onF a n))) ∧ Below w.heap.size w w' := by
  induction n using Nat.strongRecOn with
  | ind n ih =>
    intro w
    by_cases h : n = 1
    · subst h
      exact ones_one a w
    · exact ones_step a n (n / 2) ha hn (by omega) rfl (ih (n / 2) (by omega) (by omega) (by omega)) w
set_option maxRecDepth 100000 in
set_option maxHeartbeats 1000000 in
theorem inv_any (a : Nat) (ha : a < 115792089237316195423570985008687907853269984665640564039457584007913129639936) (w : World) :
    Calls Tryz.prog 133 #[.agg (num a)] w fun e w' => e = .returned (.agg (num (invF a))) ∧ Below w.heap.size w w' := by
  have l2 := onF_lt a 2 ha
  have l3 := sqF_lt a 3 ha
  have l250 := onF_lt a 250 ha
  have l5 := sqF_lt (onF a 250) 5 l250
  have HA3 := Lib.hid (squared_any a 3 ha (by decide))
  have HA2 := Lib.hid (ones_any a 2 ha (by decide) (by decide))
  have HA4 := Lib.hid (mulf_any (sqF a 3) (onF a 2) l3 l2)
  have HB1 := Lib.hid (ones_any a 250 ha (by decide) (by decide))
  have HB2 := Lib.hid (squared_any (onF a 250) 5 l250 (by decide))
  have HB4 := Lib.hid (mulf_any (sqF (onF a 250) 5) (mulF (sqF a 3) (onF a 2)) l5 (pp_lt (mulF_lt _ _)))
  rw [invF_eq] at HB4
  clear l2 l3 l250 l5 ha
  obtain ⟨A, hA⟩ : ∃ A, Hid (A = num a) := ⟨_, Lib.hid rfl⟩
  have IA : IsNum A := by rw [hA.out]; exact isNum _
  obtain ⟨S3, hS3⟩ : ∃ S3, Hid (S3 = num (sqF a 3)) := ⟨_, Lib.hid rfl⟩
  have IS3 : IsNum S3 := by rw [hS3.out]; exact isNum _
  obtain ⟨O2, hO2⟩ : ∃ O2, Hid (O2 = num (onF a 2)) := ⟨_, Lib.hid rfl⟩
  have IO2 : IsNum O2 := by rw [hO2.out]; exact isNum _
  obtain ⟨R1, hR1⟩ : ∃ R1, Hid (R1 = num (mulF (sqF a 3) (onF a 2))) := ⟨_, Lib.hid rfl⟩
  have IR1 : IsNum R1 := by rw [hR1.out]; exact isNum _
  obtain ⟨O250, hO250⟩ : ∃ O250, Hid (O250 = num (onF a 250)) := ⟨_, Lib.hid rfl⟩
  have IO250 : IsNum O250 := by rw [hO250.out]; exact isNum _
  obtain ⟨S5, hS5⟩ : ∃ S5, Hid (S5 = num (sqF (onF a 250) 5)) := ⟨_, Lib.hid rfl⟩
  have IS5 : IsNum S5 := by rw [hS5.out]; exact isNum _
  obtain ⟨R, hR⟩ : ∃ R, Hid (R = num (invF a)) := ⟨_, Lib.hid rfl⟩
  have IR : IsNum R := by rw [hR.out]; exact isNum _
  rw [← hA.out, ← hS3.out] at HA3
  rw [← hA.out, ← hO2.out] at HA2
  rw [← hS3.out, ← hO2.out, ← hR1.out] at HA4
  rw [← hA.out, ← hO250.out] at HB1
  rw [← hO250.out, ← hS5.out] at HB2
  rw [← hS5.out, ← hR1.out, ← hR.out] at HB4
  rw [← hA.out]
  clear hA hS3 hO2 hR1 hO250 hS5
  have HZ := zero_run
  have IZ := isNum 0
  have hz4 : ∀ W : World, Kn W [(W.heap.size, A), (W.heap.size + 1, (num 0))] ((W.alloc (.cells A 36)).alloc (.cells (num 0) 36)) := by
    intro W
    have h := ((Kn.nil W).new A).new (num 0)
    simp only [World.size_alloc] at h
    exact h.sub (fun p hp => by simp at hp ⊢; rcases hp with h | h <;> simp [h])
  have HS := Lib.hid (hz4 w)
  clear hz4
  generalize num 0 = Z at *
  go_enter Tryz.func133, Tryz.ntmps133
  go_wp2_with (((refine wpList_run rfl _ (exec_alloc_agg _ 36 rfl _ (HZ _)) ?_); try simp only [World.size_alloc]))
  simp only [Act.put, sT, sS, sZ]
  refine wp_cut (fun a' W => ∃ gP, a' = { tmps := #[.agg A, .pointer (some ⟨w.heap.size, 0, none⟩), .pointer (some ⟨w.heap.size + 1, 0, none⟩), .pointer (some ⟨gP, 0, none⟩), .agg A, .agg S3, .agg A, .agg O2, .agg R1, undef, undef, undef, undef, undef], defers := [] } ∧ Kn w [(w.heap.size, A), (w.heap.size + 1, Z), (gP, R1)] W ∧ w.heap.size + 1 < gP) ?_ ?_
  · refine wp_region_any (by kernel_rfl) ?_
    change wpAny _ _ _ _ _ _ _ (World.drew _)
    have HS3 := HS.out.drew
    generalize ((w.alloc (.cells A 36)).alloc (.cells Z 36)).drew = Wd at *
    refine any_of_F (S := Kn w [(w.heap.size, A), (w.heap.size + 1, Z)]) (f := 6) _ _ _ _ ?_
    refine tkL 0 (some 4) (.load 36 (.tmp 1)) (.agg A) (fun o ho w2 hw => exec_load_of _ 36 (.tmp 1) ho ⟨w.heap.size, 0, none⟩ rfl _ (hw.load (w.heap.size) A (by simp) IA)) HS3 ?_
    simp only [Act.put, sT, sS, sZ]
    refine tkL 2 (some 6) (.load 36 (.tmp 1)) (.agg A) (fun o ho w2 hw => exec_load_of _ 36 (.tmp 1) ho ⟨w.heap.size, 0, none⟩ rfl _ (hw.load (w.heap.size) A (by simp) IA)) HS3 ?_
    simp only [Act.put, sT, sS, sZ]
    refine rdy [1, 5] (rcl (some 5) 166 #[.tmp 4, .const (.int .i64 3)] #[36, 3] #[.agg A, .int .i64 3] enters67 _ (HA3.out _) ?_ (ral 3 36 HZ (HS3.alloc _) ?_ ReadyF.nil))
    · rintro v wq1 ⟨he, hb⟩
      cases he
      have Hq2 := HS3.below hb
      clear hb
      refine ⟨Hq2, ?_⟩
      simp only [Act.put, sT, sS, sZ]
      refine rdy [3, 5] (rcl (some 7) 167 #[.tmp 6, .const (.int .i64 2)] #[36, 3] #[.agg A, .int .i64 2] enters68 _ (HA2.out _) ?_ (ral 3 36 HZ (Hq2.alloc _) ?_ ReadyF.nil))
      · rintro v wq3 ⟨he, hb⟩
        cases he
        have Hq4 := Hq2.below hb
        clear hb
        refine ⟨Hq4, ?_⟩
        simp only [Act.put, sT, sS, sZ]
        refine rdy [4, 5] (rcl (some 8) 130 #[.tmp 5, .tmp 7] #[36, 36] #[.agg S3, .agg O2] enters40 _ (HA4.out _) ?_ (ral 3 36 HZ (Hq4.alloc _) ?_ ReadyF.nil))
        · rintro v wq5 ⟨he, hb⟩
          cases he
          have Hq6 := Hq4.below hb
          clear hb
          refine ⟨Hq6, ?_⟩
          simp only [Act.put, sT, sS, sZ]
          refine rdy [5] (ral 3 36 HZ (Hq6.alloc _) ?_ ReadyF.nil)
          have l0wq7 := Hq6.lt (w.heap.size) A (by simp)
          have l1wq7 := Hq6.lt (w.heap.size + 1) Z (by simp)
          have Hq8 := Hq6.alloc (.cells Z 36)
          have Eq9 := Hq6.new Z
          simp only [Act.put, sT, sS, sZ]
          obtain ⟨wq7, hwq7⟩ : ∃ W, W = wq5.alloc (.cells Z 36) := ⟨_, rfl⟩
          rw [← hwq7] at Hq8 Eq9 ⊢
          clear hwq7
          refine rdy [6] (ReadyF.last (.store 36 (.tmp 3) (.tmp 8)) rfl (fun o ho => exec_store_kn wq7 Eq9 (.tmp 3) (.tmp 8) ho (wq5.heap.size) rfl R1 IR1 rfl Z IZ (by simp)) ?_ ReadyF.nil)
          refine any_doneF (by kernel_rfl) ?_ _
          refine nrm_intro ⟨_, rfl, ?_, by omega⟩
          exact Eq9.set (wq5.heap.size) R1 Z (Eq9.get (wq5.heap.size) Z (by simp)) (by omega) (fun p hp => by simp at hp; rcases hp with rfl | rfl | rfl <;> simp <;> omega)
        · have l0wq10 := Hq4.lt (w.heap.size) A (by simp)
          have l1wq10 := Hq4.lt (w.heap.size + 1) Z (by simp)
          have Hq11 := Hq4.alloc (.cells Z 36)
          have Eq12 := Hq4.new Z
          simp only [Act.put, sT, sS, sZ]
          obtain ⟨wq10, hwq10⟩ : ∃ W, W = wq3.alloc (.cells Z 36) := ⟨_, rfl⟩
          rw [← hwq10] at Hq11 Eq12 ⊢
          clear hwq10
          refine rdy [4] (rcl (some 8) 130 #[.tmp 5, .tmp 7] #[36, 36] #[.agg S3, .agg O2] enters40 _ (HA4.out _) ?_ ReadyF.nil)
          rintro v wq13 ⟨he, hb⟩
          cases he
          have Hq14 := Hq11.below hb
          have Eq15 := Eq12.below hb
          clear hb
          refine ⟨Hq14, ?_⟩
          simp only [Act.put, sT, sS, sZ]
          refine rdy [6] (ReadyF.last (.store 36 (.tmp 3) (.tmp 8)) rfl (fun o ho => exec_store_kn wq13 Eq15 (.tmp 3) (.tmp 8) ho (wq3.heap.size) rfl R1 IR1 rfl Z IZ (by simp)) ?_ ReadyF.nil)
          refine any_doneF (by kernel_rfl) ?_ _
          refine nrm_intro ⟨_, rfl, ?_, by omega⟩
          exact Eq15.set (wq3.heap.size) R1 Z (Eq15.get (wq3.heap.size) Z (by simp)) (by omega) (fun p hp => by simp at hp; rcases hp with rfl | rfl | rfl <;> simp <;> omega)
      · have l0wq16 := Hq2.lt (w.heap.size) A (by simp)
        have l1wq16 := Hq2.lt (w.heap.size + 1) Z (by simp)
        have Hq17 := Hq2.alloc (.cells Z 36)
        have Eq18 := Hq2.new Z
        simp only [Act.put, sT, sS, sZ]
        obtain ⟨wq16, hwq16⟩ : ∃ W, W = wq1.alloc (.cells Z 36) := ⟨_, rfl⟩
        rw [← hwq16] at Hq17 Eq18 ⊢
        clear hwq16
        refine rdy [3] (rcl (some 7) 167 #[.tmp 6, .const (.int .i64 2)] #[36, 3] #[.agg A, .int .i64 2] enters68 _ (HA2.out _) ?_ ReadyF.nil)
        rintro v wq19 ⟨he, hb⟩
        cases he
        have Hq20 := Hq17.below hb
        have Eq21 := Eq18.below hb
        clear hb
        refine ⟨Hq20, ?_⟩
        simp only [Act.put, sT, sS, sZ]
        refine rdy [4] (rcl (some 8) 130 #[.tmp 5, .tmp 7] #[36, 36] #[.agg S3, .agg O2] enters40 _ (HA4.out _) ?_ ReadyF.nil)
        rintro v wq22 ⟨he, hb⟩
        cases he
        have Hq23 := Hq20.below hb
        have Eq24 := Eq21.below hb
        clear hb
        refine ⟨Hq23, ?_⟩
        simp only [Act.put, sT, sS, sZ]
        refine rdy [6] (ReadyF.last (.store 36 (.tmp 3) (.tmp 8)) rfl (fun o ho => exec_store_kn wq22 Eq24 (.tmp 3) (.tmp 8) ho (wq1.heap.size) rfl R1 IR1 rfl Z IZ (by simp)) ?_ ReadyF.nil)
        refine any_doneF (by kernel_rfl) ?_ _
        refine nrm_intro ⟨_, rfl, ?_, by omega⟩
        exact Eq24.set (wq1.heap.size) R1 Z (Eq24.get (wq1.heap.size) Z (by simp)) (by omega) (fun p hp => by simp at hp; rcases hp with rfl | rfl | rfl <;> simp <;> omega)
    · have l0wq25 := HS3.lt (w.heap.size) A (by simp)
      have l1wq25 := HS3.lt (w.heap.size + 1) Z (by simp)
      have Hq26 := HS3.alloc (.cells Z 36)
      have Eq27 := HS3.new Z
      simp only [Act.put, sT, sS, sZ]
      obtain ⟨wq25, hwq25⟩ : ∃ W, W = Wd.alloc (.cells Z 36) := ⟨_, rfl⟩
      rw [← hwq25] at Hq26 Eq27 ⊢
      clear hwq25
      refine rdy [1] (rcl (some 5) 166 #[.tmp 4, .const (.int .i64 3)] #[36, 3] #[.agg A, .int .i64 3] enters67 _ (HA3.out _) ?_ ReadyF.nil)
      rintro v wq28 ⟨he, hb⟩
      cases he
      have Hq29 := Hq26.below hb
      have Eq30 := Eq27.below hb
      clear hb
      refine ⟨Hq29, ?_⟩
      simp only [Act.put, sT, sS, sZ]
      refine rdy [3] (rcl (some 7) 167 #[.tmp 6, .const (.int .i64 2)] #[36, 3] #[.agg A, .int .i64 2] enters68 _ (HA2.out _) ?_ ReadyF.nil)
      rintro v wq31 ⟨he, hb⟩
      cases he
      have Hq32 := Hq29.below hb
      have Eq33 := Eq30.below hb
      clear hb
      refine ⟨Hq32, ?_⟩
      simp only [Act.put, sT, sS, sZ]
      refine rdy [4] (rcl (some 8) 130 #[.tmp 5, .tmp 7] #[36, 36] #[.agg S3, .agg O2] enters40 _ (HA4.out _) ?_ ReadyF.nil)
      rintro v wq34 ⟨he, hb⟩
      cases he
      have Hq35 := Hq32.below hb
      have Eq36 := Eq33.below hb
      clear hb
      refine ⟨Hq35, ?_⟩
      simp only [Act.put, sT, sS, sZ]
      refine rdy [6] (ReadyF.last (.store 36 (.tmp 3) (.tmp 8)) rfl (fun o ho => exec_store_kn wq34 Eq36 (.tmp 3) (.tmp 8) ho (Wd.heap.size) rfl R1 IR1 rfl Z IZ (by simp)) ?_ ReadyF.nil)
      refine any_doneF (by kernel_rfl) ?_ _
      refine nrm_intro ⟨_, rfl, ?_, by omega⟩
      exact Eq36.set (Wd.heap.size) R1 Z (Eq36.get (Wd.heap.size) Z (by simp)) (by omega) (fun p hp => by simp at hp; rcases hp with rfl | rfl | rfl <;> simp <;> omega)
  · rintro a' W5 ⟨gP, rfl, HKP, hgP⟩
    clear HS HA2 HA3 HA4
    go_wp2
    refine wp_region_any (by kernel_rfl) ?_
    change wpAny _ _ _ _ _ _ _ (World.drew _)
    have HKD := HKP.drew
    generalize W5.drew = Wd at *
    refine any_of_F (S := Kn w [(w.heap.size, A), (w.heap.size + 1, Z), (gP, R1)]) (f := 5) _ _ _ _ ?_
    refine tkL 0 (some 9) (.load 36 (.tmp 1)) (.agg A) (fun o ho w2 hw => exec_load_of _ 36 (.tmp 1) ho ⟨w.heap.size, 0, none⟩ rfl _ (hw.load (w.heap.size) A (by simp) IA)) HKD ?_
    simp only [Act.put, sT, sS, sZ]
    refine tkL 3 (some 12) (.load 36 (.tmp 3)) (.agg R1) (fun o ho w2 hw => exec_load_of _ 36 (.tmp 3) ho ⟨gP, 0, none⟩ rfl _ (hw.load (gP) R1 (by simp) IR1)) HKD ?_
    simp only [Act.put, sT, sS, sZ]
    refine rdy [1] (rcl (some 10) 167 #[.tmp 9, .const (.int .i64 250)] #[36, 3] #[.agg A, .int .i64 250] enters68 _ (HB1.out _) ?_ ReadyF.nil)
    rintro v wr1 ⟨he, hb⟩
    cases he
    have Hr2 := HKD.below hb
    clear hb
    refine ⟨Hr2, ?_⟩
    simp only [Act.put, sT, sS, sZ]
    refine rdy [2] (rcl (some 11) 166 #[.tmp 10, .const (.int .i64 5)] #[36, 3] #[.agg O250, .int .i64 5] enters67 _ (HB2.out _) ?_ ReadyF.nil)
    rintro v wr3 ⟨he, hb⟩
    cases he
    have Hr4 := Hr2.below hb
    clear hb
    refine ⟨Hr4, ?_⟩
    simp only [Act.put, sT, sS, sZ]
    refine rdy [4] (rcl (some 13) 130 #[.tmp 11, .tmp 12] #[36, 36] #[.agg S5, .agg R1] enters40 _ (HB4.out _) ?_ ReadyF.nil)
    rintro v wr5 ⟨he, hb⟩
    cases he
    have Hr6 := Hr4.below hb
    clear hb
    refine ⟨Hr6, ?_⟩
    simp only [Act.put, sT, sS, sZ]
    refine rdy [5] (ReadyF.last (.store 36 (.tmp 2) (.tmp 13)) rfl (fun o ho => exec_store_kn wr5 Hr6 (.tmp 2) (.tmp 13) ho (w.heap.size + 1) rfl R IR rfl Z IZ (by simp)) ?_ ReadyF.nil)
    refine any_doneF (by kernel_rfl) ?_ _
    have HS9 : Kn w [(w.heap.size + 1, R)] (wr5.setRow (w.heap.size + 1) R) := Hr6.set (w.heap.size + 1) R Z (Hr6.get (w.heap.size + 1) Z (by simp)) (by omega) (fun p hp => by simp at hp; subst hp; simp)
    generalize wr5.setRow (w.heap.size + 1) R = W8 at *
    go_wp2
    exact bodyPost_ret (results_cell rfl _ _ _ ⟨w.heap.size + 1, 0, none⟩ rfl _ (HS9.load (w.heap.size + 1) R (by simp) IR)) rfl ⟨by rw [hR.out], HS9.1⟩
open Go.RowKit
theorem eq_num (a b : Nat) (ha : a < 115792089237316195423570985008687907853269984665640564039457584007913129639936) (hb : b < 115792089237316195423570985008687907853269984665640564039457584007913129639936) (v : Bool) (hv : decide (a = b) = v) (w : World) : (Op.equalIn 10000 36 (.agg (num a)) (.agg (num b))).run Tryz.prog w = .ok v w := by
  rw [num_lit, num_lit, eq24]
  congr 1
  rw [← hv]
  by_cases e : a = b
  · subst e; simp
  · rw [decide_eq_false e]
    apply Bool.eq_false_iff.2
    intro hc
    simp at hc
    exact e (num_inj ha hb hc.1 hc.2.1 hc.2.2.1 hc.2.2.2)
def bytesV (l : List UInt8) : List Value := l.map fun b => .int .u8 (b.toNat : Int)
theorem bytesV_append (l m : List UInt8) : bytesV (l ++ m) = bytesV l ++ bytesV m := by simp [bytesV]
theorem bytesV_length (l : List UInt8) : (bytesV l).length = l.length := by simp [bytesV]
theorem info5 : (Tryz.prog.info? 5).map (fun i => (i.zero, i.size, i.bytes)) = some (some (.int .u8 0), 1, 1) := by kernel_rfl
theorem bytes_str {wr : World} {B : Nat} {v : Value} {n : Nat} {l : List UInt8} (hown : wr.ownsRow B 5 1 v n (bytesV l)) (hn : 0 < n) :
    ∃ g cap, v = .slice (some ⟨g, 0, none⟩) n cap ∧ (Go.convert 33 9 (.slice (some ⟨g, 0, none⟩) n cap)).run Tryz.prog wr = .ok (.string ⟨l.toArray⟩) wr := by
  have hl : l.length = n := by have := hown.1; rw [bytesV_length] at this; omega
  rcases hown.2 with ⟨_, h0⟩ | ⟨g, cap, cur, rfl, _⟩
  · omega
  · subst hl
    refine ⟨g, cap, rfl, run_convert_bytes_back wr 33 9 5 ⟨g, 0, none⟩ cap l Tryz.underlying33 Tryz.underlying5 Tryz.underlying9 (fun j hj => ?_)⟩
    rw [addr_add, Nat.zero_add, hown.cellAt j (by omega)]
    unfold bytesV
    rw [List.getElem?_map, List.getElem?_eq_getElem hj]
    rfl
end Go.Proofs.YtdajmekliodmcaaGreatDoor.P8
