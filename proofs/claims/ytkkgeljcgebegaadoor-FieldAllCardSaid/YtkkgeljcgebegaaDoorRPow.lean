/- Pow of the document: a power modulo the prime, bit by bit. No condition but that the numbers have 256 bits. -/
import Derived.Test.YtkkgeljcgebegaaDoorRMulF
namespace Go.Proofs.YtkkgeljcgebegaaDoor
open Go.RowKit Go.Shelf
set_option linter.unusedVariables false
set_option linter.unusedSimpArgs false
theorem enters18 : ∀ args w, (callFunc 18 args).run Tryd.prog w = .ok (.enter 18 args) w := enters_of Tryd.func18 (by kernel_rfl) rfl
theorem mod64_bit (x s : Nat) (hs : s < 64) : x % 18446744073709551616 / 2 ^ s % 2 = x / 2 ^ s % 2 := by
  rw [← Nat.toNat_testBit, ← Nat.toNat_testBit, show (18446744073709551616 : Nat) = 2 ^ 64 from rfl, Nat.testBit_mod_two_pow, decide_eq_true hs, Bool.true_and]
theorem dig_bit (n q : Nat) (hq : q < 256) : dig n (q / 64) / 2 ^ (q % 64) % 2 = n / 2 ^ q % 2 := by
  have hs : q % 64 < 64 := Nat.mod_lt _ (by decide)
  obtain ⟨s, hs2⟩ : ∃ s, s = q % 64 := ⟨_, rfl⟩
  rw [← hs2] at hs ⊢
  rcases (show q / 64 = 0 ∨ q / 64 = 1 ∨ q / 64 = 2 ∨ q / 64 = 3 by omega) with h | h | h | h <;> rw [h]
  · rw [dig_0, mod64_bit _ _ hs, show q = s by omega]
  · rw [dig_1, mod64_bit _ _ hs, Nat.div_div_eq_div_mul, show (18446744073709551616 : Nat) = 2 ^ 64 from rfl, ← Nat.pow_add, show q = 64 + s by omega]
  · rw [dig_2, mod64_bit _ _ hs, Nat.div_div_eq_div_mul, show (340282366920938463463374607431768211456 : Nat) = 2 ^ 128 from rfl, ← Nat.pow_add, show q = 128 + s by omega]
  · rw [dig_3, mod64_bit _ _ hs, Nat.div_div_eq_div_mul, show (6277101735386680763835789423207666416102355444464034512896 : Nat) = 2 ^ 192 from rfl, ← Nat.pow_add, show q = 192 + s by omega]
theorem pow_even (a n q : Nat) (h : n / 2 ^ q % 2 = 0) : mulF (powF a (n / 2 ^ (q + 1))) (powF a (n / 2 ^ (q + 1))) = powF a (n / 2 ^ q) := by
  rw [mulF_pow]
  congr 1
  rw [Nat.pow_succ, ← Nat.div_div_eq_div_mul]
  omega
theorem pow_odd (a n q : Nat) (h : n / 2 ^ q % 2 = 1) : mulF (mulF (powF a (n / 2 ^ (q + 1))) (powF a (n / 2 ^ (q + 1)))) a = powF a (n / 2 ^ q) := by
  rw [mulF_pow, ← mulF_modr, ← powF_one a, mulF_pow]
  congr 1
  rw [Nat.pow_succ, ← Nat.div_div_eq_div_mul]
  omega
theorem exec_quo64 {ρ : Operand → Value} {o : Oper} (x : Operand) (ho : o.op = .binOp .quo 3 x (.const (.int .i64 64)) 3) (hc : ρ (.const (.int .i64 64)) = .int .i64 64) (i j : Nat) (hi : i < 1000) (hx : ρ x = .int .i64 (i : Int)) (hj : j = i / 64) (w : World) : (execOp ρ o).run Tryd.prog w = .ok (.value (.int .i64 (j : Int))) w := by
  have hq : (i : Int).tdiv 64 = (j : Int) := by rw [Int.tdiv_eq_ediv_of_nonneg (by omega)]; omega
  have hq2 : (i : Int) / 64 = (j : Int) := by omega
  have hw : IntKind.i64.wrap (j : Int) = (j : Int) := IntWalk.i64_in _ (by omega)
  clear hj
  unfold execOp
  rw [ho]
  simp only [hx, hc]
  go_simp
theorem exec_rem64 {ρ : Operand → Value} {o : Oper} (x : Operand) (ho : o.op = .binOp .rem 3 x (.const (.int .i64 64)) 3) (hc : ρ (.const (.int .i64 64)) = .int .i64 64) (i j : Nat) (hi : i < 1000) (hx : ρ x = .int .i64 (i : Int)) (hj : j = i % 64) (w : World) : (execOp ρ o).run Tryd.prog w = .ok (.value (.int .i64 (j : Int))) w := by
  have hq : (i : Int).tmod 64 = (j : Int) := by rw [Int.tmod_eq_emod_of_nonneg (by omega)]; omega
  have hq2 : (i : Int) % 64 = (j : Int) := by omega
  have hw : IntKind.i64.wrap (j : Int) = (j : Int) := IntWalk.i64_in _ (by omega)
  clear hj
  unfold execOp
  rw [ho]
  simp only [hx, hc]
  go_simp
theorem and_one (d r : Nat) (hd : d < 18446744073709551616) (hr : r = d % 2) : bits .and .u64 (d : Int) 1 = (r : Int) := by
  have hb := bits_and_u64_nat d 1 hd (by decide)
  rw [show d &&& 1 = r by rw [Nat.and_one_is_mod, hr]] at hb
  exact hb
set_option maxRecDepth 100000 in
set_option maxHeartbeats 1000000 in
theorem rpow_any (a n : Nat) (ha : a < 115792089237316195423570985008687907853269984665640564039457584007913129639936) (hn : n < 115792089237316195423570985008687907853269984665640564039457584007913129639936) (w : World) :
    Calls Tryd.prog 27 #[.agg (num a), .agg (num n)] w fun e w' => e = .returned (.agg (num (powF a n))) ∧ Below w.heap.size w w' := by
  have H1 : Hid (∀ o W, o < pp → Calls Tryd.prog 18 #[.agg (num o), .agg (num o)] W fun e w' => e = .returned (.agg (num (mulF o o))) ∧ Below W.heap.size W w') := Lib.hid (fun o W h => rmulf_any o o (pp_lt h) (pp_lt h) W)
  have H2 : Hid (∀ o W, o < pp → Calls Tryd.prog 18 #[.agg (num o), .agg (num a)] W fun e w' => e = .returned (.agg (num (mulF o a))) ∧ Below W.heap.size W w') := Lib.hid (fun o W h => rmulf_any o a (pp_lt h) ha W)
  have HBIT := Lib.hid (fun q hq => dig_bit n q hq)
  have HDL := Lib.hid (dig_lt n)
  have h256 : powF a (n / 2 ^ 256) = 1 := by
    rw [show n / 2 ^ 256 = 0 from Nat.div_eq_of_lt hn]
    unfold powF
    rw [Nat.pow_zero]
    decide
  have hb1 := build_run 1 (by decide)
  have HZ := zero_run
  clear ha hn
  obtain ⟨A, hA⟩ : ∃ A, Hid (A = num a) := ⟨_, Lib.hid rfl⟩
  have IA : IsNum A := by rw [hA.out]; exact isNum _
  obtain ⟨B, hB⟩ : ∃ B, Hid (B = num n) := ⟨_, Lib.hid rfl⟩
  have IB : IsNum B := by rw [hB.out]; exact isNum _
  obtain ⟨T, hT⟩ : ∃ T, Hid (T = num (powF a n)) := ⟨_, Lib.hid rfl⟩
  have IT : IsNum T := by rw [hT.out]; exact isNum _
  obtain ⟨U1, hU1⟩ : ∃ U1, Hid (U1 = num 1) := ⟨_, Lib.hid rfl⟩
  have IU1 : IsNum U1 := by rw [hU1.out]; exact isNum _
  obtain ⟨Z, hZ⟩ : ∃ Z, Hid (Z = num 0) := ⟨_, Lib.hid rfl⟩
  have IZ : IsNum Z := by rw [hZ.out]; exact isNum _
  rw [← hU1.out] at hb1
  have HB1 := Lib.hid hb1
  have HZ2 : ∀ w, (zeroValue 24).run Tryd.prog w = .ok (.agg Z) w := by rw [hZ.out]; exact HZ
  have IZ2 := IZ.size
  rw [← hA.out] at H2
  rw [← hA.out, ← hB.out, ← hT.out]
  clear HZ hb1 hA hZ
  have hz4 : ∀ W : World, Kn W [(W.heap.size, A), (W.heap.size + 1, B), (W.heap.size + 1 + 1, Z)] (((W.alloc (.cells A 24)).alloc (.cells B 24)).alloc (.cells Z 24)) := by
    intro W
    have h := (((Kn.nil W).new A).new B).new Z
    simp only [World.size_alloc] at h
    exact h.sub (fun p hp => by simp at hp ⊢; rcases hp with h | h | h <;> simp [h])
  have HS := Lib.hid (hz4 w)
  clear hz4
  go_enter Tryd.func27, Tryd.ntmps27
  go_upto_region 1 with ((refine wpList_run rfl _ (exec_alloc_agg _ 24 rfl _ (HZ2 _)) ?_); try simp only [World.size_alloc])
  try simp only [Act.put, List.setIfInBounds_toArray, List.set_cons_succ, List.set_cons_zero]
  generalize ((w.alloc (.cells A 24)).alloc (.cells B 24)).alloc (.cells Z 24) = W0 at *
  have l5 := HS.out.lt (w.heap.size + 1 + 1) Z (by simp)
  have HS1_ : Kn w [(w.heap.size, A), (w.heap.size + 1, B), (w.heap.size + 1 + 1, Z), (W0.heap.size, U1)] (W0.alloc (.cells U1 24)) := (HS.out.new U1).sub (fun p hp => by simp at hp ⊢; rcases hp with h | h | h | h <;> simp [h])
  have HS1 := Lib.hid HS1_
  clear HS1_ HS
  go_upto_region 2 with (first | ((refine wpList_run rfl _ (exec_alloc_agg _ 24 rfl _ (HZ2 _)) ?_); try simp only [World.size_alloc]) | (refine wpList_run0 rfl (exec_new24 _ (.tmp 5) (.tmp 7) rfl _ _ rfl U1 IU1 rfl IZ2) ?_) | (refine wpList_run rfl _ (exec_build1 _ 24 0 (.const (.int .u64 1)) rfl (.int .u64 1) rfl _ (HB1.out _)) ?_))
  try simp only [Act.put, List.setIfInBounds_toArray, List.set_cons_succ, List.set_cons_zero]
  generalize W0.alloc (.cells U1 24) = W2 at *
  generalize W0.heap.size = g5 at *
  go_wp2
  go_loopw [6] (fun i wr => ∃ q : Nat, q ≤ 256 ∧ i = .int .i64 ((q : Int) - 1) ∧ Kn w [(w.heap.size, A), (w.heap.size + 1, B), (w.heap.size + 1 + 1, Z), (g5, num (powF a (n / 2 ^ q)))] wr) (fun i _ => (1 + intOf i).toNat)
  case atStart => exact ⟨256, by omega, rfl, by rw [h256, ← hU1.out]; exact HS1.out⟩
  case round =>
    clear HS1 HB1 hU1 h256
    obtain ⟨q, hq, rfl, HK0⟩ := hrel
    have HK := Lib.hid HK0
    clear HK0
    cases q with
    | zero =>
      rw [Nat.pow_zero, Nat.div_one, ← hT.out] at HK
      have hl := HK.out.load (g5) T (by simp) IT
      clear H1 H2 HBIT HDL hB hT
      go_wp2_with (first | (refine wpList_run rfl _ (exec_load_of _ 24 (.tmp 5) rfl ⟨g5, 0, none⟩ rfl (.agg T) hl) ?_) | (refine wpList_run0 rfl (exec_store_kn (w0 := w) (l := [(w.heap.size, A), (w.heap.size + 1, B), (w.heap.size + 1 + 1, Z), (g5, T)]) _ HK.out (.tmp 4) (.tmp 27) rfl (w.heap.size + 1 + 1) rfl T IT rfl Z IZ (by simp)) ?_))
      have HSZ : Kn w [(w.heap.size + 1 + 1, T)] (World.setRow _ (w.heap.size + 1 + 1) T) := HK.out.set (w.heap.size + 1 + 1) T Z (HK.out.get (w.heap.size + 1 + 1) Z (by simp)) (by omega) (fun p hp => by simp at hp; subst hp; simp)
      exact bodyPost_ret (results_cell rfl _ _ _ ⟨w.heap.size + 1 + 1, 0, none⟩ rfl _ (HSZ.load (w.heap.size + 1 + 1) T (by simp) IT)) rfl ⟨rfl, HSZ.1⟩
    | succ q =>
      have e1 : (((q + 1 : Nat) : Int) - 1) = (q : Int) := by omega
      rw [e1]
      have hpl := powF_lt a (n / 2 ^ (q + 1))
      have K1 := Lib.hid (fun W => H1.out (powF a (n / 2 ^ (q + 1))) W hpl)
      have K2 := Lib.hid (fun W => H2.out (mulF (powF a (n / 2 ^ (q + 1))) (powF a (n / 2 ^ (q + 1)))) W (mulF_lt _ _))
      have hev := fun h => Lib.hid (pow_even a n q h)
      have hod := fun h => Lib.hid (pow_odd a n q h)
      have hbit := HBIT.out q (by omega)
      obtain ⟨j, hj⟩ : ∃ j, Hid (j = q / 64) := ⟨_, Lib.hid rfl⟩
      obtain ⟨s, hs⟩ : ∃ s, Hid (s = q % 64) := ⟨_, Lib.hid rfl⟩
      have hs64 : s < 64 := by rw [hs.out]; omega
      have hj4 : j < 4 := by rw [hj.out]; omega
      have hj4I : (j : Int) < 4 := by omega
      rw [← hj.out, ← hs.out] at hbit
      obtain ⟨sh, hsh⟩ : ∃ sh, Hid (sh = dig n j / 2 ^ s) := ⟨_, Lib.hid rfl⟩
      rw [← hsh.out] at hbit
      have hshl : sh < 18446744073709551616 := by rw [hsh.out]; exact Nat.lt_of_le_of_lt (Nat.div_le_self _ _) (HDL.out j)
      have hqI : (0 : Int) ≤ (q : Int) := by omega
      have hq1 : q < 1000 := by omega
      have cB : Hid (∀ W : World, ∀ o, Kn w [(w.heap.size, A), (w.heap.size + 1, B), (w.heap.size + 1 + 1, Z), (g5, o)] W → W.cell? ⟨w.heap.size + 1, j, none⟩ = some (.int .u64 (dig n j : Int))) := Lib.hid (fun W o h => by rw [h.cell (w.heap.size + 1) B (by simp) j, hB.out, num_get n j hj4])
      obtain ⟨r, hr⟩ : ∃ r, Hid (r = sh % 2) := ⟨_, Lib.hid rfl⟩
      rw [← hr.out] at hbit
      obtain ⟨D, hD⟩ : ∃ D, D = dig n j := ⟨_, rfl⟩
      rw [← hD] at hsh cB
      clear hD HBIT HDL H1 H2 hB hT e1
      obtain ⟨O, hO⟩ : ∃ O, Hid (O = num (powF a (n / 2 ^ (q + 1)))) := ⟨_, Lib.hid rfl⟩
      obtain ⟨M2, hM2⟩ : ∃ M2, Hid (M2 = num (mulF (powF a (n / 2 ^ (q + 1))) (powF a (n / 2 ^ (q + 1))))) := ⟨_, Lib.hid rfl⟩
      obtain ⟨M3, hM3⟩ : ∃ M3, Hid (M3 = num (mulF (mulF (powF a (n / 2 ^ (q + 1))) (powF a (n / 2 ^ (q + 1)))) a)) := ⟨_, Lib.hid rfl⟩
      have IOo : IsNum O := by rw [hO.out]; exact isNum _
      have IM2 : IsNum M2 := by rw [hM2.out]; exact isNum _
      have IM3 : IsNum M3 := by rw [hM3.out]; exact isNum _
      rw [← hO.out, ← hM2.out] at K1
      rw [← hM2.out, ← hM3.out] at K2
      rw [← hO.out] at HK
      have FE : n / 2 ^ q % 2 = 0 → Hid (M2 = num (powF a (n / 2 ^ q))) := fun h => by unfold Hid; rw [hM2.out, (hev h).out]
      have FO : n / 2 ^ q % 2 = 1 → Hid (M3 = num (powF a (n / 2 ^ q))) := fun h => by unfold Hid; rw [hM3.out, (hod h).out]
      have hr2 : r < 2 := by rw [hr.out]; omega
      rw [← hbit] at FE FO
      clear hO hM2 hM3 hev hod hbit hpl
      have hl := HK.out.load (g5) O (by simp) IOo
      go_wp2_with (refine wpList_run rfl _ (exec_load_of _ 24 (.tmp 5) rfl ⟨g5, 0, none⟩ rfl (.agg O) hl) ?_)
      clear hl
      refine (K1.out _).mono ?_
      rintro e w1 ⟨rfl, hb⟩
      have HK1 := Lib.hid (HK.out.below hb)
      clear hb HK K1
      go_upto_region 6 with (first | (refine wpList_run0 rfl (exec_store_kn (w0 := w) (l := [(w.heap.size, A), (w.heap.size + 1, B), (w.heap.size + 1 + 1, Z), (g5, O)]) _ HK1.out (.tmp 5) (.tmp 14) rfl (g5) rfl M2 IM2 rfl O IOo (by simp)) ?_))
      try simp only [Act.put, List.setIfInBounds_toArray, List.set_cons_succ, List.set_cons_zero]
      have HS1 : Hid (Kn w [(w.heap.size, A), (w.heap.size + 1, B), (w.heap.size + 1 + 1, Z), (g5, M2)] (w1.setRow (g5) M2)) := Lib.hid (HK1.out.set (g5) M2 O (HK1.out.get (g5) O (by simp)) (by omega) (fun p hp => by simp at hp; rcases hp with rfl | rfl | rfl | rfl <;> simp <;> omega))
      clear HK1
      generalize w1.setRow (g5) M2 = W2 at *
      have cb := cB.out W2 M2 HS1.out
      clear cB
      have e1 : (D : Int) / 2 ^ s = (sh : Int) := by rw [shr_cast, hsh.out]
      have e2 : bits .and .u64 (sh : Int) 1 = (r : Int) := and_one sh r hshl hr.out
      have hs64I : (s : Int) < 64 := by omega
      by_cases hr1 : r = 1
      · have hF := FO hr1
        have e3 : ((r : Int) == 1) = true := by simp [hr1]
        clear FE FO hr1
        have hl := HS1.out.load (g5) M2 (by simp) IM2
        have hl2 := HS1.out.load (w.heap.size) A (by simp) IA
        go_wp2_with (first | (refine wpList_run rfl _ (exec_load_one _ 22 (.tmp 17) rfl ⟨w.heap.size + 1, j, none⟩ rfl _ cb _ Tryd.underlying22 rfl) ?_) | (refine wpList_run rfl _ (exec_quo64 (.tmp 15) rfl rfl q j hq1 rfl hj.out _) ?_) | (refine wpList_run rfl _ (exec_rem64 (.tmp 19) rfl rfl q s hq1 rfl hs.out _) ?_) | (refine wpList_run rfl _ (exec_load_of _ 24 (.tmp 5) rfl ⟨g5, 0, none⟩ rfl (.agg M2) hl) ?_) | (refine wpList_run rfl _ (exec_load_of _ 24 (.tmp 2) rfl ⟨w.heap.size, 0, none⟩ rfl (.agg A) hl2) ?_))
        clear hl hl2 cb
        refine (K2.out _).mono ?_
        rintro e w7 ⟨rfl, hb⟩
        have HK7 := Lib.hid (HS1.out.below hb)
        clear hb HS1 K2
        have HK8 : Hid (Kn w [(w.heap.size, A), (w.heap.size + 1, B), (w.heap.size + 1 + 1, Z), (g5, M3)] (w7.setRow (g5) M3)) := Lib.hid (HK7.out.set (g5) M3 M2 (HK7.out.get (g5) M2 (by simp)) (by omega) (fun p hp => by simp at hp; rcases hp with rfl | rfl | rfl | rfl <;> simp <;> omega))
        rw [hF.out] at HK8
        have hF2 : Hid (w7.setRow (g5) M3 = w7.setRow (g5) (num (powF a (n / 2 ^ q)))) := by unfold Hid; rw [hF.out]
        rw [← hF2.out] at HK8
        go_wp2_with (refine wpList_run0 rfl (exec_store_kn (w0 := w) (l := [(w.heap.size, A), (w.heap.size + 1, B), (w.heap.size + 1 + 1, Z), (g5, M2)]) _ HK7.out (.tmp 5) (.tmp 26) rfl (g5) rfl M3 IM3 rfl M2 IM2 (by simp)) ?_)
        go_roundw
        case rel => exact ⟨q, by omega, by first | rfl | simp | go_num, HK8.out⟩
        case measure => simp [intOf]; omega
      · have hF := FE (by omega)
        have e3 : ((r : Int) == 1) = false := by simp; omega
        rw [hF.out] at HS1
        clear FE FO hr1 K2
        go_wp2_with (first | (refine wpList_run rfl _ (exec_load_one _ 22 (.tmp 17) rfl ⟨w.heap.size + 1, j, none⟩ rfl _ cb _ Tryd.underlying22 rfl) ?_) | (refine wpList_run rfl _ (exec_quo64 (.tmp 15) rfl rfl q j hq1 rfl hj.out _) ?_) | (refine wpList_run rfl _ (exec_rem64 (.tmp 19) rfl rfl q s hq1 rfl hs.out _) ?_))
        go_roundw
        case rel => exact ⟨q, by omega, by first | rfl | simp | go_num, HS1.out⟩
        case measure => simp [intOf]; omega
end Go.Proofs.YtkkgeljcgebegaaDoor
