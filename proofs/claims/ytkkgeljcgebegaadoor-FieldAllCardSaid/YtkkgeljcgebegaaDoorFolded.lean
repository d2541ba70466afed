/- folded of package field: what stands above 256 bits comes back, modulo the prime. No condition but that the numbers have 256 and 64 bits. -/
import Derived.Test.YtkkgeljcgebegaaDoorNorm
namespace Go.Proofs.YtkkgeljcgebegaaDoor
open Go.RowKit Go.Shelf
set_option linter.unusedVariables false
/-- The number that a block holds. -/
def valO (o : Option Obj) : Nat := match o with
  | some (.cells A _ _) => valN (fun j => (intOf (A.getD j undef)).toNat)
  | _ => 0
theorem valO_num (n : Nat) (hn : n < 115792089237316195423570985008687907853269984665640564039457584007913129639936) (t : TypeId) (fr : Nat × Nat) : valO (some (.cells (num n) t fr)) = n := by
  have h : valO (some (.cells (num n) t fr)) = valN (dig n) := by
    unfold valO valN
    rfl
  rw [h, val_dig n hn]
set_option maxRecDepth 100000 in
set_option maxHeartbeats 1000000 in
theorem folded_any (N v : Nat) (hN : N < 115792089237316195423570985008687907853269984665640564039457584007913129639936) (hv : v < 18446744073709551616) (w : World) :
    Calls Tryd.prog 34 #[.agg (num N), .int .u64 v] w fun e w' => e = .returned (.agg (num ((N + v * 115792089237316195423570985008687907853269984665640564039457584007913129639936) % pp))) ∧ Below w.heap.size w w' := by
  have hpp : pp = 57896044618658097711785492504343953926634992332820282019728792003956564819949 := rfl
  have IN := isNum N
  have IZ := isNum 0
  have HZ := zero_run
  have HZS := Lib.hid (isNum 0).size
  have hb38 := build_run 38 (by decide)
  have HV := Lib.hid hv
  have HNN := Lib.hid hN
  obtain ⟨T, hT⟩ : ∃ T, Hid (T = (N + v * 115792089237316195423570985008687907853269984665640564039457584007913129639936) % pp) := ⟨_, Lib.hid rfl⟩
  rw [← hT.out]
  have hz4 : ∀ W : World, Kn W [(W.heap.size, num N), (W.heap.size + 1, num 0)] ((W.alloc (.cells (num N) 24)).alloc (.cells (num 0) 24)) := by
    intro W
    have h := ((Kn.nil W).new (num N)).new (num 0)
    rw [World.size_alloc] at h
    exact h.sub (fun p hp => by simp at hp ⊢; rcases hp with h | h <;> simp [h])
  have HS := hz4 w
  clear hz4 hv hN
  generalize num 0 = Z at *
  obtain ⟨A, hA⟩ : ∃ A, Hid (A = num N) := ⟨_, Lib.hid rfl⟩
  rw [← hA.out] at HS IN ⊢
  go_enter Tryd.func34, Tryd.ntmps34
  go_wp2_with (refine wpList_run rfl _ (exec_alloc_agg _ 24 rfl _ (HZ _)) ?_)
  simp only [Act.put, List.setIfInBounds_toArray, List.set_cons_succ, List.set_cons_zero, World.size_alloc]
  generalize (w.alloc (.cells A 24)).alloc (.cells Z 24) = W0 at *
  have HS' := Lib.hid HS
  clear HS
  go_loopw [1] (fun u wr => ∃ n x : Nat, u = .int .u64 x ∧ n < 115792089237316195423570985008687907853269984665640564039457584007913129639936 ∧ x < 18446744073709551616 ∧ (n + x * 115792089237316195423570985008687907853269984665640564039457584007913129639936) % pp = T ∧ Kn w [(w.heap.size, num n), (w.heap.size + 1, Z)] wr)
    (fun u wr => valO (wr.heap[w.heap.size]?) + (intOf u).toNat * 115792089237316195423570985008687907853269984665640564039457584007913129639936)
  case atStart => exact ⟨N, v, rfl, HNN.out, HV.out, hT.out.symm, by rw [← hA.out]; exact HS'.out⟩
  case round =>
    clear HS' HNN HV hT hA
    obtain ⟨n, x, rfl, hn, hx, hTT, HK⟩ := hrel
    have HTT := Lib.hid hTT
    have HG := Lib.hid (HK.get (w.heap.size) (num n) (by simp))
    by_cases h0 : x = 0
    · subst h0
      have HM := Lib.hid (norm_any n hn)
      rw [show n % pp = T by rw [← hTT, Nat.zero_mul, Nat.add_zero]] at HM
      have IT := isNum T
      have In := isNum n
      clear hTT hn hx
      generalize num n = An at *
      obtain ⟨AT, hAT⟩ : ∃ AT, Hid (AT = num T) := ⟨_, Lib.hid rfl⟩
      rw [← hAT.out] at HM IT
      go_wp2_with (refine wpList_run rfl _ (exec_load_of _ 24 (.tmp 2) rfl ⟨w.heap.size, 0, none⟩ rfl _ (HK.load (w.heap.size) An (by simp) In)) ?_)
      refine (HM.out _).mono ?_
      rintro e w5 ⟨rfl, hb⟩
      have HS5 := HK.below hb
      clear hb HK
      go_wp2_with (refine wpList_run0 rfl (exec_store_kn _ HS5 (.tmp 4) (.tmp 15) rfl (w.heap.size + 1) rfl AT IT rfl Z IZ (by simp)) ?_)
      have HS6 : Kn w [(w.heap.size + 1, AT)] (w5.setRow (w.heap.size + 1) AT) := HS5.set (w.heap.size + 1) AT Z (HS5.get (w.heap.size + 1) Z (by simp)) (by omega) (fun p hp => by simp at hp; subst hp; simp)
      exact bodyPost_ret (results_cell rfl _ _ _ ⟨w.heap.size + 1, 0, none⟩ rfl _ (HS6.load (w.heap.size + 1) AT (by simp) IT)) rfl ⟨by rw [hAT.out], HS6.1⟩
    · have hpos : (0 : Int) < x := by omega
      have HP := Lib.hid (plus_any n 38 x hn (by decide) hx)
      obtain ⟨S, hS⟩ : ∃ S, S = n + 38 * x := ⟨_, rfl⟩
      have hSl : S < 115792089237316195423570985008687907853269984665640564039457584007913129639936 * 18446744073709551616 := by omega
      have hn2 : S % 115792089237316195423570985008687907853269984665640564039457584007913129639936 < 115792089237316195423570985008687907853269984665640564039457584007913129639936 := Nat.mod_lt _ (by decide)
      have hx2 : S / 115792089237316195423570985008687907853269984665640564039457584007913129639936 < 18446744073709551616 := by omega
      have HT2 : Hid ((S % 115792089237316195423570985008687907853269984665640564039457584007913129639936 + S / 115792089237316195423570985008687907853269984665640564039457584007913129639936 * 115792089237316195423570985008687907853269984665640564039457584007913129639936) % pp = T) := by
        unfold Hid
        rw [Nat.mod_add_div', ← hTT, hS, show n + x * 115792089237316195423570985008687907853269984665640564039457584007913129639936 = n + 38 * x + pp * (2 * x) by rw [hpp]; omega, Nat.add_mul_mod_self_left]
      have HME : Hid (S % 115792089237316195423570985008687907853269984665640564039457584007913129639936 + S / 115792089237316195423570985008687907853269984665640564039457584007913129639936 * 115792089237316195423570985008687907853269984665640564039457584007913129639936 < n + x * 115792089237316195423570985008687907853269984665640564039457584007913129639936) := by
        unfold Hid
        rw [Nat.mod_add_div']
        omega
      rw [← hS] at HP
      have In := isNum n
      have In2 := isNum (S % 115792089237316195423570985008687907853269984665640564039457584007913129639936)
      have HN2 := Lib.hid hn2
      have HX2 := Lib.hid hx2
      have HNl := Lib.hid hn
      clear hTT hS hSl hn2 hx2 hn hx hpp
      generalize S % 115792089237316195423570985008687907853269984665640564039457584007913129639936 = n2 at *
      generalize S / 115792089237316195423570985008687907853269984665640564039457584007913129639936 = x2 at *
      go_wp2_with (first | (refine wpList_run rfl _ (exec_load_of _ 24 (.tmp 2) rfl ⟨w.heap.size, 0, none⟩ rfl _ (HK.load (w.heap.size) (num n) (by simp) In)) ?_) | (refine wpList_run rfl _ (exec_build1 _ 24 0 (.const (.int .u64 38)) rfl _ rfl _ (hb38 _)) ?_))
      refine (HP.out _).mono ?_
      rintro e w5 ⟨rfl, hb⟩
      have HS5 := HK.below hb
      clear hb HK
      go_wp2_with (refine wpList_run0 rfl (exec_store_kn _ HS5 (.tmp 2) (.tmp 12) rfl (w.heap.size) rfl (num n2) In2 rfl (num n) In (by simp)) ?_)
      have HS6 : Kn w [(w.heap.size, num n2), (w.heap.size + 1, Z)] (w5.setRow (w.heap.size) (num n2)) := HS5.set (w.heap.size) (num n2) (num n) (HS5.get (w.heap.size) (num n) (by simp)) (by omega) (fun p hp => by simp at hp; rcases hp with rfl | rfl <;> simp)
      clear HS5
      generalize w5.setRow (w.heap.size) (num n2) = w6 at *
      go_roundw
      case rel => exact ⟨n2, x2, rfl, HN2.out, HX2.out, HT2.out, HS6⟩
      case measure =>
        rw [HS6.get (w.heap.size) (num n2) (by simp), HG.out, valO_num n2 HN2.out, valO_num n HNl.out]
        exact HME.out
end Go.Proofs.YtkkgeljcgebegaaDoor
