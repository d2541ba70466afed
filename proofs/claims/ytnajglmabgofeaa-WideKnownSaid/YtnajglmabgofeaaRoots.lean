/- roots of package wide: the roots of the first eight or eighty primes; its table. -/
import Derived.Test.YtnajglmabgofeaaPRoot
import Derived.Test.YtnajglmabgofeaaRConsts
import Derived.Test.YtnajglmabgofeaaSha3
namespace Go.Proofs.Ytnajglmabgofeaa
open Go.RowKit
set_option linter.unusedVariables false
theorem qB_take : ∀ k, k < 411 → qB k = pL.take (qB k).length := by decide +kernel
theorem qB_last : (qB 410).length = 80 := by decide +kernel
theorem qB_two : qB 2 = [] := by decide +kernel
theorem qB_pr2 (k : Nat) (h1 : k < 410) (h2 : 2 ≤ k) : qB (k + 1) = if isPr k then qB k ++ [k] else qB k := qB_pr k h1 h2
theorem pL_lt : ∀ x ∈ pL, x < 18446744073709551616 := fun x hx => Nat.lt_trans (pL_pos x hx).2 (by decide)
set_option maxRecDepth 100000 in
set_option maxHeartbeats 2000000 in
theorem roots_any (F : Nat) (pw : Nat → Nat → Nat) (EG : ∀ args w, (callFunc F args).run Try.prog w = .ok (.enter F args) w)
    (HPW : ∀ a f : Nat, a < 18446744073709551616 → f < 18446744073709551616 → ∀ w : World, Calls Try.prog F #[.agg #[.int .u64 a, .int .u64 f]] w fun e w' => e = .returned (.int .u64 (pw a f)) ∧ Below w.heap.size w w')
    (n : Nat) (hn : n ≤ 80) (hok : ∀ p ∈ pL.take n, wholeOk pw p = true)
    (hmk : ∀ W : World, (Instr.makeSlice 25 (.int .i64 0) (.int .i64 n)).run Try.prog W = .ok (.slice (some ⟨W.heap.size, 0, none⟩) 0 n) (W.alloc (.cells (rowOf .u64 n (fun _ => 0)).toArray 27))) (w : World) :
    Calls Try.prog 12 #[.int .i64 n, .func (.func F) #[] #[]] w fun e w' => ∃ p c, e = .returned (.slice p n c) ∧ w'.ownsRow w.heap.size 27 1 (.slice p n c) n (numsV .u64 ((pL.take n).map (rootN pw))) ∧ Below w.heap.size w w' := by
  have HR := Lib.hid (fun p hp hk => root_any F pw EG HPW p hp hk)
  have HOK := Lib.hid hok
  have h0 : Hid ((w.alloc (.cells (rowOf .u64 n (fun _ => 0)).toArray 27)).ownsRow w.heap.size 27 1 (.slice (some ⟨w.heap.size, 0, none⟩) 0 n) 0 (numsV .u64 ((qB 2).map (rootN pw)))) := by
    unfold Hid
    rw [qB_two]
    exact ⟨rfl, Or.inr ⟨w.heap.size, n, _, rfl, Nat.le_refl _, heap_alloc_new _ _, Nat.zero_le _, by unfold maxLen; omega, by rw [rowOf_size]; omega, rfl⟩⟩
  obtain ⟨z, hz⟩ : ∃ z, Hid (z = (rowOf .u64 n (fun _ => 0)).toArray) := ⟨_, Lib.hid rfl⟩
  rw [← hz.out] at h0
  have hmk2 : ∀ W : World, (Instr.makeSlice 25 (.int .i64 0) (.int .i64 n)).run Try.prog W = .ok (.slice (some ⟨W.heap.size, 0, none⟩) 0 n) (W.alloc (.cells z 27)) := by rw [hz.out]; exact hmk
  clear hmk HPW EG hok
  go_enter Try.func12, Try.ntmps12
  go_wp2
  go_loopw [5, 6] (fun v kv wr => ∃ k m : Nat, ∃ p c, 2 ≤ k ∧ k ≤ 410 ∧ m ≤ n ∧ v = .slice p m c ∧ kv = .int .u64 k ∧ Hid (m = (qB k).length) ∧ wr.ownsRow w.heap.size 27 1 (.slice p m c) m (numsV .u64 ((qB k).map (rootN pw))) ∧ Below w.heap.size w wr) (fun _ kv _ => 410 - (intOf kv).toNat)
  case atStart => exact ⟨2, 0, _, _, by omega, by omega, by omega, rfl, rfl, Lib.hid (by rw [qB_two]; rfl), h0.out, (Below.refl _ w).alloc (Nat.le_refl _) _⟩
  case round =>
    clear h0 hmk2 hz
    obtain ⟨k, m, p, c, hk2, hk3, hmn, rfl, rfl, hm, hown, hb⟩ := hrel
    have HO := Lib.hid hown
    have HB := Lib.hid hb
    clear hown hb
    by_cases hlt : m < n
    · have hk4 : k < 410 := by
        rcases Nat.lt_or_ge k 410 with h | h
        · exact h
        · have e : k = 410 := by omega
          have := hm.out
          rw [e, qB_last] at this
          omega
      have HST := Lib.hid (qB_pr2 k hk4 hk2)
      cases hpr : isPr k with
      | true =>
        have HQ : Hid (qB (k + 1) = qB k ++ [k]) := by have h := HST.out; rw [hpr] at h; exact h
        have HNL : Hid (m + 1 = (qB (k + 1)).length) := by unfold Hid; rw [HQ.out, List.length_append, ← hm.out]; rfl
        have hkin : k ∈ pL.take n := by
          have h1 : k ∈ qB (k + 1) := by rw [HQ.out]; simp
          rw [qB_take (k + 1) (by omega), ← HNL.out] at h1
          have h2 : (pL.take n).take (m + 1) = pL.take (m + 1) := by rw [List.take_take, Nat.min_eq_left (by omega)]
          rw [← h2] at h1
          exact List.mem_of_mem_take h1
        have HC := Lib.hid (HR.out k (by omega) (HOK.out k hkin))
        obtain ⟨R, hR⟩ : ∃ R, Hid (R = rootN pw k) := ⟨_, Lib.hid rfl⟩
        rw [← hR.out] at HC
        have HP : Hid (∀ w : World, Calls Try.prog 23 #[.int .u64 k] w fun e w' => e = .returned (.bool true) ∧ w = w') := by
          have h := fun w => prime_any k (by omega) w
          rw [hpr] at h
          exact h
        clear hkin HST hpr
        go_wp2_with fail
        refine (HP.out _).mono ?_
        rintro e w' ⟨rfl, rfl⟩
        go_wp2_with fail
        refine (HC.out _).mono ?_
        rintro e w2 ⟨rfl, hb2⟩
        have hsz := HB.out.size
        have hb3 : Below w.heap.size w w2 := HB.out.trans (hb2.mono hsz)
        have hown2 := own_below HO.out hb2 (Nat.le_refl _)
        have hl : (numsV .u64 ((qB k).map (rootN pw))) = numsV .u64 ((qB k).map (rootN pw)) := rfl
        obtain ⟨p', c', W3, happ, hown', hbel⟩ := nums_app 25 27 .u64 8 (by decide) Try.underlying25 info27 hown2 hb3 hb3.size R (by omega)
        rw [hR.out, show (qB k).map (rootN pw) ++ [rootN pw k] = (qB (k + 1)).map (rootN pw) by rw [HQ.out, List.map_append]; rfl] at hown'
        have HAPP := Lib.hid happ
        have HO3 := Lib.hid hown'
        have HF := Lib.hid hbel
        clear happ hown' hbel hown2 hb3 hb2 hsz HO HB HP HC
        go_wp2_with (at_builtin; refine wpList_run rfl _ (HAPP.out _ _ (.tmp 17) (.tmp 21) rfl rfl rfl) ?_)
        go_roundw
        case rel => exact ⟨k + 1, m + 1, p', c', by omega, by omega, by omega, rfl, by go_num, HNL, HO3.out, HF.out⟩
        case measure => simp [intOf]; omega
      | false =>
        have HQ : Hid (qB (k + 1) = qB k) := by have h := HST.out; rw [hpr] at h; exact h
        have HNL : Hid (m = (qB (k + 1)).length) := by unfold Hid; rw [HQ.out]; exact hm.out
        have HO2 : Hid (wr.ownsRow w.heap.size 27 1 (.slice p m c) m (numsV .u64 ((qB (k + 1)).map (rootN pw)))) := by unfold Hid; rw [HQ.out]; exact HO.out
        have HP : Hid (∀ w : World, Calls Try.prog 23 #[.int .u64 k] w fun e w' => e = .returned (.bool false) ∧ w = w') := by
          have h := fun w => prime_any k (by omega) w
          rw [hpr] at h
          exact h
        clear HST hpr HO
        go_wp2_with fail
        refine (HP.out _).mono ?_
        rintro e w' ⟨rfl, rfl⟩
        go_wp2
        go_roundw
        case rel => exact ⟨k + 1, m, p, c, by omega, by omega, by omega, rfl, by go_num, HNL, HO2.out, HB.out⟩
        case measure => simp [intOf]; omega
    · obtain rfl : m = n := by omega
      have HT : Hid (qB k = pL.take m) := by unfold Hid; have h := qB_take k (by omega); rw [← hm.out] at h; exact h
      rw [HT.out] at HO
      clear HT hm
      go_wp2
      go_ret
      exact ⟨p, c, rfl, HO.out, HB.out⟩
theorem enters_cube : ∀ args w, (callFunc 22 args).run Try.prog w = .ok (.enter 22 args) w := enters_of Try.func22 (by kernel_rfl) rfl
theorem enters_square : ∀ args w, (callFunc 13 args).run Try.prog w = .ok (.enter 13 args) w := enters_of Try.func13 (by kernel_rfl) rfl
theorem make80 (W : World) : (Instr.makeSlice 25 (.int .i64 0) (.int .i64 80)).run Try.prog W = .ok (.slice (some ⟨W.heap.size, 0, none⟩) 0 80) (W.alloc (.cells (rowOf .u64 80 (fun _ => 0)).toArray 27)) := by kernel_rfl
theorem make8r (W : World) : (Instr.makeSlice 25 (.int .i64 0) (.int .i64 8)).run Try.prog W = .ok (.slice (some ⟨W.heap.size, 0, none⟩) 0 8) (W.alloc (.cells (rowOf .u64 8 (fun _ => 0)).toArray 27)) := by kernel_rfl
theorem roots_cube (w : World) : Calls Try.prog 12 #[.int .i64 80, .func (.func 22) #[] #[]] w fun e w' => ∃ p c, e = .returned (.slice p 80 c) ∧ w'.ownsRow w.heap.size 27 1 (.slice p 80 c) 80 (numsV .u64 kL) ∧ Below w.heap.size w w' := by
  have h := roots_any 22 cuN enters_cube (fun a f ha hf w => cube_any a f ha hf w) 80 (Nat.le_refl _) (fun p hp => List.all_eq_true.1 cu_whole p (List.mem_of_mem_take hp)) make80 w
  rw [List.take_of_length_le (by rw [pL_len]; exact Nat.le_refl _), cu_all] at h
  exact h
theorem roots_square (w : World) : Calls Try.prog 12 #[.int .i64 8, .func (.func 13) #[] #[]] w fun e w' => ∃ p c, e = .returned (.slice p 8 c) ∧ w'.ownsRow w.heap.size 27 1 (.slice p 8 c) 8 (rowOf .u64 8 h0.at) ∧ Below w.heap.size w w' := by
  have h := roots_any 13 sqN enters_square (fun a f ha hf w => square_any a f ha hf w) 8 (by decide) (fun p hp => List.all_eq_true.1 sq_whole p hp) make8r w
  rw [sq_all] at h
  exact h
theorem consts_any (w : World) : Calls Try.prog 9 #[] w fun e w' => ∃ p c, e = .returned (.slice p 80 c) ∧ w'.ownsRow w.heap.size 27 1 (.slice p 80 c) 80 (numsV .u64 kL) ∧ Below w.heap.size w w' := by
  have HR := Lib.hid (roots_cube w)
  go_enter Try.func9, Try.ntmps9
  go_wp2_with fail
  refine HR.out.mono ?_
  rintro e w1 ⟨p, c, rfl, ho, hb⟩
  have HO := Lib.hid ho
  have HB := Lib.hid hb
  clear ho hb HR
  go_wp2
  go_ret
  exact ⟨p, c, rfl, HO.out, HB.out⟩
end Go.Proofs.Ytnajglmabgofeaa
