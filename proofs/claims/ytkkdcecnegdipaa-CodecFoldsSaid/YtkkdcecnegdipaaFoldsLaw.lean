/- The law CodecFolds: what it asks is so, whatever it is given. -/
import Derived.Test.YtkkdcecnegdipaaRefA
namespace Go.Proofs.Ytkkdcecnegdipaa
open Go.RowKit Go.Shelf
set_option linter.unusedVariables false
attribute [local go_sem] Oper.semAt_some

theorem fold_length (l : List UInt8) (n : Nat) : (fold l n).length = n := by simp [fold]
theorem fold_get (l : List UInt8) (n i : Nat) (h : i < n) : ((fold l n)[i]'(by rw [fold_length]; exact h)).toNat = foldN n i l 0 := by
  have := foldN_lt n i l 0
  simp [fold, Nat.mod_eq_of_lt this]
theorem fold_fold (l : List UInt8) (n : Nat) : fold (fold l n) n = fold l n := by
  apply List.ext_getElem
  · rw [fold_length, fold_length]
  · intro i h1 h2
    have hi : i < n := by rw [fold_length] at h1; exact h1
    apply UInt8.toNat_inj.1
    rw [fold_get _ _ _ hi, fold_get _ _ _ hi]
    -- the one place that counts
    have key : ∀ (m : List UInt8) (s : Nat), m.length + s ≤ n → foldN n i m s = if h : s ≤ i ∧ i < s + m.length then (m[i - s]'(by omega)).toNat else 0 := by
      intro m
      induction m with
      | nil => intro s hs; simp [foldN]; omega
      | cons c m ih =>
        intro s hs
        simp only [List.length_cons] at hs
        show (if s % n = i then c.toNat else 0) ^^^ foldN n i m (s + 1) = _
        rw [ih (s + 1) (by omega), Nat.mod_eq_of_lt (by omega : s < n)]
        by_cases h : s = i
        · subst h
          rw [dif_neg (by omega)]
          simp
        · rw [if_neg h, Nat.zero_xor]
          by_cases h2 : s + 1 ≤ i ∧ i < s + 1 + m.length
          · rw [dif_pos h2, dif_pos (by simp; omega)]
            have : i - s = (i - (s + 1)) + 1 := by omega
            simp [this]
          · rw [dif_neg h2, dif_neg (by simp; omega)]
    rw [key (fold l n) 0 (by rw [fold_length]; omega), dif_pos (by rw [fold_length]; omega)]
    exact fold_get l n i hi

theorem exec_indexL {ρ : Operand → Value} {o : Oper} (x y : Operand) (ho : o.op = .index 9 x y) (l : List UInt8) (k : Nat) (hx : ρ x = .string ⟨l.toArray⟩) (hy : ρ y = .int .i64 (k : Int)) (hk : k < l.length) (w : World) : (execOp ρ o).run Try.prog w = .ok (.value (.int .u8 (l[k].toNat : Int))) w := by
  have hs : (⟨l.toArray⟩ : ByteArray).size = l.length := by show l.toArray.size = _; simp
  have h := exec_index9 x y ho ⟨l.toArray⟩ k hx hy (by rw [hs]; exact hk) w
  have e : ((⟨l.toArray⟩ : ByteArray)[k]'(by rw [hs]; exact hk)) = l[k] := by
    simp [ByteArray.getElem_eq_getElem_data]
  rw [e] at h
  exact h

set_option maxHeartbeats 1000000 in
theorem folds_small (s t : ByteArray) (k : Nat) (hk1 : 1 ≤ k) (hk2 : k ≤ 64) (n : Nat) (r : Nat) (hr64 : r < 64) (hmod : (n : Int) % 64 = (r : Int)) (hkr : k = 1 + r) (hn : n < 256) (hs : s.size ≤ 300) (ht : t.size ≤ 300) (w : World) : Calls Try.prog 3 #[.string s, .string t, .int .u8 (n : Int)] w fun e w2 => e = .returned (.bool true) ∧ Below w.heap.size w w2 := by
  have hcv : IntKind.i64.wrap (n : Int) = (n : Int) := by rw [IntKind.wrap_i64]; omega
  have hadd : IntKind.i64.wrap (1 + (r : Int)) = (k : Int) := by rw [IntKind.wrap_i64]; omega
  have hadd2 : (1 + (r : Int)) = (k : Int) := by omega
  have g1 : ¬ ((s.size : Int) > 300) := by omega
  have g2 : ¬ ((t.size : Int) > 300) := by omega
  obtain ⟨d, hd⟩ : ∃ d, d = s.size / k := ⟨_, rfl⟩
  obtain ⟨m, hm⟩ : ∃ m, m = d * k := ⟨_, rfl⟩
  have hms : m ≤ s.size := by rw [hm, hd]; exact Nat.div_mul_le_self _ _
  have hds : d ≤ s.size := by rw [hd]; exact Nat.div_le_self _ _
  have hq : (s.size : Int) / (k : Int) = (d : Int) := by rw [hd]; simp
  have hwd : wrap64 (d : Int) = (d : Int) := by unfold wrap64; omega
  have hmc : (d : Int) * (k : Int) = (m : Int) := by rw [hm]; simp
  have hwm : wrap64 (m : Int) = (m : Int) := by unfold wrap64; omega
  have hz : (s.extract 0 m).size = m := by rw [ByteArray.size_extract, Nat.min_eq_left hms, Nat.sub_zero]
  obtain ⟨S1, hS1⟩ : ∃ S1 : ByteArray, s.extract 0 m = S1 := ⟨s.extract 0 m, Eq.refl _⟩
  have hS1z : S1.size = m := by rw [← hS1]; exact hz
  clear hz
  have hk0 : ¬ ((k : Int) = 0) := by omega
  obtain ⟨FA, hFA⟩ : ∃ FA, FA = fold S1.data.toList k := ⟨_, rfl⟩
  obtain ⟨FB, hFB⟩ : ∃ FB, FB = fold t.data.toList k := ⟨_, rfl⟩
  obtain ⟨FC, hFC⟩ : ∃ FC, FC = fold (S1 ++ t).data.toList k := ⟨_, rfl⟩
  have lA : FA.length = k := by rw [hFA]; exact fold_length _ _
  have lB : FB.length = k := by rw [hFB]; exact fold_length _ _
  have lC : FC.length = k := by rw [hFC]; exact fold_length _ _
  have hxor : ∀ i (h : i < k), (FC[i]'(by rw [lC]; exact h)).toNat = (FA[i]'(by rw [lA]; exact h)).toNat ^^^ (FB[i]'(by rw [lB]; exact h)).toNat := by
    intro i h
    subst hFA hFB hFC
    rw [fold_get _ _ _ h, fold_get _ _ _ h, fold_get _ _ _ h, show (S1 ++ t).data.toList = S1.data.toList ++ t.data.toList by simp, fold_two]
    have : S1.data.toList.length = m := by rw [← hS1z]; simp
    rw [this, hm]
    exact Nat.mul_mod_left d k
  have zA : S1.size ≤ 549755813888 := by rw [hS1z]; exact Nat.le_trans hms (Nat.le_trans hs (by decide))
  have zB : t.size ≤ 549755813888 := Nat.le_trans ht (by decide)
  have zC : (S1 ++ t).size ≤ 549755813888 := by rw [ByteArray.size_append, hS1z]; exact Nat.le_trans (Nat.add_le_add (Nat.le_trans hms hs) ht) (by decide)
  have CA : ∀ w, Calls Try.prog 7 #[.string S1, .int .i64 (k : Int)] w fun e w2 => e = .returned (.string ⟨FA.toArray⟩) ∧ Below w.heap.size w w2 := fun w => by
    have h := fold_in S1 k hk1 hk2 w zA
    rwa [← hFA] at h
  have CB : ∀ w, Calls Try.prog 7 #[.string t, .int .i64 (k : Int)] w fun e w2 => e = .returned (.string ⟨FB.toArray⟩) ∧ Below w.heap.size w w2 := fun w => by
    have h := fold_in t k hk1 hk2 w zB
    rwa [← hFB] at h
  have CC : ∀ w, Calls Try.prog 7 #[.string (S1 ++ t), .int .i64 (k : Int)] w fun e w2 => e = .returned (.string ⟨FC.toArray⟩) ∧ Below w.heap.size w w2 := fun w => by
    have h := fold_in (S1 ++ t) k hk1 hk2 w zC
    rwa [← hFC] at h
  have CD : ∀ w, Calls Try.prog 7 #[.string ⟨FA.toArray⟩, .int .i64 (k : Int)] w fun e w2 => e = .returned (.string ⟨FA.toArray⟩) ∧ Below w.heap.size w w2 := fun w => by
    have := fold_in ⟨FA.toArray⟩ k hk1 hk2 w (by show FA.toArray.size ≤ _; rw [List.size_toArray, lA]; exact Nat.le_trans hk2 (by decide))
    have e : fold (⟨FA.toArray⟩ : ByteArray).data.toList k = FA := by rw [show (⟨FA.toArray⟩ : ByteArray).data.toList = FA from rfl, hFA, fold_fold]
    rwa [e] at this
  have CE : ∀ w, Calls Try.prog 7 #[.string S1, .int .i64 0] w fun e w2 => e = .returned (.string ⟨#[]⟩) ∧ Below w.heap.size w w2 := fun w => by
    have h := fold_any S1 0 w zA
    have e : foldI S1.data.toList 0 = [] := by unfold foldI; rw [if_neg (by decide)]
    rwa [e] at h
  have CF : ∀ w, Calls Try.prog 7 #[.string S1, .int .i64 65] w fun e w2 => e = .returned (.string ⟨#[]⟩) ∧ Below w.heap.size w w2 := fun w => by
    have h := fold_any S1 65 w zA
    have e : foldI S1.data.toList 65 = [] := by unfold foldI; rw [if_neg (by decide)]
    rwa [e] at h
  have hcs : ¬ 9223372036854775807 < S1.size + t.size := by rw [hS1z]; exact Nat.not_lt.2 (Nat.le_trans (Nat.add_le_add (Nat.le_trans hms hs) ht) (by decide))
  have hqW : wrap64 ((s.size : Int) / (k : Int)) = (d : Int) := by rw [hq]; exact hwd
  have hmW : wrap64 ((d : Int) * (k : Int)) = (m : Int) := by rw [hmc]; exact hwm
  have HX := Lib.hid hxor
  have HA := Lib.hid lA
  have HB := Lib.hid lB
  have HC := Lib.hid lC
  clear hd hm hFA hFB hFC hxor hkr hS1z zA zB zC hq hmc hwd hwm
  refine (callsIn_wide (n := 5)).1 ?_
  refine callsIn_of_wp Try.func3 rfl trivial ?_ rfl
  simp only [Try.ntmps3, List.size_toArray, List.length_cons, List.length_nil, Nat.reduceAdd, Nat.reduceSub, Array.replicate_succ, Array.replicate_zero, List.push_toArray, List.append_toArray, List.nil_append, List.cons_append]
  have bb : Below w.heap.size w w := Below.refl _ w
  gi_wp2_with (first
    | (refine ⟨trivial, ?_⟩; gi_at_call 7; refine (callsIn_wide.2 (CA _)).mono ?_; clear CA; rintro e w1 ⟨rfl, b1⟩; replace bb := below_then bb b1; clear b1)
    | (refine ⟨trivial, ?_⟩; gi_at_call 7; refine (callsIn_wide.2 (CB _)).mono ?_; clear CB; rintro e w1 ⟨rfl, b1⟩; replace bb := below_then bb b1; clear b1)
    | (refine ⟨trivial, ?_⟩; gi_at_call 7; refine (callsIn_wide.2 (CC _)).mono ?_; clear CC; rintro e w1 ⟨rfl, b1⟩; replace bb := below_then bb b1; clear b1))
  gi_loopw [11] (fun v wr => ∃ i : Nat, v = .int .i64 i ∧ i ≤ k ∧ Below w.heap.size w wr)
    (fun v _ => k - (intOf v).toNat)
  case atStart => exact ⟨0, rfl, Nat.zero_le _, bb⟩
  case round =>
    obtain ⟨i, rfl, hi, hB⟩ := hrel
    by_cases hlt : i < k
    · have hA2 := HA.out
      have hB2 := HB.out
      have hC2 := HC.out
      obtain ⟨a, ha⟩ : ∃ a, a = (FA[i]'(by rw [hA2]; exact hlt)).toNat := ⟨_, rfl⟩
      obtain ⟨b, hb⟩ : ∃ b, b = (FB[i]'(by rw [hB2]; exact hlt)).toNat := ⟨_, rfl⟩
      obtain ⟨c, hc⟩ : ∃ c, c = (FC[i]'(by rw [hC2]; exact hlt)).toNat := ⟨_, rfl⟩
      have hx : c = a ^^^ b := by rw [ha, hb, hc]; exact HX.out i hlt
      have ha8 : a < 256 := by rw [ha]; exact UInt8.toNat_lt _
      have hb8 : b < 256 := by rw [hb]; exact UInt8.toNat_lt _
      have HB3 := Lib.hid hB
      clear hB
      gi_wp2
      rename_i K2 hK2
      refine wpIn_mono (Q := onlyK K2) ?_ (fun e a w h => by cases e <;> first | exact h | exact h.elim)
      refine wpIn_region_any (by kernel_rfl) ?_
      change wpAnyIn _ _ _ _ _ _ _ _ _ (World.drew _)
      refine anyIn_of_G (T := fun i => i < 11) (S := fun i w => True) _ _ _ _ ?_
      refine AnyG.take 0 (some 65) (.move (.tmp 10)) (.string ⟨FC.toArray⟩) rfl rfl (fun _ e => by cases e) (by kernel_rfl) (by kernel_rfl) (by kernel_rfl) (by kernel_rfl) rfl (fun _ _ _ h => h) (fun o ho w hw => by unfold execOp; rw [ho]; go_simp) trivial ?_
      simp only [Act.put, List.setIfInBounds_toArray, List.set_cons_succ, List.set_cons_zero]
      refine AnyG.take 1 (some 66) (.move (.tmp 11)) (.int .i64 (i : Int)) rfl rfl (fun _ e => by cases e) (by kernel_rfl) (by kernel_rfl) (by kernel_rfl) (by kernel_rfl) rfl (fun _ _ _ h => h) (fun o ho w hw => by unfold execOp; rw [ho]; go_simp) trivial ?_
      simp only [Act.put, List.setIfInBounds_toArray, List.set_cons_succ, List.set_cons_zero]
      refine AnyG.take 2 (some 67) (.index 9 (.tmp 65) (.tmp 66)) (.int .u8 (c : Int)) rfl rfl (fun _ e => by cases e) (by kernel_rfl) (by kernel_rfl) (by kernel_rfl) (by kernel_rfl) rfl (fun _ _ _ h => h) (fun o ho w hw => by rw [hc]; exact exec_indexL (.tmp 65) (.tmp 66) ho FC i rfl rfl (by rw [hC2]; exact hlt) w) trivial ?_
      simp only [Act.put, List.setIfInBounds_toArray, List.set_cons_succ, List.set_cons_zero]
      refine AnyG.take 3 (some 68) (.move (.tmp 8)) (.string ⟨FA.toArray⟩) rfl rfl (fun _ e => by cases e) (by kernel_rfl) (by kernel_rfl) (by kernel_rfl) (by kernel_rfl) rfl (fun _ _ _ h => h) (fun o ho w hw => by unfold execOp; rw [ho]; go_simp) trivial ?_
      simp only [Act.put, List.setIfInBounds_toArray, List.set_cons_succ, List.set_cons_zero]
      refine AnyG.take 4 (some 69) (.move (.tmp 11)) (.int .i64 (i : Int)) rfl rfl (fun _ e => by cases e) (by kernel_rfl) (by kernel_rfl) (by kernel_rfl) (by kernel_rfl) rfl (fun _ _ _ h => h) (fun o ho w hw => by unfold execOp; rw [ho]; go_simp) trivial ?_
      simp only [Act.put, List.setIfInBounds_toArray, List.set_cons_succ, List.set_cons_zero]
      refine AnyG.take 5 (some 70) (.index 9 (.tmp 68) (.tmp 69)) (.int .u8 (a : Int)) rfl rfl (fun _ e => by cases e) (by kernel_rfl) (by kernel_rfl) (by kernel_rfl) (by kernel_rfl) rfl (fun _ _ _ h => h) (fun o ho w hw => by rw [ha]; exact exec_indexL (.tmp 68) (.tmp 69) ho FA i rfl rfl (by rw [hA2]; exact hlt) w) trivial ?_
      simp only [Act.put, List.setIfInBounds_toArray, List.set_cons_succ, List.set_cons_zero]
      refine AnyG.take 6 (some 71) (.move (.tmp 9)) (.string ⟨FB.toArray⟩) rfl rfl (fun _ e => by cases e) (by kernel_rfl) (by kernel_rfl) (by kernel_rfl) (by kernel_rfl) rfl (fun _ _ _ h => h) (fun o ho w hw => by unfold execOp; rw [ho]; go_simp) trivial ?_
      simp only [Act.put, List.setIfInBounds_toArray, List.set_cons_succ, List.set_cons_zero]
      refine AnyG.take 7 (some 72) (.move (.tmp 11)) (.int .i64 (i : Int)) rfl rfl (fun _ e => by cases e) (by kernel_rfl) (by kernel_rfl) (by kernel_rfl) (by kernel_rfl) rfl (fun _ _ _ h => h) (fun o ho w hw => by unfold execOp; rw [ho]; go_simp) trivial ?_
      simp only [Act.put, List.setIfInBounds_toArray, List.set_cons_succ, List.set_cons_zero]
      refine AnyG.take 8 (some 73) (.index 9 (.tmp 71) (.tmp 72)) (.int .u8 (b : Int)) rfl rfl (fun _ e => by cases e) (by kernel_rfl) (by kernel_rfl) (by kernel_rfl) (by kernel_rfl) rfl (fun _ _ _ h => h) (fun o ho w hw => by rw [hb]; exact exec_indexL (.tmp 71) (.tmp 72) ho FB i rfl rfl (by rw [hB2]; exact hlt) w) trivial ?_
      simp only [Act.put, List.setIfInBounds_toArray, List.set_cons_succ, List.set_cons_zero]
      refine AnyG.take 9 (some 74) (.binOp .xor 5 (.tmp 70) (.tmp 73) 5) (.int .u8 (c : Int)) rfl rfl (fun _ e => by cases e) (by kernel_rfl) (by kernel_rfl) (by kernel_rfl) (by kernel_rfl) rfl (fun _ _ _ h => h) (fun o ho w hw => by rw [hx]; exact exec_xor5 (.tmp 70) (.tmp 73) ho a b rfl rfl ha8 hb8 w) trivial ?_
      simp only [Act.put, List.setIfInBounds_toArray, List.set_cons_succ, List.set_cons_zero]
      refine AnyG.take 10 (some 75) (.binOp .neq 5 (.tmp 67) (.tmp 74) 5) (.bool false) rfl rfl (fun _ e => by cases e) (by kernel_rfl) (by kernel_rfl) (by kernel_rfl) (by kernel_rfl) rfl (fun _ _ _ h => h) (fun o ho w hw => by unfold execOp; rw [ho]; go_simp) trivial ?_
      simp only [Act.put, List.setIfInBounds_toArray, List.set_cons_succ, List.set_cons_zero]
      refine AnyG.done (by kernel_rfl) ?_ _
      show K2 _ _
      refine hK2 _ _ ?_
      clear hK2 ha hb hc hx
      gi_wp2
      go_roundw
      case rel => exact ⟨i + 1, by simp, by omega, HB3.out.drew⟩
      case measure => simp [intOf]; omega
    · have hie : i = k := by omega
      have bb2 := hB
      clear hB
      subst hie
      gi_wp2_with (first
        | (refine ⟨trivial, ?_⟩; gi_at_call 7; refine (callsIn_wide.2 (CD _)).mono ?_; clear CD; rintro e w1 ⟨rfl, b1⟩; replace bb2 := bb2.trans (b1.mono bb2.size); clear b1)
        | (refine ⟨trivial, ?_⟩; gi_at_call 7; refine (callsIn_wide.2 (CE _)).mono ?_; clear CE; rintro e w1 ⟨rfl, b1⟩; replace bb2 := bb2.trans (b1.mono bb2.size); clear b1)
        | (refine ⟨trivial, ?_⟩; gi_at_call 7; refine (callsIn_wide.2 (CF _)).mono ?_; clear CF; rintro e w1 ⟨rfl, b1⟩; replace bb2 := bb2.trans (b1.mono bb2.size); clear b1)
        | (refine ⟨trivial, ?_⟩; gi_at_call 6; refine (callsIn_wide.2 (awake_ok _)).mono ?_; rintro e w1 ⟨rfl, b1⟩; replace bb2 := bb2.trans (b1.mono bb2.size); clear b1))
      go_ret
      exact ⟨rfl, bb2⟩

set_option maxHeartbeats 1000000 in
theorem folds_law (s t : ByteArray) (hs0 : s.size ≤ 9223372036854775807) (ht0 : t.size ≤ 9223372036854775807) (n : Nat) (hn : n < 256) (w : World) : Calls Try.prog 3 #[.string s, .string t, .int .u8 (n : Int)] w fun e w2 => e = .returned (.bool true) ∧ Below w.heap.size w w2 := by
  obtain ⟨r, hr⟩ : ∃ r, r = n % 64 := ⟨_, rfl⟩
  have hr64 : r < 64 := by omega
  have hmod : (n : Int) % 64 = (r : Int) := by omega
  have hcv : IntKind.i64.wrap (n : Int) = (n : Int) := by rw [IntKind.wrap_i64]; omega
  have hadd : IntKind.i64.wrap (1 + (r : Int)) = 1 + (r : Int) := by rw [IntKind.wrap_i64]; omega
  by_cases h1 : s.size > 300
  · have g1 : (s.size : Int) > 300 := by omega
    clear hr
    go_enter Try.func3, Try.ntmps3
    go_wp2_with (go_at_call 6; refine (awake_ok w).mono ?_; rintro e w1 ⟨rfl, b1⟩)
    go_ret
    exact ⟨rfl, b1⟩
  · by_cases h2 : t.size > 300
    · have g1 : ¬ (s.size : Int) > 300 := by omega
      have g2 : (t.size : Int) > 300 := by omega
      clear hr
      go_enter Try.func3, Try.ntmps3
      go_wp2_with (go_at_call 6; refine (awake_ok w).mono ?_; rintro e w1 ⟨rfl, b1⟩)
      go_ret
      exact ⟨rfl, b1⟩
    · exact folds_small s t (1 + r) (by omega) (by omega) n r hr64 hmod rfl hn (by omega) (by omega) w
end Go.Proofs.Ytkkdcecnegdipaa
