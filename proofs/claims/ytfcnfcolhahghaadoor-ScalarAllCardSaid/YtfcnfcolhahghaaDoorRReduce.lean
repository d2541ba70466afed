/- Reduce and modulo of the document: the number of a text's first 64 bytes, modulo the order. No condition but that the text is no longer than any may be. -/
import Derived.Test.YtfcnfcolhahghaaDoorReduced
namespace Go.Proofs.YtfcnfcolhahghaaDoor
open Go.RowKit Go.Shelf
set_option linter.unusedVariables false
set_option linter.unusedSimpArgs false
theorem enters23 : ∀ args w, (callFunc 23 args).run Tryd.prog w = .ok (.enter 23 args) w := enters_of Tryd.func23 (by kernel_rfl) rfl
theorem enters11 : ∀ args w, (callFunc 11 args).run Tryd.prog w = .ok (.enter 11 args) w := enters_of Tryd.func11 (by kernel_rfl) rfl
theorem enters28 : ∀ args w, (callFunc 28 args).run Tryd.prog w = .ok (.enter 28 args) w := enters_of Tryd.func28 (by kernel_rfl) rfl
theorem bit_step (V i : Nat) : (2 * (V / 2 ^ (i + 1) % LL) + V / 2 ^ i % 2) % LL = V / 2 ^ i % LL := by
  have h := bit_up V i
  generalize V / 2 ^ (i + 1) = x at *
  generalize V / 2 ^ i % 2 = b at *
  rw [← h, Nat.add_mod, Nat.mul_mod, Nat.mod_mod, ← Nat.mul_mod, ← Nat.add_mod]
set_option maxRecDepth 100000 in
set_option maxHeartbeats 1000000 in
theorem rreduce_any (s : ByteArray) (hs : s.size ≤ 9223372036854775807) (w : World) :
    Calls Tryd.prog 11 #[.string s] w fun e w' => e = .returned (.agg (num (reduceL s.data.toList))) ∧ Below w.heap.size w w' := by
  obtain ⟨m, hm⟩ : ∃ m, m = min s.size 64 := ⟨_, rfl⟩
  obtain ⟨V, hV⟩ : ∃ V, V = leVal (s.data.toList.take 64) := ⟨_, rfl⟩
  have hlen : (s.data.toList.take 64).length = m := by rw [List.length_take]; show min 64 s.size = m; omega
  have hV0 : V / 2 ^ (8 * m) = 0 := by
    have h := leVal_lt (s.data.toList.take 64)
    rw [hlen, ← hV, show (256 : Nat) = 2 ^ 8 from rfl, ← Nat.pow_mul] at h
    exact Nat.div_eq_of_lt h
  have HBIT : Hid (∀ i j : Nat, i + 1 ≤ 8 * m → j = i / 8 → ∀ h : j < s.size, s[j].toNat / 2 ^ (i % 8) % 2 = V / 2 ^ i % 2) := by
    refine Lib.hid (fun i j hi hj h => ?_)
    rw [hV, ← le_bit]
    have hg : (s.data.toList.take 64).getD (i / 8) 0 = s[j] := by
      rw [← hj, List.getD_eq_getElem?_getD, List.getElem?_eq_getElem (by omega), List.getElem_take]
      rfl
    rw [hg]
  have hR0 : reduceL s.data.toList = V % LL := by rw [hV]; rfl
  rw [hR0]
  have hm64 : m ≤ 64 := by omega
  obtain ⟨R, hR⟩ : ∃ R, Hid (R = num (V % LL)) := ⟨_, Lib.hid rfl⟩
  have IR : IsNum R := by rw [hR.out]; exact isNum _
  have HZ := zero_run
  obtain ⟨Z, hZ⟩ : ∃ Z, Hid (Z = num 0) := ⟨_, Lib.hid rfl⟩
  have IZ : IsNum Z := by rw [hZ.out]; exact isNum _
  have IZ2 := IZ.size
  have HZ2 : ∀ w, (zeroValue 24).run Tryd.prog w = .ok (.agg Z) w := by rw [hZ.out]; exact HZ
  clear HZ
  have HS : Hid (Kn w [(w.heap.size, Z), (w.heap.size + 1, num (V / 2 ^ (8 * m) % LL))] ((w.alloc (.cells Z 24)).alloc (.cells Z 24))) := by
    have h := ((Kn.nil w).new Z).new Z
    simp only [World.size_alloc] at h
    rw [hV0, show 0 % LL = 0 from Nat.zero_mod _, ← hZ.out]
    exact Lib.hid (h.sub (fun p hp => by simp at hp ⊢; rcases hp with h | h <;> simp [h]))
  rw [← hR.out]
  clear hV hlen hV0 hR0 hZ
  by_cases hle : s.size ≤ 64
  · have hms : m = s.size := by omega
    have hsI : (s.size : Int) ≤ 64 := by omega
    have hm0 : m ≤ s.size := by omega
    clear hm
    go_enter Tryd.func11, Tryd.ntmps11
    go_wp2_with ((refine wpList_run rfl _ (exec_alloc_agg _ 24 rfl _ (HZ2 _)) ?_); try simp only [World.size_alloc])
    try simp only [Act.put, List.setIfInBounds_toArray, List.set_cons_succ, List.set_cons_zero]
    generalize (w.alloc (.cells Z 24)).alloc (.cells Z 24) = W0 at *
    go_loopw [4] (fun x wr => ∃ u : Nat, u ≤ 8 * m ∧ x = .int .i64 ((u : Int) - 1) ∧ Kn w [(w.heap.size, Z), (w.heap.size + 1, num (V / 2 ^ u % LL))] wr) (fun x _ => (1 + intOf x).toNat)
    case atStart => exact ⟨8 * m, Nat.le_refl _, congrArg (Value.int IntKind.i64) (by omega), HS.out⟩
    case round =>
      clear HS
      obtain ⟨u, hu, rfl, hK0⟩ := hrel
      have HK := Lib.hid hK0
      clear hK0
      cases u with
      | zero =>
        have hR0 : num (V / 2 ^ 0 % LL) = R := by rw [Nat.pow_zero, Nat.div_one]; exact hR.out.symm
        rw [hR0] at HK
        have hl6 := HK.out.load (w.heap.size + 1) R (by simp) IR
        rw [show ((0 : Nat) : Int) - 1 = (-1 : Int) from rfl]
        clear hR0 HBIT hu
        go_wp2_with (first | (refine wpList_run rfl _ (exec_load_of _ 24 (.tmp 3) rfl ⟨w.heap.size + 1, 0, none⟩ rfl (.agg R) hl6) ?_) | (refine wpList_run0 rfl (exec_store_kn (w0 := w) (l := [(w.heap.size, Z), (w.heap.size + 1, R)]) _ HK.out (.tmp 2) (.tmp 25) rfl (w.heap.size) rfl R IR rfl Z IZ (by simp)) ?_))
        have HSZ : Kn w [(w.heap.size, R)] (World.setRow _ (w.heap.size) R) := HK.out.set (w.heap.size) R Z (HK.out.get (w.heap.size) Z (by simp)) (by omega) (fun p hp => by simp at hp; subst hp; simp)
        exact bodyPost_ret (results_cell rfl _ _ _ ⟨w.heap.size, 0, none⟩ rfl _ (HSZ.load (w.heap.size) R (by simp) IR)) rfl ⟨rfl, HSZ.1⟩
      | succ i =>
        obtain ⟨j, hj0⟩ : ∃ j, j = i / 8 := ⟨_, rfl⟩
        obtain ⟨q, hq0⟩ : ∃ q, q = i % 8 := ⟨_, rfl⟩
        have hjs : j < s.size := by omega
        have hq8 : q < 8 := by omega
        have hi1 : i < 1000 := by omega
        obtain ⟨c, hc0⟩ : ∃ c, c = s[j].toNat := ⟨_, rfl⟩
        have hc256 : c < 256 := by rw [hc0]; exact UInt8.toNat_lt _
        obtain ⟨y, hy0⟩ : ∃ y, y = c / 2 ^ q := ⟨_, rfl⟩
        have hy256 : y < 256 := by rw [hy0]; exact Nat.lt_of_le_of_lt (Nat.div_le_self _ _) hc256
        obtain ⟨r, hr0⟩ : ∃ r, r = y % 2 := ⟨_, rfl⟩
        have hr2 : r < 2 := by omega
        have hr256 : r < 256 := by omega
        have hrv : r = V / 2 ^ i % 2 := by rw [hr0, hy0, hc0, hq0]; exact HBIT.out i j hu hj0 hjs
        have HR0 := reduced_any (V / 2 ^ (i + 1) % LL) r (Nat.mod_lt _ LL_pos) hr2
        rw [hrv, bit_step, ← hrv] at HR0
        have HR := Lib.hid HR0
        obtain ⟨N0, hN0⟩ : ∃ N0, Hid (N0 = num (V / 2 ^ (i + 1) % LL)) := ⟨_, Lib.hid rfl⟩
        have IN0 : IsNum N0 := by rw [hN0.out]; exact isNum _
        obtain ⟨N1, hN1⟩ : ∃ N1, Hid (N1 = num (V / 2 ^ i % LL)) := ⟨_, Lib.hid rfl⟩
        have IN1 : IsNum N1 := by rw [hN1.out]; exact isNum _
        rw [← hN0.out] at HK HR
        rw [← hN1.out] at HR
        have hj := Lib.hid hj0
        have hq := Lib.hid hq0
        have hc := Lib.hid hc0
        have hy := Lib.hid hy0
        have hr := Lib.hid hr0
        rw [show ((i + 1 : Nat) : Int) - 1 = (i : Int) by omega]
        clear hj0 hq0 hc0 hy0 hr0 hrv HR0 HBIT
        go_wp2
        refine wp_region_any (by kernel_rfl) ?_
        change wpAny _ _ _ _ _ _ _ (World.drew _)
        have HD := HK.out.drew
        clear HK
        generalize wr.drew = Wd at *
        refine any_of_F (S := Kn w [(w.heap.size, Z), (w.heap.size + 1, N0)]) (f := 11) _ _ _ _ ?_
        refine AnyF.take 0 (some 14) (.load 24 (.tmp 3)) (.agg N0) rfl (by kernel_rfl) (by kernel_rfl) (by kernel_rfl) (fun _ _ _ h => h) rfl (by kernel_rfl) (fun o ho w2 hw => exec_load_of _ 24 (.tmp 3) ho ⟨w.heap.size + 1, 0, none⟩ rfl _ (hw.load (w.heap.size + 1) N0 (by simp) IN0)) HD ?_
        simp only [Act.put, List.setIfInBounds_toArray, List.set_cons_succ, List.set_cons_zero]
        refine AnyF.take 1 (some 15) (.move (.tmp 0)) (.string s) rfl (by kernel_rfl) (by kernel_rfl) (by kernel_rfl) (fun _ _ _ h => h) rfl (by kernel_rfl) (fun o ho w2 hw => exec_move (.tmp 0) ho _ rfl w2) HD ?_
        simp only [Act.put, List.setIfInBounds_toArray, List.set_cons_succ, List.set_cons_zero]
        refine AnyF.take 2 (some 16) (.move (.tmp 4)) (.int .i64 (i : Int)) rfl (by kernel_rfl) (by kernel_rfl) (by kernel_rfl) (fun _ _ _ h => h) rfl (by kernel_rfl) (fun o ho w2 hw => exec_move (.tmp 4) ho _ rfl w2) HD ?_
        simp only [Act.put, List.setIfInBounds_toArray, List.set_cons_succ, List.set_cons_zero]
        refine AnyF.take 3 (some 17) (.binOp .quo 3 (.tmp 16) (.const (.int .i64 8)) 3) (.int .i64 (j : Int)) rfl (by kernel_rfl) (by kernel_rfl) (by kernel_rfl) (fun _ _ _ h => h) rfl (by kernel_rfl) (fun o ho w2 hw => exec_quo8 (.tmp 16) ho rfl i j hi1 rfl hj.out w2) HD ?_
        simp only [Act.put, List.setIfInBounds_toArray, List.set_cons_succ, List.set_cons_zero]
        refine AnyF.take 4 (some 18) (.index 9 (.tmp 15) (.tmp 17)) (.int .u8 (c : Int)) rfl (by kernel_rfl) (by kernel_rfl) (by kernel_rfl) (fun _ _ _ h => h) rfl (by kernel_rfl) (fun o ho w2 hw => exec_index_str (.tmp 15) (.tmp 17) ho s j hjs rfl rfl c hc.out w2) HD ?_
        simp only [Act.put, List.setIfInBounds_toArray, List.set_cons_succ, List.set_cons_zero]
        refine AnyF.take 5 (some 19) (.move (.tmp 4)) (.int .i64 (i : Int)) rfl (by kernel_rfl) (by kernel_rfl) (by kernel_rfl) (fun _ _ _ h => h) rfl (by kernel_rfl) (fun o ho w2 hw => exec_move (.tmp 4) ho _ rfl w2) HD ?_
        simp only [Act.put, List.setIfInBounds_toArray, List.set_cons_succ, List.set_cons_zero]
        refine AnyF.take 6 (some 20) (.binOp .rem 3 (.tmp 19) (.const (.int .i64 8)) 3) (.int .i64 (q : Int)) rfl (by kernel_rfl) (by kernel_rfl) (by kernel_rfl) (fun _ _ _ h => h) rfl (by kernel_rfl) (fun o ho w2 hw => exec_rem8 (.tmp 19) ho rfl i q hi1 rfl hq.out w2) HD ?_
        simp only [Act.put, List.setIfInBounds_toArray, List.set_cons_succ, List.set_cons_zero]
        refine AnyF.take 7 (some 21) (.binOp .shr 5 (.tmp 18) (.tmp 20) 3) (.int .u8 (y : Int)) rfl (by kernel_rfl) (by kernel_rfl) (by kernel_rfl) (fun _ _ _ h => h) rfl (by kernel_rfl) (fun o ho w2 hw => exec_shr5 (.tmp 18) (.tmp 20) ho c q hq8 rfl rfl y hy.out w2) HD ?_
        simp only [Act.put, List.setIfInBounds_toArray, List.set_cons_succ, List.set_cons_zero]
        refine AnyF.take 8 (some 22) (.binOp .and 5 (.tmp 21) (.const (.int .u8 1)) 5) (.int .u8 (r : Int)) rfl (by kernel_rfl) (by kernel_rfl) (by kernel_rfl) (fun _ _ _ h => h) rfl (by kernel_rfl) (fun o ho w2 hw => exec_and5 (.tmp 21) ho rfl y r hy256 rfl hr.out w2) HD ?_
        simp only [Act.put, List.setIfInBounds_toArray, List.set_cons_succ, List.set_cons_zero]
        refine AnyF.take 9 (some 23) (.convert 5 22 (.tmp 22)) (.int .u64 (r : Int)) rfl (by kernel_rfl) (by kernel_rfl) (by kernel_rfl) (fun _ _ _ h => h) rfl (by kernel_rfl) (fun o ho w2 hw => exec_conv64 (.tmp 22) ho r hr256 rfl w2) HD ?_
        simp only [Act.put, List.setIfInBounds_toArray, List.set_cons_succ, List.set_cons_zero]
        refine AnyF.ready (rs := [10]) (by kernel_rfl) (by simp) (ReadyF.call (some 24) 23 #[.tmp 14, .tmp 23] #[24, 22] rfl #[.agg N0, .int .u64 (r : Int)] (by simp [Act.eval]) enters23 _ (HR.out _) ?_ (fun c w' h => by cases h.1) (fun w' h => by cases h.1) ReadyF.nil)
        rintro v wq1 ⟨he, hb⟩
        cases he
        have Hq2 := HD.below hb
        clear hb
        refine ⟨Hq2, ?_⟩
        simp only [Act.put, List.setIfInBounds_toArray, List.set_cons_succ, List.set_cons_zero]
        refine AnyF.ready (rs := [11]) (by kernel_rfl) (by simp) (ReadyF.last (.store 24 (.tmp 3) (.tmp 24)) rfl (fun o ho => exec_store_kn wq1 Hq2 (.tmp 3) (.tmp 24) ho (w.heap.size + 1) rfl N1 IN1 rfl N0 IN0 (by simp)) ?_ ReadyF.nil)
        refine any_doneF (by kernel_rfl) ?_ _
        have HN : Kn w [(w.heap.size, Z), (w.heap.size + 1, N1)] (wq1.setRow (w.heap.size + 1) N1) := Hq2.set (w.heap.size + 1) N1 N0 (Hq2.get (w.heap.size + 1) N0 (by simp)) (by omega) (fun p hp => by simp at hp; rcases hp with rfl | rfl <;> first | exact .inl rfl | exact .inr ⟨by simp, by simp only; omega⟩)
        rw [hN1.out] at HN
        have HN := Lib.hid HN
        rw [hN1.out]
        generalize wq1.setRow (w.heap.size + 1) (num (V / 2 ^ i % LL)) = W9 at *
        go_wp2
        go_roundw
        case rel => exact ⟨i, by omega, rfl, HN.out⟩
        case measure => simp [intOf]; omega
  · have hms : m = 64 := by omega
    have hsI : (64 : Int) ≤ (s.size : Int) := by omega
    have hsI2 : (64 : Int) < (s.size : Int) := by omega
    have hm0 : m ≤ s.size := by omega
    clear hm
    go_enter Tryd.func11, Tryd.ntmps11
    go_wp2_with ((refine wpList_run rfl _ (exec_alloc_agg _ 24 rfl _ (HZ2 _)) ?_); try simp only [World.size_alloc])
    try simp only [Act.put, List.setIfInBounds_toArray, List.set_cons_succ, List.set_cons_zero]
    generalize (w.alloc (.cells Z 24)).alloc (.cells Z 24) = W0 at *
    go_loopw [4] (fun x wr => ∃ u : Nat, u ≤ 8 * m ∧ x = .int .i64 ((u : Int) - 1) ∧ Kn w [(w.heap.size, Z), (w.heap.size + 1, num (V / 2 ^ u % LL))] wr) (fun x _ => (1 + intOf x).toNat)
    case atStart => exact ⟨8 * m, Nat.le_refl _, congrArg (Value.int IntKind.i64) (by omega), HS.out⟩
    case round =>
      clear HS
      obtain ⟨u, hu, rfl, hK0⟩ := hrel
      have HK := Lib.hid hK0
      clear hK0
      cases u with
      | zero =>
        have hR0 : num (V / 2 ^ 0 % LL) = R := by rw [Nat.pow_zero, Nat.div_one]; exact hR.out.symm
        rw [hR0] at HK
        have hl6 := HK.out.load (w.heap.size + 1) R (by simp) IR
        rw [show ((0 : Nat) : Int) - 1 = (-1 : Int) from rfl]
        clear hR0 HBIT hu
        go_wp2_with (first | (refine wpList_run rfl _ (exec_load_of _ 24 (.tmp 3) rfl ⟨w.heap.size + 1, 0, none⟩ rfl (.agg R) hl6) ?_) | (refine wpList_run0 rfl (exec_store_kn (w0 := w) (l := [(w.heap.size, Z), (w.heap.size + 1, R)]) _ HK.out (.tmp 2) (.tmp 25) rfl (w.heap.size) rfl R IR rfl Z IZ (by simp)) ?_))
        have HSZ : Kn w [(w.heap.size, R)] (World.setRow _ (w.heap.size) R) := HK.out.set (w.heap.size) R Z (HK.out.get (w.heap.size) Z (by simp)) (by omega) (fun p hp => by simp at hp; subst hp; simp)
        exact bodyPost_ret (results_cell rfl _ _ _ ⟨w.heap.size, 0, none⟩ rfl _ (HSZ.load (w.heap.size) R (by simp) IR)) rfl ⟨rfl, HSZ.1⟩
      | succ i =>
        obtain ⟨j, hj0⟩ : ∃ j, j = i / 8 := ⟨_, rfl⟩
        obtain ⟨q, hq0⟩ : ∃ q, q = i % 8 := ⟨_, rfl⟩
        have hjs : j < s.size := by omega
        have hq8 : q < 8 := by omega
        have hi1 : i < 1000 := by omega
        obtain ⟨c, hc0⟩ : ∃ c, c = s[j].toNat := ⟨_, rfl⟩
        have hc256 : c < 256 := by rw [hc0]; exact UInt8.toNat_lt _
        obtain ⟨y, hy0⟩ : ∃ y, y = c / 2 ^ q := ⟨_, rfl⟩
        have hy256 : y < 256 := by rw [hy0]; exact Nat.lt_of_le_of_lt (Nat.div_le_self _ _) hc256
        obtain ⟨r, hr0⟩ : ∃ r, r = y % 2 := ⟨_, rfl⟩
        have hr2 : r < 2 := by omega
        have hr256 : r < 256 := by omega
        have hrv : r = V / 2 ^ i % 2 := by rw [hr0, hy0, hc0, hq0]; exact HBIT.out i j hu hj0 hjs
        have HR0 := reduced_any (V / 2 ^ (i + 1) % LL) r (Nat.mod_lt _ LL_pos) hr2
        rw [hrv, bit_step, ← hrv] at HR0
        have HR := Lib.hid HR0
        obtain ⟨N0, hN0⟩ : ∃ N0, Hid (N0 = num (V / 2 ^ (i + 1) % LL)) := ⟨_, Lib.hid rfl⟩
        have IN0 : IsNum N0 := by rw [hN0.out]; exact isNum _
        obtain ⟨N1, hN1⟩ : ∃ N1, Hid (N1 = num (V / 2 ^ i % LL)) := ⟨_, Lib.hid rfl⟩
        have IN1 : IsNum N1 := by rw [hN1.out]; exact isNum _
        rw [← hN0.out] at HK HR
        rw [← hN1.out] at HR
        have hj := Lib.hid hj0
        have hq := Lib.hid hq0
        have hc := Lib.hid hc0
        have hy := Lib.hid hy0
        have hr := Lib.hid hr0
        rw [show ((i + 1 : Nat) : Int) - 1 = (i : Int) by omega]
        clear hj0 hq0 hc0 hy0 hr0 hrv HR0 HBIT
        go_wp2
        refine wp_region_any (by kernel_rfl) ?_
        change wpAny _ _ _ _ _ _ _ (World.drew _)
        have HD := HK.out.drew
        clear HK
        generalize wr.drew = Wd at *
        refine any_of_F (S := Kn w [(w.heap.size, Z), (w.heap.size + 1, N0)]) (f := 11) _ _ _ _ ?_
        refine AnyF.take 0 (some 14) (.load 24 (.tmp 3)) (.agg N0) rfl (by kernel_rfl) (by kernel_rfl) (by kernel_rfl) (fun _ _ _ h => h) rfl (by kernel_rfl) (fun o ho w2 hw => exec_load_of _ 24 (.tmp 3) ho ⟨w.heap.size + 1, 0, none⟩ rfl _ (hw.load (w.heap.size + 1) N0 (by simp) IN0)) HD ?_
        simp only [Act.put, List.setIfInBounds_toArray, List.set_cons_succ, List.set_cons_zero]
        refine AnyF.take 1 (some 15) (.move (.tmp 0)) (.string s) rfl (by kernel_rfl) (by kernel_rfl) (by kernel_rfl) (fun _ _ _ h => h) rfl (by kernel_rfl) (fun o ho w2 hw => exec_move (.tmp 0) ho _ rfl w2) HD ?_
        simp only [Act.put, List.setIfInBounds_toArray, List.set_cons_succ, List.set_cons_zero]
        refine AnyF.take 2 (some 16) (.move (.tmp 4)) (.int .i64 (i : Int)) rfl (by kernel_rfl) (by kernel_rfl) (by kernel_rfl) (fun _ _ _ h => h) rfl (by kernel_rfl) (fun o ho w2 hw => exec_move (.tmp 4) ho _ rfl w2) HD ?_
        simp only [Act.put, List.setIfInBounds_toArray, List.set_cons_succ, List.set_cons_zero]
        refine AnyF.take 3 (some 17) (.binOp .quo 3 (.tmp 16) (.const (.int .i64 8)) 3) (.int .i64 (j : Int)) rfl (by kernel_rfl) (by kernel_rfl) (by kernel_rfl) (fun _ _ _ h => h) rfl (by kernel_rfl) (fun o ho w2 hw => exec_quo8 (.tmp 16) ho rfl i j hi1 rfl hj.out w2) HD ?_
        simp only [Act.put, List.setIfInBounds_toArray, List.set_cons_succ, List.set_cons_zero]
        refine AnyF.take 4 (some 18) (.index 9 (.tmp 15) (.tmp 17)) (.int .u8 (c : Int)) rfl (by kernel_rfl) (by kernel_rfl) (by kernel_rfl) (fun _ _ _ h => h) rfl (by kernel_rfl) (fun o ho w2 hw => exec_index_str (.tmp 15) (.tmp 17) ho s j hjs rfl rfl c hc.out w2) HD ?_
        simp only [Act.put, List.setIfInBounds_toArray, List.set_cons_succ, List.set_cons_zero]
        refine AnyF.take 5 (some 19) (.move (.tmp 4)) (.int .i64 (i : Int)) rfl (by kernel_rfl) (by kernel_rfl) (by kernel_rfl) (fun _ _ _ h => h) rfl (by kernel_rfl) (fun o ho w2 hw => exec_move (.tmp 4) ho _ rfl w2) HD ?_
        simp only [Act.put, List.setIfInBounds_toArray, List.set_cons_succ, List.set_cons_zero]
        refine AnyF.take 6 (some 20) (.binOp .rem 3 (.tmp 19) (.const (.int .i64 8)) 3) (.int .i64 (q : Int)) rfl (by kernel_rfl) (by kernel_rfl) (by kernel_rfl) (fun _ _ _ h => h) rfl (by kernel_rfl) (fun o ho w2 hw => exec_rem8 (.tmp 19) ho rfl i q hi1 rfl hq.out w2) HD ?_
        simp only [Act.put, List.setIfInBounds_toArray, List.set_cons_succ, List.set_cons_zero]
        refine AnyF.take 7 (some 21) (.binOp .shr 5 (.tmp 18) (.tmp 20) 3) (.int .u8 (y : Int)) rfl (by kernel_rfl) (by kernel_rfl) (by kernel_rfl) (fun _ _ _ h => h) rfl (by kernel_rfl) (fun o ho w2 hw => exec_shr5 (.tmp 18) (.tmp 20) ho c q hq8 rfl rfl y hy.out w2) HD ?_
        simp only [Act.put, List.setIfInBounds_toArray, List.set_cons_succ, List.set_cons_zero]
        refine AnyF.take 8 (some 22) (.binOp .and 5 (.tmp 21) (.const (.int .u8 1)) 5) (.int .u8 (r : Int)) rfl (by kernel_rfl) (by kernel_rfl) (by kernel_rfl) (fun _ _ _ h => h) rfl (by kernel_rfl) (fun o ho w2 hw => exec_and5 (.tmp 21) ho rfl y r hy256 rfl hr.out w2) HD ?_
        simp only [Act.put, List.setIfInBounds_toArray, List.set_cons_succ, List.set_cons_zero]
        refine AnyF.take 9 (some 23) (.convert 5 22 (.tmp 22)) (.int .u64 (r : Int)) rfl (by kernel_rfl) (by kernel_rfl) (by kernel_rfl) (fun _ _ _ h => h) rfl (by kernel_rfl) (fun o ho w2 hw => exec_conv64 (.tmp 22) ho r hr256 rfl w2) HD ?_
        simp only [Act.put, List.setIfInBounds_toArray, List.set_cons_succ, List.set_cons_zero]
        refine AnyF.ready (rs := [10]) (by kernel_rfl) (by simp) (ReadyF.call (some 24) 23 #[.tmp 14, .tmp 23] #[24, 22] rfl #[.agg N0, .int .u64 (r : Int)] (by simp [Act.eval]) enters23 _ (HR.out _) ?_ (fun c w' h => by cases h.1) (fun w' h => by cases h.1) ReadyF.nil)
        rintro v wq1 ⟨he, hb⟩
        cases he
        have Hq2 := HD.below hb
        clear hb
        refine ⟨Hq2, ?_⟩
        simp only [Act.put, List.setIfInBounds_toArray, List.set_cons_succ, List.set_cons_zero]
        refine AnyF.ready (rs := [11]) (by kernel_rfl) (by simp) (ReadyF.last (.store 24 (.tmp 3) (.tmp 24)) rfl (fun o ho => exec_store_kn wq1 Hq2 (.tmp 3) (.tmp 24) ho (w.heap.size + 1) rfl N1 IN1 rfl N0 IN0 (by simp)) ?_ ReadyF.nil)
        refine any_doneF (by kernel_rfl) ?_ _
        have HN : Kn w [(w.heap.size, Z), (w.heap.size + 1, N1)] (wq1.setRow (w.heap.size + 1) N1) := Hq2.set (w.heap.size + 1) N1 N0 (Hq2.get (w.heap.size + 1) N0 (by simp)) (by omega) (fun p hp => by simp at hp; rcases hp with rfl | rfl <;> first | exact .inl rfl | exact .inr ⟨by simp, by simp only; omega⟩)
        rw [hN1.out] at HN
        have HN := Lib.hid HN
        rw [hN1.out]
        generalize wq1.setRow (w.heap.size + 1) (num (V / 2 ^ i % LL)) = W9 at *
        go_wp2
        go_roundw
        case rel => exact ⟨i, by omega, rfl, HN.out⟩
        case measure => simp [intOf]; omega
set_option maxRecDepth 100000 in
set_option maxHeartbeats 1000000 in
theorem modulo_any (a : Nat) (ha : a < 115792089237316195423570985008687907853269984665640564039457584007913129639936) (w : World) :
    Calls Tryd.prog 27 #[.agg (num a)] w fun e w' => e = .returned (.agg (num (a % LL))) ∧ Below w.heap.size w w' := by
  have H1 := Lib.hid (rbytes0_any a)
  have H2 := Lib.hid (rreduce_any ⟨(bytesN a).toArray⟩ (by show (bytesN a).length ≤ _; rw [bytesN_length]; decide))
  rw [show reduceL (⟨(bytesN a).toArray⟩ : ByteArray).data.toList = a % LL from reduceL_bytes a ha] at H2
  obtain ⟨A, hA⟩ : ∃ A, Hid (A = num a) := ⟨_, Lib.hid rfl⟩
  have IA : IsNum A := by rw [hA.out]; exact isNum _
  obtain ⟨R, hR⟩ : ∃ R, Hid (R = num (a % LL)) := ⟨_, Lib.hid rfl⟩
  have IR : IsNum R := by rw [hR.out]; exact isNum _
  have HZ := zero_run
  obtain ⟨Z, hZ⟩ : ∃ Z, Hid (Z = num 0) := ⟨_, Lib.hid rfl⟩
  have IZ : IsNum Z := by rw [hZ.out]; exact isNum _
  have IZ2 := IZ.size
  have HZ2 : ∀ w, (zeroValue 24).run Tryd.prog w = .ok (.agg Z) w := by rw [hZ.out]; exact HZ
  clear HZ
  obtain ⟨S, hS⟩ : ∃ S : ByteArray, Hid (S = ⟨(bytesN a).toArray⟩) := ⟨_, Lib.hid rfl⟩
  rw [← hA.out, ← hS.out] at H1
  rw [← hS.out, ← hR.out] at H2
  rw [← hA.out, ← hR.out]
  clear hA hR hS hZ ha
  have hz4 : ∀ W : World, Kn W [(W.heap.size, A), (W.heap.size + 1, Z)] ((W.alloc (.cells A 24)).alloc (.cells Z 24)) := by
    intro W
    have h := ((Kn.nil W).new A).new Z
    try simp only [World.size_alloc] at h
    exact h.sub (fun p hp => by simp at hp ⊢; rcases hp with h | h <;> simp [h])
  have HS := Lib.hid (hz4 w)
  clear hz4
  go_enter Tryd.func27, Tryd.ntmps27
  go_upto_region 1 with ((refine wpList_run rfl _ (exec_alloc_agg _ 24 rfl _ (HZ2 _)) ?_); try simp only [World.size_alloc])
  try simp only [Act.put, List.setIfInBounds_toArray, List.set_cons_succ, List.set_cons_zero]
  generalize (w.alloc (.cells A 24)).alloc (.cells Z 24) = W0 at *
  have hl1 := HS.out.load (w.heap.size) A (by simp) IA
  go_wp2_with (refine wpList_run rfl _ (exec_load_of _ 24 (.tmp 1) rfl ⟨w.heap.size, 0, none⟩ rfl (.agg A) hl1) ?_)
  clear hl1
  refine (H1.out _).mono ?_
  rintro e w1 ⟨rfl, hb⟩
  have HS1 := Lib.hid (HS.out.below hb)
  clear hb HS H1
  go_wp2_with fail
  refine (H2.out _).mono ?_
  rintro e w2 ⟨rfl, hb⟩
  have HS2 := Lib.hid (HS1.out.below hb)
  clear hb HS1 H2
  go_wp2_with (refine wpList_run0 rfl (exec_store_kn (w0 := w) (l := [(w.heap.size, A), (w.heap.size + 1, Z)]) _ HS2.out (.tmp 2) (.tmp 5) rfl (w.heap.size + 1) rfl R IR rfl Z IZ (by simp)) ?_)
  have HSZ : Kn w [(w.heap.size + 1, R)] (World.setRow _ (w.heap.size + 1) R) := HS2.out.set (w.heap.size + 1) R Z (HS2.out.get (w.heap.size + 1) Z (by simp)) (by omega) (fun p hp => by simp at hp; subst hp; simp)
  exact bodyPost_ret (results_cell rfl _ _ _ ⟨w.heap.size + 1, 0, none⟩ rfl _ (HSZ.load (w.heap.size + 1) R (by simp) IR)) rfl ⟨rfl, HSZ.1⟩
end Go.Proofs.YtfcnfcolhahghaaDoor
