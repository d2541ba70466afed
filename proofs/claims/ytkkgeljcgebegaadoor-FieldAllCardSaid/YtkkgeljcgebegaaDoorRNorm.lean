/- Norm of the document: a number modulo the prime. No condition but that the number has 256 bits. -/
import Derived.Test.YtkkgeljcgebegaaDoorSub
namespace Go.Proofs.YtkkgeljcgebegaaDoor
open Go.RowKit Go.Shelf
set_option linter.unusedVariables false
set_option linter.unusedSimpArgs false
theorem enters23 : ∀ args w, (callFunc 23 args).run Tryd.prog w = .ok (.enter 23 args) w := enters_of Tryd.func23 (by kernel_rfl) rfl
theorem enters29 : ∀ args w, (callFunc 29 args).run Tryd.prog w = .ok (.enter 29 args) w := enters_of Tryd.func29 (by kernel_rfl) rfl
theorem enters33 : ∀ args w, (callFunc 33 args).run Tryd.prog w = .ok (.enter 33 args) w := enters_of Tryd.func33 (by kernel_rfl) rfl
theorem exec_notb {ρ : Operand → Value} {o : Oper} (x : Operand) (ho : o.op = .unOp .not 4 x) (b c : Bool) (hx : ρ x = .bool b) (hc : c = !b) (w : World) :
    (execOp ρ o).run Tryd.prog w = .ok (.value (.bool c)) w := by
  subst hc
  unfold execOp
  rw [ho]
  simp only [hx]
  go_simp
set_option maxRecDepth 100000 in
set_option maxHeartbeats 1000000 in
theorem rnorm_any (a : Nat) (ha : a < 115792089237316195423570985008687907853269984665640564039457584007913129639936) (w : World) :
    Calls Tryd.prog 12 #[.agg (num a)] w fun e w' => e = .returned (.agg (num (a % pp))) ∧ Below w.heap.size w w' := by
  have HP := Lib.hid prime_any
  have HZ := zero_run
  have HA := Lib.hid ha
  have hp4 : pp < 115792089237316195423570985008687907853269984665640564039457584007913129639936 := by decide
  have hp0 : 0 < pp := by decide
  obtain ⟨PR, hPR⟩ : ∃ PR, Hid (PR = num pp) := ⟨_, Lib.hid rfl⟩
  have IPR : IsNum PR := by rw [hPR.out]; exact isNum _
  obtain ⟨T, hT⟩ : ∃ T, Hid (T = num (a % pp)) := ⟨_, Lib.hid rfl⟩
  have IT : IsNum T := by rw [hT.out]; exact isNum _
  obtain ⟨Z, hZ⟩ : ∃ Z, Hid (Z = num 0) := ⟨_, Lib.hid rfl⟩
  have IZ : IsNum Z := by rw [hZ.out]; exact isNum _
  rw [← hPR.out] at HP
  have HZ2 : ∀ w, (zeroValue 24).run Tryd.prog w = .ok (.agg Z) w := by rw [hZ.out]; exact HZ
  have IZ2 := IZ.size
  rw [← hT.out]
  have hz4 : ∀ W : World, Kn W [(W.heap.size, num a), (W.heap.size + 1, Z)] ((W.alloc (.cells (num a) 24)).alloc (.cells Z 24)) := by
    intro W
    have h := ((Kn.nil W).new (num a)).new Z
    simp only [World.size_alloc] at h
    exact h.sub (fun p hp => by simp at hp ⊢; rcases hp with h | h <;> simp [h])
  have HS := Lib.hid (hz4 w)
  clear HZ ha hz4
  obtain ⟨A0, hA0⟩ : ∃ A0, Hid (A0 = num a) := ⟨_, Lib.hid rfl⟩
  rw [← hA0.out] at HS ⊢
  go_enter Tryd.func12, Tryd.ntmps12
  go_wp2_with ((refine wpList_run rfl _ (exec_alloc_agg _ 24 rfl _ (HZ2 _)) ?_); try simp only [World.size_alloc])
  try simp only [Act.put, List.setIfInBounds_toArray, List.set_cons_succ, List.set_cons_zero]
  generalize (w.alloc (.cells A0 24)).alloc (.cells Z 24) = W0 at *
  go_loopw [] (fun wr => ∃ n : Nat, n < 115792089237316195423570985008687907853269984665640564039457584007913129639936 ∧ n % pp = a % pp ∧ Kn w [(w.heap.size, num n), (w.heap.size + 1, Z)] wr) (fun wr => valO (wr.heap[w.heap.size]?))
  case atStart => exact ⟨a, HA.out, rfl, by rw [← hA0.out]; exact HS.out⟩
  case round =>
    clear HS hA0 HA
    obtain ⟨n, hn, hm, HK0⟩ := hrel
    have HG := Lib.hid (HK0.get (w.heap.size) (num n) (by simp))
    have HV := Lib.hid (valO_num n hn 24 (0, 0))
    have HL := Lib.hid (less_any n pp hn hp4)
    have HU := Lib.hid (subnum_any n pp hn hp4)
    have IA := isNum n
    have HK := Lib.hid HK0
    clear HK0
    by_cases hlt : n < pp
    · have hT2 : Hid (num n = T) := by unfold Hid; rw [hT.out, ← hm, Nat.mod_eq_of_lt hlt]
      have hd : decide (n < pp) = true := by simp [hlt]
      rw [hd] at HL
      clear hd hm hn hp4 hp0 HG HV HU
      rw [← hPR.out, hT2.out] at HL
      rw [hT2.out] at HK IA
      clear hPR hT hT2 hlt
      go_upto_region 1 with fail
      try simp only [Act.put, List.setIfInBounds_toArray, List.set_cons_succ, List.set_cons_zero]
      refine wp_nrm ?_
      refine wp_region_any (by kernel_rfl) ?_
      change wpAny _ _ _ _ _ _ _ (World.drew _)
      have HD := HK.out.drew
      generalize wr.drew = Wd at *
      refine any_of_F (S := Kn w [(w.heap.size, T), (w.heap.size + 1, Z)]) (f := 1000) _ _ _ _ ?_
      refine AnyF.takeG (by rfl) 0 (some 3) (.load 24 (.tmp 1)) none (.agg T) rfl (by kernel_rfl) (by kernel_rfl) (by kernel_rfl) (fun _ _ _ h => h) rfl (fun o h => by obtain rfl := Option.some.inj h; rfl) (fun o ho w2 hw => exec_load_of _ 24 (.tmp 1) ho ⟨w.heap.size, 0, none⟩ rfl _ (hw.load (w.heap.size) T (by simp) IA)) HD ?_
      simp only [Act.put, List.setIfInBounds_toArray, List.set_cons_succ, List.set_cons_zero]
      refine AnyF.ready (rs := [1]) (by kernel_rfl) (by simp) (ReadyF.call (some 4) 23 #[] #[] rfl #[] (by simp [Act.eval]) enters23 _ (HP.out _) ?_ (fun c w' h => by cases h.1) (fun w' h => by cases h.1) ReadyF.nil)
      rintro v ws1 ⟨he, hb⟩
      cases he
      have Hs2 := HD.below hb
      clear hb
      refine ⟨Hs2, ?_⟩
      simp only [Act.put, List.setIfInBounds_toArray, List.set_cons_succ, List.set_cons_zero]
      refine AnyF.ready (rs := [2]) (by kernel_rfl) (by simp) (ReadyF.call (some 5) 33 #[.tmp 3, .tmp 4] #[24, 24] rfl #[.agg T, .agg PR] (by simp [Act.eval]) enters33 _ (HL.out _) ?_ (fun c w' h => by cases h.1) (fun w' h => by cases h.1) ReadyF.nil)
      rintro v ws3 ⟨he, hb⟩
      cases he
      have Hs4 := Hs2.below hb
      clear hb
      refine ⟨Hs4, ?_⟩
      simp only [Act.put, List.setIfInBounds_toArray, List.set_cons_succ, List.set_cons_zero]
      refine AnyF.takeG (by rfl) 3 (some 6) (.unOp .not 4 (.tmp 5)) none (.bool false) rfl (by kernel_rfl) (by kernel_rfl) (by kernel_rfl) (fun _ _ _ h => h) rfl (fun o h => by obtain rfl := Option.some.inj h; rfl) (fun o ho w2 hw => exec_notb (.tmp 5) ho true false rfl rfl w2) Hs4 ?_
      simp only [Act.put, List.setIfInBounds_toArray, List.set_cons_succ, List.set_cons_zero]
      refine AnyF.done (by kernel_rfl) ?_ _
      refine nrm_intro ?_
      have hl := Hs4.load (w.heap.size) T (by simp) IA
      go_wp2_with (first | (refine wpList_run rfl _ (exec_load_of _ 24 (.tmp 1) rfl ⟨w.heap.size, 0, none⟩ rfl (.agg T) hl) ?_) | (refine wpList_run0 rfl (exec_store_kn (w0 := w) (l := [(w.heap.size, T), (w.heap.size + 1, Z)]) _ Hs4 (.tmp 2) (.tmp 10) rfl (w.heap.size + 1) rfl T IA rfl Z IZ (by simp)) ?_))
      have HSZ : Kn w [(w.heap.size + 1, T)] (World.setRow _ (w.heap.size + 1) T) := Hs4.set (w.heap.size + 1) T Z (Hs4.get (w.heap.size + 1) Z (by simp)) (by omega) (fun p hp => by simp at hp; subst hp; simp)
      exact bodyPost_ret (results_cell rfl _ _ _ ⟨w.heap.size + 1, 0, none⟩ rfl _ (HSZ.load (w.heap.size + 1) T (by simp) IA)) rfl ⟨rfl, HSZ.1⟩
    · have hd : decide (n < pp) = false := by simp [hlt]
      rw [hd] at HL
      have hsub : subM n pp = n - pp := subM_le n pp (by omega) hn
      rw [hsub] at HU
      have HM : Hid ((n - pp) % pp = a % pp) := by unfold Hid; rw [← hm, ← Nat.mod_eq_sub_mod (by omega)]
      have HN2 : Hid (n - pp < 115792089237316195423570985008687907853269984665640564039457584007913129639936) := by unfold Hid; omega
      have HLT : Hid (n - pp < n) := by unfold Hid; omega
      have HV2 := Lib.hid (valO_num (n - pp) HN2.out 24 (0, 0))
      have IB := isNum (n - pp)
      clear hd hm hsub hn hp4 hp0 hlt hT
      rw [← hPR.out] at HL HU
      clear hPR
      obtain ⟨A, hA⟩ : ∃ A, Hid (A = num n) := ⟨_, Lib.hid rfl⟩
      obtain ⟨B, hB⟩ : ∃ B, Hid (B = num (n - pp)) := ⟨_, Lib.hid rfl⟩
      rw [← hA.out] at HL HU HK IA HG HV
      rw [← hB.out] at HU IB HV2
      generalize n - pp = m at *
      clear hA
      go_upto_region 1 with fail
      try simp only [Act.put, List.setIfInBounds_toArray, List.set_cons_succ, List.set_cons_zero]
      refine wp_nrm ?_
      refine wp_region_any (by kernel_rfl) ?_
      change wpAny _ _ _ _ _ _ _ (World.drew _)
      have HD := HK.out.drew
      generalize wr.drew = Wd at *
      refine any_of_F (S := Kn w [(w.heap.size, A), (w.heap.size + 1, Z)]) (f := 1000) _ _ _ _ ?_
      refine AnyF.takeG (by rfl) 0 (some 3) (.load 24 (.tmp 1)) none (.agg A) rfl (by kernel_rfl) (by kernel_rfl) (by kernel_rfl) (fun _ _ _ h => h) rfl (fun o h => by obtain rfl := Option.some.inj h; rfl) (fun o ho w2 hw => exec_load_of _ 24 (.tmp 1) ho ⟨w.heap.size, 0, none⟩ rfl _ (hw.load (w.heap.size) A (by simp) IA)) HD ?_
      simp only [Act.put, List.setIfInBounds_toArray, List.set_cons_succ, List.set_cons_zero]
      refine AnyF.ready (rs := [1]) (by kernel_rfl) (by simp) (ReadyF.call (some 4) 23 #[] #[] rfl #[] (by simp [Act.eval]) enters23 _ (HP.out _) ?_ (fun c w' h => by cases h.1) (fun w' h => by cases h.1) ReadyF.nil)
      rintro v wt1 ⟨he, hb⟩
      cases he
      have Ht2 := HD.below hb
      clear hb
      refine ⟨Ht2, ?_⟩
      simp only [Act.put, List.setIfInBounds_toArray, List.set_cons_succ, List.set_cons_zero]
      refine AnyF.ready (rs := [2]) (by kernel_rfl) (by simp) (ReadyF.call (some 5) 33 #[.tmp 3, .tmp 4] #[24, 24] rfl #[.agg A, .agg PR] (by simp [Act.eval]) enters33 _ (HL.out _) ?_ (fun c w' h => by cases h.1) (fun w' h => by cases h.1) ReadyF.nil)
      rintro v wt3 ⟨he, hb⟩
      cases he
      have Ht4 := Ht2.below hb
      clear hb
      refine ⟨Ht4, ?_⟩
      simp only [Act.put, List.setIfInBounds_toArray, List.set_cons_succ, List.set_cons_zero]
      refine AnyF.takeG (by rfl) 3 (some 6) (.unOp .not 4 (.tmp 5)) none (.bool true) rfl (by kernel_rfl) (by kernel_rfl) (by kernel_rfl) (fun _ _ _ h => h) rfl (fun o h => by obtain rfl := Option.some.inj h; rfl) (fun o ho w2 hw => exec_notb (.tmp 5) ho false true rfl rfl w2) Ht4 ?_
      simp only [Act.put, List.setIfInBounds_toArray, List.set_cons_succ, List.set_cons_zero]
      refine AnyF.done (by kernel_rfl) ?_ _
      refine nrm_intro ?_
      go_upto_region 2 with fail
      try simp only [Act.put, List.setIfInBounds_toArray, List.set_cons_succ, List.set_cons_zero]
      refine wp_nrm ?_
      refine wp_region_any (by kernel_rfl) ?_
      change wpAny _ _ _ _ _ _ _ (World.drew _)
      have HD2 := Ht4.drew
      generalize wt3.drew = We at *
      refine any_of_F (S := Kn w [(w.heap.size, A), (w.heap.size + 1, Z)]) (f := 3) _ _ _ _ ?_
      refine AnyF.take 0 (some 7) (.load 24 (.tmp 1)) (.agg A) rfl (by kernel_rfl) (by kernel_rfl) (by kernel_rfl) (fun _ _ _ h => h) rfl (by kernel_rfl) (fun o ho w2 hw => exec_load_of _ 24 (.tmp 1) ho ⟨w.heap.size, 0, none⟩ rfl _ (hw.load (w.heap.size) A (by simp) IA)) HD2 ?_
      simp only [Act.put, List.setIfInBounds_toArray, List.set_cons_succ, List.set_cons_zero]
      refine AnyF.ready (rs := [1]) (by kernel_rfl) (by simp) (ReadyF.call (some 8) 23 #[] #[] rfl #[] (by simp [Act.eval]) enters23 _ (HP.out _) ?_ (fun c w' h => by cases h.1) (fun w' h => by cases h.1) ReadyF.nil)
      rintro v wv1 ⟨he, hb⟩
      cases he
      have Hv2 := HD2.below hb
      clear hb
      refine ⟨Hv2, ?_⟩
      simp only [Act.put, List.setIfInBounds_toArray, List.set_cons_succ, List.set_cons_zero]
      refine AnyF.ready (rs := [2]) (by kernel_rfl) (by simp) (ReadyF.call (some 9) 29 #[.tmp 7, .tmp 8] #[24, 24] rfl #[.agg A, .agg PR] (by simp [Act.eval]) enters29 _ (HU.out _) ?_ (fun c w' h => by cases h.1) (fun w' h => by cases h.1) ReadyF.nil)
      rintro v wv3 ⟨he, hb⟩
      cases he
      have Hv4 := Hv2.below hb
      clear hb
      refine ⟨Hv4, ?_⟩
      simp only [Act.put, List.setIfInBounds_toArray, List.set_cons_succ, List.set_cons_zero]
      refine AnyF.ready (rs := [3]) (by kernel_rfl) (by simp) (ReadyF.last (.store 24 (.tmp 1) (.tmp 9)) rfl (fun o ho => exec_store_kn wv3 Hv4 (.tmp 1) (.tmp 9) ho (w.heap.size) rfl B IB rfl A IA (by simp)) ?_ ReadyF.nil)
      refine any_doneF (by kernel_rfl) ?_ _
      refine nrm_intro ?_
      have HSr : Kn w [(w.heap.size, B), (w.heap.size + 1, Z)] (World.setRow _ (w.heap.size) B) := Hv4.set (w.heap.size) B A (Hv4.get (w.heap.size) A (by simp)) (by omega) (fun p hp => by simp at hp; rcases hp with rfl | rfl <;> simp)
      generalize World.setRow _ (w.heap.size) B = Wz at *
      go_roundw
      case rel => exact ⟨_, _, _, _, _, _, _, ⟨m, HN2.out, HM.out, by rw [← hB.out]; exact HSr⟩, rfl⟩
      case measure =>
        rw [HSr.get (w.heap.size) B (by simp), HG.out, HV2.out, HV.out]
        exact HLT.out
end Go.Proofs.YtkkgeljcgebegaaDoor
