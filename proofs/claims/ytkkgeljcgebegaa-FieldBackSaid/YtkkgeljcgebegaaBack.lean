/- The law FieldBack walked: it returns true at any number of 256 bits and any byte, and no memory that was there is changed. No condition but that. -/
import Derived.Test.YtkkgeljcgebegaaLaws
import Derived.Test.YtkkgeljcgebegaaFrom
import Derived.Test.YtkkgeljcgebegaaLit
namespace Go.Proofs.Ytkkgeljcgebegaa
open Go.RowKit Go.Shelf
set_option linter.unusedVariables false
set_option linter.unusedSimpArgs false
theorem enters13 : ∀ args w, (callFunc 13 args).run Try.prog w = .ok (.enter 13 args) w := enters_of Try.func13 (by kernel_rfl) rfl
theorem enters14 : ∀ args w, (callFunc 14 args).run Try.prog w = .ok (.enter 14 args) w := enters_of Try.func14 (by kernel_rfl) rfl
theorem enters15 : ∀ args w, (callFunc 15 args).run Try.prog w = .ok (.enter 15 args) w := enters_of Try.func15 (by kernel_rfl) rfl
theorem enters16 : ∀ args w, (callFunc 16 args).run Try.prog w = .ok (.enter 16 args) w := enters_of Try.func16 (by kernel_rfl) rfl
theorem exec_len9 {ρ : Operand → Value} {o : Oper} (x : Operand) (ho : o.op = .call { callee := .builtin .len, args := #[x], argTypes := #[9] }) (s : ByteArray) (i : Nat) (hi : s.size = i) (hx : ρ x = .string s) (w : World) : (execOp ρ o).run Try.prog w = .ok (.value (.int .i64 (i : Int))) w := by
  subst hi
  unfold execOp
  simp [ho, hx, go_sem]
theorem exec_eqi {ρ : Operand → Value} {o : Oper} (x : Operand) (c : Int) (ho : o.op = .binOp .eql 3 x (.const (.int .i64 c)) 3) (hc : ρ (.const (.int .i64 c)) = .int .i64 c) (hx : ρ x = .int .i64 c) (w : World) : (execOp ρ o).run Try.prog w = .ok (.value (.bool true)) w := by
  unfold execOp
  rw [ho]
  simp only [hx, hc]
  go_simp
theorem exec_notf {ρ : Operand → Value} {o : Oper} (x : Operand) (ho : o.op = .unOp .not 4 x) (hx : ρ x = .bool false) (w : World) : (execOp ρ o).run Try.prog w = .ok (.value (.bool true)) w := by
  unfold execOp
  rw [ho]
  simp only [hx]
  go_simp
theorem exec_conv3 {ρ : Operand → Value} {o : Oper} (x : Operand) (ho : o.op = .convert 3 22 x) (c : Nat) (hc : c < 18446744073709551616) (hx : ρ x = .int .i64 (c : Int)) (w : World) : (execOp ρ o).run Try.prog w = .ok (.value (.int .u64 (c : Int))) w := by
  have hw : IntKind.u64.wrap (c : Int) = (c : Int) := wrap_id hc
  unfold execOp
  rw [ho]
  simp only [hx]
  go_simp
theorem exec_rem19 {ρ : Operand → Value} {o : Oper} (x : Operand) (ho : o.op = .binOp .rem 3 x (.const (.int .i64 19)) 3) (hc : ρ (.const (.int .i64 19)) = .int .i64 19) (i j : Nat) (hi : i < 1000) (hx : ρ x = .int .i64 (i : Int)) (hj : j = i % 19) (w : World) : (execOp ρ o).run Try.prog w = .ok (.value (.int .i64 (j : Int))) w := by
  have hq : (i : Int).tmod 19 = (j : Int) := by rw [Int.tmod_eq_emod_of_nonneg (by omega)]; omega
  have hq2 : (i : Int) % 19 = (j : Int) := by omega
  have hw : IntKind.i64.wrap (j : Int) = (j : Int) := IntWalk.i64_in _ (by omega)
  clear hj
  unfold execOp
  rw [ho]
  simp only [hx, hc]
  go_simp
theorem exec_sliceTo {ρ : Operand → Value} {o : Oper} (x hi : Operand) (ho : o.op = .slice 9 x none (some hi) none) (S : ByteArray) (b : Nat) (hb : b ≤ S.size) (hx : ρ x = .string S) (hhi : ρ hi = .int .i64 b) (w : World) :
    (execOp ρ o).run Try.prog w = .ok (.value (.string (S.extract 0 b))) w := by
  have h2 : (b : Int) ≤ (S.size : Int) := by omega
  have hu := Try.underlying9
  unfold execOp
  simp only [ho, hx, hhi, Option.map]
  go_simp
theorem exec_cat {ρ : Operand → Value} {o : Oper} (x y : Operand) (ho : o.op = .binOp .add 9 x y 9) (S T : ByteArray) (hS : S.size ≤ 1000000) (hT : T.size ≤ 1000000) (hx : ρ x = .string S) (hy : ρ y = .string T) (w : World) : (execOp ρ o).run Try.prog w = .ok (.value (.string (S ++ T))) w := by
  have hu := Try.underlying9
  have hst : S.size + T.size ≤ 9223372036854775807 := by omega
  unfold execOp
  simp only [ho, hx, hy]
  go_simp
theorem exec_catv {ρ : Operand → Value} {o : Oper} (x y : Operand) (ho : o.op = .binOp .add 9 x y 9) (S T V : ByteArray) (hS : S.size ≤ 1000000) (hT : T.size ≤ 1000000) (hV : S ++ T = V) (hx : ρ x = .string S) (hy : ρ y = .string T) (w : World) : (execOp ρ o).run Try.prog w = .ok (.value (.string V)) w := by
  subst hV
  exact exec_cat x y ho S T hS hT hx hy w
def leTo (N i : Nat) : List UInt8 := leW (dig N) ((List.finRange 4).take i)
theorem leTo_length (N i : Nat) (h : i ≤ 4) : (leTo N i).length = 8 * i := by
  unfold leTo
  rw [leW_length, List.length_take, List.length_finRange]
  omega
theorem leTo_step (N i : Nat) (h : i < 4) : leTo N i ++ le8 (dig N i) = leTo N (i + 1) := by
  unfold leTo
  rw [List.take_succ_eq_append_getElem (by rw [List.length_finRange]; exact h), leW_snoc]
  simp
theorem leTo_all (N : Nat) : leTo N 4 = bytesN N := rfl
theorem cat_list (l m : List UInt8) : (⟨l.toArray⟩ : ByteArray) ++ ⟨m.toArray⟩ = ⟨(l ++ m).toArray⟩ := by
  apply ByteArray.ext
  simp
set_option maxRecDepth 100000 in
set_option maxHeartbeats 1000000 in
theorem back_any (a n : Nat) (ha : a < 115792089237316195423570985008687907853269984665640564039457584007913129639936) (hn : n < 256) (w : World) :
    Calls Try.prog 4 #[.agg (num a), .int .u8 n] w fun e w' => e = .returned (.bool true) ∧ Below w.heap.size w w' := by
  obtain ⟨q, hq⟩ : ∃ q, q = n % 19 := ⟨_, rfl⟩
  have hq19 : q < 19 := by omega
  have hpp : pp = 57896044618658097711785492504343953926634992332820282019728792003956564819949 := rfl
  have hq4 : q < 115792089237316195423570985008687907853269984665640564039457584007913129639936 := by omega
  have hpq : pp + q < 115792089237316195423570985008687907853269984665640564039457584007913129639936 := by omega
  have hfa : fromF (bytesN (a % pp)) = (a % pp, true) := fromF_bytesN _ (Nat.mod_lt _ pp_pos)
  have hfl : fromF (bytesN (pp + q)) = (0, false) := by
    unfold fromF
    rw [if_neg]
    rintro ⟨_, h⟩
    rw [leVal_bytesN _ hpq] at h
    omega
  have hsb : (⟨(bytesN (a % pp)).toArray⟩ : ByteArray).size = 32 := bytesN_length _
  have hss : ((⟨(bytesN (a % pp)).toArray⟩ : ByteArray).extract 0 31).size = 31 := by rw [ByteArray.size_extract, hsb]; rfl
  have hfs : fromF ((⟨(bytesN (a % pp)).toArray⟩ : ByteArray).extract 0 31).data.toList = (0, false) := by
    unfold fromF
    rw [if_neg]
    rintro ⟨h, _⟩
    have : (((⟨(bytesN (a % pp)).toArray⟩ : ByteArray).extract 0 31).data.toList.length) = 31 := hss
    omega
  have H1 := Lib.hid (bytes_any a ha)
  have H2 := Lib.hid (from_any ⟨(bytesN (a % pp)).toArray⟩ (by rw [hsb]; omega))
  rw [show fromF (⟨(bytesN (a % pp)).toArray⟩ : ByteArray).data.toList = (a % pp, true) from hfa] at H2
  have H3 := Lib.hid prime_any
  have H4 := Lib.hid (addnum_any pp q (by decide) hq4)
  rw [Nat.mod_eq_of_lt hpq, Nat.div_eq_of_lt hpq] at H4
  have H6 := Lib.hid (from_any ⟨(bytesN (pp + q)).toArray⟩ (by show (bytesN (pp + q)).length ≤ _; rw [bytesN_length]; omega))
  rw [show fromF (⟨(bytesN (pp + q)).toArray⟩ : ByteArray).data.toList = (0, false) from hfl] at H6
  have H7 := Lib.hid (from_any ((⟨(bytesN (a % pp)).toArray⟩ : ByteArray).extract 0 31) (by rw [hss]; omega))
  rw [hfs] at H7
  have H8 := Lib.hid (norm_any a ha)
  have H9 := Lib.hid (norm_any (pp + q) hpq)
  rw [show (pp + q) % pp = q by rw [Nat.add_mod_left]; exact Nat.mod_eq_of_lt (by omega)] at H9
  have H10 := Lib.hid awake_any
  have hbq := build_run q (by omega)
  have hdig : ∀ j, j < 4 → (num (pp + q))[j]? = some (.int .u64 (dig (pp + q) j : Int)) := fun j hj => num_get _ j hj
  have hdl : ∀ j, dig (pp + q) j < 18446744073709551616 := fun j => dig_lt _ j
  have HZ := zero_run
  obtain ⟨f, hf⟩ : ∃ f, f = dig (pp + q) := ⟨_, rfl⟩
  obtain ⟨lt, hlt⟩ : ∃ lt, lt = leTo (pp + q) := ⟨_, rfl⟩
  have hl0 : lt 0 = [] := by rw [hlt]; rfl
  have hl4 : (⟨(lt 4).toArray⟩ : ByteArray) = ⟨(bytesN (pp + q)).toArray⟩ := by rw [hlt]; rfl
  have hll : ∀ i, i ≤ 4 → (lt i).length = 8 * i := fun i h => by rw [hlt]; exact leTo_length _ i h
  have hls : ∀ i, i < 4 → lt i ++ le8 (f i) = lt (i + 1) := fun i h => by rw [hlt, hf]; exact leTo_step _ i h
  rw [← hf] at hdig hdl
  clear hlt hf hfa hfl hfs
  obtain ⟨A, hA⟩ : ∃ A, Hid (A = num a) := ⟨_, Lib.hid rfl⟩
  have IA : IsNum A := by rw [hA.out]; exact isNum _
  obtain ⟨R, hR⟩ : ∃ R, Hid (R = num (a % pp)) := ⟨_, Lib.hid rfl⟩
  have IR : IsNum R := by rw [hR.out]; exact isNum _
  obtain ⟨PR, hPR⟩ : ∃ PR, Hid (PR = num pp) := ⟨_, Lib.hid rfl⟩
  have IPR : IsNum PR := by rw [hPR.out]; exact isNum _
  obtain ⟨K, hK⟩ : ∃ K, Hid (K = num q) := ⟨_, Lib.hid rfl⟩
  have IK : IsNum K := by rw [hK.out]; exact isNum _
  obtain ⟨LG, hLG⟩ : ∃ LG, Hid (LG = num (pp + q)) := ⟨_, Lib.hid rfl⟩
  have ILG : IsNum LG := by rw [hLG.out]; exact isNum _
  obtain ⟨Z, hZ⟩ : ∃ Z, Hid (Z = num 0) := ⟨_, Lib.hid rfl⟩
  have IZ : IsNum Z := by rw [hZ.out]; exact isNum _
  obtain ⟨SB, hSB⟩ : ∃ SB : ByteArray, Hid (SB = ⟨(bytesN (a % pp)).toArray⟩) := ⟨_, Lib.hid rfl⟩
  obtain ⟨SL, hSL⟩ : ∃ SL : ByteArray, Hid (SL = ⟨(bytesN (pp + q)).toArray⟩) := ⟨_, Lib.hid rfl⟩
  rw [← hA.out, ← hSB.out] at H1
  rw [← hR.out, ← hSB.out] at H2
  rw [← hPR.out] at H3
  rw [← hPR.out, ← hK.out, ← hLG.out] at H4
  rw [← hZ.out, ← hSL.out] at H6
  rw [← hZ.out, ← hSB.out] at H7
  rw [← hA.out, ← hR.out] at H8
  rw [← hLG.out, ← hK.out] at H9
  rw [← hK.out] at hbq
  rw [← hSL.out] at hl4
  rw [← hSB.out] at hsb
  rw [← hLG.out] at hdig
  have HZ2 : ∀ w, (zeroValue 24).run Try.prog w = .ok (.agg Z) w := by rw [hZ.out]; exact HZ
  have IZ2 := IZ.size
  rw [← hA.out]
  have HBQ := Lib.hid hbq
  clear HZ hA hR hPR hK hLG hZ hSB hSL ha hpq hq4 hpp hbq hss
  have HS : Hid (Kn w [(w.heap.size, A)] (w.alloc (.cells A 24))) := Lib.hid ((Kn.nil w).new A)
  go_enter Try.func4, Try.ntmps4
  go_upto_region 1 with fail
  generalize w.alloc (.cells A 24) = W0 at *
  have hL2 := HS.out.load (w.heap.size) A (by simp) IA
  go_wp2_with (refine wpList_run rfl _ (exec_load_of _ 24 (.tmp 2) rfl ⟨w.heap.size, 0, none⟩ rfl (.agg A) hL2) ?_)
  clear hL2
  refine (H1.out _).mono ?_
  rintro e w1 ⟨rfl, hb⟩
  have HS1 := Lib.hid (HS.out.below hb)
  clear hb HS H1
  go_wp2_with fail
  refine (H2.out _).mono ?_
  rintro e w2 ⟨rfl, hb⟩
  have HS2 := Lib.hid (HS1.out.below hb)
  clear hb HS1 H2
  have HS3_ : Kn w [(w.heap.size, A), (w2.heap.size, R)] (w2.alloc (.cells R 24)) := (HS2.out.new R).sub (fun p hp => by simp at hp ⊢; rcases hp with h | h <;> simp [h])
  have HS3 := Lib.hid HS3_
  clear HS3_ HS2
  have hn1 : (n : Nat) < 1000 := by omega
  go_upto_region 3 with (first | ((refine wpList_run rfl _ (exec_alloc_agg _ 24 rfl _ (HZ2 _)) ?_); try simp only [World.size_alloc]) | (refine wpList_run0 rfl (exec_new24 _ (.tmp 6) (.tmp 22) rfl _ _ rfl R IR rfl IZ2) ?_))
  try simp only [Act.put, List.setIfInBounds_toArray, List.set_cons_succ, List.set_cons_zero]
  generalize w2.alloc (.cells R 24) = W2 at *
  generalize w2.heap.size = gR at *
  have hqI : (n : Int) % 19 = (q : Int) := by omega
  go_upto_region 4 with fail
  rw [hqI]
  clear hqI hq hn1
  have hq64 : q < 18446744073709551616 := by omega
  go_wp2_with fail
  refine (H3.out _).mono ?_
  rintro e w3 ⟨rfl, hb⟩
  have HS4 := Lib.hid (HS3.out.below hb)
  clear hb HS3 H3
  have hwq : IntKind.u64.wrap (q : Int) = (q : Int) := wrap_id hq64
  go_wp2_with (refine wpList_run rfl _ (exec_build1 _ 24 0 (.tmp 30) rfl (.int .u64 (q : Int)) rfl _ (HBQ.out _)) ?_)
  refine (H4.out _).mono ?_
  rintro e w4 ⟨rfl, hb⟩
  have HS5 := Lib.hid (HS4.out.below hb)
  clear hb HS4 H4
  have HS6_ : Kn w [(w.heap.size, A), (gR, R), (w4.heap.size, LG)] (w4.alloc (.cells LG 24)) := (HS5.out.new LG).sub (fun p hp => by simp at hp ⊢; rcases hp with h | h | h <;> simp [h])
  have HS6 := Lib.hid HS6_
  clear HS6_ HS5
  go_upto_region 5 with (first | ((refine wpList_run rfl _ (exec_alloc_agg _ 24 rfl _ (HZ2 _)) ?_); try simp only [World.size_alloc]) | (refine wpList_run0 rfl (exec_new24 _ (.tmp 9) (.tmp 33) rfl _ _ rfl LG ILG rfl IZ2) ?_))
  try simp only [Act.put, List.setIfInBounds_toArray, List.set_cons_succ, List.set_cons_zero]
  generalize w4.alloc (.cells LG 24) = W4 at *
  generalize w4.heap.size = gL at *
  go_wp2_with fail
  go_loopw [11, 12] (fun x y wr => ∃ i : Nat, i ≤ 4 ∧ x = .string ⟨(lt i).toArray⟩ ∧ y = .int .i64 i ∧ Kn w [(w.heap.size, A), (gR, R), (gL, LG)] wr) (fun _ y _ => 4 - (intOf y).toNat)
  case atStart => exact ⟨0, by omega, by rw [hl0], rfl, HS6.out⟩
  case round =>
    clear HS6
    obtain ⟨i, hi, rfl, rfl, hK⟩ := hrel
    have HK := Lib.hid hK
    clear hK
    by_cases hlt : i < 4
    · have hltI : (i : Int) < 4 := by omega
      have hc0 := (HK.out.cell gL LG (by simp) i).trans (hdig i hlt)
      have H5 := Lib.hid (Little_any (f i))
      have hs5 := hls i hlt
      have hl5 := hll i hi
      have hcs : ((⟨(lt i).toArray⟩ : ByteArray) ++ ⟨(le8 (f i)).toArray⟩) = ⟨(lt (i + 1)).toArray⟩ := by rw [cat_list, hs5]
      have hsz1 : (⟨(lt i).toArray⟩ : ByteArray).size ≤ 1000000 := by show (lt i).length ≤ _; omega
      have hsz2 : (⟨(le8 (f i)).toArray⟩ : ByteArray).size ≤ 1000000 := by show (le8 (f i)).length ≤ _; rw [le8_length]; omega
      generalize (⟨(lt i).toArray⟩ : ByteArray) = S at *
      generalize (⟨(le8 (f i)).toArray⟩ : ByteArray) = T at *
      generalize hS1 : (⟨(lt (i + 1)).toArray⟩ : ByteArray) = S1 at *
      generalize f i = x at *
      clear hs5 hl5
      go_wp2_with (first | (refine wpList_run rfl _ (exec_indexAddr24 (.tmp 9) (.tmp 40) rfl gL i rfl rfl hlt _) ?_) | (refine wpList_run rfl _ (exec_load_one _ 22 (.tmp 41) rfl ⟨gL, i, none⟩ rfl _ hc0 _ Try.underlying22 rfl) ?_))
      refine (H5.out _).mono ?_
      rintro e w5 ⟨rfl, hb⟩
      have HK2 := Lib.hid (HK.out.below hb)
      clear hb HK H5
      clear hc0
      go_wp2_with (refine wpList_run rfl _ (exec_catv (.tmp 39) (.tmp 43) rfl S T S1 hsz1 hsz2 hcs rfl rfl _) ?_)
      go_roundw
      case rel => exact ⟨i + 1, by omega, by rw [hS1], by first | rfl | simp | go_num, HK2.out⟩
      case measure => simp [intOf]; omega
    · obtain rfl : i = 4 := by omega
      rw [hl4]
      rw [show ((4 : Nat) : Int) = (4 : Int) from rfl]
      clear hl4 hl0 hll hls hdig hdl hlt hi
      go_wp2_with fail
      refine (H6.out _).mono ?_
      rintro e w6 ⟨rfl, hb⟩
      have HS7 := Lib.hid (HK.out.below hb)
      clear hb HK H6
      have HS8 := Lib.hid (HS7.out.alloc (.cells Z 24))
      clear HS7
      go_upto_region 11 with (first | ((refine wpList_run rfl _ (exec_alloc_agg _ 24 rfl _ (HZ2 _)) ?_); try simp only [World.size_alloc]) | (refine wpList_run0 rfl (exec_new24 _ (.tmp 13) (.tmp 48) rfl _ _ rfl Z IZ rfl IZ2) ?_))
      try simp only [Act.put, List.setIfInBounds_toArray, List.set_cons_succ, List.set_cons_zero]
      generalize w6.alloc (.cells Z 24) = W6 at *
      generalize w6.heap.size = gX at *
      go_wp2_with (first | (refine wpList_run rfl _ (exec_len9 (.tmp 52) rfl SB 32 hsb rfl _) ?_) | (refine wpList_run rfl _ (exec_sliceTo (.tmp 51) (.tmp 54) rfl SB 31 (by omega) rfl rfl _) ?_))
      refine (H7.out _).mono ?_
      rintro e w7 ⟨rfl, hb⟩
      have HS9 := Lib.hid (HS8.out.below hb)
      clear hb HS8 H7
      have HS10 := Lib.hid (HS9.out.alloc (.cells Z 24))
      clear HS9
      go_upto_region 12 with (first | ((refine wpList_run rfl _ (exec_alloc_agg _ 24 rfl _ (HZ2 _)) ?_); try simp only [World.size_alloc]) | (refine wpList_run0 rfl (exec_new24 _ (.tmp 15) (.tmp 57) rfl _ _ rfl Z IZ rfl IZ2) ?_))
      try simp only [Act.put, List.setIfInBounds_toArray, List.set_cons_succ, List.set_cons_zero]
      generalize w7.alloc (.cells Z 24) = W7 at *
      generalize w7.heap.size = gY at *
      clear hwq hn
      refine wp_nrm ?_
      refine wp_region_any (by kernel_rfl) ?_
      change wpAny _ _ _ _ _ _ _ (World.drew _)
      have HD := HS10.out.drew
      generalize W7.drew = Wd at *
      refine any_of_F (S := Kn w [(w.heap.size, A), (gR, R), (gL, LG)]) (f := 1000) _ _ _ _ ?_
      refine AnyF.takeG (by rfl) 0 (some 59) (.move (.tmp 5)) none (.string SB) rfl (by kernel_rfl) (by kernel_rfl) (by kernel_rfl) (fun _ _ _ h => h) rfl (fun o h => by obtain rfl := Option.some.inj h; rfl) (fun o ho w2 hw => exec_move (.tmp 5) ho _ rfl w2) HD ?_
      simp only [Act.put, List.setIfInBounds_toArray, List.set_cons_succ, List.set_cons_zero]
      refine AnyF.takeG (by rfl) 1 (some 60) (.call { callee := .builtin .len, args := #[.tmp 59], argTypes := #[9] }) none (.int .i64 32) rfl (by kernel_rfl) (by kernel_rfl) (by kernel_rfl) (fun _ _ _ h => h) rfl (fun o h => by obtain rfl := Option.some.inj h; rfl) (fun o ho w2 hw => exec_len9 (.tmp 59) ho SB 32 hsb rfl w2) HD ?_
      simp only [Act.put, List.setIfInBounds_toArray, List.set_cons_succ, List.set_cons_zero]
      refine AnyF.takeG (by rfl) 2 (some 61) (.binOp .eql 3 (.tmp 60) (.const (.int .i64 32)) 3) none (.bool true) rfl (by kernel_rfl) (by kernel_rfl) (by kernel_rfl) (fun _ _ _ h => h) rfl (fun o h => by obtain rfl := Option.some.inj h; rfl) (fun o ho w2 hw => exec_eqi (.tmp 60) 32 ho rfl rfl w2) HD ?_
      simp only [Act.put, List.setIfInBounds_toArray, List.set_cons_succ, List.set_cons_zero]
      refine AnyF.takeG (by rfl) 3 (some 62) (.move (.tmp 61)) none (.bool true) rfl (by kernel_rfl) (by kernel_rfl) (by kernel_rfl) (fun _ _ _ h => h) rfl (fun o h => by obtain rfl := Option.some.inj h; rfl) (fun o ho w2 hw => exec_move (.tmp 61) ho _ rfl w2) HD ?_
      simp only [Act.put, List.setIfInBounds_toArray, List.set_cons_succ, List.set_cons_zero]
      refine AnyF.takeG (by rfl) 4 (some 63) (.move (.tmp 7)) (some (3, true)) (.bool true) rfl (by kernel_rfl) (by kernel_rfl) (by kernel_rfl) (fun _ _ _ h => h) rfl (fun o h => by obtain rfl := Option.some.inj h; rfl) (fun o ho w2 hw => exec_move (.tmp 7) ho _ rfl w2) HD ?_
      simp only [Act.put, List.setIfInBounds_toArray, List.set_cons_succ, List.set_cons_zero]
      refine AnyF.takeG (by rfl) 5 (some 64) (.pick (.tmp 62) (.tmp 63) (.const (.bool false))) none (.bool true) rfl (by kernel_rfl) (by kernel_rfl) (by kernel_rfl) (fun _ _ _ h => h) rfl (fun o h => by obtain rfl := Option.some.inj h; rfl) (fun o ho w2 hw => exec_pickt (.tmp 62) (.tmp 63) (.const (.bool false)) ho rfl _ rfl w2) HD ?_
      simp only [Act.put, List.setIfInBounds_toArray, List.set_cons_succ, List.set_cons_zero]
      refine AnyF.takeG (by rfl) 6 (some 65) (.move (.tmp 64)) none (.bool true) rfl (by kernel_rfl) (by kernel_rfl) (by kernel_rfl) (fun _ _ _ h => h) rfl (fun o h => by obtain rfl := Option.some.inj h; rfl) (fun o ho w2 hw => exec_move (.tmp 64) ho _ rfl w2) HD ?_
      simp only [Act.put, List.setIfInBounds_toArray, List.set_cons_succ, List.set_cons_zero]
      refine AnyF.takeG (by rfl) 7 (some 66) (.load 24 (.tmp 6)) (some (6, true)) (.agg R) rfl (by kernel_rfl) (by kernel_rfl) (by kernel_rfl) (fun _ _ _ h => h) rfl (fun o h => by obtain rfl := Option.some.inj h; rfl) (fun o ho w2 hw => exec_load_of _ 24 (.tmp 6) ho ⟨gR, 0, none⟩ rfl _ (hw.load (gR) R (by simp) IR)) HD ?_
      simp only [Act.put, List.setIfInBounds_toArray, List.set_cons_succ, List.set_cons_zero]
      refine AnyF.takeG (by rfl) 8 (some 67) (.load 24 (.tmp 2)) (some (6, true)) (.agg A) rfl (by kernel_rfl) (by kernel_rfl) (by kernel_rfl) (fun _ _ _ h => h) rfl (fun o h => by obtain rfl := Option.some.inj h; rfl) (fun o ho w2 hw => exec_load_of _ 24 (.tmp 2) ho ⟨w.heap.size, 0, none⟩ rfl _ (hw.load (w.heap.size) A (by simp) IA)) HD ?_
      simp only [Act.put, List.setIfInBounds_toArray, List.set_cons_succ, List.set_cons_zero]
      refine AnyF.ready (rs := [9]) (by kernel_rfl) (by simp) (ReadyF.callG (some 68) 9 #[.tmp 67] #[24] (some (6, true)) rfl (fun o h => by obtain rfl := Option.some.inj h; rfl) #[.agg A] (by simp [Act.eval]) enters9 _ (H8.out _) ?_ (fun c w' h => by cases h.1) (fun w' h => by cases h.1) ReadyF.nil)
      rintro v wt1 ⟨he, hb⟩
      cases he
      have Ht2 := HD.below hb
      clear hb
      refine ⟨Ht2, ?_⟩
      simp only [Act.put, List.setIfInBounds_toArray, List.set_cons_succ, List.set_cons_zero]
      refine AnyF.takeG (by rfl) 10 (some 69) (.binOp .eql 24 (.tmp 66) (.tmp 68) 24) (some (6, true)) (.bool true) rfl (by kernel_rfl) (by kernel_rfl) (by kernel_rfl) (fun _ _ _ h => h) rfl (fun o h => by obtain rfl := Option.some.inj h; rfl) (fun o ho w2 hw => exec_eqA (.tmp 66) (.tmp 68) ho R IR rfl rfl w2) Ht2 ?_
      simp only [Act.put, List.setIfInBounds_toArray, List.set_cons_succ, List.set_cons_zero]
      refine AnyF.takeG (by rfl) 11 (some 70) (.pick (.tmp 65) (.tmp 69) (.const (.bool false))) none (.bool true) rfl (by kernel_rfl) (by kernel_rfl) (by kernel_rfl) (fun _ _ _ h => h) rfl (fun o h => by obtain rfl := Option.some.inj h; rfl) (fun o ho w2 hw => exec_pickt (.tmp 65) (.tmp 69) (.const (.bool false)) ho rfl _ rfl w2) Ht2 ?_
      simp only [Act.put, List.setIfInBounds_toArray, List.set_cons_succ, List.set_cons_zero]
      refine AnyF.takeG (by rfl) 12 (some 71) (.move (.tmp 70)) none (.bool true) rfl (by kernel_rfl) (by kernel_rfl) (by kernel_rfl) (fun _ _ _ h => h) rfl (fun o h => by obtain rfl := Option.some.inj h; rfl) (fun o ho w2 hw => exec_move (.tmp 70) ho _ rfl w2) Ht2 ?_
      simp only [Act.put, List.setIfInBounds_toArray, List.set_cons_succ, List.set_cons_zero]
      refine AnyF.takeG (by rfl) 13 (some 72) (.move (.tmp 14)) (some (12, true)) (.bool false) rfl (by kernel_rfl) (by kernel_rfl) (by kernel_rfl) (fun _ _ _ h => h) rfl (fun o h => by obtain rfl := Option.some.inj h; rfl) (fun o ho w2 hw => exec_move (.tmp 14) ho _ rfl w2) Ht2 ?_
      simp only [Act.put, List.setIfInBounds_toArray, List.set_cons_succ, List.set_cons_zero]
      refine AnyF.takeG (by rfl) 14 (some 73) (.unOp .not 4 (.tmp 72)) (some (12, true)) (.bool true) rfl (by kernel_rfl) (by kernel_rfl) (by kernel_rfl) (fun _ _ _ h => h) rfl (fun o h => by obtain rfl := Option.some.inj h; rfl) (fun o ho w2 hw => exec_notf (.tmp 72) ho rfl w2) Ht2 ?_
      simp only [Act.put, List.setIfInBounds_toArray, List.set_cons_succ, List.set_cons_zero]
      refine AnyF.takeG (by rfl) 15 (some 74) (.pick (.tmp 71) (.tmp 73) (.const (.bool false))) none (.bool true) rfl (by kernel_rfl) (by kernel_rfl) (by kernel_rfl) (fun _ _ _ h => h) rfl (fun o h => by obtain rfl := Option.some.inj h; rfl) (fun o ho w2 hw => exec_pickt (.tmp 71) (.tmp 73) (.const (.bool false)) ho rfl _ rfl w2) Ht2 ?_
      simp only [Act.put, List.setIfInBounds_toArray, List.set_cons_succ, List.set_cons_zero]
      refine AnyF.takeG (by rfl) 16 (some 75) (.move (.tmp 74)) none (.bool true) rfl (by kernel_rfl) (by kernel_rfl) (by kernel_rfl) (fun _ _ _ h => h) rfl (fun o h => by obtain rfl := Option.some.inj h; rfl) (fun o ho w2 hw => exec_move (.tmp 74) ho _ rfl w2) Ht2 ?_
      simp only [Act.put, List.setIfInBounds_toArray, List.set_cons_succ, List.set_cons_zero]
      refine AnyF.takeG (by rfl) 17 (some 76) (.move (.tmp 16)) (some (16, true)) (.bool false) rfl (by kernel_rfl) (by kernel_rfl) (by kernel_rfl) (fun _ _ _ h => h) rfl (fun o h => by obtain rfl := Option.some.inj h; rfl) (fun o ho w2 hw => exec_move (.tmp 16) ho _ rfl w2) Ht2 ?_
      simp only [Act.put, List.setIfInBounds_toArray, List.set_cons_succ, List.set_cons_zero]
      refine AnyF.takeG (by rfl) 18 (some 77) (.unOp .not 4 (.tmp 76)) (some (16, true)) (.bool true) rfl (by kernel_rfl) (by kernel_rfl) (by kernel_rfl) (fun _ _ _ h => h) rfl (fun o h => by obtain rfl := Option.some.inj h; rfl) (fun o ho w2 hw => exec_notf (.tmp 76) ho rfl w2) Ht2 ?_
      simp only [Act.put, List.setIfInBounds_toArray, List.set_cons_succ, List.set_cons_zero]
      refine AnyF.takeG (by rfl) 19 (some 78) (.pick (.tmp 75) (.tmp 77) (.const (.bool false))) none (.bool true) rfl (by kernel_rfl) (by kernel_rfl) (by kernel_rfl) (fun _ _ _ h => h) rfl (fun o h => by obtain rfl := Option.some.inj h; rfl) (fun o ho w2 hw => exec_pickt (.tmp 75) (.tmp 77) (.const (.bool false)) ho rfl _ rfl w2) Ht2 ?_
      simp only [Act.put, List.setIfInBounds_toArray, List.set_cons_succ, List.set_cons_zero]
      refine AnyF.takeG (by rfl) 20 (some 79) (.move (.tmp 78)) none (.bool true) rfl (by kernel_rfl) (by kernel_rfl) (by kernel_rfl) (fun _ _ _ h => h) rfl (fun o h => by obtain rfl := Option.some.inj h; rfl) (fun o ho w2 hw => exec_move (.tmp 78) ho _ rfl w2) Ht2 ?_
      simp only [Act.put, List.setIfInBounds_toArray, List.set_cons_succ, List.set_cons_zero]
      refine AnyF.takeG (by rfl) 21 (some 80) (.load 24 (.tmp 9)) (some (20, true)) (.agg LG) rfl (by kernel_rfl) (by kernel_rfl) (by kernel_rfl) (fun _ _ _ h => h) rfl (fun o h => by obtain rfl := Option.some.inj h; rfl) (fun o ho w2 hw => exec_load_of _ 24 (.tmp 9) ho ⟨gL, 0, none⟩ rfl _ (hw.load (gL) LG (by simp) ILG)) Ht2 ?_
      simp only [Act.put, List.setIfInBounds_toArray, List.set_cons_succ, List.set_cons_zero]
      refine AnyF.takeG (by rfl) 23 (some 82) (.move (.tmp 8)) (some (20, true)) (.int .i64 (q : Int)) rfl (by kernel_rfl) (by kernel_rfl) (by kernel_rfl) (fun _ _ _ h => h) rfl (fun o h => by obtain rfl := Option.some.inj h; rfl) (fun o ho w2 hw => exec_move (.tmp 8) ho _ rfl w2) Ht2 ?_
      simp only [Act.put, List.setIfInBounds_toArray, List.set_cons_succ, List.set_cons_zero]
      refine AnyF.takeG (by rfl) 24 (some 83) (.convert 3 22 (.tmp 82)) (some (20, true)) (.int .u64 (q : Int)) rfl (by kernel_rfl) (by kernel_rfl) (by kernel_rfl) (fun _ _ _ h => h) rfl (fun o h => by obtain rfl := Option.some.inj h; rfl) (fun o ho w2 hw => exec_conv3 (.tmp 82) ho q hq64 rfl w2) Ht2 ?_
      simp only [Act.put, List.setIfInBounds_toArray, List.set_cons_succ, List.set_cons_zero]
      refine AnyF.takeG (by rfl) 25 (some 84) (.build 24 #[(0, .tmp 83)]) (some (20, true)) (.agg K) rfl (by kernel_rfl) (by kernel_rfl) (by kernel_rfl) (fun _ _ _ h => h) rfl (fun o h => by obtain rfl := Option.some.inj h; rfl) (fun o ho w2 hw => exec_build1 w2 24 0 (.tmp 83) ho (.int .u64 (q : Int)) rfl _ (HBQ.out w2)) Ht2 ?_
      simp only [Act.put, List.setIfInBounds_toArray, List.set_cons_succ, List.set_cons_zero]
      refine AnyF.ready (rs := [22]) (by kernel_rfl) (by simp) (ReadyF.callG (some 81) 9 #[.tmp 80] #[24] (some (20, true)) rfl (fun o h => by obtain rfl := Option.some.inj h; rfl) #[.agg LG] (by simp [Act.eval]) enters9 _ (H9.out _) ?_ (fun c w' h => by cases h.1) (fun w' h => by cases h.1) ReadyF.nil)
      rintro v wt3 ⟨he, hb⟩
      cases he
      have Ht4 := Ht2.below hb
      clear hb
      refine ⟨Ht4, ?_⟩
      simp only [Act.put, List.setIfInBounds_toArray, List.set_cons_succ, List.set_cons_zero]
      refine AnyF.takeG (by rfl) 26 (some 85) (.binOp .eql 24 (.tmp 81) (.tmp 84) 24) (some (20, true)) (.bool true) rfl (by kernel_rfl) (by kernel_rfl) (by kernel_rfl) (fun _ _ _ h => h) rfl (fun o h => by obtain rfl := Option.some.inj h; rfl) (fun o ho w2 hw => exec_eqA (.tmp 81) (.tmp 84) ho K IK rfl rfl w2) Ht4 ?_
      simp only [Act.put, List.setIfInBounds_toArray, List.set_cons_succ, List.set_cons_zero]
      refine AnyF.takeG (by rfl) 27 (some 86) (.pick (.tmp 79) (.tmp 85) (.const (.bool false))) none (.bool true) rfl (by kernel_rfl) (by kernel_rfl) (by kernel_rfl) (fun _ _ _ h => h) rfl (fun o h => by obtain rfl := Option.some.inj h; rfl) (fun o ho w2 hw => exec_pickt (.tmp 79) (.tmp 85) (.const (.bool false)) ho rfl _ rfl w2) Ht4 ?_
      simp only [Act.put, List.setIfInBounds_toArray, List.set_cons_succ, List.set_cons_zero]
      refine AnyF.takeG (by rfl) 28 (some 87) (.move (.tmp 86)) none (.bool true) rfl (by kernel_rfl) (by kernel_rfl) (by kernel_rfl) (fun _ _ _ h => h) rfl (fun o h => by obtain rfl := Option.some.inj h; rfl) (fun o ho w2 hw => exec_move (.tmp 86) ho _ rfl w2) Ht4 ?_
      simp only [Act.put, List.setIfInBounds_toArray, List.set_cons_succ, List.set_cons_zero]
      refine AnyF.ready (rs := [29]) (by kernel_rfl) (by simp) (ReadyF.callG (some 88) 12 #[] #[] (some (28, true)) rfl (fun o h => by obtain rfl := Option.some.inj h; rfl) #[] (by simp [Act.eval]) enters12 _ (H10.out _) ?_ (fun c w' h => by cases h.1) (fun w' h => by cases h.1) ReadyF.nil)
      rintro v wt5 ⟨he, hb⟩
      cases he
      have Ht6 := Ht4.below hb
      clear hb
      refine ⟨Ht6, ?_⟩
      simp only [Act.put, List.setIfInBounds_toArray, List.set_cons_succ, List.set_cons_zero]
      refine AnyF.takeG (by rfl) 30 (some 89) (.pick (.tmp 87) (.tmp 88) (.const (.bool false))) none (.bool true) rfl (by kernel_rfl) (by kernel_rfl) (by kernel_rfl) (fun _ _ _ h => h) rfl (fun o h => by obtain rfl := Option.some.inj h; rfl) (fun o ho w2 hw => exec_pickt (.tmp 87) (.tmp 88) (.const (.bool false)) ho rfl _ rfl w2) Ht6 ?_
      simp only [Act.put, List.setIfInBounds_toArray, List.set_cons_succ, List.set_cons_zero]
      refine AnyF.takeG (by rfl) 31 (some 4) (.assign (.tmp 89)) none (.bool true) rfl (by kernel_rfl) (by kernel_rfl) (by kernel_rfl) (fun _ _ _ h => h) rfl (fun o h => by obtain rfl := Option.some.inj h; rfl) (fun o ho w2 hw => exec_assign (.tmp 89) ho _ rfl w2) Ht6 ?_
      simp only [Act.put, List.setIfInBounds_toArray, List.set_cons_succ, List.set_cons_zero]
      refine AnyF.done (by kernel_rfl) ?_ _
      refine nrm_intro ?_
      go_wp2
      go_ret
      exact ⟨rfl, Ht6.1⟩
end Go.Proofs.Ytkkgeljcgebegaa
