/- The law ScalarBack walked: it returns true at any two texts and any number, and no memory that was there is changed. No condition but that the order stands in memory. -/
import Derived.Test.YtfcnfcolhahghaaDoorLaws
import Derived.Laws.MakeOwn
import Derived.Laws.OwnMore
namespace Go.Proofs.YtfcnfcolhahghaaDoor
open Go.RowKit Go.Shelf
set_option linter.unusedVariables false
set_option linter.unusedSimpArgs false
theorem enters14 : ∀ args w, (callFunc 14 args).run Tryd.prog w = .ok (.enter 14 args) w := enters_of Tryd.func14 (by kernel_rfl) rfl
theorem enters19 : ∀ args w, (callFunc 19 args).run Tryd.prog w = .ok (.enter 19 args) w := enters_of Tryd.func19 (by kernel_rfl) rfl
theorem exec_eqi {ρ : Operand → Value} {o : Oper} (x : Operand) (c : Int) (ho : o.op = .binOp .eql 3 x (.const (.int .i64 c)) 3) (hc : ρ (.const (.int .i64 c)) = .int .i64 c) (hx : ρ x = .int .i64 c) (w : World) : (execOp ρ o).run Tryd.prog w = .ok (.value (.bool true)) w := by
  unfold execOp
  rw [ho]
  simp only [hx, hc]
  go_simp
theorem exec_notf {ρ : Operand → Value} {o : Oper} (x : Operand) (ho : o.op = .unOp .not 4 x) (hx : ρ x = .bool false) (w : World) : (execOp ρ o).run Tryd.prog w = .ok (.value (.bool true)) w := by
  unfold execOp
  rw [ho]
  simp only [hx]
  go_simp
theorem exec_conv419 {ρ : Operand → Value} {o : Oper} (x : Operand) (ho : o.op = .convert 41 9 x) (v : Value) (hx : ρ x = v) (T : ByteArray) (w : World) (h : (Go.convert 41 9 v).run Tryd.prog w = .ok (.string T) w) : (execOp ρ o).run Tryd.prog w = .ok (.value (.string T)) w := by
  subst hx
  unfold execOp
  simp [ho, h]
/-- A text of noughts. -/
def zerosL (m : Nat) : List UInt8 := List.replicate m 0
theorem zerosL_length (m : Nat) : (zerosL m).length = m := by simp [zerosL]
theorem leVal_zeros : ∀ m, leVal (zerosL m) = 0
  | 0 => rfl
  | m + 1 => by
    show (0 : UInt8).toNat + 256 * leVal (zerosL m) = 0
    rw [leVal_zeros m]
    rfl
theorem reduceL_full (l : List UInt8) (h : l.length ≤ 64) : reduceL (l ++ zerosL (64 - l.length)) = reduceL l := by
  unfold reduceL
  rw [List.take_of_length_le h, List.take_of_length_le (by rw [List.length_append, zerosL_length]; omega), leVal_append, leVal_zeros, Nat.mul_zero, Nat.add_zero]
theorem reduceL_more (l m : List UInt8) (h : l.length = 64) : reduceL (l ++ m) = reduceL l := by
  unfold reduceL
  rw [List.take_left' h, List.take_of_length_le (by omega)]
theorem make_zeros (m : Nat) (hm : m ≤ 1000) : ∀ W : World, (Instr.makeSlice 41 (.int .i64 (m : Int)) (.int .i64 (m : Int))).run Tryd.prog W = .ok (.slice (some ⟨W.heap.size, 0, none⟩) m m) (W.alloc (.cells (bytesV (zerosL m)).toArray 5)) := fun W => by
  obtain ⟨i0, hi, hz0, hz1, hz2⟩ := info_parts info5
  have h := run_make (P := Tryd.prog) W 41 5 i0 (.int .u8 0) Tryd.underlying41 hi hz0 .i64 .i64 (m : Int) (m : Int) (by omega) (by omega) (by rw [hz2]; omega) (by omega)
  rw [hz1] at h
  have e : madeCells (Value.int .u8 0).cells m = (bytesV (zerosL m)).toArray := by
    apply Array.toList_inj.1
    rw [show (Value.int .u8 0).cells = #[Value.int .u8 0] from rfl, toList_madeCells_one]
    simp [bytesV, zerosL]
  simpa [e] using h
theorem conv_zeros (m : Nat) (W : World) : (Go.convert 41 9 (.slice (some ⟨W.heap.size, 0, none⟩) m m)).run Tryd.prog (W.alloc (.cells (bytesV (zerosL m)).toArray 5)) = .ok (.string ⟨(zerosL m).toArray⟩) (W.alloc (.cells (bytesV (zerosL m)).toArray 5)) := by
  have h := run_convert_bytes_back (P := Tryd.prog) (W.alloc (.cells (bytesV (zerosL m)).toArray 5)) 41 9 5 ⟨W.heap.size, 0, none⟩ m (zerosL m) Tryd.underlying41 Tryd.underlying5 Tryd.underlying9 (fun j hj => by
    rw [addr_add, Nat.zero_add, cell_of_row _ W.heap.size j _ 5 (0, 0) (heap_alloc_new W _), List.getElem?_toArray]
    unfold bytesV
    rw [List.getElem?_map, List.getElem?_eq_getElem hj]
    rfl)
  rw [zerosL_length] at h
  exact h
set_option maxRecDepth 100000 in
set_option maxHeartbeats 1000000 in
theorem back_any (s mo : ByteArray) (n : Nat) (hs : s.size ≤ 64) (hmo : mo.size ≤ 40) (hn : n < 18446744073709551616) (w : World) (hG0 : Glob w) :
    Calls Tryd.prog 5 #[.string s, .string mo, .int .u64 n] w fun e w' => e = .returned (.bool true) ∧ Below w.heap.size w w' := by
  have HG := Lib.hid hG0
  have hLL : LL = 7237005577332262213973186563042994240857116359379907606001950938285454250989 := rfl
  have hn4 : n < 115792089237316195423570985008687907853269984665640564039457584007913129639936 := by omega
  have hln : LL + n < 115792089237316195423570985008687907853269984665640564039457584007913129639936 := by omega
  have hal := reduceL_lt s.data.toList
  have ham : reduceL s.data.toList % LL = reduceL s.data.toList := Nat.mod_eq_of_lt hal
  have hsl : s.data.toList.length = s.size := rfl
  obtain ⟨m, hm⟩ : ∃ m, m = 64 - s.size := ⟨_, rfl⟩
  have hmI : (64 : Int) - (s.size : Int) = (m : Int) := by omega
  obtain ⟨FL, hFL⟩ : ∃ FL : ByteArray, FL = s ++ (⟨(zerosL m).toArray⟩ : ByteArray) := ⟨_, rfl⟩
  obtain ⟨FM, hFM⟩ : ∃ FM : ByteArray, FM = FL ++ mo := ⟨_, rfl⟩
  have hFLl : FL.data.toList = s.data.toList ++ zerosL m := by rw [hFL]; simp [ByteArray.data_append]
  have hFLs : FL.size = 64 := by
    show FL.data.toList.length = 64
    rw [hFLl, List.length_append, zerosL_length]
    omega
  have hFMl : FM.data.toList = FL.data.toList ++ mo.data.toList := by rw [hFM]; simp [ByteArray.data_append]
  have hFMs : FM.size ≤ 1000 := by
    show FM.data.toList.length ≤ 1000
    rw [hFMl, List.length_append]
    show FL.size + mo.size ≤ 1000
    omega
  have hr1 : reduceL FL.data.toList = reduceL s.data.toList := by rw [hFLl, hm]; exact reduceL_full _ hs
  have hr2 : reduceL FM.data.toList = reduceL s.data.toList := by rw [hFMl, reduceL_more _ _ hFLs]; exact hr1
  have hsb : (⟨(bytesN (reduceL s.data.toList)).toArray⟩ : ByteArray).size = 32 := bytesN_length _
  have H1 : Hid (∀ w, Glob w → _) := Lib.hid (reduce_any s (by omega))
  have H2 : Hid (∀ w, Glob w → _) := Lib.hid (bytes_any (reduceL s.data.toList) (LL_lt hal))
  rw [ham] at H2
  have H3 : Hid (∀ w, Glob w → _) := Lib.hid (from_any ⟨(bytesN (reduceL s.data.toList)).toArray⟩ (by rw [hsb]; omega))
  rw [show fromL (⟨(bytesN (reduceL s.data.toList)).toArray⟩ : ByteArray).data.toList = (reduceL s.data.toList, true) by
    show fromL (bytesN (reduceL s.data.toList)) = _
    unfold fromL
    rw [leVal_bytesN _ (LL_lt hal), if_pos ⟨bytesN_length _, hal⟩]] at H3
  have HO := Lib.hid order_any
  have H4 := Lib.hid (addnum_any LL n (by decide) hn4)
  rw [Nat.mod_eq_of_lt hln, Nat.div_eq_of_lt hln] at H4
  have H6 : Hid (∀ w, Glob w → _) := Lib.hid (from_any ⟨(bytesN (LL + n)).toArray⟩ (by show (bytesN (LL + n)).length ≤ _; rw [bytesN_length]; omega))
  rw [show fromL (⟨(bytesN (LL + n)).toArray⟩ : ByteArray).data.toList = (0, false) by
    show fromL (bytesN (LL + n)) = _
    unfold fromL
    rw [if_neg]
    rintro ⟨_, h⟩
    rw [leVal_bytesN _ hln] at h
    omega] at H6
  have H11 := Lib.hid (less_any (reduceL s.data.toList) LL (LL_lt hal) LL_num)
  rw [show decide (reduceL s.data.toList < LL) = true from decide_eq_true hal] at H11
  have H12 : Hid (∀ w, Glob w → _) := Lib.hid (reduce_any ⟨(bytesN (LL + n)).toArray⟩ (by show (bytesN (LL + n)).length ≤ _; rw [bytesN_length]; omega))
  rw [show reduceL (⟨(bytesN (LL + n)).toArray⟩ : ByteArray).data.toList = n % LL by
    show reduceL (bytesN (LL + n)) = _
    rw [reduceL_bytes _ hln, Nat.add_mod_left]] at H12
  have H13 : Hid (∀ w, Glob w → _) := Lib.hid (muladd_any n 1 0 hn4 (by decide) (by decide))
  rw [muladdL_alone] at H13
  have H14 : Hid (∀ w, Glob w → _) := Lib.hid (reduce_any FL (by omega))
  rw [hr1] at H14
  have H15 : Hid (∀ w, Glob w → _) := Lib.hid (reduce_any FM (by omega))
  rw [hr2] at H15
  have H16 : Hid (∀ w, Glob w → _) := Lib.hid awake_any
  have hbn := build_run n hn
  have hb1 := build_run 1 (by decide)
  have hb0 := build0_run
  have hmk := make_zeros m (by omega)
  have hcz := conv_zeros m
  have hdig : ∀ j, j < 4 → (num (LL + n))[j]? = some (.int .u64 (dig (LL + n) j : Int)) := fun j hj => num_get _ j hj
  obtain ⟨f, hf⟩ : ∃ f, f = dig (LL + n) := ⟨_, rfl⟩
  obtain ⟨lt, hlt⟩ : ∃ lt, lt = leTo (LL + n) := ⟨_, rfl⟩
  have hl0 : lt 0 = [] := by rw [hlt]; rfl
  have hl4 : (⟨(lt 4).toArray⟩ : ByteArray) = ⟨(bytesN (LL + n)).toArray⟩ := by rw [hlt]; rfl
  have hll : ∀ i, i ≤ 4 → (lt i).length = 8 * i := fun i h => by rw [hlt]; exact leTo_length _ i h
  have hls : ∀ i, i < 4 → lt i ++ le8 (f i) = lt (i + 1) := fun i h => by rw [hlt, hf]; exact leTo_step _ i h
  rw [← hf] at hdig
  clear hlt hf
  have hzs : (⟨(zerosL m).toArray⟩ : ByteArray).size ≤ 1000000 := by show (zerosL m).length ≤ _; rw [zerosL_length]; omega
  obtain ⟨A, hA⟩ : ∃ A, Hid (A = num (reduceL s.data.toList)) := ⟨_, Lib.hid rfl⟩
  have IA : IsNum A := by rw [hA.out]; exact isNum _
  obtain ⟨OL, hOL⟩ : ∃ OL, Hid (OL = num LL) := ⟨_, Lib.hid rfl⟩
  have IOL : IsNum OL := by rw [hOL.out]; exact isNum _
  obtain ⟨K, hK⟩ : ∃ K, Hid (K = num n) := ⟨_, Lib.hid rfl⟩
  have IK : IsNum K := by rw [hK.out]; exact isNum _
  obtain ⟨LG, hLG⟩ : ∃ LG, Hid (LG = num (LL + n)) := ⟨_, Lib.hid rfl⟩
  have ILG : IsNum LG := by rw [hLG.out]; exact isNum _
  obtain ⟨NR, hNR⟩ : ∃ NR, Hid (NR = num (n % LL)) := ⟨_, Lib.hid rfl⟩
  have INR : IsNum NR := by rw [hNR.out]; exact isNum _
  obtain ⟨U1, hU1⟩ : ∃ U1, Hid (U1 = num 1) := ⟨_, Lib.hid rfl⟩
  have IU1 : IsNum U1 := by rw [hU1.out]; exact isNum _
  have HZ := zero_run
  obtain ⟨Z, hZ⟩ : ∃ Z, Hid (Z = num 0) := ⟨_, Lib.hid rfl⟩
  have IZ : IsNum Z := by rw [hZ.out]; exact isNum _
  have IZ2 := IZ.size
  have HZ2 : ∀ w, (zeroValue 24).run Tryd.prog w = .ok (.agg Z) w := by rw [hZ.out]; exact HZ
  clear HZ
  obtain ⟨SB, hSB⟩ : ∃ SB : ByteArray, Hid (SB = ⟨(bytesN (reduceL s.data.toList)).toArray⟩) := ⟨_, Lib.hid rfl⟩
  obtain ⟨SL, hSL⟩ : ∃ SL : ByteArray, Hid (SL = ⟨(bytesN (LL + n)).toArray⟩) := ⟨_, Lib.hid rfl⟩
  obtain ⟨ZS, hZS⟩ : ∃ ZS : ByteArray, Hid (ZS = ⟨(zerosL m).toArray⟩) := ⟨_, Lib.hid rfl⟩
  obtain ⟨ZR, hZR⟩ : ∃ ZR, Hid (ZR = (bytesV (zerosL m)).toArray) := ⟨_, Lib.hid rfl⟩
  rw [← hA.out] at H1
  rw [← hA.out, ← hSB.out] at H2
  rw [← hSB.out] at H3 hsb
  rw [show num (reduceL s.data.toList, true).fst = A from hA.out.symm] at H3
  rw [← hOL.out] at HO
  rw [← hOL.out, ← hK.out, ← hLG.out] at H4
  rw [← hSL.out] at H6 hl4
  rw [show num (0, false).fst = Z from hZ.out.symm] at H6
  rw [← hA.out, ← hOL.out] at H11
  rw [← hSL.out, ← hNR.out] at H12
  rw [← hK.out, ← hU1.out, ← hZ.out, ← hNR.out] at H13
  rw [← hA.out] at H14 H15
  rw [← hK.out] at hbn
  rw [← hU1.out] at hb1
  rw [← hZ.out] at hb0
  rw [← hLG.out] at hdig
  rw [← hZR.out] at hmk hcz
  rw [← hZS.out] at hcz hFL hzs
  have HBN := Lib.hid hbn
  have HB1 := Lib.hid hb1
  have HB0 := Lib.hid hb0
  have HMK := Lib.hid hmk
  have HCZ := Lib.hid hcz
  have HFL := Lib.hid hFL.symm
  have HFM := Lib.hid hFM.symm
  have HMI := Lib.hid hmI
  have hsI : (s.size : Int) ≤ 64 := by omega
  have hmoI : (mo.size : Int) ≤ 40 := by omega
  have hs6 : s.size ≤ 1000000 := by omega
  have hm6 : mo.size ≤ 1000000 := by omega
  have hf6 : FL.size ≤ 1000000 := by omega
  clear hG0 hLL hn4 hln hal ham hm hmI hFL hFM hFLl hFMl hFMs hr1 hr2 hbn hb1 hb0 hmk hcz hFLs hA hOL hK hLG hNR hU1 hZ hSB hSL hZS hZR hs hmo hsl hn
  have HS : Hid (Kn w [] w) := Lib.hid (Kn.nil w)
  go_enter Tryd.func5, Tryd.ntmps5
  go_wp2_with fail
  refine (H1.out _ (HG.out.kn HS.out)).mono ?_
  rintro e w1 ⟨rfl, hb⟩
  have HS1 := Lib.hid (HS.out.below hb)
  clear hb HS H1
  have HS2_ : Kn w [(w1.heap.size, A)] (w1.alloc (.cells A 24)) := (HS1.out.new A).sub (fun p hp => by simp at hp ⊢; simp [hp])
  have HS2 := Lib.hid HS2_
  clear HS2_ HS1
  go_upto_region 4 with (first | ((refine wpList_run rfl _ (exec_alloc_agg _ 24 rfl _ (HZ2 _)) ?_); try simp only [World.size_alloc]) | (refine wpList_run0 rfl (exec_new24 _ (.tmp 7) (.tmp 28) rfl _ _ rfl A IA rfl IZ2) ?_))
  try simp only [Act.put, List.setIfInBounds_toArray, List.set_cons_succ, List.set_cons_zero]
  generalize w1.alloc (.cells A 24) = W1 at *
  generalize w1.heap.size = gA at *
  have hl29 := HS2.out.load gA A (by simp) IA
  go_wp2_with (refine wpList_run rfl _ (exec_load_of _ 24 (.tmp 7) rfl ⟨gA, 0, none⟩ rfl (.agg A) hl29) ?_)
  clear hl29
  refine (H2.out _ (HG.out.kn HS2.out)).mono ?_
  rintro e w2 ⟨rfl, hb⟩
  have HS3 := Lib.hid (HS2.out.below hb)
  clear hb HS2 H2
  go_wp2_with fail
  refine (H3.out _ (HG.out.kn HS3.out)).mono ?_
  rintro e w3 ⟨rfl, hb⟩
  have HS4 := Lib.hid (HS3.out.below hb)
  clear hb HS3 H3
  have HS5_ : Kn w [(gA, A), (w3.heap.size, A)] (w3.alloc (.cells A 24)) := (HS4.out.new A).sub (fun p hp => by simp at hp ⊢; rcases hp with h | h <;> simp [h])
  have HS5 := Lib.hid HS5_
  clear HS5_ HS4
  go_upto_region 6 with (first | ((refine wpList_run rfl _ (exec_alloc_agg _ 24 rfl _ (HZ2 _)) ?_); try simp only [World.size_alloc]) | (refine wpList_run0 rfl (exec_new24 _ (.tmp 9) (.tmp 34) rfl _ _ rfl A IA rfl IZ2) ?_))
  try simp only [Act.put, List.setIfInBounds_toArray, List.set_cons_succ, List.set_cons_zero]
  generalize w3.alloc (.cells A 24) = W3 at *
  generalize w3.heap.size = gX at *
  go_wp2_with fail
  have HO2 := HO
  refine (HO2.out _).mono ?_
  rintro e w4 ⟨rfl, hb⟩
  have HS6 := Lib.hid (HS5.out.below hb)
  clear hb HS5 HO2
  go_wp2_with (refine wpList_run rfl _ (exec_build1 _ 24 0 (.tmp 38) rfl (.int .u64 (n : Int)) rfl _ (HBN.out _)) ?_)
  refine (H4.out _).mono ?_
  rintro e w5 ⟨rfl, hb⟩
  have HS7 := Lib.hid (HS6.out.below hb)
  clear hb HS6 H4
  have HS8_ : Kn w [(gA, A), (gX, A), (w5.heap.size, LG)] (w5.alloc (.cells LG 24)) := (HS7.out.new LG).sub (fun p hp => by simp at hp ⊢; rcases hp with h | h | h <;> simp [h])
  have HS8 := Lib.hid HS8_
  clear HS8_ HS7
  go_upto_region 7 with (first | ((refine wpList_run rfl _ (exec_alloc_agg _ 24 rfl _ (HZ2 _)) ?_); try simp only [World.size_alloc]) | (refine wpList_run0 rfl (exec_new24 _ (.tmp 11) (.tmp 41) rfl _ _ rfl LG ILG rfl IZ2) ?_))
  try simp only [Act.put, List.setIfInBounds_toArray, List.set_cons_succ, List.set_cons_zero]
  generalize w5.alloc (.cells LG 24) = W5 at *
  generalize w5.heap.size = gL at *
  go_wp2_with fail
  go_loopw [13, 14] (fun x y wr => ∃ i : Nat, i ≤ 4 ∧ x = .string ⟨(lt i).toArray⟩ ∧ y = .int .i64 i ∧ Kn w [(gA, A), (gX, A), (gL, LG)] wr) (fun _ y _ => 4 - (intOf y).toNat)
  case atStart => exact ⟨0, by omega, by rw [hl0], rfl, HS8.out⟩
  case round =>
    clear HS8
    obtain ⟨i, hi, rfl, rfl, hK⟩ := hrel
    have HK := Lib.hid hK
    clear hK
    by_cases hlt : i < 4
    · have hltI : (i : Int) < 4 := by omega
      have hc0 := (HK.out.cell gL LG (by simp) i).trans (hdig i hlt)
      have H5 := Lib.hid (Little_any (f i))
      have hs5 := hls i hlt
      have hl5 := hll i hi
      have hcs : ((⟨(lt i).toArray⟩ : ByteArray) ++ ⟨(le8 (f i)).toArray⟩) = ⟨(lt (i + 1)).toArray⟩ := by rw [cat_list, hs5]
      have hsz1 : (⟨(lt i).toArray⟩ : ByteArray).size ≤ 1000000 := by show (lt i).length ≤ _; omega
      have hsz2 : (⟨(le8 (f i)).toArray⟩ : ByteArray).size ≤ 1000000 := by show (le8 (f i)).length ≤ _; rw [le8_length]; omega
      generalize (⟨(lt i).toArray⟩ : ByteArray) = S at *
      generalize (⟨(le8 (f i)).toArray⟩ : ByteArray) = T at *
      generalize hS1 : (⟨(lt (i + 1)).toArray⟩ : ByteArray) = S1 at *
      generalize f i = x at *
      clear hs5 hl5
      go_wp2_with (first | (refine wpList_run rfl _ (exec_indexAddr24 (.tmp 11) (.tmp 48) rfl gL i rfl rfl hlt _) ?_) | (refine wpList_run rfl _ (exec_load_one _ 22 (.tmp 49) rfl ⟨gL, i, none⟩ rfl _ hc0 _ Tryd.underlying22 rfl) ?_))
      refine (H5.out _).mono ?_
      rintro e w6 ⟨rfl, hb⟩
      have HK2 := Lib.hid (HK.out.below hb)
      clear hb HK H5
      clear hc0
      go_wp2_with (refine wpList_run rfl _ (exec_catv (.tmp 47) (.tmp 51) rfl S T S1 hsz1 hsz2 hcs rfl rfl _) ?_)
      go_roundw
      case rel => exact ⟨i + 1, by omega, by rw [hS1], by first | rfl | simp | go_num, HK2.out⟩
      case measure => simp [intOf]; omega
    · obtain rfl : i = 4 := by omega
      rw [hl4]
      rw [show ((4 : Nat) : Int) = (4 : Int) from rfl]
      clear hl4 hl0 hll hls hdig hlt hi
      go_wp2_with fail
      refine (H6.out _ (HG.out.kn HK.out)).mono ?_
      rintro e w7 ⟨rfl, hb⟩
      have HS9 := Lib.hid (HK.out.below hb)
      clear hb HK H6
      have HS10 := Lib.hid (HS9.out.alloc (.cells Z 24))
      clear HS9
      go_upto_region 13 with (first | ((refine wpList_run rfl _ (exec_alloc_agg _ 24 rfl _ (HZ2 _)) ?_); try simp only [World.size_alloc]) | (refine wpList_run0 rfl (exec_new24 _ (.tmp 15) (.tmp 56) rfl _ _ rfl Z IZ rfl IZ2) ?_))
      try simp only [Act.put, List.setIfInBounds_toArray, List.set_cons_succ, List.set_cons_zero]
      generalize w7.alloc (.cells Z 24) = W7 at *
      generalize w7.heap.size = gY at *
      have HS11 := Lib.hid (HS10.out.alloc (.cells ZR 5))
      have hmI := HMI.out
      have hmk := HMK.out W7
      go_upto_region 14 with (first | (refine wpList_run rfl _ (exec_conv419 (.tmp 62) rfl _ rfl ZS _ (HCZ.out W7)) ?_) | (refine wpList_run rfl _ (exec_catv (.tmp 58) (.tmp 63) rfl s ZS FL hs6 hzs HFL.out rfl rfl _) ?_))
      try simp only [Act.put, List.setIfInBounds_toArray, List.set_cons_succ, List.set_cons_zero]
      clear hmk hmI HS10
      generalize W7.alloc (.cells ZR 5) = W8 at *
      go_wp2
      refine wp_nrm ?_
      refine wp_region_any (by kernel_rfl) ?_
      change wpAny _ _ _ _ _ _ _ (World.drew _)
      have HD := HS11.out.drew
      clear HS11
      generalize W8.drew = Wd at *
      refine any_of_F (S := Kn w [(gA, A), (gX, A), (gL, LG)]) (f := 1000) _ _ _ _ ?_
      refine AnyF.takeG (by rfl) 0 (some 65) (.load 24 (.tmp 7)) none (.agg A) rfl (by kernel_rfl) (by kernel_rfl) (by kernel_rfl) (fun _ _ _ h => h) rfl (fun o h => by obtain rfl := Option.some.inj h; rfl) (fun o ho w2 hw => exec_load_of _ 24 (.tmp 7) ho ⟨gA, 0, none⟩ rfl _ (hw.load (gA) A (by simp) IA)) HD ?_
      simp only [Act.put, List.setIfInBounds_toArray, List.set_cons_succ, List.set_cons_zero]
      refine AnyF.ready (rs := [1]) (by kernel_rfl) (by simp) (ReadyF.call (some 66) 16 #[] #[] rfl #[] (by simp [Act.eval]) enters16 _ (HO.out _) ?_ (fun c w' h => by cases h.1) (fun w' h => by cases h.1) ReadyF.nil)
      rintro v wt1 ⟨he, hb⟩
      cases he
      have Ht2 := HD.below hb
      clear hb
      refine ⟨Ht2, ?_⟩
      simp only [Act.put, List.setIfInBounds_toArray, List.set_cons_succ, List.set_cons_zero]
      refine AnyF.ready (rs := [2]) (by kernel_rfl) (by simp) (ReadyF.call (some 67) 17 #[.tmp 65, .tmp 66] #[24, 24] rfl #[.agg A, .agg OL] (by simp [Act.eval]) enters17 _ (H11.out _) ?_ (fun c w' h => by cases h.1) (fun w' h => by cases h.1) ReadyF.nil)
      rintro v wt3 ⟨he, hb⟩
      cases he
      have Ht4 := Ht2.below hb
      clear hb
      refine ⟨Ht4, ?_⟩
      simp only [Act.put, List.setIfInBounds_toArray, List.set_cons_succ, List.set_cons_zero]
      refine AnyF.takeG (by rfl) 3 (some 68) (.move (.tmp 67)) none (.bool true) rfl (by kernel_rfl) (by kernel_rfl) (by kernel_rfl) (fun _ _ _ h => h) rfl (fun o h => by obtain rfl := Option.some.inj h; rfl) (fun o ho w2 hw => exec_move (.tmp 67) ho _ rfl w2) Ht4 ?_
      simp only [Act.put, List.setIfInBounds_toArray, List.set_cons_succ, List.set_cons_zero]
      refine AnyF.takeG (by rfl) 4 (some 69) (.move (.tmp 8)) (some (3, true)) (.string SB) rfl (by kernel_rfl) (by kernel_rfl) (by kernel_rfl) (fun _ _ _ h => h) rfl (fun o h => by obtain rfl := Option.some.inj h; rfl) (fun o ho w2 hw => exec_move (.tmp 8) ho _ rfl w2) Ht4 ?_
      simp only [Act.put, List.setIfInBounds_toArray, List.set_cons_succ, List.set_cons_zero]
      refine AnyF.takeG (by rfl) 5 (some 70) (.call { callee := .builtin .len, args := #[.tmp 69], argTypes := #[9] }) (some (3, true)) (.int .i64 32) rfl (by kernel_rfl) (by kernel_rfl) (by kernel_rfl) (fun _ _ _ h => h) rfl (fun o h => by obtain rfl := Option.some.inj h; rfl) (fun o ho w2 hw => exec_len9 (.tmp 69) ho SB 32 hsb rfl w2) Ht4 ?_
      simp only [Act.put, List.setIfInBounds_toArray, List.set_cons_succ, List.set_cons_zero]
      refine AnyF.takeG (by rfl) 6 (some 71) (.binOp .eql 3 (.tmp 70) (.const (.int .i64 32)) 3) (some (3, true)) (.bool true) rfl (by kernel_rfl) (by kernel_rfl) (by kernel_rfl) (fun _ _ _ h => h) rfl (fun o h => by obtain rfl := Option.some.inj h; rfl) (fun o ho w2 hw => exec_eqi (.tmp 70) 32 ho rfl rfl w2) Ht4 ?_
      simp only [Act.put, List.setIfInBounds_toArray, List.set_cons_succ, List.set_cons_zero]
      refine AnyF.takeG (by rfl) 7 (some 72) (.pick (.tmp 68) (.tmp 71) (.const (.bool false))) none (.bool true) rfl (by kernel_rfl) (by kernel_rfl) (by kernel_rfl) (fun _ _ _ h => h) rfl (fun o h => by obtain rfl := Option.some.inj h; rfl) (fun o ho w2 hw => exec_pickt (.tmp 68) (.tmp 71) (.const (.bool false)) ho rfl _ rfl w2) Ht4 ?_
      simp only [Act.put, List.setIfInBounds_toArray, List.set_cons_succ, List.set_cons_zero]
      refine AnyF.takeG (by rfl) 8 (some 73) (.move (.tmp 72)) none (.bool true) rfl (by kernel_rfl) (by kernel_rfl) (by kernel_rfl) (fun _ _ _ h => h) rfl (fun o h => by obtain rfl := Option.some.inj h; rfl) (fun o ho w2 hw => exec_move (.tmp 72) ho _ rfl w2) Ht4 ?_
      simp only [Act.put, List.setIfInBounds_toArray, List.set_cons_succ, List.set_cons_zero]
      refine AnyF.takeG (by rfl) 9 (some 74) (.move (.tmp 10)) (some (8, true)) (.bool true) rfl (by kernel_rfl) (by kernel_rfl) (by kernel_rfl) (fun _ _ _ h => h) rfl (fun o h => by obtain rfl := Option.some.inj h; rfl) (fun o ho w2 hw => exec_move (.tmp 10) ho _ rfl w2) Ht4 ?_
      simp only [Act.put, List.setIfInBounds_toArray, List.set_cons_succ, List.set_cons_zero]
      refine AnyF.takeG (by rfl) 10 (some 75) (.pick (.tmp 73) (.tmp 74) (.const (.bool false))) none (.bool true) rfl (by kernel_rfl) (by kernel_rfl) (by kernel_rfl) (fun _ _ _ h => h) rfl (fun o h => by obtain rfl := Option.some.inj h; rfl) (fun o ho w2 hw => exec_pickt (.tmp 73) (.tmp 74) (.const (.bool false)) ho rfl _ rfl w2) Ht4 ?_
      simp only [Act.put, List.setIfInBounds_toArray, List.set_cons_succ, List.set_cons_zero]
      refine AnyF.takeG (by rfl) 11 (some 76) (.move (.tmp 75)) none (.bool true) rfl (by kernel_rfl) (by kernel_rfl) (by kernel_rfl) (fun _ _ _ h => h) rfl (fun o h => by obtain rfl := Option.some.inj h; rfl) (fun o ho w2 hw => exec_move (.tmp 75) ho _ rfl w2) Ht4 ?_
      simp only [Act.put, List.setIfInBounds_toArray, List.set_cons_succ, List.set_cons_zero]
      refine AnyF.takeG (by rfl) 12 (some 77) (.load 24 (.tmp 9)) (some (11, true)) (.agg A) rfl (by kernel_rfl) (by kernel_rfl) (by kernel_rfl) (fun _ _ _ h => h) rfl (fun o h => by obtain rfl := Option.some.inj h; rfl) (fun o ho w2 hw => exec_load_of _ 24 (.tmp 9) ho ⟨gX, 0, none⟩ rfl _ (hw.load (gX) A (by simp) IA)) Ht4 ?_
      simp only [Act.put, List.setIfInBounds_toArray, List.set_cons_succ, List.set_cons_zero]
      refine AnyF.takeG (by rfl) 13 (some 78) (.load 24 (.tmp 7)) (some (11, true)) (.agg A) rfl (by kernel_rfl) (by kernel_rfl) (by kernel_rfl) (fun _ _ _ h => h) rfl (fun o h => by obtain rfl := Option.some.inj h; rfl) (fun o ho w2 hw => exec_load_of _ 24 (.tmp 7) ho ⟨gA, 0, none⟩ rfl _ (hw.load (gA) A (by simp) IA)) Ht4 ?_
      simp only [Act.put, List.setIfInBounds_toArray, List.set_cons_succ, List.set_cons_zero]
      refine AnyF.takeG (by rfl) 14 (some 79) (.binOp .eql 24 (.tmp 77) (.tmp 78) 24) (some (11, true)) (.bool true) rfl (by kernel_rfl) (by kernel_rfl) (by kernel_rfl) (fun _ _ _ h => h) rfl (fun o h => by obtain rfl := Option.some.inj h; rfl) (fun o ho w2 hw => exec_eqA (.tmp 77) (.tmp 78) ho A IA rfl rfl w2) Ht4 ?_
      simp only [Act.put, List.setIfInBounds_toArray, List.set_cons_succ, List.set_cons_zero]
      refine AnyF.takeG (by rfl) 15 (some 80) (.pick (.tmp 76) (.tmp 79) (.const (.bool false))) none (.bool true) rfl (by kernel_rfl) (by kernel_rfl) (by kernel_rfl) (fun _ _ _ h => h) rfl (fun o h => by obtain rfl := Option.some.inj h; rfl) (fun o ho w2 hw => exec_pickt (.tmp 76) (.tmp 79) (.const (.bool false)) ho rfl _ rfl w2) Ht4 ?_
      simp only [Act.put, List.setIfInBounds_toArray, List.set_cons_succ, List.set_cons_zero]
      refine AnyF.takeG (by rfl) 16 (some 81) (.move (.tmp 80)) none (.bool true) rfl (by kernel_rfl) (by kernel_rfl) (by kernel_rfl) (fun _ _ _ h => h) rfl (fun o h => by obtain rfl := Option.some.inj h; rfl) (fun o ho w2 hw => exec_move (.tmp 80) ho _ rfl w2) Ht4 ?_
      simp only [Act.put, List.setIfInBounds_toArray, List.set_cons_succ, List.set_cons_zero]
      refine AnyF.takeG (by rfl) 17 (some 82) (.move (.tmp 16)) (some (16, true)) (.bool false) rfl (by kernel_rfl) (by kernel_rfl) (by kernel_rfl) (fun _ _ _ h => h) rfl (fun o h => by obtain rfl := Option.some.inj h; rfl) (fun o ho w2 hw => exec_move (.tmp 16) ho _ rfl w2) Ht4 ?_
      simp only [Act.put, List.setIfInBounds_toArray, List.set_cons_succ, List.set_cons_zero]
      refine AnyF.takeG (by rfl) 18 (some 83) (.unOp .not 4 (.tmp 82)) (some (16, true)) (.bool true) rfl (by kernel_rfl) (by kernel_rfl) (by kernel_rfl) (fun _ _ _ h => h) rfl (fun o h => by obtain rfl := Option.some.inj h; rfl) (fun o ho w2 hw => exec_notf (.tmp 82) ho rfl w2) Ht4 ?_
      simp only [Act.put, List.setIfInBounds_toArray, List.set_cons_succ, List.set_cons_zero]
      refine AnyF.takeG (by rfl) 19 (some 84) (.pick (.tmp 81) (.tmp 83) (.const (.bool false))) none (.bool true) rfl (by kernel_rfl) (by kernel_rfl) (by kernel_rfl) (fun _ _ _ h => h) rfl (fun o h => by obtain rfl := Option.some.inj h; rfl) (fun o ho w2 hw => exec_pickt (.tmp 81) (.tmp 83) (.const (.bool false)) ho rfl _ rfl w2) Ht4 ?_
      simp only [Act.put, List.setIfInBounds_toArray, List.set_cons_succ, List.set_cons_zero]
      refine AnyF.takeG (by rfl) 20 (some 85) (.move (.tmp 84)) none (.bool true) rfl (by kernel_rfl) (by kernel_rfl) (by kernel_rfl) (fun _ _ _ h => h) rfl (fun o h => by obtain rfl := Option.some.inj h; rfl) (fun o ho w2 hw => exec_move (.tmp 84) ho _ rfl w2) Ht4 ?_
      simp only [Act.put, List.setIfInBounds_toArray, List.set_cons_succ, List.set_cons_zero]
      refine AnyF.takeG (by rfl) 21 (some 86) (.move (.tmp 13)) (some (20, true)) (.string SL) rfl (by kernel_rfl) (by kernel_rfl) (by kernel_rfl) (fun _ _ _ h => h) rfl (fun o h => by obtain rfl := Option.some.inj h; rfl) (fun o ho w2 hw => exec_move (.tmp 13) ho _ rfl w2) Ht4 ?_
      simp only [Act.put, List.setIfInBounds_toArray, List.set_cons_succ, List.set_cons_zero]
      refine AnyF.takeG (by rfl) 23 (some 88) (.move (.tmp 2)) (some (20, true)) (.int .u64 (n : Int)) rfl (by kernel_rfl) (by kernel_rfl) (by kernel_rfl) (fun _ _ _ h => h) rfl (fun o h => by obtain rfl := Option.some.inj h; rfl) (fun o ho w2 hw => exec_move (.tmp 2) ho _ rfl w2) Ht4 ?_
      simp only [Act.put, List.setIfInBounds_toArray, List.set_cons_succ, List.set_cons_zero]
      refine AnyF.takeG (by rfl) 24 (some 89) (.build 24 #[(0, .tmp 88)]) (some (20, true)) (.agg K) rfl (by kernel_rfl) (by kernel_rfl) (by kernel_rfl) (fun _ _ _ h => h) rfl (fun o h => by obtain rfl := Option.some.inj h; rfl) (fun o ho w2 hw => exec_build1 w2 24 0 (.tmp 88) ho (.int .u64 (n : Int)) rfl _ (HBN.out w2)) Ht4 ?_
      simp only [Act.put, List.setIfInBounds_toArray, List.set_cons_succ, List.set_cons_zero]
      refine AnyF.takeG (by rfl) 25 (some 90) (.build 24 #[(0, .const (.int .u64 1))]) (some (20, true)) (.agg U1) rfl (by kernel_rfl) (by kernel_rfl) (by kernel_rfl) (fun _ _ _ h => h) rfl (fun o h => by obtain rfl := Option.some.inj h; rfl) (fun o ho w2 hw => exec_build1 w2 24 0 (.const (.int .u64 1)) ho _ rfl _ (HB1.out w2)) Ht4 ?_
      simp only [Act.put, List.setIfInBounds_toArray, List.set_cons_succ, List.set_cons_zero]
      refine AnyF.takeG (by rfl) 26 (some 91) (.build 24 #[]) (some (20, true)) (.agg Z) rfl (by kernel_rfl) (by kernel_rfl) (by kernel_rfl) (fun _ _ _ h => h) rfl (fun o h => by obtain rfl := Option.some.inj h; rfl) (fun o ho w2 hw => exec_build0 ho _ (HB0.out w2) w2) Ht4 ?_
      simp only [Act.put, List.setIfInBounds_toArray, List.set_cons_succ, List.set_cons_zero]
      refine AnyF.ready (rs := [22]) (by kernel_rfl) (by simp) (ReadyF.callG (some 87) 10 #[.tmp 86] #[9] (some (20, true)) rfl (fun o h => by obtain rfl := Option.some.inj h; rfl) #[.string SL] (by simp [Act.eval]) enters10 _ (H12.out _ (HG.out.kn Ht4)) ?_ (fun c w' h => by cases h.1) (fun w' h => by cases h.1) ReadyF.nil)
      rintro v wt5 ⟨he, hb⟩
      cases he
      have Ht6 := Ht4.below hb
      clear hb
      refine ⟨Ht6, ?_⟩
      simp only [Act.put, List.setIfInBounds_toArray, List.set_cons_succ, List.set_cons_zero]
      refine AnyF.ready (rs := [27]) (by kernel_rfl) (by simp) (ReadyF.callG (some 92) 12 #[.tmp 89, .tmp 90, .tmp 91] #[24, 24, 24] (some (20, true)) rfl (fun o h => by obtain rfl := Option.some.inj h; rfl) #[.agg K, .agg U1, .agg Z] (by simp [Act.eval]) enters12 _ (H13.out _ (HG.out.kn Ht6)) ?_ (fun c w' h => by cases h.1) (fun w' h => by cases h.1) ReadyF.nil)
      rintro v wt7 ⟨he, hb⟩
      cases he
      have Ht8 := Ht6.below hb
      clear hb
      refine ⟨Ht8, ?_⟩
      simp only [Act.put, List.setIfInBounds_toArray, List.set_cons_succ, List.set_cons_zero]
      refine AnyF.takeG (by rfl) 28 (some 93) (.binOp .eql 24 (.tmp 87) (.tmp 92) 24) (some (20, true)) (.bool true) rfl (by kernel_rfl) (by kernel_rfl) (by kernel_rfl) (fun _ _ _ h => h) rfl (fun o h => by obtain rfl := Option.some.inj h; rfl) (fun o ho w2 hw => exec_eqA (.tmp 87) (.tmp 92) ho NR INR rfl rfl w2) Ht8 ?_
      simp only [Act.put, List.setIfInBounds_toArray, List.set_cons_succ, List.set_cons_zero]
      refine AnyF.takeG (by rfl) 29 (some 94) (.pick (.tmp 85) (.tmp 93) (.const (.bool false))) none (.bool true) rfl (by kernel_rfl) (by kernel_rfl) (by kernel_rfl) (fun _ _ _ h => h) rfl (fun o h => by obtain rfl := Option.some.inj h; rfl) (fun o ho w2 hw => exec_pickt (.tmp 85) (.tmp 93) (.const (.bool false)) ho rfl _ rfl w2) Ht8 ?_
      simp only [Act.put, List.setIfInBounds_toArray, List.set_cons_succ, List.set_cons_zero]
      refine AnyF.takeG (by rfl) 30 (some 95) (.move (.tmp 94)) none (.bool true) rfl (by kernel_rfl) (by kernel_rfl) (by kernel_rfl) (fun _ _ _ h => h) rfl (fun o h => by obtain rfl := Option.some.inj h; rfl) (fun o ho w2 hw => exec_move (.tmp 94) ho _ rfl w2) Ht8 ?_
      simp only [Act.put, List.setIfInBounds_toArray, List.set_cons_succ, List.set_cons_zero]
      refine AnyF.takeG (by rfl) 31 (some 96) (.move (.tmp 17)) (some (30, true)) (.string FL) rfl (by kernel_rfl) (by kernel_rfl) (by kernel_rfl) (fun _ _ _ h => h) rfl (fun o h => by obtain rfl := Option.some.inj h; rfl) (fun o ho w2 hw => exec_move (.tmp 17) ho _ rfl w2) Ht8 ?_
      simp only [Act.put, List.setIfInBounds_toArray, List.set_cons_succ, List.set_cons_zero]
      refine AnyF.takeG (by rfl) 33 (some 98) (.load 24 (.tmp 7)) (some (30, true)) (.agg A) rfl (by kernel_rfl) (by kernel_rfl) (by kernel_rfl) (fun _ _ _ h => h) rfl (fun o h => by obtain rfl := Option.some.inj h; rfl) (fun o ho w2 hw => exec_load_of _ 24 (.tmp 7) ho ⟨gA, 0, none⟩ rfl _ (hw.load (gA) A (by simp) IA)) Ht8 ?_
      simp only [Act.put, List.setIfInBounds_toArray, List.set_cons_succ, List.set_cons_zero]
      refine AnyF.ready (rs := [32]) (by kernel_rfl) (by simp) (ReadyF.callG (some 97) 10 #[.tmp 96] #[9] (some (30, true)) rfl (fun o h => by obtain rfl := Option.some.inj h; rfl) #[.string FL] (by simp [Act.eval]) enters10 _ (H14.out _ (HG.out.kn Ht8)) ?_ (fun c w' h => by cases h.1) (fun w' h => by cases h.1) ReadyF.nil)
      rintro v wt9 ⟨he, hb⟩
      cases he
      have Ht10 := Ht8.below hb
      clear hb
      refine ⟨Ht10, ?_⟩
      simp only [Act.put, List.setIfInBounds_toArray, List.set_cons_succ, List.set_cons_zero]
      refine AnyF.takeG (by rfl) 34 (some 99) (.binOp .eql 24 (.tmp 97) (.tmp 98) 24) (some (30, true)) (.bool true) rfl (by kernel_rfl) (by kernel_rfl) (by kernel_rfl) (fun _ _ _ h => h) rfl (fun o h => by obtain rfl := Option.some.inj h; rfl) (fun o ho w2 hw => exec_eqA (.tmp 97) (.tmp 98) ho A IA rfl rfl w2) Ht10 ?_
      simp only [Act.put, List.setIfInBounds_toArray, List.set_cons_succ, List.set_cons_zero]
      refine AnyF.takeG (by rfl) 35 (some 100) (.pick (.tmp 95) (.tmp 99) (.const (.bool false))) none (.bool true) rfl (by kernel_rfl) (by kernel_rfl) (by kernel_rfl) (fun _ _ _ h => h) rfl (fun o h => by obtain rfl := Option.some.inj h; rfl) (fun o ho w2 hw => exec_pickt (.tmp 95) (.tmp 99) (.const (.bool false)) ho rfl _ rfl w2) Ht10 ?_
      simp only [Act.put, List.setIfInBounds_toArray, List.set_cons_succ, List.set_cons_zero]
      refine AnyF.takeG (by rfl) 36 (some 101) (.move (.tmp 100)) none (.bool true) rfl (by kernel_rfl) (by kernel_rfl) (by kernel_rfl) (fun _ _ _ h => h) rfl (fun o h => by obtain rfl := Option.some.inj h; rfl) (fun o ho w2 hw => exec_move (.tmp 100) ho _ rfl w2) Ht10 ?_
      simp only [Act.put, List.setIfInBounds_toArray, List.set_cons_succ, List.set_cons_zero]
      refine AnyF.takeG (by rfl) 37 (some 102) (.move (.tmp 17)) (some (36, true)) (.string FL) rfl (by kernel_rfl) (by kernel_rfl) (by kernel_rfl) (fun _ _ _ h => h) rfl (fun o h => by obtain rfl := Option.some.inj h; rfl) (fun o ho w2 hw => exec_move (.tmp 17) ho _ rfl w2) Ht10 ?_
      simp only [Act.put, List.setIfInBounds_toArray, List.set_cons_succ, List.set_cons_zero]
      refine AnyF.takeG (by rfl) 38 (some 103) (.move (.tmp 1)) (some (36, true)) (.string mo) rfl (by kernel_rfl) (by kernel_rfl) (by kernel_rfl) (fun _ _ _ h => h) rfl (fun o h => by obtain rfl := Option.some.inj h; rfl) (fun o ho w2 hw => exec_move (.tmp 1) ho _ rfl w2) Ht10 ?_
      simp only [Act.put, List.setIfInBounds_toArray, List.set_cons_succ, List.set_cons_zero]
      refine AnyF.takeG (by rfl) 39 (some 104) (.binOp .add 9 (.tmp 102) (.tmp 103) 9) (some (36, true)) (.string FM) rfl (by kernel_rfl) (by kernel_rfl) (by kernel_rfl) (fun _ _ _ h => h) rfl (fun o h => by obtain rfl := Option.some.inj h; rfl) (fun o ho w2 hw => exec_catv (.tmp 102) (.tmp 103) ho FL mo FM hf6 hm6 HFM.out rfl rfl w2) Ht10 ?_
      simp only [Act.put, List.setIfInBounds_toArray, List.set_cons_succ, List.set_cons_zero]
      refine AnyF.takeG (by rfl) 41 (some 106) (.load 24 (.tmp 7)) (some (36, true)) (.agg A) rfl (by kernel_rfl) (by kernel_rfl) (by kernel_rfl) (fun _ _ _ h => h) rfl (fun o h => by obtain rfl := Option.some.inj h; rfl) (fun o ho w2 hw => exec_load_of _ 24 (.tmp 7) ho ⟨gA, 0, none⟩ rfl _ (hw.load (gA) A (by simp) IA)) Ht10 ?_
      simp only [Act.put, List.setIfInBounds_toArray, List.set_cons_succ, List.set_cons_zero]
      refine AnyF.ready (rs := [40]) (by kernel_rfl) (by simp) (ReadyF.callG (some 105) 10 #[.tmp 104] #[9] (some (36, true)) rfl (fun o h => by obtain rfl := Option.some.inj h; rfl) #[.string FM] (by simp [Act.eval]) enters10 _ (H15.out _ (HG.out.kn Ht10)) ?_ (fun c w' h => by cases h.1) (fun w' h => by cases h.1) ReadyF.nil)
      rintro v wt11 ⟨he, hb⟩
      cases he
      have Ht12 := Ht10.below hb
      clear hb
      refine ⟨Ht12, ?_⟩
      simp only [Act.put, List.setIfInBounds_toArray, List.set_cons_succ, List.set_cons_zero]
      refine AnyF.takeG (by rfl) 42 (some 107) (.binOp .eql 24 (.tmp 105) (.tmp 106) 24) (some (36, true)) (.bool true) rfl (by kernel_rfl) (by kernel_rfl) (by kernel_rfl) (fun _ _ _ h => h) rfl (fun o h => by obtain rfl := Option.some.inj h; rfl) (fun o ho w2 hw => exec_eqA (.tmp 105) (.tmp 106) ho A IA rfl rfl w2) Ht12 ?_
      simp only [Act.put, List.setIfInBounds_toArray, List.set_cons_succ, List.set_cons_zero]
      refine AnyF.takeG (by rfl) 43 (some 108) (.pick (.tmp 101) (.tmp 107) (.const (.bool false))) none (.bool true) rfl (by kernel_rfl) (by kernel_rfl) (by kernel_rfl) (fun _ _ _ h => h) rfl (fun o h => by obtain rfl := Option.some.inj h; rfl) (fun o ho w2 hw => exec_pickt (.tmp 101) (.tmp 107) (.const (.bool false)) ho rfl _ rfl w2) Ht12 ?_
      simp only [Act.put, List.setIfInBounds_toArray, List.set_cons_succ, List.set_cons_zero]
      refine AnyF.takeG (by rfl) 44 (some 109) (.move (.tmp 108)) none (.bool true) rfl (by kernel_rfl) (by kernel_rfl) (by kernel_rfl) (fun _ _ _ h => h) rfl (fun o h => by obtain rfl := Option.some.inj h; rfl) (fun o ho w2 hw => exec_move (.tmp 108) ho _ rfl w2) Ht12 ?_
      simp only [Act.put, List.setIfInBounds_toArray, List.set_cons_succ, List.set_cons_zero]
      refine AnyF.ready (rs := [45]) (by kernel_rfl) (by simp) (ReadyF.callG (some 110) 7 #[] #[] (some (44, true)) rfl (fun o h => by obtain rfl := Option.some.inj h; rfl) #[] (by simp [Act.eval]) enters7 _ (H16.out _ (HG.out.kn Ht12)) ?_ (fun c w' h => by cases h.1) (fun w' h => by cases h.1) ReadyF.nil)
      rintro v wt13 ⟨he, hb⟩
      cases he
      have Ht14 := Ht12.below hb
      clear hb
      refine ⟨Ht14, ?_⟩
      simp only [Act.put, List.setIfInBounds_toArray, List.set_cons_succ, List.set_cons_zero]
      refine AnyF.takeG (by rfl) 46 (some 111) (.pick (.tmp 109) (.tmp 110) (.const (.bool false))) none (.bool true) rfl (by kernel_rfl) (by kernel_rfl) (by kernel_rfl) (fun _ _ _ h => h) rfl (fun o h => by obtain rfl := Option.some.inj h; rfl) (fun o ho w2 hw => exec_pickt (.tmp 109) (.tmp 110) (.const (.bool false)) ho rfl _ rfl w2) Ht14 ?_
      simp only [Act.put, List.setIfInBounds_toArray, List.set_cons_succ, List.set_cons_zero]
      refine AnyF.takeG (by rfl) 47 (some 6) (.assign (.tmp 111)) none (.bool true) rfl (by kernel_rfl) (by kernel_rfl) (by kernel_rfl) (fun _ _ _ h => h) rfl (fun o h => by obtain rfl := Option.some.inj h; rfl) (fun o ho w2 hw => exec_assign (.tmp 111) ho _ rfl w2) Ht14 ?_
      simp only [Act.put, List.setIfInBounds_toArray, List.set_cons_succ, List.set_cons_zero]
      refine AnyF.done (by kernel_rfl) ?_ _
      refine nrm_intro ?_
      go_wp2
      go_ret
      exact ⟨rfl, Ht14.1⟩
set_option maxRecDepth 100000 in
set_option maxHeartbeats 1000000 in
theorem back_law (s mo : ByteArray) (a2 : Int) (hs : s.size ≤ maxLen) (hmo : mo.size ≤ maxLen) (w2 : (Lit.int .u64 a2).wf = true) (w : World) (hG0 : Glob w) :
    Calls Tryd.prog 5 #[.string s, .string mo, .int .u64 a2] w fun e w' => e = .returned (.bool true) ∧ Below w.heap.size w w' := by
  by_cases h : s.size ≤ 64
  · by_cases h2 : mo.size ≤ 40
    · simp [Lit.wf, IntKind.min, IntKind.max, IntKind.signed, IntKind.bits] at w2
      obtain ⟨n, rfl⟩ := Int.eq_ofNat_of_zero_le w2.1
      exact back_any s mo n h h2 (by omega) w hG0
    · have hI : (s.size : Int) ≤ 64 := by omega
      have hI2 : (40 : Int) < (mo.size : Int) := by omega
      have H := Lib.hid (awake_any w hG0)
      clear hG0
      unfold maxLen at *
      go_enter Tryd.func5, Tryd.ntmps5
      go_wp2_with fail
      refine H.out.mono ?_
      rintro e w1 ⟨rfl, hb⟩
      go_wp2
      go_ret
      exact ⟨rfl, hb⟩
  · have hI : (64 : Int) < (s.size : Int) := by omega
    have H := Lib.hid (awake_any w hG0)
    clear hG0
    unfold maxLen at *
    go_enter Tryd.func5, Tryd.ntmps5
    go_wp2_with fail
    refine H.out.mono ?_
    rintro e w1 ⟨rfl, hb⟩
    go_wp2
    go_ret
    exact ⟨rfl, hb⟩
end Go.Proofs.YtfcnfcolhahghaaDoor
