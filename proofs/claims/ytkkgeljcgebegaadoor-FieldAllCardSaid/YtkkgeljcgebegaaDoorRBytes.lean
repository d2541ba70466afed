/- bytes, Bytes, From of the document: the bytes of a number, and the number that bytes say. No condition but that the number has 256 bits, that the text may lie in memory. -/
import Derived.Test.YtkkgeljcgebegaaDoorRNum
import Derived.Test.YtkkgeljcgebegaaDoorLit
namespace Go.Proofs.YtkkgeljcgebegaaDoor
open Go.RowKit Go.Shelf
set_option linter.unusedVariables false
set_option linter.unusedSimpArgs false
theorem exec_len9 {ρ : Operand → Value} {o : Oper} (x : Operand) (ho : o.op = .call { callee := .builtin .len, args := #[x], argTypes := #[9] }) (s : ByteArray) (i : Nat) (hi : s.size = i) (hx : ρ x = .string s) (w : World) : (execOp ρ o).run Tryd.prog w = .ok (.value (.int .i64 (i : Int))) w := by
  subst hi
  unfold execOp
  simp [ho, hx, go_sem]
theorem exec_cat {ρ : Operand → Value} {o : Oper} (x y : Operand) (ho : o.op = .binOp .add 9 x y 9) (S T : ByteArray) (hS : S.size ≤ 1000000) (hT : T.size ≤ 1000000) (hx : ρ x = .string S) (hy : ρ y = .string T) (w : World) : (execOp ρ o).run Tryd.prog w = .ok (.value (.string (S ++ T))) w := by
  have hu := Tryd.underlying9
  have hst : S.size + T.size ≤ 9223372036854775807 := by omega
  unfold execOp
  simp only [ho, hx, hy]
  go_simp
theorem exec_catv {ρ : Operand → Value} {o : Oper} (x y : Operand) (ho : o.op = .binOp .add 9 x y 9) (S T V : ByteArray) (hS : S.size ≤ 1000000) (hT : T.size ≤ 1000000) (hV : S ++ T = V) (hx : ρ x = .string S) (hy : ρ y = .string T) (w : World) : (execOp ρ o).run Tryd.prog w = .ok (.value (.string V)) w := by
  subst hV
  exact exec_cat x y ho S T hS hT hx hy w
def leTo (N i : Nat) : List UInt8 := leW (dig N) ((List.finRange 4).take i)
theorem leTo_length (N i : Nat) (h : i ≤ 4) : (leTo N i).length = 8 * i := by
  unfold leTo
  rw [leW_length, List.length_take, List.length_finRange]
  omega
theorem leTo_step (N i : Nat) (h : i < 4) : leTo N i ++ le8 (dig N i) = leTo N (i + 1) := by
  unfold leTo
  rw [List.take_succ_eq_append_getElem (by rw [List.length_finRange]; exact h), leW_snoc]
  simp
theorem leTo_all (N : Nat) : leTo N 4 = bytesN N := rfl
theorem cat_list (l m : List UInt8) : (⟨l.toArray⟩ : ByteArray) ++ ⟨m.toArray⟩ = ⟨(l ++ m).toArray⟩ := by
  apply ByteArray.ext
  simp
theorem leVal_inj : ∀ l m : List UInt8, l.length = m.length → leVal l = leVal m → l = m
  | [], [], _, _ => rfl
  | [], _ :: _, h, _ => by simp at h
  | _ :: _, [], h, _ => by simp at h
  | x :: l, y :: m, h, e => by
    have hx := x.toNat_lt
    have hy := y.toNat_lt
    simp only [leVal] at e
    have h1 : x.toNat = y.toNat := by omega
    have h2 : leVal l = leVal m := by omega
    rw [UInt8.toNat_inj.1 h1, leVal_inj l m (by simpa using h) h2]
set_option maxRecDepth 100000 in
set_option maxHeartbeats 1000000 in
theorem rbytes0_any (a : Nat) (w : World) :
    Calls Tryd.prog 40 #[.agg (num a)] w fun e w' => e = .returned (.string ⟨(bytesN a).toArray⟩) ∧ Below w.heap.size w w' := by
  obtain ⟨lt, hlt⟩ : ∃ lt, lt = leTo a := ⟨_, rfl⟩
  have hl0 : lt 0 = [] := by rw [hlt]; rfl
  have hl4 : (⟨(lt 4).toArray⟩ : ByteArray) = ⟨(bytesN a).toArray⟩ := by rw [hlt]; rfl
  have hll : ∀ i, i ≤ 4 → (lt i).length = 8 * i := fun i h => by rw [hlt]; exact leTo_length _ i h
  have hls : ∀ i, i < 4 → lt i ++ le8 (dig a i) = lt (i + 1) := fun i h => by rw [hlt]; exact leTo_step _ i h
  obtain ⟨SB, hSB⟩ : ∃ SB : ByteArray, Hid (SB = ⟨(bytesN a).toArray⟩) := ⟨_, Lib.hid rfl⟩
  rw [← hSB.out] at hl4
  obtain ⟨A, hA⟩ : ∃ A, Hid (A = num a) := ⟨_, Lib.hid rfl⟩
  have hdig : ∀ i, i < 4 → A[i]? = some (.int .u64 (dig a i : Int)) := fun i h => by rw [hA.out, num_get a i h]
  rw [← hA.out, ← hSB.out]
  clear hlt hA hSB
  have HS : Hid (Kn w [(w.heap.size, A)] (w.alloc (.cells A 24))) := Lib.hid ((Kn.nil w).new A)
  go_enter Tryd.func40, Tryd.ntmps40
  go_wp2
  generalize w.alloc (.cells A 24) = W0 at *
  go_loopw [3, 4] (fun x y wr => ∃ i : Nat, i ≤ 4 ∧ x = .string ⟨(lt i).toArray⟩ ∧ y = .int .i64 i ∧ Kn w [(w.heap.size, A)] wr) (fun _ y _ => 4 - (intOf y).toNat)
  case atStart => exact ⟨0, by omega, by rw [hl0], rfl, HS.out⟩
  case round =>
    clear HS
    obtain ⟨i, hi, rfl, rfl, hK⟩ := hrel
    have HK := Lib.hid hK
    clear hK
    by_cases hlt : i < 4
    · have hltI : (i : Int) < 4 := by omega
      have hc0 := (HK.out.cell (w.heap.size) A (by simp) i).trans (hdig i hlt)
      have H5 := Lib.hid (Little_any (dig a i))
      have hs5 := hls i hlt
      have hl5 := hll i hi
      have hcs : ((⟨(lt i).toArray⟩ : ByteArray) ++ ⟨(le8 (dig a i)).toArray⟩) = ⟨(lt (i + 1)).toArray⟩ := by rw [cat_list, hs5]
      have hsz1 : (⟨(lt i).toArray⟩ : ByteArray).size ≤ 1000000 := by show (lt i).length ≤ _; omega
      have hsz2 : (⟨(le8 (dig a i)).toArray⟩ : ByteArray).size ≤ 1000000 := by show (le8 (dig a i)).length ≤ _; rw [le8_length]; omega
      generalize (⟨(lt i).toArray⟩ : ByteArray) = S at *
      generalize (⟨(le8 (dig a i)).toArray⟩ : ByteArray) = T at *
      generalize hS1 : (⟨(lt (i + 1)).toArray⟩ : ByteArray) = S1 at *
      generalize dig a i = x at *
      clear hs5 hl5
      go_wp2_with (first | (refine wpList_run rfl _ (exec_indexAddr24 (.tmp 1) (.tmp 10) rfl (w.heap.size) i rfl rfl hlt _) ?_) | (refine wpList_run rfl _ (exec_load_one _ 22 (.tmp 11) rfl ⟨w.heap.size, i, none⟩ rfl _ hc0 _ Tryd.underlying22 rfl) ?_))
      refine (H5.out _).mono ?_
      rintro e w5 ⟨rfl, hb⟩
      have HK2 := Lib.hid (HK.out.below hb)
      clear hb HK H5
      clear hc0
      go_wp2_with (refine wpList_run rfl _ (exec_catv (.tmp 9) (.tmp 13) rfl S T S1 hsz1 hsz2 hcs rfl rfl _) ?_)
      go_roundw
      case rel => exact ⟨i + 1, by omega, by rw [hS1], by first | rfl | simp | go_num, HK2.out⟩
      case measure => simp [intOf]; omega
    · obtain rfl : i = 4 := by omega
      rw [hl4]
      rw [show ((4 : Nat) : Int) = (4 : Int) from rfl]
      clear hl4 hl0 hll hls hdig hlt hi
      go_wp2
      go_ret
      exact ⟨rfl, HK.out.1⟩
set_option maxRecDepth 100000 in
set_option maxHeartbeats 1000000 in
theorem rbytes_any (a : Nat) (ha : a < 115792089237316195423570985008687907853269984665640564039457584007913129639936) (w : World) :
    Calls Tryd.prog 22 #[.agg (num a)] w fun e w' => e = .returned (.string ⟨(bytesN (a % pp)).toArray⟩) ∧ Below w.heap.size w w' := by
  have H1 := Lib.hid (rnorm_any a ha)
  have H2 := Lib.hid (rbytes0_any (a % pp))
  obtain ⟨SB, hSB⟩ : ∃ SB : ByteArray, Hid (SB = ⟨(bytesN (a % pp)).toArray⟩) := ⟨_, Lib.hid rfl⟩
  clear ha
  obtain ⟨A, hA⟩ : ∃ A, Hid (A = num a) := ⟨_, Lib.hid rfl⟩
  have IA : IsNum A := by rw [hA.out]; exact isNum _
  obtain ⟨N, hN⟩ : ∃ N, Hid (N = num (a % pp)) := ⟨_, Lib.hid rfl⟩
  have IN : IsNum N := by rw [hN.out]; exact isNum _
  rw [← hA.out, ← hN.out] at H1
  rw [← hN.out, ← hSB.out] at H2
  rw [← hA.out, ← hSB.out]
  clear hA hN hSB
  have HS : Hid (Kn w [(w.heap.size, A)] (w.alloc (.cells A 24))) := Lib.hid ((Kn.nil w).new A)
  go_enter Tryd.func22, Tryd.ntmps22
  go_upto_region 1 with fail
  try simp only [Act.put, List.setIfInBounds_toArray, List.set_cons_succ, List.set_cons_zero]
  generalize w.alloc (.cells A 24) = W0 at *
  have hl1 := HS.out.load (w.heap.size) A (by simp) IA
  go_wp2_with (refine wpList_run rfl _ (exec_load_of _ 24 (.tmp 1) rfl ⟨w.heap.size, 0, none⟩ rfl (.agg A) hl1) ?_)
  clear hl1
  refine (H1.out _).mono ?_
  rintro e w2 ⟨rfl, hb⟩
  have HS3 := Lib.hid (HS.out.below hb)
  clear hb HS H1
  go_wp2_with fail
  refine (H2.out _).mono ?_
  rintro e w4 ⟨rfl, hb⟩
  have HS5 := Lib.hid (HS3.out.below hb)
  clear hb HS3 H2
  go_wp2
  go_ret
  exact ⟨rfl, HS5.out.1⟩
theorem bytes_inj_le (s : ByteArray) (h : s.size = 32) : (⟨(bytesN (leVal s.data.toList % pp)).toArray⟩ : ByteArray) = s ↔ leVal s.data.toList < pp := by
  have hsl : s.data.toList.length = 32 := h
  have hl := leVal_lt s.data.toList
  rw [hsl] at hl
  have hl4 : leVal s.data.toList < 115792089237316195423570985008687907853269984665640564039457584007913129639936 := Nat.lt_of_lt_of_le hl (by decide)
  constructor
  · intro e
    have e2 := congrArg (fun b : ByteArray => leVal b.data.toList) e
    simp only [List.toList_toArray] at e2
    rw [leVal_bytesN _ (pp_lt (Nat.mod_lt _ pp_pos))] at e2
    rw [← e2]
    exact Nat.mod_lt _ pp_pos
  · intro e
    rw [Nat.mod_eq_of_lt e]
    have e2 : bytesN (leVal s.data.toList) = s.data.toList := leVal_inj _ _ (by rw [bytesN_length, hsl]) (leVal_bytesN _ hl4)
    rw [e2]
set_option maxRecDepth 100000 in
set_option maxHeartbeats 1000000 in
theorem rfrom_any (s : ByteArray) (hs : s.size ≤ 9223372036854775807) (w : World) :
    Calls Tryd.prog 10 #[.string s] w fun e w' => e = .returned (.agg (gotV (dig (fromF s.data.toList).1) (fromF s.data.toList).2)) ∧ Below w.heap.size w w' := by
  obtain ⟨ZG, hZG⟩ : ∃ ZG, Hid (ZG = gotV (fun _ => 0) false) := ⟨_, Lib.hid rfl⟩
  have IZG : IsGot ZG := by rw [hZG.out]; exact ⟨_, _, rfl⟩
  have HZG : ∀ w, (zeroValue 29).run Tryd.prog w = .ok (.agg ZG) w := by rw [hZG.out]; exact zero29
  have HBG : Hid (∀ w, (Instr.build 29 #[]).run Tryd.prog w = .ok (.agg ZG) w) := by rw [hZG.out]; exact Lib.hid build29_0
  have SZG := IZG.size
  have hZG2 : Hid (ZG = gotV (dig 0) false) := by unfold Hid; rw [hZG.out]; rfl
  have hz4 : ∀ W : World, Kt W [(W.heap.size, ZG, 29)] (W.alloc (.cells ZG 29)) := by
    intro W
    have h := ((Kt.nil W).new ZG 29)
    try simp only [World.size_alloc] at h
    exact h.sub (fun p hp => by simp at hp ⊢; simp [hp])
  have HS := Lib.hid (hz4 w)
  clear hz4 hZG
  by_cases h32 : s.size = 32
  · have hsl : s.data.toList.length = 32 := h32
    have hl := leVal_lt s.data.toList
    rw [hsl] at hl
    have hl4 : leVal s.data.toList < 115792089237316195423570985008687907853269984665640564039457584007913129639936 := Nat.lt_of_lt_of_le hl (by decide)
    have H1 := Lib.hid (number_any s h32)
    have H2 := Lib.hid (rbytes_any (leVal s.data.toList) hl4)
    have hiff := bytes_inj_le s h32
    have hB := Lib.hid (build29 (dig (leVal s.data.toList)) true)
    have hF : Hid (fromF s.data.toList = if leVal s.data.toList < pp then (leVal s.data.toList, true) else (0, false)) := by
      unfold Hid fromF
      by_cases h : leVal s.data.toList < pp
      · rw [if_pos ⟨hsl, h⟩, if_pos h]
      · rw [if_neg (fun h2 => h h2.2), if_neg h]
    obtain ⟨V, hV⟩ : ∃ V : ByteArray, Hid (V = ⟨(bytesN (leVal s.data.toList % pp)).toArray⟩) := ⟨_, Lib.hid rfl⟩
    obtain ⟨A, hA⟩ : ∃ A, Hid (A = num (leVal s.data.toList)) := ⟨_, Lib.hid rfl⟩
    obtain ⟨GA, hGA⟩ : ∃ GA, Hid (GA = gotV (dig (leVal s.data.toList)) true) := ⟨_, Lib.hid rfl⟩
    have IGA : IsGot GA := by rw [hGA.out]; exact ⟨_, _, rfl⟩
    rw [← hV.out] at hiff H2
    rw [← hA.out] at H1 H2
    have hB : Hid (∀ w, (Instr.build 29 #[(0, .agg A), (1, .bool true)]).run Tryd.prog w = .ok (.agg GA) w) := by rw [hA.out, hGA.out]; exact hB
    have hsz : (s.size : Int) = 32 := by omega
    clear hl hl4 hsl hV hA
    go_enter Tryd.func10, Tryd.ntmps10
    go_upto_region 1 with ((refine wpList_run rfl _ (exec_alloc_agg _ 29 rfl _ (HZG _)) ?_); try simp only [World.size_alloc])
    try simp only [Act.put, List.setIfInBounds_toArray, List.set_cons_succ, List.set_cons_zero]
    generalize w.alloc (.cells ZG 29) = W0 at *
    go_wp2_with fail
    refine (H1.out _).mono ?_
    rintro e w1 ⟨rfl, hb⟩
    have HS2 := Lib.hid (HS.out.below hb)
    clear hb HS
    go_wp2_with fail
    refine (H2.out _).mono ?_
    rintro e w3 ⟨rfl, hb⟩
    have HS4 := Lib.hid (HS2.out.below hb)
    clear hb HS2 H2
    by_cases he : V = s
    · have hlt : leVal s.data.toList < pp := hiff.1 he
      have hR : Hid (fromF s.data.toList = (leVal s.data.toList, true)) := by unfold Hid; rw [hF.out, if_pos hlt]
      have hdn : (V.toList == s.toList) = true := by rw [he]; simp
      clear hiff hF hlt he
      go_wp2_with fail
      refine (H1.out _).mono ?_
      rintro e w105 ⟨rfl, hb⟩
      have HS106 := Lib.hid (HS4.out.below hb)
      clear hb HS4 H1
      go_wp2_with (first | (refine wpList_run rfl _ (exec_build2 _ 29 0 1 (.tmp 15) (.const (.bool true)) rfl (.agg A) (.bool true) rfl rfl _ (hB.out _)) ?_) | (refine wpList_run0 rfl (exec_store29 _ (.tmp 2) (.tmp 16) rfl (w.heap.size) rfl GA IGA rfl ZG 29 (HS106.out.get (w.heap.size) ZG 29 (by simp)) SZG) ?_))
      have HSZ : Kt w [(w.heap.size, GA, 29)] (World.setRow _ (w.heap.size) GA) := HS106.out.set (w.heap.size) GA ZG 29 (HS106.out.get (w.heap.size) ZG 29 (by simp)) (by omega) (fun p hp => by simp at hp; subst hp; exact .inl rfl)
      exact bodyPost_ret (results_cell rfl _ _ _ ⟨w.heap.size, 0, none⟩ rfl _ (load29 IGA (HSZ.get (w.heap.size) GA 29 (by simp)))) rfl ⟨by rw [hR.out, hGA.out], HSZ.1⟩
    · have hR : Hid (fromF s.data.toList = (0, false)) := by unfold Hid; rw [hF.out, if_neg (fun h => he (hiff.2 h))]
      clear hiff hF H1 hB
      have hdn : (V.toList == s.toList) = false := by simp only [beq_eq_false_iff_ne, ne_eq]; intro h; apply he; rw [ByteArray.toList_eq, ByteArray.toList_eq] at h; exact ByteArray.ext (Array.toList_inj.1 h)
      go_wp2_with (first | (refine wpList_run rfl _ (exec_build0g rfl (.agg ZG) (HBG.out _) _) ?_) | (refine wpList_run0 rfl (exec_store29 _ (.tmp 2) (.tmp 13) rfl (w.heap.size) rfl ZG IZG rfl ZG 29 (HS4.out.get (w.heap.size) ZG 29 (by simp)) SZG) ?_))
      have HSZ : Kt w [(w.heap.size, ZG, 29)] (World.setRow _ (w.heap.size) ZG) := HS4.out.set (w.heap.size) ZG ZG 29 (HS4.out.get (w.heap.size) ZG 29 (by simp)) (by omega) (fun p hp => by simp at hp; subst hp; exact .inl rfl)
      exact bodyPost_ret (results_cell rfl _ _ _ ⟨w.heap.size, 0, none⟩ rfl _ (load29 IZG (HSZ.get (w.heap.size) ZG 29 (by simp)))) rfl ⟨by rw [hR.out, hZG2.out], HSZ.1⟩
  · have hR : Hid (fromF s.data.toList = (0, false)) := by unfold Hid fromF; rw [if_neg (fun h => h32 h.1)]
    have hne : ((s.size : Int) != 32) = true := by rw [bne_iff_ne]; omega
    go_enter Tryd.func10, Tryd.ntmps10
    go_upto_region 1 with ((refine wpList_run rfl _ (exec_alloc_agg _ 29 rfl _ (HZG _)) ?_); try simp only [World.size_alloc])
    try simp only [Act.put, List.setIfInBounds_toArray, List.set_cons_succ, List.set_cons_zero]
    generalize w.alloc (.cells ZG 29) = W0 at *
    go_wp2_with (first | (refine wpList_run rfl _ (exec_build0g rfl (.agg ZG) (HBG.out _) _) ?_) | (refine wpList_run0 rfl (exec_store29 _ (.tmp 2) (.tmp 13) rfl (w.heap.size) rfl ZG IZG rfl ZG 29 (HS.out.get (w.heap.size) ZG 29 (by simp)) SZG) ?_))
    have HSZ : Kt w [(w.heap.size, ZG, 29)] (World.setRow _ (w.heap.size) ZG) := HS.out.set (w.heap.size) ZG ZG 29 (HS.out.get (w.heap.size) ZG 29 (by simp)) (by omega) (fun p hp => by simp at hp; subst hp; exact .inl rfl)
    exact bodyPost_ret (results_cell rfl _ _ _ ⟨w.heap.size, 0, none⟩ rfl _ (load29 IZG (HSZ.get (w.heap.size) ZG 29 (by simp)))) rfl ⟨by rw [hR.out, hZG2.out], HSZ.1⟩
end Go.Proofs.YtkkgeljcgebegaaDoor
