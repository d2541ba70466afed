/- Several texts, one behind the other; each says by itself what it proves, and on what conditions. -/
import Derived.Test.YtdajmekliodmcaaGreatDoorT15
/- secret of package sig: the number of a seed, and what is hashed ahead of its texts. No condition but that the seed is not too long. -/
namespace Go.Proofs.YtdajmekliodmcaaGreatDoor.P8
open Go.RowKit Go.Shelf
set_option linter.unusedVariables false
set_option linter.unusedSimpArgs false
theorem bits_andNot_u64_nat (a b : Nat) (ha : a < 18446744073709551616) (hb : b < 18446744073709551616) :
    bits .andNot .u64 (a : Int) (b : Int) = ((a &&& (18446744073709551615 - b) : Nat) : Int) := by
  have hx : a &&& (18446744073709551615 - b) < 2 ^ 64 := Nat.and_lt_two_pow _ (by omega)
  have h1 : (BitVec.ofInt 64 (a : Int)).toNat = a := by
    rw [BitVec.ofInt_natCast, BitVec.toNat_ofNat]; exact Nat.mod_eq_of_lt (by omega)
  have h2 : (BitVec.ofInt 64 (b : Int)).toNat = b := by
    rw [BitVec.ofInt_natCast, BitVec.toNat_ofNat]; exact Nat.mod_eq_of_lt (by omega)
  show IntKind.u64.wrap ((BitVec.ofInt 64 (a : Int) &&& ~~~ BitVec.ofInt 64 (b : Int)).toNat : Int) = _
  rw [BitVec.toNat_and, BitVec.toNat_not, h1, h2, IntKind.wrap_u64]
  have e : 2 ^ 64 - 1 - b = 18446744073709551615 - b := rfl
  rw [e]
  omega
/-- The words of a seed's number, out of its hash. -/
def secW (l : List UInt8) : Nat → Nat := upd (upd (wordAt l) 0 (wordAt l 0 &&& 18446744073709551608)) 3 ((wordAt l 3 &&& 9223372036854775807) ||| 4611686018427387904)
/-- The number of a seed, out of its hash. -/
def secN (l : List UInt8) : Nat := valN (secW l)
theorem sha_len (l : List UInt8) : (W4.sha l).length = 64 := by
  unfold W4.sha
  generalize W4.mids W4.h0 (W4.pad l) ((W4.pad l).length / 128) = t
  rfl
theorem secW_lt (l : List UInt8) (j : Nat) : secW l j < 18446744073709551616 := by
  unfold secW upd
  have h0 : wordAt l 0 &&& 18446744073709551608 < 2 ^ 64 := Nat.and_lt_two_pow _ (by decide)
  have h3 : wordAt l 3 &&& 9223372036854775807 < 2 ^ 64 := Nat.and_lt_two_pow _ (by decide)
  have h4 : (wordAt l 3 &&& 9223372036854775807) ||| 4611686018427387904 < 2 ^ 64 := Nat.or_lt_two_pow h3 (by decide)
  split
  · exact h4
  · split
    · exact h0
    · exact wordAt_lt _ _
theorem wordAt_take32 (l : List UInt8) (j : Nat) (hj : j < 4) : wordAt (l.take 32) j = wordAt l j := by
  unfold wordAt
  rw [List.drop_take, List.take_take, show min 8 (32 - 8 * j) = 8 by omega]
theorem exec_andNot {ρ : Operand → Value} {o : Oper} (x y : Operand) (ho : o.op = .binOp .andNot 34 x y 34) (a b r : Nat) (ha : a < 18446744073709551616) (hb : b < 18446744073709551616) (hx : ρ x = .int .u64 (a : Int)) (hy : ρ y = .int .u64 (b : Int)) (hr : r = a &&& (18446744073709551615 - b)) (w : World) : (execOp ρ o).run Tryz.prog w = .ok (.value (.int .u64 (r : Int))) w := by
  have hb := bits_andNot_u64_nat a b ha hb
  rw [← hr] at hb
  clear hr
  unfold execOp
  rw [ho]
  simp only [hx, hy]
  go_simp
theorem exec_slice32 {ρ : Operand → Value} {o : Oper} (x : Operand) (ho : o.op = .slice 9 x (some (.const (.int .i64 32))) none none) (S V : ByteArray) (hS : S.size = 64) (hx : ρ x = .string S) (hc : ρ (.const (.int .i64 32)) = .int .i64 32) (hV : Hid (S.extract 32 S.size = V)) (w : World) : (execOp ρ o).run Tryz.prog w = .ok (.value (.string V)) w := by
  rw [← hV.out]
  exact W4.exec_slice_from x (.const (.int .i64 32)) ho S 32 (by omega) hx hc w
set_option maxRecDepth 100000 in
set_option maxHeartbeats 1000000 in
theorem secret_any (S : ByteArray) (hS : S.size ≤ 100000) (w : World) :
    Calls Tryz.prog 30 #[.string S] w fun e w' => e = .returned (.tuple #[.agg (num (secN (W4.sha S.data.toList))), .string ⟨((W4.sha S.data.toList).drop 32).toArray⟩]) ∧ Below w.heap.size w w' := by
  have H1 : Hid (∀ w, _) := Lib.hid (fun w => W4.sum_any S hS w)
  have hl64 : (W4.sha S.data.toList).length = 64 := sha_len _
  obtain ⟨l, hl0⟩ : ∃ l, Hid (l = W4.sha S.data.toList) := ⟨_, Lib.hid rfl⟩
  rw [← hl0.out] at H1 hl64 ⊢
  obtain ⟨s, hs0⟩ : ∃ s : ByteArray, Hid (s = ⟨l.toArray⟩) := ⟨_, Lib.hid rfl⟩
  have hl : Hid (l = s.data.toList) := by unfold Hid; rw [hs0.out]
  have hs64 : s.size = 64 := by rw [hs0.out]; exact hl64
  obtain ⟨V, hV⟩ : ∃ V : ByteArray, Hid (V = ⟨(l.drop 32).toArray⟩) := ⟨_, Lib.hid rfl⟩
  have hVe : Hid (s.extract 32 s.size = V) := by
    unfold Hid
    rw [hV.out, hs64]
    apply ByteArray.ext
    rw [ByteArray.data_extract, hs0.out, List.extract_toArray, List.extract_eq_take_drop, List.take_of_length_le (by rw [List.length_drop]; omega)]
  rw [← hV.out]
  rw [← hs0.out] at H1
  have HZ := zero_run
  have IZ := isNum 0
  have HK0 : Hid (Kn w [(w.heap.size, (rowOf .u64 4 (wordAt (l.take 0))).toArray)] (w.alloc (.cells (num 0) 36))) := by
    have h := (Kn.nil w).new (num 0)
    rw [List.take_zero, rowOf_ext (f := wordAt []) (g := fun _ => 0) (fun j _ => wordAt_nil j), num_zero]
    exact Lib.hid h
  obtain ⟨Z, hZe⟩ : ∃ Z, Hid (Z = num 0) := ⟨_, Lib.hid rfl⟩
  rw [← hZe.out] at HK0 IZ
  have HZ2 : ∀ w, (zeroValue 36).run Tryz.prog w = .ok (.agg Z) w := by rw [hZe.out]; exact HZ
  have hs32 : (s.size : Int) = 64 := by omega
  clear HZ
  go_enter Tryz.func30, Tryz.ntmps30
  go_wp2_with (refine wpList_run rfl _ (exec_alloc_agg _ 36 rfl _ (HZ2 _)) ?_)
  generalize hg : w.heap.size = g at *
  generalize w.alloc (.cells Z 36) = W0 at *
  refine (H1.out _).mono ?_
  rintro e w2 ⟨rfl, hb⟩
  have HK := Lib.hid (HK0.out.below hb)
  clear hb HK0 H1
  go_wp2
  go_loopw [8] (fun u wr => ∃ i : Nat, i ≤ 32 ∧ u = .int .i64 i ∧ Kn w [(g, (rowOf .u64 4 (wordAt (l.take i))).toArray)] wr) (fun u _ => 32 - (intOf u).toNat)
  case atStart => exact ⟨0, by omega, rfl, HK.out⟩
  case round =>
    clear HK
    obtain ⟨i, hi, rfl, hK⟩ := hrel
    by_cases hlt : i < 32
    · have hil : i < l.length := by omega
      have his : i < s.size := by omega
      have htl : (l.take i).length = i := by rw [List.length_take]; omega
      obtain ⟨j, hj0⟩ : ∃ j, j = i / 8 := ⟨_, rfl⟩
      obtain ⟨q, hq0⟩ : ∃ q, q = i % 8 := ⟨_, rfl⟩
      obtain ⟨sh, hsh0⟩ : ∃ sh, sh = 8 * q := ⟨_, rfl⟩
      have hj4 : j < 4 := by omega
      have hq8 : q < 8 := by omega
      have hs64 : sh < 64 := by omega
      obtain ⟨c, hc0⟩ : ∃ c, c = s[i].toNat := ⟨_, rfl⟩
      have hcl2 : c = l[i].toNat := by rw [hc0]; congr 1; simp only [hl.out]; rfl
      have hc256 : c < 256 := by rw [hc0]; exact UInt8.toNat_lt _
      have hcl : c * 2 ^ sh < 18446744073709551616 := by
        have h1 : 2 ^ sh ≤ 2 ^ 56 := Nat.pow_le_pow_right (by decide) (by omega)
        have h2 : c * 2 ^ sh ≤ 255 * 2 ^ 56 := Nat.mul_le_mul (by omega) h1
        omega
      have hxs0 := wordAt_part (l.take i) i htl.symm
      rw [← hj0, ← hq0, ← hsh0] at hxs0
      obtain ⟨r, hr0⟩ : ∃ r, r = wordAt (l.take i) j + c * 2 ^ sh := ⟨_, rfl⟩
      have hstep : ∀ z, upd (wordAt (l.take i)) j r z = wordAt (l.take (i + 1)) z := by
        intro z
        rw [List.take_succ_eq_append_getElem hil, wordAt_snoc, htl, ← hj0, ← hq0, ← hsh0, ← hcl2]
        unfold upd
        by_cases hz : z = j
        · subst hz; rw [if_pos rfl, if_pos rfl, hr0]
        · rw [if_neg hz, if_neg hz]
      have hrl : r < 18446744073709551616 := by
        have h := hstep j
        rw [upd_same] at h
        rw [h]
        exact wordAt_lt _ _
      have HST : Hid ((rowOf .u64 4 (upd (wordAt (l.take i)) j r)).toArray = (rowOf .u64 4 (wordAt (l.take (i + 1)))).toArray) := by
        unfold Hid
        rw [rowOf_ext (fun z _ => hstep z)]
      have HRW : Hid (Row wr (g) 36 .u64 4 (wordAt (l.take i))) := Lib.hid (hK.get g _ (by simp))
      obtain ⟨x, hx0⟩ : ∃ x, x = wordAt (l.take i) j := ⟨_, rfl⟩
      rw [← hx0] at hxs0 hr0
      have hxs : x < 2 ^ sh := hxs0
      have hAj0 : (rowOf .u64 4 (wordAt (l.take i))).toArray[j]? = some (.int .u64 (x : Int)) := by rw [List.getElem?_toArray, rowOf_get _ _ _ _ hj4, hx0]
      obtain ⟨A, hA⟩ : ∃ A, Hid (A = (rowOf .u64 4 (wordAt (l.take i))).toArray) := ⟨_, Lib.hid rfl⟩
      rw [← hA.out] at hAj0 hK
      have hAj := hAj0
      have hj := Lib.hid hj0
      have hq := Lib.hid hq0
      have hsh := Lib.hid hsh0
      have hc := Lib.hid hc0
      have hr := Lib.hid hr0
      have hli : (i : Int) < 32 := by omega
      have HKK := Lib.hid hK
      clear hj0 hq0 hsh0 hc0 hr0 hx0 hcl2 htl hstep hxs0 hAj0 hK
      go_wp2
      refine wp_region_any (by kernel_rfl) ?_
      change wpAny _ _ _ _ _ _ _ (World.drew _)
      have HSD := HKK.out.drew
      generalize hWd : wr.drew = Wd at *
      refine any_of_F (S := Kn w [(g, A)]) (f := 14) _ _ _ _ ?_
      refine tkL 0 (some 11) (.move (.tmp 5)) (.int .i64 (i : Int)) (fun o ho w2 hw => exec_move (.tmp 5) ho _ rfl w2) HSD ?_
      simp only [Act.put, sT, sS, sZ]
      refine tkL 1 (some 12) (.binOp .quo 3 (.tmp 11) (.const (.int .i64 8)) 3) (.int .i64 (j : Int)) (fun o ho w2 hw => exec_quo8 (.tmp 11) ho rfl i j (by omega) rfl hj.out w2) HSD ?_
      simp only [Act.put, sT, sS, sZ]
      refine tkL 2 (some 13) (.indexAddr 36 (.tmp 2) (.tmp 12)) (.pointer (some ⟨g, j, none⟩)) (fun o ho w2 hw => exec_indexAddr24 (.tmp 2) (.tmp 12) ho (g) j rfl rfl hj4 w2) HSD ?_
      simp only [Act.put, sT, sS, sZ]
      refine tkL 3 (some 14) (.load 34 (.tmp 13)) (.int .u64 (x : Int)) (fun o ho w2 hw => exec_load_one w2 34 (.tmp 13) ho ⟨g, j, none⟩ rfl _ ((hw.cell (g) A (by simp) j).trans hAj) _ Tryz.underlying34 rfl) HSD ?_
      simp only [Act.put, sT, sS, sZ]
      refine tkL 4 (some 15) (.move (.tmp 4)) (.string s) (fun o ho w2 hw => exec_move (.tmp 4) ho _ rfl w2) HSD ?_
      simp only [Act.put, sT, sS, sZ]
      refine tkL 5 (some 16) (.move (.tmp 5)) (.int .i64 (i : Int)) (fun o ho w2 hw => exec_move (.tmp 5) ho _ rfl w2) HSD ?_
      simp only [Act.put, sT, sS, sZ]
      refine tkL 6 (some 17) (.index 9 (.tmp 15) (.tmp 16)) (.int .u8 (c : Int)) (fun o ho w2 hw => exec_index_str (.tmp 15) (.tmp 16) ho s i his rfl rfl c hc.out w2) HSD ?_
      simp only [Act.put, sT, sS, sZ]
      refine tkL 7 (some 18) (.convert 5 34 (.tmp 17)) (.int .u64 (c : Int)) (fun o ho w2 hw => exec_conv64 (.tmp 17) ho c hc256 rfl w2) HSD ?_
      simp only [Act.put, sT, sS, sZ]
      refine tkL 8 (some 19) (.move (.tmp 5)) (.int .i64 (i : Int)) (fun o ho w2 hw => exec_move (.tmp 5) ho _ rfl w2) HSD ?_
      simp only [Act.put, sT, sS, sZ]
      refine tkL 9 (some 20) (.binOp .rem 3 (.tmp 19) (.const (.int .i64 8)) 3) (.int .i64 (q : Int)) (fun o ho w2 hw => exec_rem8 (.tmp 19) ho rfl i q (by omega) rfl hq.out w2) HSD ?_
      simp only [Act.put, sT, sS, sZ]
      refine tkL 10 (some 21) (.binOp .mul 3 (.tmp 20) (.const (.int .i64 8)) 3) (.int .i64 (sh : Int)) (fun o ho w2 hw => exec_mul8 (.tmp 20) ho rfl q sh hq8 rfl hsh.out w2) HSD ?_
      simp only [Act.put, sT, sS, sZ]
      refine tkL 11 (some 22) (.binOp .shl 34 (.tmp 18) (.tmp 21) 3) (.int .u64 ((c * 2 ^ sh : Nat) : Int)) (fun o ho w2 hw => exec_shl (.tmp 18) (.tmp 21) ho c sh _ hs64 rfl rfl rfl hcl w2) HSD ?_
      simp only [Act.put, sT, sS, sZ]
      refine tkL 12 (some 23) (.binOp .or 34 (.tmp 14) (.tmp 22) 34) (.int .u64 (r : Int)) (fun o ho w2 hw => exec_or (.tmp 14) (.tmp 22) ho x c sh r rfl rfl hxs hr.out hrl w2) HSD ?_
      simp only [Act.put, sT, sS, sZ]
      refine tkL 13 (some 24) (.indexAddr 36 (.tmp 2) (.tmp 12)) (.pointer (some ⟨g, j, none⟩)) (fun o ho w2 hw => exec_indexAddr24 (.tmp 2) (.tmp 12) ho (g) j rfl rfl hj4 w2) HSD ?_
      simp only [Act.put, sT, sS, sZ]
      have HRD : Row Wd (g) 36 .u64 4 (wordAt (l.take i)) := by rw [← hWd]; exact HRW.out
      have HN9 : Kn w [(g, (rowOf .u64 4 (wordAt (l.take (i + 1)))).toArray)] (Wd.setCell ⟨g, j, none⟩ (.int .u64 (r : Int))) := by
        rw [← HST.out]
        exact HSD.setw g (wordAt (l.take i)) j r HRD (by omega) (fun p hp => by simp at hp; subst hp; simp)
      refine rdy [14] (ReadyF.last (w2 := Wd.setCell ⟨g, j, none⟩ (.int .u64 (r : Int))) (.store 34 (.tmp 24) (.tmp 23)) rfl (fun o ho => exec_store_one _ 34 (.tmp 24) (.tmp 23) ho ⟨g, j, none⟩ rfl _ rfl rfl rfl _ (HRD.cell j hj4) (HRD.free j) (by kernel_rfl)) ?_ ReadyF.nil)
      refine any_doneF (by kernel_rfl) ?_ _
      have HN := Lib.hid HN9
      clear HN9 HRD HSD hAj hWd HKK HRW
      generalize Wd.setCell ⟨g, j, none⟩ (.int .u64 (r : Int)) = W9 at *
      go_wp2
      go_roundw
      case rel => exact ⟨i + 1, by omega, by simp, HN.out⟩
      case measure => simp [intOf]; omega
    · obtain rfl : i = 32 := by omega
      have hK2 : Kn w [(g, (rowOf .u64 4 (wordAt l)).toArray)] wr := by
        rw [rowOf_ext (f := wordAt l) (g := wordAt (l.take 32)) (fun j hj => (wordAt_take32 l j hj).symm)]
        exact hK
      have HR0 := Lib.hid (show Row wr g 36 .u64 4 (wordAt l) from hK2.get g _ (by simp))
      have hx0l := wordAt_lt l 0
      have hx3l := wordAt_lt l 3
      have hw3 : Hid (∀ z, upd (upd (wordAt l) 0 (wordAt l 0 &&& 18446744073709551608)) 3 ((wordAt l 3 &&& 9223372036854775807) ||| 4611686018427387904) z = secW l z) := Lib.hid (fun z => rfl)
      have hc0 := HR0.out.cell 0 (by decide)
      have hc3 := HR0.out.cell 3 (by decide)
      obtain ⟨x0, hx0⟩ : ∃ x0, Hid (x0 = wordAt l 0) := ⟨_, Lib.hid rfl⟩
      obtain ⟨x3, hx3⟩ : ∃ x3, Hid (x3 = wordAt l 3) := ⟨_, Lib.hid rfl⟩
      obtain ⟨y0, hy0⟩ : ∃ y0, Hid (y0 = x0 &&& 18446744073709551608) := ⟨_, Lib.hid rfl⟩
      obtain ⟨z3, hz3⟩ : ∃ z3, Hid (z3 = x3 &&& 9223372036854775807) := ⟨_, Lib.hid rfl⟩
      obtain ⟨y3, hy3⟩ : ∃ y3, Hid (y3 = z3 ||| 4611686018427387904) := ⟨_, Lib.hid rfl⟩
      have hz3l : z3 < 18446744073709551616 := by rw [hz3.out]; exact Nat.and_lt_two_pow (n := 64) _ (by decide)
      rw [← hx0.out] at hx0l hc0
      rw [← hx3.out] at hx3l hc3
      rw [← hx0.out, ← hx3.out, ← hy0.out, ← hz3.out, ← hy3.out] at hw3
      have HS1 := hK2.setw g (wordAt l) 0 y0 HR0.out (by omega) (m := [(g, (rowOf .u64 4 (upd (wordAt l) 0 y0)).toArray)]) (fun p hp => by simp at hp; subst hp; simp)
      have HS2 := HS1.setw g (upd (wordAt l) 0 y0) 3 y3 (HS1.get g _ (by simp)) (by omega) (m := [(g, (rowOf .u64 4 (upd (upd (wordAt l) 0 y0) 3 y3)).toArray)]) (fun p hp => by simp at hp; subst hp; simp)
      have HR1 := Lib.hid (show Row (wr.setCell ⟨g, 0, none⟩ (.int .u64 (y0 : Int))) g 36 .u64 4 (upd (wordAt l) 0 y0) from HS1.get g _ (by simp))
      have hAN : (rowOf .u64 4 (upd (upd (wordAt l) 0 y0) 3 y3)).toArray = num (secN l) := by
        rw [rowOf_ext (fun z _ => hw3.out z)]
        exact (num_val _ (secW_lt l)).symm
      obtain ⟨A, hAe⟩ : ∃ A, Hid (A = num (secN l)) := ⟨_, Lib.hid rfl⟩
      have IA : IsNum A := by rw [hAe.out]; exact isNum _
      rw [hAN, ← hAe.out] at HS2
      have HK9 := Lib.hid HS2
      have hbits0 := bits_andNot_u64_nat x3 9223372036854775808 hx3l (by decide)
      rw [show x3 &&& (18446744073709551615 - 9223372036854775808) = z3 from hz3.out.symm, show ((9223372036854775808 : Nat) : Int) = (9223372036854775808 : Int) from rfl] at hbits0
      have hbits1 := bits_or_u64_nat z3 4611686018427387904 hz3l (by decide)
      rw [← hy3.out, show ((4611686018427387904 : Nat) : Int) = (4611686018427387904 : Int) from rfl] at hbits1
      clear hK hK2 HS1 HS2 hAN hw3
      rw [show ((32 : Nat) : Int) = (32 : Int) from rfl]
      go_wp2_with (first | (refine wpList_run rfl _ (exec_indexAddr24 (.tmp 2) (.const (.int .i64 0)) rfl g 0 rfl rfl (by decide) _) ?_) | (refine wpList_run rfl _ (exec_load_one _ 34 (.tmp 26) rfl ⟨g, 0, none⟩ rfl (.int .u64 (x0 : Int)) hc0 _ Tryz.underlying34 rfl) ?_) | (refine wpList_run rfl _ (exec_andNot (.tmp 27) (.const (.int .u64 7)) rfl x0 7 y0 hx0l (by decide) rfl rfl hy0.out _) ?_) | (refine wpList_run0 rfl (exec_store_one _ 34 (.tmp 29) (.tmp 28) rfl ⟨g, 0, none⟩ rfl (.int .u64 (y0 : Int)) rfl rfl rfl _ (HR0.out.cell 0 (by decide)) (HR0.out.free 0) (by kernel_rfl)) ?_) | (refine wpList_run0 rfl (exec_store_one _ 34 (.tmp 34) (.tmp 33) rfl ⟨g, 3, none⟩ rfl (.int .u64 (y3 : Int)) rfl rfl rfl _ (HR1.out.cell 3 (by decide)) (HR1.out.free 3) (by kernel_rfl)) ?_))
      generalize (wr.setCell ⟨g, 0, none⟩ (.int .u64 (y0 : Int))).setCell ⟨g, 3, none⟩ (.int .u64 (y3 : Int)) = W1 at *
      clear hc0 hc3 HR0 HR1 hbits0 hbits1
      refine wp_region_any (by kernel_rfl) ?_
      change wpAny _ _ _ _ _ _ _ (World.drew _)
      have HD := HK9.out.drew
      generalize W1.drew = Wd at *
      refine any_of_F (S := Kn w [(g, A)]) (f := 1000) _ _ _ _ ?_
      refine tkG 0 (some 35) (.load 36 (.tmp 2)) none (.agg A) (fun o ho w2 hw => exec_load_of _ 36 (.tmp 2) ho ⟨g, 0, none⟩ rfl _ (hw.load g A (by simp) IA)) HD ?_
      simp only [Act.put, sT, sS, sZ]
      refine tkG 1 (some 36) (.move (.tmp 4)) none (.string s) (fun o ho w2 hw => exec_move (.tmp 4) ho _ rfl w2) HD ?_
      simp only [Act.put, sT, sS, sZ]
      refine tkG 2 (some 37) (.slice 9 (.tmp 36) (some (.const (.int .i64 32))) none none) none (.string V) (fun o ho w2 hw => exec_slice32 (.tmp 36) ho s V hs64 rfl rfl hVe w2) HD ?_
      simp only [Act.put, sT, sS, sZ]
      have HS6 : Kn w [(g, A)] (Wd.setRow g A) := HD.set g A A (HD.get g A (by simp)) (by omega) (fun p hp => by simp at hp; subst hp; simp)
      refine rdy [3] (ReadyF.op0 (w2 := Wd.setRow g A) (.store 36 (.tmp 2) (.tmp 35)) rfl (fun o ho => exec_store_kn (w0 := w) (l := [(g, A)]) _ HD (.tmp 2) (.tmp 35) ho g rfl A IA rfl A IA (by simp)) HS6 ?_ ReadyF.nil)
      refine tkG 4 (some 3) (.assign (.tmp 37)) none (.string V) (fun o ho w2 hw => exec_assign (.tmp 37) ho _ rfl w2) HS6 ?_
      simp only [Act.put, sT, sS, sZ]
      refine AnyF.done (by kernel_rfl) ?_ _
      generalize Wd.setRow g A = W9 at *
      go_wp2
      exact bodyPost_ret (results_two rfl _ _ _ ⟨g, 0, none⟩ rfl _ (HS6.load g A (by simp) IA)) rfl ⟨by rw [hAe.out]; rfl, HS6.1⟩
end Go.Proofs.YtdajmekliodmcaaGreatDoor.P8
/- Mul of the document: a product of 512 bits as sixteen words of 32 bits. No condition but that the numbers have 256 bits. -/
namespace Go.Proofs.YtdajmekliodmcaaGreatDoor.P8
open Go.RowKit Go.Shelf
set_option linter.unusedVariables false
set_option linter.unusedSimpArgs false
end Go.Proofs.YtdajmekliodmcaaGreatDoor.P8
/- fold and Mul of the document: a product modulo the prime. No condition but that the numbers have 256 bits. -/
namespace Go.Proofs.YtdajmekliodmcaaGreatDoor.P8
open Go.RowKit Go.Shelf
set_option linter.unusedVariables false
set_option linter.unusedSimpArgs false
end Go.Proofs.YtdajmekliodmcaaGreatDoor.P8
/- Mul of the document: a product modulo the prime. No condition but that the numbers have 256 bits. -/
namespace Go.Proofs.YtdajmekliodmcaaGreatDoor.P8
open Go.RowKit Go.Shelf
set_option linter.unusedVariables false
set_option linter.unusedSimpArgs false
end Go.Proofs.YtdajmekliodmcaaGreatDoor.P8
/- Pow of the document: a power modulo the prime, bit by bit. No condition but that the numbers have 256 bits. -/
namespace Go.Proofs.YtdajmekliodmcaaGreatDoor.P8
open Go.RowKit Go.Shelf
set_option linter.unusedVariables false
set_option linter.unusedSimpArgs false
theorem mod64_bit (x s : Nat) (hs : s < 64) : x % 18446744073709551616 / 2 ^ s % 2 = x / 2 ^ s % 2 := by
  rw [← Nat.toNat_testBit, ← Nat.toNat_testBit, show (18446744073709551616 : Nat) = 2 ^ 64 from rfl, Nat.testBit_mod_two_pow, decide_eq_true hs, Bool.true_and]
theorem dig_bit (n q : Nat) (hq : q < 256) : dig n (q / 64) / 2 ^ (q % 64) % 2 = n / 2 ^ q % 2 := by
  have hs : q % 64 < 64 := Nat.mod_lt _ (by decide)
  obtain ⟨s, hs2⟩ : ∃ s, s = q % 64 := ⟨_, rfl⟩
  rw [← hs2] at hs ⊢
  rcases (show q / 64 = 0 ∨ q / 64 = 1 ∨ q / 64 = 2 ∨ q / 64 = 3 by omega) with h | h | h | h <;> rw [h]
  · rw [dig_0, mod64_bit _ _ hs, show q = s by omega]
  · rw [dig_1, mod64_bit _ _ hs, Nat.div_div_eq_div_mul, show (18446744073709551616 : Nat) = 2 ^ 64 from rfl, ← Nat.pow_add, show q = 64 + s by omega]
  · rw [dig_2, mod64_bit _ _ hs, Nat.div_div_eq_div_mul, show (340282366920938463463374607431768211456 : Nat) = 2 ^ 128 from rfl, ← Nat.pow_add, show q = 128 + s by omega]
  · rw [dig_3, mod64_bit _ _ hs, Nat.div_div_eq_div_mul, show (6277101735386680763835789423207666416102355444464034512896 : Nat) = 2 ^ 192 from rfl, ← Nat.pow_add, show q = 192 + s by omega]
theorem exec_quo64 {ρ : Operand → Value} {o : Oper} (x : Operand) (ho : o.op = .binOp .quo 3 x (.const (.int .i64 64)) 3) (hc : ρ (.const (.int .i64 64)) = .int .i64 64) (i j : Nat) (hi : i < 1000) (hx : ρ x = .int .i64 (i : Int)) (hj : j = i / 64) (w : World) : (execOp ρ o).run Tryz.prog w = .ok (.value (.int .i64 (j : Int))) w := by
  have hq : (i : Int).tdiv 64 = (j : Int) := by rw [Int.tdiv_eq_ediv_of_nonneg (by omega)]; omega
  have hq2 : (i : Int) / 64 = (j : Int) := by omega
  have hw : IntKind.i64.wrap (j : Int) = (j : Int) := IntWalk.i64_in _ (by omega)
  clear hj
  unfold execOp
  rw [ho]
  simp only [hx, hc]
  go_simp
theorem exec_rem64 {ρ : Operand → Value} {o : Oper} (x : Operand) (ho : o.op = .binOp .rem 3 x (.const (.int .i64 64)) 3) (hc : ρ (.const (.int .i64 64)) = .int .i64 64) (i j : Nat) (hi : i < 1000) (hx : ρ x = .int .i64 (i : Int)) (hj : j = i % 64) (w : World) : (execOp ρ o).run Tryz.prog w = .ok (.value (.int .i64 (j : Int))) w := by
  have hq : (i : Int).tmod 64 = (j : Int) := by rw [Int.tmod_eq_emod_of_nonneg (by omega)]; omega
  have hq2 : (i : Int) % 64 = (j : Int) := by omega
  have hw : IntKind.i64.wrap (j : Int) = (j : Int) := IntWalk.i64_in _ (by omega)
  clear hj
  unfold execOp
  rw [ho]
  simp only [hx, hc]
  go_simp
theorem and_one (d r : Nat) (hd : d < 18446744073709551616) (hr : r = d % 2) : bits .and .u64 (d : Int) 1 = (r : Int) := by
  have hb := bits_and_u64_nat d 1 hd (by decide)
  rw [show d &&& 1 = r by rw [Nat.and_one_is_mod, hr]] at hb
  exact hb
end Go.Proofs.YtdajmekliodmcaaGreatDoor.P8
/- shift and Inv of the document: a number halved so often; an inverse modulo the prime. No condition but that the numbers have 256 bits. -/
namespace Go.Proofs.YtdajmekliodmcaaGreatDoor.P8
open Go.RowKit Go.Shelf
set_option linter.unusedVariables false
set_option linter.unusedSimpArgs false
end Go.Proofs.YtdajmekliodmcaaGreatDoor.P8
/- Roots modulo 2^255 less 19 as plain arithmetic: as they are told, and what holds of them. No condition but what each names. -/
namespace Go.Proofs.YtdajmekliodmcaaGreatDoor.P8
set_option linter.unusedSimpArgs false
set_option linter.unusedVariables false
/-- A number whose square is minus one. -/
def tn : Nat := 19681161376707505956807079304988542015446066515923890162744021073123829784752
/-- Half of the prime less one. -/
def hf : Nat := 28948022309329048855892746252171976963317496166410141009864396001978282409974
theorem tn_sq : mulF tn tn = pp - 1 := by decide
theorem powF_pwm (a e v : Nat) (he : e < 2 ^ 256) (h : pwm pp 256 a e = v) : powF a e = v := by
  unfold powF
  rw [← h]
  exact (pwm_ok pp 256 a e he).symm
theorem powF_mulF (a b e : Nat) : powF (mulF a b) e = mulF (powF a e) (powF b e) := by
  unfold mulF powF
  rw [← Nat.pow_mod, Nat.mul_pow, Nat.mul_mod]
theorem fermatF (a : Nat) (h : a % pp ≠ 0) : powF a (pp - 1) = 1 := pp_prime.fermat_one a fun hd => h (Nat.mod_eq_zero_of_dvd hd)
theorem invF_mul (a : Nat) (h : a % pp ≠ 0) : mulF a (invF a) = 1 := by
  unfold invF
  rw [← mulF_modl, ← powF_one a, mulF_pow]
  exact fermatF a h
theorem sq_eq (x n : Nat) (hx : x < pp) (hn : n < pp) (h : mulF x x = mulF n n) : x = n ∨ (x + n) % pp = 0 := by
  have key : ∀ x n : Nat, x < pp → n < pp → n ≤ x → mulF x x = mulF n n → x = n ∨ (x + n) % pp = 0 := by
    intro x n hx hn hle h
    obtain ⟨d, rfl⟩ := Nat.le.dest hle
    have h1 : (n + d) * (n + d) = n * n + d * (n + d + n) := by
      rw [Nat.add_mul n d, Nat.mul_add n, Nat.mul_add d (n + d) n, Nat.mul_comm d n]
      omega
    have h2 : pp ∣ d * (n + d + n) := by
      have h3 := dvd_of_mod_eq (m := pp) (a := (n + d) * (n + d)) (b := n * n) h (by rw [h1]; omega)
      rwa [h1, Nat.add_sub_cancel_left] at h3
    rcases pp_prime.dvd_mul h2 with h3 | h3
    · left
      rcases Nat.eq_zero_or_pos d with rfl | h0
      · rfl
      · have := Nat.le_of_dvd h0 h3; omega
    · exact .inr (Nat.mod_eq_zero_of_dvd h3)
  rcases Nat.le_total n x with hl | hl
  · exact key x n hx hn hl h
  · rcases key n x hn hx hl h.symm with e | e
    · exact .inl e.symm
    · right; rw [Nat.add_comm]; exact e
theorem sq_one (x : Nat) (hx : x < pp) (h : mulF x x = 1) : x = 1 ∨ x = pp - 1 := by
  have hpp : pp = 57896044618658097711785492504343953926634992332820282019728792003956564819949 := rfl
  rcases sq_eq x 1 hx (by decide) (by rw [h]; decide) with e | e
  · exact .inl e
  · right
    obtain ⟨t, ht⟩ := Nat.dvd_of_mod_eq_zero e
    rcases t with _ | _ | t
    · simp at ht
    · omega
    · have : pp * 2 ≤ pp * (t + 1 + 1) := Nat.mul_le_mul_left _ (by omega)
      omega
/-- The power that is tried. -/
def rootR (a : Nat) : Nat := powF a 7237005577332262213973186563042994240829374041602535252466099000494570602494
/-- It, or it turned. -/
def rootT (a : Nat) : Nat := if mulF (rootR a) (rootR a) = a % pp then rootR a else mulF (rootR a) tn
/-- The root. -/
def rootF (a : Nat) : Nat × Bool := if mulF (rootT a) (rootT a) = a % pp then (if rootT a % 2 = 1 then subF 0 (rootT a) else rootT a, true) else (0, false)
theorem rootR_lt (a : Nat) : rootR a < pp := powF_lt _ _
theorem rootT_lt (a : Nat) : rootT a < pp := by unfold rootT; split; exact rootR_lt a; exact mulF_lt _ _
theorem rootF_mod (a : Nat) : rootF (a % pp) = rootF a := by
  have h : rootT (a % pp) = rootT a := by unfold rootT rootR; rw [powF_mod, Nat.mod_mod]
  unfold rootF
  rw [h, Nat.mod_mod]
theorem rootF_sq (a : Nat) (h : (rootF a).2 = true) : mulF (rootF a).1 (rootF a).1 = a % pp := by
  unfold rootF at h ⊢
  split
  · rename_i h1
    show mulF (if rootT a % 2 = 1 then subF 0 (rootT a) else rootT a) (if rootT a % 2 = 1 then subF 0 (rootT a) else rootT a) = a % pp
    split
    · rw [subF_zero_sq _ (pp_lt (rootT_lt a))]; exact h1
    · exact h1
  · rename_i h1
    rw [if_neg h1] at h
    exact absurd h (by decide)
theorem rootF_zero (a : Nat) (h : a % pp = 0) : rootF a = (0, true) := by
  have h1 : rootR a = 0 := powF_zero_of a _ h (by decide)
  have h2 : rootT a = 0 := by unfold rootT; rw [h1, if_pos (by rw [h]; rfl)]
  unfold rootF
  rw [h2, if_pos (by rw [h]; rfl)]
  rfl
theorem rootF_has (a : Nat) (h : a % pp ≠ 0) : (rootF a).2 = true ↔ powF a hf = 1 := by
  constructor
  · intro h1
    have h2 := rootF_sq a h1
    have h3 : (rootF a).1 % pp ≠ 0 := by
      intro h0
      rw [← mulF_modl, h0] at h2
      apply h
      rw [← h2]
      unfold mulF
      rw [Nat.zero_mul, Nat.zero_mod]
    rw [← powF_mod, ← h2, powF_mulF, mulF_pow]
    exact fermatF _ h3
  · intro h1
    have hr : mulF (rootR a) (rootR a) = mulF (powF a 14474011154664524427946373126085988481658748083205070504932198000989141204987) a := by
      unfold rootR
      rw [mulF_pow, ← mulF_modr, ← powF_one a, mulF_pow]
    have hs := sq_one (powF a 14474011154664524427946373126085988481658748083205070504932198000989141204987) (powF_lt _ _) (by rw [mulF_pow]; exact h1)
    have ht : mulF (rootT a) (rootT a) = a % pp := by
      unfold rootT
      split
      · assumption
      · rename_i hn
        rcases hs with e | e
        · exact absurd (by rw [hr, e]; unfold mulF; rw [Nat.one_mul]) hn
        · have e2 : mulF (mulF (rootR a) tn) (mulF (rootR a) tn) = mulF (mulF (rootR a) (rootR a)) (mulF tn tn) := by
            unfold mulF
            rw [← Nat.mul_mod, ← Nat.mul_mod, Nat.mul_mul_mul_comm]
          rw [e2, hr, e, tn_sq, mulF_comm (pp - 1) a, mulF_assoc, show mulF (pp - 1) (pp - 1) = 1 by decide, mulF_one]
    unfold rootF
    rw [if_pos ht]
theorem rootF_square (a : Nat) : (rootF (mulF a a)).2 = true := by
  by_cases h : mulF a a % pp = 0
  · rw [rootF_zero _ h]
  · rw [rootF_has _ h]
    have ha : a % pp ≠ 0 := by
      intro h0
      apply h
      rw [← mulF_modl, h0]
      unfold mulF
      rw [Nat.zero_mul, Nat.zero_mod, Nat.zero_mod]
    rw [powF_mulF, mulF_pow]
    exact fermatF a ha
end Go.Proofs.YtdajmekliodmcaaGreatDoor.P8
/- Single operations of the walks over roots; what is odd. No condition but what each names. -/
namespace Go.Proofs.YtdajmekliodmcaaGreatDoor.P8
open Go.RowKit Go.Shelf
set_option linter.unusedVariables false
set_option linter.unusedSimpArgs false
theorem exec_rem2 {ρ : Operand → Value} {o : Oper} (x : Operand) (ho : o.op = .binOp .rem 34 x (.const (.int .u64 2)) 34) (hc : ρ (.const (.int .u64 2)) = .int .u64 2) (d : Nat) (q : Nat) (hd : d % 2 = q) (hx : ρ x = .int .u64 (d : Int)) (w : World) :
    (execOp ρ o).run Tryz.prog w = .ok (.value (.int .u64 (q : Int))) w := by
  have hq : (d : Int).tmod 2 = (q : Int) := by rw [Int.tmod_eq_emod_of_nonneg (by omega)]; omega
  have hq2 : (d : Int) % 2 = (q : Int) := by omega
  have hw : IntKind.u64.wrap (q : Int) = (q : Int) := wrap_id (by omega)
  clear hd
  unfold execOp
  rw [ho]
  simp only [hx, hc]
  go_simp
theorem dig0_odd (x : Nat) : dig x 0 % 2 = x % 2 := by rw [dig_0]; omega
end Go.Proofs.YtdajmekliodmcaaGreatDoor.P8
/- Inv of the document: an inverse modulo the prime. No condition but that the number has 256 bits. -/
namespace Go.Proofs.YtdajmekliodmcaaGreatDoor.P8
open Go.RowKit Go.Shelf
set_option linter.unusedVariables false
set_option linter.unusedSimpArgs false
end Go.Proofs.YtdajmekliodmcaaGreatDoor.P8
/- Root of the document: the even root modulo the prime, with whether there is one. No condition but that the number has 256 bits. -/
namespace Go.Proofs.YtdajmekliodmcaaGreatDoor.P8
open Go.RowKit Go.Shelf
set_option linter.unusedVariables false
set_option linter.unusedSimpArgs false
/-- A number with whether it is one, in memory. -/
def gotV (f : Nat → Nat) (b : Bool) : Array Value := (rowOf .u64 4 f ++ [Value.bool b]).toArray
def IsGot (A : Array Value) : Prop := ∃ f b, A = gotV f b
theorem IsGot.size {A : Array Value} (h : IsGot A) : A.size = 5 := by obtain ⟨f, b, rfl⟩ := h; simp [gotV, rowOf_length]
end Go.Proofs.YtdajmekliodmcaaGreatDoor.P8
/- Numbers modulo 2^255 less 19 as a ring of Lean's own, where identities are proved by program; from there to sums, products, inverses of plain numbers. No condition but what each names. -/
namespace Go.Proofs.YtdajmekliodmcaaGreatDoor.P8
set_option linter.unusedSimpArgs false
set_option linter.unusedVariables false
instance ppNZ : NeZero pp := ⟨by decide⟩
/-- The ring. -/
abbrev K := Fin pp
/-- A number as one of the ring. -/
def toK (n : Nat) : K := Fin.ofNat pp n
theorem toK_val (n : Nat) : (toK n).val = n % pp := rfl
theorem toK_of (x : K) : toK x.val = x := by
  apply Fin.ext
  rw [toK_val]
  exact Nat.mod_eq_of_lt x.isLt
theorem toK_mod (n : Nat) : toK (n % pp) = toK n := by apply Fin.ext; rw [toK_val, toK_val, Nat.mod_mod]
theorem toK_inj {a b : Nat} (ha : a < pp) (hb : b < pp) (h : toK a = toK b) : a = b := by
  have h2 := congrArg Fin.val h
  rw [toK_val, toK_val, Nat.mod_eq_of_lt ha, Nat.mod_eq_of_lt hb] at h2
  exact h2
theorem toK_add (a b : Nat) : toK (addF a b) = toK a + toK b := by
  apply Fin.ext
  rw [toK_val, Fin.val_add, toK_val, toK_val]
  unfold addF
  rw [Nat.mod_mod, ← Nat.add_mod]
theorem toK_mul (a b : Nat) : toK (mulF a b) = toK a * toK b := by
  apply Fin.ext
  rw [toK_val, Fin.val_mul, toK_val, toK_val]
  unfold mulF
  rw [Nat.mod_mod, ← Nat.mul_mod]
theorem toK_zero : toK 0 = 0 := by decide
theorem toK_one : toK 1 = 1 := by decide
theorem toK_eq_zero {a : Nat} : toK a = 0 ↔ a % pp = 0 := by
  constructor
  · intro h
    have h2 := congrArg Fin.val h
    rw [toK_val] at h2
    exact h2
  · intro h
    apply Fin.ext
    rw [toK_val, h]
    rfl
theorem toK_sub (a b : Nat) (hb : b < 115792089237316195423570985008687907853269984665640564039457584007913129639936) : toK (subF a b) = toK a - toK b := by
  have h := addF_subF a b hb
  have h2 := congrArg toK h
  rw [toK_add, toK_mod] at h2
  rw [← h2]
  generalize toK (subF a b) = x
  generalize toK b = y
  grind
/-- The inverse. -/
def kinv (x : K) : K := toK (invF x.val)
theorem toK_inv (a : Nat) : toK (invF a) = kinv (toK a) := by
  unfold kinv
  rw [toK_val]
  unfold invF
  rw [powF_mod]
theorem k_mul_inv {x : K} (h : x ≠ 0) : x * kinv x = 1 := by
  have h2 : x.val % pp ≠ 0 := by
    intro h0
    apply h
    rw [← toK_of x]
    exact toK_eq_zero.2 h0
  have h3 := congrArg toK (invF_mul x.val h2)
  rw [toK_mul, toK_of, toK_one] at h3
  exact h3
theorem k_mul_zero {x y : K} (h : x * y = 0) : x = 0 ∨ y = 0 := by
  by_cases hx : x = 0
  · exact .inl hx
  · have h1 := k_mul_inv hx
    refine .inr ?_
    have h2 : y = kinv x * (x * y) := by grind
    rw [h2, h]
    grind
theorem k_mul_ne {x y : K} (hx : x ≠ 0) (hy : y ≠ 0) : x * y ≠ 0 := fun h => (k_mul_zero h).elim hx hy
theorem k_one_ne : (1 : K) ≠ 0 := by decide
theorem k_cancel {x y z : K} (hz : z ≠ 0) (h : x * z = y * z) : x = y := by
  have h1 := k_mul_inv hz
  have h2 : x = x * z * kinv z := by grind
  have h3 : y = y * z * kinv z := by grind
  rw [h2, h3, h]
/-- A quotient. -/
theorem k_div {x y z : K} (hz : z ≠ 0) : x = y * kinv z ↔ x * z = y := by
  have h1 := k_mul_inv hz
  constructor
  · rintro rfl
    grind
  · intro h
    rw [← h]
    grind
/-- A square that is none. -/
theorem k_nonsq {n : Nat} (h : (rootF n).2 = false) (z : K) : z * z ≠ toK n := by
  intro e
  have h1 : toK (mulF z.val z.val) = toK n := by rw [toK_mul, toK_of]; exact e
  have h2 := rootF_square z.val
  have h3 : mulF z.val z.val % pp = n % pp := by
    have h4 := congrArg Fin.val h1
    rw [toK_val, toK_val] at h4
    exact h4
  rw [← rootF_mod, h3, rootF_mod, h] at h2
  exact absurd h2 (by decide)
/-- A number whose square is minus one. -/
def ki : K := toK tn
theorem ki_sq : ki * ki = -1 := by
  have h := congrArg toK tn_sq
  rw [toK_mul] at h
  unfold ki
  rw [h]
  decide
end Go.Proofs.YtdajmekliodmcaaGreatDoor.P8
/- The curve Y Y - X X = 1 + d X X Y Y as plain algebra: sums are told of any two of its points, are points, whatever their order, and grouped however. No condition but what each names. -/
namespace Go.Proofs.YtdajmekliodmcaaGreatDoor.P8
set_option linter.unusedSimpArgs false
set_option linter.unusedVariables false
set_option maxHeartbeats 2000000
/-- The curve's number. -/
def dN : Nat := mulF (subF 0 121665) (invF 121666)
def dK : K := toK dN
theorem dN_val : dN = 37095705934669439343138083508754565189542113879843219016388785533085940283555 := by
  unfold dN invF
  rw [powF_pwm 121666 (pp - 2) _ (by decide) rfl]
  decide +kernel
theorem dN_root : (rootF dN).2 = false := by
  rw [dN_val]
  cases h : (rootF 37095705934669439343138083508754565189542113879843219016388785533085940283555).2 with
  | false => rfl
  | true =>
    exfalso
    have h1 := (rootF_has _ (by decide)).1 h
    rw [powF_pwm _ hf _ (by decide) rfl] at h1
    exact absurd h1 (by decide +kernel)
theorem d_nonsq (z : K) : z * z ≠ dK := k_nonsq dN_root z
theorem assocX_id (dK x1 y1 x2 y2 x3 y3 : K) : ((x1*y2+y1*x2)*(1-(dK*x1*x2*y1*y2))*y3+(y1*y2+x1*x2)*(1+(dK*x1*x2*y1*y2))*x3)*((1-(dK*x2*x3*y2*y3)*(dK*x2*x3*y2*y3))+dK*x1*y1*(x2*y3+y2*x3)*(y2*y3+x2*x3))-(x1*(y2*y3+x2*x3)*(1+(dK*x2*x3*y2*y3))+y1*(x2*y3+y2*x3)*(1-(dK*x2*x3*y2*y3)))*((1-(dK*x1*x2*y1*y2)*(dK*x1*x2*y1*y2))+dK*(x1*y2+y1*x2)*(y1*y2+x1*x2)*x3*y3) =
    (-dK*dK*x1*x2*x2*x2*x2*x3*x3*y2*y2*y2*y3 - dK*dK*x1*x2*x2*x2*x3*y2*y2*y2*y2*y3*y3 + dK*dK*x2*x2*x2*x2*x3*y1*y2*y2*y2*y3*y3 + dK*dK*x2*x2*x2*x3*x3*y1*y2*y2*y2*y2*y3 - dK*x1*x2*x2*x2*x2*x3*x3*y2*y3 - dK*x1*x2*x2*x2*x3*x3*x3*y2*y2 - dK*x1*x2*x2*x2*x3*y2*y2 + dK*x1*x2*x2*y2*y2*y2*y3*y3*y3 - dK*x1*x2*x2*y2*y2*y2*y3 + dK*x1*x2*x3*y2*y2*y2*y2*y3*y3 + dK*x2*x2*x2*x2*x3*y1*y2*y3*y3 + dK*x2*x2*x2*y1*y2*y2*y3*y3*y3 - dK*x2*x2*x2*y1*y2*y2*y3 - dK*x2*x2*x3*x3*x3*y1*y2*y2*y2 - dK*x2*x2*x3*y1*y2*y2*y2 - dK*x2*x3*x3*y1*y2*y2*y2*y2*y3)*(y1*y1-x1*x1-1-dK*x1*x1*y1*y1) + (dK*dK*x1*x1*x2*x2*x3*x3*x3*y1*y2*y3*y3 - dK*dK*x1*x1*x2*x3*x3*y1*y2*y2*y3*y3*y3 - dK*dK*x1*x2*x2*x3*x3*y1*y1*y2*y3*y3*y3 + dK*dK*x1*x2*x3*x3*x3*y1*y1*y2*y2*y3*y3 + dK*x1*x1*x1*x2*x2*x3*x3*y2*y3 + dK*x1*x1*x1*x2*x3*x3*x3*y3*y3 + dK*x1*x1*x1*x2*x3*y2*y2*y3*y3 + dK*x1*x1*x1*x3*x3*y2*y3*y3*y3 - dK*x1*x1*x2*x2*x3*y1*y2*y3*y3 - dK*x1*x1*x2*x3*x3*y1*y2*y2*y3 + dK*x1*x1*x2*x3*x3*y1*y3*y3*y3 + dK*x1*x1*x3*x3*x3*y1*y2*y3*y3 - dK*x1*x2*x2*x3*x3*y1*y1*y2*y3 + dK*x1*x2*x2*x3*x3*y2*y3 - dK*x1*x2*x3*x3*x3*y1*y1*y3*y3 + dK*x1*x2*x3*x3*x3*y3*y3 - dK*x1*x2*x3*y1*y1*y2*y2*y3*y3 + dK*x1*x2*x3*y2*y2*y3*y3 - dK*x1*x3*x3*y1*y1*y2*y3*y3*y3 + dK*x1*x3*x3*y2*y3*y3*y3 + dK*x2*x2*x3*y1*y1*y1*y2*y3*y3 - dK*x2*x2*x3*y1*y2*y3*y3 + dK*x2*x3*x3*y1*y1*y1*y2*y2*y3 - dK*x2*x3*x3*y1*y1*y1*y3*y3*y3 - dK*x2*x3*x3*y1*y2*y2*y3 + dK*x2*x3*x3*y1*y3*y3*y3 - dK*x3*x3*x3*y1*y1*y1*y2*y3*y3 + dK*x3*x3*x3*y1*y2*y3*y3 + x1*x1*x1*x2*x3*x3*x3 - x1*x1*x1*x2*x3*y3*y3 + x1*x1*x1*x2*x3 + x1*x1*x1*x3*x3*y2*y3 - x1*x1*x1*y2*y3*y3*y3 + x1*x1*x1*y2*y3 + x1*x1*x2*x3*x3*y1*y3 - x1*x1*x2*y1*y3*y3*y3 + x1*x1*x2*y1*y3 + x1*x1*x3*x3*x3*y1*y2 - x1*x1*x3*y1*y2*y3*y3 + x1*x1*x3*y1*y2 - x1*x2*x3*x3*x3*y1*y1 + x1*x2*x3*x3*x3 + x1*x2*x3*y1*y1*y3*y3 - x1*x2*x3*y1*y1 - x1*x2*x3*y3*y3 + x1*x2*x3 - x1*x3*x3*y1*y1*y2*y3 + x1*x3*x3*y2*y3 + x1*y1*y1*y2*y3*y3*y3 - x1*y1*y1*y2*y3 - x1*y2*y3*y3*y3 + x1*y2*y3 - x2*x3*x3*y1*y1*y1*y3 + x2*x3*x3*y1*y3 + x2*y1*y1*y1*y3*y3*y3 - x2*y1*y1*y1*y3 - x2*y1*y3*y3*y3 + x2*y1*y3 - x3*x3*x3*y1*y1*y1*y2 + x3*x3*x3*y1*y2 + x3*y1*y1*y1*y2*y3*y3 - x3*y1*y1*y1*y2 - x3*y1*y2*y3*y3 + x3*y1*y2)*(y2*y2-x2*x2-1-dK*x2*x2*y2*y2) + (-dK*x1*x1*x2*x2*x3*y1*y2 + dK*x1*x1*x2*y1*y2*y2*y3 + dK*x1*x2*x2*y1*y1*y2*y3 - dK*x1*x2*x3*y1*y1*y2*y2 - x1*x1*x1*x2*x2*x2*x3 - x1*x1*x1*x2*x2*y2*y3 + x1*x1*x1*x2*x3*y2*y2 - x1*x1*x1*x2*x3 + x1*x1*x1*y2*y2*y2*y3 - x1*x1*x1*y2*y3 - x1*x1*x2*x2*x2*y1*y3 - x1*x1*x2*x2*x3*y1*y2 + x1*x1*x2*y1*y2*y2*y3 - x1*x1*x2*y1*y3 + x1*x1*x3*y1*y2*y2*y2 - x1*x1*x3*y1*y2 + x1*x2*x2*x2*x3*y1*y1 - x1*x2*x2*x2*x3 + x1*x2*x2*y1*y1*y2*y3 - x1*x2*x2*y2*y3 - x1*x2*x3*y1*y1*y2*y2 + x1*x2*x3*y1*y1 + x1*x2*x3*y2*y2 - x1*x2*x3 - x1*y1*y1*y2*y2*y2*y3 + x1*y1*y1*y2*y3 + x1*y2*y2*y2*y3 - x1*y2*y3 + x2*x2*x2*y1*y1*y1*y3 - x2*x2*x2*y1*y3 + x2*x2*x3*y1*y1*y1*y2 - x2*x2*x3*y1*y2 - x2*y1*y1*y1*y2*y2*y3 + x2*y1*y1*y1*y3 + x2*y1*y2*y2*y3 - x2*y1*y3 - x3*y1*y1*y1*y2*y2*y2 + x3*y1*y1*y1*y2 + x3*y1*y2*y2*y2 - x3*y1*y2)*(y3*y3-x3*x3-1-dK*x3*x3*y3*y3) := by grind
theorem assocY_id (dK x1 y1 x2 y2 x3 y3 : K) : ((y1*y2+x1*x2)*(1+(dK*x1*x2*y1*y2))*y3+(x1*y2+y1*x2)*(1-(dK*x1*x2*y1*y2))*x3)*((1-(dK*x2*x3*y2*y3)*(dK*x2*x3*y2*y3))-dK*x1*y1*(x2*y3+y2*x3)*(y2*y3+x2*x3))-(y1*(y2*y3+x2*x3)*(1+(dK*x2*x3*y2*y3))+x1*(x2*y3+y2*x3)*(1-(dK*x2*x3*y2*y3)))*((1-(dK*x1*x2*y1*y2)*(dK*x1*x2*y1*y2))-dK*(x1*y2+y1*x2)*(y1*y2+x1*x2)*x3*y3) =
    (dK*dK*x1*x2*x2*x2*x2*x3*y2*y2*y2*y3*y3 + dK*dK*x1*x2*x2*x2*x3*x3*y2*y2*y2*y2*y3 - dK*dK*x2*x2*x2*x2*x3*x3*y1*y2*y2*y2*y3 - dK*dK*x2*x2*x2*x3*y1*y2*y2*y2*y2*y3*y3 + dK*x1*x2*x2*x2*x2*x3*y2*y3*y3 + dK*x1*x2*x2*x2*y2*y2*y3*y3*y3 - dK*x1*x2*x2*x2*y2*y2*y3 - dK*x1*x2*x2*x3*x3*x3*y2*y2*y2 - dK*x1*x2*x2*x3*y2*y2*y2 - dK*x1*x2*x3*x3*y2*y2*y2*y2*y3 - dK*x2*x2*x2*x2*x3*x3*y1*y2*y3 - dK*x2*x2*x2*x3*x3*x3*y1*y2*y2 - dK*x2*x2*x2*x3*y1*y2*y2 + dK*x2*x2*y1*y2*y2*y2*y3*y3*y3 - dK*x2*x2*y1*y2*y2*y2*y3 + dK*x2*x3*y1*y2*y2*y2*y2*y3*y3)*(y1*y1-x1*x1-1-dK*x1*x1*y1*y1) + (dK*dK*x1*x1*x2*x2*x3*x3*y1*y2*y3*y3*y3 - dK*dK*x1*x1*x2*x3*x3*x3*y1*y2*y2*y3*y3 - dK*dK*x1*x2*x2*x3*x3*x3*y1*y1*y2*y3*y3 + dK*dK*x1*x2*x3*x3*y1*y1*y2*y2*y3*y3*y3 - dK*x1*x1*x1*x2*x2*x3*y2*y3*y3 - dK*x1*x1*x1*x2*x3*x3*y2*y2*y3 + dK*x1*x1*x1*x2*x3*x3*y3*y3*y3 + dK*x1*x1*x1*x3*x3*x3*y2*y3*y3 + dK*x1*x1*x2*x2*x3*x3*y1*y2*y3 + dK*x1*x1*x2*x3*x3*x3*y1*y3*y3 + dK*x1*x1*x2*x3*y1*y2*y2*y3*y3 + dK*x1*x1*x3*x3*y1*y2*y3*y3*y3 + dK*x1*x2*x2*x3*y1*y1*y2*y3*y3 - dK*x1*x2*x2*x3*y2*y3*y3 + dK*x1*x2*x3*x3*y1*y1*y2*y2*y3 - dK*x1*x2*x3*x3*y1*y1*y3*y3*y3 - dK*x1*x2*x3*x3*y2*y2*y3 + dK*x1*x2*x3*x3*y3*y3*y3 - dK*x1*x3*x3*x3*y1*y1*y2*y3*y3 + dK*x1*x3*x3*x3*y2*y3*y3 - dK*x2*x2*x3*x3*y1*y1*y1*y2*y3 + dK*x2*x2*x3*x3*y1*y2*y3 - dK*x2*x3*x3*x3*y1*y1*y1*y3*y3 + dK*x2*x3*x3*x3*y1*y3*y3 - dK*x2*x3*y1*y1*y1*y2*y2*y3*y3 + dK*x2*x3*y1*y2*y2*y3*y3 - dK*x3*x3*y1*y1*y1*y2*y3*y3*y3 + dK*x3*x3*y1*y2*y3*y3*y3 + x1*x1*x1*x2*x3*x3*y3 - x1*x1*x1*x2*y3*y3*y3 + x1*x1*x1*x2*y3 + x1*x1*x1*x3*x3*x3*y2 - x1*x1*x1*x3*y2*y3*y3 + x1*x1*x1*x3*y2 + x1*x1*x2*x3*x3*x3*y1 - x1*x1*x2*x3*y1*y3*y3 + x1*x1*x2*x3*y1 + x1*x1*x3*x3*y1*y2*y3 - x1*x1*y1*y2*y3*y3*y3 + x1*x1*y1*y2*y3 - x1*x2*x3*x3*y1*y1*y3 + x1*x2*x3*x3*y3 + x1*x2*y1*y1*y3*y3*y3 - x1*x2*y1*y1*y3 - x1*x2*y3*y3*y3 + x1*x2*y3 - x1*x3*x3*x3*y1*y1*y2 + x1*x3*x3*x3*y2 + x1*x3*y1*y1*y2*y3*y3 - x1*x3*y1*y1*y2 - x1*x3*y2*y3*y3 + x1*x3*y2 - x2*x3*x3*x3*y1*y1*y1 + x2*x3*x3*x3*y1 + x2*x3*y1*y1*y1*y3*y3 - x2*x3*y1*y1*y1 - x2*x3*y1*y3*y3 + x2*x3*y1 - x3*x3*y1*y1*y1*y2*y3 + x3*x3*y1*y2*y3 + y1*y1*y1*y2*y3*y3*y3 - y1*y1*y1*y2*y3 - y1*y2*y3*y3*y3 + y1*y2*y3)*(y2*y2-x2*x2-1-dK*x2*x2*y2*y2) + (-dK*x1*x1*x2*x2*y1*y2*y3 + dK*x1*x1*x2*x3*y1*y2*y2 + dK*x1*x2*x2*x3*y1*y1*y2 - dK*x1*x2*y1*y1*y2*y2*y3 - x1*x1*x1*x2*x2*x2*y3 - x1*x1*x1*x2*x2*x3*y2 + x1*x1*x1*x2*y2*y2*y3 - x1*x1*x1*x2*y3 + x1*x1*x1*x3*y2*y2*y2 - x1*x1*x1*x3*y2 - x1*x1*x2*x2*x2*x3*y1 - x1*x1*x2*x2*y1*y2*y3 + x1*x1*x2*x3*y1*y2*y2 - x1*x1*x2*x3*y1 + x1*x1*y1*y2*y2*y2*y3 - x1*x1*y1*y2*y3 + x1*x2*x2*x2*y1*y1*y3 - x1*x2*x2*x2*y3 + x1*x2*x2*x3*y1*y1*y2 - x1*x2*x2*x3*y2 - x1*x2*y1*y1*y2*y2*y3 + x1*x2*y1*y1*y3 + x1*x2*y2*y2*y3 - x1*x2*y3 - x1*x3*y1*y1*y2*y2*y2 + x1*x3*y1*y1*y2 + x1*x3*y2*y2*y2 - x1*x3*y2 + x2*x2*x2*x3*y1*y1*y1 - x2*x2*x2*x3*y1 + x2*x2*y1*y1*y1*y2*y3 - x2*x2*y1*y2*y3 - x2*x3*y1*y1*y1*y2*y2 + x2*x3*y1*y1*y1 + x2*x3*y1*y2*y2 - x2*x3*y1 - y1*y1*y1*y2*y2*y2*y3 + y1*y1*y1*y2*y3 + y1*y2*y2*y2*y3 - y1*y2*y3)*(y3*y3-x3*x3-1-dK*x3*x3*y3*y3) := by grind
theorem close_id (dK x1 y1 x2 y2 : K) : (y1*y2+x1*x2)*(y1*y2+x1*x2)*((1+(dK*x1*x2*y1*y2))*(1+(dK*x1*x2*y1*y2)))-(x1*y2+y1*x2)*(x1*y2+y1*x2)*((1-(dK*x1*x2*y1*y2))*(1-(dK*x1*x2*y1*y2)))-(1-(dK*x1*x2*y1*y2)*(dK*x1*x2*y1*y2))*(1-(dK*x1*x2*y1*y2)*(dK*x1*x2*y1*y2))-dK*((x1*y2+y1*x2)*(x1*y2+y1*x2))*((y1*y2+x1*x2)*(y1*y2+x1*x2)) =
    (dK*dK*dK*x1*x1*x2*x2*x2*x2*y1*y1*y2*y2*y2*y2 - dK*dK*x1*x1*x2*x2*x2*x2*y2*y2*y2*y2 + dK*dK*x2*x2*x2*x2*y1*y1*y2*y2*y2*y2 - dK*dK*x2*x2*x2*x2*y2*y2*y2*y2 - dK*x1*x1*x2*x2*x2*x2*y2*y2 + dK*x1*x1*x2*x2*y2*y2*y2*y2 + dK*x2*x2*x2*x2*y1*y1*y2*y2 - 2*dK*x2*x2*x2*x2*y2*y2*y2*y2 - dK*x2*x2*y1*y1*y2*y2*y2*y2 - 2*dK*x2*x2*y2*y2 - 2*x2*x2*x2*x2*y2*y2 + x2*x2*x2*x2 + 2*x2*x2*y2*y2*y2*y2 - 4*x2*x2*y2*y2 + y2*y2*y2*y2)*(y1*y1-x1*x1-1-dK*x1*x1*y1*y1) + (dK*x1*x1*x1*x1*x2*x2*y2*y2 + 2*dK*x1*x1*x2*x2*y2*y2 + dK*x2*x2*y1*y1*y1*y1*y2*y2 - 2*dK*x2*x2*y1*y1*y2*y2 + dK*x2*x2*y2*y2 + 2*x1*x1*x2*x2*y2*y2 - x1*x1*x2*x2 + x1*x1*y2*y2 - 2*x2*x2*y1*y1*y2*y2 + x2*x2*y1*y1 + 2*x2*x2*y2*y2 - x2*x2 - y1*y1*y2*y2 + y2*y2 + 1)*(y2*y2-x2*x2-1-dK*x2*x2*y2*y2) := by grind
end Go.Proofs.YtdajmekliodmcaaGreatDoor.P8
