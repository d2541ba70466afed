/- Several texts, one behind the other; each says by itself what it proves, and on what conditions. -/
import Derived.Test.YtdajmekliodmcaaGreatDoorK16
import Derived.ProofKit
import Derived.LaidMore
import Derived.LaidHandle
import Derived.LaidLaws
import Derived.OpenShut
import Derived.ChangeArms
import Derived.Lay
import Derived.Stop.Joined
namespace Go.Proofs.YtdajmekliodmcaaGreatDoor.P8
open Go.RowKit Go.Shelf
set_option linter.unusedVariables false
set_option linter.unusedSimpArgs false
theorem bits_andNot_u64_nat (a b : Nat) (ha : a < 18446744073709551616) (hb : b < 18446744073709551616) :
    bits .andNot .u64 (a : Int) (b : Int) = ((a &&& (18446744073709551615 - b) : Nat) : Int) := by
  have hx : a &&& (18446744073709551615 - b) < 2 ^ 64 := Nat.and_lt_two_pow _ (by omega)
  have h1 : (BitVec.ofInt 64 (a : Int)).toNat = a := by
    rw [BitVec.ofInt_natCast, BitVec.toNat_ofNat]; exact Nat.mod_eq_of_lt (by omega)
  have h2 : (BitVec.ofInt 64 (b : Int)).toNat = b := by
    rw [BitVec.ofInt_natCast, BitVec.toNat_ofNat]; exact Nat.mod_eq_of_lt (by omega)
  show IntKind.u64.wrap ((BitVec.ofInt 64 (a : Int) &&& ~~~ BitVec.ofInt 64 (b : Int)).toNat : Int) = _
  rw [BitVec.toNat_and, BitVec.toNat_not, h1, h2, IntKind.wrap_u64]
  have e : 2 ^ 64 - 1 - b = 18446744073709551615 - b := rfl
  rw [e]
  omega
def secW (l : List UInt8) : Nat → Nat := upd (upd (wordAt l) 0 (wordAt l 0 &&& 18446744073709551608)) 3 ((wordAt l 3 &&& 9223372036854775807) ||| 4611686018427387904)
def secN (l : List UInt8) : Nat := valN (secW l)
theorem sha_len (l : List UInt8) : (W4.sha l).length = 64 := by
  unfold W4.sha
  generalize W4.mids W4.h0 (W4.pad l) ((W4.pad l).length / 128) = t
  rfl
theorem secW_lt (l : List UInt8) (j : Nat) : secW l j < 18446744073709551616 := by
  unfold secW upd
  have h0 : wordAt l 0 &&& 18446744073709551608 < 2 ^ 64 := Nat.and_lt_two_pow _ (by decide)
  have h3 : wordAt l 3 &&& 9223372036854775807 < 2 ^ 64 := Nat.and_lt_two_pow _ (by decide)
  have h4 : (wordAt l 3 &&& 9223372036854775807) ||| 4611686018427387904 < 2 ^ 64 := Nat.or_lt_two_pow h3 (by decide)
  split
  · exact h4
  · split
    · exact h0
    · exact wordAt_lt _ _
theorem wordAt_take32 (l : List UInt8) (j : Nat) (hj : j < 4) : wordAt (l.take 32) j = wordAt l j := by
  unfold wordAt
  rw [List.drop_take, List.take_take, show min 8 (32 - 8 * j) = 8 by omega]
theorem exec_andNot {ρ : Operand → Value} {o : Oper} (x y : Operand) (ho : o.op = .binOp .andNot 34 x y 34) (a b r : Nat) (ha : a < 18446744073709551616) (hb : b < 18446744073709551616) (hx : ρ x = .int .u64 (a : Int)) (hy : ρ y = .int .u64 (b : Int)) (hr : r = a &&& (18446744073709551615 - b)) (w : World) : (execOp ρ o).run Tryz.prog w = .ok (.value (.int .u64 (r : Int))) w := by
  have hb := bits_andNot_u64_nat a b ha hb
  rw [← hr] at hb
  clear hr
  unfold execOp
  rw [ho]
  simp only [hx, hy]
  go_simp
theorem exec_slice32 {ρ : Operand → Value} {o : Oper} (x : Operand) (ho : o.op = .slice 9 x (some (.const (.int .i64 32))) none none) (S V : ByteArray) (hS : S.size = 64) (hx : ρ x = .string S) (hc : ρ (.const (.int .i64 32)) = .int .i64 32) (hV : Hid (S.extract 32 S.size = V)) (w : World) : (execOp ρ o).run Tryz.prog w = .ok (.value (.string V)) w := by
  rw [← hV.out]
  exact W4.exec_slice_from x (.const (.int .i64 32)) ho S 32 (by omega) hx hc w
set_option maxRecDepth 100000 in
set_option maxHeartbeats 1000000 in
theorem secret_any (S : ByteArray) (hS : S.size ≤ 100000) (w : World) :
    Calls Tryz.prog 30 #[.string S] w fun e w' => e = .returned (.tuple #[.agg (num (secN (W4.sha S.data.toList))), .string ⟨((W4.sha S.data.toList).drop 32).toArray⟩]) ∧ Below w.heap.size w w' := by
  have H1 : Hid (∀ w, _) := Lib.hid (fun w => W4.sum_any S hS w)
  have hl64 : (W4.sha S.data.toList).length = 64 := sha_len _
  obtain ⟨l, hl0⟩ : ∃ l, Hid (l = W4.sha S.data.toList) := ⟨_, Lib.hid rfl⟩
  rw [← hl0.out] at H1 hl64 ⊢
  obtain ⟨s, hs0⟩ : ∃ s : ByteArray, Hid (s = ⟨l.toArray⟩) := ⟨_, Lib.hid rfl⟩
  have hl : Hid (l = s.data.toList) := by unfold Hid; rw [hs0.out]
  have hs64 : s.size = 64 := by rw [hs0.out]; exact hl64
  obtain ⟨V, hV⟩ : ∃ V : ByteArray, Hid (V = ⟨(l.drop 32).toArray⟩) := ⟨_, Lib.hid rfl⟩
  have hVe : Hid (s.extract 32 s.size = V) := by
    unfold Hid
    rw [hV.out, hs64]
    apply ByteArray.ext
    rw [ByteArray.data_extract, hs0.out, List.extract_toArray, List.extract_eq_take_drop, List.take_of_length_le (by rw [List.length_drop]; omega)]
  rw [← hV.out]
  rw [← hs0.out] at H1
  have HZ := zero_run
  have IZ := isNum 0
  have HK0 : Hid (Kn w [(w.heap.size, (rowOf .u64 4 (wordAt (l.take 0))).toArray)] (w.alloc (.cells (num 0) 36))) := by
    have h := (Kn.nil w).new (num 0)
    rw [List.take_zero, rowOf_ext (f := wordAt []) (g := fun _ => 0) (fun j _ => wordAt_nil j), num_zero]
    exact Lib.hid h
  obtain ⟨Z, hZe⟩ : ∃ Z, Hid (Z = num 0) := ⟨_, Lib.hid rfl⟩
  rw [← hZe.out] at HK0 IZ
  have HZ2 : ∀ w, (zeroValue 36).run Tryz.prog w = .ok (.agg Z) w := by rw [hZe.out]; exact HZ
  have hs32 : (s.size : Int) = 64 := by omega
  clear HZ
  go_enter Tryz.func30, Tryz.ntmps30
  go_wp2_with (refine wpList_run rfl _ (exec_alloc_agg _ 36 rfl _ (HZ2 _)) ?_)
  generalize hg : w.heap.size = g at *
  generalize w.alloc (.cells Z 36) = W0 at *
  refine (H1.out _).mono ?_
  rintro e w2 ⟨rfl, hb⟩
  have HK := Lib.hid (HK0.out.below hb)
  clear hb HK0 H1
  go_wp2
  go_loopw [8] (fun u wr => ∃ i : Nat, i ≤ 32 ∧ u = .int .i64 i ∧ Kn w [(g, (rowOf .u64 4 (wordAt (l.take i))).toArray)] wr) (fun u _ => 32 - (intOf u).toNat)
  case atStart => exact ⟨0, by omega, rfl, HK.out⟩
  case round =>
    clear HK
    obtain ⟨i, hi, rfl, hK⟩ := hrel
    by_cases hlt : i < 32
    · have hil : i < l.length := by omega
      have his : i < s.size := by omega
      have htl : (l.take i).length = i := by rw [List.length_take]; omega
      obtain ⟨j, hj0⟩ : ∃ j, j = i / 8 := ⟨_, rfl⟩
      obtain ⟨q, hq0⟩ : ∃ q, q = i % 8 := ⟨_, rfl⟩
      obtain ⟨sh, hsh0⟩ : ∃ sh, sh = 8 * q := ⟨_, rfl⟩
      have hj4 : j < 4 := by omega
      have hq8 : q < 8 := by omega
      have hs64 : sh < 64 := by omega
      obtain ⟨c, hc0⟩ : ∃ c, c = s[i].toNat := ⟨_, rfl⟩
      have hcl2 : c = l[i].toNat := by rw [hc0]; congr 1; simp only [hl.out]; rfl
      have hc256 : c < 256 := by rw [hc0]; exact UInt8.toNat_lt _
      have hcl : c * 2 ^ sh < 18446744073709551616 := by
        have h1 : 2 ^ sh ≤ 2 ^ 56 := Nat.pow_le_pow_right (by decide) (by omega)
        have h2 : c * 2 ^ sh ≤ 255 * 2 ^ 56 := Nat.mul_le_mul (by omega) h1
        omega
      have hxs0 := wordAt_part (l.take i) i htl.symm
      rw [← hj0, ← hq0, ← hsh0] at hxs0
      obtain ⟨r, hr0⟩ : ∃ r, r = wordAt (l.take i) j + c * 2 ^ sh := ⟨_, rfl⟩
      have hstep : ∀ z, upd (wordAt (l.take i)) j r z = wordAt (l.take (i + 1)) z := by
        intro z
        rw [List.take_succ_eq_append_getElem hil, wordAt_snoc, htl, ← hj0, ← hq0, ← hsh0, ← hcl2]
        unfold upd
        by_cases hz : z = j
        · subst hz; rw [if_pos rfl, if_pos rfl, hr0]
        · rw [if_neg hz, if_neg hz]
      have hrl : r < 18446744073709551616 := by
        have h := hstep j
        rw [upd_same] at h
        rw [h]
        exact wordAt_lt _ _
      have HST : Hid ((rowOf .u64 4 (upd (wordAt (l.take i)) j r)).toArray = (rowOf .u64 4 (wordAt (l.take (i + 1)))).toArray) := by
        unfold Hid
        rw [rowOf_ext (fun z _ => hstep z)]
      have HRW : Hid (Row wr (g) 36 .u64 4 (wordAt (l.take i))) := Lib.hid (hK.get g _ (by simp))
      obtain ⟨x, hx0⟩ : ∃ x, x = wordAt (l.take i) j := ⟨_, rfl⟩
      rw [← hx0] at hxs0 hr0
      have hxs : x < 2 ^ sh := hxs0
      have hAj0 : (rowOf .u64 4 (wordAt (l.take i))).toArray[j]? = some (.int .u64 (x : Int)) := by rw [List.getElem?_toArray, rowOf_get _ _ _ _ hj4, hx0]
      obtain ⟨A, hA⟩ : ∃ A, Hid (A = (rowOf .u64 4 (wordAt (l.take i))).toArray) := ⟨_, Lib.hid rfl⟩
      rw [← hA.out] at hAj0 hK
      have hAj := hAj0
      have hj := Lib.hid hj0
      have hq := Lib.hid hq0
      have hsh := Lib.hid hsh0
      have hc := Lib.hid hc0
      have hr := Lib.hid hr0
      have hli : (i : Int) < 32 := by omega
      have HKK := Lib.hid hK
      clear hj0 hq0 hsh0 hc0 hr0 hx0 hcl2 htl hstep hxs0 hAj0 hK
      go_wp2
      refine wp_region_any (by kernel_rfl) ?_
      change wpAny _ _ _ _ _ _ _ (World.drew _)
      have HSD := HKK.out.drew
      generalize hWd : wr.drew = Wd at *
      refine any_of_F (S := Kn w [(g, A)]) (f := 14) _ _ _ _ ?_
      refine tkL 0 (some 11) (.move (.tmp 5)) (.int .i64 (i : Int)) (fun o ho w2 hw => exec_move (.tmp 5) ho _ rfl w2) HSD ?_
      simp only [Act.put, sT, sS, sZ]
      refine tkL 1 (some 12) (.binOp .quo 3 (.tmp 11) (.const (.int .i64 8)) 3) (.int .i64 (j : Int)) (fun o ho w2 hw => exec_quo8 (.tmp 11) ho rfl i j (by omega) rfl hj.out w2) HSD ?_
      simp only [Act.put, sT, sS, sZ]
      refine tkL 2 (some 13) (.indexAddr 36 (.tmp 2) (.tmp 12)) (.pointer (some ⟨g, j, none⟩)) (fun o ho w2 hw => exec_indexAddr24 (.tmp 2) (.tmp 12) ho (g) j rfl rfl hj4 w2) HSD ?_
      simp only [Act.put, sT, sS, sZ]
      refine tkL 3 (some 14) (.load 34 (.tmp 13)) (.int .u64 (x : Int)) (fun o ho w2 hw => exec_load_one w2 34 (.tmp 13) ho ⟨g, j, none⟩ rfl _ ((hw.cell (g) A (by simp) j).trans hAj) _ Tryz.underlying34 rfl) HSD ?_
      simp only [Act.put, sT, sS, sZ]
      refine tkL 4 (some 15) (.move (.tmp 4)) (.string s) (fun o ho w2 hw => exec_move (.tmp 4) ho _ rfl w2) HSD ?_
      simp only [Act.put, sT, sS, sZ]
      refine tkL 5 (some 16) (.move (.tmp 5)) (.int .i64 (i : Int)) (fun o ho w2 hw => exec_move (.tmp 5) ho _ rfl w2) HSD ?_
      simp only [Act.put, sT, sS, sZ]
      refine tkL 6 (some 17) (.index 9 (.tmp 15) (.tmp 16)) (.int .u8 (c : Int)) (fun o ho w2 hw => exec_index_str (.tmp 15) (.tmp 16) ho s i his rfl rfl c hc.out w2) HSD ?_
      simp only [Act.put, sT, sS, sZ]
      refine tkL 7 (some 18) (.convert 5 34 (.tmp 17)) (.int .u64 (c : Int)) (fun o ho w2 hw => exec_conv64 (.tmp 17) ho c hc256 rfl w2) HSD ?_
      simp only [Act.put, sT, sS, sZ]
      refine tkL 8 (some 19) (.move (.tmp 5)) (.int .i64 (i : Int)) (fun o ho w2 hw => exec_move (.tmp 5) ho _ rfl w2) HSD ?_
      simp only [Act.put, sT, sS, sZ]
      refine tkL 9 (some 20) (.binOp .rem 3 (.tmp 19) (.const (.int .i64 8)) 3) (.int .i64 (q : Int)) (fun o ho w2 hw => exec_rem8 (.tmp 19) ho rfl i q (by omega) rfl hq.out w2) HSD ?_
      simp only [Act.put, sT, sS, sZ]
      refine tkL 10 (some 21) (.binOp .mul 3 (.tmp 20) (.const (.int .i64 8)) 3) (.int .i64 (sh : Int)) (fun o ho w2 hw => exec_mul8 (.tmp 20) ho rfl q sh hq8 rfl hsh.out w2) HSD ?_
      simp only [Act.put, sT, sS, sZ]
      refine tkL 11 (some 22) (.binOp .shl 34 (.tmp 18) (.tmp 21) 3) (.int .u64 ((c * 2 ^ sh : Nat) : Int)) (fun o ho w2 hw => exec_shl (.tmp 18) (.tmp 21) ho c sh _ hs64 rfl rfl rfl hcl w2) HSD ?_
      simp only [Act.put, sT, sS, sZ]
      refine tkL 12 (some 23) (.binOp .or 34 (.tmp 14) (.tmp 22) 34) (.int .u64 (r : Int)) (fun o ho w2 hw => exec_or (.tmp 14) (.tmp 22) ho x c sh r rfl rfl hxs hr.out hrl w2) HSD ?_
      simp only [Act.put, sT, sS, sZ]
      refine tkL 13 (some 24) (.indexAddr 36 (.tmp 2) (.tmp 12)) (.pointer (some ⟨g, j, none⟩)) (fun o ho w2 hw => exec_indexAddr24 (.tmp 2) (.tmp 12) ho (g) j rfl rfl hj4 w2) HSD ?_
      simp only [Act.put, sT, sS, sZ]
      have HRD : Row Wd (g) 36 .u64 4 (wordAt (l.take i)) := by rw [← hWd]; exact HRW.out
      have HN9 : Kn w [(g, (rowOf .u64 4 (wordAt (l.take (i + 1)))).toArray)] (Wd.setCell ⟨g, j, none⟩ (.int .u64 (r : Int))) := by
        rw [← HST.out]
        exact HSD.setw g (wordAt (l.take i)) j r HRD (by omega) (fun p hp => by simp at hp; subst hp; simp)
      refine rdy [14] (ReadyF.last (w2 := Wd.setCell ⟨g, j, none⟩ (.int .u64 (r : Int))) (.store 34 (.tmp 24) (.tmp 23)) rfl (fun o ho => exec_store_one _ 34 (.tmp 24) (.tmp 23) ho ⟨g, j, none⟩ rfl _ rfl rfl rfl _ (HRD.cell j hj4) (HRD.free j) (by kernel_rfl)) ?_ ReadyF.nil)
      refine any_doneF (by kernel_rfl) ?_ _
      have HN := Lib.hid HN9
      clear HN9 HRD HSD hAj hWd HKK HRW
      generalize Wd.setCell ⟨g, j, none⟩ (.int .u64 (r : Int)) = W9 at *
      go_wp2
      go_roundw
      case rel => exact ⟨i + 1, by omega, by simp, HN.out⟩
      case measure => simp [intOf]; omega
    · obtain rfl : i = 32 := by omega
      have hK2 : Kn w [(g, (rowOf .u64 4 (wordAt l)).toArray)] wr := by
        rw [rowOf_ext (f := wordAt l) (g := wordAt (l.take 32)) (fun j hj => (wordAt_take32 l j hj).symm)]
        exact hK
      have HR0 := Lib.hid (show Row wr g 36 .u64 4 (wordAt l) from hK2.get g _ (by simp))
      have hx0l := wordAt_lt l 0
      have hx3l := wordAt_lt l 3
      have hw3 : Hid (∀ z, upd (upd (wordAt l) 0 (wordAt l 0 &&& 18446744073709551608)) 3 ((wordAt l 3 &&& 9223372036854775807) ||| 4611686018427387904) z = secW l z) := Lib.hid (fun z => rfl)
      have hc0 := HR0.out.cell 0 (by decide)
      have hc3 := HR0.out.cell 3 (by decide)
      obtain ⟨x0, hx0⟩ : ∃ x0, Hid (x0 = wordAt l 0) := ⟨_, Lib.hid rfl⟩
      obtain ⟨x3, hx3⟩ : ∃ x3, Hid (x3 = wordAt l 3) := ⟨_, Lib.hid rfl⟩
      obtain ⟨y0, hy0⟩ : ∃ y0, Hid (y0 = x0 &&& 18446744073709551608) := ⟨_, Lib.hid rfl⟩
      obtain ⟨z3, hz3⟩ : ∃ z3, Hid (z3 = x3 &&& 9223372036854775807) := ⟨_, Lib.hid rfl⟩
      obtain ⟨y3, hy3⟩ : ∃ y3, Hid (y3 = z3 ||| 4611686018427387904) := ⟨_, Lib.hid rfl⟩
      have hz3l : z3 < 18446744073709551616 := by rw [hz3.out]; exact Nat.and_lt_two_pow (n := 64) _ (by decide)
      rw [← hx0.out] at hx0l hc0
      rw [← hx3.out] at hx3l hc3
      rw [← hx0.out, ← hx3.out, ← hy0.out, ← hz3.out, ← hy3.out] at hw3
      have HS1 := hK2.setw g (wordAt l) 0 y0 HR0.out (by omega) (m := [(g, (rowOf .u64 4 (upd (wordAt l) 0 y0)).toArray)]) (fun p hp => by simp at hp; subst hp; simp)
      have HS2 := HS1.setw g (upd (wordAt l) 0 y0) 3 y3 (HS1.get g _ (by simp)) (by omega) (m := [(g, (rowOf .u64 4 (upd (upd (wordAt l) 0 y0) 3 y3)).toArray)]) (fun p hp => by simp at hp; subst hp; simp)
      have HR1 := Lib.hid (show Row (wr.setCell ⟨g, 0, none⟩ (.int .u64 (y0 : Int))) g 36 .u64 4 (upd (wordAt l) 0 y0) from HS1.get g _ (by simp))
      have hAN : (rowOf .u64 4 (upd (upd (wordAt l) 0 y0) 3 y3)).toArray = num (secN l) := by
        rw [rowOf_ext (fun z _ => hw3.out z)]
        exact (num_val _ (secW_lt l)).symm
      obtain ⟨A, hAe⟩ : ∃ A, Hid (A = num (secN l)) := ⟨_, Lib.hid rfl⟩
      have IA : IsNum A := by rw [hAe.out]; exact isNum _
      rw [hAN, ← hAe.out] at HS2
      have HK9 := Lib.hid HS2
      have hbits0 := bits_andNot_u64_nat x3 9223372036854775808 hx3l (by decide)
      rw [show x3 &&& (18446744073709551615 - 9223372036854775808) = z3 from hz3.out.symm, show ((9223372036854775808 : Nat) : Int) = (9223372036854775808 : Int) from rfl] at hbits0
      have hbits1 := bits_or_u64_nat z3 4611686018427387904 hz3l (by decide)
      rw [← hy3.out, show ((4611686018427387904 : Nat) : Int) = (4611686018427387904 : Int) from rfl] at hbits1
      clear hK hK2 HS1 HS2 hAN hw3
      rw [show ((32 : Nat) : Int) = (32 : Int) from rfl]
      go_wp2_with (first | (refine wpList_run rfl _ (exec_indexAddr24 (.tmp 2) (.const (.int .i64 0)) rfl g 0 rfl rfl (by decide) _) ?_) | (refine wpList_run rfl _ (exec_load_one _ 34 (.tmp 26) rfl ⟨g, 0, none⟩ rfl (.int .u64 (x0 : Int)) hc0 _ Tryz.underlying34 rfl) ?_) | (refine wpList_run rfl _ (exec_andNot (.tmp 27) (.const (.int .u64 7)) rfl x0 7 y0 hx0l (by decide) rfl rfl hy0.out _) ?_) | (refine wpList_run0 rfl (exec_store_one _ 34 (.tmp 29) (.tmp 28) rfl ⟨g, 0, none⟩ rfl (.int .u64 (y0 : Int)) rfl rfl rfl _ (HR0.out.cell 0 (by decide)) (HR0.out.free 0) (by kernel_rfl)) ?_) | (refine wpList_run0 rfl (exec_store_one _ 34 (.tmp 34) (.tmp 33) rfl ⟨g, 3, none⟩ rfl (.int .u64 (y3 : Int)) rfl rfl rfl _ (HR1.out.cell 3 (by decide)) (HR1.out.free 3) (by kernel_rfl)) ?_))
      generalize (wr.setCell ⟨g, 0, none⟩ (.int .u64 (y0 : Int))).setCell ⟨g, 3, none⟩ (.int .u64 (y3 : Int)) = W1 at *
      clear hc0 hc3 HR0 HR1 hbits0 hbits1
      refine wp_region_any (by kernel_rfl) ?_
      change wpAny _ _ _ _ _ _ _ (World.drew _)
      have HD := HK9.out.drew
      generalize W1.drew = Wd at *
      refine any_of_F (S := Kn w [(g, A)]) (f := 1000) _ _ _ _ ?_
      refine tkG 0 (some 35) (.load 36 (.tmp 2)) none (.agg A) (fun o ho w2 hw => exec_load_of _ 36 (.tmp 2) ho ⟨g, 0, none⟩ rfl _ (hw.load g A (by simp) IA)) HD ?_
      simp only [Act.put, sT, sS, sZ]
      refine tkG 1 (some 36) (.move (.tmp 4)) none (.string s) (fun o ho w2 hw => exec_move (.tmp 4) ho _ rfl w2) HD ?_
      simp only [Act.put, sT, sS, sZ]
      refine tkG 2 (some 37) (.slice 9 (.tmp 36) (some (.const (.int .i64 32))) none none) none (.string V) (fun o ho w2 hw => exec_slice32 (.tmp 36) ho s V hs64 rfl rfl hVe w2) HD ?_
      simp only [Act.put, sT, sS, sZ]
      have HS6 : Kn w [(g, A)] (Wd.setRow g A) := HD.set g A A (HD.get g A (by simp)) (by omega) (fun p hp => by simp at hp; subst hp; simp)
      refine rdy [3] (ReadyF.op0 (w2 := Wd.setRow g A) (.store 36 (.tmp 2) (.tmp 35)) rfl (fun o ho => exec_store_kn (w0 := w) (l := [(g, A)]) _ HD (.tmp 2) (.tmp 35) ho g rfl A IA rfl A IA (by simp)) HS6 ?_ ReadyF.nil)
      refine tkG 4 (some 3) (.assign (.tmp 37)) none (.string V) (fun o ho w2 hw => exec_assign (.tmp 37) ho _ rfl w2) HS6 ?_
      simp only [Act.put, sT, sS, sZ]
      refine AnyF.done (by kernel_rfl) ?_ _
      generalize Wd.setRow g A = W9 at *
      go_wp2
      exact bodyPost_ret (results_two rfl _ _ _ ⟨g, 0, none⟩ rfl _ (HS6.load g A (by simp) IA)) rfl ⟨by rw [hAe.out]; rfl, HS6.1⟩
theorem mod64_bit (x s : Nat) (hs : s < 64) : x % 18446744073709551616 / 2 ^ s % 2 = x / 2 ^ s % 2 := by
  rw [← Nat.toNat_testBit, ← Nat.toNat_testBit, show (18446744073709551616 : Nat) = 2 ^ 64 from rfl, Nat.testBit_mod_two_pow, decide_eq_true hs, Bool.true_and]
theorem dig_bit (n q : Nat) (hq : q < 256) : dig n (q / 64) / 2 ^ (q % 64) % 2 = n / 2 ^ q % 2 := by
  have hs : q % 64 < 64 := Nat.mod_lt _ (by decide)
  obtain ⟨s, hs2⟩ : ∃ s, s = q % 64 := ⟨_, rfl⟩
  rw [← hs2] at hs ⊢
  rcases (show q / 64 = 0 ∨ q / 64 = 1 ∨ q / 64 = 2 ∨ q / 64 = 3 by omega) with h | h | h | h <;> rw [h]
  · rw [dig_0, mod64_bit _ _ hs, show q = s by omega]
  · rw [dig_1, mod64_bit _ _ hs, Nat.div_div_eq_div_mul, show (18446744073709551616 : Nat) = 2 ^ 64 from rfl, ← Nat.pow_add, show q = 64 + s by omega]
  · rw [dig_2, mod64_bit _ _ hs, Nat.div_div_eq_div_mul, show (340282366920938463463374607431768211456 : Nat) = 2 ^ 128 from rfl, ← Nat.pow_add, show q = 128 + s by omega]
  · rw [dig_3, mod64_bit _ _ hs, Nat.div_div_eq_div_mul, show (6277101735386680763835789423207666416102355444464034512896 : Nat) = 2 ^ 192 from rfl, ← Nat.pow_add, show q = 192 + s by omega]
theorem exec_quo64 {ρ : Operand → Value} {o : Oper} (x : Operand) (ho : o.op = .binOp .quo 3 x (.const (.int .i64 64)) 3) (hc : ρ (.const (.int .i64 64)) = .int .i64 64) (i j : Nat) (hi : i < 1000) (hx : ρ x = .int .i64 (i : Int)) (hj : j = i / 64) (w : World) : (execOp ρ o).run Tryz.prog w = .ok (.value (.int .i64 (j : Int))) w := by
  have hq : (i : Int).tdiv 64 = (j : Int) := by rw [Int.tdiv_eq_ediv_of_nonneg (by omega)]; omega
  have hq2 : (i : Int) / 64 = (j : Int) := by omega
  have hw : IntKind.i64.wrap (j : Int) = (j : Int) := IntWalk.i64_in _ (by omega)
  clear hj
  unfold execOp
  rw [ho]
  simp only [hx, hc]
  go_simp
theorem exec_rem64 {ρ : Operand → Value} {o : Oper} (x : Operand) (ho : o.op = .binOp .rem 3 x (.const (.int .i64 64)) 3) (hc : ρ (.const (.int .i64 64)) = .int .i64 64) (i j : Nat) (hi : i < 1000) (hx : ρ x = .int .i64 (i : Int)) (hj : j = i % 64) (w : World) : (execOp ρ o).run Tryz.prog w = .ok (.value (.int .i64 (j : Int))) w := by
  have hq : (i : Int).tmod 64 = (j : Int) := by rw [Int.tmod_eq_emod_of_nonneg (by omega)]; omega
  have hq2 : (i : Int) % 64 = (j : Int) := by omega
  have hw : IntKind.i64.wrap (j : Int) = (j : Int) := IntWalk.i64_in _ (by omega)
  clear hj
  unfold execOp
  rw [ho]
  simp only [hx, hc]
  go_simp
theorem and_one (d r : Nat) (hd : d < 18446744073709551616) (hr : r = d % 2) : bits .and .u64 (d : Int) 1 = (r : Int) := by
  have hb := bits_and_u64_nat d 1 hd (by decide)
  rw [show d &&& 1 = r by rw [Nat.and_one_is_mod, hr]] at hb
  exact hb
theorem exec_neqL {ρ : Operand → Value} {o : Oper} (x y : Operand) (ho : o.op = .binOp .neq 36 x y 36) (a b : Nat) (ha : a < 115792089237316195423570985008687907853269984665640564039457584007913129639936) (hb : b < 115792089237316195423570985008687907853269984665640564039457584007913129639936) (A B : Array Value) (hA : Hid (A = num a)) (hB : Hid (B = num b)) (hx : ρ x = .agg A) (hy : ρ y = .agg B) (v : Bool) (hv : decide (a = b) = !v) (w : World) :
    (execOp ρ o).run Tryz.prog w = .ok (.value (.bool v)) w :=
  exec_neqv x y ho a b ha hb (by rw [hx, hA.out]) (by rw [hy, hB.out]) v hv w
theorem exec_rem2 {ρ : Operand → Value} {o : Oper} (x : Operand) (ho : o.op = .binOp .rem 34 x (.const (.int .u64 2)) 34) (hc : ρ (.const (.int .u64 2)) = .int .u64 2) (d : Nat) (q : Nat) (hd : d % 2 = q) (hx : ρ x = .int .u64 (d : Int)) (w : World) :
    (execOp ρ o).run Tryz.prog w = .ok (.value (.int .u64 (q : Int))) w := by
  have hq : (d : Int).tmod 2 = (q : Int) := by rw [Int.tmod_eq_emod_of_nonneg (by omega)]; omega
  have hq2 : (d : Int) % 2 = (q : Int) := by omega
  have hw : IntKind.u64.wrap (q : Int) = (q : Int) := wrap_id (by omega)
  clear hd
  unfold execOp
  rw [ho]
  simp only [hx, hc]
  go_simp
theorem dig0_odd (x : Nat) : dig x 0 % 2 = x % 2 := by rw [dig_0]; omega
theorem rootR_is (a : Nat) : sqF (onF (a % pp) 251) 1 = rootR a := by
  rw [sqF_pos _ 1 (by decide), Nat.pow_one, onF_pos _ 251 (by decide), powF_pow, powF_mod]
  unfold rootR
  rw [show (2 ^ 251 - 1) * 2 = 7237005577332262213973186563042994240829374041602535252466099000494570602494 by decide]
def gotV (f : Nat → Nat) (b : Bool) : Array Value := (rowOf .u64 4 f ++ [Value.bool b]).toArray
def IsGot (A : Array Value) : Prop := ∃ f b, A = gotV f b
theorem IsGot.size {A : Array Value} (h : IsGot A) : A.size = 5 := by obtain ⟨f, b, rfl⟩ := h; simp [gotV, rowOf_length]
open Go.ChangeShapes Go.WideShapes Go.RowKit
def GlobT (w : World) : Prop := ∃ t, w.heap[3]? = some (.cells (num tn) t (0, 0))
def Glob (w : World) : Prop := (∃ t, w.heap[2]? = some (.cells (num dN) t (0, 0))) ∧ ∃ t, w.heap[0]? = some (.cells (num baseN.1 ++ num baseN.2) t (0, 0))
theorem GlobT.below {w w' : World} (h : GlobT w) (hb : Below w.heap.size w w') : GlobT w' := by
  obtain ⟨t, h⟩ := h
  exact ⟨t, by rw [hb.block 3 (Array.getElem?_eq_some_iff.1 h).1]; exact h⟩
theorem GlobT.kn {w0 w : World} {l : List (Nat × Array Value)} (h : GlobT w0) (hk : Kn w0 l w) : GlobT w := h.below hk.1
theorem GlobT.load {w : World} (h : GlobT w) : (loadVar 36 ⟨3, 0, none⟩).run Tryz.prog w = .ok (.agg (num tn)) w := by
  obtain ⟨t, h⟩ := h
  exact run_loadVar_seg w 36 3 0 (rowOf .u64 4 (dig tn)) _ (Row.seg (t := t) h) Tryz.underlying36 rfl (size24 (dig tn))
theorem Glob.below {w w' : World} (h : Glob w) (hb : Below w.heap.size w w') : Glob w' := by
  obtain ⟨⟨t, h⟩, t2, h2⟩ := h
  exact ⟨⟨t, by rw [hb.block 2 (Array.getElem?_eq_some_iff.1 h).1]; exact h⟩, t2, by rw [hb.block 0 (Array.getElem?_eq_some_iff.1 h2).1]; exact h2⟩
theorem Glob.kn {w0 w : World} {l : List (Nat × Array Value)} (h : Glob w0) (hk : Kn w0 l w) : Glob w := h.below hk.1
theorem Glob.load {w : World} (h : Glob w) : (loadVar 36 ⟨2, 0, none⟩).run Tryz.prog w = .ok (.agg (num dN)) w := by
  obtain ⟨⟨t, h⟩, _⟩ := h
  exact run_loadVar_seg w 36 2 0 (rowOf .u64 4 (dig dN)) _ (Row.seg (t := t) h) Tryz.underlying36 rfl (size24 (dig dN))
def Part (P : Array Value) (off : Nat) (A : Array Value) : Prop := ∀ j v, A[j]? = some v → P[off + j]? = some v
theorem part_all (A : Array Value) : Part A 0 A := fun j v h => by rw [Nat.zero_add]; exact h
theorem part_left {P A : Array Value} (off : Nat) (h : Part P off A) (B : Array Value) : Part (P ++ B) off A := fun j v hv => by
  have h1 := h j v hv
  have hlt := (Array.getElem?_eq_some_iff.1 h1).1
  rw [Array.getElem?_append_left hlt]
  exact h1
theorem part_right (P A : Array Value) (off : Nat) (h : P.size = off) : Part (P ++ A) off A := fun j v hv => by
  subst h
  rw [Array.getElem?_append_right (Nat.le_add_right _ _), Nat.add_sub_cancel_left]
  exact hv
theorem isRw4 {A : Array Value} (h : IsNum A) : IsRw 4 A := h
theorem rw_app {m n : Nat} {A B : Array Value} (hA : IsRw m A) (hB : IsRw n B) : IsRw (m + n) (A ++ B) := by
  obtain ⟨f, rfl⟩ := hA
  obtain ⟨g, rfl⟩ := hB
  refine ⟨fun j => if j < m then f j else g (j - m), ?_⟩
  rw [List.append_toArray]
  congr 1
  apply List.ext_getElem?
  intro j
  rw [List.getElem?_append, rowOf_length]
  by_cases h : j < m
  · rw [if_pos h, rowOf_get _ _ _ _ h, rowOf_get _ _ _ _ (by omega), if_pos h]
  · rw [if_neg h]
    by_cases h2 : j < m + n
    · rw [rowOf_get _ _ _ _ h2, rowOf_get _ _ _ _ (by omega), if_neg h]
    · rw [List.getElem?_eq_none (by rw [rowOf_length]; omega), List.getElem?_eq_none (by rw [rowOf_length]; omega)]
theorem IsRw.sz {n : Nat} {A : Array Value} (h : IsRw n A) : A.size = n := by obtain ⟨f, rfl⟩ := h; exact rowOf_size _ _ _
theorem load_part {W : World} {g : Nat} {P A : Array Value} {t : TypeId} (hg : W.heap[g]? = some (.cells P t (0, 0))) (hA : IsNum A) (off : Nat) (hp : Part P off A) : (loadVar 36 ⟨g, off, none⟩).run Tryz.prog W = .ok (.agg A) W := by
  obtain ⟨f, rfl⟩ := hA
  exact run_loadVar_seg W 36 g off (rowOf .u64 4 f) _ (fun j v hv => (cell_of_row W g (off + j) _ t (0, 0) hg).trans (hp j v (by rw [List.getElem?_toArray]; exact hv))) Tryz.underlying36 rfl (size24 f)
theorem cell_part {W : World} {g : Nat} {P : Array Value} {t : TypeId} (hg : W.heap[g]? = some (.cells P t (0, 0))) (off : Nat) (v : Value) (h : P[off]? = some v) : W.cell? ⟨g, off, none⟩ = some v := (cell_of_row W g off P t (0, 0) hg).trans h
theorem exec_field {ρ : Operand → Value} {o : Oper} (s : TypeId) (x : Operand) (k : Nat) (ho : o.op = .fieldAddr s x k) (v u : Value) (hx : ρ x = v) (w : World) (hr : (Instr.fieldAt s v k).run Tryz.prog w = .ok u w) : (execOp ρ o).run Tryz.prog w = .ok (.value u) w := by
  subst hx
  unfold execOp
  simp [ho, hr]
theorem exec_buildN {ρ : Operand → Value} {o : Oper} (w : World) (t : TypeId) (l : Array (Nat × Operand)) (ho : o.op = .build t l) (m : Array (Nat × Value)) (hm : l.map (fun y => (y.1, ρ y.2)) = m) (v : Value) (hrun : (Instr.build t m).run Tryz.prog w = .ok v w) : (execOp ρ o).run Tryz.prog w = .ok (.value v) w := by
  subst hm
  unfold execOp
  rw [ho]
  simp only [Sem.run_bind, Sem.run_map]
  first | (rw [hrun]; rfl) | simp [hrun]
theorem sizeT26 (f : Nat → Nat) : (Tryz.prog.info? 60).map (·.size) = some (rowOf .u64 8 f).length := by rw [rowOf_length]; kernel_rfl
theorem zeroT26 (w : World) : (zeroValue 60).run Tryz.prog w = .ok (.agg (rowOf .u64 8 (fun _ => 0)).toArray) w := by kernel_rfl
theorem loadT26 {W : World} {g : Nat} {A : Array Value} (hA : IsRw 8 A) {t : TypeId} (hg : W.heap[g]? = some (.cells A t (0, 0))) : (loadVar 60 ⟨g, 0, none⟩).run Tryz.prog W = .ok (.agg A) W := by
  obtain ⟨f, rfl⟩ := hA
  exact run_loadVar_seg W 60 g 0 (rowOf .u64 8 f) _ (Row.seg (t := t) hg) Tryz.underlying60 rfl (sizeT26 f)
theorem exec_storeT26 {ρ : Operand → Value} {o : Oper} (w : World) (x y : Operand) (ho : o.op = .store 60 x y) (g : Nat) (hx : ρ x = .pointer (some ⟨g, 0, none⟩)) (A : Array Value) (hA : IsRw 8 A) (hy : ρ y = .agg A) (cur : Array Value) (t : TypeId)
    (hg : w.heap[g]? = some (.cells cur t (0, 0))) (h8 : cur.size = 8) : (execOp ρ o).run Tryz.prog w = .ok .skip (w.setRow g A) := by
  obtain ⟨f, rfl⟩ := hA
  have h := exec_store_seg (P := Tryz.prog) (ρ := ρ) (o := o) w 60 x y ho g 0 hx (rowOf .u64 8 f) hy cur t hg (by rw [rowOf_length]; omega) (rowOf_one _ _ _) (sizeT26 f)
  rwa [splice_all _ _ (by rw [rowOf_length]; exact h8)] at h
theorem fa26_0 (g : Nat) (w : World) : (Instr.fieldAt 60 (.pointer (some ⟨g, 0, none⟩)) 0).run Tryz.prog w = .ok (.pointer (some ⟨g, 0, none⟩)) w := by kernel_rfl
theorem fa26_1 (g : Nat) (w : World) : (Instr.fieldAt 60 (.pointer (some ⟨g, 0, none⟩)) 1).run Tryz.prog w = .ok (.pointer (some ⟨g, 4, none⟩)) w := by kernel_rfl
theorem sizeT66 (f : Nat → Nat) : (Tryz.prog.info? 103).map (·.size) = some (rowOf .u64 16 f).length := by rw [rowOf_length]; kernel_rfl
theorem zeroT66 (w : World) : (zeroValue 103).run Tryz.prog w = .ok (.agg (rowOf .u64 16 (fun _ => 0)).toArray) w := by kernel_rfl
theorem loadT66 {W : World} {g : Nat} {A : Array Value} (hA : IsRw 16 A) {t : TypeId} (hg : W.heap[g]? = some (.cells A t (0, 0))) : (loadVar 103 ⟨g, 0, none⟩).run Tryz.prog W = .ok (.agg A) W := by
  obtain ⟨f, rfl⟩ := hA
  exact run_loadVar_seg W 103 g 0 (rowOf .u64 16 f) _ (Row.seg (t := t) hg) Tryz.underlying103 rfl (sizeT66 f)
theorem exec_storeT66 {ρ : Operand → Value} {o : Oper} (w : World) (x y : Operand) (ho : o.op = .store 103 x y) (g : Nat) (hx : ρ x = .pointer (some ⟨g, 0, none⟩)) (A : Array Value) (hA : IsRw 16 A) (hy : ρ y = .agg A) (cur : Array Value) (t : TypeId)
    (hg : w.heap[g]? = some (.cells cur t (0, 0))) (h8 : cur.size = 16) : (execOp ρ o).run Tryz.prog w = .ok .skip (w.setRow g A) := by
  obtain ⟨f, rfl⟩ := hA
  have h := exec_store_seg (P := Tryz.prog) (ρ := ρ) (o := o) w 103 x y ho g 0 hx (rowOf .u64 16 f) hy cur t hg (by rw [rowOf_length]; omega) (rowOf_one _ _ _) (sizeT66 f)
  rwa [splice_all _ _ (by rw [rowOf_length]; exact h8)] at h
theorem fa66_0 (g : Nat) (w : World) : (Instr.fieldAt 103 (.pointer (some ⟨g, 0, none⟩)) 0).run Tryz.prog w = .ok (.pointer (some ⟨g, 0, none⟩)) w := by kernel_rfl
theorem fa66_1 (g : Nat) (w : World) : (Instr.fieldAt 103 (.pointer (some ⟨g, 0, none⟩)) 1).run Tryz.prog w = .ok (.pointer (some ⟨g, 4, none⟩)) w := by kernel_rfl
theorem fa66_2 (g : Nat) (w : World) : (Instr.fieldAt 103 (.pointer (some ⟨g, 0, none⟩)) 2).run Tryz.prog w = .ok (.pointer (some ⟨g, 8, none⟩)) w := by kernel_rfl
theorem fa66_3 (g : Nat) (w : World) : (Instr.fieldAt 103 (.pointer (some ⟨g, 0, none⟩)) 3).run Tryz.prog w = .ok (.pointer (some ⟨g, 12, none⟩)) w := by kernel_rfl
theorem bp01_lit (a0 a1 a2 a3 b0 b1 b2 b3 : Value) (w : World) : (Instr.build 60 #[(0, .agg #[a0, a1, a2, a3]), (1, .agg #[b0, b1, b2, b3])]).run Tryz.prog w = .ok (.agg #[a0, a1, a2, a3, b0, b1, b2, b3]) w := by kernel_rfl
theorem bp01 {A B : Array Value} (hA : IsNum A) (hB : IsNum B) (w : World) : (Instr.build 60 #[(0, .agg A), (1, .agg B)]).run Tryz.prog w = .ok (.agg (A ++ B)) w := by
  obtain ⟨fa, rfl⟩ := hA
  obtain ⟨fb, rfl⟩ := hB
  exact bp01_lit _ _ _ _ _ _ _ _ w
theorem bp1_lit (b0 b1 b2 b3 : Value) (w : World) : (Instr.build 60 #[(1, .agg #[b0, b1, b2, b3])]).run Tryz.prog w = .ok (.agg #[.int .u64 0, .int .u64 0, .int .u64 0, .int .u64 0, b0, b1, b2, b3]) w := by kernel_rfl
theorem bp1 {B : Array Value} (hB : IsNum B) (w : World) : (Instr.build 60 #[(1, .agg B)]).run Tryz.prog w = .ok (.agg (num 0 ++ B)) w := by
  obtain ⟨fb, rfl⟩ := hB
  exact bp1_lit _ _ _ _ w
theorem br0123_lit (a0 a1 a2 a3 b0 b1 b2 b3 c0 c1 c2 c3 d0 d1 d2 d3 : Value) (w : World) : (Instr.build 103 #[(0, .agg #[a0, a1, a2, a3]), (1, .agg #[b0, b1, b2, b3]), (2, .agg #[c0, c1, c2, c3]), (3, .agg #[d0, d1, d2, d3])]).run Tryz.prog w = .ok (.agg #[a0, a1, a2, a3, b0, b1, b2, b3, c0, c1, c2, c3, d0, d1, d2, d3]) w := by kernel_rfl
theorem br0123 {A B C D : Array Value} (hA : IsNum A) (hB : IsNum B) (hC : IsNum C) (hD : IsNum D) (w : World) : (Instr.build 103 #[(0, .agg A), (1, .agg B), (2, .agg C), (3, .agg D)]).run Tryz.prog w = .ok (.agg (A ++ B ++ C ++ D)) w := by
  obtain ⟨fa, rfl⟩ := hA
  obtain ⟨fb, rfl⟩ := hB
  obtain ⟨fc, rfl⟩ := hC
  obtain ⟨fd, rfl⟩ := hD
  exact br0123_lit _ _ _ _ _ _ _ _ _ _ _ _ _ _ _ _ w
def spotV (f : Nat → Nat) (b : Bool) : Array Value := (rowOf .u64 8 f ++ [Value.bool b]).toArray
def IsSpot (A : Array Value) : Prop := ∃ f b, A = spotV f b
theorem IsSpot.size {A : Array Value} (h : IsSpot A) : A.size = 9 := by obtain ⟨f, b, rfl⟩ := h; simp [spotV, rowOf_length]
theorem exec_len9 {ρ : Operand → Value} {o : Oper} (x : Operand) (ho : o.op = .call { callee := .builtin .len, args := #[x], argTypes := #[9] }) (s : ByteArray) (i : Nat) (hi : s.size = i) (hx : ρ x = .string s) (w : World) : (execOp ρ o).run Tryz.prog w = .ok (.value (.int .i64 (i : Int))) w := by
  subst hi
  unfold execOp
  simp [ho, hx, go_sem]
theorem leVal_inj : ∀ l m : List UInt8, l.length = m.length → leVal l = leVal m → l = m
  | [], [], _, _ => rfl
  | [], _ :: _, h, _ => by simp at h
  | _ :: _, [], h, _ => by simp at h
  | x :: l, y :: m, h, e => by
    have hx := x.toNat_lt
    have hy := y.toNat_lt
    simp only [leVal] at e
    have h1 : x.toNat = y.toNat := by omega
    have h2 : leVal l = leVal m := by omega
    rw [UInt8.toNat_inj.1 h1, leVal_inj l m (by simpa using h) h2]
theorem wpList_callF {P : Program} {ops : Array Oper} {rest : List Oper} {o : Oper} {a : Act} {w : World} {Q : Exit → Act → World → Prop} (hgd : o.guard = none) (g : FuncId) (args : Array Operand) (tys : Array TypeId) (ho : o.op = .call { callee := .value (.func g), args := args, argTypes := tys })
    (avs : Array Value) (eg : ∀ args w, (callFunc g args).run P w = .ok (.enter g args) w) {R : Ending → World → Prop} (hc : Calls P g avs w R)
    (hK : ∀ v w', R (.returned v) w' → wpList P ops Q rest (a.put o.dst v) w') (has : args.map a.eval = avs := by simp [Act.eval]) (hnp : ∀ c w', ¬ R (.panicked c) w' := by exact fun c w' h => by cases h.1) (hno : ∀ w', ¬ R .outgrown w' := by exact fun w' h => by cases h.1) : wpList P ops Q (o :: rest) a w := by
  refine wpList_plain hgd fun K hK2 => ?_
  have hev : a.eval (.func g) = .func (.func g) #[] #[] := rfl
  have hres : (resolve a.eval { callee := .value (.func g), args := args, argTypes := tys } o.type).run P w = .ok { target := .fn (.func g) #[], args := avs } w := by
    simp [resolve, hev, has, Deferred.ofValue]
  have hx : (execOp a.eval o).run P w = .ok (.enter g avs) w := by
    unfold execOp
    simp only [ho, Sem.run_bind, hres, Result.andThen_ok, invoke]
    simp [eg]
  unfold Oper.wp
  rw [hx]
  refine hc.mono ?_
  intro e w' hr
  cases e with
  | returned v => exact hK2 _ _ (hK v w' hr)
  | panicked c => exact (hnp c w' hr).elim
  | outgrown => exact (hno w' hr).elim
section
variable {P : Program} {ops : Array Oper} {Q : Exit → Act → World → Prop} {md : Region.Mode} {S : World → Prop} {f : Nat}
theorem F_have {n0 : Nat} {l0 : Array Bool} {a0 : Act} {w0 : World} (n : Nat) (l : Array Bool) (R : Act → World → Prop) (hJ : ∀ a w, R a w → AnyF P md ops Q S f n l a w) (h : (∀ a w, R a w → AnyF P md ops Q S f n l a w) → AnyF P md ops Q S f n0 l0 a0 w0) : AnyF P md ops Q S f n0 l0 a0 w0 := h hJ
theorem F_to {n n2 : Nat} {l l2 : Array Bool} {a : Act} {w : World} (hn : n2 = n) (hl : l2 = l) (h : AnyF P md ops Q S f n l a w) : AnyF P md ops Q S f n2 l2 a w := by
  subst hn hl
  exact h
end
theorem exec_box {P : Program} {ρ : Operand → Value} {o : Oper} (w : World) (t : TypeId) (x : Operand) (ho : o.op = .box t x) (v : Value) (hx : ρ x = v) (A : Array Value) (hA : v.cells = A) :
    (execOp ρ o).run P w = .ok (.value (.pointer (some ⟨w.heap.size, 0, none⟩))) (w.alloc (.cells A t)) := by
  subst hx hA
  unfold execOp
  simp only [ho, Instr.box, Sem.run_bind, newVar, newRow, run_newObj_alloc, Sem.run_pure, Result.andThen_ok]
theorem loadA24 {W : World} {g : Nat} {A : Array Value} (hA : IsNum A) {t : TypeId} (hg : W.heap[g]? = some (.cells A t (0, 0))) : (loadVar 36 ⟨g, 0, none⟩).run Tryz.prog W = .ok (.agg A) W := load_part hg hA 0 (part_all A)
theorem dN_b4 : dN < 115792089237316195423570985008687907853269984665640564039457584007913129639936 := by rw [dN_val]; decide
theorem en22 : ∀ args w, (callFunc 31 args).run Tryz.prog w = .ok (.enter 31 args) w := enters_of Tryz.func31 (by kernel_rfl) rfl
theorem en28 : ∀ args w, (callFunc 87 args).run Tryz.prog w = .ok (.enter 87 args) w := enters_of Tryz.func87 (by kernel_rfl) rfl
theorem en29 : ∀ args w, (callFunc 88 args).run Tryz.prog w = .ok (.enter 88 args) w := enters_of Tryz.func88 (by kernel_rfl) rfl
theorem en30 : ∀ args w, (callFunc 89 args).run Tryz.prog w = .ok (.enter 89 args) w := enters_of Tryz.func89 (by kernel_rfl) rfl
theorem en40 : ∀ args w, (callFunc 130 args).run Tryz.prog w = .ok (.enter 130 args) w := enters_of Tryz.func130 (by kernel_rfl) rfl
theorem en41 : ∀ args w, (callFunc 131 args).run Tryz.prog w = .ok (.enter 131 args) w := enters_of Tryz.func131 (by kernel_rfl) rfl
theorem en43 : ∀ args w, (callFunc 90 args).run Tryz.prog w = .ok (.enter 90 args) w := enters_of Tryz.func90 (by kernel_rfl) rfl
theorem en44 : ∀ args w, (callFunc 91 args).run Tryz.prog w = .ok (.enter 91 args) w := enters_of Tryz.func91 (by kernel_rfl) rfl
theorem en45 : ∀ args w, (callFunc 92 args).run Tryz.prog w = .ok (.enter 92 args) w := enters_of Tryz.func92 (by kernel_rfl) rfl
theorem en48 : ∀ args w, (callFunc 93 args).run Tryz.prog w = .ok (.enter 93 args) w := enters_of Tryz.func93 (by kernel_rfl) rfl
theorem en49 : ∀ args w, (callFunc 63 args).run Tryz.prog w = .ok (.enter 63 args) w := enters_of Tryz.func63 (by kernel_rfl) rfl
theorem en52 : ∀ args w, (callFunc 132 args).run Tryz.prog w = .ok (.enter 132 args) w := enters_of Tryz.func132 (by kernel_rfl) rfl
theorem en53 : ∀ args w, (callFunc 133 args).run Tryz.prog w = .ok (.enter 133 args) w := enters_of Tryz.func133 (by kernel_rfl) rfl
end Go.Proofs.YtdajmekliodmcaaGreatDoor.P8
namespace Go.Proofs.YtdajmekliodmcaaGreatDoor.P8
set_option linter.unusedSimpArgs false
set_option linter.unusedVariables false
def RepX (X Y Z T x y : K) : Prop := Z ≠ 0 ∧ X = x * Z ∧ Y = y * Z ∧ T = x * y * Z
theorem repX_rep {X Y Z T x y : K} (h : RepX X Y Z T x y) : Rep X Y Z x y := ⟨h.1, h.2.1, h.2.2.1⟩
theorem repX_one (x y : K) : RepX x y 1 (x * y) x y := ⟨k_one_ne, (Fin.mul_one x).symm, (Fin.mul_one y).symm, (Fin.mul_one _).symm⟩
theorem ext_close {E F G H x3 y3 v p m : K} (hv : v ≠ 0) (hp : p ≠ 0) (hm : m ≠ 0) (e1 : E = x3 * p * v) (e2 : H = y3 * m * v) (e3 : F = m * v) (e4 : G = p * v) : RepX (E * F) (G * H) (F * G) (E * H) x3 y3 := by
  subst e1 e2 e3 e4
  refine ⟨k_mul_ne (k_mul_ne hm hv) (k_mul_ne hp hv), ?_, ?_, ?_⟩
  · clear hv hp hm; grind
  · clear hv hp hm; grind
  · clear hv hp hm; grind
end Go.Proofs.YtdajmekliodmcaaGreatDoor.P8
