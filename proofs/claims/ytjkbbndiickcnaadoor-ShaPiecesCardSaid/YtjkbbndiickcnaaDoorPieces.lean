/- The law ShaPieces walked: it returns true at any text, however it is cut, and no memory that was there is changed. -/
import Derived.Test.YtjkbbndiickcnaaDoorKnown
import Derived.Deep.RegionHeld3
namespace Go.Proofs.YtjkbbndiickcnaaDoor
open Go.RowKit
set_option linter.unusedVariables false
theorem below_stp {w a b : World} (h : Below w.heap.size w a) (k : Below a.heap.size a b) : Below w.heap.size w b := h.trans (k.mono h.size)
/-- Bytes that came in. -/
def BytesIn (w : World) (a : Option Addr) (len : Nat) (A : Nat → Nat) : Prop := ∀ j, j < len → A j ≤ 255 ∧ ∃ g off, a = some ⟨g, off, none⟩ ∧ w.cell? ⟨g, off + j, none⟩ = some (.int .u8 (A j))
/-- WHAT THE WALK IS TOLD OF A SLICE OF INTEGERS THAT CAME IN: it is nil; or it leads to a row of 'cap' cells, the numbers 'zs' (the first 'len' are its elements, the rest its spare room), each fitting its kind. -/
def IsRow (k : IntKind) (w : World) (a : Option Addr) (len cap : Nat) (zs : List Int) : Prop :=
  (a = none ∧ len = 0 ∧ cap = 0 ∧ zs = []) ∨
  ∃ x, a = some x ∧ len ≤ cap ∧ cap ≤ maxLen ∧ zs.length = cap ∧ (∀ i, i < zs.length → w.cell? (x.add i) = some (.int k (zs.getD i 0))) ∧ ∀ n ∈ zs, (Lit.int k n).wf = true

theorem row_bytes {w : World} {a0 : Option Addr} {len0 cap0 : Nat} {z0 : List Int} (w0 : IsRow .u8 w a0 len0 cap0 z0) : len0 ≤ 9223372036854775807 ∧ BytesIn w a0 len0 (fun j => (z0.getD j 0).toNat) := by
  have hwz : ∀ n ∈ z0, (Lit.int .u8 n).wf = true := by
    rcases w0 with ⟨_, _, _, rfl⟩ | ⟨x, _, _, _, _, _, h⟩
    · intro n hn; cases hn
    · exact h
  have hb : ∀ n ∈ z0, 0 ≤ n ∧ n ≤ 255 := by
    intro n hn
    have := hwz n hn
    simp [Lit.wf, IntKind.min, IntKind.max, IntKind.signed, IntKind.bits] at this
    exact this
  have hg : ∀ j, 0 ≤ z0.getD j 0 ∧ z0.getD j 0 ≤ 255 := by
    intro j
    by_cases hj : j < z0.length
    · rw [List.getD_eq_getElem?_getD, List.getElem?_eq_getElem hj]
      exact hb _ (List.getElem_mem hj)
    · rw [List.getD_eq_getElem?_getD, List.getElem?_eq_none (by omega)]
      simp
  have hlen : len0 ≤ 9223372036854775807 := by
    rcases w0 with ⟨_, rfl, _, _⟩ | ⟨x, _, h1, h2, _⟩
    · omega
    · unfold maxLen at h2; omega
  refine ⟨hlen, ?_⟩
  intro j hj
  refine ⟨by have := hg j; show (z0.getD j 0).toNat ≤ 255; omega, ?_⟩
  rcases w0 with ⟨_, rfl, _, _⟩ | ⟨x, rfl, h1, h2, h3, hcell, _⟩
  · omega
  · obtain ⟨g, off, spot⟩ := x
    have hc := hcell 0 (by omega)
    have hspot : spot = none := by simpa [Addr.add] using World.cell?_spot hc
    subst hspot
    refine ⟨g, off, rfl, ?_⟩
    have h4 := hcell j (by omega)
    rw [addr_add] at h4
    rw [h4]
    have := hg j
    show some (Value.int .u8 (z0.getD j 0)) = some (Value.int .u8 (((z0.getD j 0).toNat : Nat) : Int))
    rw [Int.toNat_of_nonneg this.1]
theorem pieces_big (s : ByteArray) (hs : s.size ≤ 9223372036854775807) (p : Option Addr) (m cap : Nat) (hm : m ≤ 9223372036854775807) (h : 400 < s.size ∨ 20 < m) (w : World) (hG : Glob w) :
    Calls Tryd.prog 5 #[.string s, .slice p m cap] w fun e w' => e = .returned (.bool true) ∧ Below w.heap.size w w' := by
  by_cases h1 : 400 < s.size
  · have hd : decide (400 < (s.size : Int)) = true := by simp; omega
    go_enter Tryd.func5, Tryd.ntmps5
    go_wp2_with (go_at_call 8; refine (awake_ok _ hG).mono ?_; rintro e w1 ⟨rfl, hb⟩)
    go_ret
    exact ⟨rfl, hb⟩
  · have hd : decide (400 < (s.size : Int)) = false := by simp; omega
    have hd2 : decide (20 < (m : Int)) = true := by simp; omega
    clear h h1
    go_enter Tryd.func5, Tryd.ntmps5
    go_wp2_with (go_at_call 8; refine (awake_ok _ hG).mono ?_; rintro e w1 ⟨rfl, hb⟩)
    go_ret
    exact ⟨rfl, hb⟩
theorem extract_head (s : ByteArray) (k : Nat) : (s.extract 0 k).data.toList = s.data.toList.take k := by
  rw [ByteArray.data_extract, Array.toList_extract, List.extract_eq_take_drop, List.drop_zero, Nat.sub_zero]
theorem extract_rest (s : ByteArray) (k : Nat) : (s.extract k s.size).data.toList = s.data.toList.drop k := by
  rw [ByteArray.data_extract, Array.toList_extract, List.extract_eq_take_drop]
  exact List.take_of_length_le (by rw [List.length_drop]; exact Nat.le_refl _)

set_option maxRecDepth 100000 in
set_option maxHeartbeats 2000000 in
theorem pieces_mid (s : ByteArray) (hs : s.size ≤ 400) (p : Option Addr) (m cap : Nat) (hm : m ≤ 20) (A : Nat → Nat) (w : World) (hG : Glob w) (hA : Hid (BytesIn w p m A)) :
    Calls Tryd.prog 5 #[.string s, .slice p m cap] w fun e w' => e = .returned (.bool true) ∧ Below w.heap.size w w' := by
  have hd : decide (400 < (s.size : Int)) = false := by simp; omega
  have hd2 : decide (20 < (m : Int)) = false := by simp; omega
  have HG := Lib.hid hG
  have H2 := Lib.hid hG.two
  clear hG
  go_enter Tryd.func5, Tryd.ntmps5
  go_wp2_with fail
  refine (new_any _).mono ?_
  rintro e w1 ⟨rfl, rfl⟩
  have HR1 := Lib.hid (st_new w)
  have HB1 : Hid (Below w.heap.size w (w.alloc (.cells stZero.toArray 42))) := Lib.hid ((Below.refl _ w).alloc (Nat.le_refl _) _)
  obtain ⟨b, hb⟩ : ∃ b, Hid (b = w.heap.size) := ⟨_, Lib.hid rfl⟩
  obtain ⟨w1, hw1⟩ : ∃ w1, Hid (w1 = w.alloc (.cells stZero.toArray 42)) := ⟨_, Lib.hid rfl⟩
  rw [← hb.out] at HR1
  rw [← hw1.out] at HR1 HB1
  rw [← hw1.out, ← hb.out]
  go_wp2
  go_loopw [6, 7, 8, 9] (fun r n i k wr => ∃ i0 n0 : Nat, ∃ R : ByteArray, i0 ≤ m ∧ n0 ≤ s.size ∧ i = .int .i64 i0 ∧ n = .int .i64 n0 ∧ r = .string R ∧ n0 + R.size = s.size ∧ R.data.toList = s.data.toList.drop n0 ∧ StRep wr b (s.data.toList.take n0) ∧ Below w.heap.size w wr) (fun _ _ i _ _ => m - (intOf i).toNat)
  case atStart => exact ⟨0, 0, s, by omega, by omega, rfl, rfl, rfl, by omega, rfl, HR1.out, HB1.out⟩
  case round =>
    clear HR1 HB1 hw1
    obtain ⟨i0, n0, R, hi, hn, rfl, rfl, rfl, hsz, hRd, hrep, hbw⟩ := hrel
    have HREP := Lib.hid hrep
    have HB := Lib.hid hbw
    have HSZ := Lib.hid hsz
    have HRD := Lib.hid hRd
    have HGw := Lib.hid (HG.out.below hbw)
    have hRle : R.size ≤ 400 := by omega
    clear hrep hbw hsz hRd
    by_cases hlt : i0 < m
    · obtain ⟨ha, g, off, rfl, hc⟩ := hA.out i0 hlt
      have hg : g < w.heap.size := block_lt_of_cell hc
      have hcell : wr.cell? ⟨g, off + i0, none⟩ = some (.int .u8 (A i0)) := (HB.out.cell (p := ⟨g, off + i0, none⟩) hg).trans hc
      clear hc hg
      generalize A i0 = a at *
      obtain ⟨k, hk0⟩ : ∃ k, k = a % (R.size + 1) := ⟨_, rfl⟩
      have hkR : k ≤ R.size := by rw [hk0]; have := Nat.mod_lt a (show 0 < R.size + 1 by omega); omega
      have hk : (a : Int) % ((R.size : Int) + 1) = (k : Int) := by rw [hk0]; push_cast; rfl
      obtain ⟨N, hN0⟩ : ∃ N, N = n0 + k := ⟨_, rfl⟩
      have hN : (n0 : Int) + (k : Int) = (N : Int) := by omega
      have hNs : N ≤ s.size := by have := HSZ.out; omega
      have hNsI : (N : Int) ≤ (s.size : Int) := by omega
      have hkRI : (k : Int) ≤ (R.size : Int) := by omega
      have htk : s.data.toList.take n0 ++ (R.extract 0 k).data.toList = s.data.toList.take N := by
        rw [extract_head, HRD.out, hN0, List.take_add]
      have HW := Lib.hid (write_ok HREP.out (R.extract 0 k) (by rw [List.length_take]; show min n0 s.size ≤ _; omega) (by simp; omega) HGw.out (by rw [hb.out]; exact H2.out))
      rw [htk] at HW
      have H15 : Hid (∀ W, (StRep W b (s.data.toList.take N) ∧ Glob W ∧ Below w.heap.size w W) → Calls Tryd.prog 15 #[.pointer (some ⟨b, 0, none⟩)] W fun e0 w' => e0 = .returned (.string ⟨(sha (s.data.toList.take N)).toArray⟩) ∧ Below W.heap.size W w') := fun W hW => sum_ok hW.1 (by rw [List.length_take]; show min N s.size ≤ _; omega) hW.2.1
      have H9 : Hid (∀ W, (StRep W b (s.data.toList.take N) ∧ Glob W ∧ Below w.heap.size w W) → Calls Tryd.prog 9 #[.string (s.extract 0 N)] W fun e0 w' => e0 = .returned (.string ⟨(sha (s.data.toList.take N)).toArray⟩) ∧ Below W.heap.size W w') := fun W hW => by
        have h := sum_any (s.extract 0 N) (by simp; omega) W hW.2.1
        rw [extract_head] at h
        exact h
      have H16 : Hid (∀ W, (StRep W b (s.data.toList.take N) ∧ Glob W ∧ Below w.heap.size w W) → Calls Tryd.prog 16 #[.pointer (some ⟨b, 0, none⟩)] W fun e0 w' => e0 = .returned (.int .i64 N) ∧ W = w') := fun W hW => by
        have h := len_any b (s.data.toList.take N).length W (st_len hW.1)
        rw [List.length_take, show min N s.data.toList.length = N from Nat.min_eq_left hNs] at h
        exact h
      have HK : Hid (∀ wa wb, (StRep wa b (s.data.toList.take N) ∧ Glob wa ∧ Below w.heap.size w wa) → Below wa.heap.size wa wb → (StRep wb b (s.data.toList.take N) ∧ Glob wb ∧ Below w.heap.size w wb)) := fun wa wb h hb => ⟨st_below h.1 hb, h.2.1.below hb, below_stp h.2.2 hb⟩
      have HRD2 : Hid ((R.extract k R.size).data.toList = s.data.toList.drop N) := by unfold Hid; rw [extract_rest, HRD.out, List.drop_drop, hN0]
      have HSZ2 : Hid (N + (R.extract k R.size).size = s.size) := by unfold Hid; have := HSZ.out; simp; omega
      obtain ⟨u, hu⟩ : ∃ u : ByteArray, Hid (u = ⟨(sha (s.data.toList.take N)).toArray⟩) := ⟨_, Lib.hid rfl⟩
      rw [← hu.out] at H15 H9
      obtain ⟨L, hL⟩ : ∃ L, Hid (L = s.data.toList.take N) := ⟨_, Lib.hid rfl⟩
      rw [← hL.out] at HW H15 H9 H16 HK
      have hBb := Lib.hid (show w.heap.size ≤ b by rw [hb.out]; exact Nat.le_refl _)
      clear htk hk0 hN0 HREP HSZ HRD hu
      go_wp2_with fail
      refine HW.out.mono ?_
      rintro e w2 ⟨⟨v, rfl⟩, hf2, hrep2⟩
      have hB2 : Below w.heap.size w w2 := HB.out.trans (hf2.below HB.out.size (fun j hj e => by have := hBb.out; omega))
      have SB : Hid (StRep w2 b L ∧ Glob w2 ∧ Below w.heap.size w w2) := ⟨hrep2, HG.out.below hB2, hB2⟩
      have SD : Hid (StRep w2.drew b L ∧ Glob w2.drew ∧ Below w.heap.size w w2.drew) := ⟨hrep2, HG.out.below hB2.drew, hB2.drew⟩
      clear hf2 hrep2 hB2 HW hcell
      go_wp2
      go_region_held3 (fun w' => StRep w' b L ∧ Glob w' ∧ Below w.heap.size w w') (first | exact SD.out | exact SB.out | exact HK.out _ _ SD.out hbx | exact HK.out _ _ SB.out hbx | assumption | (go_split_ands; refine ⟨?_, ?_, ?_⟩ <;> assumption) | (refine HK.out _ _ ?_ hbx; assumption) | (go_split_ands; refine HK.out _ _ ⟨?_, ?_, ?_⟩ hbx <;> assumption)) (first | (go_at_call 15; (with_reducible refine (H15.out _ ?_).mono ?_); (first | exact SD.out | exact SB.out | assumption | (go_split_ands; refine ⟨?_, ?_, ?_⟩ <;> assumption)); rintro e w' ⟨rfl, hbx⟩) | (go_at_call 9; (with_reducible refine (H9.out _ ?_).mono ?_); (first | exact SD.out | exact SB.out | assumption | (go_split_ands; refine ⟨?_, ?_, ?_⟩ <;> assumption)); rintro e w' ⟨rfl, hbx⟩) | (go_at_call 16; (with_reducible refine (H16.out _ ?_).mono ?_); (first | exact SD.out | exact SB.out | assumption | (go_split_ands; refine ⟨?_, ?_, ?_⟩ <;> assumption)); rintro e w' ⟨rfl, rfl⟩))
      have HF : Hid (StRep w' b L ∧ Below w.heap.size w w') := by go_split_ands; exact ⟨by assumption, by assumption⟩
      rename_i hHeld
      clear hHeld
      go_wp2
      go_roundw
      case rel => exact ⟨i0 + 1, N, _, by omega, hNs, by go_num, rfl, rfl, HSZ2.out, HRD2.out, by rw [← hL.out]; exact HF.out.1, HF.out.2⟩
      case measure => simp [intOf]; omega
    · obtain rfl : i0 = m := by omega
      have hRd := HRD.out
      have hall : s.data.toList.take n0 ++ R.data.toList = s.data.toList := by rw [hRd, List.take_append_drop]
      have HW := Lib.hid (write_ok HREP.out R (by rw [List.length_take]; show min n0 s.size ≤ _; omega) (by omega) HGw.out (by rw [hb.out]; exact H2.out))
      rw [hall] at HW
      have HWN := Lib.hid (fun W => write_nil ⟨#[97]⟩ W)
      have HSN := Lib.hid sum_nil
      have HLN := Lib.hid len_nil
      have hBb := Lib.hid (show w.heap.size ≤ b by rw [hb.out]; exact Nat.le_refl _)
      obtain ⟨u, hu⟩ : ∃ u : ByteArray, Hid (u = ⟨(sha s.data.toList).toArray⟩) := ⟨_, Lib.hid rfl⟩
      clear hRd hall HREP HSZ HRD
      go_wp2_with fail
      refine HW.out.mono ?_
      rintro e w2 ⟨⟨v, rfl⟩, hf2, hrep2⟩
      have HB2 := Lib.hid (HB.out.trans (hf2.below HB.out.size (fun j hj e => by have := hBb.out; omega)))
      have HG2 := Lib.hid (HG.out.below HB2.out)
      have HREP2 := Lib.hid hrep2
      clear hf2 hrep2 HW
      go_wp2_with fail
      refine (HWN.out _).mono ?_
      rintro e w' ⟨⟨v, rfl⟩, rfl⟩
      go_wp2_with fail
      refine (sum_ok HREP2.out (by show s.size ≤ _; omega) HG2.out).mono ?_
      rw [← hu.out]
      rintro e w3 ⟨rfl, hb3⟩
      have HB3 := Lib.hid (below_stp HB2.out hb3)
      have HREP3 := Lib.hid (st_below HREP2.out hb3)
      have HG3 := Lib.hid (HG2.out.below hb3)
      clear hb3
      go_wp2_with fail
      refine (sum_any s (by omega) _ HG3.out).mono ?_
      rw [← hu.out]
      rintro e w4 ⟨rfl, hb4⟩
      have HB4 := Lib.hid (below_stp HB3.out hb4)
      have HREP4 := Lib.hid (st_below HREP3.out hb4)
      have HG4 := Lib.hid (HG3.out.below hb4)
      have H16 := Lib.hid (len_any b s.data.toList.length w4 (st_len HREP4.out))
      rw [show s.data.toList.length = s.size from rfl] at H16
      clear hb4
      go_wp2_with fail
      refine H16.out.mono ?_
      rintro e w' ⟨rfl, rfl⟩
      go_wp2_with fail
      refine (HSN.out _).mono ?_
      rintro e w' ⟨rfl, rfl⟩
      go_wp2_with fail
      refine (HLN.out _).mono ?_
      rintro e w' ⟨rfl, rfl⟩
      go_wp2_with fail
      refine (awake_ok _ HG4.out).mono ?_
      rintro e w5 ⟨rfl, hb5⟩
      have HB5 := Lib.hid (below_stp HB4.out hb5)
      clear hb5
      go_wp2
      go_ret
      exact ⟨rfl, HB5.out⟩
theorem pieces_law (s : ByteArray) (hs : s.size ≤ 9223372036854775807) (p : Option Addr) (m cap : Nat) (zs : List Int) (w : World) (hG : Glob w) (hA : IsRow .u8 w p m cap zs) :
    Calls Tryd.prog 5 #[.string s, .slice p m cap] w fun e w' => e = .returned (.bool true) ∧ Below w.heap.size w w' := by
  obtain ⟨hm, hb⟩ := row_bytes hA
  by_cases h : 400 < s.size ∨ 20 < m
  · exact pieces_big s hs p m cap hm h w hG
  · exact pieces_mid s (by omega) p m cap (by omega) _ w hG hb
end Go.Proofs.YtjkbbndiickcnaaDoor
