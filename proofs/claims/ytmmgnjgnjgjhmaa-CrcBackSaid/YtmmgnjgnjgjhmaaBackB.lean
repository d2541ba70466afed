/- The law CrcBack walked: it returns true at any text, number and bytes, and no memory that was there is changed. -/
import Derived.Test.YtmmgnjgnjgjhmaaBackA
import Derived.RegionTactic
import Derived.IntWalk

namespace Go.Proofs.Ytmmgnjgnjgjhmaa
open Go.RowKit
set_option linter.unusedVariables false

theorem back_big (s : ByteArray) (hs : s.size ≤ 9223372036854775807) (at_ : Nat) (v : Value) (h : 500 < s.size) (w : World) :
    Calls Try.prog 4 #[.string s, .int .u16 at_, v] w fun e w' => e = .returned (.bool true) ∧ Below w.heap.size w w' := by
  have hd : decide (500 < (s.size : Int)) = true := by simp; omega
  go_enter Try.func4, Try.ntmps4
  go_wp2_with (go_at_call 8; refine (awake_ok _).mono ?_; rintro e w1 ⟨rfl, hb⟩)
  go_ret
  exact ⟨rfl, hb⟩

/-- A slice of bytes that came in. -/
def BytesIn (w : World) (a : Option Addr) (len : Nat) (A : Nat → Nat) : Prop := ∀ j, j < len → A j ≤ 255 ∧ ∃ g off, a = some ⟨g, off, none⟩ ∧ w.cell? ⟨g, off + j, none⟩ = some (.int .u8 (A j))

/-- '[]byte(s)': a new row that begins with s. -/
theorem conv_str (w : World) (s : ByteArray) : ∃ cap row, (Go.convert 9 33 (.string s)).run Try.prog w = .ok (.slice (some ⟨w.heap.size, 0, none⟩) s.size cap) (w.alloc (.cells row 5 (row.size, row.size + 1))).drew ∧ s.size ≤ cap ∧ s.size ≤ row.size ∧ ∀ j, j < s.size → row[j]? = some (.int .u8 ((s.data.toList.getD j 0).toNat : Int)) := by
  have h := run_bytes_of_string (P := Try.prog) w 9 33 5 s Try.underlying9 Try.underlying33 Try.underlying5
  refine ⟨grownCap w s.size 0 5, bytesRow s (grownCap w s.size 0 5), h, grownCap_ge w s.size 0 5, ?_, ?_⟩
  · unfold bytesRow
    rw [Array.size_append, Array.size_map]
    have : s.data.size = s.size := rfl
    omega
  · intro j hj
    unfold bytesRow
    have h1 : (Array.map (fun b : UInt8 => Value.int .u8 (b.toNat : Int)) s.data).size = s.size := by rw [Array.size_map]; rfl
    rw [Array.getElem?_append_left (by rw [h1]; exact hj), Array.getElem?_map]
    have h2 : s.data[j]? = some (s.data.toList.getD j 0) := by
      rw [List.getD_eq_getElem?_getD, ← Array.getElem?_toList, List.getElem?_eq_getElem (show j < s.data.toList.length from hj)]
      rfl
    rw [h2]; rfl

theorem turnL_zero (P : List UInt8) (k : Nat) (f : Nat → Nat) (j : Nat) : (turnL P k 0 f).getD j 0 = P.getD j 0 := by
  unfold turnL
  rw [getD_range_map]
  by_cases h : j < P.length
  · rw [if_pos h, if_neg (by omega)]
  · rw [if_neg h, List.getD_eq_getElem?_getD, List.getElem?_eq_none (by omega)]; rfl
theorem turnL_succ (P : List UInt8) (k q : Nat) (f : Nat → Nat) (j : Nat) (h : k + q < P.length) : (turnL P k (q + 1) f).getD j 0 = if j = k + q then (turnL P k q f).getD j 0 ^^^ UInt8.ofNat (f q) else (turnL P k q f).getD j 0 := by
  unfold turnL
  rw [getD_range_map, getD_range_map]
  by_cases hj : j < P.length
  · rw [if_pos hj, if_pos hj]
    by_cases e : j = k + q
    · rw [if_pos e, if_pos (by omega), if_neg (by omega), show j - k = q by omega]
    · rw [if_neg e]
      by_cases e2 : k ≤ j ∧ j < k + q
      · rw [if_pos (by omega), if_pos e2]
      · rw [if_neg (by omega), if_neg e2]
  · rw [if_neg hj, if_neg hj, if_neg (by omega)]
theorem oddB_succ (f : Nat → Nat) (q : Nat) : oddB f (q + 1) = (oddB f q || f q != 0) := by
  unfold oddB
  rw [List.range_succ, List.any_append]; simp

theorem frozen_behind (w : World) (g j : Nat) (cs : Array Value) (t : TypeId) (z : Nat) (hg : w.heap[g]? = some (.cells cs t (z, z + 1))) (hj : j < z) : w.frozen? ⟨g, j, none⟩ = false := by
  unfold World.frozen?
  simp [hg]
  omega
theorem heap_set_any (w : World) (g i : Nat) (cs : Array Value) (t : TypeId) (fr : Nat × Nat) (v : Value) (hg : w.heap[g]? = some (.cells cs t fr)) : (w.setCell ⟨g, i, none⟩ v).heap[g]? = some (.cells (cs.setIfInBounds i v) t fr) := by
  simp [World.setCell, Array.getElem?_modify, hg]

set_option maxRecDepth 100000 in
set_option maxHeartbeats 1000000 in
theorem back_walk (s P : ByteArray) (hs : s.size ≤ 500) (at_ k len cap : Nat) (a : Option Addr) (f : Nat → Nat) (w : World) (hat : at_ < 65536) (hlen : len ≤ 9223372036854775807)
    (hP : Hid (P.data.toList = s.data.toList ++ leN (crcN s.data.toList))) (hPs : Hid (P.size = s.size + 4)) (hP4 : 4 ≤ P.size) (hP5 : P.size ≤ 504) (hPn : ((P.size : Int) != (s.size : Int) + 4) = false) (hk : Hid ((at_ : Int) % (P.size : Int) = (k : Int))) (hkP : k < P.size) (hB : Hid (BytesIn w a len f))
    (H13 : Hid (∀ w : World, Calls Try.prog 13 #[.string s] w fun e w' => e = .returned (.string P) ∧ Below w.heap.size w w'))
    (H9 : Hid (∀ w : World, Calls Try.prog 9 #[.string P] w fun e w' => e = .returned (.tuple #[.string s, .bool true]) ∧ Below w.heap.size w w')) :
    Calls Try.prog 4 #[.string s, .int .u16 at_, .slice a len cap] w fun e w' => e = .returned (.bool true) ∧ Below w.heap.size w w' := by
  have hd : decide (500 < (s.size : Int)) = false := by simp; omega
  go_enter Try.func4, Try.ntmps4
  go_wp2_with fail
  refine (H13.out _).mono ?_
  rintro e w1 ⟨rfl, hb1⟩
  go_wp2_with fail
  refine (H9.out _).mono ?_
  rintro e w2 ⟨rfl, hb2⟩
  have B2 : Hid (Below w.heap.size w w2) := Lib.hid (below_step hb1 hb2)
  clear hb1 hb2 H13 H9
  obtain ⟨c, row, hcv, hc1, hc2, hrow⟩ := conv_str w2 P
  have HROW := Lib.hid hrow
  have HC2 := Lib.hid hc2
  have HC1 := Lib.hid hc1
  clear hrow hc2 hc1
  go_wp2
  rw [hk.out]
  clear hcv
  go_loopw [12, 13] (fun o i wr => ∃ q : Nat, ∃ cur, q ≤ len ∧ q ≤ 4 ∧ k + q ≤ P.size ∧ i = .int .i64 q ∧ o = .bool (oddB f q) ∧ Hid (wr.heap[w2.heap.size]? = some (.cells cur 5 (row.size, row.size + 1))) ∧ Hid (cur.size = row.size) ∧ Hid (∀ j, j < P.size → cur[j]? = some (.int .u8 (((turnL P.data.toList k q f).getD j 0).toNat : Int))) ∧ Hid (Below w.heap.size w wr)) (fun _ i _ => 4 - (intOf i).toNat)
  case atStart => 
    refine ⟨0, row, Nat.zero_le _, Nat.zero_le _, by omega, rfl, rfl, Lib.hid (heap_alloc_new w2 _), Lib.hid rfl, Lib.hid (fun j hj => ?_), Lib.hid (B2.out.alloc B2.out.size _).drew⟩
    rw [HROW.out j hj, turnL_zero]
  case round =>
    obtain ⟨q, cur, hq1, hq2, hq3, rfl, rfl, hg, hcs, hcur, hb⟩ := hrel
    by_cases hgo : q < len ∧ q < 4 ∧ k + q < P.size
    · obtain ⟨g1, g2, g3⟩ := hgo
      obtain ⟨hf255, g, off, rfl, hcell⟩ := hB.out q g1
      have hgN : g < w.heap.size := block_lt_of_cell hcell
      have hc1 : wr.cell? ⟨g, off + q, none⟩ = some (.int .u8 (f q)) := (hb.out.cell (p := ⟨g, off + q, none⟩) hgN).trans hcell
      obtain ⟨x, hx⟩ : ∃ x, Hid (x = (turnL P.data.toList k q f).getD (k + q) 0) := ⟨_, Lib.hid rfl⟩
      have hrs : Hid (k + q < row.size) := Lib.hid (Nat.lt_of_lt_of_le g3 HC2.out)
      have hc2 : wr.cell? ⟨w2.heap.size, k + q, none⟩ = some (.int .u8 (x.toNat : Int)) := by
        rw [cell_of_row _ _ _ _ _ _ hg.out, hcur.out (k + q) g3, hx.out]
      have hf2 : wr.frozen? ⟨w2.heap.size, k + q, none⟩ = false := frozen_behind _ _ _ _ _ _ hg.out hrs.out
      have bx : x.toNat < 256 := UInt8.toNat_lt x
      obtain ⟨y, hy⟩ : ∃ y, Hid (y = x.toNat ^^^ f q) := ⟨_, Lib.hid rfl⟩
      have hxy : bits .xor .u8 (x.toNat : Int) (f q : Int) = (y : Int) := by rw [hy.out]; exact u8_xor_nat _ _ bx (by omega)
      have hgne : w2.heap.size ≠ g := by have := B2.out.size; omega
      have hw1 : IntKind.i64.wrap ((k : Int) + (q : Int)) = (k : Int) + (q : Int) := IntWalk.i64_in _ (by omega)
      have hw2 : (0 : Int) ≤ (k : Int) + (q : Int) := by omega
      have hw3 : ((k : Int) + (q : Int)).toNat = k + q := by omega
      have hw4 : (k : Int) + (q : Int) < (P.size : Int) := by omega
      have h0q : (0 : Int) ≤ (q : Int) := by omega
      have hcc : c.succ ≥ 0 := by omega
      have HC1' := HC1.out
      have hc3 : (wr.setCell ⟨w2.heap.size, k + q, none⟩ (.int .u8 (y : Int))).drew.cell? ⟨g, off + q, none⟩ = some (.int .u8 (f q)) := (World.cell?_of_block (w := wr) (a := ⟨g, off + q, none⟩) (Below.heap_setCell wr _ _ g (Ne.symm hgne))).trans hc1
      have hrel2 : Hid (∀ j, j < P.size → (cur.setIfInBounds (k + q) (.int .u8 (y : Int)))[j]? = some (.int .u8 (((turnL P.data.toList k (q + 1) f).getD j 0).toNat : Int))) := by
        intro j hj
        have hPl : P.data.toList.length = P.size := rfl
        rw [Array.getElem?_setIfInBounds, turnL_succ _ _ _ _ _ (by rw [hPl]; exact g3)]
        by_cases e : k + q = j
        · subst e
          rw [if_pos rfl, if_pos rfl, if_pos (by rw [hcs.out]; exact hrs.out), UInt8.toNat_xor, ← hx.out, UInt8.toNat_ofNat', Nat.mod_eq_of_lt (by omega), hy.out]
        · rw [if_neg e, if_neg (fun h => e h.symm)]
          exact hcur.out j hj
      have hbel : Hid (Below w.heap.size w (wr.setCell ⟨w2.heap.size, k + q, none⟩ (.int .u8 (y : Int))).drew) := Lib.hid (hb.out.setCell B2.out.size _).drew
      have hgnew : Hid ((wr.setCell ⟨w2.heap.size, k + q, none⟩ (.int .u8 (y : Int))).drew.heap[w2.heap.size]? = some (.cells (cur.setIfInBounds (k + q) (.int .u8 (y : Int))) 5 (row.size, row.size + 1))) := Lib.hid (heap_set_any wr w2.heap.size (k + q) cur 5 _ _ hg.out)
      have hsz2 : Hid ((cur.setIfInBounds (k + q) (.int .u8 (y : Int))).size = row.size) := Lib.hid (by rw [Array.size_setIfInBounds]; exact hcs.out)
      clear hcc hP hPs hPn hk hcell hgN
      cases ho : oddB f q with
      | true =>
        have hos : Hid (oddB f (q + 1) = true) := Lib.hid (by rw [oddB_succ, ho]; rfl)
        clear ho
        go_wp2
        go_region
        clear hc1 hc2 hf2 hxy
        go_wp2
        go_roundw
        case rel => exact ⟨q + 1, _, by omega, by omega, by omega, by go_num, by rw [hos.out], hgnew, hsz2, hrel2, hbel⟩
        case measure => simp [intOf]; omega
      | false =>
        by_cases hz : f q = 0
        · have hos : Hid (oddB f (q + 1) = false) := Lib.hid (by rw [oddB_succ, ho, hz]; rfl)
          have hz2 : ((f q : Int) != 0) = false := by rw [hz]; rfl
          clear ho hz
          go_wp2
          go_region
          clear hc1 hc2 hf2 hxy
          go_wp2
          go_roundw
          case rel => exact ⟨q + 1, _, by omega, by omega, by omega, by go_num, by rw [hos.out], hgnew, hsz2, hrel2, hbel⟩
          case measure => simp [intOf]; omega
        · have hos : Hid (oddB f (q + 1) = true) := Lib.hid (by rw [oddB_succ, ho, Bool.false_or]; simpa using hz)
          have hz2 : ((f q : Int) != 0) = true := by rw [bne_iff_ne]; omega
          clear ho hz
          go_wp2
          go_region
          clear hc1 hc2 hf2 hxy
          go_wp2
          go_roundw
          case rel => exact ⟨q + 1, _, by omega, by omega, by omega, by go_num, by rw [hos.out], hgnew, hsz2, hrel2, hbel⟩
          case measure => simp [intOf]; omega
    · have hm4 : q ≤ 4 := hq2
      have hbL : ∀ j, j < q → f j ≤ 255 := fun j hj => (hB.out j (by omega)).1
      have hPl : P.data.toList.length = P.size := rfl
      obtain ⟨Q, hQ⟩ : ∃ Q, Hid (Q = (⟨(turnL P.data.toList k q f).toArray⟩ : ByteArray)) := ⟨_, Lib.hid rfl⟩
      have hlen2 : Hid ((turnL P.data.toList k q f).length = P.size) := Lib.hid (by simp [turnL, hPl])
      have hcv := run_convert_bytes_back wr 33 9 5 ⟨w2.heap.size, 0, none⟩ c (turnL P.data.toList k q f) Try.underlying33 Try.underlying5 Try.underlying9 (fun j hj => by
        have hj2 : j < P.size := by rw [hlen2.out] at hj; exact hj
        rw [addr_add, Nat.zero_add, cell_of_row _ _ _ _ _ _ hg.out, hcur.out j hj2]
        congr 2
        rw [List.getD_eq_getElem?_getD, List.getElem?_eq_getElem hj]
        rfl)
      rw [hlen2.out, ← hQ.out] at hcv
      have hgetB : getB Q.data.toList = !oddB f q := by
        rw [hQ.out]
        exact getB_turn P.data.toList k q f (by rw [hPl]; exact hP4) hm4 (by rw [hPl]; exact hq3) hbL (by rw [hP.out]; exact getB_put _)
      have hQs : Q.size ≤ 600 := by rw [hQ.out]; show (turnL P.data.toList k q f).length ≤ 600; rw [hlen2.out]; omega
      obtain ⟨X, HG⟩ : ∃ X : ByteArray, Hid (∀ w : World, Calls Try.prog 9 #[.string Q] w fun e w' => e = .returned (.tuple #[.string X, .bool (!oddB f q)]) ∧ Below w.heap.size w w') := by
        cases ho : oddB f q with
        | true => exact ⟨⟨#[]⟩, Lib.hid fun w => get_no Q hQs (by rw [hgetB, ho]; rfl) w⟩
        | false => exact ⟨Q.extract 0 (Q.size - 4), Lib.hid fun w => get_yes Q hQs (by rw [hgetB, ho]; rfl) w⟩
      have HF : Hid (∀ w : World, Calls Try.prog 9 #[.string (P.extract 0 3)] w fun e w' => e = .returned (.tuple #[.string ⟨#[]⟩, .bool false]) ∧ Below w.heap.size w w') := Lib.hid fun w => get_few _ (by rw [ByteArray.size_extract]; omega) w
      have h3P : (3 : Int) ≤ (P.size : Int) := by omega
      generalize oddB f q = od at *
      have hHk : (0 : Int) ≤ (k : Int) + (q : Int) := by omega
      clear hgetB hQs hcur hcs hlen2 hP hPs hPn hk hbL hPl
      have hways : (len ≤ q) ∨ (q < len ∧ 4 ≤ q) ∨ (q < len ∧ q < 4 ∧ P.size ≤ k + q) := by omega
      clear hgo
      rcases hways with h1 | ⟨h1, h2⟩ | ⟨h1, h2, h3⟩
      all_goals
        go_wp2_with fail
        refine (HG.out _).mono ?_
        rintro e w3 ⟨rfl, hb3⟩
        have B3 : Hid (Below w.heap.size w w3) := Lib.hid (below_step hb.out hb3)
        clear hb3
        go_wp2_with fail
        refine (HF.out _).mono ?_
        rintro e w4 ⟨rfl, hb4⟩
        have B4 : Hid (Below w.heap.size w w4) := Lib.hid (below_step B3.out hb4)
        clear hb4 B3
        go_wp2_with fail
        refine (awake_ok _).mono ?_
        rintro e w5 ⟨rfl, hb5⟩
        have B5 : Hid (Below w.heap.size w w5) := Lib.hid (below_step B4.out hb5)
        clear hb5 B4
        go_wp2
        go_ret
        exact ⟨rfl, B5.out⟩

theorem back_law (s : ByteArray) (hs : s.size ≤ 9223372036854775807) (at_ len cap : Nat) (hat : at_ < 65536) (hlen : len ≤ 9223372036854775807) (a : Option Addr) (f : Nat → Nat) (w : World) (hB : BytesIn w a len f) :
    Calls Try.prog 4 #[.string s, .int .u16 at_, .slice a len cap] w fun e w' => e = .returned (.bool true) ∧ Below w.heap.size w w' := by
  by_cases h : 500 < s.size
  · exact back_big s hs at_ _ h w
  · obtain ⟨P, hP⟩ : ∃ P, P = (⟨(s.data.toList ++ leN (crcN s.data.toList)).toArray⟩ : ByteArray) := ⟨_, rfl⟩
    have hPd : P.data.toList = s.data.toList ++ leN (crcN s.data.toList) := by rw [hP]
    have hPs : P.size = s.size + 4 := by
      have h1 : P.data.toList.length = P.size := rfl
      have h2 : s.data.toList.length = s.size := rfl
      rw [← h1, hPd, List.length_append, leN_length, h2]
    have hex : P.extract 0 (P.size - 4) = s := by
      apply ByteArray.ext
      apply Array.ext'
      have h2 : s.data.toList.length = s.size := rfl
      rw [take_extract, hPd, hPs, Nat.add_sub_cancel, ← h2, List.take_left]
    refine back_walk s P (by omega) at_ (at_ % P.size) len cap a f w hat hlen (Lib.hid hPd) (Lib.hid hPs) (by omega) (by omega) ?_ (Lib.hid (by omega)) (Nat.mod_lt _ (by omega)) hB ?_ ?_
    · rw [hPs]
      simp
    · intro w
      rw [hP]
      exact put_any s (by omega) w
    · intro w
      have := get_yes P (by omega) (by rw [hPd]; exact getB_put _) w
      rw [hex] at this
      exact this
end Go.Proofs.Ytmmgnjgnjgjhmaa
