/- The statements: ParseLong. No condition but what the statement names. -/
import Derived.Test.YtldplgbjofihjaaU24
namespace Go.Proofs.Ytldplgbjofihjaa
open Go.RowKit Go.Shelf
set_option linter.unusedVariables false
set_option linter.unusedSimpArgs false
section
open E
theorem ent22 : Enters Try.prog 22 := enters_of Try.func22 (by kernel_rfl) rfl
theorem ent23 : Enters Try.prog 23 := enters_of Try.func23 (by kernel_rfl) rfl
abbrev hSt (s : List UInt8) : Hint := pc 22 #[stv s] (.v (stv (strL s)))
theorem hSt_ok (id : Nat) (s : List UInt8) (hs : s.length ≤ 1000000) : HintOk Try.prog id (hSt s) := pc_ok ent22 (v := stv (strL s)) rfl (fun _ => rfl) fun w => str_any ⟨s.toArray⟩ (by show s.toArray.size ≤ 1000000; rw [List.size_toArray]; exact hs) w
abbrev hWd (n : Nat) : Hint := pc 23 #[.int .i64 (n : Int)] (.v (stv (wordL n)))
theorem hWd_ok (id n : Nat) (hn : n ≤ 9223372036854775807) : HintOk Try.prog id (hWd n) := pc_ok ent23 (v := stv (wordL n)) rfl (fun _ => rfl) fun w => by
  have := word_any (n : Int) (by omega) (by omega) w
  rw [Int.toNat_natCast] at this
  exact this
/-- A file's beginning, as far as its data. -/
abbrev hdT : List UInt8 := (((strL tMagic ++ strL tOpen) ++ strL tType) ++ strL tReg) ++ strL tCont
abbrev tsT : TS := ⟨7, [], [⟨[], 1, []⟩], [([], [])]⟩
theorem run_hd : runM t0 hdT = some (tsT, []) := by kernel_rfl
theorem hd_len : hdT.length ≤ 1000 := by decide +kernel
theorem long_get (x : List UInt8) (h8 : x.length = 8) : getL (hdT ++ x) = if 65536 < leN x then ([], 4) else ([], 5) := by
  have hx : x ≠ [] := fun h => by rw [h] at h8; cases h8
  have hm : mostM tsT.pl = some 65536 := rfl
  have e8 : gN x 8 = leN x := by unfold gN; rw [List.take_of_length_le (by omega)]
  have hg : getL (hdT ++ x) = finR tsT x := by
    unfold getL finR
    rw [runM_app, run_hd]
    rfl
  rw [hg]
  by_cases hgt : 65536 < leN x
  · rw [if_pos hgt]
    exact fin_form hm (cut_great (by omega) (by rw [e8]; exact hgt))
  · rw [if_neg hgt]
    by_cases hp : 8 < 8 + padN (gN x 8)
    · exact fin_more (by decide) hm (cut_part (by omega) (by rw [e8]; omega) (by rw [h8]; exact hp))
    · have hz := pad_le (gN x 8)
      have h0 : gN x 8 = 0 := by omega
      have hc := cut_whole (m := 65536) (r := x) (by omega) (by omega) (by omega)
      have hp0 : padN 0 = 0 := rfl
      have e : endL (x.take 8) 0 = ([], true) := by
        unfold endL
        rw [List.take_of_length_le (by omega), List.drop_of_length_le (by omega)]
        rfl
      rw [h0, hp0] at hc
      simp only [Nat.add_zero] at hc
      rw [e, if_pos rfl] at hc
      rw [fin_ok (t' := ⟨10, [], [⟨[], 1, []⟩], [([], [])]⟩) hm hc (by rfl)]
      rw [List.drop_of_length_le (by omega)]
      unfold finR
      rw [runM_nil]
      rfl
theorem word_at (n i : Nat) (hi : i < 8) : ((wordL n).getD i 0).toNat = n / 2 ^ (8 * i) % 256 := by
  have : i = 0 ∨ i = 1 ∨ i = 2 ∨ i = 3 ∨ i = 4 ∨ i = 5 ∨ i = 6 ∨ i = 7 := by omega
  rcases this with rfl | rfl | rfl | rfl | rfl | rfl | rfl | rfl <;> simp [wordL]
theorem tv_str {a b : List UInt8} (h : a = b) : TV.v (stv a) = TV.v (stv b) := by rw [h]
set_option maxRecDepth 100000 in
theorem long_any (n m : Nat) (hn : n < 18446744073709551616) (hm : m < 65536) (w : World) : Calls Try.prog 10 #[.int .u64 (n : Int), .int .u16 (m : Int)] w fun e w' => e = .returned (.bool true) ∧ Below w.heap.size w w' := by
  refine At.calls (args := [.int .u64 (n : Int), .int .u16 (m : Int)]) (rows := []) (gl := []) (wr := []) (ρ := fun _ => (⟨0, 0, 0⟩ : Blk)) Try.func10 rfl rfl (init_rw ⟨rfl, rfl, trivial⟩ rfl rfl rfl (fun p hp => by cases hp) (fun p hp => by cases hp) (fun p hp => by cases hp)) rfl ?_
  have hl := hd_len
  have hle : leN (wordL n) = n := le_word n hn
  have hlm : leN (wordL m) = m := le_word m (by omega)
  have g1 := long_get (wordL n) rfl
  have g2 := long_get (wordL m) rfl
  rw [hle] at g1
  rw [hlm, if_neg (by omega)] at g2
  have hend : At Try.prog w ⟨[], fun _ => ⟨0, 0, 0⟩, []⟩ Try.f10.ntmps [] (rp Try.f10 7) (EndX Try.prog Try.f10 fun e w' => e = .returned (.bool true) ∧ Below w.heap.size w w') [(0, .int .u64 (n : Int)), (1, .int .u16 (m : Int)), (5, .v (stv hdT)), (6, .v (stv (wordL n)))] [] := by
    have hla : ∀ x : List UInt8, (hdT ++ x).length = hdT.length + x.length := fun x => List.length_append
    have kW : HintOk Try.prog 9003 (hWd m) := hWd_ok _ _ (by omega)
    have k2 : HintOk Try.prog 9005 (hP1 (hdT ++ wordL m) 5) := hP1_ok _ (by rw [hla, wordL_len]; omega) g2 (by decide)
    have b1 : (hdT.length : Int) + ((wordL n).length : Int) ≤ 9223372036854775807 := by rw [wordL_len]; omega
    have b2 : (hdT.length : Int) + ((wordL m).length : Int) ≤ 9223372036854775807 := by rw [wordL_len]; omega
    have cv : IntKind.i64.wrap (m : Int) = (m : Int) := by rw [IntKind.wrap_i64]; omega
    by_cases hgt : 65536 < n
    · rw [if_pos hgt] at g1
      have k1 : HintOk Try.prog 8003 (hP1 (hdT ++ wordL n) 4) := hP1_ok _ (by rw [hla, wordL_len]; omega) g1 (by decide)
      exact At.fin rfl [(8003, hP1 (hdT ++ wordL n) 4), (9003, hWd m), (9005, hP1 (hdT ++ wordL m) 5), (13001, hEr 4), (13006, hEr 5), (13010, hAw)] ⟨k1, kW, k2, hEr_ok _ _, hEr_ok _ _, hAw_ok _, trivial⟩ [.n] (x := .v (.bool true)) (ob := [[(hdT.length : Int) + ((wordL n).length : Int) ≤ 9223372036854775807], qL (hP1 (hdT ++ wordL n) 4), [IntKind.i64.wrap (m : Int) = (m : Int)], qL (hWd m), [(hdT.length : Int) + ((wordL m).length : Int) ≤ 9223372036854775807], qL (hP1 (hdT ++ wordL m) 5), [decide ((n : Int) ≤ 65536) = false], qL (hEr 4), qL (hEr 5), qL hAw].flatten) (by kernel_rfl) (all_flat ⟨⟨b1, trivial⟩, all_qL _, ⟨cv, trivial⟩, all_qL _, ⟨b2, trivial⟩, all_qL _, ⟨decide_eq_false (by omega), trivial⟩, all_qL _, all_qL _, all_qL _, trivial⟩) fun ρ' w' hf _ => ⟨rfl, hf.below⟩
    · rw [if_neg hgt] at g1
      have k1 : HintOk Try.prog 8003 (hP1 (hdT ++ wordL n) 5) := hP1_ok _ (by rw [hla, wordL_len]; omega) g1 (by decide)
      exact At.fin rfl [(8003, hP1 (hdT ++ wordL n) 5), (9003, hWd m), (9005, hP1 (hdT ++ wordL m) 5), (13001, hEr 5), (13006, hEr 5), (13010, hAw)] ⟨k1, kW, k2, hEr_ok _ _, hEr_ok _ _, hAw_ok _, trivial⟩ [.y] (x := .v (.bool true)) (ob := [[(hdT.length : Int) + ((wordL n).length : Int) ≤ 9223372036854775807], qL (hP1 (hdT ++ wordL n) 5), [IntKind.i64.wrap (m : Int) = (m : Int)], qL (hWd m), [(hdT.length : Int) + ((wordL m).length : Int) ≤ 9223372036854775807], qL (hP1 (hdT ++ wordL m) 5), [decide ((n : Int) ≤ 65536) = true], qL (hEr 5), qL (hEr 5), qL hAw].flatten) (by kernel_rfl) (all_flat ⟨⟨b1, trivial⟩, all_qL _, ⟨cv, trivial⟩, all_qL _, ⟨b2, trivial⟩, all_qL _, ⟨decide_eq_true (by omega), trivial⟩, all_qL _, all_qL _, all_qL _, trivial⟩) fun ρ' w' hf _ => ⟨rfl, hf.below⟩
  have hloop : ∀ i : Nat, i ≤ 8 → At Try.prog w ⟨[], fun _ => ⟨0, 0, 0⟩, []⟩ Try.f10.ntmps [] (lp Try.f10 0) (EndX Try.prog Try.f10 fun e w' => e = .returned (.bool true) ∧ Below w.heap.size w w') [(0, .int .u64 (n : Int)), (1, .int .u16 (m : Int)), (5, .v (stv hdT)), (6, .v (stv ((wordL n).take i))), (7, .int .i64 (i : Int))] [] := by
    refine At.loop (fun i : Nat => [(0, .int .u64 (n : Int)), (1, .int .u16 (m : Int)), (5, .v (stv hdT)), (6, .v (stv ((wordL n).take i))), (7, .int .i64 (i : Int))]) (fun _ => []) (fun i => i ≤ 8) (fun i => 8 - i) fun i hi ih => ?_
    by_cases h : i < 8
    · have h9 := ih (i + 1) (by omega) (by omega)
      obtain ⟨c, hc⟩ : ∃ c, c = (wordL n).getD i 0 := ⟨_, rfl⟩
      have hcv := word_at n i h
      rw [← hc] at hcv
      have htk : (wordL n).take i ++ [c] = (wordL n).take (i + 1) := by
        rw [List.take_add_one, hc, List.getD_eq_getElem?_getD, List.getElem?_eq_getElem (by rw [wordL_len]; exact h)]; rfl
      refine At.run rfl [(2007005, .val (.int .u8 (c.toNat : Int))), (2007007, .val (.v (stv [c]))), (2007008, .val (.v (stv ((wordL n).take (i + 1)))))] ⟨trivial, trivial, trivial, trivial⟩ [.y] (tm2 := [(0, .int .u64 (n : Int)), (1, .int .u16 (m : Int)), (5, .v (stv hdT)), (6, .v (stv ((wordL n).take (i + 1)))), (7, .int .i64 ((i + 1 : Nat) : Int))]) (rows2 := []) (ob := [decide ((i : Int) < 8) = true, inI (8 * (i : Int)), 0 ≤ 8 * (i : Int) ∧ 8 * (i : Int) ≤ ((IntKind.u64.bits : Nat) : Int), TV.int .u8 (IntKind.u8.wrap ((n : Int) / 2 ^ (8 * (i : Int)).toNat)) = TV.int .u8 (c.toNat : Int), TV.v (stv ((List.range 1).map fun q => ubyte (chunkF [.int .u8 (c.toNat : Int)] 1 1 (addN 0 q)))) = TV.v (stv [c]), (1 : Nat) ≤ 1, ∀ q, q < 1 → ∃ d : UInt8, chunkF [.int .u8 (c.toNat : Int)] 1 1 (addN 0 q) = [.int .u8 (d.toNat : Int)], TV.v (stv ((wordL n).take i ++ [c])) = TV.v (stv ((wordL n).take (i + 1))), (((wordL n).take i).length : Int) + (([c] : List UInt8).length : Int) ≤ 9223372036854775807, inI ((i : Int) + 1)]) (td := lp Try.f10 0) (by kernel_rfl) ⟨decide_eq_true (by omega), ⟨by omega, by omega⟩, ⟨by omega, by show 8 * (i : Int) ≤ 64; omega⟩, ?_, tv_str (by simp [chunkF, addN, ubyte]), by decide, (fun q hq => ⟨c, (match q, hq with | 0, _ => rfl)⟩), tv_str htk, by rw [List.length_take]; simp; omega, ⟨by omega, by omega⟩, trivial⟩ rfl rfl (by intro h; cases h) h9
      refine tv_int ?_
      rw [show (8 * (i : Int)).toNat = 8 * i by omega, IntKind.wrap_u8, hcv]
      have : ((2 : Int) ^ (8 * i)) = ((2 ^ (8 * i) : Nat) : Int) := by simp
      rw [this]
      omega
    · obtain rfl : i = 8 := by omega
      rw [show (wordL n).take 8 = wordL n from List.take_of_length_le (by rw [wordL_len]; decide)]
      exact At.run rfl [] trivial [.n] (tm2 := [(0, .int .u64 (n : Int)), (1, .int .u16 (m : Int)), (5, .v (stv hdT)), (6, .v (stv (wordL n)))]) (rows2 := []) (ob := [decide (((8 : Nat) : Int) < 8) = false]) (td := rp Try.f10 7) (by kernel_rfl) ⟨rfl, trivial⟩ rfl rfl (by intro h; cases h) hend
  have ln : ∀ s : List UInt8, s.length ≤ 100 → (strL s).length ≤ 200 := fun s hs => by have := strL_le s; omega
  have l1 := ln tMagic (by decide)
  have l2 := ln tOpen (by decide)
  have l3 := ln tType (by decide)
  have l4 := ln tReg (by decide)
  have l5 := ln tCont (by decide)
  exact At.run rfl [(2000, hSt tMagic), (2001, hSt tOpen), (2003, hSt tType), (2005, hSt tReg), (2007, hSt tCont)] ⟨hSt_ok _ _ (by decide), hSt_ok _ _ (by decide), hSt_ok _ _ (by decide), hSt_ok _ _ (by decide), hSt_ok _ _ (by decide), trivial⟩ [] (tm2 := [(0, .int .u64 (n : Int)), (1, .int .u16 (m : Int)), (5, .v (stv hdT)), (6, .v (stv ((wordL n).take 0))), (7, .int .i64 ((0 : Nat) : Int))]) (rows2 := []) (ob := [qL (hSt tMagic), qL (hSt tOpen), [((strL tMagic).length : Int) + ((strL tOpen).length : Int) ≤ 9223372036854775807], qL (hSt tType), [((strL tMagic ++ strL tOpen).length : Int) + ((strL tType).length : Int) ≤ 9223372036854775807], qL (hSt tReg), [(((strL tMagic ++ strL tOpen) ++ strL tType).length : Int) + ((strL tReg).length : Int) ≤ 9223372036854775807], qL (hSt tCont), [((((strL tMagic ++ strL tOpen) ++ strL tType) ++ strL tReg).length : Int) + ((strL tCont).length : Int) ≤ 9223372036854775807]].flatten) (td := lp Try.f10 0) (by kernel_rfl) (all_flat ⟨all_qL _, all_qL _, ⟨by omega, trivial⟩, all_qL _, ⟨by rw [List.length_append]; omega, trivial⟩, all_qL _, ⟨by rw [List.length_append, List.length_append]; omega, trivial⟩, all_qL _, ⟨by rw [List.length_append, List.length_append, List.length_append]; omega, trivial⟩, trivial⟩) rfl rfl (by intro h; cases h) (hloop 0 (by decide))
end
end Go.Proofs.Ytldplgbjofihjaa
