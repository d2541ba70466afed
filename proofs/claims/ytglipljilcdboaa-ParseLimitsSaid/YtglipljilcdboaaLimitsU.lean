/- The statements: ParseLimits. No condition. -/
import Derived.Test.YtglipljilcdboaaU24
namespace Go.Proofs.Ytglipljilcdboaa
open Go.RowKit Go.Shelf
set_option linter.unusedVariables false
set_option linter.unusedSimpArgs false
section
open E
theorem ent22 : Enters Try.prog 22 := enters_of Try.func22 (by kernel_rfl) rfl
theorem ent23 : Enters Try.prog 23 := enters_of Try.func23 (by kernel_rfl) rfl
abbrev hSt (s : List UInt8) : Hint := pc 22 #[stv s] (.v (stv (strL s)))
theorem hSt_ok (id : Nat) (s : List UInt8) (hs : s.length ≤ 1000000) : HintOk Try.prog id (hSt s) := pc_ok ent22 (v := stv (strL s)) rfl (fun _ => rfl) fun w => str_any ⟨s.toArray⟩ (by show s.toArray.size ≤ 1000000; rw [List.size_toArray]; exact hs) w
abbrev hWd (n : Nat) : Hint := pc 23 #[.int .i64 (n : Int)] (.v (stv (wordL n)))
theorem hWd_ok (id n : Nat) (hn : n ≤ 9223372036854775807) : HintOk Try.prog id (hWd n) := pc_ok ent23 (v := stv (wordL n)) rfl (fun _ => rfl) fun w => by
  have := word_any (n : Int) (by omega) (by omega) w
  rw [Int.toNat_natCast] at this
  exact this
/-- A file's beginning, as far as its data. -/
abbrev hdT : List UInt8 := (((strL tMagic ++ strL tOpen) ++ strL tType) ++ strL tReg) ++ strL tCont
abbrev tsT : TS := ⟨7, [], [⟨[], 1, []⟩], [([], [])]⟩
theorem run_hd : runM t0 hdT = some (tsT, []) := by kernel_rfl
theorem hd_len : hdT.length ≤ 1000 := by decide +kernel
theorem long_get (x : List UInt8) (h8 : x.length = 8) : getL (hdT ++ x) = if 65536 < leN x then ([], 4) else ([], 5) := by
  have hx : x ≠ [] := fun h => by rw [h] at h8; cases h8
  have hm : mostM tsT.pl = some 65536 := rfl
  have e8 : gN x 8 = leN x := by unfold gN; rw [List.take_of_length_le (by omega)]
  have hg : getL (hdT ++ x) = finR tsT x := by
    unfold getL finR
    rw [runM_app, run_hd]
    rfl
  rw [hg]
  by_cases hgt : 65536 < leN x
  · rw [if_pos hgt]
    exact fin_form hm (cut_great (by omega) (by rw [e8]; exact hgt))
  · rw [if_neg hgt]
    by_cases hp : 8 < 8 + padN (gN x 8)
    · exact fin_more (by decide) hm (cut_part (by omega) (by rw [e8]; omega) (by rw [h8]; exact hp))
    · have hz := pad_le (gN x 8)
      have h0 : gN x 8 = 0 := by omega
      have hc := cut_whole (m := 65536) (r := x) (by omega) (by omega) (by omega)
      have hp0 : padN 0 = 0 := rfl
      have e : endL (x.take 8) 0 = ([], true) := by
        unfold endL
        rw [List.take_of_length_le (by omega), List.drop_of_length_le (by omega)]
        rfl
      rw [h0, hp0] at hc
      simp only [Nat.add_zero] at hc
      rw [e, if_pos rfl] at hc
      rw [fin_ok (t' := ⟨10, [], [⟨[], 1, []⟩], [([], [])]⟩) hm hc (by rfl)]
      rw [List.drop_of_length_le (by omega)]
      unfold finR
      rw [runM_nil]
      rfl
theorem word_at (n i : Nat) (hi : i < 8) : ((wordL n).getD i 0).toNat = n / 2 ^ (8 * i) % 256 := by
  have : i = 0 ∨ i = 1 ∨ i = 2 ∨ i = 3 ∨ i = 4 ∨ i = 5 ∨ i = 6 ∨ i = 7 := by omega
  rcases this with rfl | rfl | rfl | rfl | rfl | rfl | rfl | rfl <;> simp [wordL]
theorem tv_str {a b : List UInt8} (h : a = b) : TV.v (stv a) = TV.v (stv b) := by rw [h]
set_option maxRecDepth 100000 in
theorem long_any (n m : Nat) (hn : n < 18446744073709551616) (hm : m < 65536) (w : World) : Calls Try.prog 10 #[.int .u64 (n : Int), .int .u16 (m : Int)] w fun e w' => e = .returned (.bool true) ∧ Below w.heap.size w w' := by
  refine At.calls (args := [.int .u64 (n : Int), .int .u16 (m : Int)]) (rows := []) (gl := []) (wr := []) (ρ := fun _ => (⟨0, 0, 0⟩ : Blk)) Try.func10 rfl rfl (init_rw ⟨rfl, rfl, trivial⟩ rfl rfl rfl (fun p hp => by cases hp) (fun p hp => by cases hp) (fun p hp => by cases hp)) rfl ?_
  have hl := hd_len
  have hle : leN (wordL n) = n := le_word n hn
  have hlm : leN (wordL m) = m := le_word m (by omega)
  have g1 := long_get (wordL n) rfl
  have g2 := long_get (wordL m) rfl
  rw [hle] at g1
  rw [hlm, if_neg (by omega)] at g2
  have hend : At Try.prog w ⟨[], fun _ => ⟨0, 0, 0⟩, []⟩ Try.f10.ntmps [] (rp Try.f10 7) (EndX Try.prog Try.f10 fun e w' => e = .returned (.bool true) ∧ Below w.heap.size w w') [(0, .int .u64 (n : Int)), (1, .int .u16 (m : Int)), (5, .v (stv hdT)), (6, .v (stv (wordL n)))] [] := by
    have hla : ∀ x : List UInt8, (hdT ++ x).length = hdT.length + x.length := fun x => List.length_append
    have kW : HintOk Try.prog 9003 (hWd m) := hWd_ok _ _ (by omega)
    have k2 : HintOk Try.prog 9005 (hP1 (hdT ++ wordL m) 5) := hP1_ok _ (by rw [hla, wordL_len]; omega) g2 (by decide)
    have b1 : (hdT.length : Int) + ((wordL n).length : Int) ≤ 9223372036854775807 := by rw [wordL_len]; omega
    have b2 : (hdT.length : Int) + ((wordL m).length : Int) ≤ 9223372036854775807 := by rw [wordL_len]; omega
    have cv : IntKind.i64.wrap (m : Int) = (m : Int) := by rw [IntKind.wrap_i64]; omega
    by_cases hgt : 65536 < n
    · rw [if_pos hgt] at g1
      have k1 : HintOk Try.prog 8003 (hP1 (hdT ++ wordL n) 4) := hP1_ok _ (by rw [hla, wordL_len]; omega) g1 (by decide)
      exact At.fin rfl [(8003, hP1 (hdT ++ wordL n) 4), (9003, hWd m), (9005, hP1 (hdT ++ wordL m) 5), (13001, hEr 4), (13006, hEr 5), (13010, hAw)] ⟨k1, kW, k2, hEr_ok _ _, hEr_ok _ _, hAw_ok _, trivial⟩ [.n] (x := .v (.bool true)) (ob := [[(hdT.length : Int) + ((wordL n).length : Int) ≤ 9223372036854775807], qL (hP1 (hdT ++ wordL n) 4), [IntKind.i64.wrap (m : Int) = (m : Int)], qL (hWd m), [(hdT.length : Int) + ((wordL m).length : Int) ≤ 9223372036854775807], qL (hP1 (hdT ++ wordL m) 5), [decide ((n : Int) ≤ 65536) = false], qL (hEr 4), qL (hEr 5), qL hAw].flatten) (by kernel_rfl) (all_flat ⟨⟨b1, trivial⟩, all_qL _, ⟨cv, trivial⟩, all_qL _, ⟨b2, trivial⟩, all_qL _, ⟨decide_eq_false (by omega), trivial⟩, all_qL _, all_qL _, all_qL _, trivial⟩) fun ρ' w' hf _ => ⟨rfl, hf.below⟩
    · rw [if_neg hgt] at g1
      have k1 : HintOk Try.prog 8003 (hP1 (hdT ++ wordL n) 5) := hP1_ok _ (by rw [hla, wordL_len]; omega) g1 (by decide)
      exact At.fin rfl [(8003, hP1 (hdT ++ wordL n) 5), (9003, hWd m), (9005, hP1 (hdT ++ wordL m) 5), (13001, hEr 5), (13006, hEr 5), (13010, hAw)] ⟨k1, kW, k2, hEr_ok _ _, hEr_ok _ _, hAw_ok _, trivial⟩ [.y] (x := .v (.bool true)) (ob := [[(hdT.length : Int) + ((wordL n).length : Int) ≤ 9223372036854775807], qL (hP1 (hdT ++ wordL n) 5), [IntKind.i64.wrap (m : Int) = (m : Int)], qL (hWd m), [(hdT.length : Int) + ((wordL m).length : Int) ≤ 9223372036854775807], qL (hP1 (hdT ++ wordL m) 5), [decide ((n : Int) ≤ 65536) = true], qL (hEr 5), qL (hEr 5), qL hAw].flatten) (by kernel_rfl) (all_flat ⟨⟨b1, trivial⟩, all_qL _, ⟨cv, trivial⟩, all_qL _, ⟨b2, trivial⟩, all_qL _, ⟨decide_eq_true (by omega), trivial⟩, all_qL _, all_qL _, all_qL _, trivial⟩) fun ρ' w' hf _ => ⟨rfl, hf.below⟩
  have hloop : ∀ i : Nat, i ≤ 8 → At Try.prog w ⟨[], fun _ => ⟨0, 0, 0⟩, []⟩ Try.f10.ntmps [] (lp Try.f10 0) (EndX Try.prog Try.f10 fun e w' => e = .returned (.bool true) ∧ Below w.heap.size w w') [(0, .int .u64 (n : Int)), (1, .int .u16 (m : Int)), (5, .v (stv hdT)), (6, .v (stv ((wordL n).take i))), (7, .int .i64 (i : Int))] [] := by
    refine At.loop (fun i : Nat => [(0, .int .u64 (n : Int)), (1, .int .u16 (m : Int)), (5, .v (stv hdT)), (6, .v (stv ((wordL n).take i))), (7, .int .i64 (i : Int))]) (fun _ => []) (fun i => i ≤ 8) (fun i => 8 - i) fun i hi ih => ?_
    by_cases h : i < 8
    · have h9 := ih (i + 1) (by omega) (by omega)
      obtain ⟨c, hc⟩ : ∃ c, c = (wordL n).getD i 0 := ⟨_, rfl⟩
      have hcv := word_at n i h
      rw [← hc] at hcv
      have htk : (wordL n).take i ++ [c] = (wordL n).take (i + 1) := by
        rw [List.take_add_one, hc, List.getD_eq_getElem?_getD, List.getElem?_eq_getElem (by rw [wordL_len]; exact h)]; rfl
      refine At.run rfl [(2007005, .val (.int .u8 (c.toNat : Int))), (2007007, .val (.v (stv [c]))), (2007008, .val (.v (stv ((wordL n).take (i + 1)))))] ⟨trivial, trivial, trivial, trivial⟩ [.y] (tm2 := [(0, .int .u64 (n : Int)), (1, .int .u16 (m : Int)), (5, .v (stv hdT)), (6, .v (stv ((wordL n).take (i + 1)))), (7, .int .i64 ((i + 1 : Nat) : Int))]) (rows2 := []) (ob := [decide ((i : Int) < 8) = true, inI (8 * (i : Int)), 0 ≤ 8 * (i : Int) ∧ 8 * (i : Int) ≤ ((IntKind.u64.bits : Nat) : Int), TV.int .u8 (IntKind.u8.wrap ((n : Int) / 2 ^ (8 * (i : Int)).toNat)) = TV.int .u8 (c.toNat : Int), TV.v (stv ((List.range 1).map fun q => ubyte (chunkF [.int .u8 (c.toNat : Int)] 1 1 (addN 0 q)))) = TV.v (stv [c]), (1 : Nat) ≤ 1, ∀ q, q < 1 → ∃ d : UInt8, chunkF [.int .u8 (c.toNat : Int)] 1 1 (addN 0 q) = [.int .u8 (d.toNat : Int)], TV.v (stv ((wordL n).take i ++ [c])) = TV.v (stv ((wordL n).take (i + 1))), (((wordL n).take i).length : Int) + (([c] : List UInt8).length : Int) ≤ 9223372036854775807, inI ((i : Int) + 1)]) (td := lp Try.f10 0) (by kernel_rfl) ⟨decide_eq_true (by omega), ⟨by omega, by omega⟩, ⟨by omega, by show 8 * (i : Int) ≤ 64; omega⟩, ?_, tv_str (by simp [chunkF, addN, ubyte]), by decide, (fun q hq => ⟨c, (match q, hq with | 0, _ => rfl)⟩), tv_str htk, by rw [List.length_take]; simp; omega, ⟨by omega, by omega⟩, trivial⟩ rfl rfl (by intro h; cases h) h9
      refine tv_int ?_
      rw [show (8 * (i : Int)).toNat = 8 * i by omega, IntKind.wrap_u8, hcv]
      have : ((2 : Int) ^ (8 * i)) = ((2 ^ (8 * i) : Nat) : Int) := by simp
      rw [this]
      omega
    · obtain rfl : i = 8 := by omega
      rw [show (wordL n).take 8 = wordL n from List.take_of_length_le (by rw [wordL_len]; decide)]
      exact At.run rfl [] trivial [.n] (tm2 := [(0, .int .u64 (n : Int)), (1, .int .u16 (m : Int)), (5, .v (stv hdT)), (6, .v (stv (wordL n)))]) (rows2 := []) (ob := [decide (((8 : Nat) : Int) < 8) = false]) (td := rp Try.f10 7) (by kernel_rfl) ⟨rfl, trivial⟩ rfl rfl (by intro h; cases h) hend
  have ln : ∀ s : List UInt8, s.length ≤ 100 → (strL s).length ≤ 200 := fun s hs => by have := strL_le s; omega
  have l1 := ln tMagic (by decide)
  have l2 := ln tOpen (by decide)
  have l3 := ln tType (by decide)
  have l4 := ln tReg (by decide)
  have l5 := ln tCont (by decide)
  exact At.run rfl [(2000, hSt tMagic), (2001, hSt tOpen), (2003, hSt tType), (2005, hSt tReg), (2007, hSt tCont)] ⟨hSt_ok _ _ (by decide), hSt_ok _ _ (by decide), hSt_ok _ _ (by decide), hSt_ok _ _ (by decide), hSt_ok _ _ (by decide), trivial⟩ [] (tm2 := [(0, .int .u64 (n : Int)), (1, .int .u16 (m : Int)), (5, .v (stv hdT)), (6, .v (stv ((wordL n).take 0))), (7, .int .i64 ((0 : Nat) : Int))]) (rows2 := []) (ob := [qL (hSt tMagic), qL (hSt tOpen), [((strL tMagic).length : Int) + ((strL tOpen).length : Int) ≤ 9223372036854775807], qL (hSt tType), [((strL tMagic ++ strL tOpen).length : Int) + ((strL tType).length : Int) ≤ 9223372036854775807], qL (hSt tReg), [(((strL tMagic ++ strL tOpen) ++ strL tType).length : Int) + ((strL tReg).length : Int) ≤ 9223372036854775807], qL (hSt tCont), [((((strL tMagic ++ strL tOpen) ++ strL tType) ++ strL tReg).length : Int) + ((strL tCont).length : Int) ≤ 9223372036854775807]].flatten) (td := lp Try.f10 0) (by kernel_rfl) (all_flat ⟨all_qL _, all_qL _, ⟨by omega, trivial⟩, all_qL _, ⟨by rw [List.length_append]; omega, trivial⟩, all_qL _, ⟨by rw [List.length_append, List.length_append]; omega, trivial⟩, all_qL _, ⟨by rw [List.length_append, List.length_append, List.length_append]; omega, trivial⟩, trivial⟩) rfl rfl (by intro h; cases h) (hloop 0 (by decide))
end
end Go.Proofs.Ytglipljilcdboaa
namespace Go.Proofs.Ytglipljilcdboaa
open Go.RowKit Go.Shelf
set_option linter.unusedVariables false
set_option linter.unusedSimpArgs false
theorem data_get (z : List UInt8) (hz : z.length ≤ 65536) : getL (hdT ++ (strL z ++ strL tClose)) = ([⟨[], 1, z⟩], 0) := by
  have hm : mostM tsT.pl = some 65536 := rfl
  have hg : getL (hdT ++ (strL z ++ strL tClose)) = finR tsT (strL z ++ strL tClose) := by
    unfold getL finR
    rw [runM_app, run_hd]
    rfl
  have hc := cut_str (most := 65536) (s := z) (strL tClose) hz (by omega)
  rw [hg, fin_ok (t' := ⟨10, [], [⟨[], 1, z⟩], [([], [])]⟩) hm hc (by rfl)]
  have hc2 := cut_str (most := 1) (s := tClose) [] (by decide) (by decide)
  rw [List.append_nil] at hc2
  have hm2 : mostM (⟨10, [], [⟨[], 1, z⟩], [([], [])]⟩ : TS).pl = some 1 := rfl
  rw [fin_ok (t' := ⟨17, [], [⟨[], 1, z⟩], []⟩) hm2 hc2 (by rfl)]
  rw [fin_end _ _ rfl, if_pos rfl]
theorem data_bad (z : List UInt8) (hz : 65536 < z.length) (h2 : z.length < 18446744073709551616) : getL (hdT ++ (strL z ++ strL tClose)) = ([], 4) := by
  have hm : mostM tsT.pl = some 65536 := rfl
  have hg : getL (hdT ++ (strL z ++ strL tClose)) = finR tsT (strL z ++ strL tClose) := by
    unfold getL finR
    rw [runM_app, run_hd]
    rfl
  have e0 : gN (strL z ++ strL tClose) 8 = z.length := by
    unfold gN
    have : (strL z ++ strL tClose).take 8 = wordL z.length := by
      unfold strL
      rw [List.append_assoc, List.take_left' (wordL_len _)]
    rw [this, le_word _ h2]
  rw [hg]
  exact fin_form hm (cut_great (by rw [List.length_append, strL_len]; omega) (by rw [e0]; exact hz))
/-- One text more. -/
theorem run_step {t t' : TS} {s x : List UInt8} {m : Nat} (hm : mostM t.pl = some m) (hs : s.length ≤ m) (ht : takeM t s = some t') : runM t (strL s ++ x) = runM t' x := by
  have := mostM_le _ _ hm
  rw [runM_ok hm (cut_str x hs (by omega)), ht]
theorem kind_snoc (L : List Nd) (c : Nd) (k : Int) : setKind (L ++ [c]) k = L ++ [{ c with kind := k }] := by simp [setKind]
theorem data_snoc (L : List Nd) (c : Nd) (d : List UInt8) : setData (L ++ [c]) d = L ++ [{ c with data := d }] := by simp [setData]
/-- A file that is empty, as an entry. -/
def entT (nm x : List UInt8) : List UInt8 := strL tEntry ++ (strL tOpen ++ (strL tName ++ (strL nm ++ (strL tNode ++ (strL tOpen ++ (strL tType ++ (strL tReg ++ (strL tCont ++ (strL [] ++ (strL tClose ++ (strL tClose ++ x)))))))))))
theorem ent_run (pa nm last : List UInt8) (L : List Nd) (x : List UInt8) (hn : L.length ≠ 256) (h1 : mayNameL nm = true) (h2 : ltL last nm = true) (h3 : nm.length ≤ 255) : runM ⟨11, pa, L, [([], last)]⟩ (entT nm x) = runM ⟨11, nm, L ++ [⟨nm, 1, []⟩], [([], nm)]⟩ x := by
  unfold entT
  rw [run_step (t' := ⟨12, pa, L, [([], last)]⟩) (m := 5) rfl (by decide) (by rfl)]
  rw [run_step (t' := ⟨13, pa, L, [([], last)]⟩) (m := 1) rfl (by decide) (by rfl)]
  rw [run_step (t' := ⟨14, pa, L, [([], last)]⟩) (m := 4) rfl (by decide) (by rfl)]
  have he : takeM ⟨14, pa, L, [([], last)]⟩ nm = some ⟨15, nm, L, [([], nm)]⟩ := by
    show enterM ⟨14, pa, L, [([], last)]⟩ nm = _
    unfold enterM
    simp [hn, h1, h2, joinL]
  rw [run_step (m := 255) rfl h3 he]
  rw [run_step (t' := ⟨1, nm, L, [([], nm)]⟩) (m := 4) rfl (by decide) (by rfl)]
  rw [run_step (t' := ⟨2, nm, L ++ [⟨nm, 0, []⟩], [([], nm), (nm, [])]⟩) (m := 1) rfl (by decide) (by rfl)]
  rw [run_step (t' := ⟨3, nm, L ++ [⟨nm, 0, []⟩], [([], nm), (nm, [])]⟩) (m := 4) rfl (by decide) (by rfl)]
  have hk : takeM ⟨3, nm, L ++ [⟨nm, 0, []⟩], [([], nm), (nm, [])]⟩ tReg = some ⟨4, nm, L ++ [⟨nm, 1, []⟩], [([], nm), (nm, [])]⟩ := by
    show some (followM ⟨3, nm, L ++ [⟨nm, 0, []⟩], [([], nm), (nm, [])]⟩ (tReg, 4, 1)) = _
    unfold followM
    simp [kind_snoc]
  rw [run_step (m := 9) rfl (by decide) hk]
  rw [run_step (t' := ⟨7, nm, L ++ [⟨nm, 1, []⟩], [([], nm), (nm, [])]⟩) (m := 10) rfl (by decide) (by rfl)]
  have hd : takeM ⟨7, nm, L ++ [⟨nm, 1, []⟩], [([], nm), (nm, [])]⟩ [] = some ⟨10, nm, L ++ [⟨nm, 1, []⟩], [([], nm), (nm, [])]⟩ := by
    show holdM ⟨7, nm, L ++ [⟨nm, 1, []⟩], [([], nm), (nm, [])]⟩ [] = _
    unfold holdM
    simp [data_snoc]
  rw [run_step (m := 65536) rfl (by decide) hd]
  rw [run_step (t' := ⟨16, nm, L ++ [⟨nm, 1, []⟩], [([], nm)]⟩) (m := 1) rfl (by decide) (by rfl)]
  rw [run_step (t' := ⟨11, nm, L ++ [⟨nm, 1, []⟩], [([], nm)]⟩) (m := 1) rfl (by decide) (by rfl)]
/-- One node too many. -/
theorem ent_bad (pa nm last : List UInt8) (L : List Nd) (x : List UInt8) (hn : L.length = 256) (h3 : nm.length ≤ 255) : runM ⟨11, pa, L, [([], last)]⟩ (entT nm x) = none := by
  unfold entT
  rw [run_step (t' := ⟨12, pa, L, [([], last)]⟩) (m := 5) rfl (by decide) (by rfl)]
  rw [run_step (t' := ⟨13, pa, L, [([], last)]⟩) (m := 1) rfl (by decide) (by rfl)]
  rw [run_step (t' := ⟨14, pa, L, [([], last)]⟩) (m := 4) rfl (by decide) (by rfl)]
  have he : takeM ⟨14, pa, L, [([], last)]⟩ nm = none := by
    show enterM ⟨14, pa, L, [([], last)]⟩ nm = _
    unfold enterM
    simp [hn]
  have hm : mostM (⟨14, pa, L, [([], last)]⟩ : TS).pl = some 255 := rfl
  rw [runM_ok hm (cut_str _ h3 (by omega)), he]
end Go.Proofs.Ytglipljilcdboaa
namespace Go.Proofs.Ytglipljilcdboaa
set_option linter.unusedVariables false
set_option linter.unusedSimpArgs false
def dPath : Nat → List UInt8
  | 0 => []
  | i + 1 => joinL (dPath i) [100]
def dNodes (i : Nat) : List Nd := (List.range i).map fun j => ⟨dPath j, 4, []⟩
def dOpens (i : Nat) : List (List UInt8 × List UInt8) := (List.range i).map fun j => (dPath j, [100])
theorem dNodes_s (i : Nat) : dNodes (i + 1) = dNodes i ++ [⟨dPath i, 4, []⟩] := by unfold dNodes; rw [List.range_succ, List.map_append]; rfl
theorem dOpens_s (i : Nat) : dOpens (i + 1) = dOpens i ++ [(dPath i, [100])] := by unfold dOpens; rw [List.range_succ, List.map_append]; rfl
theorem dOpens_len (i : Nat) : (dOpens i).length = i := by simp [dOpens]
theorem dNodes_len (i : Nat) : (dNodes i).length = i := by simp [dNodes]
/-- A directory with one entry begun. -/
def dirT (x : List UInt8) : List UInt8 := strL tOpen ++ (strL tType ++ (strL tDir ++ (strL tEntry ++ (strL tOpen ++ (strL tName ++ (strL [100] ++ (strL tNode ++ x)))))))
def fileT (x : List UInt8) : List UInt8 := strL tOpen ++ (strL tType ++ (strL tReg ++ (strL tCont ++ (strL [] ++ (strL tClose ++ x)))))
theorem dir_step (p : List UInt8) (L : List Nd) (op : List (List UInt8 × List UInt8)) (x : List UInt8) (hn : L.length < 255) : runM ⟨1, p, L, op⟩ (dirT x) = if op.length < 64 then runM ⟨1, joinL p [100], L ++ [⟨p, 4, []⟩], op ++ [(p, [100])]⟩ x else none := by
  unfold dirT
  rw [run_step (t' := ⟨2, p, L ++ [⟨p, 0, []⟩], op ++ [(p, [])]⟩) (m := 1) rfl (by decide) (by rfl)]
  rw [run_step (t' := ⟨3, p, L ++ [⟨p, 0, []⟩], op ++ [(p, [])]⟩) (m := 4) rfl (by decide) (by rfl)]
  have hk : takeM ⟨3, p, L ++ [⟨p, 0, []⟩], op ++ [(p, [])]⟩ tDir = some ⟨11, p, L ++ [⟨p, 4, []⟩], op ++ [(p, [])]⟩ := by
    show some (followM ⟨3, p, L ++ [⟨p, 0, []⟩], op ++ [(p, [])]⟩ (tDir, 11, 4)) = _
    unfold followM
    simp [kind_snoc]
  rw [run_step (m := 9) rfl (by decide) hk]
  rw [run_step (t' := ⟨12, p, L ++ [⟨p, 4, []⟩], op ++ [(p, [])]⟩) (m := 5) rfl (by decide) (by rfl)]
  rw [run_step (t' := ⟨13, p, L ++ [⟨p, 4, []⟩], op ++ [(p, [])]⟩) (m := 1) rfl (by decide) (by rfl)]
  rw [run_step (t' := ⟨14, p, L ++ [⟨p, 4, []⟩], op ++ [(p, [])]⟩) (m := 4) rfl (by decide) (by rfl)]
  have hm1 : mayNameL [100] = true := by decide
  have hm2 : ltL [] [100] = true := by decide
  by_cases h : op.length < 64
  · rw [if_pos h]
    have he : takeM ⟨14, p, L ++ [⟨p, 4, []⟩], op ++ [(p, [])]⟩ [100] = some ⟨15, joinL p [100], L ++ [⟨p, 4, []⟩], op ++ [(p, [100])]⟩ := by
      show enterM ⟨14, p, L ++ [⟨p, 4, []⟩], op ++ [(p, [])]⟩ [100] = _
      unfold enterM
      simp only [List.getLast?_append, List.getLast?_singleton, Option.some_or, List.length_append, List.length_singleton, hm1, hm2, List.dropLast_concat]
      rw [if_neg (by omega), if_neg (by simp)]
    rw [run_step (m := 255) rfl (by decide) he]
    rw [run_step (t' := ⟨1, joinL p [100], L ++ [⟨p, 4, []⟩], op ++ [(p, [100])]⟩) (m := 4) rfl (by decide) (by rfl)]
  · rw [if_neg h]
    have he : takeM ⟨14, p, L ++ [⟨p, 4, []⟩], op ++ [(p, [])]⟩ [100] = none := by
      show enterM ⟨14, p, L ++ [⟨p, 4, []⟩], op ++ [(p, [])]⟩ [100] = _
      unfold enterM
      simp only [List.getLast?_append, List.getLast?_singleton, Option.some_or, List.length_append, List.length_singleton]
      rw [if_pos (by omega)]
    have hm : mostM (⟨14, p, L ++ [⟨p, 4, []⟩], op ++ [(p, [])]⟩ : TS).pl = some 255 := rfl
    rw [runM_ok hm (cut_str _ (by decide) (by decide)), he]
theorem file_step (p : List UInt8) (L : List Nd) (op : List (List UInt8 × List UInt8)) (x : List UInt8) (h0 : op ≠ []) : runM ⟨1, p, L, op⟩ (fileT x) = runM ⟨16, p, L ++ [⟨p, 1, []⟩], op⟩ x := by
  unfold fileT
  rw [run_step (t' := ⟨2, p, L ++ [⟨p, 0, []⟩], op ++ [(p, [])]⟩) (m := 1) rfl (by decide) (by rfl)]
  rw [run_step (t' := ⟨3, p, L ++ [⟨p, 0, []⟩], op ++ [(p, [])]⟩) (m := 4) rfl (by decide) (by rfl)]
  have hk : takeM ⟨3, p, L ++ [⟨p, 0, []⟩], op ++ [(p, [])]⟩ tReg = some ⟨4, p, L ++ [⟨p, 1, []⟩], op ++ [(p, [])]⟩ := by
    show some (followM ⟨3, p, L ++ [⟨p, 0, []⟩], op ++ [(p, [])]⟩ (tReg, 4, 1)) = _
    unfold followM
    simp [kind_snoc]
  rw [run_step (m := 9) rfl (by decide) hk]
  rw [run_step (t' := ⟨7, p, L ++ [⟨p, 1, []⟩], op ++ [(p, [])]⟩) (m := 10) rfl (by decide) (by rfl)]
  have hd : takeM ⟨7, p, L ++ [⟨p, 1, []⟩], op ++ [(p, [])]⟩ [] = some ⟨10, p, L ++ [⟨p, 1, []⟩], op ++ [(p, [])]⟩ := by
    show holdM ⟨7, p, L ++ [⟨p, 1, []⟩], op ++ [(p, [])]⟩ [] = _
    unfold holdM
    simp [data_snoc]
  rw [run_step (m := 65536) rfl (by decide) hd]
  have hc : takeM ⟨10, p, L ++ [⟨p, 1, []⟩], op ++ [(p, [])]⟩ tClose = some ⟨16, p, L ++ [⟨p, 1, []⟩], op⟩ := by
    show some (followM ⟨10, p, L ++ [⟨p, 1, []⟩], op ++ [(p, [])]⟩ (tClose, 16, 0)) = _
    unfold followM
    simp [h0]
  rw [run_step (m := 1) rfl (by decide) hc]
theorem close_step (p : List UInt8) (L : List Nd) (op : List (List UInt8 × List UInt8)) (d : List UInt8 × List UInt8) (x : List UInt8) : runM ⟨16, p, L, op ++ [d]⟩ (strL tClose ++ (strL tClose ++ x)) = runM ⟨if op = [] then 17 else 16, p, L, op⟩ x := by
  rw [run_step (t' := ⟨11, p, L, op ++ [d]⟩) (m := 1) rfl (by decide) (by rfl)]
  have hc : takeM ⟨11, p, L, op ++ [d]⟩ tClose = some ⟨if op = [] then 17 else 16, p, L, op⟩ := by
    show some (followM ⟨11, p, L, op ++ [d]⟩ (tClose, 16, 0)) = _
    unfold followM
    simp
  rw [run_step (m := 5) rfl (by decide) hc]
/-! ### What a loop's string comes to -/
/-- Behind so many directories. -/
def upQ (i : Nat) (S : List UInt8) : Prop := (i ≤ 64 → ∀ x, runM t0 (S ++ x) = runM ⟨1, dPath i, dNodes i, dOpens i⟩ x) ∧ (64 < i → ∀ x, runM t0 (S ++ x) = none) ∧ S.length ≤ 100 + i * 300
abbrev opT : List UInt8 := (strL tOpen ++ strL tType) ++ strL tDir
abbrev upT (S : List UInt8) : List UInt8 := (((((S ++ opT) ++ strL tEntry) ++ strL tOpen) ++ strL tName) ++ strL [100]) ++ strL tNode
theorem up_0 : upQ 0 (strL tMagic) := by
  refine ⟨fun _ x => ?_, fun h => by omega, by decide⟩
  rw [run_step (t := t0) (t' := ⟨1, [], [], []⟩) (m := 13) rfl (by decide) (by rfl)]
  rfl
theorem len_le {s : List UInt8} {n : Nat} (h : s.length ≤ n) : (strL s).length ≤ n + 16 := by have := strL_le s; omega
theorem up_s {i : Nat} {S : List UInt8} (hi : i < 255) (h : upQ i S) : upQ (i + 1) (upT S) := by
  obtain ⟨h1, h2, h3⟩ := h
  have e : ∀ x, upT S ++ x = S ++ dirT x := fun x => by simp only [dirT, List.append_assoc]
  refine ⟨fun h x => ?_, fun h x => ?_, ?_⟩
  · rw [e, h1 (by omega), dir_step _ _ _ _ (by rw [dNodes_len]; omega), if_pos (by rw [dOpens_len]; omega), dNodes_s, dOpens_s]
    rfl
  · rw [e]
    by_cases h64 : i ≤ 64
    · rw [h1 h64, dir_step _ _ _ _ (by rw [dNodes_len]; omega), if_neg (by rw [dOpens_len]; omega)]
    · exact h2 (by omega) _
  · have l1 := len_le (s := tOpen) (n := 1) (by decide)
    have l2 := len_le (s := tType) (n := 4) (by decide)
    have l3 := len_le (s := tDir) (n := 9) (by decide)
    have l4 := len_le (s := tEntry) (n := 5) (by decide)
    have l5 := len_le (s := tName) (n := 4) (by decide)
    have l6 := len_le (s := [100]) (n := 1) (by decide)
    have l7 := len_le (s := tNode) (n := 4) (by decide)
    simp only [List.length_append]
    omega
abbrev flT : List UInt8 := ((((strL tOpen ++ strL tType) ++ strL tReg) ++ strL tCont) ++ strL []) ++ strL tClose
/-- Behind the file and so many ends; n directories. -/
def downQ (n j : Nat) (S : List UInt8) : Prop := (n ≤ 64 → ∀ x, runM t0 (S ++ x) = runM ⟨if n - j = 0 then 17 else 16, dPath n, dNodes n ++ [⟨dPath n, 1, []⟩], dOpens (n - j)⟩ x) ∧ (64 < n → ∀ x, runM t0 (S ++ x) = none) ∧ S.length ≤ 500 + n * 300 + j * 100
theorem down_0 {n : Nat} {S : List UInt8} (hn : 0 < n) (h : upQ n S) : downQ n 0 (S ++ flT) := by
  obtain ⟨h1, h2, h3⟩ := h
  have e : ∀ x, (S ++ flT) ++ x = S ++ fileT x := fun x => by simp only [fileT, List.append_assoc]
  refine ⟨fun h x => ?_, fun h x => ?_, ?_⟩
  · rw [e, h1 h, file_step _ _ _ _ (fun e => by have := congrArg List.length e; rw [dOpens_len] at this; simp at this; omega), if_neg (by omega)]
    rfl
  · rw [e]; exact h2 h _
  · have l1 : flT.length ≤ 400 := by decide
    simp only [List.length_append] at l1 ⊢
    omega
theorem down_s {n j : Nat} {S : List UInt8} (hj : j < n) (h : downQ n j S) : downQ n (j + 1) ((S ++ strL tClose) ++ strL tClose) := by
  obtain ⟨h1, h2, h3⟩ := h
  refine ⟨fun h x => ?_, fun h x => ?_, ?_⟩
  · obtain ⟨m, hm⟩ : ∃ m, n - j = m + 1 := ⟨n - j - 1, by omega⟩
    have hm2 : n - (j + 1) = m := by omega
    rw [List.append_assoc, List.append_assoc, h1 h, if_neg (by omega), hm, dOpens_s, close_step, hm2]
    have : dOpens m = [] ↔ m = 0 := by
      constructor
      · intro e; have := congrArg List.length e; rw [dOpens_len] at this; simpa using this
      · rintro rfl; rfl
    by_cases h0 : m = 0
    · rw [if_pos (this.2 h0), if_pos h0]
    · rw [if_neg (fun e => h0 (this.1 e)), if_neg h0]
  · rw [List.append_assoc, List.append_assoc]; exact h2 h _
  · have l1 : (strL tClose).length = 16 := rfl
    simp only [List.length_append]
    omega
theorem down_end {n : Nat} {S : List UInt8} (h : downQ n n S) : (n ≤ 64 → ∃ L, getL S = (L, 0)) ∧ (64 < n → getL S = ([], 4)) := by
  obtain ⟨h1, h2, h3⟩ := h
  constructor
  · intro h
    have := h1 h []
    rw [List.append_nil, Nat.sub_self, if_pos rfl, runM_nil] at this
    unfold getL finR
    rw [this]
    exact ⟨_, rfl⟩
  · intro h
    have := h2 h []
    rw [List.append_nil] at this
    unfold getL finR
    rw [this]
    rfl
/-- The name of the file at a place. -/
def nmI (i : Nat) : List UInt8 := [UInt8.ofNat (97 + i / 26 % 26), UInt8.ofNat (97 + i % 26)]
theorem nm_all : ∀ i ∈ List.range 263, mayNameL (nmI i) = true ∧ ltL (nmI i) (nmI (i + 1)) = true ∨ 261 < i := by decide +kernel
theorem nmI_may {i : Nat} (h : i ≤ 261) : mayNameL (nmI i) = true := ((nm_all i (List.mem_range.2 (by omega))).resolve_right (by omega)).1
theorem nmI_lt {i : Nat} (h : i ≤ 261) : ltL (nmI i) (nmI (i + 1)) = true := ((nm_all i (List.mem_range.2 (by omega))).resolve_right (by omega)).2
/-- Behind the files up to a place. -/
def fsQ (i : Nat) (S : List UInt8) : Prop := (i ≤ 256 → ∃ pa L, L.length = i ∧ ∀ x, runM t0 (S ++ x) = runM ⟨11, pa, L, [([], if i = 1 then [] else nmI (i - 1))]⟩ x) ∧ (256 < i → ∀ x, runM t0 (S ++ x) = none) ∧ S.length ≤ 300 + i * 600
theorem fs_1 : fsQ 1 (strL tMagic ++ opT) := by
  refine ⟨fun _ => ⟨[], [⟨[], 4, []⟩], rfl, fun x => ?_⟩, fun h => by omega, by decide⟩
  rw [if_pos rfl, List.append_assoc, List.append_assoc, List.append_assoc]
  rw [run_step (t := t0) (t' := ⟨1, [], [], []⟩) (m := 13) rfl (by decide) (by rfl)]
  rw [run_step (t' := ⟨2, [], [⟨[], 0, []⟩], [([], [])]⟩) (m := 1) rfl (by decide) (by rfl)]
  rw [run_step (t' := ⟨3, [], [⟨[], 0, []⟩], [([], [])]⟩) (m := 4) rfl (by decide) (by rfl)]
  rw [run_step (t' := ⟨11, [], [⟨[], 4, []⟩], [([], [])]⟩) (m := 9) rfl (by decide) (by rfl)]
abbrev fsT (S nm : List UInt8) : List UInt8 := ((((((S ++ strL tEntry) ++ strL tOpen) ++ strL tName) ++ strL nm) ++ strL tNode) ++ flT) ++ strL tClose
theorem fs_s {i : Nat} {S : List UInt8} (h0 : 0 < i) (hi : i ≤ 261) (h : fsQ i S) : fsQ (i + 1) (fsT S (nmI i)) := by
  obtain ⟨h1, h2, h3⟩ := h
  have e : ∀ x, fsT S (nmI i) ++ x = S ++ entT (nmI i) x := fun x => by simp only [entT, List.append_assoc]
  refine ⟨fun h => ?_, fun h x => ?_, ?_⟩
  · obtain ⟨pa, L, hL, hr⟩ := h1 (by omega)
    refine ⟨nmI i, L ++ [⟨nmI i, 1, []⟩], by simp [hL], fun x => ?_⟩
    rw [e, hr, ent_run _ _ _ _ _ (by omega) (nmI_may hi) ?_ (show (2 : Nat) ≤ 255 by decide), if_neg (by omega), Nat.add_sub_cancel]
    by_cases h1 : i = 1
    · rw [if_pos h1]; rfl
    · rw [if_neg h1]
      have := nmI_lt (i := i - 1) (by omega)
      rw [show i - 1 + 1 = i by omega] at this
      exact this
  · rw [e]
    by_cases h6 : i ≤ 256
    · obtain ⟨pa, L, hL, hr⟩ := h1 h6
      rw [hr, ent_bad pa (nmI i) _ L x (by omega) (show (nmI i).length ≤ 255 from (show (2 : Nat) ≤ 255 by decide))]
    · exact h2 (by omega) _
  · have l1 : flT.length ≤ 300 := by decide
    have l3 := len_le (s := tOpen) (n := 1) (by decide)
    have l4 := len_le (s := tEntry) (n := 5) (by decide)
    have l5 := len_le (s := tName) (n := 4) (by decide)
    have l6 := len_le (s := nmI i) (n := 2) (show (2 : Nat) ≤ 2 by decide)
    have l7 := len_le (s := tNode) (n := 4) (by decide)
    have l8 := len_le (s := tClose) (n := 1) (by decide)
    simp only [List.length_append] at l1 ⊢
    omega
theorem fs_end {n : Nat} {S : List UInt8} (h : fsQ n S) : (n ≤ 256 → ∃ L, getL (S ++ strL tClose) = (L, 0)) ∧ (256 < n → getL (S ++ strL tClose) = ([], 4)) := by
  obtain ⟨h1, h2, h3⟩ := h
  constructor
  · intro h
    obtain ⟨pa, L, hL, hr⟩ := h1 h
    have e := hr (strL tClose)
    have hc2 := cut_str (most := 5) (s := tClose) [] (by decide) (by decide)
    rw [List.append_nil] at hc2
    refine ⟨L, ?_⟩
    unfold getL finR
    rw [e]
    have := fin_ok (t := ⟨11, pa, L, [([], if n = 1 then [] else nmI (n - 1))]⟩) (t' := ⟨17, pa, L, []⟩) (m := 5) rfl hc2 (by rfl)
    unfold finR at this
    rw [this, runM_nil]
    rfl
  · intro h
    have := h2 h (strL tClose)
    unfold getL finR
    rw [this]
    rfl
end Go.Proofs.Ytglipljilcdboaa
namespace Go.Proofs.Ytglipljilcdboaa
open Go.RowKit Go.Shelf
set_option linter.unusedVariables false
set_option linter.unusedSimpArgs false
section
open E
abbrev LiQ (w : World) : Ending → World → Prop := fun e w' => e = .returned (.bool true) ∧ Below w.heap.size w w'
abbrev LiA (w : World) (todo : List Item) (tm : List (Nat × TV)) : Prop := At Try.prog w ⟨[], fun _ => ⟨0, 0, 0⟩, []⟩ Try.f9.ntmps [] todo (EndX Try.prog Try.f9 (LiQ w)) tm []
set_option maxRecDepth 100000 in
theorem lim_end (w : World) (S : List UInt8) (g : Bool) (hs : S.length ≤ 100000000000) (h1 : g = true → ∃ L, getL S = (L, 0)) (h2 : g = false → getL S = ([], 4)) : LiA w (rp Try.f9 30) [(8, .v (stv S)), (9, .v (.bool g))] := by
  cases g with
  | true =>
    obtain ⟨L, hL⟩ := h1 rfl
    exact At.fin rfl [(31001, hP0 31001 S L), (32001, hEr 0), (32019, hAw)] ⟨hP0_ok _ hs hL, hEr_ok _ _, hAw_ok _, trivial⟩ [] (x := .v (.bool true)) (ob := [qL (hP0 31001 S L), qL (hEr 0), qL hAw].flatten) (by kernel_rfl) (all_flat ⟨all_qL _, all_qL _, all_qL _, trivial⟩) fun ρ' w' hf _ => ⟨rfl, hf.below⟩
  | false =>
    exact At.fin rfl [(31001, hP1 S 4), (32001, hEr 4), (32009, hEr 4), (32019, hAw)] ⟨hP1_ok _ hs (h2 rfl) (by decide), hEr_ok _ _, hEr_ok _ _, hAw_ok _, trivial⟩ [] (x := .v (.bool true)) (ob := [qL (hP1 S 4), qL (hEr 4), qL (hEr 4), qL hAw].flatten) (by kernel_rfl) (all_flat ⟨all_qL _, all_qL _, all_qL _, all_qL _, trivial⟩) fun ρ' w' hf _ => ⟨rfl, hf.below⟩
theorem li_bool {k m : Nat} {S : List UInt8} (h : (k ≤ m → ∃ L, getL S = (L, 0)) ∧ (m < k → getL S = ([], 4))) : (decide ((k : Int) ≤ (m : Int)) = true → ∃ L, getL S = (L, 0)) ∧ (decide ((k : Int) ≤ (m : Int)) = false → getL S = ([], 4)) :=
  ⟨fun e => h.1 (by have := of_decide_eq_true e; omega), fun e => h.2 (by have := of_decide_eq_false e; omega)⟩
set_option maxRecDepth 100000 in
theorem lim_down (w : World) (k : Nat) (hk : k ≤ 100) : ∀ y : Nat × List UInt8, (y.1 ≤ k ∧ downQ k y.1 y.2) → LiA w (lp Try.f9 1) [(8, .v (stv y.2)), (10, .int .i64 (k : Int)), (12, .int .i64 (y.1 : Int))] := by
  have z1 : (strL tMagic).length = 24 := rfl
  have z2 : (strL tOpen).length = 16 := rfl
  have z3 : (strL tType).length = 16 := rfl
  have z4 : (strL tReg).length = 16 := rfl
  have z5 : (strL tCont).length = 16 := rfl
  have z6 : (strL tClose).length = 16 := rfl
  have z7 : (strL tEntry).length = 16 := rfl
  have z8 : (strL tName).length = 16 := rfl
  have z9 : (strL tNode).length = 16 := rfl
  have y1 : (strL tDir).length = 24 := rfl
  have y2 : (strL []).length = 8 := rfl
  have y3 : (strL [100]).length = 16 := rfl
  refine At.loop (fun y : Nat × List UInt8 => [(8, .v (stv y.2)), (10, .int .i64 (k : Int)), (12, .int .i64 (y.1 : Int))]) (fun _ => []) (fun y => y.1 ≤ k ∧ downQ k y.1 y.2) (fun y => k - y.1) ?_
  rintro ⟨j, S⟩ ⟨hj, hQ⟩ ih
  simp only at hj hQ ih ⊢
  have hl := hQ.2.2
  by_cases h : j < k
  · refine At.run rfl [(25001, hSt tClose), (25003, hSt tClose)] ⟨hSt_ok _ _ (by decide), hSt_ok _ _ (by decide), trivial⟩ [.y] (tm2 := [(8, .v (stv ((S ++ strL tClose) ++ strL tClose))), (10, .int .i64 (k : Int)), (12, .int .i64 ((j + 1 : Nat) : Int))]) (rows2 := []) (ob := [[decide ((j : Int) < (k : Int)) = true], qL (hSt tClose), [((S).length : Int) + ((strL tClose).length : Int) ≤ 9223372036854775807], qL (hSt tClose), [(((S ++ strL tClose)).length : Int) + ((strL tClose).length : Int) ≤ 9223372036854775807], [inI ((j : Int) + 1)]].flatten) (td := lp Try.f9 1) (by kernel_rfl) (all_flat ⟨⟨decide_eq_true (by omega), trivial⟩, all_qL _, ⟨by first | omega | (simp only [List.length_append]; omega), trivial⟩, all_qL _, ⟨by first | omega | (simp only [List.length_append]; omega), trivial⟩, ⟨⟨by omega, by omega⟩, trivial⟩, trivial⟩) rfl rfl (by intro h; cases h) ?_
    exact ih (j + 1, ((S ++ strL tClose) ++ strL tClose)) ⟨h, down_s h hQ⟩ (by show k - (j + 1) < k - j; omega)
  · obtain rfl : j = k := by omega
    refine At.run rfl [] trivial [.n] (tm2 := [(8, .v (stv S)), (9, .v (.bool (decide ((j : Int) ≤ 64))))]) (rows2 := []) (ob := [decide ((j : Int) < (j : Int)) = false]) (td := rp Try.f9 30) (by kernel_rfl) ⟨decide_eq_false (by omega), trivial⟩ rfl rfl (by intro h; cases h) ?_
    have hb := li_bool (m := 64) (down_end hQ)
    exact lim_end w S _ (by omega) hb.1 hb.2
set_option maxRecDepth 100000 in
theorem lim_up (w : World) (k : Nat) (hk : k ≤ 100) (hk0 : 0 < k) : ∀ y : Nat × List UInt8, (y.1 ≤ k ∧ upQ y.1 y.2) → LiA w (lp Try.f9 0) [(6, .v (stv flT)), (7, .v (stv opT)), (8, .v (stv y.2)), (10, .int .i64 (k : Int)), (11, .int .i64 (y.1 : Int))] := by
  have z1 : (strL tMagic).length = 24 := rfl
  have z2 : (strL tOpen).length = 16 := rfl
  have z3 : (strL tType).length = 16 := rfl
  have z4 : (strL tReg).length = 16 := rfl
  have z5 : (strL tCont).length = 16 := rfl
  have z6 : (strL tClose).length = 16 := rfl
  have z7 : (strL tEntry).length = 16 := rfl
  have z8 : (strL tName).length = 16 := rfl
  have z9 : (strL tNode).length = 16 := rfl
  have y1 : (strL tDir).length = 24 := rfl
  have y2 : (strL []).length = 8 := rfl
  have y3 : (strL [100]).length = 16 := rfl
  refine At.loop (fun y : Nat × List UInt8 => [(6, .v (stv flT)), (7, .v (stv opT)), (8, .v (stv y.2)), (10, .int .i64 (k : Int)), (11, .int .i64 (y.1 : Int))]) (fun _ => []) (fun y => y.1 ≤ k ∧ upQ y.1 y.2) (fun y => k - y.1) ?_
  rintro ⟨j, S⟩ ⟨hj, hQ⟩ ih
  simp only at hj hQ ih ⊢
  have hl := hQ.2.2
  by_cases h : j < k
  · refine At.run rfl [(20003, hSt tEntry), (20005, hSt tOpen), (20007, hSt tName), (20009, hSt [100]), (20011, hSt tNode)] ⟨hSt_ok _ _ (by decide), hSt_ok _ _ (by decide), hSt_ok _ _ (by decide), hSt_ok _ _ (by decide), hSt_ok _ _ (by decide), trivial⟩ [.y] (tm2 := [(6, .v (stv flT)), (7, .v (stv opT)), (8, .v (stv (upT S))), (10, .int .i64 (k : Int)), (11, .int .i64 ((j + 1 : Nat) : Int))]) (rows2 := []) (ob := [[decide ((j : Int) < (k : Int)) = true], [((S).length : Int) + ((opT).length : Int) ≤ 9223372036854775807], qL (hSt tEntry), [(((S ++ opT)).length : Int) + ((strL tEntry).length : Int) ≤ 9223372036854775807], qL (hSt tOpen), [((((S ++ opT) ++ strL tEntry)).length : Int) + ((strL tOpen).length : Int) ≤ 9223372036854775807], qL (hSt tName), [(((((S ++ opT) ++ strL tEntry) ++ strL tOpen)).length : Int) + ((strL tName).length : Int) ≤ 9223372036854775807], qL (hSt [100]), [((((((S ++ opT) ++ strL tEntry) ++ strL tOpen) ++ strL tName)).length : Int) + ((strL [100]).length : Int) ≤ 9223372036854775807], qL (hSt tNode), [(((((((S ++ opT) ++ strL tEntry) ++ strL tOpen) ++ strL tName) ++ strL [100])).length : Int) + ((strL tNode).length : Int) ≤ 9223372036854775807], [inI ((j : Int) + 1)]].flatten) (td := lp Try.f9 0) (by kernel_rfl) (all_flat ⟨⟨decide_eq_true (by omega), trivial⟩, ⟨by first | omega | (simp only [List.length_append]; omega), trivial⟩, all_qL _, ⟨by first | omega | (simp only [List.length_append]; omega), trivial⟩, all_qL _, ⟨by first | omega | (simp only [List.length_append]; omega), trivial⟩, all_qL _, ⟨by first | omega | (simp only [List.length_append]; omega), trivial⟩, all_qL _, ⟨by first | omega | (simp only [List.length_append]; omega), trivial⟩, all_qL _, ⟨by first | omega | (simp only [List.length_append]; omega), trivial⟩, ⟨⟨by omega, by omega⟩, trivial⟩, trivial⟩) rfl rfl (by intro h; cases h) ?_
    exact ih (j + 1, upT S) ⟨h, up_s (by omega) hQ⟩ (by show k - (j + 1) < k - j; omega)
  · obtain rfl : j = k := by omega
    refine At.run rfl [] trivial [.n] (tm2 := [(8, .v (stv (S ++ flT))), (10, .int .i64 (j : Int)), (12, .int .i64 ((0 : Nat) : Int))]) (rows2 := []) (ob := [decide ((j : Int) < (j : Int)) = false, ((S).length : Int) + ((flT).length : Int) ≤ 9223372036854775807]) (td := lp Try.f9 1) (by kernel_rfl) ⟨decide_eq_false (by omega), by first | omega | (simp only [List.length_append]; omega), trivial⟩ rfl rfl (by intro h; cases h) ?_
    exact lim_down w j hk (0, S ++ flT) ⟨Nat.zero_le _, down_0 hk0 hQ⟩
theorem nm_row (i : Nat) : TV.v (.string ⟨((List.range 2).map fun q => ubyte (chunkF [.int .u8 (IntKind.u8.wrap (97 + (i : Int) / 26 % 26)), .int .u8 (IntKind.u8.wrap (97 + (i : Int) % 26))] 1 2 (addN 0 q))).toArray⟩) = TV.v (stv (nmI i)) ∧ ∀ q, q < 2 → ∃ d : UInt8, chunkF [.int .u8 (IntKind.u8.wrap (97 + (i : Int) / 26 % 26)), .int .u8 (IntKind.u8.wrap (97 + (i : Int) % 26))] 1 2 (addN 0 q) = [.int .u8 (d.toNat : Int)] := by
  have e1 : IntKind.u8.wrap (97 + (i : Int) / 26 % 26) = ((UInt8.ofNat (97 + i / 26 % 26)).toNat : Int) := by
    rw [IntKind.wrap_u8]; simp <;> omega
  have e2 : IntKind.u8.wrap (97 + (i : Int) % 26) = ((UInt8.ofNat (97 + i % 26)).toNat : Int) := by
    rw [IntKind.wrap_u8]; simp <;> omega
  rw [e1, e2]
  have u : ∀ b : UInt8, ubyte [Value.int .u8 (b.toNat : Int)] = b := fun b => by show UInt8.ofNat ((b.toNat : Int)).toNat = b; simp
  refine ⟨tv_str ?_, fun q hq => ?_⟩
  · show [ubyte [Value.int .u8 ((UInt8.ofNat (97 + i / 26 % 26)).toNat : Int)], ubyte [Value.int .u8 ((UInt8.ofNat (97 + i % 26)).toNat : Int)]] = nmI i
    rw [u, u]; rfl
  · match q, hq with
    | 0, _ => exact ⟨_, rfl⟩
    | 1, _ => exact ⟨_, rfl⟩
set_option maxRecDepth 100000 in
theorem lim_files (w : World) (k : Nat) (hk : k ≤ 262) : ∀ y : Nat × List UInt8, (0 < y.1 ∧ y.1 ≤ k ∧ fsQ y.1 y.2) → LiA w (lp Try.f9 2) [(6, .v (stv flT)), (8, .v (stv y.2)), (14, .int .i64 (k : Int)), (15, .int .i64 (y.1 : Int))] := by
  have z1 : (strL tMagic).length = 24 := rfl
  have z2 : (strL tOpen).length = 16 := rfl
  have z3 : (strL tType).length = 16 := rfl
  have z4 : (strL tReg).length = 16 := rfl
  have z5 : (strL tCont).length = 16 := rfl
  have z6 : (strL tClose).length = 16 := rfl
  have z7 : (strL tEntry).length = 16 := rfl
  have z8 : (strL tName).length = 16 := rfl
  have z9 : (strL tNode).length = 16 := rfl
  have y1 : (strL tDir).length = 24 := rfl
  have y2 : (strL []).length = 8 := rfl
  have y3 : (strL [100]).length = 16 := rfl
  refine At.loop (fun y : Nat × List UInt8 => [(6, .v (stv flT)), (8, .v (stv y.2)), (14, .int .i64 (k : Int)), (15, .int .i64 (y.1 : Int))]) (fun _ => []) (fun y => 0 < y.1 ∧ y.1 ≤ k ∧ fsQ y.1 y.2) (fun y => k - y.1) ?_
  rintro ⟨i, S⟩ ⟨h0, hj, hQ⟩ ih
  simp only at h0 hj hQ ih ⊢
  have hl := hQ.2.2
  by_cases h : i < k
  · obtain ⟨nm, hn⟩ : ∃ nm, nm = nmI i := ⟨_, rfl⟩
    have hnm := nm_row i
    rw [← hn] at hnm
    have ln : nm.length = 2 := by rw [hn]; rfl
    have hlen := len_le (s := nm) (n := 2) (by omega)
    refine At.run rfl [(12001, hSt tEntry), (12003, hSt tOpen), (12005, hSt tName), (2012017, .val (.v (stv nm))), (12018, hSt nm), (12020, hSt tNode), (12024, hSt tClose)] ⟨hSt_ok _ _ (by decide), hSt_ok _ _ (by decide), hSt_ok _ _ (by decide), trivial, hSt_ok _ _ (by omega), hSt_ok _ _ (by decide), hSt_ok _ _ (by decide), trivial⟩ [.y] (tm2 := [(6, .v (stv flT)), (8, .v (stv (fsT S nm))), (14, .int .i64 (k : Int)), (15, .int .i64 ((i + 1 : Nat) : Int))]) (rows2 := []) (ob := [[decide ((i : Int) < (k : Int)) = true], qL (hSt tEntry), [((S).length : Int) + ((strL tEntry).length : Int) ≤ 9223372036854775807], qL (hSt tOpen), [(((S ++ strL tEntry)).length : Int) + ((strL tOpen).length : Int) ≤ 9223372036854775807], qL (hSt tName), [((((S ++ strL tEntry) ++ strL tOpen)).length : Int) + ((strL tName).length : Int) ≤ 9223372036854775807], [0 ≤ (i : Int) ∧ (0 : Int) < 26, IntKind.i64.wrap ((i : Int) / 26) = (i : Int) / 26, 0 ≤ (i : Int) / 26 ∧ (0 : Int) < 26, inI (97 + (i : Int) / 26 % 26), 0 ≤ (i : Int) ∧ (0 : Int) < 26, inI (97 + (i : Int) % 26), TV.v (.string ⟨((List.range 2).map fun q => ubyte (chunkF [.int .u8 (IntKind.u8.wrap (97 + (i : Int) / 26 % 26)), .int .u8 (IntKind.u8.wrap (97 + (i : Int) % 26))] 1 2 (addN 0 q))).toArray⟩) = TV.v (stv nm), (2 : Nat) ≤ 2, ∀ q, q < 2 → ∃ d : UInt8, chunkF [.int .u8 (IntKind.u8.wrap (97 + (i : Int) / 26 % 26)), .int .u8 (IntKind.u8.wrap (97 + (i : Int) % 26))] 1 2 (addN 0 q) = [.int .u8 (d.toNat : Int)]], qL (hSt nm), [(((((S ++ strL tEntry) ++ strL tOpen) ++ strL tName)).length : Int) + ((strL nm).length : Int) ≤ 9223372036854775807], qL (hSt tNode), [((((((S ++ strL tEntry) ++ strL tOpen) ++ strL tName) ++ strL nm)).length : Int) + ((strL tNode).length : Int) ≤ 9223372036854775807], [(((((((S ++ strL tEntry) ++ strL tOpen) ++ strL tName) ++ strL nm) ++ strL tNode)).length : Int) + ((flT).length : Int) ≤ 9223372036854775807], qL (hSt tClose), [((((((((S ++ strL tEntry) ++ strL tOpen) ++ strL tName) ++ strL nm) ++ strL tNode) ++ flT)).length : Int) + ((strL tClose).length : Int) ≤ 9223372036854775807], [inI ((i : Int) + 1)]].flatten) (td := lp Try.f9 2) (by kernel_rfl) (all_flat ⟨⟨decide_eq_true (by omega), trivial⟩, all_qL _, ⟨by first | omega | (simp only [List.length_append]; omega), trivial⟩, all_qL _, ⟨by first | omega | (simp only [List.length_append]; omega), trivial⟩, all_qL _, ⟨by first | omega | (simp only [List.length_append]; omega), trivial⟩, ⟨⟨by omega, by omega⟩, by rw [IntKind.wrap_i64]; omega, ⟨by omega, by omega⟩, ⟨by omega, by omega⟩, ⟨by omega, by omega⟩, ⟨by omega, by omega⟩, hnm.1, Nat.le_refl _, hnm.2, trivial⟩, all_qL _, ⟨by first | omega | (simp only [List.length_append]; omega), trivial⟩, all_qL _, ⟨by first | omega | (simp only [List.length_append]; omega), trivial⟩, ⟨by first | omega | (simp only [List.length_append]; omega), trivial⟩, all_qL _, ⟨by first | omega | (simp only [List.length_append]; omega), trivial⟩, ⟨⟨by omega, by omega⟩, trivial⟩, trivial⟩) rfl rfl (by intro h; cases h) ?_
    exact ih (i + 1, fsT S nm) ⟨Nat.succ_pos _, h, by show fsQ (i + 1) (fsT S nm); rw [hn]; exact fs_s h0 (by omega) hQ⟩ (by show k - (i + 1) < k - i; omega)
  · obtain rfl : i = k := by omega
    refine At.run rfl [(13001, hSt tClose)] ⟨hSt_ok _ _ (by decide), trivial⟩ [.n] (tm2 := [(8, .v (stv (S ++ strL tClose))), (9, .v (.bool (decide ((i : Int) ≤ 256))))]) (rows2 := []) (ob := [[decide ((i : Int) < (i : Int)) = false], qL (hSt tClose), [((S).length : Int) + ((strL tClose).length : Int) ≤ 9223372036854775807]].flatten) (td := rp Try.f9 30) (by kernel_rfl) (all_flat ⟨⟨decide_eq_false (by omega), trivial⟩, all_qL _, ⟨by first | omega | (simp only [List.length_append]; omega), trivial⟩, trivial⟩) rfl rfl (by intro h; cases h) ?_
    have hb := li_bool (m := 256) (fs_end hQ)
    exact lim_end w _ _ (by rw [List.length_append]; omega) hb.1 hb.2
set_option maxRecDepth 100000 in
theorem lim_data (w : World) (k : Nat) (hk : k ≤ 70000) : LiA w (rp Try.f9 28) [(8, .v (stv (strL tMagic))), (13, .int .i64 (k : Int))] := by
  have z1 : (strL tMagic).length = 24 := rfl
  have z2 : (strL tOpen).length = 16 := rfl
  have z3 : (strL tType).length = 16 := rfl
  have z4 : (strL tReg).length = 16 := rfl
  have z5 : (strL tCont).length = 16 := rfl
  have z6 : (strL tClose).length = 16 := rfl
  have z7 : (strL tEntry).length = 16 := rfl
  have z8 : (strL tName).length = 16 := rfl
  have z9 : (strL tNode).length = 16 := rfl
  have y1 : (strL tDir).length = 24 := rfl
  have y2 : (strL []).length = 8 := rfl
  have y3 : (strL [100]).length = 16 := rfl
  obtain ⟨z, hz⟩ : ∃ z, z = List.replicate k (0 : UInt8) := ⟨_, rfl⟩
  have hzl : z.length = k := by rw [hz, List.length_replicate]
  have hz2 : TV.v (.string ⟨((List.range (k : Int).toNat).map fun q => ubyte (Value.int .u8 0).cells.toList).toArray⟩) = TV.v (stv z) := by
    refine tv_str ?_
    rw [hz, Int.toNat_natCast]
    apply List.ext_getElem
    · simp
    · intro i h1 h2
      simp only [List.getElem_map, List.getElem_replicate]
      rfl
  have hlen := len_le (s := z) (n := 70000) (by omega)
  refine At.run rfl [(29001, hSt tOpen), (29003, hSt tType), (29005, hSt tReg), (29007, hSt tCont), (2029011, .val (.v (stv z))), (29012, hSt z), (29014, hSt tClose)] ⟨hSt_ok _ _ (by decide), hSt_ok _ _ (by decide), hSt_ok _ _ (by decide), hSt_ok _ _ (by decide), trivial, hSt_ok _ _ (by omega), hSt_ok _ _ (by decide), trivial⟩ [] (tm2 := [(8, .v (stv ((((((strL tMagic ++ strL tOpen) ++ strL tType) ++ strL tReg) ++ strL tCont) ++ strL z) ++ strL tClose))), (9, .v (.bool (decide ((k : Int) ≤ 65536))))]) (rows2 := []) (ob := [qL (hSt tOpen), [((strL tMagic).length : Int) + ((strL tOpen).length : Int) ≤ 9223372036854775807], qL (hSt tType), [(((strL tMagic ++ strL tOpen)).length : Int) + ((strL tType).length : Int) ≤ 9223372036854775807], qL (hSt tReg), [((((strL tMagic ++ strL tOpen) ++ strL tType)).length : Int) + ((strL tReg).length : Int) ≤ 9223372036854775807], qL (hSt tCont), [(((((strL tMagic ++ strL tOpen) ++ strL tType) ++ strL tReg)).length : Int) + ((strL tCont).length : Int) ≤ 9223372036854775807], [0 ≤ (k : Int) ∧ (k : Int) ≤ (k : Int), ((1 : Nat) : Int) * (k : Int) ≤ 140737488355328 ∧ (k : Int) ≤ 9223372036854775807, TV.v (.string ⟨((List.range (k : Int).toNat).map fun q => ubyte (Value.int .u8 0).cells.toList).toArray⟩) = TV.v (stv z), 0 + (k : Int).toNat ≤ (k : Int).toNat, ∀ q, q < (k : Int).toNat → ∃ d : UInt8, (Value.int .u8 0).cells.toList = [.int .u8 (d.toNat : Int)]], qL (hSt z), [((((((strL tMagic ++ strL tOpen) ++ strL tType) ++ strL tReg) ++ strL tCont)).length : Int) + ((strL z).length : Int) ≤ 9223372036854775807], qL (hSt tClose), [(((((((strL tMagic ++ strL tOpen) ++ strL tType) ++ strL tReg) ++ strL tCont) ++ strL z)).length : Int) + ((strL tClose).length : Int) ≤ 9223372036854775807]].flatten) (td := rp Try.f9 30) (by kernel_rfl) (all_flat ⟨all_qL _, ⟨by first | omega | (simp only [List.length_append]; omega), trivial⟩, all_qL _, ⟨by first | omega | (simp only [List.length_append]; omega), trivial⟩, all_qL _, ⟨by first | omega | (simp only [List.length_append]; omega), trivial⟩, all_qL _, ⟨by first | omega | (simp only [List.length_append]; omega), trivial⟩, ⟨⟨by omega, by omega⟩, ⟨by omega, by omega⟩, hz2, by omega, fun q hq => ⟨0, rfl⟩, trivial⟩, all_qL _, ⟨by first | omega | (simp only [List.length_append]; omega), trivial⟩, all_qL _, ⟨by first | omega | (simp only [List.length_append]; omega), trivial⟩, trivial⟩) rfl rfl (by intro h; cases h) ?_
  have e : ((((((strL tMagic ++ strL tOpen) ++ strL tType) ++ strL tReg) ++ strL tCont) ++ strL z) ++ strL tClose) = hdT ++ (strL z ++ strL tClose) := by simp only [List.append_assoc]
  have hq : (k ≤ 65536 → ∃ L, getL ((((((strL tMagic ++ strL tOpen) ++ strL tType) ++ strL tReg) ++ strL tCont) ++ strL z) ++ strL tClose) = (L, 0)) ∧ (65536 < k → getL ((((((strL tMagic ++ strL tOpen) ++ strL tType) ++ strL tReg) ++ strL tCont) ++ strL z) ++ strL tClose) = ([], 4)) := by
    rw [e]
    exact ⟨fun h => ⟨_, data_get z (by omega)⟩, fun h => data_bad z (by omega) (by omega)⟩
  have hb := li_bool (m := 65536) hq
  exact lim_end w _ _ (by first | omega | (simp only [List.length_append]; omega)) hb.1 hb.2
set_option maxRecDepth 100000 in
theorem limits_any (n wh : Nat) (hn : n < 256) (hw : wh < 256) (w : World) : Calls Try.prog 9 #[.int .u8 (n : Int), .int .u8 (wh : Int)] w (LiQ w) := by
  refine At.calls (args := [.int .u8 (n : Int), .int .u8 (wh : Int)]) (rows := []) (gl := []) (wr := []) (ρ := fun _ => (⟨0, 0, 0⟩ : Blk)) Try.func9 rfl rfl (init_rw ⟨rfl, rfl, trivial⟩ rfl rfl rfl (fun p hp => by cases hp) (fun p hp => by cases hp) (fun p hp => by cases hp)) rfl ?_
  have z1 : (strL tMagic).length = 24 := rfl
  have z2 : (strL tOpen).length = 16 := rfl
  have z3 : (strL tType).length = 16 := rfl
  have z4 : (strL tReg).length = 16 := rfl
  have z5 : (strL tCont).length = 16 := rfl
  have z6 : (strL tClose).length = 16 := rfl
  have z7 : (strL tEntry).length = 16 := rfl
  have z8 : (strL tName).length = 16 := rfl
  have z9 : (strL tNode).length = 16 := rfl
  have y1 : (strL tDir).length = 24 := rfl
  have y2 : (strL []).length = 8 := rfl
  have y3 : (strL [100]).length = 16 := rfl
  obtain ⟨r, hr⟩ : ∃ r, r = wh % 3 := ⟨_, rfl⟩
  have cv : IntKind.i64.wrap (n : Int) = (n : Int) := by rw [IntKind.wrap_i64]; omega
  have h3 : r = 0 ∨ r = 1 ∨ r = 2 := by omega
  rcases h3 with rfl | rfl | rfl
  · obtain ⟨k, hk⟩ : ∃ k, k = 60 + n % 8 := ⟨_, rfl⟩
    refine At.run rfl [(2000, hSt tMagic), (3000, hSt tOpen), (3001, hSt tType), (3003, hSt tReg), (3005, hSt tCont), (3007, hSt []), (3009, hSt tClose), (4000, hSt tOpen), (4001, hSt tType), (4003, hSt tDir), (2006001, .val (.int .u8 0)), (2016003, .val (.int .i64 (k : Int)))] ⟨hSt_ok _ _ (by decide), hSt_ok _ _ (by decide), hSt_ok _ _ (by decide), hSt_ok _ _ (by decide), hSt_ok _ _ (by decide), hSt_ok _ _ (by decide), hSt_ok _ _ (by decide), hSt_ok _ _ (by decide), hSt_ok _ _ (by decide), hSt_ok _ _ (by decide), trivial, trivial, trivial⟩ [.d] (tm2 := [(6, .v (stv flT)), (7, .v (stv opT)), (8, .v (stv (strL tMagic))), (10, .int .i64 (k : Int)), (11, .int .i64 ((0 : Nat) : Int))]) (rows2 := []) (ob := [qL (hSt tMagic), qL (hSt tOpen), qL (hSt tType), [((strL tOpen).length : Int) + ((strL tType).length : Int) ≤ 9223372036854775807], qL (hSt tReg), [(((strL tOpen ++ strL tType)).length : Int) + ((strL tReg).length : Int) ≤ 9223372036854775807], qL (hSt tCont), [((((strL tOpen ++ strL tType) ++ strL tReg)).length : Int) + ((strL tCont).length : Int) ≤ 9223372036854775807], qL (hSt []), [(((((strL tOpen ++ strL tType) ++ strL tReg) ++ strL tCont)).length : Int) + ((strL []).length : Int) ≤ 9223372036854775807], qL (hSt tClose), [((((((strL tOpen ++ strL tType) ++ strL tReg) ++ strL tCont) ++ strL [])).length : Int) + ((strL tClose).length : Int) ≤ 9223372036854775807], qL (hSt tOpen), qL (hSt tType), [((strL tOpen).length : Int) + ((strL tType).length : Int) ≤ 9223372036854775807], qL (hSt tDir), [(((strL tOpen ++ strL tType)).length : Int) + ((strL tDir).length : Int) ≤ 9223372036854775807], [TV.int .u8 ((wh : Int) % 3) = TV.int .u8 0, 0 ≤ (wh : Int) ∧ (0 : Int) < 3], [IntKind.i64.wrap (n : Int) = (n : Int), 0 ≤ (n : Int) ∧ (0 : Int) < 8, TV.int .i64 (60 + (n : Int) % 8) = TV.int .i64 (k : Int), inI (60 + (n : Int) % 8)]].flatten) (td := lp Try.f9 0) (by kernel_rfl) (all_flat ⟨all_qL _, all_qL _, all_qL _, ⟨by first | omega | (simp only [List.length_append]; omega), trivial⟩, all_qL _, ⟨by first | omega | (simp only [List.length_append]; omega), trivial⟩, all_qL _, ⟨by first | omega | (simp only [List.length_append]; omega), trivial⟩, all_qL _, ⟨by first | omega | (simp only [List.length_append]; omega), trivial⟩, all_qL _, ⟨by first | omega | (simp only [List.length_append]; omega), trivial⟩, all_qL _, all_qL _, ⟨by first | omega | (simp only [List.length_append]; omega), trivial⟩, all_qL _, ⟨by first | omega | (simp only [List.length_append]; omega), trivial⟩, ⟨tv_int (by omega), ⟨by omega, by omega⟩, trivial⟩, ⟨cv, ⟨by omega, by omega⟩, tv_int (by omega), ⟨by omega, by omega⟩, trivial⟩, trivial⟩) rfl rfl (by intro h; cases h) ?_
    exact lim_up w k (by omega) (by omega) (0, strL tMagic) ⟨Nat.zero_le _, up_0⟩
  · obtain ⟨k, hk⟩ : ∃ k, k = 65533 + n % 7 := ⟨_, rfl⟩
    refine At.run rfl [(2000, hSt tMagic), (3000, hSt tOpen), (3001, hSt tType), (3003, hSt tReg), (3005, hSt tCont), (3007, hSt []), (3009, hSt tClose), (4000, hSt tOpen), (4001, hSt tType), (4003, hSt tDir), (2006001, .val (.int .u8 1)), (2028003, .val (.int .i64 (k : Int))), (2029000, .val (.tup []))] ⟨hSt_ok _ _ (by decide), hSt_ok _ _ (by decide), hSt_ok _ _ (by decide), hSt_ok _ _ (by decide), hSt_ok _ _ (by decide), hSt_ok _ _ (by decide), hSt_ok _ _ (by decide), hSt_ok _ _ (by decide), hSt_ok _ _ (by decide), hSt_ok _ _ (by decide), trivial, trivial, trivial, trivial⟩ [.d, .d] (tm2 := [(8, .v (stv (strL tMagic))), (13, .int .i64 (k : Int))]) (rows2 := []) (ob := [qL (hSt tMagic), qL (hSt tOpen), qL (hSt tType), [((strL tOpen).length : Int) + ((strL tType).length : Int) ≤ 9223372036854775807], qL (hSt tReg), [(((strL tOpen ++ strL tType)).length : Int) + ((strL tReg).length : Int) ≤ 9223372036854775807], qL (hSt tCont), [((((strL tOpen ++ strL tType) ++ strL tReg)).length : Int) + ((strL tCont).length : Int) ≤ 9223372036854775807], qL (hSt []), [(((((strL tOpen ++ strL tType) ++ strL tReg) ++ strL tCont)).length : Int) + ((strL []).length : Int) ≤ 9223372036854775807], qL (hSt tClose), [((((((strL tOpen ++ strL tType) ++ strL tReg) ++ strL tCont) ++ strL [])).length : Int) + ((strL tClose).length : Int) ≤ 9223372036854775807], qL (hSt tOpen), qL (hSt tType), [((strL tOpen).length : Int) + ((strL tType).length : Int) ≤ 9223372036854775807], qL (hSt tDir), [(((strL tOpen ++ strL tType)).length : Int) + ((strL tDir).length : Int) ≤ 9223372036854775807], [TV.int .u8 ((wh : Int) % 3) = TV.int .u8 1, 0 ≤ (wh : Int) ∧ (0 : Int) < 3], [IntKind.i64.wrap (n : Int) = (n : Int), 0 ≤ (n : Int) ∧ (0 : Int) < 7, TV.int .i64 (65533 + (n : Int) % 7) = TV.int .i64 (k : Int), inI (65533 + (n : Int) % 7)]].flatten) (td := rp Try.f9 28) (by kernel_rfl) (all_flat ⟨all_qL _, all_qL _, all_qL _, ⟨by first | omega | (simp only [List.length_append]; omega), trivial⟩, all_qL _, ⟨by first | omega | (simp only [List.length_append]; omega), trivial⟩, all_qL _, ⟨by first | omega | (simp only [List.length_append]; omega), trivial⟩, all_qL _, ⟨by first | omega | (simp only [List.length_append]; omega), trivial⟩, all_qL _, ⟨by first | omega | (simp only [List.length_append]; omega), trivial⟩, all_qL _, all_qL _, ⟨by first | omega | (simp only [List.length_append]; omega), trivial⟩, all_qL _, ⟨by first | omega | (simp only [List.length_append]; omega), trivial⟩, ⟨tv_int (by omega), ⟨by omega, by omega⟩, trivial⟩, ⟨cv, ⟨by omega, by omega⟩, tv_int (by omega), ⟨by omega, by omega⟩, trivial⟩, trivial⟩) rfl rfl (by intro h; cases h) ?_
    exact lim_data w k (by omega)
  · obtain ⟨k, hk⟩ : ∃ k, k = 250 + n % 12 := ⟨_, rfl⟩
    refine At.run rfl [(2000, hSt tMagic), (3000, hSt tOpen), (3001, hSt tType), (3003, hSt tReg), (3005, hSt tCont), (3007, hSt []), (3009, hSt tClose), (4000, hSt tOpen), (4001, hSt tType), (4003, hSt tDir), (2006001, .val (.int .u8 2)), (2007003, .val (.int .i64 (k : Int)))] ⟨hSt_ok _ _ (by decide), hSt_ok _ _ (by decide), hSt_ok _ _ (by decide), hSt_ok _ _ (by decide), hSt_ok _ _ (by decide), hSt_ok _ _ (by decide), hSt_ok _ _ (by decide), hSt_ok _ _ (by decide), hSt_ok _ _ (by decide), hSt_ok _ _ (by decide), trivial, trivial, trivial⟩ [.d, .d] (tm2 := [(6, .v (stv flT)), (8, .v (stv (strL tMagic ++ opT))), (14, .int .i64 (k : Int)), (15, .int .i64 ((1 : Nat) : Int))]) (rows2 := []) (ob := [qL (hSt tMagic), qL (hSt tOpen), qL (hSt tType), [((strL tOpen).length : Int) + ((strL tType).length : Int) ≤ 9223372036854775807], qL (hSt tReg), [(((strL tOpen ++ strL tType)).length : Int) + ((strL tReg).length : Int) ≤ 9223372036854775807], qL (hSt tCont), [((((strL tOpen ++ strL tType) ++ strL tReg)).length : Int) + ((strL tCont).length : Int) ≤ 9223372036854775807], qL (hSt []), [(((((strL tOpen ++ strL tType) ++ strL tReg) ++ strL tCont)).length : Int) + ((strL []).length : Int) ≤ 9223372036854775807], qL (hSt tClose), [((((((strL tOpen ++ strL tType) ++ strL tReg) ++ strL tCont) ++ strL [])).length : Int) + ((strL tClose).length : Int) ≤ 9223372036854775807], qL (hSt tOpen), qL (hSt tType), [((strL tOpen).length : Int) + ((strL tType).length : Int) ≤ 9223372036854775807], qL (hSt tDir), [(((strL tOpen ++ strL tType)).length : Int) + ((strL tDir).length : Int) ≤ 9223372036854775807], [TV.int .u8 ((wh : Int) % 3) = TV.int .u8 2, 0 ≤ (wh : Int) ∧ (0 : Int) < 3], [IntKind.i64.wrap (n : Int) = (n : Int), 0 ≤ (n : Int) ∧ (0 : Int) < 12, TV.int .i64 (250 + (n : Int) % 12) = TV.int .i64 (k : Int), inI (250 + (n : Int) % 12), ((strL tMagic).length : Int) + ((opT).length : Int) ≤ 9223372036854775807]].flatten) (td := lp Try.f9 2) (by kernel_rfl) (all_flat ⟨all_qL _, all_qL _, all_qL _, ⟨by first | omega | (simp only [List.length_append]; omega), trivial⟩, all_qL _, ⟨by first | omega | (simp only [List.length_append]; omega), trivial⟩, all_qL _, ⟨by first | omega | (simp only [List.length_append]; omega), trivial⟩, all_qL _, ⟨by first | omega | (simp only [List.length_append]; omega), trivial⟩, all_qL _, ⟨by first | omega | (simp only [List.length_append]; omega), trivial⟩, all_qL _, all_qL _, ⟨by first | omega | (simp only [List.length_append]; omega), trivial⟩, all_qL _, ⟨by first | omega | (simp only [List.length_append]; omega), trivial⟩, ⟨tv_int (by omega), ⟨by omega, by omega⟩, trivial⟩, ⟨cv, ⟨by omega, by omega⟩, tv_int (by omega), ⟨by omega, by omega⟩, by first | omega | (simp only [List.length_append]; omega), trivial⟩, trivial⟩) rfl rfl (by intro h; cases h) ?_
    exact lim_files w k (by omega) (1, strL tMagic ++ opT) ⟨by decide, by show 1 ≤ k; omega, fs_1⟩
theorem limits_int (a b : Int) (ha : 0 ≤ a ∧ a < 256) (hb : 0 ≤ b ∧ b < 256) (w : World) : Calls Try.prog 9 #[.int .u8 a, .int .u8 b] w (LiQ w) := by
  obtain ⟨n, rfl⟩ := Int.eq_ofNat_of_zero_le ha.1
  obtain ⟨wh, rfl⟩ := Int.eq_ofNat_of_zero_le hb.1
  exact limits_any n wh (by omega) (by omega) w
end
end Go.Proofs.Ytglipljilcdboaa
