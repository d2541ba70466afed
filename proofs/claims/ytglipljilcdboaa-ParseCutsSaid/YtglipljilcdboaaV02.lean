/- Several texts, one behind the other; each says by itself what it proves, and on what conditions. -/
import Derived.Test.YtglipljilcdboaaV01
import Derived.RangeFuncBox
import Derived.BigQuiet
import Derived.Laws.Cover1
import Derived.Deep.QuietTactic
/- A number as a word, a text with what fills it, texts one behind the other, as the document makes them. Its condition: a length that fits. -/
namespace Go.Proofs.Ytglipljilcdboaa
open Go.RowKit Go.Shelf
set_option linter.unusedVariables false
set_option linter.unusedSimpArgs false
/-- A row of bytes as cells. -/
def bRow (l : List UInt8) : Array Value := (l.map fun b => Value.int .u8 (b.toNat : Int)).toArray
theorem bRow_get (l : List UInt8) (j : Nat) (hj : j < l.length) : (bRow l)[j]? = some (.int .u8 (l[j].toNat : Int)) := by simp [bRow, hj]
def Row8 (W : World) (g : Nat) (l : List UInt8) : Prop := W.heap[g]? = some (.cells (bRow l) 5 (0, 0))
theorem Row8.cell {W : World} {g : Nat} {l : List UInt8} (h : Row8 W g l) (j : Nat) (hj : j < l.length) : W.cell? ⟨g, j, none⟩ = some (.int .u8 (l[j].toNat : Int)) := by
  rw [cell_of_row W g j _ 5 _ h]
  exact bRow_get l j hj
theorem Row8.free {W : World} {g : Nat} {l : List UInt8} (h : Row8 W g l) (j : Nat) : W.frozen? ⟨g, j, none⟩ = false := by
  have h2 : W.heap[g]? = some (.cells (bRow l) 5 (0, 0)) := h
  unfold World.frozen?
  simp [h2]
theorem Row8.lt {W : World} {g : Nat} {l : List UInt8} (h : Row8 W g l) : g < W.heap.size := (Array.getElem?_eq_some_iff.1 h).1
theorem Row8.str {W : World} {g cap n : Nat} {l : List UInt8} (h : Row8 W g l) (hn : l.length = n) : (Go.convert 33 9 (.slice (some ⟨g, 0, none⟩) n cap)).run Try.prog W = .ok (.string ⟨l.toArray⟩) W := by
  rw [← hn]
  refine run_convert_bytes_back (P := Try.prog) W 33 9 5 ⟨g, 0, none⟩ cap l Try.underlying33 Try.underlying5 Try.underlying9 (fun j hj => ?_)
  rw [show (⟨g, 0, none⟩ : Addr).add j = ⟨g, j, none⟩ by unfold Addr.add; split <;> simp_all, h.cell j hj]
theorem Row8.set {W : World} {g : Nat} {l : List UInt8} (h : Row8 W g l) (j : Nat) (c : UInt8) : Row8 (W.setCell ⟨g, j, none⟩ (.int .u8 (c.toNat : Int))) g (l.set j c) := by
  unfold Row8
  rw [setCell_eq_setRow W g j _ 5 (0, 0) _ h, setRow_heap W g _ _ 5 (0, 0) h]
  simp [bRow, List.map_set]
theorem make8 (W : World) : (Instr.makeSlice 33 (.int .i64 8) (.int .i64 8)).run Try.prog W = .ok (.slice (some ⟨W.heap.size, 0, none⟩) 8 8) (W.alloc (.cells (bRow (List.replicate 8 0)) 5)) := by kernel_rfl
theorem shr_cast (x S : Nat) : (x : Int) / 2 ^ S = ((x / 2 ^ S : Nat) : Int) := by
  rw [Int.natCast_ediv, Int.natCast_pow]
  rfl
theorem wrap8 (n : Nat) : IntKind.u8.wrap (n : Int) = ((n % 256 : Nat) : Int) := by
  have h : IntKind.u8.wrap (n : Int) = (n : Int) % 256 := by simp [IntKind.wrap, IntKind.bits, IntKind.signed]
  rw [h]; omega
/-- A word's bytes so far. -/
def leAt (x k : Nat) : List UInt8 := (List.range k).map (fun j => UInt8.ofNat (x / 2 ^ (8 * j))) ++ List.replicate (8 - k) 0
theorem leAt_len (x k : Nat) (hk : k ≤ 8) : (leAt x k).length = 8 := by simp [leAt]; omega
theorem leAt_step (x k : Nat) (hk : k < 8) : (leAt x k).set k (UInt8.ofNat (x / 2 ^ (8 * k))) = leAt x (k + 1) := by
  unfold leAt
  rw [List.set_append_right _ _ (by simp), List.length_map, List.length_range, Nat.sub_self, show 8 - k = (8 - (k + 1)) + 1 by omega, List.replicate_succ, List.set_cons_zero, List.range_succ, List.map_append, List.append_assoc]
  rfl
theorem leAt_all (x : Nat) : leAt x 8 = wordL x := by
  simp [leAt, wordL, List.range_succ]
set_option maxRecDepth 100000 in
set_option maxHeartbeats 1000000 in
theorem little_any (x : Nat) (w : World) : Calls Try.prog 55 #[.int .u64 (x : Int), .int .i64 8] w fun e w' => e = .returned (strV (wordL x)) ∧ Below w.heap.size w w' := by
  have hr0 : Hid (Row8 (w.alloc (.cells (bRow (List.replicate 8 0)) 5)) w.heap.size (leAt x 0)) := Lib.hid (World.alloc_heap_new w _)
  have hb0 : Hid (Below w.heap.size w (w.alloc (.cells (bRow (List.replicate 8 0)) 5))) := Lib.hid ((Below.refl _ w).alloc (Nat.le_refl _) _)
  obtain ⟨z, hz⟩ : ∃ z, Hid (z = bRow (List.replicate 8 0)) := ⟨_, Lib.hid rfl⟩
  have hmk : ∀ W : World, (Instr.makeSlice 33 (.int .i64 8) (.int .i64 8)).run Try.prog W = .ok (.slice (some ⟨W.heap.size, 0, none⟩) 8 8) (W.alloc (.cells z 5)) := by rw [hz.out]; exact make8
  rw [← hz.out] at hr0 hb0
  go_enter Try.func55, Try.ntmps55
  go_wp2
  clear hmk hz
  generalize w.alloc (.cells z 5) = w0 at *
  obtain ⟨g, hg⟩ : ∃ g, Hid (g = w.heap.size) := ⟨_, Lib.hid rfl⟩
  rw [← hg.out] at hr0 ⊢
  go_loopw [6] (fun i wr => ∃ k : Nat, k ≤ 8 ∧ i = .int .i64 k ∧ Row8 wr g (leAt x k) ∧ Below w.heap.size w wr) (fun i _ => 8 - (intOf i).toNat)
  case atStart => exact ⟨0, by omega, rfl, hr0.out, hb0.out⟩
  case round =>
    clear hr0 hb0
    obtain ⟨k, hk, rfl, hrow, hb⟩ := hrel
    have HR := Lib.hid hrow
    have HB := Lib.hid hb
    clear hrow hb
    by_cases hlt : k < 8
    · obtain ⟨S, hS⟩ : ∃ S, Hid (S = 8 * k) := ⟨_, Lib.hid rfl⟩
      have hS1 : (8 : Int) * (k : Int) = (S : Int) := by rw [hS.out]; omega
      have hS64 : S < 64 := by rw [hS.out]; omega
      obtain ⟨c, hc⟩ : ∃ c, Hid (c = UInt8.ofNat (x / 2 ^ S)) := ⟨_, Lib.hid rfl⟩
      have hwr : IntKind.u8.wrap ((x : Int) / 2 ^ S) = (c.toNat : Int) := by rw [shr_cast, wrap8, hc.out]; simp
      have hl := leAt_len x k hk
      obtain ⟨v, hcell⟩ : ∃ v, wr.cell? ⟨g, k, none⟩ = some v := ⟨_, HR.out.cell k (by omega)⟩
      have hfree := HR.out.free k
      have HN : Hid (Row8 (wr.setCell ⟨g, k, none⟩ (.int .u8 (c.toNat : Int))) g (leAt x (k + 1))) := Lib.hid (by
        have h := HR.out.set k c
        rw [hc.out, hS.out, leAt_step x k hlt] at h
        rw [hc.out, hS.out]
        exact h)
      have HN2 : Hid (Below w.heap.size w (wr.setCell ⟨g, k, none⟩ (.int .u8 (c.toNat : Int)))) := Lib.hid (HB.out.setCell (p := ⟨g, k, none⟩) (by rw [hg.out]; exact Nat.le_refl _) _)
      clear hl
      have hltI : (k : Int) < 8 := by omega
      go_wp2
      go_roundw
      case rel => exact ⟨k + 1, by omega, by first | rfl | simp | go_num, HN.out, HN2.out⟩
      case measure => simp [intOf] <;> omega
    · obtain rfl : k = 8 := by omega
      have hcv := HR.out.str (cap := 8) (leAt_len x 8 (by omega))
      rw [leAt_all] at hcv
      rw [show ((8 : Nat) : Int) = (8 : Int) from rfl]
      obtain ⟨tl, htl⟩ : ∃ tl : ByteArray, Hid (tl = ⟨(wordL x).toArray⟩) := ⟨_, Lib.hid rfl⟩
      rw [← htl.out] at hcv
      clear HR
      go_wp2
      go_ret
      exact ⟨by rw [htl.out]; rfl, HB.out⟩
set_option maxRecDepth 100000 in
set_option maxHeartbeats 1000000 in
theorem littleE_any (x : Nat) (w : World) : Calls Try.prog 36 #[.int .u64 (x : Int), .int .i64 8] w fun e w' => e = .returned (strV (wordL x)) ∧ Below w.heap.size w w' := by
  have H := Lib.hid (fun w => little_any x w)
  obtain ⟨v, hv⟩ : ∃ v, Hid (v = strV (wordL x)) := ⟨_, Lib.hid rfl⟩
  rw [← hv.out] at H ⊢
  go_enter Try.func36, Try.ntmps36
  go_wp2_with fail
  with_reducible refine (H.out _).mono ?_
  rintro e w2 ⟨rfl, hb⟩
  go_wp2_with fail
  go_ret
  exact ⟨rfl, hb⟩
set_option maxRecDepth 100000 in
set_option maxHeartbeats 1000000 in
theorem word_any (n : Int) (h1 : -9223372036854775808 ≤ n) (h2 : n ≤ 9223372036854775807) (w : World) : Calls Try.prog 23 #[.int .i64 n] w fun e w' => e = .returned (strV (wordL n.toNat)) ∧ Below w.heap.size w w' := by
  have H := Lib.hid (fun w => littleE_any n.toNat w)
  obtain ⟨v, hv⟩ : ∃ v, Hid (v = strV (wordL n.toNat)) := ⟨_, Lib.hid rfl⟩
  rw [← hv.out] at H ⊢
  go_enter Try.func23, Try.ntmps23
  by_cases h0 : 0 ≤ n
  · have e1 : ((n.toNat : Nat) : Int) = n := Int.toNat_of_nonneg h0
    rw [e1] at H
    have e2 : IntKind.u64.wrap n = n := by rw [IntKind.wrap_u64]; omega
    have e3 : max n 0 = n := by omega
    go_wp2_with fail
    with_reducible refine (H.out _).mono ?_
    rintro e w2 ⟨rfl, hb⟩
    go_wp2_with fail
    go_ret
    exact ⟨rfl, hb⟩
  · have e1 : ((n.toNat : Nat) : Int) = 0 := by omega
    rw [e1] at H
    have e3 : max n 0 = 0 := by omega
    go_wp2_with fail
    with_reducible refine (H.out _).mono ?_
    rintro e w2 ⟨rfl, hb⟩
    go_wp2_with fail
    go_ret
    exact ⟨rfl, hb⟩
/-- A text's bytes with so many noughts behind. -/
def padS (s : List UInt8) (j : Nat) : ByteArray := ⟨(wordL s.length ++ (s ++ List.replicate j 0)).toArray⟩
theorem padS_size (s : List UInt8) (j : Nat) : (padS s j).size = 8 + (s.length + j) := by
  show (wordL s.length ++ (s ++ List.replicate j 0)).length = _
  rw [List.length_append, wordL_len, List.length_append, List.length_replicate]
theorem padS_zero (s : ByteArray) : (⟨(wordL s.data.toList.length).toArray⟩ : ByteArray) ++ s = padS s.data.toList 0 := by
  apply ByteArray.ext
  apply Array.toList_inj.1
  simp [padS]
theorem padS_succ (s : List UInt8) (j : Nat) : padS s j ++ ({ data := #[0] } : ByteArray) = padS s (j + 1) := by
  apply ByteArray.ext
  apply Array.toList_inj.1
  simp [padS, List.replicate_succ', List.append_assoc]
set_option maxRecDepth 100000 in
set_option maxHeartbeats 1000000 in
theorem str_any (s : ByteArray) (hs : s.size ≤ 1000000) (w : World) : Calls Try.prog 22 #[.string s] w fun e w' => e = .returned (strV (strL s.data.toList)) ∧ Below w.heap.size w w' := by
  have hsl : s.data.toList.length = s.size := rfl
  obtain ⟨wd, hwd⟩ : ∃ x : ByteArray, Hid (x = ⟨(wordL s.data.toList.length).toArray⟩) := ⟨_, Lib.hid rfl⟩
  have H : Hid (∀ w, Calls Try.prog 23 #[.int .i64 (s.size : Int)] w fun e w' => e = .returned (.string wd) ∧ Below w.heap.size w w') := Lib.hid (fun w => by
    have h := word_any (s.size : Int) (by omega) (by omega) w
    rw [show ((s.size : Int)).toNat = s.size from rfl] at h
    rw [hwd.out]
    exact h)
  have wds : wd.size = 8 := by rw [hwd.out]; rfl
  obtain ⟨P0, hP0⟩ : ∃ x, Hid (x = padS s.data.toList 0) := ⟨_, Lib.hid rfl⟩
  have hP0e : wd ++ s = P0 := by rw [hwd.out, hP0.out]; exact padS_zero s
  have hP0s : (wd ++ s).size = 8 + s.size := by rw [ByteArray.size_append, wds]
  clear hwd
  obtain ⟨v, hv⟩ : ∃ v, Hid (v = strV (strL s.data.toList)) := ⟨_, Lib.hid rfl⟩
  rw [← hv.out]
  go_enter Try.func22, Try.ntmps22
  go_wp2_with fail
  with_reducible refine (H.out _).mono ?_
  rintro e w2 ⟨rfl, hb⟩
  have HB := Lib.hid hb
  clear hb H
  go_wp2_with fail
  try rw [hP0e]
  go_loopw [3] (fun x wr => ∃ j : Nat, j ≤ fillN s.size ∧ x = .string (padS s.data.toList j) ∧ Below w.heap.size w wr) (fun x _ => fillN s.size + 8 + s.size - (match x with | .string y => y.size | _ => 0))
  case atStart => exact ⟨0, Nat.zero_le _, by rw [← hP0.out], HB.out⟩
  case round =>
    clear HB hP0e hP0s hP0
    obtain ⟨j, hj, rfl, hb⟩ := hrel
    have HB := Lib.hid hb
    clear hb
    have hps := padS_size s.data.toList j
    have hps2 := padS_size s.data.toList (j + 1)
    have hnx := padS_succ s.data.toList j
    rw [hsl] at hps hps2
    obtain ⟨X, hX⟩ : ∃ X, X = padS s.data.toList j := ⟨_, rfl⟩
    obtain ⟨Y, hY⟩ : ∃ X, Hid (X = padS s.data.toList (j + 1)) := ⟨_, Lib.hid rfl⟩
    have hf8 : fillN s.size < 8 := Nat.mod_lt _ (by decide)
    rw [← hX] at hps hnx ⊢
    rw [← hY.out] at hps2 hnx
    have hXH := Lib.hid hX
    clear hX
    have hXY : (X ++ ({ data := #[0] } : ByteArray)).size = X.size + 1 := by rw [ByteArray.size_append]; rfl
    by_cases h : j = fillN s.size
    · have hm : (X.size : Int) % 8 = 0 := by unfold fillN at h; omega
      have hmt : (X.size : Int).tmod 8 = 0 := by rw [Int.tmod_eq_emod_of_nonneg (by omega)]; exact hm
      have hz : Hid (v = .string X) := Lib.hid (by rw [hv.out, hXH.out, h]; unfold strV padS strL; rw [hsl])
      go_wp2_with fail
      go_ret
      exact ⟨by rw [hz.out]; rfl, HB.out⟩
    · have hm : ¬ (X.size : Int) % 8 = 0 := by unfold fillN at h hj; omega
      have hmt : ¬ (X.size : Int).tmod 8 = 0 := by rw [Int.tmod_eq_emod_of_nonneg (by omega)]; exact hm
      go_wp2_with fail
      refine ⟨⟨j + 1, by omega, by rw [hY.out], HB.out⟩, ?_⟩
      show fillN s.size + 8 + s.size - Y.size < fillN s.size + 8 + s.size - X.size
      omega
/-- Texts as a row of memory. -/
def sRow (l : List (List UInt8)) : Array Value := (l.map strV).toArray
theorem sRow_get (l : List (List UInt8)) (j : Nat) (hj : j < l.length) : (sRow l)[j]? = some (strV l[j]) := by simp [sRow, hj]
theorem sRow_cell {W : World} {g : Nat} {l : List (List UInt8)} (h : W.heap[g]? = some (.cells (sRow l) 9 (0, 0))) (j : Nat) (hj : j < l.length) : W.cell? ⟨g, j, none⟩ = some (strV l[j]) := (cell_of_row W g j (sRow l) 9 (0, 0) h).trans (sRow_get l j hj)
theorem strsL_take (l : List (List UInt8)) (k : Nat) (h : k < l.length) : strsL (l.take (k + 1)) = strsL (l.take k) ++ strL l[k] := by
  unfold strsL
  rw [List.take_add_one, List.getElem?_eq_getElem h, List.flatMap_append]
  congr 1
  show strL l[k] ++ [] = strL l[k]
  rw [List.append_nil]
theorem strsL_le (l : List (List UInt8)) (k : Nat) : (strsL (l.take k)).length ≤ (strsL l).length := by
  conv => rhs; rw [← List.take_append_drop k l]
  unfold strsL
  rw [List.flatMap_append, List.length_append]
  omega
theorem strV_cat (a b : List UInt8) : (⟨a.toArray⟩ : ByteArray) ++ (⟨b.toArray⟩ : ByteArray) = ⟨(a ++ b).toArray⟩ := by
  apply ByteArray.ext
  apply Array.toList_inj.1
  simp
set_option maxRecDepth 100000 in
set_option maxHeartbeats 1000000 in
theorem strs_any (bk : Nat) (l : List (List UInt8)) (n : Nat) (hn : l.length = n) (hN : n ≤ 1000) (hl : ∀ t ∈ l, t.length ≤ 1000000) (hT : (strsL l).length ≤ 100000000) (w : World) (hrow : w.heap[bk]? = some (.cells (sRow l) 9 (0, 0))) : Calls Try.prog 31 #[.slice (some ⟨bk, 0, none⟩) n n] w fun e w' => e = .returned (strV (strsL l)) ∧ Below w.heap.size w w' := by
  have hbk : bk < w.heap.size := (Array.getElem?_eq_some_iff.1 hrow).1
  have HR := Lib.hid hrow
  clear hrow
  obtain ⟨v, hv⟩ : ∃ v, Hid (v = strV (strsL l)) := ⟨_, Lib.hid rfl⟩
  rw [← hv.out]
  go_enter Try.func31, Try.ntmps31
  go_wp2_with fail
  go_loopw [3, 4] (fun x i wr => ∃ k : Nat, k ≤ n ∧ x = strV (strsL (l.take k)) ∧ i = .int .i64 k ∧ Below w.heap.size w wr) (fun x i _ => n - (intOf i).toNat)
  case atStart => exact ⟨0, Nat.zero_le _, rfl, rfl, Below.refl _ w⟩
  case round =>
    obtain ⟨k, hk, rfl, rfl, hb⟩ := hrel
    have HB := Lib.hid hb
    clear hb
    by_cases hlt : k < n
    · have hltI : (k : Int) < (n : Int) := by omega
      have hkl : k < l.length := by omega
      have hcell : wr.cell? ⟨bk, k, none⟩ = some (strV l[k]) := sRow_cell ((HB.out.block bk hbk).trans HR.out) k hkl
      obtain ⟨t, ht⟩ : ∃ t : ByteArray, Hid (t = ⟨l[k].toArray⟩) := ⟨_, Lib.hid rfl⟩
      have htV : strV l[k] = .string t := by rw [ht.out]; rfl
      rw [htV] at hcell
      have hts : t.size ≤ 1000000 := by rw [ht.out]; exact hl _ (List.getElem_mem hkl)
      obtain ⟨u, hu⟩ : ∃ u : ByteArray, Hid (u = ⟨(strL l[k]).toArray⟩) := ⟨_, Lib.hid rfl⟩
      have H : Hid (∀ w, Calls Try.prog 22 #[.string t] w fun e w' => e = .returned (.string u) ∧ Below w.heap.size w w') := Lib.hid (fun w => by
        have h := str_any t hts w
        rw [show t.data.toList = l[k] by rw [ht.out]] at h
        rw [hu.out]
        exact h)
      obtain ⟨X, hX⟩ : ∃ X : ByteArray, Hid (X = ⟨(strsL (l.take k)).toArray⟩) := ⟨_, Lib.hid rfl⟩
      have hXV : strV (strsL (l.take k)) = .string X := by rw [hX.out]; rfl
      rw [hXV]
      obtain ⟨Y, hY⟩ : ∃ X : ByteArray, Hid (X = ⟨(strsL (l.take (k + 1))).toArray⟩) := ⟨_, Lib.hid rfl⟩
      have hXu : X ++ u = Y := by rw [hX.out, hu.out, hY.out, strV_cat, strsL_take l k hkl]
      have hYs : Y.size ≤ 100000000 := by rw [hY.out]; exact Nat.le_trans (strsL_le l (k + 1)) hT
      have hXus : (X ++ u).size = X.size + u.size := ByteArray.size_append
      have hsum : X.size + u.size ≤ 100000000 := by rw [← hXus, hXu]; exact hYs
      clear ht htV hts hu hX hXV
      go_wp2_with fail
      with_reducible refine (H.out _).mono ?_
      rintro e w2 ⟨rfl, hb⟩
      have HB2 := Lib.hid (HB.out.trans (hb.mono HB.out.size))
      clear hb
      go_wp2_with fail
      refine ⟨⟨k + 1, by omega, by rw [hY.out]; rfl, by first | rfl | simp | go_num, HB2.out⟩, ?_⟩
      simp [intOf] <;> omega
    · obtain rfl : k = n := by omega
      have hltI : ¬ (k : Int) < (k : Int) := by omega
      have hz : Hid (v = strV (strsL (l.take k))) := Lib.hid (by rw [hv.out, List.take_of_length_le (by omega)])
      go_wp2_with fail
      go_ret
      exact ⟨by rw [hz.out]; rfl, HB.out⟩
end Go.Proofs.Ytglipljilcdboaa
/- Nodes in memory; which data a node may have, as the document tells it. Its condition: lengths that fit. -/
namespace Go.Proofs.Ytglipljilcdboaa
open Go.RowKit Go.Shelf
set_option linter.unusedVariables false
set_option linter.unusedSimpArgs false
def ndV (d : Nd) : Array Value := #[strV d.path, .int .i64 d.kind, strV d.data]
set_option maxRecDepth 100000 in
set_option maxHeartbeats 1000000 in
theorem mayData_any (d : Nd) (hp : d.path.length ≤ 1000000) (hd : d.data.length ≤ 1000000) (w : World) : Calls Try.prog 38 #[.agg (ndV d)] w fun e w' => e = .returned (.bool (mayDataL d)) ∧ Below w.heap.size w w' := by
  obtain ⟨b, hb⟩ : ∃ b, Hid (b = mayDataL d) := ⟨_, Lib.hid rfl⟩
  rw [← hb.out]
  obtain ⟨k, hk⟩ : ∃ k, Hid (k = d.kind) := ⟨_, Lib.hid rfl⟩
  obtain ⟨P, hP⟩ : ∃ x : ByteArray, Hid (x = ⟨d.path.toArray⟩) := ⟨_, Lib.hid rfl⟩
  obtain ⟨D, hD⟩ : ∃ x : ByteArray, Hid (x = ⟨d.data.toArray⟩) := ⟨_, Lib.hid rfl⟩
  have hV : ndV d = #[.string P, .int .i64 k, .string D] := by rw [hP.out, hD.out, hk.out]; rfl
  have hDL : Hid (D.data.toList = d.data) := Lib.hid (by rw [hD.out])
  have hDs : D.size = d.data.length := by rw [hD.out]; rfl
  rw [hV]
  have HH : Hid (∀ w, Calls Try.prog 56 #[.string D, .int .u8 0] w fun e w' => e = .returned (.bool (decide (0 ∈ D.data.toList))) ∧ w' = w) := Lib.hid (fun w => has_any D 0 (by omega) w)
  clear hP hD hV
  go_enter Try.func38, Try.ntmps38
  have BW : ∀ o, Below w.heap.size w (w.alloc o) := fun o => (Below.refl _ w).alloc (Nat.le_refl _) _
  by_cases k1 : k = 1
  · have hz : Hid (b = decide ((d.data.length : Int) ≤ 65536)) := Lib.hid (by
      rw [hb.out]; unfold mayDataL; rw [← hk.out, if_pos (Or.inl k1)]; exact decide_eq_decide.2 (by omega))
    go_wp2_with fail
    go_ret
    exact ⟨by rw [hz.out]; rfl, BW _⟩
  by_cases k2 : k = 2
  · have hz : Hid (b = decide ((d.data.length : Int) ≤ 65536)) := Lib.hid (by
      rw [hb.out]; unfold mayDataL; rw [← hk.out, if_pos (Or.inr k2)]; exact decide_eq_decide.2 (by omega))
    go_wp2_with fail
    go_ret
    exact ⟨by rw [hz.out]; rfl, BW _⟩
  have hn12 : ¬ (k = 1 ∨ k = 2) := fun h => h.elim k1 k2
  by_cases k3 : k = 3
  · have hz : Hid (b = (decide (1 ≤ d.data.length) && decide (d.data.length ≤ 4096) && !d.data.contains 0)) := Lib.hid (by
      rw [hb.out]; unfold mayDataL; rw [← hk.out, if_neg hn12, if_pos k3])
    by_cases h1 : (d.data.length : Int) ≥ 1
    · by_cases h2 : (d.data.length : Int) ≤ 4096
      · rw [decide_eq_true (show 1 ≤ d.data.length by omega), decide_eq_true (show d.data.length ≤ 4096 by omega)] at hz
        go_wp2_with fail
        with_reducible refine (HH.out _).mono ?_
        rintro e w2 ⟨rfl, rfl⟩
        by_cases h0 : 0 ∈ D.data.toList
        · rw [decide_eq_true h0]
          have hz2 : Hid (b = false) := Lib.hid (by rw [hz.out, ← hDL.out]; simp [h0])
          clear h0
          go_wp2_with fail
          go_ret
          exact ⟨by rw [hz2.out]; rfl, BW _⟩
        · rw [decide_eq_false h0]
          have hz2 : Hid (b = true) := Lib.hid (by rw [hz.out, ← hDL.out]; simp [h0])
          clear h0
          go_wp2_with fail
          go_ret
          exact ⟨by rw [hz2.out]; rfl, BW _⟩
      · rw [decide_eq_false (show ¬ d.data.length ≤ 4096 by omega), Bool.and_false, Bool.false_and] at hz
        go_wp2_with fail
        go_ret
        exact ⟨by rw [hz.out]; rfl, BW _⟩
    · rw [decide_eq_false (show ¬ 1 ≤ d.data.length by omega), Bool.false_and, Bool.false_and] at hz
      go_wp2_with fail
      go_ret
      exact ⟨by rw [hz.out]; rfl, BW _⟩
  by_cases k4 : k = 4
  · have hz : Hid (b = decide (d.data = [])) := Lib.hid (by
      rw [hb.out]; unfold mayDataL; rw [← hk.out, if_neg hn12, if_neg k3, if_pos k4])
    have hz2 : Hid (b = D.toList.isEmpty) := Lib.hid (by
      rw [hz.out, ByteArray.toList_eq, hDL.out]
      cases d.data <;> simp)
    go_wp2_with fail
    go_ret
    exact ⟨by rw [hz2.out]; rfl, BW _⟩
  · have hz : Hid (b = false) := Lib.hid (by
      rw [hb.out]; unfold mayDataL; rw [← hk.out, if_neg hn12, if_neg k3, if_neg k4])
    go_wp2_with fail
    go_ret
    exact ⟨by rw [hz.out]; rfl, BW _⟩
/-- Nodes as cells of memory, from a place on. -/
def Nodes (W : World) (b o : Nat) (l : List Nd) : Prop := b < W.heap.size ∧ ∀ i (h : i < l.length), W.cell? ⟨b, o + i * 3, none⟩ = some (strV l[i].path) ∧ W.cell? ⟨b, o + i * 3 + 1, none⟩ = some (.int .i64 l[i].kind) ∧ W.cell? ⟨b, o + i * 3 + 2, none⟩ = some (strV l[i].data)
theorem Nodes.below {W W2 : World} {b o : Nat} {l : List Nd} (h : Nodes W b o l) (hb : Below W.heap.size W W2) : Nodes W2 b o l :=
  ⟨Nat.lt_of_lt_of_le h.1 hb.size, fun i hi => ⟨(hb.cell h.1).trans (h.2 i hi).1, (hb.cell h.1).trans (h.2 i hi).2.1, (hb.cell h.1).trans (h.2 i hi).2.2⟩⟩
def slV (b o n cap : Nat) : Value := .slice (some ⟨b, o, none⟩) n cap
end Go.Proofs.Ytglipljilcdboaa
/- under of the document: the place behind a node and all below it. Its condition: lengths that fit. -/
namespace Go.Proofs.Ytglipljilcdboaa
open Go.RowKit Go.Shelf
set_option linter.unusedVariables false
set_option linter.unusedSimpArgs false
theorem lt_total : ∀ a b : List UInt8, (Op.bytesLess a b || a == b) = !ltL b a
  | [], [] => rfl
  | [], _ :: _ => rfl
  | _ :: _, [] => rfl
  | a :: l, b :: m => by
    have ih := lt_total l m
    rw [Op.bytesLess, ltL]
    by_cases h : a < b
    · have h1 : ¬ b < a := by simp only [UInt8.lt_iff_toNat_lt] at *; omega
      have h2 : ¬ b = a := by rintro rfl; exact h1 h
      simp [h, h1, h2]
    · by_cases e : a = b
      · subst e
        have h0 : ¬ a < a := h
        simp [h0]
        simpa using ih
      · have h1 : b < a := by
          simp only [UInt8.lt_iff_toNat_lt] at *
          have : a.toNat ≠ b.toNat := fun x => e (UInt8.toNat_inj.1 x)
          omega
        simp [h, e, h1]
theorem Below.drewN {b : Nat} {w w2 : World} (h : Below b w w2) : ∀ n, Below b w (w2.drewN n)
  | 0 => h
  | n + 1 => by
    have := (Below.drewN h n).drew
    exact this
/-- Where the rest begins. -/
def placeU (l : List Nd) (r : List Nd) : Nat := l.length - r.length
theorem drop_of_suf {l r : List Nd} (h : r <:+ l) : l.drop (placeU l r) = r := by
  obtain ⟨t, rfl⟩ := h
  unfold placeU
  rw [List.length_append, Nat.add_sub_cancel, List.drop_left]
def underP (l : List Nd) (k : Nat) (h : k < l.length) : Nat := placeU l (restU (fuelN (l.drop (k + 1))) l[k] (l.drop (k + 1)))
set_option maxRecDepth 100000 in
set_option maxHeartbeats 1000000 in
theorem under_step (b o cap : Nat) (l : List Nd) (hl : l.length ≤ 100000) (hp : ∀ c ∈ l, c.path.length ≤ 1000000) (at_ : Nat) (hat : at_ < l.length)
    (IH : ∀ k, at_ < k → (hk : k < l.length) → ∀ w, Nodes w b o l → Calls Try.prog 44 #[slV b o l.length cap, .int .i64 (k : Int)] w fun e w' => e = .returned (.int .i64 (underP l k hk : Int)) ∧ Below w.heap.size w w') (w : World) (hN : Nodes w b o l) :
    Calls Try.prog 44 #[slV b o l.length cap, .int .i64 (at_ : Int)] w fun e w' => e = .returned (.int .i64 (underP l at_ hat : Int)) ∧ Below w.heap.size w w' := by
  have HN := Lib.hid hN
  clear hN
  obtain ⟨n, hn⟩ : ∃ n, n = l.length := ⟨_, rfl⟩
  obtain ⟨U, hU⟩ : ∃ U, Hid (U = underP l at_ hat) := ⟨_, Lib.hid rfl⟩
  rw [← hU.out]
  rw [← hn] at hl ⊢
  have hatn : at_ < n := by omega
  unfold slV
  go_enter Try.func44, Try.ntmps44
  go_wp2_with fail
  obtain ⟨d, hd⟩ : ∃ d, Hid (d = l[at_]) := ⟨_, Lib.hid rfl⟩
  obtain ⟨RE, hRE⟩ : ∃ r, Hid (r = restU (fuelN (l.drop (at_ + 1))) l[at_] (l.drop (at_ + 1))) := ⟨_, Lib.hid rfl⟩
  have hUR : Hid (U = n - RE.length) := Lib.hid (by rw [hU.out, hRE.out, hn]; rfl)
  have hstart : Hid (d.kind = 4 → loopU (2 * (n - (at_ + 1)) + 1) d.path [] (l.drop (at_ + 1)) = RE) := Lib.hid (by
    intro h4
    rw [hRE.out, fuelN, restU_succ, ← hd.out, if_pos h4, List.length_drop, ← hn])
  have hother : Hid (d.kind ≠ 4 → U = at_ + 1) := Lib.hid (by
    intro h4
    rw [hUR.out, hRE.out, fuelN, restU_succ, ← hd.out, if_neg h4, List.length_drop]; omega)
  go_loopw [5, 6] (fun x y wr => ∃ (k : Nat) (ls : List UInt8), at_ + 1 ≤ k ∧ k ≤ n ∧ x = .int .i64 k ∧ y = strV ls ∧ ls.length ≤ 1000000 ∧ ((d.kind = 4 ∧ loopU (2 * (n - k) + 1) d.path ls (l.drop k) = RE) ∨ (d.kind ≠ 4 ∧ k = at_ + 1)) ∧ Below w.heap.size w wr) (fun x y _ => n - (intOf x).toNat)
  case atStart =>
    refine ⟨at_ + 1, [], Nat.le_refl _, by omega, by first | rfl | simp | go_num, rfl, by simp, ?_, Below.refl _ w⟩
    by_cases h4 : d.kind = 4
    · exact .inl ⟨h4, hstart.out h4⟩
    · exact .inr ⟨h4, rfl⟩
  case round =>
    obtain ⟨k, ls, hk1, hk, rfl, rfl, hls, hinv, hb⟩ := hrel
    have HB := Lib.hid hb
    have HI := Lib.hid hinv
    clear hb hinv
    have HNr := Lib.hid (HN.out.below (W2 := wr) HB.out)
    have c1 := (HNr.out.2 at_ (by omega)).2.1
    rw [← hd.out] at c1
    by_cases hlt : k < n
    · have hltI : (k : Int) < (n : Int) := by omega
      have hatI : (at_ : Int) < (n : Int) := by omega
      by_cases h4 : d.kind = 4
      · have hkl : k < l.length := by omega
        have p1 := (HNr.out.2 k hkl).1
        have p2 := (HNr.out.2 at_ (by omega)).1
        rw [← hd.out] at p2
        obtain ⟨c, hc⟩ : ∃ c, Hid (c = l[k]) := ⟨_, Lib.hid rfl⟩
        rw [← hc.out] at p1
        obtain ⟨A, hA⟩ : ∃ x : ByteArray, Hid (x = ⟨c.path.toArray⟩) := ⟨_, Lib.hid rfl⟩
        obtain ⟨B, hB⟩ : ∃ x : ByteArray, Hid (x = ⟨d.path.toArray⟩) := ⟨_, Lib.hid rfl⟩
        obtain ⟨M, hM⟩ : ∃ x : ByteArray, Hid (x = ⟨(nameL c.path d.path).toArray⟩) := ⟨_, Lib.hid rfl⟩
        have HC : Hid (∀ w, Calls Try.prog 45 #[.string A, .string B] w fun e w' => e = .returned (.string M) ∧ w' = w) := Lib.hid (fun w => by
          have h := name_any A B (by rw [hA.out]; exact hp _ (by rw [hc.out]; exact List.getElem_mem _)) (by rw [hB.out]; exact hp _ (by rw [hd.out]; exact List.getElem_mem _)) w
          rw [show A.data.toList = c.path by rw [hA.out], show B.data.toList = d.path by rw [hB.out]] at h
          rw [hM.out]
          exact h)
        rw [show strV c.path = .string A by rw [hA.out]; rfl] at p1
        rw [show strV d.path = .string B by rw [hB.out]; rfl] at p2
        obtain ⟨L, hL⟩ : ∃ x : ByteArray, Hid (x = ⟨ls.toArray⟩) := ⟨_, Lib.hid rfl⟩
        rw [show strV ls = .string L by rw [hL.out]; rfl]
        go_wp2_with fail
        go_quiet (with_reducible exact Calls.quiet_of_same (HC.out _))
        have HBq : Hid (Below w.heap.size w (wr.drewN nq)) := Lib.hid (Below.drewN HB.out nq)
        generalize wr.drewN nq = wq at *
        have hloop : Hid (loopU (2 * (n - (k + 1)) + 3) d.path ls (c :: l.drop (k + 1)) = RE) := Lib.hid (by
          rcases HI.out with ⟨_, h⟩ | ⟨h, _⟩
          · rw [List.drop_eq_getElem_cons hkl, show 2 * (n - k) + 1 = 2 * (n - (k + 1)) + 3 by omega, ← hc.out] at h
            exact h
          · exact absurd h4 h)
        have hML : M.toList = nameL c.path d.path := by rw [ByteArray.toList_eq, hM.out]
        have hLL : L.toList = ls := by rw [ByteArray.toList_eq, hL.out]
        by_cases hne : nameL c.path d.path = []
        · have hz : Hid (U = k) := Lib.hid (by
            have h := hloop.out
            rw [loopU_cons, if_pos (Or.inl hne)] at h
            rw [hUR.out, ← h, List.length_cons, List.length_drop]
            omega)
          rw [hne] at hML
          clear hne
          go_wp2_with fail
          go_ret
          exact ⟨by rw [hz.out]; rfl, HBq.out⟩
        · by_cases hlt2 : ltL ls (nameL c.path d.path) = false
          · have hz : Hid (U = k) := Lib.hid (by
              have h := hloop.out
              rw [loopU_cons, if_pos (Or.inr hlt2)] at h
              rw [hUR.out, ← h, List.length_cons, List.length_drop]
              omega)
            have hv : (Op.bytesLess M.toList L.toList || M.toList == L.toList) = true := by rw [lt_total, hML, hLL, hlt2]; rfl
            have hne2 : ¬ M.toList = [] := by rw [hML]; exact hne
            clear hne hlt2 hML hLL
            go_wp2_with fail
            go_ret
            exact ⟨by rw [hz.out]; rfl, HBq.out⟩
          · have hlt3 : ltL ls (nameL c.path d.path) = true := by simpa using hlt2
            have hv : (Op.bytesLess M.toList L.toList || M.toList == L.toList) = false := by rw [lt_total, hML, hLL, hlt3]; rfl
            obtain ⟨hv1, hv2⟩ := Bool.or_eq_false_iff.1 hv
            have hv3 : ¬ M.toList = L.toList := by simpa using hv2
            have hne2 : ¬ M.toList = [] := by rw [hML]; exact hne
            have hne4 : M.toList.isEmpty = false := by
              cases h : M.toList with
              | nil => exact absurd h hne2
              | cons => rfl
            have hMx : Hid (M = ⟨(nameL c.path d.path).toArray⟩) := hM
            have hneH := Lib.hid hne
            have hltH := Lib.hid hlt2
            clear hne hlt2 hlt3 hML hLL
            have HI2 : Hid (∀ w, Nodes w b o l → Calls Try.prog 44 #[.slice (some ⟨b, o, none⟩) l.length cap, .int .i64 (k : Int)] w fun e w' => e = .returned (.int .i64 (underP l k hkl : Int)) ∧ Below w.heap.size w w') := Lib.hid (IH k (by omega) hkl)
            have HNq := Lib.hid (HN.out.below (W2 := wq) HBq.out)
            go_wp2_with fail
            with_reducible refine (HI2.out _ HNq.out).mono ?_
            rintro e w2 ⟨rfl, hb⟩
            have HB2 := Lib.hid (HBq.out.trans (hb.mono HBq.out.size))
            clear hb HI2
            obtain ⟨R2, hR2⟩ : ∃ r, r = restU (fuelN (l.drop (k + 1))) l[k] (l.drop (k + 1)) := ⟨_, rfl⟩
            have hsuf : R2 <:+ l.drop (k + 1) := by rw [hR2]; exact (rest_suf _).1 _ _
            have hsuf2 : R2 <:+ l := hsuf.trans (List.drop_suffix _ _)
            have hlen : R2.length ≤ n - (k + 1) := by have := hsuf.length_le; rw [List.length_drop] at this; omega
            obtain ⟨k2, hk2⟩ : ∃ k2, k2 = underP l k hkl := ⟨_, rfl⟩
            have hk2v : k2 = n - R2.length := by rw [hk2, hn, hR2]; rfl
            have hdrop : l.drop k2 = R2 := by rw [hk2v, hn]; exact drop_of_suf hsuf2
            have hnext : Hid (loopU (2 * (n - k2) + 1) d.path (nameL c.path d.path) (l.drop k2) = RE) := Lib.hid (by
              have h := hloop.out
              rw [loopU_cons, if_neg (fun h => h.elim hneH.out hltH.out)] at h
              rw [← h, hdrop]
              have hfu : fuelN (l.drop (k + 1)) = 2 * (n - (k + 1)) + 2 := by unfold fuelN; rw [List.length_drop, ← hn]
              rw [show restU (2 * (n - (k + 1)) + 2) c (l.drop (k + 1)) = R2 by rw [hR2, hfu, hc.out]]
              exact (rest_fuel _ _).2 _ _ _ (by omega) (by omega))
            rw [← hk2]
            clear hk2 hR2 hsuf hsuf2 hdrop
            have hnl : (nameL c.path d.path).length ≤ 1000000 := Nat.le_trans (name_len _ _) (hp _ (by rw [hc.out]; exact List.getElem_mem _))
            have f1 : at_ + 1 ≤ k2 := by omega
            have f2 : k2 ≤ n := by omega
            have f3 : n - k2 < n - k := by omega
            clear hk2v hlen hn
            go_wp2_with fail
            go_roundw
            case rel => exact ⟨k2, nameL c.path d.path, f1, f2, rfl, by rw [hMx.out]; rfl, hnl, .inl ⟨h4, hnext.out⟩, HB2.out⟩
            case measure => simp [intOf] <;> omega
      · have hz : Hid (U = k) := Lib.hid (by
          rcases HI.out with ⟨h, _⟩ | ⟨_, h⟩
          · exact absurd h h4
          · rw [hother.out h4, h])
        go_wp2_with fail
        go_ret
        exact ⟨by rw [hz.out]; rfl, HB.out⟩
    · have hltI : ¬ (k : Int) < (n : Int) := by omega
      have hz : Hid (U = k) := Lib.hid (by
        rcases HI.out with ⟨h, hh⟩ | ⟨h, hh⟩
        · rw [List.drop_of_length_le (by omega), loopU_nil] at hh
          rw [hUR.out, ← hh]
          show n - 0 = k
          omega
        · rw [hother.out h, hh])
      go_wp2_with fail
      go_ret
      exact ⟨by rw [hz.out]; rfl, HB.out⟩
theorem under_any (b o cap : Nat) (l : List Nd) (hl : l.length ≤ 100000) (hp : ∀ c ∈ l, c.path.length ≤ 1000000) : ∀ (m k : Nat), l.length - k ≤ m → (hk : k < l.length) → ∀ w, Nodes w b o l →
    Calls Try.prog 44 #[slV b o l.length cap, .int .i64 (k : Int)] w fun e w' => e = .returned (.int .i64 (underP l k hk : Int)) ∧ Below w.heap.size w w'
  | 0, k, hm, hk => by omega
  | m + 1, k, hm, hk => fun w hN => under_step b o cap l hl hp k hk (fun j hj hjl => under_any b o cap l hl hp m j (by omega) hjl) w hN
end Go.Proofs.Ytglipljilcdboaa
/- May of the document: whether nodes are a tree. Its condition: lengths that fit. -/
namespace Go.Proofs.Ytglipljilcdboaa
open Go.RowKit Go.Shelf
set_option linter.unusedVariables false
set_option linter.unusedSimpArgs false
theorem cut_len (p : List UInt8) : (cutL p).2.length ≤ p.length := by
  unfold cutL
  split
  · rw [List.length_reverse]
    exact Nat.le_trans (List.takeWhile_sublist _).length_le (by rw [List.length_reverse]; exact Nat.le_refl _)
  · exact Nat.le_refl _
set_option maxRecDepth 100000 in
set_option maxHeartbeats 2000000 in
theorem may_pos (b o cap : Nat) (d : Nd) (r : List Nd) (hl : r.length + 1 ≤ 100000) (hp : ∀ c ∈ d :: r, c.path.length ≤ 1000000) (hd : ∀ c ∈ d :: r, c.data.length ≤ 1000000) (w : World) (hN : Nodes w b o (d :: r)) :
    Calls Try.prog 29 #[slV b o (r.length + 1) cap] w fun e w' => e = .returned (.bool (mayL (d :: r))) ∧ Below w.heap.size w w' := by
  have HN := Lib.hid hN
  clear hN
  obtain ⟨B, hB⟩ : ∃ B, Hid (B = mayL (d :: r)) := ⟨_, Lib.hid rfl⟩
  rw [← hB.out]
  have hBe : Hid (B = (decide (r.length + 1 ≤ 256) && decide (d.path = []) && mayDataL d && r.all (fun c => mayNameL (cutL c.path).2 && decide (deepL c.path ≤ 64) && mayDataL c) && decide ((restU (fuelN r) d r).length = 0))) := Lib.hid (by rw [hB.out]; rfl)
  obtain ⟨n, hn⟩ : ∃ n, Hid (n = r.length) := ⟨_, Lib.hid rfl⟩
  rw [← hn.out] at hl ⊢
  have c0 := (HN.out.2 0 (by simp)).1
  have c1 := (HN.out.2 0 (by simp)).2.1
  have c2 := (HN.out.2 0 (by simp)).2.2
  simp only [List.getElem_cons_zero, Nat.zero_mul, Nat.add_zero] at c0 c1 c2
  obtain ⟨P, hP⟩ : ∃ x : ByteArray, Hid (x = ⟨d.path.toArray⟩) := ⟨_, Lib.hid rfl⟩
  obtain ⟨D, hD⟩ : ∃ x : ByteArray, Hid (x = ⟨d.data.toArray⟩) := ⟨_, Lib.hid rfl⟩
  rw [show strV d.path = .string P by rw [hP.out]; rfl] at c0
  rw [show strV d.data = .string D by rw [hD.out]; rfl] at c2
  have HM : Hid (∀ w, Calls Try.prog 38 #[.agg #[.string P, .int .i64 d.kind, .string D]] w fun e w' => e = .returned (.bool (mayDataL d)) ∧ Below w.heap.size w w') := Lib.hid (fun w => by
    have h := mayData_any d (hp d (by simp)) (hd d (by simp)) w
    rw [show ndV d = #[.string P, .int .i64 d.kind, .string D] by rw [hP.out, hD.out]; rfl] at h
    exact h)
  have HLp : Hid (∀ k (hk : k < r.length), r[k].path.length ≤ 1000000 ∧ r[k].data.length ≤ 1000000) := Lib.hid (fun k hk => ⟨hp _ (by simp), hd _ (by simp)⟩)
  have HU : Hid (∀ w, Nodes w b o (d :: r) → Calls Try.prog 44 #[slV b o (n + 1) cap, .int .i64 0] w fun e w' => e = .returned (.int .i64 ((n + 1 - (restU (fuelN r) d r).length : Nat) : Int)) ∧ Below w.heap.size w w') := Lib.hid (fun w hw => by
    have h := under_any b o cap (d :: r) (by have := hn.out; simp only [List.length_cons]; omega) hp (r.length + 1) 0 (by simp) (by simp) w hw
    have e : underP (d :: r) 0 (by simp) = n + 1 - (restU (fuelN r) d r).length := by
      show r.length + 1 - (restU (fuelN r) d r).length = _
      rw [hn.out]
    rw [e] at h
    have e2 : (d :: r).length = n + 1 := by rw [List.length_cons, ← hn.out]
    rw [e2] at h
    exact h)
  unfold slV at HU ⊢
  have hI1 : ¬ (n : Int) + 1 < 1 := by omega
  have BW : ∀ {w2 : World}, Below w.heap.size w w2 → Below w.heap.size w w2 := fun h => h
  by_cases h256 : n + 1 ≤ 256
  · have hI2 : ¬ (256 : Int) < (n : Int) + 1 := by omega
    rw [decide_eq_true (show r.length + 1 ≤ 256 by rw [← hn.out]; exact h256), Bool.true_and] at hBe
    by_cases hpath : d.path = []
    · rw [decide_eq_true hpath, Bool.true_and] at hBe
      have hPe : P.toList = [] := by rw [ByteArray.toList_eq, hP.out, hpath]
      have hPe2 : P.toList.isEmpty = true := by rw [hPe]; rfl
      clear hpath
      go_enter Try.func29, Try.ntmps29
      go_wp2_with fail
      with_reducible refine (HM.out _).mono ?_
      rintro e w2 ⟨rfl, hb⟩
      have HB2 := Lib.hid hb
      clear hb HM
      cases hmd : mayDataL d
      · rw [hmd, Bool.false_and, Bool.false_and] at hBe
        go_wp2_with fail
        go_ret
        exact ⟨by rw [hBe.out]; rfl, HB2.out⟩
      · rw [hmd, Bool.true_and] at hBe
        go_wp2_with fail
        clear c0 c1 c2 hPe hPe2
        go_loopw [3] (fun x wr => ∃ k : Nat, 1 ≤ k ∧ k ≤ n + 1 ∧ x = .int .i64 (k : Int) ∧ (r.take (k - 1)).all (fun c => mayNameL (cutL c.path).2 && decide (deepL c.path ≤ 64) && mayDataL c) = true ∧ Below w.heap.size w wr) (fun x _ => n + 1 - (intOf x).toNat)
        case atStart => exact ⟨1, by omega, by omega, rfl, by simp, HB2.out⟩
        case round =>
          clear HB2
          obtain ⟨k, hk1, hk, rfl, hall, hb⟩ := hrel
          have HALL := Lib.hid hall
          have HBr := Lib.hid hb
          clear hall hb
          by_cases hlt : k < n + 1
          · have hltI : (k : Int) < (n : Int) + 1 := by omega
            have HNr := Lib.hid (HN.out.below (W2 := wr) HBr.out)
            have hkr : k - 1 < r.length := by have := hn.out; omega
            have hkl : k < (d :: r).length := by rw [List.length_cons]; omega
            obtain ⟨c, hc⟩ : ∃ c, Hid (c = r[k - 1]) := ⟨_, Lib.hid rfl⟩
            have hget : (d :: r)[k] = c := by
              rw [hc.out]
              obtain ⟨j, rfl⟩ : ∃ j, k = j + 1 := ⟨k - 1, by omega⟩
              rfl
            have c0 := (HNr.out.2 k hkl).1
            have c1 := (HNr.out.2 k hkl).2.1
            have c2 := (HNr.out.2 k hkl).2.2
            rw [hget] at c0 c1 c2
            have hcl := HLp.out (k - 1) hkr
            rw [← hc.out] at hcl
            obtain ⟨A, hA⟩ : ∃ x : ByteArray, Hid (x = ⟨c.path.toArray⟩) := ⟨_, Lib.hid rfl⟩
            obtain ⟨E, hE⟩ : ∃ x : ByteArray, Hid (x = ⟨c.data.toArray⟩) := ⟨_, Lib.hid rfl⟩
            obtain ⟨X, hX⟩ : ∃ x : ByteArray, Hid (x = ⟨(cutL c.path).1.toArray⟩) := ⟨_, Lib.hid rfl⟩
            obtain ⟨Y, hY⟩ : ∃ x : ByteArray, Hid (x = ⟨(cutL c.path).2.toArray⟩) := ⟨_, Lib.hid rfl⟩
            rw [show strV c.path = .string A by rw [hA.out]; rfl] at c0
            rw [show strV c.data = .string E by rw [hE.out]; rfl] at c2
            have hAL : A.data.toList = c.path := by rw [hA.out]
            have hAs : A.size ≤ 1000000 := by rw [hA.out]; exact hcl.1
            have H36 : Hid (∀ w, Calls Try.prog 41 #[.string A] w fun e w' => e = .returned (.tuple #[.string X, .string Y]) ∧ Below w.heap.size w w') := Lib.hid (fun w => by
              have h := cut_any A hAs w
              rw [hAL] at h
              rw [hX.out, hY.out]
              exact h)
            have hYs : Y.size ≤ 1000000 := by
              rw [hY.out]
              exact Nat.le_trans (cut_len c.path) hcl.1
            have H18 : Hid (∀ w, Calls Try.prog 42 #[.string Y] w fun e w' => e = .returned (.bool (mayNameL (cutL c.path).2)) ∧ w' = w) := Lib.hid (fun w => by
              have h := mayName_any Y hYs w
              rw [show Y.data.toList = (cutL c.path).2 by rw [hY.out]] at h
              exact h)
            have H37 : Hid (∀ w, Calls Try.prog 43 #[.string A] w fun e w' => e = .returned (.int .i64 (deepL c.path : Int)) ∧ w' = w) := Lib.hid (fun w => by
              have h := deep_any A hAs w
              rw [hAL] at h
              exact h)
            have H35 : Hid (∀ w, Calls Try.prog 38 #[.agg #[.string A, .int .i64 c.kind, .string E]] w fun e w' => e = .returned (.bool (mayDataL c)) ∧ Below w.heap.size w w') := Lib.hid (fun w => by
              have h := mayData_any c hcl.1 hcl.2 w
              rw [show ndV c = #[.string A, .int .i64 c.kind, .string E] by rw [hA.out, hE.out]; rfl] at h
              exact h)
            have hbad : Hid ((mayNameL (cutL c.path).2 && decide (deepL c.path ≤ 64) && mayDataL c) = false → B = false) := Lib.hid (fun h => by
              rw [hBe.out]
              have : r.all (fun c => mayNameL (cutL c.path).2 && decide (deepL c.path ≤ 64) && mayDataL c) = false := by
                rw [List.all_eq_false]
                exact ⟨c, by rw [hc.out]; exact List.getElem_mem _, by simpa using h⟩
              rw [this, Bool.false_and])
            have hgood : Hid ((mayNameL (cutL c.path).2 && decide (deepL c.path ≤ 64) && mayDataL c) = true → (r.take (k + 1 - 1)).all (fun c => mayNameL (cutL c.path).2 && decide (deepL c.path ≤ 64) && mayDataL c) = true) := Lib.hid (fun h => by
              rw [show k + 1 - 1 = (k - 1) + 1 by omega, List.take_add_one, List.getElem?_eq_getElem hkr, List.all_append, HALL.out, ← hc.out, Bool.true_and]
              simpa using h)
            clear hA hE hX hY hAL hAs hYs hcl hget hc hkl hkr
            go_wp2_with fail
            with_reducible refine (H36.out _).mono ?_
            rintro e w3 ⟨rfl, hb⟩
            have HB3 := Lib.hid (HBr.out.trans (hb.mono HBr.out.size))
            have c0b := (hb.cell (Nat.lt_of_lt_of_le HN.out.1 HBr.out.size)).trans c0
            have c1b := (hb.cell (Nat.lt_of_lt_of_le HN.out.1 HBr.out.size)).trans c1
            have c2b := (hb.cell (Nat.lt_of_lt_of_le HN.out.1 HBr.out.size)).trans c2
            clear hb HBr c0 c1 c2
            go_wp2_with fail
            with_reducible refine (H18.out _).mono ?_
            rintro e w4 ⟨rfl, rfl⟩
            cases m1 : mayNameL (cutL c.path).2
            · have hz := hbad.out (by rw [m1]; rfl)
              go_wp2_with fail
              go_ret
              exact ⟨by rw [hz]; rfl, HB3.out⟩
            · go_wp2_with fail
              with_reducible refine (H37.out _).mono ?_
              rintro e w5 ⟨rfl, rfl⟩
              by_cases m2 : deepL c.path ≤ 64
              · have m2I : ¬ (deepL c.path : Int) > 64 := by omega
                go_wp2_with fail
                with_reducible refine (H35.out _).mono ?_
                rintro e w6 ⟨rfl, hb⟩
                have HB4 := Lib.hid (HB3.out.trans (hb.mono HB3.out.size))
                clear hb
                cases m3 : mayDataL c
                · have hz := hbad.out (by rw [m3, Bool.and_false])
                  go_wp2_with fail
                  go_ret
                  exact ⟨by rw [hz]; rfl, HB4.out⟩
                · have hz := hgood.out (by rw [m1, m3, decide_eq_true m2]; rfl)
                  have f1 : n + 1 - (k + 1) < n + 1 - k := by omega
                  go_wp2_with fail
                  go_roundw
                  case rel => exact ⟨k + 1, by omega, by omega, by first | rfl | simp | go_num, hz, HB4.out⟩
                  case measure => simp [intOf] <;> omega
              · have m2I : (deepL c.path : Int) > 64 := by omega
                have hz := hbad.out (by rw [decide_eq_false m2, Bool.and_false, Bool.false_and])
                go_wp2_with fail
                go_ret
                exact ⟨by rw [hz]; rfl, HB3.out⟩
          · obtain rfl : k = n + 1 := by omega
            have hltI : ¬ ((n + 1 : Nat) : Int) < (n : Int) + 1 := by omega
            have HNr := Lib.hid (HN.out.below (W2 := wr) HBr.out)
            have hz : Hid (B = decide ((restU (fuelN r) d r).length = 0)) := Lib.hid (by
              have h := HALL.out
              rw [List.take_of_length_le (by have := hn.out; omega)] at h
              rw [hBe.out, h, Bool.true_and])
            have hrl : Hid ((restU (fuelN r) d r).length ≤ n) := Lib.hid (by rw [hn.out]; exact (rest_len _).1 _ _)
            obtain ⟨R, hR⟩ : ∃ R, R = (restU (fuelN r) d r).length := ⟨_, rfl⟩
            rw [← hR] at hz hrl HU
            clear hR
            go_wp2_with fail
            with_reducible refine (HU.out _ HNr.out).mono ?_
            rintro e w3 ⟨rfl, hb⟩
            have HB3 := Lib.hid (HBr.out.trans (hb.mono HBr.out.size))
            clear hb HBr
            by_cases h0 : R = 0
            · have hq : ((n + 1 - R : Nat) : Int) = (n : Int) + 1 := by omega
              rw [decide_eq_true h0] at hz
              rw [hq]
              go_wp2_with fail
              go_ret
              exact ⟨by rw [hz.out]; rfl, HB3.out⟩
            · have hq : ¬ ((n + 1 - R : Nat) : Int) = (n : Int) + 1 := by have := hrl.out; omega
              rw [decide_eq_false h0] at hz
              generalize ((n + 1 - R : Nat) : Int) = V at *
              have hq2 : (V == (n : Int) + 1) = false := by simpa using hq
              go_wp2_with fail
              go_ret
              exact ⟨by rw [hz.out, ← hq2]; rfl, HB3.out⟩
    · rw [decide_eq_false hpath, Bool.false_and, Bool.false_and, Bool.false_and] at hBe
      have hPe : ¬ P.toList = [] := by rw [ByteArray.toList_eq, hP.out]; exact hpath
      have hPe2 : P.toList.isEmpty = false := by
        cases h : P.toList with
        | nil => exact absurd h hPe
        | cons => rfl
      clear hpath
      go_enter Try.func29, Try.ntmps29
      go_wp2_with fail
      go_ret
      exact ⟨by rw [hBe.out]; rfl, Below.refl _ _⟩
  · have hI2 : (256 : Int) < (n : Int) + 1 := by omega
    rw [decide_eq_false (show ¬ r.length + 1 ≤ 256 by rw [← hn.out]; exact h256), Bool.false_and, Bool.false_and, Bool.false_and, Bool.false_and] at hBe
    go_enter Try.func29, Try.ntmps29
    go_wp2_with fail
    go_ret
    exact ⟨by rw [hBe.out]; rfl, Below.refl _ _⟩
end Go.Proofs.Ytglipljilcdboaa
/- text of the laws: one of some texts. No condition but that what is asked for is not below nought. -/
namespace Go.Proofs.Ytglipljilcdboaa
open Go.RowKit Go.Shelf
set_option linter.unusedVariables false
set_option linter.unusedSimpArgs false
/-- Texts as cells of memory, from a place on. -/
def Txts (W : World) (b o : Nat) (l : List (List UInt8)) : Prop := b < W.heap.size ∧ ∀ i (h : i < l.length), W.cell? ⟨b, o + i, none⟩ = some (strV l[i])
theorem Txts.below {W W2 : World} {b o : Nat} {l : List (List UInt8)} (h : Txts W b o l) (hb : Below W.heap.size W W2) : Txts W2 b o l :=
  ⟨Nat.lt_of_lt_of_le h.1 hb.size, fun i hi => (hb.cell h.1).trans (h.2 i hi)⟩
set_option maxRecDepth 100000 in
set_option maxHeartbeats 1000000 in
theorem text_nil (a : Option Addr) (cap : Nat) (i : Int) (w : World) : Calls Try.prog 27 #[.slice a 0 cap, .int .i64 i] w fun e w' => e = .returned (strV []) ∧ w' = w := by
  go_enter Try.func27, Try.ntmps27
  go_wp2_with fail
  go_ret
  exact ⟨rfl, rfl⟩
set_option maxRecDepth 100000 in
set_option maxHeartbeats 1000000 in
theorem text_pos (b o cap : Nat) (l : List (List UInt8)) (hl : l.length ≤ 9223372036854775807) (h0 : 0 < l.length) (i : Nat) (hi : i ≤ 9223372036854775807) (w : World) (hN : Txts w b o l) :
    Calls Try.prog 27 #[slV b o l.length cap, .int .i64 (i : Int)] w fun e w' => e = .returned (strV (textL l i)) ∧ w' = w := by
  obtain ⟨k, hk⟩ : ∃ k, k = i % l.length := ⟨_, rfl⟩
  have hkl : k < l.length := by rw [hk]; exact Nat.mod_lt _ h0
  have hc := hN.2 k hkl
  have hz : Hid (textL l i = l[k]) := Lib.hid (by
    unfold textL
    rw [if_neg (by intro e; rw [e] at h0; exact absurd h0 (by decide)), List.getD_eq_getElem?_getD, ← hk, List.getElem?_eq_getElem hkl]
    rfl)
  rw [hz.out]
  obtain ⟨X, hX⟩ : ∃ x : ByteArray, Hid (x = ⟨l[k].toArray⟩) := ⟨_, Lib.hid rfl⟩
  rw [show strV l[k] = .string X by rw [hX.out]; rfl] at hc ⊢
  have hm : (i : Int).tmod (l.length : Int) = (k : Int) := by rw [Int.tmod_eq_emod_of_nonneg (by omega), hk]; rfl
  have hm2 : (i : Int) % (l.length : Int) = (k : Int) := by rw [hk]; rfl
  have hnz : ¬ (l.length : Int) = 0 := by omega
  have hkI : (k : Int) < (l.length : Int) := by omega
  obtain ⟨n, hn⟩ : ∃ n, Hid (n = l.length) := ⟨_, Lib.hid rfl⟩
  rw [← hn.out] at hm hm2 hnz hkI hl ⊢
  clear hz hX hk h0 hN hkl
  unfold slV
  go_enter Try.func27, Try.ntmps27
  go_wp2_with fail
  go_ret
  exact ⟨rfl, rfl⟩
end Go.Proofs.Ytglipljilcdboaa
