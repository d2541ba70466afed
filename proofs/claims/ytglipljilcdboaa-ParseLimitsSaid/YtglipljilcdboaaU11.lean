/- Several texts, one behind the other; each says by itself what it proves, and on what conditions. -/
import Derived.Test.YtglipljilcdboaaU10
import Derived.RangeFuncBox
/- A name in a directory, which names may be, as the document tells them. Its condition: a length that fits. -/
namespace Go.Proofs.Ytglipljilcdboaa
open Go.RowKit Go.Shelf
set_option linter.unusedVariables false
set_option linter.unusedSimpArgs false
theorem pre_iff (d p : List UInt8) : (d ++ [47]).isPrefixOf p = true ↔ ∃ h : d.length < p.length, p.take d.length = d ∧ p[d.length] = 47 := by
  rw [List.isPrefixOf_iff_prefix]
  constructor
  · rintro ⟨t, rfl⟩
    refine ⟨by simp, by simp, by simp⟩
  · rintro ⟨h, h1, h2⟩
    refine ⟨p.drop (d.length + 1), ?_⟩
    have := list_split p d.length h
    rw [h1, h2] at this
    rw [List.append_assoc]
    exact this.symm
theorem nonempty_str {d : ByteArray} (h : d.data.toList ≠ []) : (!d.toList.isEmpty) = true := by
  rw [ByteArray.toList_eq]
  cases hd : d.data.toList with
  | nil => exact absurd hd h
  | cons a l => rfl
set_option maxRecDepth 100000 in
set_option maxHeartbeats 1000000 in
theorem name_any (p d : ByteArray) (hs : p.size ≤ 1000000) (hd : d.size ≤ 1000000) (w : World) : Calls Try.prog 45 #[.string p, .string d] w fun e w' => e = .returned (strV (nameL p.data.toList d.data.toList)) ∧ w' = w := by
  obtain ⟨b, hb⟩ : ∃ b, Hid (b = nameL p.data.toList d.data.toList) := ⟨_, Lib.hid rfl⟩
  rw [← hb.out]
  have HH : Hid (∀ (q : ByteArray) w, q.size ≤ 1000000 → Calls Try.prog 56 #[.string q, .int .u8 47] w fun e w' => e = .returned (.bool (decide (47 ∈ q.data.toList))) ∧ w' = w) := Lib.hid (fun q w h => has_any q 47 (by omega) w)
  by_cases h0 : d = ⟨#[]⟩
  · subst h0
    have hz : Hid (b = if 47 ∈ p.data.toList then [] else p.data.toList) := Lib.hid (by rw [hb.out]; rfl)
    go_enter Try.func45, Try.ntmps45
    go_wp2_with fail
    with_reducible refine (HH.out p _ hs).mono ?_
    rintro e w2 ⟨rfl, rfl⟩
    by_cases h47 : 47 ∈ p.data.toList
    · rw [if_pos h47] at hz
      rw [decide_eq_true h47]
      go_wp2_with fail
      go_ret
      exact ⟨by rw [hz.out]; rfl, rfl⟩
    · rw [if_neg h47] at hz
      rw [decide_eq_false h47]
      go_wp2_with fail
      go_ret
      exact ⟨by rw [hz.out]; rfl, rfl⟩
  · have h0L : d.data.toList ≠ [] := fun e => h0 (by rw [bytes_eta d, e])
    have hE := nonempty_str h0L
    have hpl : p.data.toList.length = p.size := rfl
    have hdl : d.data.toList.length = d.size := rfl
    by_cases hA : d.size < p.size
    · by_cases hB : p.data.toList.take d.size = d.data.toList
      · have hBt : (p.extract 0 d.size).toList = d.toList := by rw [ByteArray.toList_eq, ByteArray.toList_eq, ext_take]; exact hB
        by_cases hC : p[d.size] = 47
        · have hCI : (p[d.size].toNat : Int) = 47 := by rw [hC]; rfl
          have hpre : (d.data.toList ++ [47]).isPrefixOf p.data.toList = true := (pre_iff _ _).2 ⟨hA, hB, hC⟩
          obtain ⟨q, hq⟩ : ∃ q, q = p.extract (d.size + 1) p.size := ⟨_, rfl⟩
          have hqL : q.data.toList = p.data.toList.drop (d.size + 1) := by rw [hq, ext_drop p (d.size + 1) p.size rfl]
          have hqs : q.size ≤ 1000000 := by rw [hq, ByteArray.size_extract]; omega
          have hz : Hid (b = if 47 ∈ q.data.toList then [] else q.data.toList) := Lib.hid (by
            rw [hb.out]
            unfold nameL
            rw [if_neg h0L, if_pos hpre, hqL]; rfl)
          have hI : ((d.size : Int) + 1) ≤ (p.size : Int) := by omega
          have hq2 : p.extract (d.size + 1) p.size = q := hq.symm
          clear hC hB hpre h0 h0L hq
          go_enter Try.func45, Try.ntmps45
          go_wp2_with fail
          try rw [hq2]
          with_reducible refine (HH.out q _ hqs).mono ?_
          rintro e w2 ⟨rfl, rfl⟩
          by_cases h47 : 47 ∈ q.data.toList
          · rw [if_pos h47] at hz
            rw [decide_eq_true h47]
            go_wp2_with fail
            go_ret
            exact ⟨by rw [hz.out]; rfl, rfl⟩
          · rw [if_neg h47] at hz
            rw [decide_eq_false h47]
            go_wp2_with fail
            go_ret
            exact ⟨by rw [hz.out]; rfl, rfl⟩
        · have hCI : ¬ (p[d.size].toNat : Int) = 47 := fun e => hC (UInt8.toNat_inj.1 (by show _ = 47; omega))
          have hz : Hid (b = []) := Lib.hid (by
            rw [hb.out]
            unfold nameL
            rw [if_neg h0L, if_neg (fun h => by obtain ⟨_, _, h3⟩ := (pre_iff _ _).1 h; exact hC h3)])
          have hCI2 : ((p[d.size].toNat : Int) != 47) = true := by rw [bne_iff_ne]; exact hCI
          clear hC hB h0 h0L
          go_enter Try.func45, Try.ntmps45
          go_wp2_with fail
          go_ret
          exact ⟨by rw [hz.out]; rfl, rfl⟩
      · have hBt : ¬ (p.extract 0 d.size).toList = d.toList := by rw [ByteArray.toList_eq, ByteArray.toList_eq, ext_take]; exact hB
        have hz : Hid (b = []) := Lib.hid (by
          rw [hb.out]
          unfold nameL
          rw [if_neg h0L, if_neg (fun h => by obtain ⟨_, h2, _⟩ := (pre_iff _ _).1 h; exact hB h2)])
        clear hB h0 h0L
        go_enter Try.func45, Try.ntmps45
        go_wp2_with fail
        go_ret
        exact ⟨by rw [hz.out]; rfl, rfl⟩
    · have hz : Hid (b = []) := Lib.hid (by
        rw [hb.out]
        unfold nameL
        rw [if_neg h0L, if_neg (fun h => by obtain ⟨h1, _, _⟩ := (pre_iff _ _).1 h; exact hA h1)])
      have hA2 : p.size ≤ d.size := by omega
      clear h0 h0L
      go_enter Try.func45, Try.ntmps45
      go_wp2_with fail
      go_ret
      exact ⟨by rw [hz.out]; rfl, rfl⟩
set_option maxRecDepth 100000 in
set_option maxHeartbeats 1000000 in
theorem mayName_any (s : ByteArray) (hs : s.size ≤ 1000000) (w : World) : Calls Try.prog 42 #[.string s] w fun e w' => e = .returned (.bool (mayNameL s.data.toList)) ∧ w' = w := by
  obtain ⟨b, hb⟩ : ∃ b, Hid (b = mayNameL s.data.toList) := ⟨_, Lib.hid rfl⟩
  rw [← hb.out]
  have hsl : s.data.toList.length = s.size := rfl
  have H0 : Hid (∀ w, Calls Try.prog 56 #[.string s, .int .u8 0] w fun e w' => e = .returned (.bool (decide (0 ∈ s.data.toList))) ∧ w' = w) := Lib.hid (fun w => has_any s 0 (by omega) w)
  have H4 : Hid (∀ w, Calls Try.prog 56 #[.string s, .int .u8 47] w fun e w' => e = .returned (.bool (decide (47 ∈ s.data.toList))) ∧ w' = w) := Lib.hid (fun w => has_any s 47 (by omega) w)
  go_enter Try.func42, Try.ntmps42
  by_cases h1 : s.size ≥ 1
  · by_cases h2 : s.size ≤ 255
    · go_wp2_with fail
      with_reducible refine (H0.out _).mono ?_
      rintro e w2 ⟨rfl, rfl⟩
      by_cases h0 : 0 ∈ s.data.toList
      · rw [decide_eq_true h0]
        have hz : Hid (b = false) := Lib.hid (by rw [hb.out]; simp [mayNameL, h0])
        clear h0
        go_wp2_with fail
        go_ret
        exact ⟨by rw [hz.out]; rfl, rfl⟩
      · rw [decide_eq_false h0]
        have h0H := Lib.hid h0
        clear h0
        go_wp2_with fail
        with_reducible refine (H4.out _).mono ?_
        rintro e w3 ⟨rfl, rfl⟩
        by_cases h47 : 47 ∈ s.data.toList
        · rw [decide_eq_true h47]
          have hz : Hid (b = false) := Lib.hid (by rw [hb.out]; simp [mayNameL, h47])
          clear h47
          go_wp2_with fail
          go_ret
          exact ⟨by rw [hz.out]; rfl, rfl⟩
        · rw [decide_eq_false h47]
          have h47H := Lib.hid h47
          clear h47
          by_cases hp : s.toList = [46]
          · have hz : Hid (b = false) := Lib.hid (by
              rw [hb.out]
              rw [ByteArray.toList_eq] at hp
              rw [hp]
              decide)
            go_wp2_with fail
            go_ret
            exact ⟨by rw [hz.out]; rfl, rfl⟩
          · have hz : Hid (b = (!s.toList == [46] && !s.toList == [46, 46])) := Lib.hid (by
              rw [hb.out, ByteArray.toList_eq]
              simp [mayNameL, h0H.out, h47H.out, show 1 ≤ s.size from h1, show s.size ≤ 255 from h2])
            go_wp2_with fail
            go_ret
            exact ⟨by rw [hz.out]; rfl, rfl⟩
    · have hz : Hid (b = false) := Lib.hid (by rw [hb.out]; simp only [mayNameL]; rw [decide_eq_false (show ¬ s.data.toList.length ≤ 255 from h2)]; simp)
      go_wp2_with fail
      go_ret
      exact ⟨by rw [hz.out]; rfl, rfl⟩
  · have hz : Hid (b = false) := Lib.hid (by rw [hb.out]; simp only [mayNameL]; rw [decide_eq_false (show ¬ 1 ≤ s.data.toList.length from h1)]; simp)
    go_wp2_with fail
    go_ret
    exact ⟨by rw [hz.out]; rfl, rfl⟩
end Go.Proofs.Ytglipljilcdboaa
/- A number as a word, a text with what fills it, texts one behind the other, as the document makes them. Its condition: a length that fits. -/
namespace Go.Proofs.Ytglipljilcdboaa
open Go.RowKit Go.Shelf
set_option linter.unusedVariables false
set_option linter.unusedSimpArgs false
/-- A row of bytes as cells. -/
def bRow (l : List UInt8) : Array Value := (l.map fun b => Value.int .u8 (b.toNat : Int)).toArray
theorem bRow_get (l : List UInt8) (j : Nat) (hj : j < l.length) : (bRow l)[j]? = some (.int .u8 (l[j].toNat : Int)) := by simp [bRow, hj]
def Row8 (W : World) (g : Nat) (l : List UInt8) : Prop := W.heap[g]? = some (.cells (bRow l) 5 (0, 0))
theorem Row8.cell {W : World} {g : Nat} {l : List UInt8} (h : Row8 W g l) (j : Nat) (hj : j < l.length) : W.cell? ⟨g, j, none⟩ = some (.int .u8 (l[j].toNat : Int)) := by
  rw [cell_of_row W g j _ 5 _ h]
  exact bRow_get l j hj
theorem Row8.free {W : World} {g : Nat} {l : List UInt8} (h : Row8 W g l) (j : Nat) : W.frozen? ⟨g, j, none⟩ = false := by
  have h2 : W.heap[g]? = some (.cells (bRow l) 5 (0, 0)) := h
  unfold World.frozen?
  simp [h2]
theorem Row8.lt {W : World} {g : Nat} {l : List UInt8} (h : Row8 W g l) : g < W.heap.size := (Array.getElem?_eq_some_iff.1 h).1
theorem Row8.str {W : World} {g cap n : Nat} {l : List UInt8} (h : Row8 W g l) (hn : l.length = n) : (Go.convert 33 9 (.slice (some ⟨g, 0, none⟩) n cap)).run Try.prog W = .ok (.string ⟨l.toArray⟩) W := by
  rw [← hn]
  refine run_convert_bytes_back (P := Try.prog) W 33 9 5 ⟨g, 0, none⟩ cap l Try.underlying33 Try.underlying5 Try.underlying9 (fun j hj => ?_)
  rw [show (⟨g, 0, none⟩ : Addr).add j = ⟨g, j, none⟩ by unfold Addr.add; split <;> simp_all, h.cell j hj]
theorem Row8.set {W : World} {g : Nat} {l : List UInt8} (h : Row8 W g l) (j : Nat) (c : UInt8) : Row8 (W.setCell ⟨g, j, none⟩ (.int .u8 (c.toNat : Int))) g (l.set j c) := by
  unfold Row8
  rw [setCell_eq_setRow W g j _ 5 (0, 0) _ h, setRow_heap W g _ _ 5 (0, 0) h]
  simp [bRow, List.map_set]
theorem make8 (W : World) : (Instr.makeSlice 33 (.int .i64 8) (.int .i64 8)).run Try.prog W = .ok (.slice (some ⟨W.heap.size, 0, none⟩) 8 8) (W.alloc (.cells (bRow (List.replicate 8 0)) 5)) := by kernel_rfl
theorem shr_cast (x S : Nat) : (x : Int) / 2 ^ S = ((x / 2 ^ S : Nat) : Int) := by
  rw [Int.natCast_ediv, Int.natCast_pow]
  rfl
theorem wrap8 (n : Nat) : IntKind.u8.wrap (n : Int) = ((n % 256 : Nat) : Int) := by
  have h : IntKind.u8.wrap (n : Int) = (n : Int) % 256 := by simp [IntKind.wrap, IntKind.bits, IntKind.signed]
  rw [h]; omega
/-- A word's bytes so far. -/
def leAt (x k : Nat) : List UInt8 := (List.range k).map (fun j => UInt8.ofNat (x / 2 ^ (8 * j))) ++ List.replicate (8 - k) 0
theorem leAt_len (x k : Nat) (hk : k ≤ 8) : (leAt x k).length = 8 := by simp [leAt]; omega
theorem leAt_step (x k : Nat) (hk : k < 8) : (leAt x k).set k (UInt8.ofNat (x / 2 ^ (8 * k))) = leAt x (k + 1) := by
  unfold leAt
  rw [List.set_append_right _ _ (by simp), List.length_map, List.length_range, Nat.sub_self, show 8 - k = (8 - (k + 1)) + 1 by omega, List.replicate_succ, List.set_cons_zero, List.range_succ, List.map_append, List.append_assoc]
  rfl
theorem leAt_all (x : Nat) : leAt x 8 = wordL x := by
  simp [leAt, wordL, List.range_succ]
set_option maxRecDepth 100000 in
set_option maxHeartbeats 1000000 in
theorem little_any (x : Nat) (w : World) : Calls Try.prog 55 #[.int .u64 (x : Int), .int .i64 8] w fun e w' => e = .returned (strV (wordL x)) ∧ Below w.heap.size w w' := by
  have hr0 : Hid (Row8 (w.alloc (.cells (bRow (List.replicate 8 0)) 5)) w.heap.size (leAt x 0)) := Lib.hid (World.alloc_heap_new w _)
  have hb0 : Hid (Below w.heap.size w (w.alloc (.cells (bRow (List.replicate 8 0)) 5))) := Lib.hid ((Below.refl _ w).alloc (Nat.le_refl _) _)
  obtain ⟨z, hz⟩ : ∃ z, Hid (z = bRow (List.replicate 8 0)) := ⟨_, Lib.hid rfl⟩
  have hmk : ∀ W : World, (Instr.makeSlice 33 (.int .i64 8) (.int .i64 8)).run Try.prog W = .ok (.slice (some ⟨W.heap.size, 0, none⟩) 8 8) (W.alloc (.cells z 5)) := by rw [hz.out]; exact make8
  rw [← hz.out] at hr0 hb0
  go_enter Try.func55, Try.ntmps55
  go_wp2
  clear hmk hz
  generalize w.alloc (.cells z 5) = w0 at *
  obtain ⟨g, hg⟩ : ∃ g, Hid (g = w.heap.size) := ⟨_, Lib.hid rfl⟩
  rw [← hg.out] at hr0 ⊢
  go_loopw [6] (fun i wr => ∃ k : Nat, k ≤ 8 ∧ i = .int .i64 k ∧ Row8 wr g (leAt x k) ∧ Below w.heap.size w wr) (fun i _ => 8 - (intOf i).toNat)
  case atStart => exact ⟨0, by omega, rfl, hr0.out, hb0.out⟩
  case round =>
    clear hr0 hb0
    obtain ⟨k, hk, rfl, hrow, hb⟩ := hrel
    have HR := Lib.hid hrow
    have HB := Lib.hid hb
    clear hrow hb
    by_cases hlt : k < 8
    · obtain ⟨S, hS⟩ : ∃ S, Hid (S = 8 * k) := ⟨_, Lib.hid rfl⟩
      have hS1 : (8 : Int) * (k : Int) = (S : Int) := by rw [hS.out]; omega
      have hS64 : S < 64 := by rw [hS.out]; omega
      obtain ⟨c, hc⟩ : ∃ c, Hid (c = UInt8.ofNat (x / 2 ^ S)) := ⟨_, Lib.hid rfl⟩
      have hwr : IntKind.u8.wrap ((x : Int) / 2 ^ S) = (c.toNat : Int) := by rw [shr_cast, wrap8, hc.out]; simp
      have hl := leAt_len x k hk
      obtain ⟨v, hcell⟩ : ∃ v, wr.cell? ⟨g, k, none⟩ = some v := ⟨_, HR.out.cell k (by omega)⟩
      have hfree := HR.out.free k
      have HN : Hid (Row8 (wr.setCell ⟨g, k, none⟩ (.int .u8 (c.toNat : Int))) g (leAt x (k + 1))) := Lib.hid (by
        have h := HR.out.set k c
        rw [hc.out, hS.out, leAt_step x k hlt] at h
        rw [hc.out, hS.out]
        exact h)
      have HN2 : Hid (Below w.heap.size w (wr.setCell ⟨g, k, none⟩ (.int .u8 (c.toNat : Int)))) := Lib.hid (HB.out.setCell (p := ⟨g, k, none⟩) (by rw [hg.out]; exact Nat.le_refl _) _)
      clear hl
      have hltI : (k : Int) < 8 := by omega
      go_wp2
      go_roundw
      case rel => exact ⟨k + 1, by omega, by first | rfl | simp | go_num, HN.out, HN2.out⟩
      case measure => simp [intOf] <;> omega
    · obtain rfl : k = 8 := by omega
      have hcv := HR.out.str (cap := 8) (leAt_len x 8 (by omega))
      rw [leAt_all] at hcv
      rw [show ((8 : Nat) : Int) = (8 : Int) from rfl]
      obtain ⟨tl, htl⟩ : ∃ tl : ByteArray, Hid (tl = ⟨(wordL x).toArray⟩) := ⟨_, Lib.hid rfl⟩
      rw [← htl.out] at hcv
      clear HR
      go_wp2
      go_ret
      exact ⟨by rw [htl.out]; rfl, HB.out⟩
set_option maxRecDepth 100000 in
set_option maxHeartbeats 1000000 in
theorem littleE_any (x : Nat) (w : World) : Calls Try.prog 36 #[.int .u64 (x : Int), .int .i64 8] w fun e w' => e = .returned (strV (wordL x)) ∧ Below w.heap.size w w' := by
  have H := Lib.hid (fun w => little_any x w)
  obtain ⟨v, hv⟩ : ∃ v, Hid (v = strV (wordL x)) := ⟨_, Lib.hid rfl⟩
  rw [← hv.out] at H ⊢
  go_enter Try.func36, Try.ntmps36
  go_wp2_with fail
  with_reducible refine (H.out _).mono ?_
  rintro e w2 ⟨rfl, hb⟩
  go_wp2_with fail
  go_ret
  exact ⟨rfl, hb⟩
set_option maxRecDepth 100000 in
set_option maxHeartbeats 1000000 in
theorem word_any (n : Int) (h1 : -9223372036854775808 ≤ n) (h2 : n ≤ 9223372036854775807) (w : World) : Calls Try.prog 23 #[.int .i64 n] w fun e w' => e = .returned (strV (wordL n.toNat)) ∧ Below w.heap.size w w' := by
  have H := Lib.hid (fun w => littleE_any n.toNat w)
  obtain ⟨v, hv⟩ : ∃ v, Hid (v = strV (wordL n.toNat)) := ⟨_, Lib.hid rfl⟩
  rw [← hv.out] at H ⊢
  go_enter Try.func23, Try.ntmps23
  by_cases h0 : 0 ≤ n
  · have e1 : ((n.toNat : Nat) : Int) = n := Int.toNat_of_nonneg h0
    rw [e1] at H
    have e2 : IntKind.u64.wrap n = n := by rw [IntKind.wrap_u64]; omega
    have e3 : max n 0 = n := by omega
    go_wp2_with fail
    with_reducible refine (H.out _).mono ?_
    rintro e w2 ⟨rfl, hb⟩
    go_wp2_with fail
    go_ret
    exact ⟨rfl, hb⟩
  · have e1 : ((n.toNat : Nat) : Int) = 0 := by omega
    rw [e1] at H
    have e3 : max n 0 = 0 := by omega
    go_wp2_with fail
    with_reducible refine (H.out _).mono ?_
    rintro e w2 ⟨rfl, hb⟩
    go_wp2_with fail
    go_ret
    exact ⟨rfl, hb⟩
/-- A text's bytes with so many noughts behind. -/
def padS (s : List UInt8) (j : Nat) : ByteArray := ⟨(wordL s.length ++ (s ++ List.replicate j 0)).toArray⟩
theorem padS_size (s : List UInt8) (j : Nat) : (padS s j).size = 8 + (s.length + j) := by
  show (wordL s.length ++ (s ++ List.replicate j 0)).length = _
  rw [List.length_append, wordL_len, List.length_append, List.length_replicate]
theorem padS_zero (s : ByteArray) : (⟨(wordL s.data.toList.length).toArray⟩ : ByteArray) ++ s = padS s.data.toList 0 := by
  apply ByteArray.ext
  apply Array.toList_inj.1
  simp [padS]
theorem padS_succ (s : List UInt8) (j : Nat) : padS s j ++ ({ data := #[0] } : ByteArray) = padS s (j + 1) := by
  apply ByteArray.ext
  apply Array.toList_inj.1
  simp [padS, List.replicate_succ', List.append_assoc]
set_option maxRecDepth 100000 in
set_option maxHeartbeats 1000000 in
theorem str_any (s : ByteArray) (hs : s.size ≤ 1000000) (w : World) : Calls Try.prog 22 #[.string s] w fun e w' => e = .returned (strV (strL s.data.toList)) ∧ Below w.heap.size w w' := by
  have hsl : s.data.toList.length = s.size := rfl
  obtain ⟨wd, hwd⟩ : ∃ x : ByteArray, Hid (x = ⟨(wordL s.data.toList.length).toArray⟩) := ⟨_, Lib.hid rfl⟩
  have H : Hid (∀ w, Calls Try.prog 23 #[.int .i64 (s.size : Int)] w fun e w' => e = .returned (.string wd) ∧ Below w.heap.size w w') := Lib.hid (fun w => by
    have h := word_any (s.size : Int) (by omega) (by omega) w
    rw [show ((s.size : Int)).toNat = s.size from rfl] at h
    rw [hwd.out]
    exact h)
  have wds : wd.size = 8 := by rw [hwd.out]; rfl
  obtain ⟨P0, hP0⟩ : ∃ x, Hid (x = padS s.data.toList 0) := ⟨_, Lib.hid rfl⟩
  have hP0e : wd ++ s = P0 := by rw [hwd.out, hP0.out]; exact padS_zero s
  have hP0s : (wd ++ s).size = 8 + s.size := by rw [ByteArray.size_append, wds]
  clear hwd
  obtain ⟨v, hv⟩ : ∃ v, Hid (v = strV (strL s.data.toList)) := ⟨_, Lib.hid rfl⟩
  rw [← hv.out]
  go_enter Try.func22, Try.ntmps22
  go_wp2_with fail
  with_reducible refine (H.out _).mono ?_
  rintro e w2 ⟨rfl, hb⟩
  have HB := Lib.hid hb
  clear hb H
  go_wp2_with fail
  try rw [hP0e]
  go_loopw [3] (fun x wr => ∃ j : Nat, j ≤ fillN s.size ∧ x = .string (padS s.data.toList j) ∧ Below w.heap.size w wr) (fun x _ => fillN s.size + 8 + s.size - (match x with | .string y => y.size | _ => 0))
  case atStart => exact ⟨0, Nat.zero_le _, by rw [← hP0.out], HB.out⟩
  case round =>
    clear HB hP0e hP0s hP0
    obtain ⟨j, hj, rfl, hb⟩ := hrel
    have HB := Lib.hid hb
    clear hb
    have hps := padS_size s.data.toList j
    have hps2 := padS_size s.data.toList (j + 1)
    have hnx := padS_succ s.data.toList j
    rw [hsl] at hps hps2
    obtain ⟨X, hX⟩ : ∃ X, X = padS s.data.toList j := ⟨_, rfl⟩
    obtain ⟨Y, hY⟩ : ∃ X, Hid (X = padS s.data.toList (j + 1)) := ⟨_, Lib.hid rfl⟩
    have hf8 : fillN s.size < 8 := Nat.mod_lt _ (by decide)
    rw [← hX] at hps hnx ⊢
    rw [← hY.out] at hps2 hnx
    have hXH := Lib.hid hX
    clear hX
    have hXY : (X ++ ({ data := #[0] } : ByteArray)).size = X.size + 1 := by rw [ByteArray.size_append]; rfl
    by_cases h : j = fillN s.size
    · have hm : (X.size : Int) % 8 = 0 := by unfold fillN at h; omega
      have hmt : (X.size : Int).tmod 8 = 0 := by rw [Int.tmod_eq_emod_of_nonneg (by omega)]; exact hm
      have hz : Hid (v = .string X) := Lib.hid (by rw [hv.out, hXH.out, h]; unfold strV padS strL; rw [hsl])
      go_wp2_with fail
      go_ret
      exact ⟨by rw [hz.out]; rfl, HB.out⟩
    · have hm : ¬ (X.size : Int) % 8 = 0 := by unfold fillN at h hj; omega
      have hmt : ¬ (X.size : Int).tmod 8 = 0 := by rw [Int.tmod_eq_emod_of_nonneg (by omega)]; exact hm
      go_wp2_with fail
      refine ⟨⟨j + 1, by omega, by rw [hY.out], HB.out⟩, ?_⟩
      show fillN s.size + 8 + s.size - Y.size < fillN s.size + 8 + s.size - X.size
      omega
/-- Texts as a row of memory. -/
def sRow (l : List (List UInt8)) : Array Value := (l.map strV).toArray
theorem sRow_get (l : List (List UInt8)) (j : Nat) (hj : j < l.length) : (sRow l)[j]? = some (strV l[j]) := by simp [sRow, hj]
theorem sRow_cell {W : World} {g : Nat} {l : List (List UInt8)} (h : W.heap[g]? = some (.cells (sRow l) 9 (0, 0))) (j : Nat) (hj : j < l.length) : W.cell? ⟨g, j, none⟩ = some (strV l[j]) := (cell_of_row W g j (sRow l) 9 (0, 0) h).trans (sRow_get l j hj)
theorem strsL_take (l : List (List UInt8)) (k : Nat) (h : k < l.length) : strsL (l.take (k + 1)) = strsL (l.take k) ++ strL l[k] := by
  unfold strsL
  rw [List.take_add_one, List.getElem?_eq_getElem h, List.flatMap_append]
  congr 1
  show strL l[k] ++ [] = strL l[k]
  rw [List.append_nil]
theorem strsL_le (l : List (List UInt8)) (k : Nat) : (strsL (l.take k)).length ≤ (strsL l).length := by
  conv => rhs; rw [← List.take_append_drop k l]
  unfold strsL
  rw [List.flatMap_append, List.length_append]
  omega
theorem strV_cat (a b : List UInt8) : (⟨a.toArray⟩ : ByteArray) ++ (⟨b.toArray⟩ : ByteArray) = ⟨(a ++ b).toArray⟩ := by
  apply ByteArray.ext
  apply Array.toList_inj.1
  simp
set_option maxRecDepth 100000 in
set_option maxHeartbeats 1000000 in
theorem strs_any (bk : Nat) (l : List (List UInt8)) (n : Nat) (hn : l.length = n) (hN : n ≤ 1000) (hl : ∀ t ∈ l, t.length ≤ 1000000) (hT : (strsL l).length ≤ 100000000) (w : World) (hrow : w.heap[bk]? = some (.cells (sRow l) 9 (0, 0))) : Calls Try.prog 31 #[.slice (some ⟨bk, 0, none⟩) n n] w fun e w' => e = .returned (strV (strsL l)) ∧ Below w.heap.size w w' := by
  have hbk : bk < w.heap.size := (Array.getElem?_eq_some_iff.1 hrow).1
  have HR := Lib.hid hrow
  clear hrow
  obtain ⟨v, hv⟩ : ∃ v, Hid (v = strV (strsL l)) := ⟨_, Lib.hid rfl⟩
  rw [← hv.out]
  go_enter Try.func31, Try.ntmps31
  go_wp2_with fail
  go_loopw [3, 4] (fun x i wr => ∃ k : Nat, k ≤ n ∧ x = strV (strsL (l.take k)) ∧ i = .int .i64 k ∧ Below w.heap.size w wr) (fun x i _ => n - (intOf i).toNat)
  case atStart => exact ⟨0, Nat.zero_le _, rfl, rfl, Below.refl _ w⟩
  case round =>
    obtain ⟨k, hk, rfl, rfl, hb⟩ := hrel
    have HB := Lib.hid hb
    clear hb
    by_cases hlt : k < n
    · have hltI : (k : Int) < (n : Int) := by omega
      have hkl : k < l.length := by omega
      have hcell : wr.cell? ⟨bk, k, none⟩ = some (strV l[k]) := sRow_cell ((HB.out.block bk hbk).trans HR.out) k hkl
      obtain ⟨t, ht⟩ : ∃ t : ByteArray, Hid (t = ⟨l[k].toArray⟩) := ⟨_, Lib.hid rfl⟩
      have htV : strV l[k] = .string t := by rw [ht.out]; rfl
      rw [htV] at hcell
      have hts : t.size ≤ 1000000 := by rw [ht.out]; exact hl _ (List.getElem_mem hkl)
      obtain ⟨u, hu⟩ : ∃ u : ByteArray, Hid (u = ⟨(strL l[k]).toArray⟩) := ⟨_, Lib.hid rfl⟩
      have H : Hid (∀ w, Calls Try.prog 22 #[.string t] w fun e w' => e = .returned (.string u) ∧ Below w.heap.size w w') := Lib.hid (fun w => by
        have h := str_any t hts w
        rw [show t.data.toList = l[k] by rw [ht.out]] at h
        rw [hu.out]
        exact h)
      obtain ⟨X, hX⟩ : ∃ X : ByteArray, Hid (X = ⟨(strsL (l.take k)).toArray⟩) := ⟨_, Lib.hid rfl⟩
      have hXV : strV (strsL (l.take k)) = .string X := by rw [hX.out]; rfl
      rw [hXV]
      obtain ⟨Y, hY⟩ : ∃ X : ByteArray, Hid (X = ⟨(strsL (l.take (k + 1))).toArray⟩) := ⟨_, Lib.hid rfl⟩
      have hXu : X ++ u = Y := by rw [hX.out, hu.out, hY.out, strV_cat, strsL_take l k hkl]
      have hYs : Y.size ≤ 100000000 := by rw [hY.out]; exact Nat.le_trans (strsL_le l (k + 1)) hT
      have hXus : (X ++ u).size = X.size + u.size := ByteArray.size_append
      have hsum : X.size + u.size ≤ 100000000 := by rw [← hXus, hXu]; exact hYs
      clear ht htV hts hu hX hXV
      go_wp2_with fail
      with_reducible refine (H.out _).mono ?_
      rintro e w2 ⟨rfl, hb⟩
      have HB2 := Lib.hid (HB.out.trans (hb.mono HB.out.size))
      clear hb
      go_wp2_with fail
      refine ⟨⟨k + 1, by omega, by rw [hY.out]; rfl, by first | rfl | simp | go_num, HB2.out⟩, ?_⟩
      simp [intOf] <;> omega
    · obtain rfl : k = n := by omega
      have hltI : ¬ (k : Int) < (k : Int) := by omega
      have hz : Hid (v = strV (strsL (l.take k))) := Lib.hid (by rw [hv.out, List.take_of_length_le (by omega)])
      go_wp2_with fail
      go_ret
      exact ⟨by rw [hz.out]; rfl, HB.out⟩
end Go.Proofs.Ytglipljilcdboaa
/- Nodes in memory; which data a node may have, as the document tells it. Its condition: lengths that fit. -/
namespace Go.Proofs.Ytglipljilcdboaa
open Go.RowKit Go.Shelf
set_option linter.unusedVariables false
set_option linter.unusedSimpArgs false
def ndV (d : Nd) : Array Value := #[strV d.path, .int .i64 d.kind, strV d.data]
set_option maxRecDepth 100000 in
set_option maxHeartbeats 1000000 in
theorem mayData_any (d : Nd) (hp : d.path.length ≤ 1000000) (hd : d.data.length ≤ 1000000) (w : World) : Calls Try.prog 38 #[.agg (ndV d)] w fun e w' => e = .returned (.bool (mayDataL d)) ∧ Below w.heap.size w w' := by
  obtain ⟨b, hb⟩ : ∃ b, Hid (b = mayDataL d) := ⟨_, Lib.hid rfl⟩
  rw [← hb.out]
  obtain ⟨k, hk⟩ : ∃ k, Hid (k = d.kind) := ⟨_, Lib.hid rfl⟩
  obtain ⟨P, hP⟩ : ∃ x : ByteArray, Hid (x = ⟨d.path.toArray⟩) := ⟨_, Lib.hid rfl⟩
  obtain ⟨D, hD⟩ : ∃ x : ByteArray, Hid (x = ⟨d.data.toArray⟩) := ⟨_, Lib.hid rfl⟩
  have hV : ndV d = #[.string P, .int .i64 k, .string D] := by rw [hP.out, hD.out, hk.out]; rfl
  have hDL : Hid (D.data.toList = d.data) := Lib.hid (by rw [hD.out])
  have hDs : D.size = d.data.length := by rw [hD.out]; rfl
  rw [hV]
  have HH : Hid (∀ w, Calls Try.prog 56 #[.string D, .int .u8 0] w fun e w' => e = .returned (.bool (decide (0 ∈ D.data.toList))) ∧ w' = w) := Lib.hid (fun w => has_any D 0 (by omega) w)
  clear hP hD hV
  go_enter Try.func38, Try.ntmps38
  have BW : ∀ o, Below w.heap.size w (w.alloc o) := fun o => (Below.refl _ w).alloc (Nat.le_refl _) _
  by_cases k1 : k = 1
  · have hz : Hid (b = decide ((d.data.length : Int) ≤ 65536)) := Lib.hid (by
      rw [hb.out]; unfold mayDataL; rw [← hk.out, if_pos (Or.inl k1)]; exact decide_eq_decide.2 (by omega))
    go_wp2_with fail
    go_ret
    exact ⟨by rw [hz.out]; rfl, BW _⟩
  by_cases k2 : k = 2
  · have hz : Hid (b = decide ((d.data.length : Int) ≤ 65536)) := Lib.hid (by
      rw [hb.out]; unfold mayDataL; rw [← hk.out, if_pos (Or.inr k2)]; exact decide_eq_decide.2 (by omega))
    go_wp2_with fail
    go_ret
    exact ⟨by rw [hz.out]; rfl, BW _⟩
  have hn12 : ¬ (k = 1 ∨ k = 2) := fun h => h.elim k1 k2
  by_cases k3 : k = 3
  · have hz : Hid (b = (decide (1 ≤ d.data.length) && decide (d.data.length ≤ 4096) && !d.data.contains 0)) := Lib.hid (by
      rw [hb.out]; unfold mayDataL; rw [← hk.out, if_neg hn12, if_pos k3])
    by_cases h1 : (d.data.length : Int) ≥ 1
    · by_cases h2 : (d.data.length : Int) ≤ 4096
      · rw [decide_eq_true (show 1 ≤ d.data.length by omega), decide_eq_true (show d.data.length ≤ 4096 by omega)] at hz
        go_wp2_with fail
        with_reducible refine (HH.out _).mono ?_
        rintro e w2 ⟨rfl, rfl⟩
        by_cases h0 : 0 ∈ D.data.toList
        · rw [decide_eq_true h0]
          have hz2 : Hid (b = false) := Lib.hid (by rw [hz.out, ← hDL.out]; simp [h0])
          clear h0
          go_wp2_with fail
          go_ret
          exact ⟨by rw [hz2.out]; rfl, BW _⟩
        · rw [decide_eq_false h0]
          have hz2 : Hid (b = true) := Lib.hid (by rw [hz.out, ← hDL.out]; simp [h0])
          clear h0
          go_wp2_with fail
          go_ret
          exact ⟨by rw [hz2.out]; rfl, BW _⟩
      · rw [decide_eq_false (show ¬ d.data.length ≤ 4096 by omega), Bool.and_false, Bool.false_and] at hz
        go_wp2_with fail
        go_ret
        exact ⟨by rw [hz.out]; rfl, BW _⟩
    · rw [decide_eq_false (show ¬ 1 ≤ d.data.length by omega), Bool.false_and, Bool.false_and] at hz
      go_wp2_with fail
      go_ret
      exact ⟨by rw [hz.out]; rfl, BW _⟩
  by_cases k4 : k = 4
  · have hz : Hid (b = decide (d.data = [])) := Lib.hid (by
      rw [hb.out]; unfold mayDataL; rw [← hk.out, if_neg hn12, if_neg k3, if_pos k4])
    have hz2 : Hid (b = D.toList.isEmpty) := Lib.hid (by
      rw [hz.out, ByteArray.toList_eq, hDL.out]
      cases d.data <;> simp)
    go_wp2_with fail
    go_ret
    exact ⟨by rw [hz2.out]; rfl, BW _⟩
  · have hz : Hid (b = false) := Lib.hid (by
      rw [hb.out]; unfold mayDataL; rw [← hk.out, if_neg hn12, if_neg k3, if_neg k4])
    go_wp2_with fail
    go_ret
    exact ⟨by rw [hz.out]; rfl, BW _⟩
/-- Nodes as cells of memory, from a place on. -/
def Nodes (W : World) (b o : Nat) (l : List Nd) : Prop := b < W.heap.size ∧ ∀ i (h : i < l.length), W.cell? ⟨b, o + i * 3, none⟩ = some (strV l[i].path) ∧ W.cell? ⟨b, o + i * 3 + 1, none⟩ = some (.int .i64 l[i].kind) ∧ W.cell? ⟨b, o + i * 3 + 2, none⟩ = some (strV l[i].data)
theorem Nodes.below {W W2 : World} {b o : Nat} {l : List Nd} (h : Nodes W b o l) (hb : Below W.heap.size W W2) : Nodes W2 b o l :=
  ⟨Nat.lt_of_lt_of_le h.1 hb.size, fun i hi => ⟨(hb.cell h.1).trans (h.2 i hi).1, (hb.cell h.1).trans (h.2 i hi).2.1, (hb.cell h.1).trans (h.2 i hi).2.2⟩⟩
def slV (b o n cap : Nat) : Value := .slice (some ⟨b, o, none⟩) n cap
end Go.Proofs.Ytglipljilcdboaa
/- The document's reader: hints of its calls, for functions that put nodes behind its list. Its conditions: lengths that fit. -/
namespace Go.Proofs.Ytglipljilcdboaa
open Go.RowKit
set_option linter.unusedVariables false
set_option linter.unusedSimpArgs false
section
open E
theorem flatMap_congr' {α β : Type} {f g : α → List β} : ∀ {l : List α}, (∀ i ∈ l, f i = g i) → l.flatMap f = l.flatMap g
  | [], _ => rfl
  | a :: l, h => by rw [List.flatMap_cons, List.flatMap_cons, h a (by simp), flatMap_congr' fun i hi => h i (by simp [hi])]
abbrev bsR (ws : List (List UInt8)) : Row := ⟨[.fnc (chunkF (ws.map stv) 1 ws.length) 1 ws.length], true, some (9, 1)⟩
abbrev hOne (r b : Nat) (S : List UInt8) (x : Lf) (ws : List (List UInt8)) (q : RS) (s : List UInt8) (q' : RS) : Hint := .call ⟨24, fun ρ => #[(ptrTo r).val ρ, (TV.s (.lf (.sl b 0 0 1 ws.length none))).val ρ], .v (stv s), [(r, rdR S q x), (b, bsR ws)], [(r, rdR S q' x)], none, []⟩
theorem hOne_ok {r b id : Nat} {S : List UInt8} {x : Lf} {ws : List (List UInt8)} {q q' : RS} {s : List UInt8} (hs : s = (oneD S ws q).1) (hq' : q' = (oneD S ws q).2) (hx : x.ok) (hid : r ≠ id ∧ id ∉ x.ids) (hrb : r ≠ b) (hS : S.length ≤ 1000000000000) (hw : ws.length ≤ 1000 ∧ (∀ s ∈ ws, s.length ≤ 1000) ∧ ∀ i, i < ws.length → chunkF (ws.map stv) 1 ws.length i = [stv (ws.getD i [])]) (ha : q.at' ≤ S.length) : HintOk Try.prog id (hOne r b S x ws q s q') := by
  subst hs hq'
  refine callE_ok ent24 rfl (fun p hp => ?_) fun ρ w hp hd => ?_
  · obtain rfl := List.mem_singleton.1 hp
    refine ⟨hid.1, ?_⟩
    simpa [pids, Pc.ids, Lf.ids] using hid.2
  · have h0 := hp (r, rdR S q x) (by simp)
    have h1 := hp (b, bsR ws) (by simp)
    have hne : (ρ r).1 ≠ (ρ b).1 := hd (r, rdR S q x) (by simp) (b, bsR ws) (by simp) hrb rfl
    obtain ⟨σ, hσ⟩ : ∃ σ : Env, σ = fun i => if i = 0 then ρ r else ρ b := ⟨_, rfl⟩
    have e0 : σ 0 = ρ r := by rw [hσ]; rfl
    have e1 : σ 1 = ρ b := by rw [hσ]; rfl
    have hv := rdAt_v (σ := σ) (r0 := 0) h0 e0
    have hb : RowAt σ 1 (wsR ws) w := by
      have hl : lst σ (wsR ws).ps = lst ρ (bsR ws).ps := by
        show ((List.range ws.length).flatMap fun i => [stv (ws.getD i [])]).toArray.toList ++ [] = ((List.range ws.length).flatMap (chunkF (ws.map stv) 1 ws.length)).toArray.toList ++ []
        congr 2
        exact congrArg List.toArray (flatMap_congr' fun i hi => (hw.2.2 i (List.mem_range.1 hi)).symm)
      refine ⟨by rw [e1]; exact h1.1, fun j v hv => ?_, (fun e k h => by cases h), by rw [e1]; exact h1.2.2.2⟩
      rw [hl] at hv
      rw [e1]
      exact ⟨(h1.2.1 j v hv).1, fun h => by cases h⟩
    refine Calls.mono (one_any S ws q ((ρ b).3 - 0) (x.val ρ) (Lf.one_val hx) hS hw.1 hw.2.1 ha σ w hv hb (by rw [e0, e1]; exact hne)) ?_ |> (fun h => by
      have e : #[(ptrTo 0).val σ, (TV.s (.lf (.sl 1 0 0 1 ws.length (some ((ρ b).3 - 0))))).val σ] = #[(ptrTo r).val ρ, (TV.s (.lf (.sl b 0 0 1 ws.length none))).val ρ] := by
        simp only [ptrTo, TV.val, SV.val, Lf.val, capOf, e0, e1]
      rw [e] at h; exact h)
    rintro e w' ⟨rfl, hf, hr⟩
    rw [e0] at hf
    refine ⟨⟨0, 0, 0⟩, rfl, hf, fun p hp => ?_, fun row hrow => by cases hrow⟩
    obtain rfl := List.mem_singleton.1 hp
    exact ⟨rdAt_x (σ := σ) hr e0, rd_ok S _ x hx⟩
end
end Go.Proofs.Ytglipljilcdboaa
/- The engine: to the end, with what parts the rows that are left. No condition of its own. -/
namespace Go.Proofs.Ytglipljilcdboaa.E
set_option linter.unusedSimpArgs false
open Go Go.RowKit
set_option linter.unusedVariables false
theorem At.finD {r : Option Nat} {mk : List Nat} {kn : List (Nat × Blk)} {P : Program} {w0 : World} {wr : Bs} {n : Nat} {gl : List Nat} {todo : List Item} {fn : Func} {R : Ending → World → Prop} {tm : List (Nat × TV)} {rows rows2 : List (Nat × Row)} {ob : List Prop} {x : TV} (hm : P.follows .mixedOrders = true) (cs : List (Nat × Hint)) (hC : allC P cs) (π : List Ch)
    (h : wholeR P (findC cs) fn.results π todo (mkSt n tm rows gl mk kn) (rows2.map (·.1)) = some (ob, x, rows2.map fun p => some p.2)) (ho : all ob)
    (hR : ∀ ρ w, Fr w0 wr.l w → (∀ r, r < 1000 → ρ r = wr.e r) → x.ok → (∀ p ∈ rows2, RowAt ρ p.1 p.2 w ∧ pok p.2.ps ∧ (p.2.w = true → w0.heap.size ≤ (ρ p.1).1 ∨ (ρ p.1).1 ∈ wr.l)) → (∀ p ∈ rows2, ∀ q ∈ rows2, p.1 ≠ q.1 → p.2.w = true → (ρ p.1).1 ≠ (ρ q.1).1) → R (.returned (x.val ρ)) w) : At P w0 wr n gl todo (EndX P fn R) tm rows r mk kn := by
  intro a w ρ hd
  unfold wholeR at h
  split at h
  · rename_i o1 e t hg
    split at h
    · rename_i o2 x2 he hr
      simp only [Option.some.injEq, Prod.mk.injEq] at h
      obtain ⟨rfl, rfl, e2⟩ := h
      obtain ⟨ho1, ho2⟩ := all_append.1 ho
      refine go_ok (w0 := w0) (wr := wr) (Q := EndX P fn R) hm (findC_ok hC) 10000 π todo _ o1 (.fin e) t hg ho1 (fun a w ρ hd => ?_) a w ρ hd
      have e3 : ∀ p ∈ rows2, t.row p.1 = some p.2 := fun p hp => by
        rw [List.map_map] at e2
        exact (List.map_inj_left.1 e2) p hp
      refine ⟨isEnd_ok he, end_ok hd hr ho2 fun w' hd g2 => hR ρ w' hd.fr (fun r hr => hd.e0 r (.inl hr)) g2 (fun p hp => ?_) fun p hp q hq hne hw => hd.ds p.1 q.1 p.2 q.2 (e3 p hp) (e3 q hq) hne hw⟩
      obtain ⟨k1, k2, _, _, k5⟩ := hd.rw p.1 p.2 (e3 p hp)
      exact ⟨k1, k2, k5⟩
    · cases h
  · cases h
end Go.Proofs.Ytglipljilcdboaa.E
/- The document's reader: calls that put nodes behind its list, told as hints. No condition but what each names. -/
namespace Go.Proofs.Ytglipljilcdboaa
open Go.RowKit
set_option linter.unusedVariables false
set_option linter.unusedSimpArgs false
section
open E
abbrev slN (r n : Nat) : Lf := .sl r 0 0 3 n none
abbrev rdL (S : List UInt8) (q : RS) (r : Nat) : Row := rdR S q (slN r q.l.length)
abbrev liR (q : RS) : Row := rowN q.l q.l.length
theorem rdL_mv {ρ σ : Env} {r0 r a b n : Nat} {S : List UInt8} {q : RS} {w : World} (h : RowAt ρ r (rdR S q (slN a n)) w) (e : σ r0 = ρ r) (e1 : σ b = ρ a) : RowAt σ r0 (rdR S q (slN b n)) w := by
  have hl : lst σ (rdR S q (slN b n)).ps = lst ρ (rdR S q (slN a n)).ps := by
    show [stv S, .int .i64 (q.at' : Int), (slN b n).val σ, .int .i64 q.e] = [stv S, .int .i64 (q.at' : Int), (slN a n).val ρ, .int .i64 q.e]
    simp only [Lf.val, e1]
  unfold RowAt at h ⊢
  rw [e, hl]
  exact h
/-- What a call leaves that puts nodes behind the reader's list: D the lists whose block it may take. -/
def NdQ (S : List UInt8) (ρ : Env) (w : World) (D : List Nat) (q' : RS) : Ending → World → Prop := fun e w' => ∃ B : Blk, e = .returned (.tuple #[]) ∧ Fr w ((ρ 0).1 :: D.map fun r => (ρ r).1) w' ∧ (w.heap.size ≤ B.1 ∨ ∃ r ∈ D, B.1 = (ρ r).1) ∧ RowAt (setE ρ 1 B) 0 (rdL S q' 1) w' ∧ RowAt (setE ρ 1 B) 1 (liR q') w'
theorem nd_fin {S : List UInt8} {w w' : World} {ρ ρ' : Env} {D : List Nat} {q' : RS} {X : Nat} (hf : Fr w ((ρ 0).1 :: D.map fun r => (ρ r).1) w') (he : ∀ r, r < 1000 → ρ' r = ρ r)
    (hq : ∀ p ∈ [(0, rdL S q' X), (X, liR q')], RowAt ρ' p.1 p.2 w' ∧ pok p.2.ps ∧ (p.2.w = true → w.heap.size ≤ (ρ' p.1).1 ∨ (ρ' p.1).1 ∈ ((ρ 0).1 :: D.map fun r => (ρ r).1)))
    (hd : ∀ p ∈ [(0, rdL S q' X), (X, liR q')], ∀ q ∈ [(0, rdL S q' X), (X, liR q')], p.1 ≠ q.1 → p.2.w = true → (ρ' p.1).1 ≠ (ρ' q.1).1) (hX : X ≠ 0) : NdQ S ρ w D q' (.returned ((TV.tup []).val ρ')) w' := by
  have h0 := hq (0, rdL S q' X) (by simp)
  have h1 := hq (X, liR q') (by simp)
  have hne := hd (0, rdL S q' X) (by simp) (X, liR q') (by simp) (Ne.symm hX) rfl
  simp only at hne
  refine ⟨ρ' X, rfl, hf, ?_, rdL_mv h0.1 (by rw [setE_ne ρ _ (by decide)]; exact (he 0 (by decide)).symm) (setE_same ρ 1 _), rowAt_mv h1.1 (setE_same ρ 1 _)⟩
  rcases h1.2.2 rfl with h | h
  · exact .inl h
  · rcases List.mem_cons.1 h with h | h
    · rw [he 0 (by decide)] at hne
      exact absurd h.symm hne
    · obtain ⟨r, hr, hr2⟩ := List.mem_map.1 h
      exact .inr ⟨r, hr, hr2.symm⟩
abbrev hNd (f r lr id : Nat) (S : List UInt8) (pv : Value) (q q' : RS) : Hint := .call ⟨f, fun ρ => #[(ptrTo r).val ρ, pv], .tup [], [(r, rdL S q lr), (lr, liR q)], [(r, rdL S q' id)], some (liR q'), [lr]⟩
theorem hNd_ok {f r lr id : Nat} {S : List UInt8} {pv : Value} {q q' : RS} (he : Enters Try.prog f) (hr : r ≠ lr ∧ r ≠ id)
    (h : ∀ (ρ : Env) (w : World), RowAt ρ 0 (rdL S q 1) w → RowAt ρ 1 (liR q) w → (ρ 0).1 ≠ (ρ 1).1 → Calls Try.prog f #[(ptrTo 0).val ρ, pv] w (NdQ S ρ w [1] q')) : HintOk Try.prog id (hNd f r lr id S pv q q') := by
  refine ⟨(fun _ h => by cases h), fun p hp => ?_, he, fun ρ w hp hd => ?_⟩
  · obtain rfl := List.mem_singleton.1 hp; exact hr.2
  have h0 := hp (r, rdL S q lr) (by simp)
  have h1 := hp (lr, liR q) (by simp)
  have hne := hd (r, rdL S q lr) (by simp) (lr, liR q) (by simp) hr.1 rfl
  obtain ⟨σ, hσ⟩ : ∃ σ : Env, σ = fun i => if i = 0 then ρ r else ρ lr := ⟨_, rfl⟩
  have e0 : σ 0 = ρ r := by rw [hσ]; rfl
  have e1 : σ 1 = ρ lr := by rw [hσ]; rfl
  have hc := h σ w (rdL_mv h0 e0 e1) (rowAt_mv h1 e1) (by rw [e0, e1]; exact hne)
  have e : #[(ptrTo 0).val σ, pv] = #[(ptrTo r).val ρ, pv] := by simp only [ptrTo, TV.val, SV.val, Lf.val, e0]
  rw [e] at hc
  refine hc.mono ?_
  rintro e w' ⟨B, rfl, hf, hB, k0, k1⟩
  simp only [List.map_cons, List.map_nil, e0, e1] at hf
  refine ⟨setE ρ id B, rfl, (fun _ h => by cases h), fun r hr => setE_ne ρ B hr, ?_, fun p hp => ?_, fun p hp hpe => ?_⟩
  · have hb1 : (!(r == id)) = true := by simpa using hr.2
    simp only [Option.map_some, Option.toList_some, List.cons_append, List.nil_append, List.filter_cons, List.filter_nil, hb1, if_true, beq_self_eq_true, Bool.not_true, Bool.false_eq_true, if_false, List.map_cons, List.map_nil]
    exact hf
  · simp only [Option.map_some, Option.toList_some, List.cons_append, List.nil_append, List.mem_cons, List.not_mem_nil, or_false] at hp
    rcases hp with rfl | rfl
    · exact ⟨rdL_mv k0 (by rw [setE_ne ρ B hr.2, setE_ne σ B (by decide), e0]) (by rw [setE_same, setE_same]), rd_ok S q' _ trivial⟩
    · exact ⟨rowAt_mv k1 (by rw [setE_same, setE_same]), rowN_ok _ _⟩
  · rw [setE_same]
    rcases hB with hB | ⟨r2, hr2, hB⟩
    · exact .inl hB
    · obtain rfl := List.mem_singleton.1 hr2
      exact .inr ⟨lr, by simp, by rw [hB, e1]⟩
abbrev hNd0 (f r id : Nat) (S : List UInt8) (pv : Value) (q q' : RS) : Hint := .call ⟨f, fun ρ => #[(ptrTo r).val ρ, pv], .tup [], [(r, rdR S q (.v (.slice none 0 0)))], [(r, rdL S q' id)], some (liR q'), []⟩
theorem hNd0_ok {f r id : Nat} {S : List UInt8} {pv : Value} {q q' : RS} (he : Enters Try.prog f) (hr : r ≠ id)
    (h : ∀ (ρ : Env) (w : World), RowAt ρ 0 (rdR S q (.v (.slice none 0 0))) w → Calls Try.prog f #[(ptrTo 0).val ρ, pv] w (NdQ S ρ w [] q')) : HintOk Try.prog id (hNd0 f r id S pv q q') := by
  refine ⟨(fun _ h => by cases h), fun p hp => ?_, he, fun ρ w hp hd => ?_⟩
  · obtain rfl := List.mem_singleton.1 hp; exact hr
  have h0 := hp (r, rdR S q (.v (.slice none 0 0))) (by simp)
  obtain ⟨σ, hσ⟩ : ∃ σ : Env, σ = fun i => ρ r := ⟨_, rfl⟩
  have e0 : ∀ i, σ i = ρ r := fun i => by rw [hσ]
  have hc := h σ w (rdAt_v (r0 := 0) h0 (e0 0))
  have e : #[(ptrTo 0).val σ, pv] = #[(ptrTo r).val ρ, pv] := by simp only [ptrTo, TV.val, SV.val, Lf.val, e0]
  rw [e] at hc
  refine hc.mono ?_
  rintro e w' ⟨B, rfl, hf, hB, k0, k1⟩
  simp only [List.map_nil, e0] at hf
  refine ⟨setE ρ id B, rfl, (fun _ h => by cases h), fun r hr => setE_ne ρ B hr, ?_, fun p hp => ?_, fun p hp hpe => ?_⟩
  · have hb1 : (!(r == id)) = true := by simpa using hr
    simp only [Option.map_some, Option.toList_some, List.cons_append, List.nil_append, List.filter_cons, List.filter_nil, hb1, if_true, beq_self_eq_true, Bool.not_true, Bool.false_eq_true, if_false, List.map_cons, List.map_nil, List.append_nil]
    exact hf
  · simp only [Option.map_some, Option.toList_some, List.cons_append, List.nil_append, List.mem_cons, List.not_mem_nil, or_false] at hp
    rcases hp with rfl | rfl
    · exact ⟨rdL_mv k0 (by rw [setE_ne ρ B hr, setE_ne σ B (by decide), e0]) (by rw [setE_same, setE_same]), rd_ok S q' _ trivial⟩
    · exact ⟨rowAt_mv k1 (by rw [setE_same, setE_same]), rowN_ok _ _⟩
  · rw [setE_same]
    rcases hB with hB | ⟨r2, hr2, hB⟩
    · exact .inl hB
    · cases hr2
end
end Go.Proofs.Ytglipljilcdboaa
