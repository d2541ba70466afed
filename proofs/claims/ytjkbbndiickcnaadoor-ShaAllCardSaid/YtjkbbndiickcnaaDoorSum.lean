/- Write, Sum and Len of a state of package sha, and Sum of a text: the hash of the arithmetic. Up to a million bytes; the tables of the package stand in memory. -/
import Derived.Test.YtjkbbndiickcnaaDoorWriteB
namespace Go.Proofs.YtjkbbndiickcnaaDoor
open Go.RowKit
set_option linter.unusedVariables false

/-- Whole blocks, then others. -/
theorem rep_done {w : World} {b : Nat} (A s2 : List UInt8) (rb : List UInt8) (hr : rb.length = 64) (hA : A.length % 64 = 0) (m : Nat) (hm : m = A.length + s2.length) (e1 : St) (he1 : e1 = mids h0 A (A.length / 64))
    (hrow : w.heap[b]? = some (.cells (stCells (cells (mids e1 s2 (s2.length / 64))) (bytesV (over rb 0 (s2.drop (64 * (s2.length / 64))))) m).toArray 42 (0, 0))) : StRep w b (A ++ s2) := by
  subst hm he1
  have hd : (s2.drop (64 * (s2.length / 64))).length = s2.length % 64 := by rw [List.length_drop]; omega
  have hT : (A ++ s2).length / 64 = A.length / 64 + s2.length / 64 := by rw [List.length_append]; omega
  refine ⟨mids (mids h0 A (A.length / 64)) s2 (s2.length / 64), over rb 0 (s2.drop (64 * (s2.length / 64))), ?_, over_length rb 0 _ (by rw [hd, hr]; omega) |>.trans hr, mids_ok (mids_ok h0_ok _ _) _ _, fun _ => ?_, ?_⟩
  · rw [List.length_append]; exact hrow
  · rw [hT, mids_split, mids_prefix h0 A s2 _ (by omega), show 64 * (A.length / 64) = A.length by omega, List.drop_left]
  · rw [hT, show (A ++ s2).length % 64 = s2.length % 64 by rw [List.length_append]; omega, show 64 * (A.length / 64 + s2.length / 64) = A.length + 64 * (s2.length / 64) by omega, ← List.drop_drop, List.drop_left]
    unfold over
    rw [List.take_zero, List.nil_append, List.take_append_of_le_length (by rw [hd]; exact Nat.le_refl _), List.take_of_length_le (by rw [hd]; exact Nat.le_refl _)]

theorem write_ok {w : World} {b : Nat} {l : List UInt8} (h : StRep w b l) (s : ByteArray) (hl : l.length ≤ 1000000) (hs : s.size ≤ 1000000) (hG : Glob w) (hb2 : 2 ≤ b) :
    Calls Tryd.prog 14 #[.pointer (some ⟨b, 0, none⟩), .string s] w fun e0 w' => (∃ v, e0 = .returned v) ∧ Fr (fun k => k = b) w w' ∧ StRep w' b (l ++ s.data.toList) := by
  obtain ⟨e, rb, hc, hr, he, hm, ht⟩ := h
  have hsl : s.data.toList.length = s.size := rfl
  by_cases hn : l.length = 0
  · have hl0 : l = [] := List.eq_nil_of_length_eq_zero hn
    subst hl0
    refine (write_first e rb s hr hs hG hb2 hc).mono ?_
    rintro e0 w' ⟨hv, hf, hrow⟩
    exact ⟨hv, hf, rep_done [] s.data.toList rb hr rfl _ rfl h0 rfl hrow⟩
  · have hne : l ≠ [] := fun e => hn (by rw [e]; rfl)
    have hme := hm hne
    by_cases h0' : l.length % 64 = 0
    · refine (write_zero e he rb l.length s hr hl hs h0' hn hG hb2 hc).mono ?_
      rintro e0 w' ⟨hv, hf, hrow⟩
      exact ⟨hv, hf, rep_done l s.data.toList rb hr h0' _ rfl e hme hrow⟩
    · by_cases hlt : l.length % 64 + s.size < 64
      · refine (write_short e rb l.length s hr hl hs (by omega) hlt hc).mono ?_
        rintro e0 w' ⟨hv, hf, hrow⟩
        have hq : (l ++ s.data.toList).length / 64 = l.length / 64 := by rw [List.length_append, hsl]; omega
        have hq2 : (l ++ s.data.toList).length % 64 = l.length % 64 + s.size := by rw [List.length_append, hsl]; omega
        refine ⟨hv, hf, e, over rb (l.length % 64) s.data.toList, ?_, (over_length rb (l.length % 64) s.data.toList (by rw [hr, hsl]; omega)).trans hr, he, fun _ => ?_, ?_⟩
        · rw [List.length_append, hsl]; exact hrow
        · rw [hq, mids_prefix h0 l _ _ (by omega)]; exact hme
        · rw [hq, hq2, List.drop_append_of_le_length (by omega), ← ht]
          unfold over
          rw [List.take_append_of_le_length (by rw [List.length_append, List.length_take, hr, hsl]; omega), List.take_of_length_le (by rw [List.length_append, List.length_take, hr, hsl]; omega)]
      · obtain ⟨h, hh⟩ : ∃ h, h = l.length % 64 := ⟨_, rfl⟩
        have hk : (s.data.toList.take (64 - h)).length = 64 - h := by rw [List.length_take, hsl]; omega
        have hs2 : (s.extract (64 - h) s.size).data.toList = s.data.toList.drop (64 - h) := by
          rw [ByteArray.data_extract, Array.toList_extract, List.extract_eq_take_drop]
          exact List.take_of_length_le (by rw [List.length_drop, hsl]; exact Nat.le_refl _)
        have hs2l : (s.extract (64 - h) s.size).size = (s.data.toList.drop (64 - h)).length := by rw [← hs2]; rfl
        refine (write_long e he rb l.length s (s.extract (64 - l.length % 64) s.size) hr hl hs (by omega) (by omega) rfl _ rfl hG hb2 hc).mono ?_
        rintro e0 w' ⟨hv, hf, hrow⟩
        rw [← hh, hs2, hs2l] at hrow
        have hRl : (over rb h (s.data.toList.take (64 - h))).length = 64 := (over_length rb _ _ (by rw [hr, hk]; omega)).trans hr
        have hA : l ++ s.data.toList = (l ++ s.data.toList.take (64 - h)) ++ s.data.toList.drop (64 - h) := by rw [List.append_assoc, List.take_append_drop]
        rw [hA]
        refine ⟨hv, hf, rep_done _ _ _ hRl (by rw [List.length_append, hk]; omega) _ (by rw [List.length_append, hk, List.length_drop, hsl]; omega) _ ?_ hrow⟩
        have h1 : (l ++ s.data.toList.take (64 - h)).length / 64 = l.length / 64 + 1 := by rw [List.length_append, hk]; omega
        rw [h1, mids_split, mids_prefix h0 l _ _ (by omega), ← hme, List.drop_append_of_le_length (by omega), ← ht]
        congr 1
        unfold over
        rw [← hh, List.drop_eq_nil_of_le (by rw [hr, hk]; omega), List.append_nil]

theorem st_len {w : World} {b : Nat} {l : List UInt8} (h : StRep w b l) : w.cell? ⟨b, 72, none⟩ = some (.int .i64 l.length) := by
  obtain ⟨e, rb, hc, hr, -⟩ := h
  rw [cell_of_row _ _ _ _ _ _ hc, List.getElem?_toArray]
  exact stCells_n e rb _ hr
theorem st_below {w w' : World} {b : Nat} {l : List UInt8} (h : StRep w b l) (hb : Below w.heap.size w w') : StRep w' b l := by
  obtain ⟨e, rb, hc, h2⟩ := h
  exact ⟨e, rb, (hb.block b (lt_of_block hc)).trans hc, h2⟩
theorem st_new (w : World) : StRep (w.alloc (.cells stZero.toArray 42)) w.heap.size [] :=
  ⟨s0, List.replicate 64 0, by rw [heap_alloc_new w _]; rfl, rfl, by unfold St.ok s0; decide, fun h => absurd rfl h, rfl⟩
theorem pad_block (l : List UInt8) : (pad l).length % 64 = 0 := by
  unfold pad tailN
  simp [be8]
  unfold fill
  omega
theorem tell_to (s : St) : tellTo s.at 8 = tell s := by simp [tellTo, tell, St.at]

set_option maxRecDepth 100000 in
set_option maxHeartbeats 1000000 in
theorem sum_ok {w : World} {b : Nat} {l : List UInt8} (h : StRep w b l) (hl : l.length ≤ 900000) (hG : Glob w) :
    Calls Tryd.prog 15 #[.pointer (some ⟨b, 0, none⟩)] w fun e0 w' => e0 = .returned (.string ⟨(sha l).toArray⟩) ∧ Below w.heap.size w w' := by
  have c72 := st_len h
  obtain ⟨e, rb, hc, hr, he, hm, ht⟩ := h
  obtain ⟨cs, hcs⟩ : ∃ cs, Hid (cs = stCells (cells e) (bytesV rb) l.length) := ⟨_, Lib.hid rfl⟩
  have hrow := hc
  rw [← hcs.out] at hrow
  have hseg : Hid (∀ j v, cs[j]? = some v → w.cell? ⟨b, 0 + j, none⟩ = some v) := by
    intro j v hv
    rw [cell_of_row _ _ _ _ _ _ hrow, Nat.zero_add, List.getElem?_toArray, hv]
  have hlen : cs.length = 73 := by rw [hcs.out]; exact stCells_len e rb _ hr
  have hsz : Hid ((Tryd.prog.info? 42).map (·.size) = some cs.length) := by unfold Hid; rw [hlen]; kernel_rfl
  have hone : Hid (∀ v ∈ cs, v.oneCell' = true) := by
    unfold Hid
    rw [hcs.out]
    intro v hv
    unfold stCells at hv
    rcases List.mem_append.1 hv with h | h
    · exact cells_one _ v h
    · rcases List.mem_append.1 h with h | h
      · unfold bytesV at h
        obtain ⟨x, _, rfl⟩ := List.mem_map.1 h
        rfl
      · rcases List.mem_singleton.1 h with rfl
        rfl
  have hfit : Hid (stZero.toArray.size = cs.length) := by unfold Hid; rw [hlen]; rfl
  have hrep : StRep (w.alloc (.cells cs.toArray 42)) w.heap.size l := ⟨e, rb, by rw [heap_alloc_new w _, hcs.out], hr, he, hm, ht⟩
  have hb1 : Below w.heap.size w (w.alloc (.cells cs.toArray 42)) := (Below.refl _ w).alloc (Nat.le_refl _) _
  have hbN := lt_of_block hc
  have HG := Lib.hid (hG.below hb1)
  have HREP := Lib.hid hrep
  have HB1 := Lib.hid hb1
  have HN2 := Lib.hid hG.two
  have c72' : Hid ((w.alloc (.cells cs.toArray 42)).cell? ⟨b, 72, none⟩ = some (.int .i64 l.length)) := by
    unfold Hid
    rw [hb1.cell (p := ⟨b, 72, none⟩) hbN]; exact c72
  have HT := Lib.hid (fun w => tail_any l.length (by omega) w)
  clear hc hrow hrep hb1 hr he hm ht hlen hG c72 hcs
  go_enter Tryd.func15, Tryd.ntmps15
  go_upto_region 4 with (first | (refine wpList_load_seg rfl 42 (.tmp 7) rfl b 0 rfl cs _ hseg.out Tryd.underlying42 rfl hsz.out ?_) | (refine wpList_run rfl _ (exec_alloc_agg _ 42 rfl _ (zero42 _)) ?_) | (refine wpList_run0 rfl (exec_store_new w 42 (.tmp 3) (.tmp 8) rfl _ 42 rfl cs rfl hfit.out hone.out hsz.out) ?_))
  obtain ⟨w1, hw1⟩ : ∃ w1, w1 = w.alloc (.cells cs.toArray 42) := ⟨_, rfl⟩
  rw [← hw1] at HG HREP HB1 c72' ⊢
  clear hw1 hseg hsz hone hfit
  have c := c72'.out
  clear c72'
  go_wp2_with fail
  refine (HT.out _).mono ?_
  rintro e0 w2 ⟨rfl, hb2⟩
  have HREP2 := Lib.hid (st_below HREP.out hb2)
  have HG2 := Lib.hid (HG.out.below hb2)
  have HB2 := Lib.hid (HB1.out.trans (hb2.mono HB1.out.size))
  clear hb2 c HREP HG HB1 HT
  go_wp2_with fail
  refine (write_ok HREP2.out _ (by omega) (by show (tailN l.length).toArray.size ≤ _; rw [List.size_toArray]; unfold tailN; simp [be8]; have := fill_lt l.length; omega) HG2.out HN2.out).mono ?_
  rintro e0 w3 ⟨⟨v, rfl⟩, hf, hrep3⟩
  have HB3 := Lib.hid (HB2.out.trans (hf.below HB2.out.size (fun k hk e => by omega)))
  obtain ⟨e3, rb3, hc3, hr3, he3, hm3, -⟩ := hrep3
  have hpad : (l ++ (⟨(tailN l.length).toArray⟩ : ByteArray).data.toList) = pad l := rfl
  rw [hpad] at hc3 hm3
  have hsha : tellTo e3.at 8 = sha l := by
    rw [tell_to, hm3 (by unfold pad tailN; simp)]
    rfl
  have hseg : Hid (∀ j v, (cells e3)[j]? = some v → w3.cell? ⟨w.heap.size, 0 + j, none⟩ = some v) := by
    intro j v hv
    rw [cell_of_row _ _ _ _ _ _ hc3, Nat.zero_add, List.getElem?_toArray]
    unfold stCells
    rw [List.getElem?_append_left (by
        rcases Nat.lt_or_ge j (cells e3).length with h | h
        · exact h
        · rw [List.getElem?_eq_none h] at hv; cases hv)]
    exact hv
  have hsz : Hid ((Tryd.prog.info? 39).map (·.size) = some (cells e3).length) := Lib.hid (size42f _ rfl)
  have HTOLD := Lib.hid (told_any e3.at (fun j => St.at_lt he3 j) w3)
  rw [hsha, ← cells_row] at HTOLD
  clear hc3 hm3 hsha hf hr3 he3 hpad
  go_wp2_with (refine wpList_load_seg rfl 39 (.tmp 15) rfl w.heap.size 0 rfl (cells e3) _ hseg.out Tryd.underlying39 rfl hsz.out ?_)
  refine HTOLD.out.mono ?_
  rintro e0 w4 ⟨rfl, hb4⟩
  have HB4 := Lib.hid (HB3.out.trans (hb4.mono HB3.out.size))
  clear hb4
  go_wp2
  go_ret
  exact ⟨rfl, HB4.out⟩

set_option maxHeartbeats 1000000 in
theorem sum_any (s : ByteArray) (hs : s.size ≤ 900000) (w : World) (hG : Glob w) :
    Calls Tryd.prog 9 #[.string s] w fun e0 w' => e0 = .returned (.string ⟨(sha s.data.toList).toArray⟩) ∧ Below w.heap.size w w' := by
  have HN := Lib.hid (st_new w)
  have hb1 : Below w.heap.size w (w.alloc (.cells stZero.toArray 42)) := (Below.refl _ w).alloc (Nat.le_refl _) _
  have HW := Lib.hid (write_ok HN.out s (by simp) (by omega) (hG.below hb1) hG.two)
  have HB1 := Lib.hid hb1
  have HG := Lib.hid (hG.below hb1)
  have H2 := Lib.hid hG.two
  clear hb1 hG
  go_enter Tryd.func9, Tryd.ntmps9
  go_wp2_with (refine wpList_run rfl _ (exec_alloc_agg _ 42 rfl _ (zero42 _)) ?_)
  refine HW.out.mono ?_
  rintro e0 w2 ⟨⟨v, rfl⟩, hf, hrep⟩
  have HREP := Lib.hid hrep
  have HG2 := Lib.hid (glob_fr HG.out H2.out hf)
  have HB2 := Lib.hid (HB1.out.trans (hf.below HB1.out.size (fun k hk e => by omega)))
  clear hf hrep HW HG HN
  go_wp2_with fail
  refine (sum_ok HREP.out (by simpa using hs) HG2.out).mono ?_
  rintro e0 w3 ⟨rfl, hb3⟩
  have HB3 := Lib.hid (HB2.out.trans (hb3.mono HB2.out.size))
  clear hb3
  go_wp2
  go_ret
  exact ⟨rfl, HB3.out⟩
end Go.Proofs.YtjkbbndiickcnaaDoor
