/- The document's disk: what firm makes of the loose writes that are kept; Flush and Crash. No condition but what each law names. -/
import Derived.Test.YtpkhddnehhophaaRefB
import Derived.RegionTactic

namespace Go.Proofs.Ytpkhddnehhophaa
open Go.RowKit
set_option linter.unusedVariables false

/-- A row of truths. -/
def BoolsAt (w : World) (gk n : Nat) (kp : Nat → Bool) : Prop := ∃ cur, w.heap[gk]? = some (.cells cur 4 (0, 0)) ∧ cur.size = n ∧ ∀ j, j < n → cur[j]? = some (.bool (kp j))

def RS.firmed (R : RS) (kp : Nat → Bool) : RS := { R with firm := keptZ R.loose kp R.firm, loose := [] }
theorem keptZ_take (l : List (Nat × List UInt8)) (kp : Nat → Bool) (f : Nat → List UInt8) (k : Nat) (h : k < l.length) : keptZ (l.take (k + 1)) kp f = if kp k then upd (keptZ (l.take k) kp f) l[k].1 l[k].2 else keptZ (l.take k) kp f := by
  rw [List.take_succ_eq_append_getElem h]
  have := keptZ_snoc (l.take k) kp f l[k].1 l[k].2
  rw [show (l[k].1, l[k].2) = l[k] from rfl] at this
  rw [this, List.length_take, Nat.min_eq_left (by omega)]

theorem RRep.setFirm {w : World} {B b g cap : Nat} {lv : Value} {R : RS} (h : RRep w B b g cap lv R) (i : Nat) (hi : i < R.n) (s : List UInt8) :
    RRep (w.setCell ⟨g, i, none⟩ (.string ⟨s.toArray⟩)) B b g cap lv { R with firm := upd R.firm i s } := by
  have hne := h.ne
  have hF : Fr (fun k => k = g) w (w.setCell ⟨g, i, none⟩ (.string ⟨s.toArray⟩)) := Fr.setCell (S := fun k => k = g) (Fr.refl _ w) (p := ⟨g, i, none⟩) rfl _
  have hbN : b < w.heap.size := (Array.getElem?_eq_some_iff.1 h.hd).1
  refine ⟨h.hb, (hF.block b hbN (fun e => hne.1 e.symm)).trans h.hd, h.hn, ?_, own_fr h.hl hF (fun k hk e => hne.2.2 (by rw [hk, e])), h.hx, h.hm, h.h0, h.h1⟩
  have := (World.ownsRow.stored h.hf i (.string ⟨s.toArray⟩)).1
  rw [strs_upd _ _ _ _ hi] at this
  exact this
theorem RRep.drew {w : World} {B b g cap : Nat} {lv : Value} {R : RS} (h : RRep w B b g cap lv R) : RRep w.drew B b g cap lv R :=
  h.kept ((Fr.refl (fun _ => False) w).drew) (fun _ _ => id)

set_option maxRecDepth 100000 in
set_option maxHeartbeats 1000000 in
theorem firm_ok {w : World} {B b g cap : Nat} {lv : Value} {R : RS} (h : RRep w B b g cap lv R) (gk c : Nat) (kp : Nat → Bool) (hk : BoolsAt w gk R.loose.length kp) :
    Calls Try.prog 33 #[.pointer (some ⟨b, 0, none⟩), .slice (some ⟨gk, 0, none⟩) R.loose.length c] w fun e w' => e = .returned (.tuple #[]) ∧ (RRep w' B b g cap (.slice none 0 0) (R.firmed kp) ∧ Fr (RFoot b g lv) w w') := by
  obtain ⟨p, cl, hlv⟩ := h.sl
  have hm := h.hm
  have hn := h.hn
  go_enter Try.func33, Try.ntmps33
  go_wp2
  go_loopw [4] (fun i wr => ∃ k : Nat, k ≤ R.loose.length ∧ i = .int .i64 k ∧ Hid (RRep wr B b g cap lv { R with firm := keptZ (R.loose.take k) kp R.firm }) ∧ Hid (Fr (fun k => k = g) w wr)) (fun i _ => R.loose.length - (intOf i).toNat)
  case atStart => exact ⟨0, Nat.zero_le _, rfl, Lib.hid h, Lib.hid (Fr.refl _ _)⟩
  case round =>
    obtain ⟨k, hk1, rfl, hr, hf⟩ := hrel
    obtain ⟨c0, c1, -, -⟩ := hr.out.c
    rw [hlv] at c1
    by_cases hlt : k < R.loose.length
    · obtain ⟨gl, c2, hlv2, hgl, hBl, ca, cb⟩ := hr.out.at k hlt
      have hpe := hlv.symm.trans hlv2
      simp only [Value.slice.injEq] at hpe
      obtain ⟨rfl, -, rfl⟩ := hpe
      obtain ⟨cur, hg, hs, hcur⟩ := hk
      have hxk : R.loose[k].1 < R.n := h.hx _ (List.getElem_mem hlt)
      have HT := Lib.hid (keptZ_take R.loose kp R.firm k hlt)
      -- the row of truths is as it was
      have hgkne : gk ≠ g := by
        rintro rfl
        rcases h.hf.2 with ⟨hv, _⟩ | ⟨g2, c2, cur2, hv, _, hg2, _⟩
        · cases hv
        · cases hv; rw [hg2] at hg; simp at hg
      have hgk : wr.heap[gk]? = some (.cells cur 4 (0, 0)) := (hf.out.block gk (Array.getElem?_eq_some_iff.1 hg).1 hgkne).trans hg
      have ck : wr.cell? ⟨gk, k, none⟩ = some (.bool (kp k)) := by rw [cell_of_row _ _ _ _ _ _ hgk]; exact hcur k hlt
      have cfi := hr.out.firmAt R.loose[k].1 hxk
      have ffi : wr.frozen? ⟨g, R.loose[k].1, none⟩ = false := by
        rcases hr.out.hf.2 with ⟨hv, _⟩ | ⟨g2, c2, cur2, hv, _, hg2, _⟩
        · cases hv
        · cases hv; exact frozen_of_row _ _ _ _ _ hg2
      have hnew := hr.out.setFirm R.loose[k].1 hxk R.loose[k].2
      have hFn : Fr (fun k => k = g) w (wr.setCell ⟨g, R.loose[k].1, none⟩ (.string ⟨(R.loose[k].2).toArray⟩)).drew := (Fr.setCell (S := fun k => k = g) hf.out (p := ⟨g, R.loose[k].1, none⟩) rfl _).drew
      cases hkp : kp k with
      | true =>
        rw [hkp] at ck
        have HT2 := HT.out
        rw [hkp, if_pos rfl] at HT2
        have HN : Hid (RRep (wr.setCell ⟨g, R.loose[k].1, none⟩ (.string ⟨(R.loose[k].2).toArray⟩)).drew B b g cap lv { R with firm := keptZ (R.loose.take (k + 1)) kp R.firm }) := by
          unfold Hid
          rw [HT2]
          exact hnew.drew
        have HF := Lib.hid hFn
        clear hnew hFn HT HT2 hr hf hkp hgk hg
        have e1 : (0 : Int) ≤ (k : Int) := by omega
        have e2 : (0 : Int) ≤ (R.loose[k].1 : Int) := by omega
        have e3 : (R.loose[k].1 : Int) < (R.n : Int) := by omega
        generalize R.loose[k].1 = li at *
        generalize R.loose[k].2 = ls at *
        go_wp2
        go_region
        go_wp2
        go_roundw
        case rel => exact ⟨k + 1, by omega, by go_num, HN, HF⟩
        case measure => simp [intOf]; omega
      | false =>
        rw [hkp] at ck
        have HT2 := HT.out
        rw [hkp, if_neg (by simp)] at HT2
        have HN : Hid (RRep wr B b g cap lv { R with firm := keptZ (R.loose.take (k + 1)) kp R.firm }) := by
          unfold Hid
          rw [HT2]
          exact hr.out
        clear hnew hFn HT HT2 hr hkp hgk hg
        go_wp2
        go_roundw
        case rel => exact ⟨k + 1, by omega, by go_num, HN, hf⟩
        case measure => simp [intOf]; omega
    · have f1 := hr.out.f 1
      have hR2 : RRep (wr.setCell ⟨b, 1, none⟩ (.slice none 0 0)) B b g cap (.slice none 0 0) (R.firmed kp) := by
        have := RRep.mkLoose (lv2 := .slice none 0 0) hr.out.hb hr.out.hd hr.out.hn hr.out.hf hr.out.h0 hr.out.h1 [] (World.ownsRow_nil _ _ _ _) (by simp) (by simp)
        rw [List.take_of_length_le (by omega)] at this
        exact this
      have hF2 : Fr (RFoot b g lv) w (wr.setCell ⟨b, 1, none⟩ (.slice none 0 0)) := Fr.setCell (S := RFoot b g lv) (hf.out.mono (fun j _ e => Or.inr (Or.inl e))) (p := ⟨b, 1, none⟩) (Or.inl rfl) _
      rw [hlv] at hF2
      have HFIN := Lib.hid (And.intro hR2 hF2)
      clear hR2 hF2 hr hf hk
      go_wp2
      go_end0
      exact ⟨rfl, HFIN.out⟩

theorem info4r : (Try.prog.info? 4).map (fun i => (i.zero, i.size, i.bytes)) = some (some (.bool false), 1, 1) := by kernel_rfl
theorem make_bools (m : Nat) (hm : m ≤ 1000000) : ∀ W : World, (Instr.makeSlice 74 (.int .i64 (m : Int)) (.int .i64 (m : Int))).run Try.prog W = .ok (.slice (some ⟨W.heap.size, 0, none⟩) m m) (W.alloc (.cells (madeCells (Value.bool false).cells m) 4)) := fun W => by
  obtain ⟨i0, hi, hz0, hz1, hz2⟩ := info_parts info4r
  have h := run_make (P := Try.prog) W 74 4 i0 (.bool false) Try.underlying74 hi hz0 .i64 .i64 (m : Int) (m : Int) (by omega) (by omega) (by rw [hz2]; omega) (by omega)
  rw [hz1] at h
  simpa using h

set_option maxHeartbeats 400000 in
theorem rflush_down {w : World} {B b g cap : Nat} {lv : Value} {R : RS} (h : RRep w B b g cap lv R) (hd : R.down = true) :
    Calls Try.prog 25 #[.pointer (some ⟨b, 0, none⟩)] w fun e w' => e = .returned (.int .i64 7) ∧ w = w' := by
  obtain ⟨-, -, c2, -⟩ := h.c
  rw [hd] at c2
  clear h hd
  go_enter Try.func25, Try.ntmps25
  go_wp2
  go_ret
  exact ⟨rfl, rfl⟩

set_option maxRecDepth 100000 in
set_option maxHeartbeats 1000000 in
theorem rflush_ok {w : World} {B b g cap : Nat} {lv : Value} {R : RS} (h : RRep w B b g cap lv R) (hd : R.down = false) :
    Calls Try.prog 25 #[.pointer (some ⟨b, 0, none⟩)] w fun e w' => e = .returned (.int .i64 0) ∧ (RRep w' B b g cap (.slice none 0 0) (R.firmed fun _ => true) ∧ Fr (RFoot b g lv) w w') := by
  obtain ⟨p, cl, hlv⟩ := h.sl
  have hm := h.hm
  obtain ⟨-, c1, c2, -⟩ := h.c
  rw [hd] at c2
  rw [hlv] at c1
  have hmk := make_bools R.loose.length hm
  have HH := Lib.hid h
  have HLV := Lib.hid hlv
  clear h hlv hd
  generalize hlen : R.loose.length = m at *
  have HLEN := Lib.hid hlen
  clear hlen
  go_enter Try.func25, Try.ntmps25
  go_wp2
  go_loopw [4] (fun i wr => ∃ k : Nat, ∃ cur, k ≤ m ∧ i = .int .i64 k ∧ wr = w.alloc (.cells cur 4) ∧ Hid (cur.size = m) ∧ Hid (∀ j, j < m → cur[j]? = some (.bool (decide (j < k))))) (fun i _ => m - (intOf i).toNat)
  case atStart => exact ⟨0, _, Nat.zero_le _, rfl, rfl, Lib.hid (size_madeCells _ _), Lib.hid (fun j hj => by rw [show decide (j < 0) = false from rfl]; exact made_get (.bool false) m j rfl hj)⟩
  case round =>
    obtain ⟨k, cur, hk, rfl, rfl, hcs, hcur⟩ := hrel
    by_cases hlt : k < m
    · have hold : (w.alloc (.cells cur 4)).cell? ⟨w.heap.size, k, none⟩ = some (.bool false) := by
        rw [cell_of_row _ _ _ _ _ _ (heap_alloc_new w _), hcur.out k hlt]; simp
      clear hmk
      go_wp2
      go_roundw
      case rel =>
        refine ⟨k + 1, _, by omega, by go_num, rfl, Lib.hid (by rw [Array.size_setIfInBounds]; exact hcs.out), Lib.hid (fun j hj => ?_)⟩
        rw [Array.getElem?_setIfInBounds]
        by_cases e : k = j
        · subst e
          rw [if_pos rfl, if_pos (by rw [hcs.out]; exact hlt)]; simp
        · rw [if_neg e, hcur.out j hj]
          congr 2
          rw [decide_eq_decide]; omega
      case measure => simp [intOf]; omega
    · obtain rfl : k = m := by omega
      have h2 := HH.out.kept ((Fr.refl (fun _ => False) w).alloc (.cells cur 4)) (fun _ _ => id)
      have HF := firm_ok h2 w.heap.size k (fun _ => true) (by
        rw [HLEN.out]
        exact ⟨cur, heap_alloc_new w _, hcs.out, fun j hj => by rw [hcur.out j hj]; simp [hj]⟩)
      rw [HLEN.out] at HF
      have HF := Lib.hid HF
      have hF0 := Lib.hid ((Fr.refl (fun _ => False) w).alloc (.cells cur 4))
      clear h2 hmk
      go_wp2_with fail
      refine HF.out.mono ?_
      rintro e w2 ⟨rfl, hR, hFr⟩
      have HFIN : Hid (RRep w2 B b g cap (.slice none 0 0) (R.firmed fun _ => true) ∧ Fr (RFoot b g lv) w w2) := Lib.hid ⟨hR, (hF0.out.mono (fun _ _ h => h.elim)).trans hFr⟩
      clear hR hFr HF
      go_wp2
      go_ret
      exact ⟨rfl, HFIN.out⟩
end Go.Proofs.Ytpkhddnehhophaa
