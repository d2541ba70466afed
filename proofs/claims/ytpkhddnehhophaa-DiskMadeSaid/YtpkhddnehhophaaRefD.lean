/- The document's disk: Crash and Turn. No condition but what each law names. -/
import Derived.Test.YtpkhddnehhophaaRefC
import Derived.Deep.RegionHeld3
import Derived.Deep.CutBlock
import Derived.Deep.DeepCutAuto

namespace Go.Proofs.Ytpkhddnehhophaa
open Go.RowKit
set_option linter.unusedVariables false

def RS.crash (R : RS) (zs : List Int) : RS := { R.firmed (marked zs) with down := false, left := -1 }

set_option maxRecDepth 100000 in
set_option maxHeartbeats 2000000 in
theorem rcrash_ok {w : World} {B b g cap : Nat} {lv : Value} {R : RS} (h : RRep w B b g cap lv R) (p : Option Addr) (zs : List Int) (hzl : zs.length ≤ 9223372036854775807) (c : Nat)
    (hp : Hid (∀ j (h : j < zs.length), ∃ g off, p = some ⟨g, off, none⟩ ∧ w.cell? ⟨g, off + j, none⟩ = some (.int .i64 zs[j]))) :
    Calls Try.prog 27 #[.pointer (some ⟨b, 0, none⟩), .slice p zs.length c] w fun e w' => e = .returned (.tuple #[]) ∧ (RRep w' B b g cap (.slice none 0 0) (R.crash zs) ∧ Fr (RFoot b g lv) w w') := by
  obtain ⟨pl, cl, hlv⟩ := h.sl
  have hm := h.hm
  obtain ⟨-, c1, -, -⟩ := h.c
  rw [hlv] at c1
  have hmk := make_bools R.loose.length hm
  have HH := Lib.hid h
  have HLV := Lib.hid hlv
  clear h hlv
  generalize hlen : R.loose.length = n at *
  have HLEN := Lib.hid hlen
  clear hlen
  go_enter Try.func27, Try.ntmps27
  go_wp2
  clear hmk
  go_loopw [5] (fun i wr => ∃ k : Nat, ∃ cur, k ≤ zs.length ∧ i = .int .i64 k ∧ wr = w.alloc (.cells cur 4) ∧ cur.size = n ∧ ∀ j, j < n → cur[j]? = some (.bool (marked (zs.take k) j))) (fun i _ => zs.length - (intOf i).toNat)
  case atStart => exact ⟨0, _, Nat.zero_le _, rfl, rfl, (by rw [size_madeCells]), fun j hj => made_get (.bool false) n j rfl hj⟩
  case round =>
    obtain ⟨k, cur, hk, rfl, rfl, hcs, hcur⟩ := hrel
    have HC := Lib.hid hcur
    have HS := Lib.hid hcs
    clear hcur hcs
    by_cases hlt : k < zs.length
    · obtain ⟨gz, off, hpe, hcell⟩ := hp.out k hlt
      subst hpe
      have hgN : gz < w.heap.size := block_lt_of_cell hcell
      have hcell2 : (w.alloc (.cells cur 4)).cell? ⟨gz, off + k, none⟩ = some (.int .i64 zs[k]) := (World.cell?_of_block (w := w) (a := ⟨gz, off + k, none⟩) (Below.heap_alloc w _ gz hgN)).trans hcell
      clear hcell
      have HT : Hid (zs.take (k + 1) = zs.take k ++ [zs[k]]) := by unfold Hid; rw [List.take_succ_eq_append_getElem hlt]
      generalize zs[k] = z at *
      by_cases hz : 0 ≤ z ∧ z < n
      · obtain ⟨hz1, hz2⟩ := hz
        obtain ⟨q, rfl⟩ := Int.eq_ofNat_of_zero_le hz1
        have hqn : q < n := by omega
        have hold : (w.alloc (.cells cur 4)).cell? ⟨w.heap.size, q, none⟩ = some (.bool (marked (zs.take k) q)) := by rw [cell_of_row _ w.heap.size q cur 4 (0, 0) (heap_alloc_new w _)]; exact HC.out q hqn
        go_wp2
        go_roundw
        case rel =>
          refine ⟨k + 1, _, by omega, by go_num, rfl, by rw [Array.size_setIfInBounds]; exact HS.out, fun j hj => ?_⟩
          rw [HT.out, Array.getElem?_setIfInBounds, marked_snoc]
          by_cases e : q = j
          · subst e
            rw [if_pos rfl, if_pos (by rw [HS.out]; exact hqn)]
            simp
          · rw [if_neg e, HC.out j hj]
            have : ((q : Int) == (j : Int)) = false := by simp; omega
            rw [this, Bool.or_false]
        case measure => simp [intOf]; omega
      · have hrel2 : Hid (∀ j, j < n → cur[j]? = some (.bool (marked (zs.take (k + 1)) j))) := by
          intro j hj
          rw [HT.out, marked_snoc, HC.out j hj]
          have : (z == (j : Int)) = false := by simp; omega
          rw [this, Bool.or_false]
        clear HC HT
        by_cases hz1 : 0 ≤ z
        · have hz2 : (n : Int) ≤ z := by omega
          have hz3 : ¬ z < (n : Int) := by omega
          have hz4 : decide (z < (n : Int)) = false := by simpa using hz2
          clear hz
          go_wp2
          go_roundw
          case rel => exact ⟨k + 1, cur, by omega, by go_num, rfl, HS.out, hrel2.out⟩
          case measure => simp [intOf]; omega
        · have hz4 : decide (0 ≤ z) = false := by simpa using hz1
          clear hz
          go_wp2
          go_roundw
          case rel => exact ⟨k + 1, cur, by omega, by go_num, rfl, HS.out, hrel2.out⟩
          case measure => simp [intOf]; omega
    · obtain rfl : k = zs.length := by omega
      have h2 := HH.out.kept ((Fr.refl (fun _ => False) w).alloc (.cells cur 4)) (fun _ _ => id)
      have HF := firm_ok h2 w.heap.size n (marked zs) (by
        rw [HLEN.out]
        refine ⟨cur, heap_alloc_new w _, HS.out, fun j hj => ?_⟩
        rw [HC.out j hj, List.take_length])
      rw [HLEN.out] at HF
      have HF := Lib.hid HF
      have hF0 := Lib.hid ((Fr.refl (fun _ => False) w).alloc (.cells cur 4))
      clear h2 hp
      go_wp2_with fail
      refine HF.out.mono ?_
      rintro e w2 ⟨rfl, hR, hFr⟩
      obtain ⟨-, -, c2, -⟩ := hR.c
      have f2 := hR.f 2
      have hR2 := hR.setDown false
      obtain ⟨-, -, -, c3⟩ := hR2.c
      have f3 := hR2.f 3
      have hR3 := hR2.setLeft (-1) (by omega) (by omega)
      have hF3 : Fr (RFoot b g lv) w ((w2.setCell ⟨b, 2, none⟩ (.bool false)).setCell ⟨b, 3, none⟩ (.int .i64 (-1))) := Fr.setCell (S := RFoot b g lv) (Fr.setCell (S := RFoot b g lv) ((hF0.out.mono (fun _ _ h => h.elim)).trans hFr) (p := ⟨b, 2, none⟩) (Or.inl rfl) _) (p := ⟨b, 3, none⟩) (Or.inl rfl) _
      have HFIN := Lib.hid (And.intro hR3 hF3)
      clear hR hR2 hR3 hFr hF3 HF
      go_wp2
      go_end0
      exact ⟨rfl, HFIN.out⟩

set_option maxHeartbeats 1000000 in
theorem rturn_arg {w : World} {B b g cap : Nat} {lv : Value} {R : RS} (h : RRep w B b g cap lv R) (i k v : Int)
    (hp : decide (i < 0) = true ∨ (decide (i < 0) = false ∧ decide ((R.n : Int) ≤ i) = true) ∨ (decide (i < 0) = false ∧ decide ((R.n : Int) ≤ i) = false ∧ (decide (k < 0) = true ∨ (decide (k < 0) = false ∧ decide (64 ≤ k) = true) ∨ (decide (k < 0) = false ∧ decide (64 ≤ k) = false ∧ decide (v < 1) = true) ∨ (decide (k < 0) = false ∧ decide (64 ≤ k) = false ∧ decide (v < 1) = false ∧ decide (255 < v) = true)))) :
    Calls Try.prog 28 #[.pointer (some ⟨b, 0, none⟩), .int .i64 i, .int .i64 k, .int .i64 v] w fun e w' => e = .returned (.int .i64 1) ∧ w = w' := by
  obtain ⟨c0, -, -, -⟩ := h.c
  have hn := h.hn
  clear h
  generalize R.n = n at *
  rcases hp with h1 | ⟨h1, h2⟩ | ⟨h1, h2, h1' | ⟨h1', h2'⟩ | ⟨h1', h2', h3⟩ | ⟨h1', h2', h3, h4⟩⟩
  all_goals
    go_enter Try.func28, Try.ntmps28
    go_wp2
    go_ret
    exact ⟨rfl, rfl⟩

set_option maxHeartbeats 400000 in
theorem rturn_have {w : World} {B b g cap : Nat} {lv : Value} {R : RS} (h : RRep w B b g cap lv R) (i k v : Int) (h1 : decide (i < 0) = false) (h2 : decide ((R.n : Int) ≤ i) = false) (hk : decide (k < 0) = false) (hk2 : decide (64 ≤ k) = false) (hv : decide (v < 1) = false) (hv2 : decide (255 < v) = false) (hl : 0 < R.loose.length) :
    Calls Try.prog 28 #[.pointer (some ⟨b, 0, none⟩), .int .i64 i, .int .i64 k, .int .i64 v] w fun e w' => e = .returned (.int .i64 3) ∧ w = w' := by
  obtain ⟨c0, c1, -, -⟩ := h.c
  obtain ⟨p, c, hlv⟩ := h.sl
  rw [hlv] at c1
  have hm := h.hm
  have hn := h.hn
  clear h hlv
  generalize R.n = n at *
  generalize R.loose.length = m at *
  go_enter Try.func28, Try.ntmps28
  go_wp2
  go_ret
  exact ⟨rfl, rfl⟩

/-- '[]byte(s)': a new row that begins with s. -/
theorem conv_text (w : World) (s : List UInt8) : ∃ cap row, (Go.convert 9 25 (.string ⟨s.toArray⟩)).run Try.prog w = .ok (.slice (some ⟨w.heap.size, 0, none⟩) s.length cap) (w.alloc (.cells row 5 (row.size, row.size + 1))).drew ∧ s.length ≤ cap ∧ s.length ≤ row.size ∧ ∀ j, j < s.length → row[j]? = some (bget s j) := by
  have h := run_bytes_of_string (P := Try.prog) w 9 25 5 ⟨s.toArray⟩ Try.underlying9 Try.underlying25 Try.underlying5
  have hsz : (⟨s.toArray⟩ : ByteArray).size = s.length := rfl
  rw [hsz] at h
  refine ⟨grownCap w s.length 0 5, bytesRow ⟨s.toArray⟩ (grownCap w s.length 0 5), h, grownCap_ge w s.length 0 5, ?_, ?_⟩
  · unfold bytesRow
    rw [Array.size_append, Array.size_map]
    have : (⟨s.toArray⟩ : ByteArray).data.size = s.length := rfl
    omega
  · intro j hj
    unfold bytesRow
    have h1 : (Array.map (fun b : UInt8 => Value.int .u8 (b.toNat : Int)) s.toArray).size = s.length := by rw [Array.size_map]; rfl
    rw [Array.getElem?_append_left (by rw [h1]; exact hj)]
    rw [Array.getElem?_map, List.getElem?_toArray, List.getElem?_eq_getElem hj, bget_of s j hj]
    rfl
theorem frozen_behind (w : World) (g j : Nat) (cs : Array Value) (t : TypeId) (z : Nat) (hg : w.heap[g]? = some (.cells cs t (z, z + 1))) (hj : j < z) : w.frozen? ⟨g, j, none⟩ = false := by
  unfold World.frozen?
  simp [hg]
  omega
theorem heap_set_any (w : World) (g i : Nat) (cs : Array Value) (t : TypeId) (fr : Nat × Nat) (v : Value) (hg : w.heap[g]? = some (.cells cs t fr)) : (w.setCell ⟨g, i, none⟩ v).heap[g]? = some (.cells (cs.setIfInBounds i v) t fr) := by
  simp [World.setCell, Array.getElem?_modify, hg]

def turned (s : List UInt8) (k v : Nat) : List UInt8 := s.set k (s.getD k 0 ^^^ UInt8.ofNat v)
theorem turned_at (s : List UInt8) (k v : Nat) (h : k < (turned s k v).length) : (turned s k v)[k] = s.getD k 0 ^^^ UInt8.ofNat v := by simp [turned]
theorem turned_ne (s : List UInt8) (k v j : Nat) (e : ¬ k = j) (h : j < (turned s k v).length) : (turned s k v)[j] = s[j]'(by simpa [turned] using h) := by simp [turned, e]
def RS.turn (R : RS) (i k v : Nat) : RS := { R with firm := upd R.firm i (turned (R.firm i) k v) }

set_option maxRecDepth 100000 in
set_option maxHeartbeats 2000000 in
theorem rturn_ok {w : World} {B b g cap : Nat} {lv : Value} {R : RS} (h : RRep w B b g cap lv R) (hl : R.loose = []) (i k v : Nat) (hi : i < R.n) (h64 : (R.firm i).length = 64) (hk : k < 64) (hv : 1 ≤ v) (hv2 : v ≤ 255) :
    Calls Try.prog 28 #[.pointer (some ⟨b, 0, none⟩), .int .i64 i, .int .i64 k, .int .i64 v] w fun e w' => e = .returned (.int .i64 0) ∧ (RRep w' B b g cap lv (R.turn i k v) ∧ Fr (RFoot b g lv) w w') := by
  obtain ⟨c0, c1, -, -⟩ := h.c
  obtain ⟨p, c, hlv⟩ := h.sl
  rw [hlv, hl] at c1
  have hn := h.hn
  have cf := h.firmAt i hi
  have d1 : decide ((i : Int) < 0) = false := by simp
  have d2 : decide ((R.n : Int) ≤ (i : Int)) = false := by simp; omega
  have d3 : decide ((k : Int) < 0) = false := by simp
  have d4 : decide (64 ≤ (k : Int)) = false := by simp; omega
  have d5 : decide ((v : Int) < 1) = false := by simp; omega
  have d6 : decide (255 < (v : Int)) = false := by simp; omega
  have e7 : (v : Int) % 256 = (v : Int) := by omega
  obtain ⟨cp, row, hcv, hcap, hrs, hrow⟩ := conv_text w (R.firm i)
  rw [h64] at hcv hcap hrs hrow
  have HH := Lib.hid h
  have HROW := Lib.hid hrow
  have HRS := Lib.hid hrs
  have HCAP := Lib.hid hcap
  have H64 := Lib.hid h64
  clear h hlv hl hrow hrs hcap h64
  -- the world behind the turn
  have hg1 : (w.alloc (.cells row 5 (row.size, row.size + 1))).drew.heap[w.heap.size]? = some (.cells row 5 (row.size, row.size + 1)) := heap_alloc_new w _
  have hc1 : (w.alloc (.cells row 5 (row.size, row.size + 1))).drew.cell? ⟨w.heap.size, k, none⟩ = some (bget (R.firm i) k) := by
    rw [cell_of_row _ _ _ _ _ _ hg1]; exact HROW.out k hk
  unfold bget at hc1
  have hf1 : (w.alloc (.cells row 5 (row.size, row.size + 1))).drew.frozen? ⟨w.heap.size, k, none⟩ = false := frozen_behind _ _ _ _ _ _ hg1 (by have := HRS.out; omega)
  obtain ⟨x, hx⟩ : ∃ x, Hid (x = (R.firm i).getD k 0) := ⟨_, Lib.hid rfl⟩
  rw [← hx.out] at hc1
  have bx : x.toNat < 256 := UInt8.toNat_lt x
  obtain ⟨y, hy⟩ : ∃ y, Hid (y = x.toNat ^^^ v) := ⟨_, Lib.hid rfl⟩
  have hxy : bits .xor .u8 (x.toNat : Int) (v : Int) = (y : Int) := by rw [hy.out]; exact u8_xor_nat _ _ bx (by omega)
  have HG1 := Lib.hid hg1
  clear hg1
  obtain ⟨W2, hW2⟩ : ∃ W2, W2 = ((w.alloc (.cells row 5 (row.size, row.size + 1))).setCell ⟨w.heap.size, k, none⟩ (.int .u8 (y : Int))).drew := ⟨_, rfl⟩
  have HW2 := Lib.hid hW2
  clear hW2
  -- what stands there then
  have hF2 : Fr (fun _ => False) w (w.alloc (.cells row 5 (row.size, row.size + 1))).drew := ((Fr.refl _ w).alloc _).drew
  have hF3 : Fr (fun _ => False) w W2 := by
    rw [HW2.out]
    refine ⟨rfl, rfl, rfl, by simp [World.setCell], fun j hj _ => ?_⟩
    exact (Below.heap_setCell (w.alloc (.cells row 5 (row.size, row.size + 1))) ⟨w.heap.size, k, none⟩ _ j (show j ≠ w.heap.size by omega)).trans (Below.heap_alloc _ _ _ hj)
  have hR2 := HH.out.kept hF3 (fun _ _ => id)
  have hg2 : W2.heap[w.heap.size]? = some (.cells (row.setIfInBounds k (.int .u8 (y : Int))) 5 (row.size, row.size + 1)) := by
    rw [HW2.out]; exact heap_set_any _ _ _ _ _ _ _ (heap_alloc_new w _)
  have htl : (turned (R.firm i) k v).length = 64 := by unfold turned; rw [List.length_set]; exact H64.out
  have hcv2 : (Go.convert 25 9 (.slice (some ⟨w.heap.size, 0, none⟩) 64 cp)).run Try.prog W2.drew = .ok (.string ⟨(turned (R.firm i) k v).toArray⟩) W2.drew := by
    have := run_convert_bytes_back W2.drew 25 9 5 ⟨w.heap.size, 0, none⟩ cp (turned (R.firm i) k v) Try.underlying25 Try.underlying5 Try.underlying9 (fun j hj => by
      have hj2 : j < 64 := by rw [htl] at hj; exact hj
      have hrs := HRS.out
      have h64 := H64.out
      rw [addr_add, Nat.zero_add, cell_of_row W2.drew _ _ _ _ _ hg2, Array.getElem?_setIfInBounds]
      by_cases e : k = j
      · subst e
        rw [if_pos rfl, if_pos (by omega)]
        rw [turned_at, UInt8.toNat_xor, ← hx.out, UInt8.toNat_ofNat', Nat.mod_eq_of_lt (by omega), hy.out]
      · rw [if_neg e, HROW.out j hj2, bget_of _ _ (by omega), turned_ne _ _ _ _ e])
    rwa [htl] at this
  obtain ⟨e0, -, -, -⟩ := hR2.c
  have ef := hR2.firmAt i hi
  have eff : W2.frozen? ⟨g, i, none⟩ = false := by
    rcases hR2.hf.2 with ⟨hv, _⟩ | ⟨g2, c2, cur2, hv, _, hg2, _⟩
    · cases hv
    · cases hv; exact frozen_of_row _ _ _ _ _ hg2
  have hR3 : RRep (W2.setCell ⟨g, i, none⟩ (.string ⟨(turned (R.firm i) k v).toArray⟩)).drew B b g cap lv (R.turn i k v) := (hR2.setFirm i hi _).drew
  have hF4 : Fr (RFoot b g lv) w (W2.setCell ⟨g, i, none⟩ (.string ⟨(turned (R.firm i) k v).toArray⟩)).drew := (Fr.setCell (S := RFoot b g lv) (hF3.mono (fun _ _ h => h.elim)) (p := ⟨g, i, none⟩) (Or.inr (Or.inl rfl)) _).drew
  have HFIN := Lib.hid (And.intro hR3 hF4)
  have HCV2 := Lib.hid hcv2
  have HE0 := Lib.hid e0
  have HEF := Lib.hid ef
  have HEFF := Lib.hid eff
  clear hF2 hF3 hR2 hg2 htl hcv2 e0 ef eff hR3 hF4
  generalize turned (R.firm i) k v = ts at *
  generalize R.n = n at *
  go_enter Try.func28, Try.ntmps28
  go_upto_region 7 with (fail)
  rw [← HW2.out]
  have hcv2 := HCV2.out
  have e0 := HE0.out
  have ef := HEF.out
  have eff := HEFF.out
  clear c0 cf hcv hc1 hf1 hxy
  go_region
  go_wp2
  go_ret
  exact ⟨rfl, HFIN.out⟩
end Go.Proofs.Ytpkhddnehhophaa
