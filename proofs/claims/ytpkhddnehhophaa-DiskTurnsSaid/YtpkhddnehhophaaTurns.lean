/- The walk of DiskTurns: it returns true, and changes nothing that was there. -/
import Derived.Test.YtpkhddnehhophaaErrs
namespace Go.Proofs.Ytpkhddnehhophaa
open Go.RowKit
set_option linter.unusedVariables false

def SA : List UInt8 := pad [97, 98, 99]
def SE : List UInt8 := pad []
theorem SA_length : SA.length = 64 := pad_length _
theorem SE_length : SE.length = 64 := pad_length _
theorem sector_abc (w : World) : Calls Try.prog 14 #[.string ⟨#[97, 98, 99]⟩] w fun e w' => e = .returned (.string ⟨SA.toArray⟩) ∧ Fr (fun _ => False) w w' := sector_walk _ (by decide) w
theorem sector_none (w : World) : Calls Try.prog 14 #[.string ⟨#[]⟩] w fun e w' => e = .returned (.string ⟨SE.toArray⟩) ∧ Fr (fun _ => False) w w' := sector_walk _ (by decide) w

/-- Only what was made since has turned. -/
abbrev New (N : Nat) (w w' : World) : Prop := Fr (fun k => N ≤ k) w w'
theorem New.none {N : Nat} {a b c : World} (h : New N a b) (k : Fr (fun _ => False) b c) : New N a c := h.trans (k.mono (fun _ _ h => h.elim))
theorem New.foot {N : Nat} {a w w' : World} {B b bs : Nat} {lv : Value} {D : DS} (h : New N a w) (k : Fr (Foot b bs lv) w w') (R : Rep w B b bs lv D) (hB : N ≤ B) : New N a w' := by
  refine h.trans (k.mono (fun j _ hj => ?_))
  rcases hj with rfl | rfl | hj
  · have := R.hb; omega
  · have := R.hbs; omega
  · have := (R.hl.lt j hj).1; omega

/-- '[]byte(s)': a new row that begins with s. -/
theorem conv_str (w : World) (s : List UInt8) (hs : s.length = 64) : ∃ cap row, (∀ (ρ : Operand → Value) (o : Oper) (x : Operand), o.op = .convert 9 25 x → ρ x = .string ⟨s.toArray⟩ → (execOp ρ o).run Try.prog w = .ok (.value (.slice (some ⟨w.heap.size, 0, none⟩) 64 cap)) (w.alloc (.cells row 5 (row.size, row.size + 1))).drew) ∧ 64 ≤ cap ∧ 64 ≤ row.size ∧ ∀ j, j < 64 → row[j]? = some (bget s j) := by
  have hsz : (⟨s.toArray⟩ : ByteArray).size = 64 := hs
  have h := run_bytes_of_string (P := Try.prog) w 9 25 5 ⟨s.toArray⟩ Try.underlying9 Try.underlying25 Try.underlying5
  rw [hsz] at h
  have hcap := grownCap_ge w 64 0 5
  refine ⟨grownCap w 64 0 5, bytesRow ⟨s.toArray⟩ (grownCap w 64 0 5), ?_, hcap, ?_, ?_⟩
  · intro ρ o x ho hx
    unfold execOp
    simp only [ho, hx, Sem.run_bind, h, Result.andThen_ok]
    rfl
  · unfold bytesRow
    rw [Array.size_append, Array.size_map]
    have : (⟨s.toArray⟩ : ByteArray).data.size = 64 := hs
    omega
  · intro j hj
    unfold bytesRow
    have h1 : (Array.map (fun b : UInt8 => Value.int .u8 (b.toNat : Int)) s.toArray).size = 64 := by rw [Array.size_map]; exact hs
    rw [Array.getElem?_append_left (by rw [h1]; exact hj)]
    rw [Array.getElem?_map, List.getElem?_toArray, List.getElem?_eq_getElem (by omega), bget_of s j (by omega)]
    rfl

set_option maxRecDepth 100000 in
set_option maxHeartbeats 4000000 in
theorem turns_walk (A0 A1 A2 : Nat) (n : Int) (hA0 : A0 ≤ 255) (hA1 : A1 ≤ 255) (hA2 : A2 ≤ 255) (hn1 : -9223372036854775808 ≤ n) (hn2 : n ≤ 9223372036854775807) (w : World) :
    Calls Try.prog 7 #[.int .u8 A0, .int .u8 A1, .int .u8 A2, .int .i64 n] w fun e w' => e = .returned (.bool true) ∧ New w.heap.size w w' := by
  obtain ⟨i, hi⟩ : ∃ i : Nat, (A0 : Int) % 32 = (i : Int) := ⟨A0 % 32, by omega⟩
  obtain ⟨k, hk⟩ : ∃ k : Nat, (A1 : Int) % 64 = (k : Int) := ⟨A1 % 64, by omega⟩
  obtain ⟨u, hu⟩ : ∃ u : Nat, (A2 : Int) % 255 = (u : Int) := ⟨A2 % 255, by omega⟩
  obtain ⟨v, hv⟩ : ∃ v : Nat, 1 + (u : Int) = (v : Int) := ⟨u + 1, by omega⟩
  have hi2 : i < 32 := by omega
  have hk2 : k < 64 := by omega
  have hv1 : 1 ≤ v := by omega
  have hv2 : v ≤ 255 := by omega
  go_enter Try.func7, Try.ntmps7
  go_wp2_with fail
  refine (new_ok 32 (by omega) (by omega) w w.heap.size (Nat.le_refl _)).mono ?_
  rintro e w1 ⟨b, bs, rfl, hb, hbs, R1, F1⟩
  have N1 : New w.heap.size w w1 := (Fr.refl _ w).trans (F1.mono (fun _ _ h => h.elim))
  clear F1
  go_wp2_with fail
  refine (err_any 0 _).mono ?_
  rintro e w2 ⟨rfl, rfl⟩
  go_wp2_with fail
  refine (sector_abc _).mono ?_
  rintro e w2 ⟨rfl, F2⟩
  have R2 := R1.kept F2 (fun _ _ => id)
  have N2 := N1.none F2
  clear R1 N1 F2
  go_wp2_with fail
  have hw := write_ok R2 rfl (by decide) i hi2 ⟨SA.toArray⟩ SA_length (by decide) N2.size
  refine hw.mono ?_
  clear hw
  rintro e w3 ⟨rfl, lv, R3, F3, L3⟩
  have N3 := N2.foot F3 R2 (Nat.le_refl _)
  clear R2 N2 F3 L3
  go_wp2_with fail
  have ht := turn_have R3 i k v (by omega) (by show (i : Int) < (32 : Nat); omega) (by simp) (by simp; omega) (by simp; omega) (by simp; omega) (by simp [DS.write, DS.new])
  refine ht.mono ?_
  clear ht
  rintro e w4 ⟨rfl, rfl⟩
  go_wp2_with fail
  have hfl := flush_ok R3 rfl
  refine hfl.mono ?_
  clear hfl
  rintro e w4 ⟨rfl, R4, F4⟩
  have N4 := N3.foot F4 R3 (Nat.le_refl _)
  clear R3 N3 F4
  have e4 : (((DS.new 32).write i (⟨SA.toArray⟩ : ByteArray).data.toList).flush).firm i = SA := by simp [DS.flush, DS.write, upd]
  have d4n : (((DS.new 32).write i (⟨SA.toArray⟩ : ByteArray).data.toList).flush).n = 32 := rfl
  have d4l : (((DS.new 32).write i (⟨SA.toArray⟩ : ByteArray).data.toList).flush).loose = [] := rfl
  have d4d : (((DS.new 32).write i (⟨SA.toArray⟩ : ByteArray).data.toList).flush).down = false := rfl
  generalize ((DS.new 32).write i (⟨SA.toArray⟩ : ByteArray).data.toList).flush = D4 at *
  go_wp2_with fail
  have ht := turn_ok R4 d4l i k v (by omega) hk2 hv1 hv2
  rw [e4] at ht
  refine ht.mono ?_
  clear ht
  rintro e w5 ⟨rfl, R5, F5⟩
  have N5 := N4.foot F5 R4 (Nat.le_refl _)
  clear R4 N4 F5
  obtain ⟨S2, hS2⟩ : ∃ S2, S2 = SA.set k (SA.getD k 0 ^^^ UInt8.ofNat v) := ⟨_, rfl⟩
  rw [← hS2] at R5
  have e5 : upd D4.now i S2 i = S2 := by simp [upd]
  have e5f : upd D4.firm i S2 i = S2 := by simp [upd]
  obtain ⟨D5, hD5⟩ : ∃ D5 : DS, D5 = { D4 with firm := upd D4.firm i S2, now := upd D4.now i S2 } := ⟨_, rfl⟩
  rw [← hD5] at R5
  have d5n : D5.n = 32 := by rw [hD5]; exact d4n
  have d5l : D5.loose = [] := by rw [hD5]; exact d4l
  have d5d : D5.down = false := by rw [hD5]; exact d4d
  have e5' : D5.now i = S2 := by rw [hD5]; exact e5
  have e5f' : D5.firm i = S2 := by rw [hD5]; exact e5f
  clear hD5 e5 e5f d4n d4l d4d e4
  have HS2 := Lib.hid hS2
  clear hS2
  go_wp2_with fail
  have hr := read_ok R5 d5d i (by omega)
  rw [e5'] at hr
  refine hr.mono ?_
  clear hr
  rintro e w6 ⟨rfl, rfl⟩
  go_wp2_with fail
  have ht := turn_ok R5 d5l i k v (by omega) hk2 hv1 hv2
  rw [e5f'] at ht
  refine ht.mono ?_
  clear ht
  rintro e w6 ⟨rfl, R6, F6⟩
  have N6 := N5.foot F6 R5 (Nat.le_refl _)
  clear R5 N5 F6
  have hback : S2.set k (S2.getD k 0 ^^^ UInt8.ofNat v) = SA := by
    rw [HS2.out]
    apply List.ext_getElem?
    intro j
    by_cases hj : k = j
    · subst hj
      have hkl : k < SA.length := by rw [SA_length]; exact hk2
      simp [List.getD_eq_getElem?_getD, hkl, UInt8.xor_assoc]
    · simp [List.getElem?_set, hj]
  rw [hback] at R6
  have e6 : upd D5.now i SA i = SA := by simp [upd]
  obtain ⟨D6, hD6⟩ : ∃ D6 : DS, D6 = { D5 with firm := upd D5.firm i SA, now := upd D5.now i SA } := ⟨_, rfl⟩
  rw [← hD6] at R6
  have d6n : D6.n = 32 := by rw [hD6]; exact d5n
  have d6d : D6.down = false := by rw [hD6]; exact d5d
  have e6' : D6.now i = SA := by rw [hD6]; exact e6
  clear hD6 e6 d5n d5l d5d e5' e5f' hback
  go_wp2_with fail
  have hr := read_ok R6 d6d i (by omega)
  rw [e6'] at hr
  refine hr.mono ?_
  clear hr e6' d6d
  rintro e w7 ⟨rfl, rfl⟩
  obtain ⟨bad, hbad⟩ : ∃ bad : Int, bad = if 0 ≤ n ∧ n < 32 then -1 - n else n := ⟨_, rfl⟩
  have hcases : (decide (0 ≤ n) = false ∧ n < 0) ∨ (decide (0 ≤ n) = true ∧ decide (n < 32) = false ∧ 32 ≤ n) ∨ (decide (0 ≤ n) = true ∧ decide (n < 32) = true ∧ 0 ≤ n ∧ n < 32) := by
    by_cases h1 : 0 ≤ n
    · by_cases h2 : n < 32
      · exact Or.inr (Or.inr ⟨by simpa using h1, by simpa using h2, h1, h2⟩)
      · exact Or.inr (Or.inl ⟨by simpa using h1, by simpa using h2, by omega⟩)
    · exact Or.inl ⟨by simpa using h1, by omega⟩
  obtain ⟨y, hy⟩ : ∃ y : Nat, y = (SA.getD k 0).toNat ^^^ v := ⟨_, rfl⟩
  have hxor : bits .xor .u8 ((SA.getD k 0).toNat : Int) (v : Int) = (y : Int) := by rw [hy]; exact u8_xor_nat _ _ (UInt8.toNat_lt _) (by omega)
  have HY := Lib.hid hy
  clear hy
  obtain ⟨x, hx⟩ : ∃ x : Int, x = ((SA.getD k 0).toNat : Int) := ⟨_, rfl⟩
  have hx0 : 0 ≤ x ∧ x ≤ 255 := by have := UInt8.toNat_lt (SA.getD k 0); omega
  obtain ⟨hx0, hx1⟩ := hx0
  rw [← hx] at hxor
  have HX := Lib.hid hx
  clear hx
  rcases hcases with ⟨hn3, hn4⟩ | ⟨hn3, hn5, hn4⟩ | ⟨hn3, hn5, hn4, hn6⟩
  · go_wp2_with fail
    refine (sector_abc _).mono ?_
    rintro e w7 ⟨rfl, F7⟩
    have R7 := R6.kept F7 (fun _ _ => id)
    have N7 := N6.none F7
    clear R6 N6 F7
    obtain ⟨cap, row, hcv, hcap, hrs, hrow⟩ := conv_str w7 SA SA_length
    have HCV := Lib.hid hcv
    have HROW := Lib.hid hrow
    have q1 : (w7.alloc (.cells row 5 (row.size, row.size + 1))).cell? ⟨w7.heap.size, k, none⟩ = some (.int .u8 x) := by
      rw [cell_of_row _ w7.heap.size k row 5 _ (heap_alloc_new w7 _), hrow k hk2, HX.out]
      rfl
    have q2 : (w7.alloc (.cells row 5 (row.size, row.size + 1))).frozen? ⟨w7.heap.size, k, none⟩ = false := by
      unfold World.frozen?
      rw [show (w7.alloc (.cells row 5 (row.size, row.size + 1))).heap[w7.heap.size]? = _ from heap_alloc_new w7 _]
      simp
      omega
    clear hcv hrow
    go_wp2_with (refine wpList_run rfl _ (HCV.out _ _ (.tmp 89) rfl rfl) ?_)
    clear q1 q2 HCV
    obtain ⟨w9, h9⟩ : ∃ w9, w9 = ((w7.alloc (.cells row 5 (row.size, row.size + 1))).setCell ⟨w7.heap.size, k, none⟩ (.int .u8 (y : Int))).drew := ⟨_, rfl⟩
    rw [← h9]
    have F9 : Fr (fun _ => False) w7 w9 := by
      rw [h9]
      exact ⟨rfl, rfl, rfl, by simp, fun j hj _ => (Below.heap_setCell _ _ _ j (by show j ≠ w7.heap.size; omega)).trans (Below.heap_alloc w7 _ j hj)⟩
    have h9c : ∀ j, j < 64 → w9.cell? ⟨w7.heap.size, j, none⟩ = some (bget S2 j) := by
      intro j hj
      have hg9 : w9.heap[w7.heap.size]? = some (.cells (row.setIfInBounds k (.int .u8 (y : Int))) 5 (row.size, row.size + 1)) := by
        rw [h9]
        show ((w7.alloc (.cells row 5 (row.size, row.size + 1))).setCell ⟨w7.heap.size, k, none⟩ (.int .u8 (y : Int))).heap[w7.heap.size]? = _
        rw [setCell_eq_setRow _ w7.heap.size k row 5 _ _ (heap_alloc_new w7 _)]
        exact setRow_heap _ _ _ _ _ _ (heap_alloc_new w7 _)
      rw [cell_of_row w9 w7.heap.size j _ 5 _ hg9, Array.getElem?_setIfInBounds, HS2.out]
      by_cases e : k = j
      · subst e
        rw [if_pos rfl, if_pos (by omega), HY.out]
        have hkl : k < SA.length := by rw [SA_length]; exact hk2
        simp [bget, List.getD_eq_getElem?_getD, hkl, UInt8.toNat_xor, Nat.mod_eq_of_lt (show v < 256 by omega)]
      · rw [if_neg e, HROW.out j hj]
        simp [bget, List.getD_eq_getElem?_getD, e]
    have hN7 : w7.heap.size < w9.heap.size := by rw [h9]; simp
    have R9 := R7.kept F9 (fun _ _ => id)
    have N9 := N7.none F9
    clear R7 N7 F9 h9 HROW
    refine (fuse_nil 1 _).mono ?_
    rintro e w10 ⟨rfl, rfl⟩
    go_wp2_with fail
    refine (crash_nil _ _).mono ?_
    rintro e w10 ⟨rfl, h10⟩
    have F10 : Fr (fun _ => False) w9 w10 := by rw [← h10]; exact (Fr.refl _ w9).alloc _
    clear h10
    have S2l : S2.length = 64 := by rw [HS2.out, List.length_set, SA_length]
    have H10c : Hid (∀ j (hj : j < S2.length), w10.cell? ((⟨w7.heap.size, 0, none⟩ : Addr).add j) = some (.int .u8 (S2[j].toNat : Int))) := by
      intro j hj
      rw [addr_add, Nat.zero_add, World.cell?_of_block (w := w9) (a := ⟨w7.heap.size, j, none⟩) (F10.block _ hN7 id), h9c j (by omega), bget_of _ _ hj]
    have HS2l := Lib.hid S2l
    have R10 := R9.kept F10 (fun _ _ => id)
    have N10 := N9.none F10
    clear R9 N9 F10 h9c hN7 S2l
    go_wp2_with fail
    refine (read_nil 0 _).mono ?_
    rintro e w11 ⟨rfl, rfl⟩
    go_wp2_with fail
    refine (err_any 3 _).mono ?_
    rintro e w11 ⟨rfl, rfl⟩
    go_wp2_with fail
    refine (err_any 0 _).mono ?_
    rintro e w11 ⟨rfl, rfl⟩
    go_wp2_with fail
    refine (err_any 0 _).mono ?_
    rintro e w11 ⟨rfl, rfl⟩
    have hcvt := run_convert_bytes_back (P := Try.prog) w10 25 9 5 ⟨w7.heap.size, 0, none⟩ cap S2 Try.underlying25 Try.underlying5 Try.underlying9 H10c.out
    rw [HS2l.out] at hcvt
    clear H10c HS2l
    go_wp2_with fail
    clear hcvt
    refine (sector_abc _).mono ?_
    rintro e w11 ⟨rfl, F11⟩
    have R11 := R10.kept F11 (fun _ _ => id)
    have N11 := N10.none F11
    clear R10 N10 F11
    go_wp2_with fail
    refine (turn_noSector R11 (n) 0 1 (by omega)).mono ?_
    rintro e w12 ⟨rfl, rfl⟩
    go_wp2_with fail
    refine (err_any 1 _).mono ?_
    rintro e w12 ⟨rfl, rfl⟩
    go_wp2_with fail
    refine (turn_badPlace R11 0 64 1 (by omega) (by omega) (by decide)).mono ?_
    rintro e w12 ⟨rfl, rfl⟩
    go_wp2_with fail
    refine (err_any 1 _).mono ?_
    rintro e w12 ⟨rfl, rfl⟩
    go_wp2_with fail
    refine (turn_badPlace R11 0 0 256 (by omega) (by omega) (by decide)).mono ?_
    rintro e w12 ⟨rfl, rfl⟩
    go_wp2_with fail
    refine (err_any 1 _).mono ?_
    rintro e w12 ⟨rfl, rfl⟩
    go_wp2_with fail
    refine (turn_badPlace R11 0 0 0 (by omega) (by omega) (by decide)).mono ?_
    rintro e w12 ⟨rfl, rfl⟩
    go_wp2_with fail
    refine (err_any 1 _).mono ?_
    rintro e w12 ⟨rfl, rfl⟩
    go_wp2_with fail
    refine (err_any 1 _).mono ?_
    rintro e w12 ⟨rfl, rfl⟩
    go_wp2_with fail
    refine (sector_none _).mono ?_
    rintro e w12 ⟨rfl, F12⟩
    have N12 := N11.none F12
    clear R11 N11 F12
    go_wp2_with fail
    refine (write_nil 0 _ _).mono ?_
    rintro e w13 ⟨rfl, rfl⟩
    go_wp2_with fail
    refine (err_any 1 _).mono ?_
    rintro e w13 ⟨rfl, rfl⟩
    go_wp2_with fail
    refine (flush_nil _).mono ?_
    rintro e w13 ⟨rfl, rfl⟩
    go_wp2_with fail
    refine (err_any 1 _).mono ?_
    rintro e w13 ⟨rfl, rfl⟩
    go_wp2_with fail
    refine (len_nil _).mono ?_
    rintro e w13 ⟨rfl, rfl⟩
    go_wp2_with fail
    refine (loose_nil _).mono ?_
    rintro e w13 ⟨rfl, rfl⟩
    go_wp2_with fail
    refine (turn_nil 0 0 1 _).mono ?_
    rintro e w13 ⟨rfl, rfl⟩
    go_wp2_with fail
    refine (err_any 1 _).mono ?_
    rintro e w13 ⟨rfl, rfl⟩
    go_wp2_with fail
    refine (awake_ok _).mono ?_
    rintro e w13 ⟨rfl, F13⟩
    have N13 := N12.none F13
    clear N12 F13
    go_wp2_with fail
    go_ret
    exact ⟨rfl, N13⟩
  · go_wp2_with fail
    refine (sector_abc _).mono ?_
    rintro e w7 ⟨rfl, F7⟩
    have R7 := R6.kept F7 (fun _ _ => id)
    have N7 := N6.none F7
    clear R6 N6 F7
    obtain ⟨cap, row, hcv, hcap, hrs, hrow⟩ := conv_str w7 SA SA_length
    have HCV := Lib.hid hcv
    have HROW := Lib.hid hrow
    have q1 : (w7.alloc (.cells row 5 (row.size, row.size + 1))).cell? ⟨w7.heap.size, k, none⟩ = some (.int .u8 x) := by
      rw [cell_of_row _ w7.heap.size k row 5 _ (heap_alloc_new w7 _), hrow k hk2, HX.out]
      rfl
    have q2 : (w7.alloc (.cells row 5 (row.size, row.size + 1))).frozen? ⟨w7.heap.size, k, none⟩ = false := by
      unfold World.frozen?
      rw [show (w7.alloc (.cells row 5 (row.size, row.size + 1))).heap[w7.heap.size]? = _ from heap_alloc_new w7 _]
      simp
      omega
    clear hcv hrow
    go_wp2_with (refine wpList_run rfl _ (HCV.out _ _ (.tmp 89) rfl rfl) ?_)
    clear q1 q2 HCV
    obtain ⟨w9, h9⟩ : ∃ w9, w9 = ((w7.alloc (.cells row 5 (row.size, row.size + 1))).setCell ⟨w7.heap.size, k, none⟩ (.int .u8 (y : Int))).drew := ⟨_, rfl⟩
    rw [← h9]
    have F9 : Fr (fun _ => False) w7 w9 := by
      rw [h9]
      exact ⟨rfl, rfl, rfl, by simp, fun j hj _ => (Below.heap_setCell _ _ _ j (by show j ≠ w7.heap.size; omega)).trans (Below.heap_alloc w7 _ j hj)⟩
    have h9c : ∀ j, j < 64 → w9.cell? ⟨w7.heap.size, j, none⟩ = some (bget S2 j) := by
      intro j hj
      have hg9 : w9.heap[w7.heap.size]? = some (.cells (row.setIfInBounds k (.int .u8 (y : Int))) 5 (row.size, row.size + 1)) := by
        rw [h9]
        show ((w7.alloc (.cells row 5 (row.size, row.size + 1))).setCell ⟨w7.heap.size, k, none⟩ (.int .u8 (y : Int))).heap[w7.heap.size]? = _
        rw [setCell_eq_setRow _ w7.heap.size k row 5 _ _ (heap_alloc_new w7 _)]
        exact setRow_heap _ _ _ _ _ _ (heap_alloc_new w7 _)
      rw [cell_of_row w9 w7.heap.size j _ 5 _ hg9, Array.getElem?_setIfInBounds, HS2.out]
      by_cases e : k = j
      · subst e
        rw [if_pos rfl, if_pos (by omega), HY.out]
        have hkl : k < SA.length := by rw [SA_length]; exact hk2
        simp [bget, List.getD_eq_getElem?_getD, hkl, UInt8.toNat_xor, Nat.mod_eq_of_lt (show v < 256 by omega)]
      · rw [if_neg e, HROW.out j hj]
        simp [bget, List.getD_eq_getElem?_getD, e]
    have hN7 : w7.heap.size < w9.heap.size := by rw [h9]; simp
    have R9 := R7.kept F9 (fun _ _ => id)
    have N9 := N7.none F9
    clear R7 N7 F9 h9 HROW
    refine (fuse_nil 1 _).mono ?_
    rintro e w10 ⟨rfl, rfl⟩
    go_wp2_with fail
    refine (crash_nil _ _).mono ?_
    rintro e w10 ⟨rfl, h10⟩
    have F10 : Fr (fun _ => False) w9 w10 := by rw [← h10]; exact (Fr.refl _ w9).alloc _
    clear h10
    have S2l : S2.length = 64 := by rw [HS2.out, List.length_set, SA_length]
    have H10c : Hid (∀ j (hj : j < S2.length), w10.cell? ((⟨w7.heap.size, 0, none⟩ : Addr).add j) = some (.int .u8 (S2[j].toNat : Int))) := by
      intro j hj
      rw [addr_add, Nat.zero_add, World.cell?_of_block (w := w9) (a := ⟨w7.heap.size, j, none⟩) (F10.block _ hN7 id), h9c j (by omega), bget_of _ _ hj]
    have HS2l := Lib.hid S2l
    have R10 := R9.kept F10 (fun _ _ => id)
    have N10 := N9.none F10
    clear R9 N9 F10 h9c hN7 S2l
    go_wp2_with fail
    refine (read_nil 0 _).mono ?_
    rintro e w11 ⟨rfl, rfl⟩
    go_wp2_with fail
    refine (err_any 3 _).mono ?_
    rintro e w11 ⟨rfl, rfl⟩
    go_wp2_with fail
    refine (err_any 0 _).mono ?_
    rintro e w11 ⟨rfl, rfl⟩
    go_wp2_with fail
    refine (err_any 0 _).mono ?_
    rintro e w11 ⟨rfl, rfl⟩
    have hcvt := run_convert_bytes_back (P := Try.prog) w10 25 9 5 ⟨w7.heap.size, 0, none⟩ cap S2 Try.underlying25 Try.underlying5 Try.underlying9 H10c.out
    rw [HS2l.out] at hcvt
    clear H10c HS2l
    go_wp2_with fail
    clear hcvt
    refine (sector_abc _).mono ?_
    rintro e w11 ⟨rfl, F11⟩
    have R11 := R10.kept F11 (fun _ _ => id)
    have N11 := N10.none F11
    clear R10 N10 F11
    go_wp2_with fail
    refine (turn_noSector R11 (n) 0 1 (by omega)).mono ?_
    rintro e w12 ⟨rfl, rfl⟩
    go_wp2_with fail
    refine (err_any 1 _).mono ?_
    rintro e w12 ⟨rfl, rfl⟩
    go_wp2_with fail
    refine (turn_badPlace R11 0 64 1 (by omega) (by omega) (by decide)).mono ?_
    rintro e w12 ⟨rfl, rfl⟩
    go_wp2_with fail
    refine (err_any 1 _).mono ?_
    rintro e w12 ⟨rfl, rfl⟩
    go_wp2_with fail
    refine (turn_badPlace R11 0 0 256 (by omega) (by omega) (by decide)).mono ?_
    rintro e w12 ⟨rfl, rfl⟩
    go_wp2_with fail
    refine (err_any 1 _).mono ?_
    rintro e w12 ⟨rfl, rfl⟩
    go_wp2_with fail
    refine (turn_badPlace R11 0 0 0 (by omega) (by omega) (by decide)).mono ?_
    rintro e w12 ⟨rfl, rfl⟩
    go_wp2_with fail
    refine (err_any 1 _).mono ?_
    rintro e w12 ⟨rfl, rfl⟩
    go_wp2_with fail
    refine (err_any 1 _).mono ?_
    rintro e w12 ⟨rfl, rfl⟩
    go_wp2_with fail
    refine (sector_none _).mono ?_
    rintro e w12 ⟨rfl, F12⟩
    have N12 := N11.none F12
    clear R11 N11 F12
    go_wp2_with fail
    refine (write_nil 0 _ _).mono ?_
    rintro e w13 ⟨rfl, rfl⟩
    go_wp2_with fail
    refine (err_any 1 _).mono ?_
    rintro e w13 ⟨rfl, rfl⟩
    go_wp2_with fail
    refine (flush_nil _).mono ?_
    rintro e w13 ⟨rfl, rfl⟩
    go_wp2_with fail
    refine (err_any 1 _).mono ?_
    rintro e w13 ⟨rfl, rfl⟩
    go_wp2_with fail
    refine (len_nil _).mono ?_
    rintro e w13 ⟨rfl, rfl⟩
    go_wp2_with fail
    refine (loose_nil _).mono ?_
    rintro e w13 ⟨rfl, rfl⟩
    go_wp2_with fail
    refine (turn_nil 0 0 1 _).mono ?_
    rintro e w13 ⟨rfl, rfl⟩
    go_wp2_with fail
    refine (err_any 1 _).mono ?_
    rintro e w13 ⟨rfl, rfl⟩
    go_wp2_with fail
    refine (awake_ok _).mono ?_
    rintro e w13 ⟨rfl, F13⟩
    have N13 := N12.none F13
    clear N12 F13
    go_wp2_with fail
    go_ret
    exact ⟨rfl, N13⟩
  · go_wp2_with fail
    refine (sector_abc _).mono ?_
    rintro e w7 ⟨rfl, F7⟩
    have R7 := R6.kept F7 (fun _ _ => id)
    have N7 := N6.none F7
    clear R6 N6 F7
    obtain ⟨cap, row, hcv, hcap, hrs, hrow⟩ := conv_str w7 SA SA_length
    have HCV := Lib.hid hcv
    have HROW := Lib.hid hrow
    have q1 : (w7.alloc (.cells row 5 (row.size, row.size + 1))).cell? ⟨w7.heap.size, k, none⟩ = some (.int .u8 x) := by
      rw [cell_of_row _ w7.heap.size k row 5 _ (heap_alloc_new w7 _), hrow k hk2, HX.out]
      rfl
    have q2 : (w7.alloc (.cells row 5 (row.size, row.size + 1))).frozen? ⟨w7.heap.size, k, none⟩ = false := by
      unfold World.frozen?
      rw [show (w7.alloc (.cells row 5 (row.size, row.size + 1))).heap[w7.heap.size]? = _ from heap_alloc_new w7 _]
      simp
      omega
    clear hcv hrow
    go_wp2_with (refine wpList_run rfl _ (HCV.out _ _ (.tmp 89) rfl rfl) ?_)
    clear q1 q2 HCV
    obtain ⟨w9, h9⟩ : ∃ w9, w9 = ((w7.alloc (.cells row 5 (row.size, row.size + 1))).setCell ⟨w7.heap.size, k, none⟩ (.int .u8 (y : Int))).drew := ⟨_, rfl⟩
    rw [← h9]
    have F9 : Fr (fun _ => False) w7 w9 := by
      rw [h9]
      exact ⟨rfl, rfl, rfl, by simp, fun j hj _ => (Below.heap_setCell _ _ _ j (by show j ≠ w7.heap.size; omega)).trans (Below.heap_alloc w7 _ j hj)⟩
    have h9c : ∀ j, j < 64 → w9.cell? ⟨w7.heap.size, j, none⟩ = some (bget S2 j) := by
      intro j hj
      have hg9 : w9.heap[w7.heap.size]? = some (.cells (row.setIfInBounds k (.int .u8 (y : Int))) 5 (row.size, row.size + 1)) := by
        rw [h9]
        show ((w7.alloc (.cells row 5 (row.size, row.size + 1))).setCell ⟨w7.heap.size, k, none⟩ (.int .u8 (y : Int))).heap[w7.heap.size]? = _
        rw [setCell_eq_setRow _ w7.heap.size k row 5 _ _ (heap_alloc_new w7 _)]
        exact setRow_heap _ _ _ _ _ _ (heap_alloc_new w7 _)
      rw [cell_of_row w9 w7.heap.size j _ 5 _ hg9, Array.getElem?_setIfInBounds, HS2.out]
      by_cases e : k = j
      · subst e
        rw [if_pos rfl, if_pos (by omega), HY.out]
        have hkl : k < SA.length := by rw [SA_length]; exact hk2
        simp [bget, List.getD_eq_getElem?_getD, hkl, UInt8.toNat_xor, Nat.mod_eq_of_lt (show v < 256 by omega)]
      · rw [if_neg e, HROW.out j hj]
        simp [bget, List.getD_eq_getElem?_getD, e]
    have hN7 : w7.heap.size < w9.heap.size := by rw [h9]; simp
    have R9 := R7.kept F9 (fun _ _ => id)
    have N9 := N7.none F9
    clear R7 N7 F9 h9 HROW
    refine (fuse_nil 1 _).mono ?_
    rintro e w10 ⟨rfl, rfl⟩
    go_wp2_with fail
    refine (crash_nil _ _).mono ?_
    rintro e w10 ⟨rfl, h10⟩
    have F10 : Fr (fun _ => False) w9 w10 := by rw [← h10]; exact (Fr.refl _ w9).alloc _
    clear h10
    have S2l : S2.length = 64 := by rw [HS2.out, List.length_set, SA_length]
    have H10c : Hid (∀ j (hj : j < S2.length), w10.cell? ((⟨w7.heap.size, 0, none⟩ : Addr).add j) = some (.int .u8 (S2[j].toNat : Int))) := by
      intro j hj
      rw [addr_add, Nat.zero_add, World.cell?_of_block (w := w9) (a := ⟨w7.heap.size, j, none⟩) (F10.block _ hN7 id), h9c j (by omega), bget_of _ _ hj]
    have HS2l := Lib.hid S2l
    have R10 := R9.kept F10 (fun _ _ => id)
    have N10 := N9.none F10
    clear R9 N9 F10 h9c hN7 S2l
    go_wp2_with fail
    refine (read_nil 0 _).mono ?_
    rintro e w11 ⟨rfl, rfl⟩
    go_wp2_with fail
    refine (err_any 3 _).mono ?_
    rintro e w11 ⟨rfl, rfl⟩
    go_wp2_with fail
    refine (err_any 0 _).mono ?_
    rintro e w11 ⟨rfl, rfl⟩
    go_wp2_with fail
    refine (err_any 0 _).mono ?_
    rintro e w11 ⟨rfl, rfl⟩
    have hcvt := run_convert_bytes_back (P := Try.prog) w10 25 9 5 ⟨w7.heap.size, 0, none⟩ cap S2 Try.underlying25 Try.underlying5 Try.underlying9 H10c.out
    rw [HS2l.out] at hcvt
    clear H10c HS2l
    go_wp2_with fail
    clear hcvt
    refine (sector_abc _).mono ?_
    rintro e w11 ⟨rfl, F11⟩
    have R11 := R10.kept F11 (fun _ _ => id)
    have N11 := N10.none F11
    clear R10 N10 F11
    go_wp2_with fail
    refine (turn_noSector R11 (-1 - n) 0 1 (by omega)).mono ?_
    rintro e w12 ⟨rfl, rfl⟩
    go_wp2_with fail
    refine (err_any 1 _).mono ?_
    rintro e w12 ⟨rfl, rfl⟩
    go_wp2_with fail
    refine (turn_badPlace R11 0 64 1 (by omega) (by omega) (by decide)).mono ?_
    rintro e w12 ⟨rfl, rfl⟩
    go_wp2_with fail
    refine (err_any 1 _).mono ?_
    rintro e w12 ⟨rfl, rfl⟩
    go_wp2_with fail
    refine (turn_badPlace R11 0 0 256 (by omega) (by omega) (by decide)).mono ?_
    rintro e w12 ⟨rfl, rfl⟩
    go_wp2_with fail
    refine (err_any 1 _).mono ?_
    rintro e w12 ⟨rfl, rfl⟩
    go_wp2_with fail
    refine (turn_badPlace R11 0 0 0 (by omega) (by omega) (by decide)).mono ?_
    rintro e w12 ⟨rfl, rfl⟩
    go_wp2_with fail
    refine (err_any 1 _).mono ?_
    rintro e w12 ⟨rfl, rfl⟩
    go_wp2_with fail
    refine (err_any 1 _).mono ?_
    rintro e w12 ⟨rfl, rfl⟩
    go_wp2_with fail
    refine (sector_none _).mono ?_
    rintro e w12 ⟨rfl, F12⟩
    have N12 := N11.none F12
    clear R11 N11 F12
    go_wp2_with fail
    refine (write_nil 0 _ _).mono ?_
    rintro e w13 ⟨rfl, rfl⟩
    go_wp2_with fail
    refine (err_any 1 _).mono ?_
    rintro e w13 ⟨rfl, rfl⟩
    go_wp2_with fail
    refine (flush_nil _).mono ?_
    rintro e w13 ⟨rfl, rfl⟩
    go_wp2_with fail
    refine (err_any 1 _).mono ?_
    rintro e w13 ⟨rfl, rfl⟩
    go_wp2_with fail
    refine (len_nil _).mono ?_
    rintro e w13 ⟨rfl, rfl⟩
    go_wp2_with fail
    refine (loose_nil _).mono ?_
    rintro e w13 ⟨rfl, rfl⟩
    go_wp2_with fail
    refine (turn_nil 0 0 1 _).mono ?_
    rintro e w13 ⟨rfl, rfl⟩
    go_wp2_with fail
    refine (err_any 1 _).mono ?_
    rintro e w13 ⟨rfl, rfl⟩
    go_wp2_with fail
    refine (awake_ok _).mono ?_
    rintro e w13 ⟨rfl, F13⟩
    have N13 := N12.none F13
    clear N12 F13
    go_wp2_with fail
    go_ret
    exact ⟨rfl, N13⟩
end Go.Proofs.Ytpkhddnehhophaa
