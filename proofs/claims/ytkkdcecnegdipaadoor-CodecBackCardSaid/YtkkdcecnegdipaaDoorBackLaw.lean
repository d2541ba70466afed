/- The law CodecBack walked: it returns true at any text and numbers, and no memory that was there is changed. -/
import Derived.Test.YtkkdcecnegdipaaDoorBackA
namespace Go.Proofs.YtkkdcecnegdipaaDoor
open Go.RowKit Go.Shelf
set_option linter.unusedVariables false

set_option maxRecDepth 100000 in
set_option maxHeartbeats 1000000 in
theorem back_walk (s A B C B2 X : ByteArray) (is : Bool) (n c j : Nat) (hs1 : 1 ≤ s.size) (hs : s.size ≤ 64) (hn : n < 256) (hc : c < 256)
    (zA : A.size = 2 * s.size) (zB : B.size = (8 * s.size + 4) / 5) (zC : C.size = (s.size + 2) / 3 * 4) (hj : Hid ((n : Int) % (B.size : Int) = (j : Int))) (hjB : j < B.size) (L2 : List UInt8) (hL2 : Hid (L2 = B.data.toList.set j (UInt8.ofNat c))) (hB2 : Hid (B2 = ⟨L2.toArray⟩))
    (hX : B2 = B ∨ is = false ∨ X ≠ s)
    (CA : Hid (∀ w, Calls Tryd.prog 13 #[.string s] w fun e w2 => e = .returned (.string A) ∧ Below w.heap.size w w2))
    (CB : Hid (∀ w, Calls Tryd.prog 15 #[.string s] w fun e w2 => e = .returned (.string B) ∧ Below w.heap.size w w2))
    (CC : Hid (∀ w, Calls Tryd.prog 17 #[.string s] w fun e w2 => e = .returned (.string C) ∧ Below w.heap.size w w2))
    (GA : Hid (∀ w, Calls Tryd.prog 7 #[.string A] w fun e w2 => e = .returned (.tuple #[.string s, .bool true]) ∧ Below w.heap.size w w2))
    (GB : Hid (∀ w, Calls Tryd.prog 8 #[.string B, .int .i64 (s.size : Int)] w fun e w2 => e = .returned (.tuple #[.string s, .bool true]) ∧ Below w.heap.size w w2))
    (GC : Hid (∀ w, Calls Tryd.prog 9 #[.string C] w fun e w2 => e = .returned (.tuple #[.string s, .bool true]) ∧ Below w.heap.size w w2))
    (GX : Hid (∀ w, Calls Tryd.prog 8 #[.string B2, .int .i64 (s.size : Int)] w fun e w2 => e = .returned (.tuple #[.string X, .bool is]) ∧ Below w.heap.size w w2))
    (m : Nat) (hm5 : IntKind.i64.wrap ((s.size : Int) + 5) = (m : Int))
    (GM : Hid (∀ w, Calls Tryd.prog 8 #[.string B, .int .i64 (m : Int)] w fun e w2 => e = .returned (.tuple #[.string ⟨#[]⟩, .bool false]) ∧ Below w.heap.size w w2))
    (w : World) : Calls Tryd.prog 4 #[.string s, .int .u8 (n : Int), .int .u8 (c : Int)] w fun e w2 => e = .returned (.bool true) ∧ Below w.heap.size w w2 := by
  have hg : ¬ ((s.size : Int) > 64) := by omega
  have hz : ¬ ((s.size : Int) = 0) := by omega
  obtain ⟨p, hp⟩ : ∃ p, p = 8 * s.size := ⟨_, rfl⟩
  obtain ⟨q, hq⟩ : ∃ q, q = p + 4 := ⟨_, rfl⟩
  obtain ⟨u, hu⟩ : ∃ u, u = s.size + 2 := ⟨_, rfl⟩
  obtain ⟨v, hv⟩ : ∃ v, v = u / 3 := ⟨_, rfl⟩
  have m1 : IntKind.i64.wrap (2 * (s.size : Int)) = (A.size : Int) := by rw [IntKind.wrap_i64]; omega
  have m2 : IntKind.i64.wrap (8 * (s.size : Int)) = (p : Int) := by rw [IntKind.wrap_i64]; omega
  have m3 : IntKind.i64.wrap ((p : Int) + 4) = (q : Int) := by rw [IntKind.wrap_i64]; omega
  have m4 : (q : Int) / 5 = (B.size : Int) := by omega
  have m5 : IntKind.i64.wrap ((s.size : Int) + 2) = (u : Int) := by rw [IntKind.wrap_i64]; omega
  have m6 : (u : Int) / 3 = (v : Int) := by omega
  have m7 : IntKind.i64.wrap ((v : Int) * 4) = (C.size : Int) := by rw [IntKind.wrap_i64]; omega
  have hBb : B.size ≤ 200 := by omega
  have hvb : v ≤ 200 := by omega
  have hqb : q ≤ 1000 := by omega
  have hub : u ≤ 1000 := by omega
  have hcv0 : IntKind.i64.wrap (n : Int) = (n : Int) := by rw [IntKind.wrap_i64]; omega
  clear zA zB zC hp hq hu hv
  have bb : Below w.heap.size w w := Below.refl _ w
  go_enter Tryd.func4, Tryd.ntmps4
  go_wp2_with (first
    | (go_at_call 13; refine (CA.out _).mono ?_; rintro e w1 ⟨rfl, b1⟩; replace bb := below_then bb b1; clear b1)
    | (go_at_call 15; refine (CB.out _).mono ?_; rintro e w1 ⟨rfl, b1⟩; replace bb := below_then bb b1; clear b1)
    | (go_at_call 17; refine (CC.out _).mono ?_; rintro e w1 ⟨rfl, b1⟩; replace bb := below_then bb b1; clear b1)
    | (go_at_call 7; refine (GA.out _).mono ?_; rintro e w1 ⟨rfl, b1⟩; replace bb := below_then bb b1; clear b1)
    | (go_at_call 8; refine (GB.out _).mono ?_; rintro e w1 ⟨rfl, b1⟩; replace bb := below_then bb b1; clear b1))
  go_at_call 9
  refine (GC.out _).mono ?_
  rintro e w6 ⟨rfl, b1⟩
  replace bb := below_then bb b1
  clear b1 CA CB CC GA GC
  obtain ⟨cap, row, hcv, hc1, hc2, hrow⟩ := str_conv w6 B
  have HROW := Lib.hid hrow
  have HC2 := Lib.hid hc2
  have HBB := Lib.hid bb
  obtain ⟨g, hgl⟩ : ∃ g, g = w6.heap.size := ⟨_, rfl⟩
  have hG : (w6.alloc (.cells row 5 (row.size, row.size + 1))).heap[g]? = some (.cells row 5 (row.size, row.size + 1)) := by rw [hgl]; exact World.alloc_heap_new w6 _
  have hGB : Below w.heap.size w (w6.alloc (.cells row 5 (row.size, row.size + 1))) := bb.alloc bb.size _
  have hgw : w.heap.size ≤ g := by rw [hgl]; exact bb.size
  rw [← hgl] at hcv
  have hcellF : (w6.alloc (.cells row 5 (row.size, row.size + 1))).cell? ⟨g, j, none⟩ = some (.int .u8 ((B.data.toList.getD j 0).toNat : Int)) := by rw [Lib.cell_of_heap hG]; exact hrow j hjB
  have hfrF : (w6.alloc (.cells row 5 (row.size, row.size + 1))).frozen? ⟨g, j, none⟩ = false := row_frozen _ _ _ _ _ _ hG (Nat.lt_of_lt_of_le hjB hc2)
  have hB0 : ¬ ((B.size : Int) = 0) := by omega
  have hjI := hj.out
  have hj1 : (0 : Int) ≤ (j : Int) := by omega
  have hj2 : (j : Int) < (B.size : Int) := by omega
  have HG := Lib.hid hG
  have HGB := Lib.hid hGB
  clear hrow hc2 bb hG hGB hgl
  have hLl : L2.length = B.size := by rw [hL2.out, List.length_set]; simp
  have hrow2 : ∀ i (h : i < L2.length), (row.setIfInBounds j (.int .u8 (c : Int)))[i]? = some (.int .u8 (L2[i].toNat : Int)) := by
    intro i h
    have hi : i < B.size := by rw [← hLl]; exact h
    have hr := HROW.out i hi
    have e := hL2.out
    subst e
    rw [Array.getElem?_setIfInBounds, List.getElem_set]
    by_cases e : j = i
    · subst e
      rw [if_pos rfl, if_pos rfl, if_pos (Nat.lt_of_lt_of_le hi HC2.out), UInt8.toNat_ofNat', Nat.mod_eq_of_lt (by omega)]
    · rw [if_neg e, if_neg e, hr, List.getD_eq_getElem?_getD, List.getElem?_eq_getElem (by simpa using hi)]
      rfl
  have HR2 := Lib.hid hrow2
  have HLl := Lib.hid hLl
  clear hrow2 hLl
  go_wp2
  generalize hwb : ((w6.alloc (Obj.cells row 5 (row.size, row.size + 1))).setCell { block := g, off := j } (Value.int IntKind.u8 (c : Int))).drew = wb
  have hG2 : wb.heap[g]? = some (.cells (row.setIfInBounds j (.int .u8 (c : Int))) 5 (row.size, row.size + 1)) := by rw [← hwb]; exact setCell_row _ g _ 5 _ j _ HG.out
  have hBw : Below w.heap.size w wb := by rw [← hwb]; exact (HGB.out.setCell (p := ⟨g, j, none⟩) hgw _).drew
  have hcv2 := conv_row wb g cap B.size _ 5 _ L2 hG2 HLl.out HR2.out
  rw [← hB2.out] at hcv2
  have HG2 := Lib.hid hG2
  have HBw := Lib.hid hBw
  clear hG2 hBw hcv hcellF hfrF hwb HG HGB hjI hj hB0 hc1 hj1 hj2
  rw [hcv2]
  go_wp2_with fail
  go_at_call 8
  refine (GX.out _).mono ?_
  rintro e w7 ⟨rfl, b7⟩
  have B7 := Lib.hid b7
  clear b7 hcv2
  go_wp2_with fail
  go_at_call 8
  refine (GM.out _).mono ?_
  rintro e w8 ⟨rfl, b8⟩
  have b := B7.out.trans (b8.mono B7.out.size)
  have bb : Below w.heap.size w w8 := HBw.out.trans (b.mono HBw.out.size)
  have hG3 := (b.block g (Array.getElem?_eq_some_iff.1 HG2.out).1).trans HG2.out
  have hcv3 := conv_row w8 g cap B.size _ 5 _ L2 hG3 HLl.out HR2.out
  rw [← hB2.out] at hcv3
  have HBB8 := Lib.hid bb
  clear b bb hG3 b8 B7 HG2 HBw GX GM GB hm5 m1 m2 m3 m4 m5 m6 m7 HLl HR2 HROW hL2 hB2
  by_cases heq : B2 = B
  · subst heq
    go_wp2_with (go_at_call 6; refine (awake_ok _).mono ?_; rintro e w9 ⟨rfl, b9⟩)
    go_ret
    exact ⟨rfl, HBB8.out.trans (b9.mono HBB8.out.size)⟩
  · have hne2 : decide (B2 = B) = false := by simpa using heq
    have hne4 : (B2.toList == B.toList) = false := by
      rw [toList_data, toList_data]
      simp only [beq_eq_false_iff_ne, ne_eq]
      exact fun h => heq (ByteArray.ext (Array.toList_inj.1 h))
    cases is with
    | false =>
      clear hX
      go_wp2_with (go_at_call 6; refine (awake_ok _).mono ?_; rintro e w9 ⟨rfl, b9⟩)
      go_ret
      exact ⟨rfl, HBB8.out.trans (b9.mono HBB8.out.size)⟩
    | true =>
      have hXs : X ≠ s := by
        rcases hX with h | h | h
        · exact absurd h heq
        · cases h
        · exact h
      have hne5 : (X.toList != s.toList) = true := by
        rw [toList_data, toList_data]
        simp only [bne_iff_ne, ne_eq]
        exact fun h => hXs (ByteArray.ext (Array.toList_inj.1 h))
      have hne6 : (X.toList == s.toList) = false := by simpa using hne5
      clear hX
      go_wp2_with (go_at_call 6; refine (awake_ok _).mono ?_; rintro e w9 ⟨rfl, b9⟩)
      go_ret
      exact ⟨rfl, HBB8.out.trans (b9.mono HBB8.out.size)⟩

theorem back_law (s : ByteArray) (hs0 : s.size ≤ 9223372036854775807) (n c : Nat) (hn : n < 256) (hc : c < 256) (w : World) :
    Calls Tryd.prog 4 #[.string s, .int .u8 (n : Int), .int .u8 (c : Int)] w fun e w2 => e = .returned (.bool true) ∧ Below w.heap.size w w2 := by
  by_cases hbig : s.size > 64
  · exact back_big s _ _ hbig hs0 w
  by_cases hnil : s.size = 0
  · obtain rfl : s = ⟨#[]⟩ := ByteArray.ext (Array.eq_empty_of_size_eq_zero hnil)
    exact back_nil _ _ w
  have hl : s.data.toList.length = s.size := by simp
  obtain ⟨A, hA⟩ : ∃ A : ByteArray, A = ⟨(hex s.data.toList).toArray⟩ := ⟨_, rfl⟩
  obtain ⟨B, hB⟩ : ∃ B : ByteArray, B = ⟨(b32 s.data.toList).toArray⟩ := ⟨_, rfl⟩
  obtain ⟨C, hC⟩ : ∃ C : ByteArray, C = ⟨(b64 s.data.toList).toArray⟩ := ⟨_, rfl⟩
  have dA : A.data.toList = hex s.data.toList := by rw [hA]
  have dB : B.data.toList = b32 s.data.toList := by rw [hB]
  have dC : C.data.toList = b64 s.data.toList := by rw [hC]
  have zA : A.size = 2 * s.size := by
    show A.data.size = _
    rw [← Array.length_toList, dA, hex_length, hl]
  have zB : B.size = (8 * s.size + 4) / 5 := by
    show B.data.size = _
    rw [← Array.length_toList, dB, b32_length, hl]; rfl
  have zC : C.size = (s.size + 2) / 3 * 4 := by
    show C.data.size = _
    rw [← Array.length_toList, dC, b64_length, hl]
  have hBpos : 0 < B.size := by omega
  obtain ⟨X, is, hX1, hX2⟩ := told_cases ⟨(B.data.toList.set (n % B.size) (UInt8.ofNat c)).toArray⟩ B s s.size dB
  have hout : get32 B.data.toList (s.size + 5) = none := by
    cases hg : get32 B.data.toList (s.size + 5) with
    | none => rfl
    | some b =>
      obtain ⟨-, h2, h3⟩ := get32_some hg
      have h4 := b32_length b
      rw [h3, h2, dB, b32_length, hl] at h4
      unfold many32 at h4
      omega
  have told_some : ∀ b, told (some s.data.toList) = b → b = .tuple #[.string s, .bool true] := by
    rintro b rfl
    show Value.tuple #[.string ⟨s.data.toList.toArray⟩, .bool true] = _
    rw [same_bytes]
  refine back_walk s A B C _ X is n c (n % B.size) (by omega) (by omega) hn hc zA zB zC (Lib.hid (by simp)) (Nat.mod_lt _ hBpos) _ (Lib.hid rfl) (Lib.hid rfl) hX2
    (Lib.hid fun w => by rw [hA]; exact hex_any s w (by omega))
    (Lib.hid fun w => by rw [hB]; exact base32_any s w (by omega))
    (Lib.hid fun w => by rw [hC]; exact base64_any s w (by omega))
    (Lib.hid fun w => ?_) (Lib.hid fun w => ?_) (Lib.hid fun w => ?_) (Lib.hid fun w => ?_) (s.size + 5) (by rw [IntKind.wrap_i64]; omega) (Lib.hid fun w => ?_) w
  · have h := getHex_any A w (by omega)
    rw [dA, (getHex_iff _ _).2 rfl, told_some _ rfl] at h
    exact h
  · have h := getBase32_in B s.size (by omega) w (by omega)
    rw [dB, (get32_iff _ _ _).2 ⟨by omega, hl, rfl⟩, told_some _ rfl] at h
    exact h
  · have h := getBase64_any C w (by omega)
    rw [dC, (get64_iff _ _).2 rfl, told_some _ rfl] at h
    exact h
  · have h := getBase32_in ⟨(B.data.toList.set (n % B.size) (UInt8.ofNat c)).toArray⟩ s.size (by omega) w (by show (B.data.toList.set _ _).toArray.size ≤ _; simp; omega)
    rw [hX1] at h
    exact h
  · have h := getBase32_any B ((s.size + 5 : Nat) : Int) w (by omega)
    rw [show get32I B.data.toList ((s.size + 5 : Nat) : Int) = none by unfold get32I; rw [if_pos (by omega), Int.toNat_natCast, hout]] at h
    exact h
end Go.Proofs.YtkkdcecnegdipaaDoor
