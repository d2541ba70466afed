/- Fold of the document: bytes folded into some. No condition but that the text may lie in memory. -/
import Derived.Test.YtkkdcecnegdipaaDoorRG64
import Derived.Test.YtkkdcecnegdipaaDoorFold
namespace Go.Proofs.YtkkdcecnegdipaaDoor.R
open Go.RowKit Go.Shelf
set_option linter.unusedVariables false
set_option linter.unusedSimpArgs false
theorem made_rowOf (m : Nat) : madeCells (Value.int .u8 0).cells m = (rowOf .u8 m (fun _ => 0)).toArray := by
  rw [made_row]
  rfl
theorem make_row (m : Nat) (hm : m ≤ 1000) (W : World) : (Instr.makeSlice 33 (.int .i64 (m : Int)) (.int .i64 (m : Int))).run Tryd.prog W = .ok (.slice (some ⟨W.heap.size, 0, none⟩) m m) (W.alloc (.cells (rowOf .u8 m (fun _ => 0)).toArray 5)) := by
  rw [← made_rowOf]
  exact make_u8 m hm W
/-- A made row of bytes as a string, now and later. -/
theorem row_str {wr : World} {g n : Nat} {f : Nat → Nat} (h : Row wr g 5 .u8 n f) (hf : ∀ j, j < n → f j < 256) : ∀ W, Below wr.heap.size wr W → (Go.convert 33 9 (.slice (some ⟨g, 0, none⟩) n n)).run Tryd.prog W = .ok (.string ⟨((List.range n).map fun j => UInt8.ofNat (f j)).toArray⟩) W := by
  intro W hb
  have hlt : g < wr.heap.size := h.lt
  have hl : ((List.range n).map fun j => UInt8.ofNat (f j)).length = n := by simp
  have h2 := run_convert_bytes_back (P := Tryd.prog) W 33 9 5 ⟨g, 0, none⟩ n ((List.range n).map fun j => UInt8.ofNat (f j)) Tryd.underlying33 Tryd.underlying5 Tryd.underlying9 (fun j hj => by
    rw [hl] at hj
    rw [addr_add, Nat.zero_add, bcell hb _ _ hlt, h.cell j hj]
    simp only [List.getElem_map, List.getElem_range]
    rw [UInt8.toNat_ofNat', Nat.mod_eq_of_lt (hf j hj)])
  rw [hl] at h2
  exact h2
theorem xor8 (x c : Nat) (hx : x < 256) (hc : c < 256) : bits .xor .u8 (x : Int) (c : Int) = ((x ^^^ c : Nat) : Int) := u8_xor_nat x c hx hc
theorem fold_snoc (m : Nat) (l : List UInt8) (c : UInt8) (k : Nat) : foldN m k (l ++ [c]) 0 = if l.length % m = k then foldN m k l 0 ^^^ c.toNat else foldN m k l 0 := by
  rw [foldN_append, Nat.zero_add]
  show foldN m k l 0 ^^^ ((if l.length % m = k then c.toNat else 0) ^^^ 0) = _
  split
  · rw [Nat.xor_zero]
  · rw [Nat.xor_zero, Nat.xor_zero]
set_option maxRecDepth 100000 in
set_option maxHeartbeats 1000000 in
theorem rfold_any (s : ByteArray) (n : Int) (hn : -9223372036854775808 ≤ n ∧ n ≤ 9223372036854775807) (hs : s.size ≤ 549755813888) (w : World) :
    Calls Tryd.prog 20 #[.string s, .int .i64 n] w fun e w' => e = .returned (.string ⟨(foldI s.data.toList n).toArray⟩) ∧ Below w.heap.size w w' := by
  by_cases hr : 1 ≤ n ∧ n ≤ 64
  · obtain ⟨m, rfl⟩ : ∃ m : Nat, n = (m : Int) := ⟨n.toNat, by omega⟩
    have hm1 : 1 ≤ m := by omega
    have hm64 : m ≤ 64 := by omega
    have hfi : foldI s.data.toList (m : Int) = fold s.data.toList m := by unfold foldI; rw [if_pos hr]; rfl
    rw [hfi]
    have hmk := fun W => make_row m (by omega) W
    have hlI : ¬ (m : Int) < 1 := by omega
    have hgI : ¬ (64 : Int) < (m : Int) := by omega
    have hlI2 : (1 : Int) ≤ (m : Int) := by omega
    have hgI2 : (m : Int) ≤ 64 := by omega
    have hb0 : Below w.heap.size w (w.alloc (.cells (rowOf .u8 m (fun _ => 0)).toArray 5)) := (Below.refl _ w).alloc (Nat.le_refl _) _
    have hr0 : Row (w.alloc (.cells (rowOf .u8 m (fun _ => 0)).toArray 5)) w.heap.size 5 .u8 m (fun j => foldN m j (s.data.toList.take 0) 0) := Row.new w 5 .u8 m (fun _ => 0)
    obtain ⟨Z, hZ⟩ : ∃ Z, Hid (Z = (rowOf .u8 m (fun _ => 0)).toArray) := ⟨_, Lib.hid rfl⟩
    rw [← hZ.out] at hb0 hr0
    have hmk2 : ∀ W : World, (Instr.makeSlice 33 (.int .i64 (m : Int)) (.int .i64 (m : Int))).run Tryd.prog W = .ok (.slice (some ⟨W.heap.size, 0, none⟩) m m) (W.alloc (.cells Z 5)) := by rw [hZ.out]; exact hmk
    clear hmk hfi hr hn
    go_enter Tryd.func20, Tryd.ntmps20
    go_wp2
    generalize w.alloc (.cells Z 5) = W0 at *
    have HB0 := Lib.hid hb0
    have HR0 := Lib.hid hr0
    clear hb0 hr0
    go_loopw [6] (fun i wr => ∃ I : Nat, I ≤ s.size ∧ i = .int .i64 (I : Int) ∧ Row wr w.heap.size 5 .u8 m (fun j => foldN m j (s.data.toList.take I) 0) ∧ Below w.heap.size w wr) (fun i _ => s.size - (intOf i).toNat)
    case atStart => exact ⟨0, by omega, rfl, HR0.out, HB0.out⟩
    case round =>
      clear HB0 HR0 hZ hmk2
      obtain ⟨I, hI, rfl, hrow, hb⟩ := hrel
      have HR := Lib.hid hrow
      have HB := Lib.hid hb
      clear hrow hb
      by_cases hlt : I < s.size
      · have hltI : (I : Int) < (s.size : Int) := by omega
        obtain ⟨J, hJ⟩ : ∃ J, Hid (J = I % m) := ⟨_, Lib.hid rfl⟩
        have hJm : J < m := by rw [hJ.out]; exact Nat.mod_lt _ (by omega)
        have hJmI : (J : Int) < (m : Int) := by omega
        have hrem : (I : Int) % (m : Int) = (J : Int) := by rw [hJ.out]; exact (Int.natCast_emod _ _).symm
        have hrem2 : (I : Int).tmod (m : Int) = (J : Int) := by rw [Int.tmod_eq_emod_of_nonneg (by omega)]; exact hrem
        have htl : (s.data.toList.take I).length = I := by rw [List.length_take]; have : s.data.toList.length = s.size := rfl; omega
        obtain ⟨x, hx⟩ : ∃ x, Hid (x = foldN m J (s.data.toList.take I) 0) := ⟨_, Lib.hid rfl⟩
        have hx256 : x < 256 := by rw [hx.out]; exact foldN_lt _ _ _ _
        have hc256 : s[I].toNat < 256 := UInt8.toNat_lt _
        obtain ⟨r, hr⟩ : ∃ r, Hid (r = x ^^^ s[I].toNat) := ⟨_, Lib.hid rfl⟩
        have hxor := xor8 x s[I].toNat hx256 hc256
        rw [← hr.out] at hxor
        have cj : wr.cell? ⟨w.heap.size, J, none⟩ = some (.int .u8 (x : Int)) := by rw [hx.out]; exact HR.out.cell J hJm
        have fj := HR.out.free J
        have HN : Hid (Row (wr.setCell ⟨w.heap.size, J, none⟩ (.int .u8 (r : Int))).drew w.heap.size 5 .u8 m (fun j => foldN m j (s.data.toList.take (I + 1)) 0)) := Lib.hid (Row.ext (Row.set (w := wr) HR.out J r) (fun j hj => by
          show upd _ J r j = foldN m j (s.data.toList.take (I + 1)) 0
          rw [take_snoc s I hlt, fold_snoc, htl, ← hJ.out]
          unfold upd
          by_cases e : j = J
          · subst e; rw [if_pos rfl, if_pos rfl, hr.out, hx.out]
          · rw [if_neg e, if_neg (fun h => e h.symm)]))
        have HBN : Hid (Below w.heap.size w (wr.setCell ⟨w.heap.size, J, none⟩ (.int .u8 (r : Int))).drew) := Lib.hid (HB.out.setCell (p := ⟨w.heap.size, J, none⟩) (Nat.le_refl _) _).drew
        generalize hcs : (s[I].toNat : Int) = c at *
        clear HR HB hJ htl hx hx256 hc256 hr
        go_wp2
        go_region
        go_wp2
        go_roundw
        case rel => exact ⟨I + 1, by omega, by first | rfl | simp | go_num, HN.out, HBN.out⟩
        case measure => simp [intOf]; omega
      · obtain rfl : I = s.size := by omega
        have hall : s.data.toList.take s.size = s.data.toList := List.take_of_length_le (by show s.size ≤ s.size; omega)
        rw [hall] at HR
        have hc1 := row_str HR.out (fun j _ => foldN_lt _ _ _ _) wr (Below.refl _ _)
        obtain ⟨D, hD⟩ : ∃ D : ByteArray, Hid (D = ⟨(fold s.data.toList m).toArray⟩) := ⟨_, Lib.hid rfl⟩
        have hc2 : (Go.convert 33 9 (.slice (some ⟨w.heap.size, 0, none⟩) m m)).run Tryd.prog wr = .ok (.string D) wr := by rw [hD.out]; exact hc1
        clear hc1 HR hall
        go_wp2
        go_ret
        exact ⟨by rw [hD.out]; rfl, HB.out⟩
  · have hfi : foldI s.data.toList n = [] := by unfold foldI; rw [if_neg hr]
    rw [hfi]
    by_cases h1 : n < 1
    · go_enter Tryd.func20, Tryd.ntmps20
      go_wp2
      go_ret
      exact ⟨rfl, Below.refl _ _⟩
    · have h2 : (64 : Int) < n := by omega
      have h3 : (1 : Int) ≤ n := by omega
      go_enter Tryd.func20, Tryd.ntmps20
      go_wp2
      go_ret
      exact ⟨rfl, Below.refl _ _⟩
end Go.Proofs.YtkkdcecnegdipaaDoor.R
