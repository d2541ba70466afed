/- Seed of the laws: 32 bytes of a text. No condition but that the length fits. -/
import Derived.Test.YtdajmekliodmcaaGreatDoorText
namespace Go.Proofs.YtdajmekliodmcaaGreatDoor
open Go.RowKit Go.Shelf
set_option linter.unusedVariables false
set_option linter.unusedSimpArgs false
/-- The first 32 bytes of a text, filled up with noughts. -/
def seedAt (s : List UInt8) (k : Nat) : List UInt8 := s.take k ++ List.replicate (32 - k) 0
def seedL (s : List UInt8) : List UInt8 := seedAt s (min 32 s.length)
theorem seedAt_len (s : List UInt8) (k : Nat) (hk : k ≤ 32) (hs : k ≤ s.length) : (seedAt s k).length = 32 := by simp [seedAt]; omega
theorem seedL_len (s : List UInt8) : (seedL s).length = 32 := seedAt_len s _ (by omega) (by omega)
/-- A row of bytes as cells. -/
def bRow (l : List UInt8) : Array Value := (l.map fun b => Value.int .u8 (b.toNat : Int)).toArray
theorem bRow_size (l : List UInt8) : (bRow l).size = l.length := by simp [bRow]
theorem bRow_get (l : List UInt8) (j : Nat) (hj : j < l.length) : (bRow l)[j]? = some (.int .u8 (l[j].toNat : Int)) := by simp [bRow, hj]
def Row8 (W : World) (g : Nat) (l : List UInt8) : Prop := W.heap[g]? = some (.cells (bRow l) 5 (0, 0))
theorem Row8.cell {W : World} {g : Nat} {l : List UInt8} (h : Row8 W g l) (j : Nat) (hj : j < l.length) : W.cell? ⟨g, j, none⟩ = some (.int .u8 (l[j].toNat : Int)) := by
  rw [cell_of_row W g j _ 5 _ h]
  exact bRow_get l j hj
theorem Row8.free {W : World} {g : Nat} {l : List UInt8} (h : Row8 W g l) (j : Nat) : W.frozen? ⟨g, j, none⟩ = false := by
  have h2 : W.heap[g]? = some (.cells (bRow l) 5 (0, 0)) := h
  unfold World.frozen?
  simp [h2]
theorem Row8.lt {W : World} {g : Nat} {l : List UInt8} (h : Row8 W g l) : g < W.heap.size := (Array.getElem?_eq_some_iff.1 h).1
theorem Row8.str {W : World} {g cap n : Nat} {l : List UInt8} (h : Row8 W g l) (hn : l.length = n) : (Go.convert 33 9 (.slice (some ⟨g, 0, none⟩) n cap)).run Tryz.prog W = .ok (.string ⟨l.toArray⟩) W := by
  rw [← hn]
  refine run_convert_bytes_back (P := Tryz.prog) W 33 9 5 ⟨g, 0, none⟩ cap l Tryz.underlying33 Tryz.underlying5 Tryz.underlying9 (fun j hj => ?_)
  rw [show (⟨g, 0, none⟩ : Addr).add j = ⟨g, j, none⟩ by unfold Addr.add; split <;> simp_all, h.cell j hj]
theorem Row8.set {W : World} {g : Nat} {l : List UInt8} (h : Row8 W g l) (j : Nat) (c : UInt8) : Row8 (W.setCell ⟨g, j, none⟩ (.int .u8 (c.toNat : Int))) g (l.set j c) := by
  unfold Row8
  rw [setCell_eq_setRow W g j _ 5 (0, 0) _ h, setRow_heap W g _ _ 5 (0, 0) h]
  simp [bRow, List.map_set]
theorem Row8.same {W W' : World} {g : Nat} {l : List UInt8} (h : Row8 W g l) (hb : Below W.heap.size W W') : Row8 W' g l := (hb.block g h.lt).trans h
theorem make32 : ∀ w : World, (Instr.makeSlice 33 (.int .i64 32) (.int .i64 32)).run Tryz.prog w = .ok (.slice (some ⟨w.heap.size, 0, none⟩) 32 32) (w.alloc (.cells (bRow (List.replicate 32 0)) 5)) := fun w => by kernel_rfl
theorem seedAt_step (s : List UInt8) (k : Nat) (hk : k < 32) (hs : k < s.length) : (seedAt s k).set k s[k] = seedAt s (k + 1) := by
  have h1 : (s.take k).length = k := by simp; omega
  unfold seedAt
  rw [List.set_append_right _ _ (by omega), h1, Nat.sub_self, show 32 - k = (32 - (k + 1)) + 1 by omega, List.replicate_succ, List.set_cons_zero]
  have h3 : s.take (k + 1) = s.take k ++ [s[k]] := by rw [List.take_add_one, List.getElem?_eq_getElem hs]; rfl
  rw [h3, List.append_assoc]
  rfl
set_option maxRecDepth 100000 in
set_option maxHeartbeats 1000000 in
theorem seed_any (s : ByteArray) (hs : s.size ≤ 549755813888) (w : World) : Calls Tryz.prog 16 #[.string s] w fun e w' => e = .returned (.string ⟨(seedL s.data.toList).toArray⟩) ∧ Below w.heap.size w w' := by
  obtain ⟨t, ht⟩ : ∃ t : ByteArray, Hid (t = ⟨(seedL s.data.toList).toArray⟩) := ⟨_, Lib.hid rfl⟩
  rw [← ht.out]
  have hsl : s.data.toList.length = s.size := rfl
  have hmk := make32
  have hr0 : Row8 (w.alloc (.cells (bRow (List.replicate 32 0)) 5)) w.heap.size (seedAt s.data.toList 0) := World.alloc_heap_new w _
  have hb0 : Below w.heap.size w (w.alloc (.cells (bRow (List.replicate 32 0)) 5)) := (Below.refl _ w).alloc (Nat.le_refl _) _
  generalize bRow (List.replicate 32 0) = Z at *
  have HR0 := Lib.hid hr0
  have HB0 := Lib.hid hb0
  clear hr0 hb0
  go_enter Tryz.func16, Tryz.ntmps16
  go_wp2
  clear hmk
  generalize w.alloc (.cells Z 5) = w0 at *
  obtain ⟨g, hg⟩ : ∃ g, Hid (g = w.heap.size) := ⟨_, Lib.hid rfl⟩
  rw [← hg.out] at HR0 ⊢
  go_loopw [4] (fun i wr => ∃ k : Nat, k ≤ 32 ∧ k ≤ s.size ∧ i = .int .i64 k ∧ Row8 wr g (seedAt s.data.toList k) ∧ Below w.heap.size w wr) (fun i _ => 32 - (intOf i).toNat)
  case atStart => exact ⟨0, by omega, by omega, rfl, HR0.out, HB0.out⟩
  case round =>
    clear HR0 HB0
    obtain ⟨k, hk, hks, rfl, hrow, hbel⟩ := hrel
    have HROW := Lib.hid hrow
    have HBEL := Lib.hid hbel
    clear hrow hbel
    by_cases h32 : k < 32
    · have h32I : (k : Int) < 32 := by omega
      by_cases hlt : k < s.size
      · have hltI : (k : Int) < (s.size : Int) := by omega
        have hl := seedAt_len s.data.toList k hk hks
        obtain ⟨v, hcell⟩ : ∃ v, wr.cell? ⟨g, k, none⟩ = some v := ⟨_, HROW.out.cell k (by omega)⟩
        have hfree := HROW.out.free k
        have hset : Hid (Row8 (wr.setCell ⟨g, k, none⟩ (.int .u8 (s[k].toNat : Int))) g (seedAt s.data.toList (k + 1))) := by
          have h := HROW.out.set k s[k]
          have e : (seedAt s.data.toList k).set k s[k] = seedAt s.data.toList (k + 1) := seedAt_step s.data.toList k h32 hlt
          rw [e] at h
          exact Lib.hid h
        have hbel2 : Hid (Below w.heap.size w (wr.setCell ⟨g, k, none⟩ (.int .u8 (s[k].toNat : Int)))) := Lib.hid (HBEL.out.setCell (p := ⟨g, k, none⟩) (by rw [hg.out]; exact Nat.le_refl _) _)
        clear hl
        go_wp2
        go_roundw
        case rel => exact ⟨k + 1, by omega, by omega, by first | rfl | simp | go_num, hset.out, hbel2.out⟩
        case measure => simp [intOf]; omega
      · have hltI : ¬ (k : Int) < (s.size : Int) := by omega
        have hfin : Hid (t = ⟨(seedAt s.data.toList k).toArray⟩) := by
          unfold Hid
          rw [ht.out]
          unfold seedL
          rw [hsl, show min 32 s.size = k by omega]
        have hcv := HROW.out.str (cap := 32) (seedAt_len s.data.toList k hk hks)
        rw [← hfin.out] at hcv
        go_wp2
        go_ret
        exact ⟨rfl, HBEL.out⟩
    · have h32I : ¬ (k : Int) < 32 := by omega
      have hfin : Hid (t = ⟨(seedAt s.data.toList k).toArray⟩) := by
        unfold Hid
        rw [ht.out]
        unfold seedL
        rw [hsl, show min 32 s.size = k by omega]
      have hcv := HROW.out.str (cap := 32) (seedAt_len s.data.toList k hk hks)
      rw [← hfin.out] at hcv
      go_wp2
      go_ret
      exact ⟨rfl, HBEL.out⟩
end Go.Proofs.YtdajmekliodmcaaGreatDoor
