/- The law CrcMix walked: it returns true at any three texts, and no memory that was there is changed. -/
import Derived.Test.YtmmgnjgnjgjhmaaAwake
import Derived.Test.YtmmgnjgnjgjhmaaLin
import Derived.Deep.RegionHeld3
import Derived.BigQuiet
import Derived.RegionTactic

namespace Go.Proofs.Ytmmgnjgnjgjhmaa
open Go.RowKit
set_option linter.unusedVariables false

theorem made_get (z : Value) (n j : Nat) (hz : z.cells = #[z]) (hj : j < n) : (madeCells z.cells n)[j]? = some z := by
  unfold madeCells
  rw [hz]
  simp [hj, Nat.mod_one]

theorem min4 (a b c : Nat) : ∃ n : Nat, n ≤ a ∧ n ≤ b ∧ n ≤ c ∧ n ≤ 300 ∧ ∀ (ts : Array TypeId) (t : TypeId) (w : World), (Builtin.min_ ts t #[.int .i64 a, .int .i64 b, .int .i64 c, .int .i64 300]).run Try.prog w = .ok (.int .i64 n) w := by
  refine ⟨min (min (min a b) c) 300, by omega, by omega, by omega, by omega, fun ts t w => ?_⟩
  simp only [Builtin.min_, List.foldlM, Builtin.min2, Sem.run_bind, Sem.run_pure, Result.andThen_ok]
  congr 2
  split <;> split <;> split <;> omega

/-- Three bytes' exclusive or, at a place. -/
def x3 (s t u : ByteArray) (j : Nat) : Nat := (s.data.toList.getD j 0).toNat ^^^ (t.data.toList.getD j 0).toNat ^^^ (u.data.toList.getD j 0).toNat
theorem getD_str (s : ByteArray) (k : Nat) (h : k < s.size) : s.data.toList.getD k 0 = s[k] := by
  rw [List.getD_eq_getElem?_getD, List.getElem?_eq_getElem (by simpa using h)]
  rfl

def x3L (s t u : ByteArray) (k : Nat) : List UInt8 := (List.range k).map fun j => UInt8.ofNat (x3 s t u j)
theorem x3L_length (s t u : ByteArray) (k : Nat) : (x3L s t u k).length = k := by simp [x3L]
theorem x3_lt (s t u : ByteArray) (j : Nat) : x3 s t u j < 256 := by
  unfold x3
  exact Nat.xor_lt_two_pow (n := 8) (Nat.xor_lt_two_pow (n := 8) (UInt8.toNat_lt _) (UInt8.toNat_lt _)) (UInt8.toNat_lt _)
theorem x3L_get (s t u : ByteArray) (k j : Nat) (hj : j < (x3L s t u k).length) : (x3L s t u k)[j].toNat = x3 s t u j := by
  simp [x3L, Nat.mod_eq_of_lt (x3_lt _ _ _ _)]
theorem getD_range_map (k : Nat) (f : Nat → UInt8) (j : Nat) : ((List.range k).map f).getD j 0 = if j < k then f j else 0 := by
  rw [List.getD_eq_getElem?_getD, List.getElem?_map]
  by_cases h : j < k
  · rw [List.getElem?_range h, if_pos h]; rfl
  · rw [List.getElem?_eq_none (by simp; omega), if_neg h]; rfl
theorem getD_take (l : List UInt8) (k j : Nat) : (l.take k).getD j 0 = if j < k then l.getD j 0 else 0 := by
  rw [List.getD_eq_getElem?_getD, List.getElem?_take]
  split
  · rw [List.getD_eq_getElem?_getD]
  · rfl
theorem mix_sum (s t u : ByteArray) (k : Nat) (h1 : k ≤ s.size) (h2 : k ≤ t.size) (h3 : k ≤ u.size) :
    crcN (x3L s t u k) = crcN (s.data.toList.take k) ^^^ crcN (t.data.toList.take k) ^^^ crcN (u.data.toList.take k) := by
  have l1 : (s.data.toList.take k).length = k := by rw [List.length_take]; exact Nat.min_eq_left h1
  have l2 : (t.data.toList.take k).length = k := by rw [List.length_take]; exact Nat.min_eq_left h2
  have l3 : (u.data.toList.take k).length = k := by rw [List.length_take]; exact Nat.min_eq_left h3
  refine crcN_mix _ _ _ ((List.range k).map fun j => s.data.toList.getD j 0 ^^^ t.data.toList.getD j 0) _ (l1.trans l2.symm) (by rw [l2]; simp) (by rw [l3]; simp) (by rw [l3, x3L_length]) ?_ ?_
  · intro j
    rw [getD_range_map, getD_take, getD_take]
    by_cases h : j < k
    · rw [if_pos h, if_pos h, if_pos h]
    · rw [if_neg h, if_neg h, if_neg h]; rfl
  · intro j
    unfold x3L
    rw [getD_range_map, getD_range_map, getD_take]
    by_cases h : j < k
    · rw [if_pos h, if_pos h, if_pos h]
      apply UInt8.toNat_inj.mp
      rw [UInt8.toNat_xor, UInt8.toNat_xor, UInt8.toNat_ofNat', Nat.mod_eq_of_lt (x3_lt _ _ _ _)]
      rfl
    · rw [if_neg h, if_neg h, if_neg h]; rfl
theorem sum_of (s : ByteArray) (hs : s.size ≤ 9223372036854775807) (A : Nat) (h : A = crcN s.data.toList) (w : World) :
    Calls Try.prog 11 #[.string s] w fun e w' => e = .returned (.int .u32 A) ∧ Below w.heap.size w w' := by
  rw [h]; exact sum_any s hs w
theorem take_extract (s : ByteArray) (k : Nat) : (s.extract 0 k).data.toList = s.data.toList.take k := by
  rw [ByteArray.data_extract]; simp

theorem below_step {w a b : World} (h : Below w.heap.size w a) (k : Below a.heap.size a b) : Below w.heap.size w b := h.trans (k.mono h.size)

set_option maxRecDepth 100000 in
set_option maxHeartbeats 1000000 in
theorem mix_law (s t u : ByteArray) (hs : s.size ≤ 9223372036854775807) (ht : t.size ≤ 9223372036854775807) (hu : u.size ≤ 9223372036854775807) (w : World) :
    Calls Try.prog 6 #[.string s, .string t, .string u] w fun e w' => e = .returned (.bool true) ∧ Below w.heap.size w w' := by
  obtain ⟨n, n1, n2, n3, n4, hmin⟩ := min4 s.size t.size u.size
  obtain ⟨i0, hi, hz0, hz1, hz2⟩ := info_parts info5
  have hmk : ∀ W : World, (Instr.makeSlice 33 (.int .i64 (n : Int)) (.int .i64 (n : Int))).run Try.prog W = .ok (.slice (some ⟨W.heap.size, 0, none⟩) n n) (W.alloc (.cells (madeCells (Value.int .u8 0).cells n) 5)) := fun W => by
    have h := run_make (P := Try.prog) W 33 5 i0 (.int .u8 0) Try.underlying33 hi hz0 .i64 .i64 (n : Int) (n : Int) (by omega) (by omega) (by rw [hz2]; omega) (by omega)
    rw [hz1] at h
    simpa using h
  clear hi hz0 hz1 hz2
  go_enter Try.func6, Try.ntmps6
  go_wp2
  go_loopw [9] (fun i wr => ∃ k : Nat, ∃ cur, k ≤ n ∧ i = .int .i64 k ∧ Hid (wr.heap[w.heap.size]? = some (.cells cur 5 (0, 0))) ∧ Hid (cur.size = n) ∧ Hid (∀ j, j < n → cur[j]? = some (.int .u8 (if j < k then x3 s t u j else 0 : Nat))) ∧ Hid (Below w.heap.size w wr)) (fun i _ => n - (intOf i).toNat)
  case atStart => exact ⟨0, _, Nat.zero_le _, rfl, heap_alloc_new w _, Lib.hid (size_madeCells _ _), Lib.hid (fun j hj => by rw [if_neg (by omega)]; exact made_get (.int .u8 0) n j rfl hj), Lib.hid ((Below.refl _ w).alloc (Nat.le_refl _) _)⟩
  case round =>
    obtain ⟨k, cur, hk, rfl, hg, hcs, hcur, hb⟩ := hrel
    by_cases hlt : k < n
    · have k1 : k < s.size := by omega
      have k2 : k < t.size := by omega
      have k3 : k < u.size := by omega
      have hc : wr.cell? ⟨w.heap.size, k, none⟩ = some (.int .u8 ((0 : Nat) : Int)) := by
        rw [cell_of_row _ _ _ _ _ _ hg.out, hcur.out k hlt, if_neg (by omega)]
      have hf : wr.frozen? ⟨w.heap.size, k, none⟩ = false := frozen_of_row _ _ _ _ _ hg.out
      have hx : Hid (x3 s t u k = s[k].toNat ^^^ t[k].toNat ^^^ u[k].toNat) := by
        unfold Hid x3; rw [getD_str s k k1, getD_str t k k2, getD_str u k k3]
      have b1 : s[k].toNat < 256 := UInt8.toNat_lt _
      have b2 : t[k].toNat < 256 := UInt8.toNat_lt _
      have b3 : u[k].toNat < 256 := UInt8.toNat_lt _
      have b4 : s[k].toNat ^^^ t[k].toNat < 256 := Nat.xor_lt_two_pow (n := 8) b1 b2
      have hx1 : bits .xor .u8 (s[k].toNat : Int) (t[k].toNat : Int) = ((s[k].toNat ^^^ t[k].toNat : Nat) : Int) := u8_xor_nat _ _ b1 b2
      have hx2 : bits .xor .u8 ((s[k].toNat ^^^ t[k].toNat : Nat) : Int) (u[k].toNat : Int) = ((s[k].toNat ^^^ t[k].toNat ^^^ u[k].toNat : Nat) : Int) := u8_xor_nat _ _ b4 b3
      rw [← hx.out] at hx2
      generalize s[k].toNat ^^^ t[k].toNat = y at *
      obtain ⟨z, hz⟩ : ∃ z, Hid (z = x3 s t u k) := ⟨_, Lib.hid rfl⟩
      rw [← hz.out] at hx2
      have k0 : (0 : Int) ≤ (k : Int) := by omega
      clear b1 b2 b3 b4 hmin hmk hx
      go_wp2
      go_region
      go_wp2
      go_roundw
      case rel =>
        refine ⟨k + 1, cur.setIfInBounds k (.int .u8 z), by omega, by go_num, Lib.hid (heap_setCell_same wr w.heap.size k cur 5 _ hg.out), Lib.hid (by rw [Array.size_setIfInBounds]; exact hcs.out), Lib.hid (fun j hj => ?_), Lib.hid ?_⟩
        · rw [Array.getElem?_setIfInBounds]
          by_cases e : k = j
          · subst e
            rw [if_pos rfl, if_pos (by rw [hcs.out]; exact hlt), if_pos (by omega), hz.out]
          · rw [if_neg e, hcur.out j hj]
            by_cases e2 : j < k
            · rw [if_pos e2, if_pos (by omega)]
            · rw [if_neg e2, if_neg (by omega)]
        · exact (hb.out.setCell (Nat.le_refl _) _).drew
      case measure => simp [intOf]; omega
    · obtain rfl : k = n := by omega
      obtain ⟨A, hA⟩ : ∃ A, A = crcN (s.extract 0 k).data.toList := ⟨_, rfl⟩
      obtain ⟨B, hB⟩ : ∃ B, B = crcN (t.extract 0 k).data.toList := ⟨_, rfl⟩
      obtain ⟨C, hC⟩ : ∃ C, C = crcN (u.extract 0 k).data.toList := ⟨_, rfl⟩
      obtain ⟨X, hX⟩ : ∃ X, X = (⟨(x3L s t u k).toArray⟩ : ByteArray) := ⟨_, rfl⟩
      have hD : A ^^^ B ^^^ C = crcN X.data.toList := by
        rw [hX, hA, hB, hC, take_extract, take_extract, take_extract]
        exact (mix_sum s t u k n1 n2 n3).symm
      have SA := Lib.hid (sum_of (s.extract 0 k) (by rw [ByteArray.size_extract]; omega) A hA)
      have SB := Lib.hid (sum_of (t.extract 0 k) (by rw [ByteArray.size_extract]; omega) B hB)
      have SC := Lib.hid (sum_of (u.extract 0 k) (by rw [ByteArray.size_extract]; omega) C hC)
      have SD := Lib.hid (sum_of X (by rw [hX]; show (x3L s t u k).length ≤ _; rw [x3L_length]; omega) _ hD)
      have la : A < 4294967296 := by rw [hA]; exact crcN_lt _
      have lb : B < 4294967296 := by rw [hB]; exact crcN_lt _
      have lc : C < 4294967296 := by rw [hC]; exact crcN_lt _
      have lab : A ^^^ B < 4294967296 := Nat.xor_lt_two_pow (n := 32) la lb
      have x1 : bits .xor .u32 (A : Int) (B : Int) = ((A ^^^ B : Nat) : Int) := u32_xor_nat A B la lb
      have x2 : bits .xor .u32 ((A ^^^ B : Nat) : Int) (C : Int) = ((A ^^^ B ^^^ C : Nat) : Int) := u32_xor_nat _ C lab lc
      generalize A ^^^ B ^^^ C = D at *
      generalize A ^^^ B = AB at *
      have hcv : ∀ W : World, W.heap[w.heap.size]? = some (.cells cur 5 (0, 0)) → (Go.convert 33 9 (.slice (some ⟨w.heap.size, 0, none⟩) k k)).run Try.prog W = .ok (.string X) W := by
        intro W hW
        rw [hX]
        have := run_convert_bytes_back W 33 9 5 ⟨w.heap.size, 0, none⟩ k (x3L s t u k) Try.underlying33 Try.underlying5 Try.underlying9 (fun j hj => by
          have hj2 : j < k := by rw [x3L_length] at hj; exact hj
          rw [addr_add, Nat.zero_add, cell_of_row _ _ _ _ _ _ hW, hcur.out j hj2, if_pos hj2]
          rw [x3L_get s t u k j hj])
        rwa [x3L_length] at this
      have HCV := Lib.hid hcv
      clear hcv hA hB hC hX hD la lb lc lab hmin hmk hcur hcs
      go_wp2
      go_region_held3 (fun w' => w'.heap[w.heap.size]? = some (.cells cur 5 (0, 0)) ∧ (Go.convert 33 9 (.slice (some ⟨w.heap.size, 0, none⟩) k k)).run Try.prog w' = .ok (.string X) w' ∧ Below w.heap.size w w') (first | exact ⟨hg.out, HCV.out _ hg.out, hb.out⟩ | exact ⟨hg.out, HCV.out _ hg.out, hb.out.drew⟩ | exact ⟨kept_row hb1 hg.out, HCV.out _ (kept_row hb1 hg.out), below_step hb.out.drew hb1⟩ | (go_split_ands; exact ⟨kept_row hb1 (by assumption), HCV.out _ (kept_row hb1 (by assumption)), below_step (by assumption) hb1⟩)) (first | (go_at_call 11; (with_reducible refine (SA.out _).mono ?_); rintro e w' ⟨rfl, hb1⟩) | (go_at_call 11; (with_reducible refine (SB.out _).mono ?_); rintro e w' ⟨rfl, hb1⟩) | (go_at_call 11; (with_reducible refine (SC.out _).mono ?_); rintro e w' ⟨rfl, hb1⟩) | (go_at_call 11; (with_reducible refine (SD.out _).mono ?_); rintro e w' ⟨rfl, hb1⟩) | (go_at_call 8; refine (awake_ok _).mono ?_; rintro e w' ⟨rfl, hb1⟩))
      have HB : Hid (Below w.heap.size w w') := by go_split_ands; assumption
      rename_i hHeld
      clear hHeld
      go_wp2
      go_ret
      exact ⟨rfl, HB.out⟩

end Go.Proofs.Ytmmgnjgnjgjhmaa
