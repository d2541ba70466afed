/- What half and table of package crc do, and that the 256 words they make are those of the arithmetic. No condition. -/
import Derived.Test.YtmmgnjgnjgjhmaaBase
import Derived.Test.YtmmgnjgnjgjhmaaMath

namespace Go.Proofs.Ytmmgnjgnjgjhmaa
open Go.RowKit
set_option linter.unusedVariables false

theorem results_cell {fn : Func} {a : Tmp} {t : TypeId} (h : fn.results = #[.cell a t]) (tmps : Array Value) (P : Program) (w : World) (ad : Addr) (ha : tmps.getD a undef = .pointer (some ad)) (v : Value)
    (hl : (loadVar t ad).run P w = .ok v w) : (results fn tmps).run P w = .ok v w := by
  have ha2 : tmps[a]?.getD undef = .pointer (some ad) := by rw [← Array.getD_eq_getD_getElem?]; exact ha
  unfold results
  rw [h]
  simp [Array.mapM_eq_mapM_toList, ha2, asAddr, hl]
theorem ret_nat {k : IntKind} {a b : Nat} (h : a = b) : Ending.returned (.int k a) = .returned (.int k b) := by rw [h]

theorem half_any (n : Nat) (hn : n < 4294967296) (w : World) :
    Calls Try.prog 22 #[.int .u32 n, .int .u32 3988292384] w fun e w' => e = .returned (.int .u32 (stp n)) ∧ w = w' := by
  have ha : bits BinOp.and IntKind.u32 (n : Int) 1 = ((n % 2 : Nat) : Int) := by
    have := u32_and_nat n 1 hn (by omega)
    rw [Nat.and_one_is_mod] at this
    exact this
  have hx : bits BinOp.xor IntKind.u32 ((n : Int) / 2) 3988292384 = ((n / 2 ^^^ 3988292384 : Nat) : Int) := u32_xor_nat (n / 2) 3988292384 (by omega) (by omega)
  by_cases h : n % 2 = 1
  · have hd : (bits BinOp.and IntKind.u32 (n : Int) 1 == 1) = true := by rw [ha, h]; rfl
    have hs : Hid (n / 2 ^^^ 3988292384 = stp n) := by unfold Hid stp; rw [if_pos h]
    clear ha h
    go_enter Try.func22, Try.ntmps22
    go_wp2
    go_ret
    exact ⟨ret_nat hs.out, rfl⟩
  · have hd : (bits BinOp.and IntKind.u32 (n : Int) 1 == 1) = false := by
      rw [ha, show n % 2 = 0 by omega]; rfl
    have hs : Hid (n / 2 = stp n) := by unfold Hid stp; rw [if_neg h]
    clear ha h hx
    go_enter Try.func22, Try.ntmps22
    go_wp2
    go_ret
    exact ⟨ret_nat hs.out, rfl⟩


def z256 : List Value := List.replicate 256 (.int .u32 0)
theorem zero40 (w : World) : (zeroValue 40).run Try.prog w = .ok (.agg z256.toArray) w := by kernel_rfl

/-- The cells of a row of words. -/
def wordsOf (n : Nat) (f : Nat → Nat) : List Value := (List.range n).map fun j => Value.int .u32 (f j)
theorem wordsOf_get (n : Nat) (f : Nat → Nat) (j : Nat) (hj : j < n) : (wordsOf n f)[j]? = some (.int .u32 (f j)) := by
  unfold wordsOf
  rw [List.getElem?_map, List.getElem?_range hj]; rfl
theorem wordsOf_length (n : Nat) (f : Nat → Nat) : (wordsOf n f).length = n := by simp [wordsOf]
theorem wordsOf_ext (cur : Array Value) (n : Nat) (f : Nat → Nat) (hs : cur.size = n) (h : ∀ j, j < n → cur[j]? = some (.int .u32 (f j))) : cur = (wordsOf n f).toArray := by
  have h2 : cur.toList = wordsOf n f := by
    apply List.ext_getElem?
    intro j
    rw [Array.getElem?_toList]
    by_cases hj : j < n
    · rw [h j hj, wordsOf_get n f j hj]
    · rw [Array.getElem?_eq_none (by omega), List.getElem?_eq_none (by rw [wordsOf_length]; omega)]
  rw [← h2]
theorem wordsOf_one (n : Nat) (f : Nat → Nat) : ∀ v ∈ wordsOf n f, v.oneCell' = true := by
  intro v hv
  simp [wordsOf] at hv
  obtain ⟨j, _, rfl⟩ := hv
  rfl
theorem size40 : (Try.prog.info? 40).map (·.size) = some 256 := by kernel_rfl
theorem z256_size : z256.toArray.size = 256 := by unfold z256; rw [List.size_toArray, List.length_replicate]
theorem z256_get (j : Nat) (hj : j < 256) : z256.toArray[j]? = some (.int .u32 0) := by
  rw [List.getElem?_toArray]; unfold z256; rw [List.getElem?_replicate, if_pos hj]

set_option maxRecDepth 100000 in
set_option maxHeartbeats 400000 in
theorem table_walk (w : World) :
    Calls Try.prog 19 #[.int .u32 3988292384] w fun e w' => e = .returned (.agg (wordsOf 256 tabN).toArray) ∧ Below w.heap.size w w' := by
  go_enter Try.func19, Try.ntmps19
  go_wp2_with (refine wpList_run rfl _ (exec_alloc_agg _ 40 rfl z256.toArray (zero40 _)) ?_)
  go_loopw [4, 5] (fun n b wr => ∃ r : Nat, ∃ cur, r ≤ 8 ∧ n = .int .u32 (nnN r) ∧ b = .int .i64 ((128 / 2 ^ r : Nat) : Int) ∧ wr = (w.alloc (.cells z256.toArray 40)).alloc (.cells cur 40) ∧ cur.size = 256 ∧ ∀ j, j < 256 → cur[j]? = some (.int .u32 (lvl r j))) (fun _ b _ => (intOf b).toNat)
  case atStart => exact ⟨0, z256.toArray, by omega, rfl, rfl, rfl, z256_size, fun j hj => by rw [z256_get j hj, lvl_zero j hj]; rfl⟩
  case round =>
    obtain ⟨r, cur, hr, rfl, rfl, rfl, hcs, hcur⟩ := hrel
    have HC := Lib.hid hcur
    have HS := Lib.hid hcs
    clear hcur hcs
    by_cases hlt : r < 8
    · obtain ⟨d, hd, hd1, hd2, hd3⟩ : ∃ d, 128 / 2 ^ r = d ∧ 1 ≤ d ∧ d ≤ 128 ∧ 256 / 2 ^ r = 2 * d := by
        refine ⟨_, rfl, ?_⟩
        rcases (show r = 0 ∨ r = 1 ∨ r = 2 ∨ r = 3 ∨ r = 4 ∨ r = 5 ∨ r = 6 ∨ r = 7 by omega) with rfl | rfl | rfl | rfl | rfl | rfl | rfl | rfl <;> decide
      have HD := Lib.hid hd
      rw [hd]
      clear hd
      have hn := nnN_lt r
      go_wp2_with (go_at_call 22; refine (half_any _ hn _).mono ?_; rintro e w' ⟨rfl, rfl⟩)
      have hM : 1 ≤ 2 ^ r ∧ 2 ^ r * (2 * d) = 256 := by
        have h1 := HD.out
        subst h1
        clear HC HD hn
        rcases (show r = 0 ∨ r = 1 ∨ r = 2 ∨ r = 3 ∨ r = 4 ∨ r = 5 ∨ r = 6 ∨ r = 7 by omega) with rfl | rfl | rfl | rfl | rfl | rfl | rfl | rfl <;> decide
      obtain ⟨M, HM⟩ : ∃ M, Hid (M = 2 ^ r) := ⟨_, Lib.hid rfl⟩
      rw [← HM.out] at hM
      obtain ⟨hM1, hM2⟩ := hM
      have H3 := Lib.hid hd3
      clear hd3
      have HN := Lib.hid (show stp (nnN r) = nnN (r + 1) from rfl)
      have hn2 : stp (nnN r) < 4294967296 := nnN_lt (r + 1)
      have HM2 := Lib.hid hM2
      clear hM2
      go_loopw [6] (fun i wr2 => ∃ k I : Nat, ∃ cur2, k ≤ M ∧ I ≤ 256 ∧ Hid (I = k * (2 * d)) ∧ i = .int .i64 I ∧ wr2 = (w.alloc (.cells z256.toArray 40)).alloc (.cells cur2 40) ∧ cur2.size = 256 ∧ ∀ j, j < 256 → cur2[j]? = some (.int .u32 (lvlTo r I j))) (fun i _ => 256 - (intOf i).toNat)
      case atStart => exact ⟨0, 0, cur, by omega, by omega, Lib.hid (by omega), rfl, rfl, HS.out, fun j hj => by rw [HC.out j hj, lvlTo_zero]⟩
      case round =>
        obtain ⟨k, I, cur2, hk, hI, hIk, rfl, rfl, hcs2, hcur2⟩ := hrel
        have HC2 := Lib.hid hcur2
        have HS2 := Lib.hid hcs2
        clear hcur2 hcs2
        by_cases hlt2 : k < M
        · have hId : I + 2 * d ≤ 256 := by
            have h1 := hIk.out
            have h2 := HM2.out
            have h3 : (k + 1) * (2 * d) ≤ M * (2 * d) := Nat.mul_le_mul_right _ hlt2
            rw [Nat.add_mul] at h3
            omega
          have c1 : ((w.alloc (.cells z256.toArray 40)).alloc (.cells cur2 40)).cell? ⟨w.heap.size + 1, I, none⟩ = some (.int .u32 (lvlTo r I I)) := by
            have := cell_of_row _ (w.alloc (.cells z256.toArray 40)).heap.size I cur2 40 (0, 0) (heap_alloc_new (w.alloc (.cells z256.toArray 40)) (.cells cur2 40))
            rw [World.size_alloc] at this
            exact this.trans (HC2.out I (by omega))
          have c2 : ((w.alloc (.cells z256.toArray 40)).alloc (.cells cur2 40)).cell? ⟨w.heap.size + 1, I + d, none⟩ = some (.int .u32 (lvlTo r I (I + d))) := by
            have := cell_of_row _ (w.alloc (.cells z256.toArray 40)).heap.size (I + d) cur2 40 (0, 0) (heap_alloc_new (w.alloc (.cells z256.toArray 40)) (.cells cur2 40))
            rw [World.size_alloc] at this
            exact this.trans (HC2.out (I + d) (by omega))
          have hy1 : lvlTo r I I < 4294967296 := lvlTo_lt r I I (by omega)
          obtain ⟨y, hy⟩ : ∃ y, y = lvlTo r I I ^^^ stp (nnN r) := ⟨_, rfl⟩
          have hx : bits .xor .u32 (lvlTo r I I : Int) (stp (nnN r) : Int) = (y : Int) := by rw [hy]; exact u32_xor_nat _ _ hy1 hn2
          have HY := Lib.hid hy
          generalize stp (nnN r) = n2 at *
          have HN2 := Lib.hid hn2
          clear hy hy1 hn2 hn
          go_wp2
          go_roundw
          case rel => 
            refine ⟨k + 1, I + 2 * d, _, by omega, by omega, Lib.hid (by rw [hIk.out]; rw [Nat.add_mul]; omega), by go_num, rfl, ?_, ?_⟩
            · rw [Array.size_setIfInBounds]; exact HS2.out
            · intro j hj
              have hst := lvlTo_step r hlt k (by rw [← HM.out]; exact hlt2) j
              rw [H3.out, HD.out, show (k + 1) * (2 * d) = I + 2 * d by rw [hIk.out, Nat.add_mul]; omega, ← hIk.out, ← HN.out, ← HY.out] at hst
              rw [hst, Array.getElem?_setIfInBounds]
              by_cases e : I + d = j
              · subst e
                rw [if_pos rfl, if_pos rfl, if_pos (by rw [HS2.out]; omega)]
              · rw [if_neg e, if_neg (fun h => e h.symm)]
                exact HC2.out j hj
          case measure => simp [intOf]; omega
        · have HI : Hid (I = 256) := by
            unfold Hid
            have h1 := hIk.out
            have h2 := HM2.out
            have h3 : k = M := by omega
            rw [h1, h3, h2]
          have hI2 : 256 ≤ I := by have := HI.out; omega
          have HL : Hid (∀ j, j < 256 → cur2[j]? = some (.int .u32 (lvl (r + 1) j))) := by
            intro j hj
            have := HC2.out j hj
            rw [HI.out, lvlTo_all r hlt j hj] at this
            exact this
          have hd4 : Hid ((d : Int) / 2 = ((128 / 2 ^ (r + 1) : Nat) : Int)) := by
            unfold Hid
            have h1 := HD.out
            rw [← h1, Nat.pow_succ, ← Nat.div_div_eq_div_mul]
            rfl
          clear hn hn2 HC HC2
          go_wp2
          go_roundw
          case rel => exact ⟨r + 1, cur2, by omega, rfl, by rw [← hd4.out], rfl, HS2.out, HL.out⟩
          case measure => simp [intOf]; omega
    · obtain rfl : r = 8 := by omega
      obtain ⟨cs, hcs⟩ : ∃ cs, Hid (cs = wordsOf 256 tabN) := ⟨_, Lib.hid rfl⟩
      have hw : cur = cs.toArray := by rw [hcs.out]; exact wordsOf_ext cur 256 tabN HS.out (fun j hj => by rw [HC.out j hj, lvl_last])
      have hlen : Hid (cs.length = 256) := by unfold Hid; rw [hcs.out, wordsOf_length]
      have hone : Hid (∀ v ∈ cs, v.oneCell' = true) := by unfold Hid; rw [hcs.out]; exact wordsOf_one _ _
      clear HC HS
      subst hw
      rw [show ((128 / 2 ^ 8 : Nat) : Int) = 0 from rfl]
      have hcl : Hid (∀ j v, cs[j]? = some v → ((w.alloc (.cells z256.toArray 40)).alloc (.cells cs.toArray 40)).cell? ⟨w.heap.size + 1, 0 + j, none⟩ = some v) := by
        intro j v hv
        have := cell_of_row _ (w.alloc (.cells z256.toArray 40)).heap.size (0 + j) cs.toArray 40 (0, 0) (heap_alloc_new (w.alloc (.cells z256.toArray 40)) (.cells cs.toArray 40))
        rw [World.size_alloc] at this
        rw [this, Nat.zero_add, List.getElem?_toArray, hv]
      have hsz : Hid ((Try.prog.info? 40).map (·.size) = some cs.length) := by unfold Hid; rw [hlen.out]; exact size40
      have hg : Hid (((w.alloc (.cells z256.toArray 40)).alloc (.cells cs.toArray 40)).heap[w.heap.size]? = some (.cells z256.toArray 40 (0, 0))) := by
        unfold Hid
        rw [Below.heap_alloc _ _ _ (by simp)]
        exact heap_alloc_new w _
      have hfit : Hid (0 + cs.length ≤ z256.toArray.size) := by unfold Hid; rw [hlen.out, z256_size]; exact Nat.le_refl _
      go_wp2_with (first | (refine wpList_load_seg rfl 40 (.tmp 3) rfl (w.heap.size + 1) 0 rfl cs _ hcl.out Try.underlying40 rfl hsz.out ?_) | (refine wpList_store_seg rfl 40 (.tmp 2) (.tmp 30) rfl w.heap.size 0 rfl cs rfl z256.toArray 40 hg.out hfit.out hone.out hsz.out ?_))
      have hsp : splice z256.toArray 0 cs = cs.toArray := splice_all _ _ (by rw [z256_size, hlen.out])
      rw [hsp]
      have hld : (loadVar 40 ⟨w.heap.size, 0, none⟩).run Try.prog (((w.alloc (.cells z256.toArray 40)).alloc (.cells cs.toArray 40)).setRow w.heap.size cs.toArray) = .ok (.agg cs.toArray) (((w.alloc (.cells z256.toArray 40)).alloc (.cells cs.toArray 40)).setRow w.heap.size cs.toArray) := by
        refine run_loadVar_seg _ 40 w.heap.size 0 cs _ (fun j v hv => ?_) Try.underlying40 rfl hsz.out
        rw [cell_of_row _ w.heap.size (0 + j) cs.toArray 40 (0, 0) (setRow_heap _ _ _ _ _ _ hg.out), Nat.zero_add, List.getElem?_toArray, hv]
      have hbel : Below w.heap.size w (((w.alloc (.cells z256.toArray 40)).alloc (.cells cs.toArray 40)).setRow w.heap.size cs.toArray) := by
        exact (((Below.refl _ w).alloc (Nat.le_refl _) _).alloc (by simp) _).trans ⟨rfl, rfl, rfl, by simp, fun k hk => setRow_other _ _ _ _ (by omega)⟩
      generalize ((w.alloc (.cells z256.toArray 40)).alloc (.cells cs.toArray 40)).setRow w.heap.size cs.toArray = W2 at *
      exact bodyPost_ret (v := .agg cs.toArray) (results_cell rfl _ _ _ ⟨w.heap.size, 0, none⟩ rfl _ hld) rfl ⟨by rw [hcs.out], hbel⟩
end Go.Proofs.Ytmmgnjgnjgjhmaa
