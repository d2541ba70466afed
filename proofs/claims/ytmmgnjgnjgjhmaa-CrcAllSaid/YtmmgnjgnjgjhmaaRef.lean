/- What the document's Table of sums comes to. No condition. -/
import Derived.Test.YtmmgnjgnjgjhmaaSum

namespace Go.Proofs.Ytmmgnjgnjgjhmaa
open Go.RowKit
set_option linter.unusedVariables false

def stpI : Nat → Nat → Nat
  | 0, n => n
  | k + 1, n => stp (stpI k n)
theorem stpI_lt : ∀ (k n : Nat), n < 4294967296 → stpI k n < 4294967296
  | 0, _, h => h
  | k + 1, n, h => stp_lt (stpI_lt k n h)
theorem info28 : (Try.prog.info? 28).map (fun i => (i.zero, i.size, i.bytes)) = some (some (.int .u32 0), 1, 4) := by kernel_rfl

theorem wordsOf_succ (k : Nat) (f : Nat → Nat) : wordsOf (k + 1) f = wordsOf k f ++ [.int .u32 (f k)] := by simp [wordsOf, List.range_succ]

set_option maxRecDepth 100000 in
set_option maxHeartbeats 400000 in
theorem rtab_any (w : World) :
    Calls Try.prog 16 #[] w fun e w' => ∃ v, e = .returned v ∧ w'.ownsRow w.heap.size 28 1 v 256 (wordsOf 256 tabN) ∧ Below w.heap.size w w' := by
  go_enter Try.func16, Try.ntmps16
  go_wp2
  go_loopw [1, 2] (fun v i wr => ∃ k : Nat, k ≤ 256 ∧ i = .int .i64 k ∧ wr.ownsRow w.heap.size 28 1 v k (wordsOf k tabN) ∧ Below w.heap.size w wr) (fun _ i _ => 256 - (intOf i).toNat)
  case atStart => exact ⟨0, Nat.zero_le _, rfl, World.ownsRow_nil _ _ _ _, Below.refl _ _⟩
  case round =>
    obtain ⟨k, hk, rfl, hown, hb⟩ := hrel
    by_cases hlt : k < 256
    · go_wp2
      obtain ⟨wo, rfl⟩ : ∃ wo : World, wo = wr := ⟨_, rfl⟩
      have HO := Lib.hid hown
      have HB := Lib.hid hb
      clear hown hb
      go_loop [3, 4] (fun n i => ∃ q N : Nat, q ≤ 8 ∧ i = .int .i64 q ∧ n = .int .u32 N ∧ Hid (N = stpI q k)) (fun _ i => 8 - (intOf i).toNat)
      case atStart => exact ⟨0, _, Nat.zero_le _, rfl, rfl, Lib.hid rfl⟩
      case round =>
        obtain ⟨q, N, hq, rfl, rfl, hN⟩ := hrel
        have hN32 : N < 4294967296 := by rw [hN.out]; exact stpI_lt q k (by omega)
        have ha : bits BinOp.and IntKind.u32 (N : Int) 1 = ((N % 2 : Nat) : Int) := by
          have := u32_and_nat N 1 hN32 (by omega)
          rw [Nat.and_one_is_mod] at this
          exact this
        have hx : bits BinOp.xor IntKind.u32 ((N : Int) / 2) 3988292384 = ((N / 2 ^^^ 3988292384 : Nat) : Int) := u32_xor_nat (N / 2) 3988292384 (by omega) (by omega)
        by_cases hlt2 : q < 8
        · by_cases h : N % 2 = 1
          · have hs : Hid (N / 2 ^^^ 3988292384 = stpI (q + 1) k) := by unfold Hid; show _ = stp (stpI q k); rw [← hN.out]; unfold stp; rw [if_pos h]
            rw [h] at ha
            clear h
            go_wp2
            go_round
            case rel => exact ⟨q + 1, _, by omega, by go_num, rfl, hs⟩
            case measure => simp [intOf]; omega
          · have hs : Hid (N / 2 = stpI (q + 1) k) := by unfold Hid; show _ = stp (stpI q k); rw [← hN.out]; unfold stp; rw [if_neg h]
            rw [show N % 2 = 0 by omega] at ha
            clear h hx
            go_wp2
            go_round
            case rel => exact ⟨q + 1, _, by omega, by go_num, rfl, hs⟩
            case measure => simp [intOf]; omega
        · obtain rfl : q = 8 := by omega
          have hT : Hid (N = tabN k) := hN
          clear hN ha hx hlt2
          obtain ⟨i3, hi3, hz3, hs3, hb3⟩ := info_parts info28
          have hown := HO.out
          have hfr := HB.out
          obtain ⟨v', W3, happ, hown', hgrow, hat⟩ := exec_append_own (P := Try.prog) (wo.alloc (.cells #[.int .u32 (N : Int)] 28)) w.heap.size 35 28 i3 _ 1 4 Try.underlying35 hi3 hz3 hs3 hb3 rfl (by decide) _ k _ (hown.alloc _) ⟨wo.heap.size, 0, none⟩ 1 1 [.int .u32 (N : Int)] rfl (by
              intro j u hu
              rw [addr_add, cell_of_row _ wo.heap.size (0 + j) [Value.int .u32 (N : Int)].toArray 28 (0, 0) (heap_alloc_new wo _), Nat.zero_add, List.getElem?_toArray]
              exact hu) (by intro u hu; simp at hu; subst hu; rfl) (by unfold maxLen; omega) (by omega) (by have := hfr.size; simp; omega)
          have hbel : Below w.heap.size w W3 := by
            refine (hfr.alloc hfr.size _).grown hgrow (by have := hfr.size; simp; omega) (fun j hj => (hown.lt j hj).1)
          have hown2 : W3.ownsRow w.heap.size 28 1 v' (k + 1) (wordsOf (k + 1) tabN) := by rw [wordsOf_succ, ← hT.out]; exact hown'
          have HAPP := Lib.hid happ
          have HO := Lib.hid hown2
          have HF := Lib.hid hbel
          clear happ hown' hgrow hat hown hfr hown2 hbel hi3 hz3 hs3 hb3
          go_wp2_with (at_builtin; refine wpList_run rfl _ (HAPP.out _ _ (.tmp 24) (.tmp 26) rfl rfl rfl) ?_)
          go_roundw
          case rel => exact ⟨k + 1, by omega, by go_num, HO.out, HF.out⟩
          case measure => simp [intOf]; omega
    · obtain rfl : k = 256 := by omega
      have HO := Lib.hid hown
      have HB := Lib.hid hb
      clear hown hb
      go_wp2
      go_ret
      exact ⟨_, rfl, HO.out, HB.out⟩
end Go.Proofs.Ytmmgnjgnjgjhmaa
