/- Several texts, one behind the other; each says by itself what it proves, and on what conditions. -/
import Derived.Test.YtlofoeapfmcolaaW10
import Derived.Test.YtlofoeapfmcolaaProg
import Derived.RangeFuncNested
import Derived.RangeFuncBound
import Derived.RangeFuncCalls
import Derived.RangeFuncLeaves
import Derived.Shelf.Abstract
import Derived.Shelf.RegionOpen
import Derived.WalkKit
import Derived.OwnWalkIn
import Derived.TacticsInMore
import Derived.LoopNIn
import Derived.LoopIn
import Derived.StillTail
/- The document on parts: has, Letters, MayPart, stands; the statements' Part. Its condition: lengths that fit. -/
namespace Go.Proofs.Ytlofoeapfmcolaa
open Go.RowKit Go.Shelf
set_option linter.unusedVariables false
set_option linter.unusedSimpArgs false
section
open E
theorem ent24 : Enters Try.prog 24 := enters_of Try.func24 (by kernel_rfl) rfl
theorem ent25 : Enters Try.prog 25 := enters_of Try.func25 (by kernel_rfl) rfl
theorem ent10 : Enters Try.prog 10 := enters_of Try.func10 (by kernel_rfl) rfl
theorem ent27 : Enters Try.prog 27 := enters_of Try.func27 (by kernel_rfl) rfl
theorem ent19 : Enters Try.prog 19 := enters_of Try.func19 (by kernel_rfl) rfl
theorem getD_nat (s : List UInt8) (i : Nat) (h : i < s.length) : s.getD ((i : Nat) : Int).toNat 0 = s[i] := by
  rw [Int.toNat_natCast, List.getD_eq_getElem?_getD, List.getElem?_eq_getElem h]; rfl
set_option maxRecDepth 100000 in
theorem has_any (s : List UInt8) (c : UInt8) (hs : s.length ≤ 9223372036854775806) (w : World) : Calls Try.prog 24 #[stv s, .int .u8 (c.toNat : Int)] w (BoolQ w (s.contains c)) := by
  refine At.calls (args := [.v (stv s), .int .u8 (c.toNat : Int)]) (rows := []) (gl := []) (wr := []) (ρ := fun _ => (⟨0, 0, 0⟩ : Blk)) Try.func24 rfl rfl (init_rw ⟨rfl, rfl, trivial⟩ rfl rfl rfl (fun p hp => by cases hp) (fun p hp => by cases hp) (fun p hp => by cases hp)) rfl ?_
  have hloop : ∀ i : Nat, (i ≤ s.length ∧ s.contains c = (s.drop i).contains c) → At Try.prog w nB Try.f24.ntmps [] (lp Try.f24 0) (EndX Try.prog Try.f24 (BoolQ w (s.contains c))) [(0, .v (stv s)), (1, .int .u8 (c.toNat : Int)), (5, .int .i64 (i : Int))] [] := by
    refine At.loop (fun i : Nat => [(0, .v (stv s)), (1, .int .u8 (c.toNat : Int)), (5, .int .i64 (i : Int))]) (fun _ => []) (fun i => i ≤ s.length ∧ s.contains c = (s.drop i).contains c) (fun i => s.length - i) fun i ⟨hi, hc⟩ ih => ?_
    by_cases h : i < s.length
    · have hd : s.drop i = s[i] :: s.drop (i + 1) := (List.drop_eq_getElem_cons h)
      have hb : (((s.getD (i : Int).toNat 0).toNat : Int) == (c.toNat : Int)) = (s[i] == c) := by
        rw [getD_nat s i h]
        by_cases e : s[i] = c
        · rw [e]; simp
        · have : s[i].toNat ≠ c.toNat := fun h => e (UInt8.toNat_inj.1 h)
          have h1 : (s[i] == c) = false := by simpa using e
          rw [h1]
          simp only [beq_eq_false_iff_ne, ne_eq]
          omega
      by_cases e : s[i] = c
      · have hm : s.contains c = true := by rw [hc, hd, List.contains_cons, e]; simp
        rw [hm]
        exact At.fin rfl [] trivial [.y, .y] (x := .v (.bool true)) (ob := [decide ((i : Int) < (s.length : Int)) = true, 0 ≤ (i : Int) ∧ (i : Int) < (s.length : Int), (((s.getD (i : Int).toNat 0).toNat : Int) == (c.toNat : Int)) = true]) (by kernel_rfl) ⟨decide_eq_true (by omega), ⟨by omega, by omega⟩, by rw [hb, e]; simp, trivial⟩ fun ρ' w' hf _ => ⟨rfl, hf.below⟩
      · have h1 : (s[i] == c) = false := by simpa using e
        have h2 : (c == s[i]) = false := by simpa using fun h => e h.symm
        refine At.run rfl [] trivial [.y, .n] (tm2 := [(0, .v (stv s)), (1, .int .u8 (c.toNat : Int)), (5, .int .i64 ((i + 1 : Nat) : Int))]) (rows2 := []) (ob := [decide ((i : Int) < (s.length : Int)) = true, 0 ≤ (i : Int) ∧ (i : Int) < (s.length : Int), (((s.getD (i : Int).toNat 0).toNat : Int) == (c.toNat : Int)) = false, inI ((i : Int) + 1)]) (td := lp Try.f24 0) (by kernel_rfl) ⟨decide_eq_true (by omega), ⟨by omega, by omega⟩, by rw [hb, h1], ⟨by omega, by omega⟩, trivial⟩ rfl rfl (by intro h; cases h) (ih (i + 1) ⟨h, ?_⟩ (by omega))
        rw [hc, hd, List.contains_cons, h2, Bool.false_or]
    · have hm : s.contains c = false := by rw [hc, List.drop_eq_nil_of_le (by omega)]; rfl
      rw [hm]
      exact At.fin rfl [] trivial [.n] (x := .v (.bool false)) (ob := [decide ((i : Int) < (s.length : Int)) = false]) (by kernel_rfl) ⟨decide_eq_false (by omega), trivial⟩ fun ρ' w' hf _ => ⟨rfl, hf.below⟩
  exact At.run rfl [] trivial [] (tm2 := [(0, .v (stv s)), (1, .int .u8 (c.toNat : Int)), (5, .int .i64 ((0 : Nat) : Int))]) (rows2 := []) (ob := []) (td := lp Try.f24 0) (by kernel_rfl) trivial rfl rfl (by intro h; cases h) (hloop 0 ⟨Nat.zero_le _, rfl⟩)
abbrev hHs (l : List UInt8) (c : UInt8) (b : Bool) : Hint := pc 24 #[stv l, .int .u8 (c.toNat : Int)] (.v (.bool b))
theorem hHs_ok (id : Nat) (l : List UInt8) (c : UInt8) (b : Bool) (hl : l.length ≤ 9223372036854775806) (h : l.contains c = b) : HintOk Try.prog id (hHs l c b) := pc_ok ent24 (v := .bool b) rfl (fun _ => rfl) fun w => by rw [← h]; exact has_any l c hl w
abbrev hLe : Hint := pc 25 #[] (.v (stv letL))
set_option maxRecDepth 100000 in
theorem hLe_ok (id : Nat) : HintOk Try.prog id hLe := pc_ok ent25 (v := stv letL) rfl (fun _ => rfl) fun w => by
  refine At.calls (args := []) (rows := []) (gl := []) (wr := []) (ρ := fun _ => (⟨0, 0, 0⟩ : Blk)) Try.func25 rfl rfl (init_rw trivial rfl rfl rfl (fun p hp => by cases hp) (fun p hp => by cases hp) (fun p hp => by cases hp)) rfl ?_
  exact At.fin rfl [] trivial [] (x := .v (stv letL)) (ob := []) (by kernel_rfl) trivial fun ρ' w' hf _ => ⟨rfl, hf.below⟩
set_option maxRecDepth 100000 in
theorem mayp_any (s : List UInt8) (hs : s.length ≤ 9223372036854775806) (w : World) : Calls Try.prog 10 #[stv s] w (BoolQ w (mayP s)) := by
  refine At.calls (args := [.v (stv s)]) (rows := []) (gl := []) (wr := []) (ρ := fun _ => (⟨0, 0, 0⟩ : Blk)) Try.func10 rfl rfl (init_rw ⟨rfl, trivial⟩ rfl rfl rfl (fun p hp => by cases hp) (fun p hp => by cases hp) (fun p hp => by cases hp)) rfl ?_
  have hloop : ∀ i : Nat, (i ≤ s.length ∧ ∀ j (h : j < s.length), j < i → letL.contains s[j] = true) → At Try.prog w nB Try.f10.ntmps [] (lp Try.f10 0) (EndX Try.prog Try.f10 (BoolQ w (mayP s))) [(0, .v (stv s)), (3, .int .i64 (i : Int))] [] := by
    refine At.loop (fun i : Nat => [(0, .v (stv s)), (3, .int .i64 (i : Int))]) (fun _ => []) (fun i => i ≤ s.length ∧ ∀ j (h : j < s.length), j < i → letL.contains s[j] = true) (fun i => s.length - i) fun i ⟨hi, hc⟩ ih => ?_
    by_cases h : i < s.length
    · have hv : TV.int .u8 (((s.getD (i : Int).toNat 0).toNat : Nat) : Int) = TV.int .u8 ((s[i].toNat : Nat) : Int) := by rw [getD_nat s i h]
      cases e : letL.contains s[i] with
      | false =>
        have hm : mayP s = false := by
          cases hm : mayP s with
          | false => rfl
          | true =>
            unfold mayP at hm
            rw [Bool.and_eq_true, List.all_eq_true] at hm
            rw [hm.2 _ (List.getElem_mem h)] at e
            cases e
        rw [hm]
        exact At.fin rfl [(5000, hLe), (2005003, .val (.int .u8 (s[i].toNat : Int))), (5004, hHs letL s[i] false)] ⟨hLe_ok _, trivial, hHs_ok _ _ _ _ (by decide) e, trivial⟩ [.y, .y] (x := .v (.bool false)) (ob := [[decide ((i : Int) < (s.length : Int)) = true], qL hLe, [TV.int .u8 (((s.getD (i : Int).toNat 0).toNat : Nat) : Int) = TV.int .u8 ((s[i].toNat : Nat) : Int), 0 ≤ (i : Int) ∧ (i : Int) < (s.length : Int)], qL (hHs letL s[i] false), [true = true]].flatten) (by kernel_rfl) (all_flat ⟨⟨decide_eq_true (by omega), trivial⟩, all_qL _, ⟨hv, ⟨by omega, by omega⟩, trivial⟩, all_qL _, ⟨rfl, trivial⟩, trivial⟩) fun ρ' w' hf _ => ⟨rfl, hf.below⟩
      | true =>
        exact At.run rfl [(5000, hLe), (2005003, .val (.int .u8 (s[i].toNat : Int))), (5004, hHs letL s[i] true)] ⟨hLe_ok _, trivial, hHs_ok _ _ _ _ (by decide) e, trivial⟩ [.y, .n] (tm2 := [(0, .v (stv s)), (3, .int .i64 ((i + 1 : Nat) : Int))]) (rows2 := []) (ob := [[decide ((i : Int) < (s.length : Int)) = true], qL hLe, [TV.int .u8 (((s.getD (i : Int).toNat 0).toNat : Nat) : Int) = TV.int .u8 ((s[i].toNat : Nat) : Int), 0 ≤ (i : Int) ∧ (i : Int) < (s.length : Int)], qL (hHs letL s[i] true), [false = false, inI ((i : Int) + 1)]].flatten) (td := lp Try.f10 0) (by kernel_rfl) (all_flat ⟨⟨decide_eq_true (by omega), trivial⟩, all_qL _, ⟨hv, ⟨by omega, by omega⟩, trivial⟩, all_qL _, ⟨rfl, ⟨by omega, by omega⟩, trivial⟩, trivial⟩) rfl rfl (by intro h; cases h) (ih (i + 1) ⟨h, fun j hj1 hj2 => (by
          by_cases e2 : j = i
          · subst e2; exact e
          · exact hc j hj1 (by omega))⟩ (by omega))
    · have hall : (s.all fun c => letL.contains c) = true := List.all_eq_true.2 fun c hcm => by
        obtain ⟨j, hj, rfl⟩ := List.mem_iff_getElem.1 hcm
        exact hc j hj (by omega)
      have hm : mayP s = ((s.length : Int) == 32) := by
        unfold mayP
        rw [hall, Bool.and_true]
        by_cases h32 : s.length = 32
        · rw [h32]; rfl
        · rw [decide_eq_false h32]
          symm
          simp only [beq_eq_false_iff_ne, ne_eq]
          omega
      rw [hm]
      exact At.fin rfl [] trivial [.n] (x := .v (.bool ((s.length : Int) == 32))) (ob := [decide ((i : Int) < (s.length : Int)) = false]) (by kernel_rfl) ⟨decide_eq_false (by omega), trivial⟩ fun ρ' w' hf _ => ⟨rfl, hf.below⟩
  exact At.run rfl [] trivial [] (tm2 := [(0, .v (stv s)), (3, .int .i64 ((0 : Nat) : Int))]) (rows2 := []) (ob := []) (td := lp Try.f10 0) (by kernel_rfl) trivial rfl rfl (by intro h; cases h) (hloop 0 ⟨Nat.zero_le _, fun j _ hj => absurd hj (Nat.not_lt_zero _)⟩)
abbrev hMp (s : List UInt8) (b : Bool) : Hint := pc 10 #[stv s] (.v (.bool b))
theorem hMp_ok (id : Nat) (s : List UInt8) (b : Bool) (hs : s.length ≤ 9223372036854775806) (h : mayP s = b) : HintOk Try.prog id (hMp s b) := pc_ok ent10 (v := .bool b) rfl (fun _ => rfl) fun w => by rw [← h]; exact mayp_any s hs w
set_option maxRecDepth 100000 in
theorem stands_any (s p : List UInt8) (i : Nat) (hs : s.length ≤ 1000000000) (hp : p.length ≤ 1000000000) (hi : i ≤ 1000000000) (w : World) : Calls Try.prog 27 #[stv s, .int .i64 (i : Int), stv p] w (BoolQ w (stP s p i)) := by
  refine At.calls (args := [.v (stv s), .int .i64 (i : Int), .v (stv p)]) (rows := []) (gl := []) (wr := []) (ρ := fun _ => (⟨0, 0, 0⟩ : Blk)) Try.func27 rfl rfl (init_rw ⟨rfl, rfl, rfl, trivial⟩ rfl rfl rfl (fun p hp => by cases hp) (fun p hp => by cases hp) (fun p hp => by cases hp)) rfl ?_
  have i1 : inI ((i : Int) + (p.length : Int)) := ⟨by omega, by omega⟩
  by_cases h : i + p.length ≤ s.length
  · have e : stP s p i = (((s.take ((i : Int) + (p.length : Int)).toNat).drop (i : Int).toNat) == p) := by
      unfold stP
      rw [decide_eq_true h, Bool.true_and, show ((i : Int) + (p.length : Int)).toNat = i + p.length by omega, Int.toNat_natCast, List.drop_take, Nat.add_sub_cancel_left]
    rw [e]
    exact At.fin rfl [(2002007, .val (.v (.bool true)))] ⟨trivial, trivial⟩ [] (x := .v (.bool (((s.take ((i : Int) + (p.length : Int)).toNat).drop (i : Int).toNat) == p))) (ob := [inI ((i : Int) + (p.length : Int)), TV.v (.bool (decide ((i : Int) + (p.length : Int) ≤ (s.length : Int)))) = TV.v (.bool true), inI ((i : Int) + (p.length : Int)), 0 ≤ (i : Int) + (p.length : Int) ∧ (i : Int) + (p.length : Int) ≤ (s.length : Int), 0 ≤ (i : Int) ∧ (i : Int) ≤ (i : Int) + (p.length : Int)]) (by kernel_rfl) ⟨i1, by rw [decide_eq_true (by omega)], i1, ⟨by omega, by omega⟩, ⟨by omega, by omega⟩, trivial⟩ fun ρ' w' hf _ => ⟨rfl, hf.below⟩
  · have e : stP s p i = false := by unfold stP; rw [decide_eq_false h]; rfl
    rw [e]
    exact At.fin rfl [(2002007, .val (.v (.bool false)))] ⟨trivial, trivial⟩ [] (x := .v (.bool false)) (ob := [inI ((i : Int) + (p.length : Int)), TV.v (.bool (decide ((i : Int) + (p.length : Int) ≤ (s.length : Int)))) = TV.v (.bool false)]) (by kernel_rfl) ⟨i1, by rw [decide_eq_false (by omega)], trivial⟩ fun ρ' w' hf _ => ⟨rfl, hf.below⟩
abbrev hSd (s p : List UInt8) (i : Nat) (b : Bool) : Hint := pc 27 #[stv s, .int .i64 (i : Int), stv p] (.v (.bool b))
theorem hSd_ok (id : Nat) (s p : List UInt8) (i : Nat) (b : Bool) (hs : s.length ≤ 1000000000) (hp : p.length ≤ 1000000000) (hi : i ≤ 1000000000) (h : stP s p i = b) : HintOk Try.prog id (hSd s p i b) := pc_ok ent27 (v := .bool b) rfl (fun _ => rfl) fun w => by rw [← h]; exact stands_any s p i hs hp hi w
/-- A part by a number. -/
def partL (n : Nat) : List UInt8 := (List.range 32).map fun i => letL.getD ((n + i * (n % 5)) % 32) 0
theorem partL_len (n : Nat) : (partL n).length = 32 := by simp [partL]
theorem letL_all : ∀ d, d < 32 → letL.contains (letL.getD d 0) = true := by decide +kernel
theorem part_may (n : Nat) : mayP (partL n) = true := by
  unfold mayP
  rw [Bool.and_eq_true, List.all_eq_true]
  refine ⟨decide_eq_true (partL_len n), fun c hc => ?_⟩
  obtain ⟨i, _, rfl⟩ := List.mem_map.1 hc
  exact letL_all _ (Nat.mod_lt _ (by decide))
theorem let_one : ∀ m, m < 32 → (letL.drop m).take 1 = [letL.getD m 0] := by decide +kernel
set_option maxRecDepth 100000 in
theorem part_any (n : Nat) (hn : n < 256) (w : World) : Calls Try.prog 19 #[.int .u8 (n : Int)] w fun e w' => e = .returned (stv (partL n)) ∧ Below w.heap.size w w' := by
  refine At.calls (args := [.int .u8 (n : Int)]) (rows := []) (gl := []) (wr := []) (ρ := fun _ => (⟨0, 0, 0⟩ : Blk)) Try.func19 rfl rfl (init_rw ⟨rfl, trivial⟩ rfl rfl rfl (fun p hp => by cases hp) (fun p hp => by cases hp) (fun p hp => by cases hp)) rfl ?_
  have hloop : ∀ i : Nat, i ≤ 32 → At Try.prog w nB Try.f19.ntmps [] (lp Try.f19 0) (EndX Try.prog Try.f19 fun e w' => e = .returned (stv (partL n)) ∧ Below w.heap.size w w') [(0, .int .u8 (n : Int)), (3, .v (stv ((partL n).take i))), (4, .int .i64 (i : Int))] [] := by
    refine At.loop (fun i : Nat => [(0, .int .u8 (n : Int)), (3, .v (stv ((partL n).take i))), (4, .int .i64 (i : Int))]) (fun _ => []) (fun i => i ≤ 32) (fun i => 32 - i) fun i hi ih => ?_
    by_cases h : i < 32
    · obtain ⟨q, hq⟩ : ∃ q, q = n % 5 := ⟨_, rfl⟩
      have hq5 : q < 5 := by omega
      have hqi : (n : Int) % 5 = (q : Int) := by omega
      obtain ⟨t, ht⟩ : ∃ t, t = i * q := ⟨_, rfl⟩
      have ht2 : t ≤ 32 * 4 := by rw [ht]; exact Nat.mul_le_mul (by omega) (by omega)
      have hti : (i : Int) * ((n : Int) % 5) = (t : Int) := by rw [hqi, ht, Int.natCast_mul]
      obtain ⟨m, hm⟩ : ∃ m, m = (n + t) % 32 := ⟨_, rfl⟩
      have hm32 : m < 32 := by omega
      obtain ⟨c, hc⟩ : ∃ c, c = letL.getD m 0 := ⟨_, rfl⟩
      have hll : (letL.length : Int) = 32 := by decide
      have htk : (partL n).take i ++ [c] = (partL n).take (i + 1) := by
        rw [List.take_add_one]
        congr 1
        unfold partL
        rw [List.getElem?_map, List.getElem?_range (by omega)]
        simp only [Option.map_some, Option.toList_some]
        rw [hc, hm, ht, hq]
      have hl1 : ((partL n).take i).length = i := by rw [List.length_take, partL_len]; omega
      have h9 := ih (i + 1) (by omega) (by omega)
      rw [← htk] at h9
      have hs1 : TV.v (.string ⟨((letL.drop (m : Int).toNat).take (Int.toNat 1)).toArray⟩) = TV.v (stv [c]) := by
        refine tv_str ?_
        rw [Int.toNat_natCast, hc]
        exact let_one m hm32
      have hdl : (((letL.drop (m : Int).toNat).length : Nat) : Int) = 32 - m := by rw [Int.toNat_natCast, List.length_drop]; omega
      exact At.run rfl [(6001, hLe), (2006010, .val (.int .i64 (m : Int))), (2006012, .val (.v (stv [c])))] ⟨hLe_ok _, trivial, trivial, trivial⟩ [.y] (tm2 := [(0, .int .u8 (n : Int)), (3, .v (stv ((partL n).take i ++ [c]))), (4, .int .i64 ((i + 1 : Nat) : Int))]) (rows2 := []) (ob := [[decide ((i : Int) < 32) = true], qL hLe, [IntKind.i64.wrap (n : Int) = (n : Int), 0 ≤ (n : Int) ∧ (0 : Int) < 5, IntKind.i64.wrap ((n : Int) % 5) = (n : Int) % 5, inI ((i : Int) * ((n : Int) % 5)), inI ((n : Int) + (i : Int) * ((n : Int) % 5)), TV.int .i64 (((n : Int) + (i : Int) * ((n : Int) % 5)) % 32) = TV.int .i64 (m : Int), 0 ≤ (n : Int) + (i : Int) * ((n : Int) % 5) ∧ (0 : Int) < 32, 0 ≤ (m : Int) ∧ (m : Int) ≤ (letL.length : Int), TV.v (.string ⟨((letL.drop (m : Int).toNat).take (Int.toNat 1)).toArray⟩) = TV.v (stv [c]), 0 ≤ (1 : Int) ∧ (1 : Int) ≤ (((letL.drop (m : Int).toNat).length : Nat) : Int), (((partL n).take i).length : Int) + (([c] : List UInt8).length : Int) ≤ 9223372036854775807, inI ((i : Int) + 1)]].flatten) (td := lp Try.f19 0) (by kernel_rfl) (all_flat ⟨⟨decide_eq_true (by omega), trivial⟩, all_qL _, ⟨by rw [IntKind.wrap_i64]; omega, ⟨by omega, by omega⟩, by rw [IntKind.wrap_i64]; omega, by rw [hti]; exact ⟨by omega, by omega⟩, by rw [hti]; exact ⟨by omega, by omega⟩, by rw [hti]; exact tv_int (by omega), by rw [hti]; exact ⟨by omega, by omega⟩, ⟨by omega, by omega⟩, hs1, ⟨by omega, by omega⟩, by rw [hl1]; simp; omega, ⟨by omega, by omega⟩, trivial⟩, trivial⟩) rfl rfl (by intro h; cases h) h9
    · obtain rfl : i = 32 := by omega
      rw [List.take_of_length_le (by rw [partL_len]; exact Nat.le_refl _)]
      exact At.fin rfl [] trivial [.n] (x := .v (stv (partL n))) (ob := [decide (((32 : Nat) : Int) < 32) = false]) (by kernel_rfl) ⟨by decide, trivial⟩ fun ρ' w' hf _ => ⟨rfl, hf.below⟩
  exact At.run rfl [] trivial [] (tm2 := [(0, .int .u8 (n : Int)), (3, .v (stv ((partL n).take 0))), (4, .int .i64 ((0 : Nat) : Int))]) (rows2 := []) (ob := []) (td := lp Try.f19 0) (by kernel_rfl) trivial rfl rfl (by intro h; cases h) (hloop 0 (by decide))
abbrev hPt (n : Nat) : Hint := pc 19 #[.int .u8 (n : Int)] (.v (stv (partL n)))
theorem hPt_ok (id n : Nat) (hn : n < 256) : HintOk Try.prog id (hPt n) := pc_ok ent19 (v := stv (partL n)) rfl (fun _ => rfl) fun w => part_any n hn w
end
end Go.Proofs.Ytlofoeapfmcolaa
/- The document's Places. Its condition: lengths that fit. -/
namespace Go.Proofs.Ytlofoeapfmcolaa
open Go.RowKit Go.Shelf
set_option linter.unusedVariables false
set_option linter.unusedSimpArgs false
section
open E
abbrev inF (l : List Nat) : Nat → List Value := fun q => [.int .i64 ((l.getD q 0 : Nat) : Int)]
abbrev inR (l : List Nat) (n : Nat) : Row := ⟨[.fnc (inF l) 1 n], true, some (3, 1)⟩
theorem inR_ok (l : List Nat) (n : Nat) : pok (inR l n).ps := pok1 fun i => ⟨rfl, fun v hv => by obtain rfl := List.mem_singleton.1 hv; rfl⟩
/-- A list of numbers of the call's own, as a slot and as rows. -/
def slT (r : Nat) : Nat → TV
  | 0 => .v nilS
  | n + 1 => .s (.lf (.sl r 0 0 1 (n + 1) none))
def rwT (r : Nat) (l : List Nat) : Nat → List (Nat × Row)
  | 0 => []
  | n + 1 => [(r, inR l (n + 1))]
/-- What a call tells of numbers. -/
def IOut (w : World) (l : List Nat) (e : Ending) (w' : World) : Prop := Fr w [] w' ∧ ((l = [] ∧ e = .returned nilS) ∨ (l ≠ [] ∧ ∃ B : Blk, e = .returned (.slice (some ⟨B.1, 0, none⟩) l.length B.3) ∧ B.2 = 0 ∧ w.heap.size ≤ B.1 ∧ RowAt (fun _ => B) 0 (inR l l.length) w'))
theorem iout_row {w w' : World} {ρ : Env} {r n : Nat} {l : List Nat} (hf : Fr w [] w') (h : RowAt ρ r (inR l (n + 1)) w') (hn : n + 1 = l.length) (hb : w.heap.size ≤ (ρ r).1) : IOut w l (.returned ((TV.s (.lf (.sl r 0 0 1 (n + 1) none))).val ρ)) w' := by
  have h0 : (ρ r).2 = 0 := (h.2.2.1 3 1 rfl).1
  refine ⟨hf, .inr ⟨(fun e => by rw [e] at hn; cases hn), ρ r, ?_, h0, hb, ?_⟩⟩
  · show Ending.returned (.slice (some ⟨(ρ r).1, (ρ r).2 + (0 + 0 * 1), none⟩) (n + 1) ((ρ r).3 - 0)) = _
    rw [h0, ← hn]; rfl
  · rw [← hn]; exact rowAt_mv h rfl
theorem in_step (l : List Nat) (n i : Nat) (hn : n = l.length) : ∀ q, q < n + 1 → appF (inF l) n (fun q => chunkF [.int .i64 (i : Int)] 1 1 (addN 0 q)) q = inF (l ++ [i]) q := by
  intro q hq
  subst hn
  by_cases h : q < l.length
  · rw [appF_lo h]
    show [Value.int .i64 ((l.getD q 0 : Nat) : Int)] = [Value.int .i64 (((l ++ [i]).getD q 0 : Nat) : Int)]
    rw [List.getD_eq_getElem?_getD, List.getD_eq_getElem?_getD, List.getElem?_append_left h]
  · obtain rfl : q = l.length := by omega
    rw [appF_hi (Nat.le_refl _), Nat.sub_self]
    show [Value.int .i64 (i : Int)] = [Value.int .i64 (((l ++ [i]).getD l.length 0 : Nat) : Int)]
    simp
theorem in_one (i : Nat) : ∀ q, q < 1 → chunkF [.int .i64 (i : Int)] 1 1 (addN 0 q) = inF [i] q := by
  intro q hq
  obtain rfl : q = 0 := by omega
  rfl
abbrev hI0 (f : Nat) (args : Env → Array Value) (pre : List (Nat × Row)) : Hint := .call ⟨f, args, .s (.lf (.v nilS)), pre, [], none, []⟩
abbrev hI1 (f : Nat) (args : Env → Array Value) (pre : List (Nat × Row)) (id : Nat) (l : List Nat) : Hint := .call ⟨f, args, .s (.lf (.sl id 0 0 1 l.length none)), pre, [], some (inR l l.length), []⟩
theorem hI0_of {f id : Nat} {args : Env → Array Value} {pre : List (Nat × Row)} (he : Enters Try.prog f) (h : ∀ (ρ : Env) (w : World), (∀ p ∈ pre, RowAt ρ p.1 p.2 w) → Calls Try.prog f (args ρ) w (IOut w [])) : HintOk Try.prog id (hI0 f args pre) := by
  refine call_ok he rfl (fun p hp => by cases hp) fun ρ w hr => (h ρ w hr).mono ?_
  rintro e w' ⟨hf, ⟨_, rfl⟩ | ⟨h1, _⟩⟩
  · exact ⟨⟨0, 0, 0⟩, rfl, hf, (fun p hp => by cases hp), fun row hrw => by cases hrw⟩
  · exact absurd rfl h1
theorem hI1_of {f id : Nat} {args : Env → Array Value} {pre : List (Nat × Row)} {l : List Nat} (hl : l ≠ []) (he : Enters Try.prog f) (h : ∀ (ρ : Env) (w : World), (∀ p ∈ pre, RowAt ρ p.1 p.2 w) → Calls Try.prog f (args ρ) w (IOut w l)) : HintOk Try.prog id (hI1 f args pre id l) := by
  refine call_ok he trivial (fun p hp => by cases hp) fun ρ w hr => (h ρ w hr).mono ?_
  rintro e w' ⟨hf, ⟨h1, _⟩ | ⟨_, B, rfl, h0, hb, hrow⟩⟩
  · exact absurd h1 hl
  · refine ⟨B, ?_, hf, (fun p hp => by cases hp), fun row hrw => ?_⟩
    · show _ = Ending.returned (.slice (some ⟨(setE ρ id B id).1, (setE ρ id B id).2 + (0 + 0 * 1), none⟩) l.length ((setE ρ id B id).3 - 0))
      rw [setE_same, h0]; rfl
    · cases hrw
      exact ⟨hb, rowAt_mv hrow (setE_same ρ id B), inR_ok _ _⟩
theorem ent15 : Enters Try.prog 15 := enters_of Try.func15 (by kernel_rfl) rfl
structure PlX where
  i : Nat
  l : List Nat
  n : Nat
abbrev plT (s p : List UInt8) (r : Nat) (x : PlX) : List (Nat × TV) := [(0, .v (stv s)), (1, .v (stv p)), (5, slT r x.n), (6, .int .i64 (x.i : Int))]
set_option maxRecDepth 100000 in
theorem rplaces_any (s p : List UInt8) (hs : s.length ≤ 1000000) (hp : p.length ≤ 1000000) (w : World) : Calls Try.prog 15 #[stv s, stv p] w (IOut w (placesL s p)) := by
  refine At.calls (args := [.v (stv s), .v (stv p)]) (rows := []) (gl := []) (wr := []) (ρ := fun _ => (⟨0, 0, 0⟩ : Blk)) Try.func15 rfl rfl (init_rw ⟨rfl, rfl, trivial⟩ rfl rfl rfl (fun p hp => by cases hp) (fun p hp => by cases hp) (fun p hp => by cases hp)) rfl ?_
  cases hm : mayP p with
  | false =>
    have e : placesL s p = [] := by unfold placesL; rw [hm, if_neg (by simp)]
    rw [e]
    exact At.fin rfl [(3001, hMp p false)] ⟨hMp_ok _ _ _ (by omega) hm, trivial⟩ [.y] (x := .v nilS) (ob := [qL (hMp p false), [true = true]].flatten) (by kernel_rfl) (all_flat ⟨all_qL _, ⟨rfl, trivial⟩, trivial⟩) fun ρ' w' hf _ => ⟨hf, .inl ⟨rfl, rfl⟩⟩
  | true =>
    have e : placesL s p = pl s p 0 := by unfold placesL; rw [hm, if_pos rfl]
    rw [e]
    have hp32 := may_len hm
    have hloop : ∀ x : PlX, (x.n = x.l.length ∧ x.l ++ pl s p x.i = pl s p 0 ∧ x.i ≤ 1000100) → At Try.prog w nB Try.f15.ntmps [] (lp Try.f15 0) (EndX Try.prog Try.f15 (IOut w (pl s p 0))) (plT s p 2904 x) (rwT 2904 x.l x.n) := by
      refine At.loop (fun x : PlX => plT s p 2904 x) (fun x => rwT 2904 x.l x.n) (fun x => x.n = x.l.length ∧ x.l ++ pl s p x.i = pl s p 0 ∧ x.i ≤ 1000100) (fun x => 1000200 - x.i) ?_
      rintro ⟨i, l, n⟩ ⟨hn, hl, hi⟩ ih
      simp only at hn hl hi ih ⊢
      have i1 : inI ((i : Int) + (p.length : Int)) := ⟨by omega, by omega⟩
      have i2 : inI ((i : Int) + 1) := ⟨by omega, by omega⟩
      have hnl : n ≤ 1000000 := by
        have h1 := congrArg List.length hl
        rw [List.length_append] at h1
        have := pl_len s p (by omega) 0
        omega
      by_cases h : i + p.length ≤ s.length
      · have hdc : decide ((i : Int) + (p.length : Int) ≤ (s.length : Int)) = true := decide_eq_true (by omega)
        by_cases hw : (s.drop i).take p.length = p
        · have hst : stP s p i = true := by unfold stP; rw [decide_eq_true h, Bool.true_and]; simpa using hw
          have hk : HintOk Try.prog 7003 (hSd s p i true) := hSd_ok _ _ _ _ _ (by omega) (by omega) (by omega) hst
          have hl2 : (l ++ [i]) ++ pl s p (i + p.length) = pl s p 0 := by rw [← hl, pl_yes (by omega) h hw]; simp
          have h9 := ih ⟨i + p.length, l ++ [i], n + 1⟩ ⟨by rw [List.length_append, hn]; rfl, hl2, by show i + p.length ≤ _; omega⟩ (by show 1000200 - (i + p.length) < 1000200 - i; omega)
          have e6 : ((i + p.length : Nat) : Int) = (i : Int) + (p.length : Int) := by omega
          have hren : At Try.prog w nB Try.f15.ntmps [] (lp Try.f15 0) (EndX Try.prog Try.f15 (IOut w (pl s p 0))) [(0, .v (stv s)), (1, .v (stv p)), (5, .s (.lf (.sl 8003 0 0 1 (n + 1) none))), (6, .int .i64 ((i : Int) + (p.length : Int)))] [(8003, inR (l ++ [i]) (n + 1))] := by
            rw [← e6]
            exact At.ren [(2904, 8003)] (plT s p 2904 ⟨i + p.length, l ++ [i], n + 1⟩) (rwT 2904 (l ++ [i]) (n + 1)) rfl rfl rfl rfl rfl h9
          cases n with
          | zero =>
            obtain rfl : l = [] := List.length_eq_zero_iff.1 hn.symm
            refine At.run rfl [(7003, hSd s p i true)] ⟨hk, trivial⟩ [.y, .y] (tm2 := [(0, .v (stv s)), (1, .v (stv p)), (5, .s (.lf (.sl 8003 0 0 1 (0 + 1) none))), (6, .int .i64 ((i : Int) + (p.length : Int)))]) (rows2 := [(8003, ⟨[.fnc (fun q => chunkF [.int .i64 (i : Int)] 1 1 (addN 0 q)) 1 1], true, some (3, 1)⟩)]) (ob := [[inI ((i : Int) + (p.length : Int)), decide ((i : Int) + (p.length : Int) ≤ (s.length : Int)) = true], qL (hSd s p i true), [true = true, 0 < 1, 1 ≤ 9223372036854775807, 8 ≤ 140737488355328, 1 ≤ 1, inI ((i : Int) + (p.length : Int))]].flatten) (td := lp Try.f15 0) (by kernel_rfl) (all_flat ⟨⟨i1, hdc, trivial⟩, all_qL _, ⟨rfl, by decide, by decide, by decide, by decide, i1, trivial⟩, trivial⟩) rfl rfl (by intro h; cases h) ?_
            exact At.rows (rows2 := [(8003, inR ([] ++ [i]) (0 + 1))]) (rowsEq_fnc (in_one i) trivial) rfl hren
          | succ n =>
            refine At.run rfl [(7003, hSd s p i true)] ⟨hk, trivial⟩ [.y, .y] (tm2 := [(0, .v (stv s)), (1, .v (stv p)), (5, .s (.lf (.sl 8003 0 0 1 (n + 1 + 1) none))), (6, .int .i64 ((i : Int) + (p.length : Int)))]) (rows2 := [(8003, ⟨[.fnc (appF (inF l) (n + 1) fun q => chunkF [.int .i64 (i : Int)] 1 1 (addN 0 q)) 1 (n + 1 + 1)], true, some (3, 1)⟩)]) (ob := [[inI ((i : Int) + (p.length : Int)), decide ((i : Int) + (p.length : Int) ≤ (s.length : Int)) = true], qL (hSd s p i true), [true = true, n + 1 = n + 1, n + 1 + 1 ≤ 9223372036854775807, (n + 1 + 1) * 8 ≤ 140737488355328, 1 ≤ 1, inI ((i : Int) + (p.length : Int))]].flatten) (td := lp Try.f15 0) (by kernel_rfl) (all_flat ⟨⟨i1, hdc, trivial⟩, all_qL _, ⟨rfl, rfl, by omega, by omega, by decide, i1, trivial⟩, trivial⟩) rfl rfl (by intro h; cases h) ?_
            exact At.rows (rows2 := [(8003, inR (l ++ [i]) (n + 1 + 1))]) (rowsEq_fnc (in_step l (n + 1) i hn) trivial) rfl hren
        · have hst : stP s p i = false := by unfold stP; rw [decide_eq_true h, Bool.true_and]; simpa using hw
          have hk : HintOk Try.prog 7003 (hSd s p i false) := hSd_ok _ _ _ _ _ (by omega) (by omega) (by omega) hst
          have h9 := ih ⟨i + 1, l, n⟩ ⟨hn, by rw [← hl, pl_no (by omega) h hw], by show i + 1 ≤ _; omega⟩ (by show 1000200 - (i + 1) < 1000200 - i; omega)
          cases n with
          | zero => exact At.run rfl [(7003, hSd s p i false)] ⟨hk, trivial⟩ [.y, .n] (tm2 := plT s p 2904 ⟨i + 1, l, 0⟩) (rows2 := []) (ob := [[inI ((i : Int) + (p.length : Int)), decide ((i : Int) + (p.length : Int) ≤ (s.length : Int)) = true], qL (hSd s p i false), [false = false, inI ((i : Int) + 1)]].flatten) (td := lp Try.f15 0) (by kernel_rfl) (all_flat ⟨⟨i1, hdc, trivial⟩, all_qL _, ⟨rfl, i2, trivial⟩, trivial⟩) rfl rfl (by intro h; cases h) h9
          | succ n => exact At.run rfl [(7003, hSd s p i false)] ⟨hk, trivial⟩ [.y, .n] (tm2 := plT s p 2904 ⟨i + 1, l, n + 1⟩) (rows2 := [(2904, inR l (n + 1))]) (ob := [[inI ((i : Int) + (p.length : Int)), decide ((i : Int) + (p.length : Int) ≤ (s.length : Int)) = true], qL (hSd s p i false), [false = false, inI ((i : Int) + 1)]].flatten) (td := lp Try.f15 0) (by kernel_rfl) (all_flat ⟨⟨i1, hdc, trivial⟩, all_qL _, ⟨rfl, i2, trivial⟩, trivial⟩) rfl rfl (by intro h; cases h) h9
      · have hdc : decide ((i : Int) + (p.length : Int) ≤ (s.length : Int)) = false := decide_eq_false (by omega)
        rw [pl_end h, List.append_nil] at hl
        rw [← hl]
        cases n with
        | zero =>
          obtain rfl : l = [] := List.length_eq_zero_iff.1 hn.symm
          exact At.fin rfl [] trivial [.n] (x := .v nilS) (ob := [inI ((i : Int) + (p.length : Int)), decide ((i : Int) + (p.length : Int) ≤ (s.length : Int)) = false]) (by kernel_rfl) ⟨i1, hdc, trivial⟩ fun ρ' w' hf _ => ⟨hf, .inl ⟨rfl, rfl⟩⟩
        | succ n =>
          refine At.finR rfl [] trivial [.n] (rows2 := [(2904, inR l (n + 1))]) (x := .s (.lf (.sl 2904 0 0 1 (n + 1) none))) (ob := [inI ((i : Int) + (p.length : Int)), decide ((i : Int) + (p.length : Int) ≤ (s.length : Int)) = false]) (by kernel_rfl) ⟨i1, hdc, trivial⟩ fun ρ' w' hf he _ hq => ?_
          obtain ⟨g1, _, g3⟩ := hq _ (List.mem_singleton.2 rfl)
          exact iout_row hf g1 hn ((g3 rfl).resolve_right (by simp))
    exact At.run rfl [(3001, hMp p true)] ⟨hMp_ok _ _ _ (by omega) hm, trivial⟩ [.n] (tm2 := plT s p 2904 ⟨0, [], 0⟩) (rows2 := []) (ob := [qL (hMp p true), [false = false]].flatten) (td := lp Try.f15 0) (by kernel_rfl) (all_flat ⟨all_qL _, ⟨rfl, trivial⟩, trivial⟩) rfl rfl (by intro h; cases h) (hloop ⟨0, [], 0⟩ ⟨rfl, rfl, Nat.zero_le _⟩)
end
end Go.Proofs.Ytlofoeapfmcolaa
/- A range over a function, where the iterator has blocks of its own that turn between two rounds: which blocks the rounds may turn is carried as a set. No condition of its own. -/
namespace Go.Proofs.Ytlofoeapfmcolaa
set_option linter.unusedSimpArgs false
open Go.RowKit Go.Shelf
set_option linter.unusedVariables false

/-- From W to W2 nothing has turned but what is in S; S2 has, of what lay, nothing that S has not. -/
structure Ext (S S2 : Nat → Prop) (W W2 : World) : Prop where
  os : W2.os = W.os
  tape : W2.tape = W.tape
  output : W2.output = W.output
  size : W.heap.size ≤ W2.heap.size
  new : ∀ k, k < W.heap.size → ¬ S k → ¬ S2 k
  keep : ∀ k, k < W.heap.size → ¬ S k → W2.heap[k]? = W.heap[k]?

theorem Ext.refl (S : Nat → Prop) (W : World) : Ext S S W W := ⟨rfl, rfl, rfl, Nat.le_refl _, fun _ _ h => h, fun _ _ _ => rfl⟩
theorem Ext.trans {S T U : Nat → Prop} {A B C : World} (h : Ext S T A B) (k : Ext T U B C) : Ext S U A C :=
  ⟨k.os.trans h.os, k.tape.trans h.tape, k.output.trans h.output, Nat.le_trans h.size k.size,
   fun i hi hs => k.new i (Nat.lt_of_lt_of_le hi h.size) (h.new i hi hs),
   fun i hi hs => (k.keep i (Nat.lt_of_lt_of_le hi h.size) (h.new i hi hs)).trans (h.keep i hi hs)⟩
theorem Ext.above {S T : Nat → Prop} {A B : World} {n : Nat} (h : Ext S T A B) (hn : n ≤ A.heap.size) (hs : ∀ k, S k → n ≤ k) : ∀ k, T k → n ≤ k := fun k hk => by
  rcases Nat.lt_or_ge k n with h1 | h1
  · exact absurd hk (h.new k (by omega) (fun h2 => by have := hs k h2; omega))
  · exact h1
theorem Ext.below {S T : Nat → Prop} {A B : World} {n : Nat} (h : Ext S T A B) (hn : n ≤ A.heap.size) (hs : ∀ k, S k → n ≤ k) : Below n A B :=
  ⟨h.os, h.tape, h.output, h.size, fun k hk => h.keep k (by omega) (fun h2 => by have := hs k h2; omega)⟩
theorem Ext.drew {S T : Nat → Prop} {A B : World} (h : Ext S T A B) : Ext S T A B.drew := ⟨h.os, h.tape, h.output, h.size, h.new, h.keep⟩
theorem Ext.undrew {S T : Nat → Prop} {A B : World} (h : Ext S T A.drew B) : Ext S T A B := ⟨h.os, h.tape, h.output, h.size, h.new, h.keep⟩
/-- What is not in S, and lay, may be struck from what S is said to be. -/
theorem Ext.weaken {S S1 T T1 : Nat → Prop} {A B : World} (h : Ext S T A B) (hS : ∀ k, k < A.heap.size → ¬ S1 k → ¬ S k) (hT : ∀ k, k < A.heap.size → ¬ S1 k → ¬ T k → ¬ T1 k) : Ext S1 T1 A B :=
  ⟨h.os, h.tape, h.output, h.size, fun k hk hs => hT k hk hs (h.new k hk (hS k hk hs)), fun k hk hs => h.keep k hk (hS k hk hs)⟩
theorem Ext.cell {S T : Nat → Prop} {A B : World} (h : Ext S T A B) {p : Addr} (hp : p.block < A.heap.size) (hs : ¬ S p.block) : B.cell? p = A.cell? p :=
  World.cell?_of_block (w := A) (h.keep p.block hp hs)
theorem Ext.of_below {W W2 : World} (S : Nat → Prop) (h : Below W.heap.size W W2) : Ext S S W W2 :=
  ⟨h.os, h.tape, h.output, h.size, fun _ _ h => h, fun k hk _ => h.block k hk⟩

/-- What J says hangs on S's blocks alone. -/
structure Dep (J : List Nat → (Nat → Prop) → World → Prop) : Prop where
  same : ∀ x S W W2, J x S W → W.heap.size ≤ W2.heap.size → (∀ k, S k → W2.heap[k]? = W.heap[k]?) → J x S W2
  lt : ∀ x S W, J x S W → ∀ k, S k → k < W.heap.size

theorem dep_false : Dep (fun _ _ _ => False) := ⟨fun _ _ _ _ h _ _ => h, fun _ _ _ h => h.elim⟩
theorem Dep.alloc {J : List Nat → (Nat → Prop) → World → Prop} (h : Dep J) {x : List Nat} {S : Nat → Prop} {W : World} (o : Obj) (hj : J x S W) : J x S (W.alloc o) :=
  h.same x S W _ hj (by simp) (fun k hk => Below.heap_alloc _ _ _ (h.lt _ _ _ hj k hk))
theorem Dep.drew {J : List Nat → (Nat → Prop) → World → Prop} (h : Dep J) {x : List Nat} {S : Nat → Prop} {W : World} (hj : J x S W) : J x S W.drew :=
  h.same x S W _ hj (Nat.le_refl _) (fun _ _ => rfl)
theorem Dep.setCell {J : List Nat → (Nat → Prop) → World → Prop} (h : Dep J) {x : List Nat} {S : Nat → Prop} {W : World} (p : Addr) (v : Value) (hp : ¬ S p.block) (hj : J x S W) : J x S (W.setCell p v) :=
  h.same x S W _ hj (by simp [World.setCell]) (fun k hk => Below.heap_setCell _ _ _ _ (fun e => hp (e ▸ hk)))
theorem Dep.put {J : List Nat → (Nat → Prop) → World → Prop} (h : Dep J) {x : List Nat} {S : Nat → Prop} {W : World} (l : Nat) (o : Obj) (hp : ¬ S l) (hj : J x S W) : J x S (W.putObj l o) :=
  h.same x S W _ hj (by simp) (fun k hk => World.putObj_heap_other (fun e => hp (e ▸ hk)))

section
variable {P : Program}
/-- What a round hands back. -/
def YPost (J Jx : List Nat → (Nat → Prop) → World → Prop) (xs : List Nat) (S : Nat → Prop) (W : World) (e : Ending) (W2 : World) : Prop :=
  ∃ S2, Ext S S2 W W2 ∧ ((e = .returned (.bool true) ∧ J xs S2 W2) ∨ (e = .returned (.bool false) ∧ Jx xs S2 W2))

/-- The iterator value (g, lb), made by w0, hands out xs, one by one; of what lay below n0 at its making it asks that it stand. -/
def SeqOK (P : Program) (g : Nat) (lb : Array Value) (xs : List Nat) (n0 : Nat) (w0 : World) : Prop :=
  n0 ≤ w0.heap.size ∧ ∀ (m l : Nat) (J Jx : List Nat → (Nat → Prop) → World → Prop) (S : Nat → Prop) (W : World), Below n0 w0 W → Dep J → Dep Jx → (∀ k, S k → n0 ≤ k) →
    (∀ (pre : List Nat) (x : Nat) (S1 : Nat → Prop) (W1 : World), Ext S S1 W W1 → J pre S1 W1 → pre ++ [x] <+: xs → YieldAt Fence.wide 0 P l #[.int .u8 (x : Int)] W1 (YPost J Jx (pre ++ [x]) S1 W1)) →
    J [] S W →
    CallsIn Fence.wide m P g (#[.func (.yield l) #[] #[]] ++ lb) W fun e W2 => (∃ v, e = .returned v) ∧ ∃ S2, Ext S S2 W W2 ∧ (J xs S2 W2 ∨ ∃ pre, pre <+: xs ∧ Jx pre S2 W2)

theorem SeqOK.later {g : Nat} {lb : Array Value} {xs : List Nat} {n0 : Nat} {w0 w1 : World} (h : SeqOK P g lb xs n0 w0) (hb : Below n0 w0 w1) : SeqOK P g lb xs n0 w1 :=
  ⟨Nat.le_trans h.1 hb.size, fun m l J Jx S W hW => h.2 m l J Jx S W (hb.trans hW)⟩
theorem SeqOK.up {g : Nat} {lb : Array Value} {xs : List Nat} {n0 n1 : Nat} {w0 : World} (h : SeqOK P g lb xs n0 w0) (hn : n0 ≤ n1) (h1 : n1 ≤ w0.heap.size) : SeqOK P g lb xs n1 w0 :=
  ⟨h1, fun m l J Jx S W hW hJ hJx hS => h.2 m l J Jx S W (hW.mono hn) hJ hJx (fun k hk => Nat.le_trans hn (hS k hk))⟩

theorem anyDepthR {F : Fence} (hd : F.depth = none) {m m2 : Nat} {l : Nat} {f : FuncId} {tmps : Array Value} {assign body : Code} {w : World} {R : Ending → World → Prop}
    (h : RoundIn F m P l f tmps assign body w R) : RoundIn F m2 P l f tmps assign body w R := ⟨h.1, fun c cs _ => h.2 c cs (fun d hd2 => by rw [hd] at hd2; cases hd2)⟩
theorem anyDepthY {F : Fence} (hd : F.depth = none) {m : Nat} (m2 : Nat) {l : Nat} {args : Array Value} {W : World} {R : Ending → World → Prop} (h : YieldAt F m P l args W R) : YieldAt F m2 P l args W R := by
  obtain ⟨fn, tmps, assign, body, hy, hR⟩ := h
  exact ⟨fn, tmps, assign, body, hy, anyDepthR hd hR⟩

/-- How the body of a round may be left. -/
def setPost (I : List Nat → (Nat → Prop) → World → Prop) (Ix : Code → List Nat → (Nat → Prop) → World → Prop) (xs : List Nat) (S : Nat → Prop) (W : World) : Exit → Act → World → Prop
  | .normal, _, W2 => ∃ S2, Ext S S2 W W2 ∧ I xs S2 W2
  | .ret, _, W2 => ∃ S2, Ext S S2 W W2 ∧ Ix .ret xs S2 W2
  | .exit id, _, W2 => ∃ S2, Ext S S2 W W2 ∧ Ix (.exit id) xs S2 W2
  | .goto t, _, W2 => ∃ S2, Ext S S2 W W2 ∧ Ix (.goto t) xs S2 W2
  | .panic _, _, _ => False
  | .outgrown, _, _ => False

theorem ext_put (S : Nat → Prop) (W : World) (l : Nat) (o : Obj) (hl : S l) : Ext S S W (W.putObj l o) :=
  ⟨(grownBy_putObj' W l o).os, (grownBy_putObj' W l o).tape, (grownBy_putObj' W l o).output, by simp, fun _ _ h => h, fun k _ hk => World.putObj_heap_other (fun e => hk (e ▸ hl))⟩

/-- Two sets side by side. -/
def plus2 (S : Nat → Prop) (a b : Nat) : Nat → Prop := fun k => S k ∨ k = a ∨ k = b

theorem wpIn_rangeFunc_set {n : Nat} {g : Operand} {ps : Array Tmp} {assign body : Code} {Q : Exit → Act → World → Prop} {a : Act} {w : World}
    {gf : Nat} {lb : Array Value} (hg : a.eval g = .func (.func gf) #[] lb) (eg : ∀ args w, (callFunc gf args).run P w = .ok (.enter gf args) w)
    {xs : List Nat} {n0 : Nat} {w0 : World} (hseq : SeqOK P gf lb xs n0 w0) (hb0 : Below n0 w0 w) (hps : ps.size = 1)
    (I : List Nat → (Nat → Prop) → World → Prop) (Ix : Code → List Nat → (Nat → Prop) → World → Prop) (hI : Dep I) (hIx : ∀ c, Dep (Ix c))
    (S0 : Nat → Prop) (hS0 : ∀ k, S0 k → n0 ≤ k) (h0 : I [] S0 w) (a₁ : Nat → Act)
    (hassign : ∀ (l x : Nat) (W : World) (K : Act → World → Prop), K (a₁ x) W →
      assign.wpIn (Fence.wide.inRound l) n P (Exit.then K (fun _ _ _ => False)) { tmps := (ps.zip #[.int .u8 (x : Int)]).foldl (fun t (p, v) => t.setIfInBounds p v) a.tmps, defers := [] } W)
    (hbody : ∀ (l : Nat) (pre : List Nat) (x : Nat) (S : Nat → Prop) (W : World), Ext S0 S w W → I pre S W → pre ++ [x] <+: xs → body.wpIn (Fence.wide.inRound l) n P (setPost I Ix (pre ++ [x]) S W) (a₁ x) W)
    (hdone : ∀ (D : Nat) (S2 : Nat → Prop) (W : World), w.heap.size ≤ D → ¬ S2 D → Ext S0 S2 w W → I xs S2 W → W.heap[D]? = some (.deferred (some [])) → Q .normal { a with defers := { target := .collected D, args := #[] } :: a.defers } W)
    (hstop : ∀ (D : Nat) (c : Code) (pre : List Nat) (S2 : Nat → Prop) (W : World), w.heap.size ≤ D → ¬ S2 D → Ext S0 S2 w W → pre <+: xs → Ix c pre S2 W → W.heap[D]? = some (.deferred (some [])) → c.wpIn Fence.wide n P Q { a with defers := { target := .collected D, args := #[] } :: a.defers } W) :
    (Code.rangeFunc g ps assign body).wpIn Fence.wide n P Q a w := by
  refine wpIn_rangeFunc ?_
  intro fn hfn
  obtain ⟨rec, hrec⟩ : ∃ rec : LoopState → Option Code → Loop, rec = fun st pe => { state := st, pending := pe, fn, tmps := a.tmps, params := ps, assign, body, defers := w.heap.size } := ⟨_, rfl⟩
  obtain ⟨W1, hW1⟩ : ∃ W1, (w.alloc (.deferred (some []))).alloc (.loop (rec .ready none)) = W1 := ⟨_, rfl⟩
  have hsz1 : W1.heap.size = w.heap.size + 2 := by rw [← hW1]; simp
  have hL1 : W1.heap[w.heap.size + 1]? = some (.loop (rec .ready none)) := by
    rw [← hW1]; have := World.alloc_heap_new (w.alloc (.deferred (some []))) (.loop (rec .ready none)); rwa [World.size_alloc] at this
  have hK1 : W1.heap[w.heap.size]? = some (.deferred (some [])) := by
    rw [← hW1]; exact (Below.heap_alloc _ _ _ (by simp)).trans (World.alloc_heap_new w _)
  have hI1 : I [] S0 W1 := by rw [← hW1]; exact hI.alloc _ (hI.alloc _ h0)
  have hbw : Below w.heap.size w W1 := by rw [← hW1]; exact ((Below.refl _ w).alloc (Nat.le_refl _) _).alloc (by simp) _
  have hn0 : n0 ≤ w.heap.size := Nat.le_trans hseq.1 hb0.size
  have hS0w : ∀ k, S0 k → k < w.heap.size := hI.lt _ _ _ h0
  have hE1 : Ext S0 S0 w W1 := Ext.of_below S0 hbw
  refine ⟨w.heap.size + 1, [{ target := .collected w.heap.size, args := #[] }], W1, { target := .fn (.func gf) lb, args := #[.func (.yield (w.heap.size + 1)) #[] #[]] }, W1, gf,
    #[.func (.yield (w.heap.size + 1)) #[] #[]] ++ lb, W1, ?_, ?_, ?_, ?_, fun h => (by cases h), ?_⟩
  · rw [← hW1, hrec]; exact run_enterLoop_outer _ _ _ _ _
  · simp only [resolve, hg]
    simp [go_sem]
  · intro f' _; trivial
  · simp [invoke, go_sem, eg]
  · refine (hseq.2 (n - 1) (w.heap.size + 1)
      (fun pre S W => ∃ SI, (∀ k, S k ↔ plus2 SI (w.heap.size + 1) w.heap.size k) ∧ ¬ SI (w.heap.size + 1) ∧ ¬ SI w.heap.size ∧ I pre SI W ∧ W.heap[w.heap.size + 1]? = some (.loop (rec .ready none)) ∧ W.heap[w.heap.size]? = some (.deferred (some [])))
      (fun pre S W => ∃ SI c, (∀ k, S k ↔ plus2 SI (w.heap.size + 1) w.heap.size k) ∧ ¬ SI (w.heap.size + 1) ∧ ¬ SI w.heap.size ∧ Ix c pre SI W ∧ W.heap[w.heap.size + 1]? = some (.loop (rec .done (some c))) ∧ W.heap[w.heap.size]? = some (.deferred (some [])))
      (plus2 S0 (w.heap.size + 1) w.heap.size) W1 (hb0.trans (hbw.mono hn0)) ?_ ?_ ?_ ?_ ?_).mono ?_
    · refine ⟨fun x S A B ⟨SI, hS, h1, h2, hi, hl, hk⟩ hsz hsame => ⟨SI, hS, h1, h2, hI.same _ _ _ _ hi hsz (fun k hk2 => hsame k ((hS k).2 (.inl hk2))), (hsame _ ((hS _).2 (.inr (.inl rfl)))).trans hl, (hsame _ ((hS _).2 (.inr (.inr rfl)))).trans hk⟩, ?_⟩
      rintro x S A ⟨SI, hS, h1, h2, hi, hl, hk⟩ k hk2
      rcases (hS k).1 hk2 with h | rfl | rfl
      · exact hI.lt _ _ _ hi k h
      · exact (Array.getElem?_eq_some_iff.1 hl).1
      · exact (Array.getElem?_eq_some_iff.1 hk).1
    · refine ⟨fun x S A B ⟨SI, c, hS, h1, h2, hi, hl, hk⟩ hsz hsame => ⟨SI, c, hS, h1, h2, (hIx c).same _ _ _ _ hi hsz (fun k hk2 => hsame k ((hS k).2 (.inl hk2))), (hsame _ ((hS _).2 (.inr (.inl rfl)))).trans hl, (hsame _ ((hS _).2 (.inr (.inr rfl)))).trans hk⟩, ?_⟩
      rintro x S A ⟨SI, c, hS, h1, h2, hi, hl, hk⟩ k hk2
      rcases (hS k).1 hk2 with h | rfl | rfl
      · exact (hIx c).lt _ _ _ hi k h
      · exact (Array.getElem?_eq_some_iff.1 hl).1
      · exact (Array.getElem?_eq_some_iff.1 hk).1
    · rintro k (h | rfl | rfl)
      · exact hS0 k h
      · omega
      · omega
    · -- one round
      rintro pre x S1 W hE ⟨SI, hS, hn1, hn2, hi, hl, hk⟩ hpre
      have hlt : w.heap.size + 1 < W.heap.size := (Array.getElem?_eq_some_iff.1 hl).1
      have hy := run_yield (P := P) (args := #[.int .u8 (x : Int)]) hl (by rw [hrec]; exact hps.symm)
      rw [hrec] at hy
      refine ⟨fn, _, assign, body, hy, anyDepthR (m := n) rfl (roundIn_of_wpIn hfn (hassign _ x W _ ⟨_, run_beginRound hl (by rw [hrec]), ?_⟩))⟩
      clear hy
      have hl2 : (W.putObj (w.heap.size + 1) (.loop { rec .ready none with state := .busy })).heap[w.heap.size + 1]? = some (.loop { rec .ready none with state := .busy }) := World.putObj_heap_same hlt
      have hk2 : (W.putObj (w.heap.size + 1) (.loop { rec .ready none with state := .busy })).heap[w.heap.size]? = some (.deferred (some [])) := (World.putObj_heap_other (by omega)).trans hk
      have hEw : Ext S0 SI w (W.putObj (w.heap.size + 1) (.loop { rec .ready none with state := .busy })) := by
        have h3 := grownBy_putObj' W (w.heap.size + 1) (.loop { rec .ready none with state := .busy })
        refine ⟨h3.os.trans (hE.os.trans hE1.os), h3.tape.trans (hE.tape.trans hE1.tape), h3.output.trans (hE.output.trans hE1.output), by simp; omega, fun k hk3 hs h4 => ?_, fun k hk3 hs => ?_⟩
        · exact hE.new k (by omega) (by rintro (h | h | h); exact hs h; omega; omega) ((hS k).2 (.inl h4))
        · rw [World.putObj_heap_other (by omega), hE.keep k (by omega) (by rintro (h | h | h); exact hs h; omega; omega)]
          exact hbw.block k hk3
      refine wpIn_mono (hbody _ pre x SI _ hEw (hI.put _ _ hn1 hi) hpre) ?_
      have fin : ∀ (jump : Option Code) (SJ : Nat → Prop) (W3 : World), Ext SI SJ (W.putObj (w.heap.size + 1) (.loop { rec .ready none with state := .busy })) W3 →
          (Instr.endRound (w.heap.size + 1) jump).run P W3 = .ok (.bool jump.isNone) (W3.putObj (w.heap.size + 1) (.loop (rec (if jump.isNone then .ready else .done) jump))) ∧
          ¬ SJ (w.heap.size + 1) ∧ ¬ SJ w.heap.size ∧
          (W3.putObj (w.heap.size + 1) (.loop (rec (if jump.isNone then .ready else .done) jump))).heap[w.heap.size + 1]? = some (.loop (rec (if jump.isNone then .ready else .done) jump)) ∧
          (W3.putObj (w.heap.size + 1) (.loop (rec (if jump.isNone then .ready else .done) jump))).heap[w.heap.size]? = some (.deferred (some [])) ∧
          Ext S1 (plus2 SJ (w.heap.size + 1) w.heap.size) W (W3.putObj (w.heap.size + 1) (.loop (rec (if jump.isNone then .ready else .done) jump))) := fun jump SJ W3 hk3 => by
        have hszp : (W.putObj (w.heap.size + 1) (.loop { rec .ready none with state := .busy })).heap.size = W.heap.size := by simp
        have hl3 := (hk3.keep _ (by omega) hn1).trans hl2
        have hr := run_endRound (P := P) jump hl3
        rw [hrec] at hr ⊢
        refine ⟨hr, hk3.new _ (by omega) hn1, hk3.new _ (by omega) hn2, World.putObj_heap_same (Array.getElem?_eq_some_iff.1 hl3).1, (World.putObj_heap_other (by omega)).trans ((hk3.keep _ (by omega) hn2).trans hk2), ?_⟩
        refine ⟨hk3.os, hk3.tape, hk3.output, by have := hk3.size; simp; omega, fun k hk4 hs => ?_, fun k hk4 hs => ?_⟩
        · rintro (h | rfl | rfl)
          · exact hk3.new k (by omega) (fun h5 => hs ((hS k).2 (.inl h5))) h
          · exact hs ((hS _).2 (.inr (.inl rfl)))
          · exact hs ((hS _).2 (.inr (.inr rfl)))
        · have hkl : k ≠ w.heap.size + 1 := fun e => hs ((hS k).2 (.inr (.inl e)))
          rw [World.putObj_heap_other hkl, hk3.keep k (by omega) (fun h5 => hs ((hS k).2 (.inl h5))), World.putObj_heap_other hkl]
      rintro e a3 W3 hp
      cases e with
      | normal =>
        obtain ⟨SJ, hk3, hi3⟩ := hp
        obtain ⟨hr, q1, q2, hl4, hk4, hE4⟩ := fin none SJ W3 hk3
        exact ⟨_, _, hr, _, hE4, .inl ⟨rfl, SJ, fun _ => Iff.rfl, q1, q2, hI.put _ _ q1 hi3, hl4, hk4⟩⟩
      | ret =>
        obtain ⟨SJ, hk3, hi3⟩ := hp
        obtain ⟨hr, q1, q2, hl4, hk4, hE4⟩ := fin (some .ret) SJ W3 hk3
        exact ⟨_, _, hr, _, hE4, .inr ⟨rfl, SJ, .ret, fun _ => Iff.rfl, q1, q2, (hIx _).put _ _ q1 hi3, hl4, hk4⟩⟩
      | exit id =>
        obtain ⟨SJ, hk3, hi3⟩ := hp
        obtain ⟨hr, q1, q2, hl4, hk4, hE4⟩ := fin (some (.exit id)) SJ W3 hk3
        exact ⟨_, _, hr, _, hE4, .inr ⟨rfl, SJ, .exit id, fun _ => Iff.rfl, q1, q2, (hIx _).put _ _ q1 hi3, hl4, hk4⟩⟩
      | goto t =>
        obtain ⟨SJ, hk3, hi3⟩ := hp
        obtain ⟨hr, q1, q2, hl4, hk4, hE4⟩ := fin (some (.goto t)) SJ W3 hk3
        exact ⟨_, _, hr, _, hE4, .inr ⟨rfl, SJ, .goto t, fun _ => Iff.rfl, q1, q2, (hIx _).put _ _ q1 hi3, hl4, hk4⟩⟩
      | panic ch => exact hp.elim
      | outgrown => exact hp.elim
    · exact ⟨S0, fun _ => Iff.rfl, fun h => by have := hS0w _ h; omega, fun h => by have := hS0w _ h; omega, hI1, hL1, hK1⟩
    · -- behind the iterator
      have out : ∀ (S2 SI : Nat → Prop) (W2 : World) (o : Obj), Ext (plus2 S0 (w.heap.size + 1) w.heap.size) S2 W1 W2 → (∀ k, S2 k ↔ plus2 SI (w.heap.size + 1) w.heap.size k) → Ext S0 SI w (W2.putObj (w.heap.size + 1) o) := fun S2 SI W2 o hE hS => by
        have h3 := grownBy_putObj' W2 (w.heap.size + 1) o
        refine ⟨h3.os.trans (hE.os.trans hE1.os), h3.tape.trans (hE.tape.trans hE1.tape), h3.output.trans (hE.output.trans hE1.output), by have := hE.size; simp; omega, fun k hk3 hs h4 => ?_, fun k hk3 hs => ?_⟩
        · exact hE.new k (by omega) (by rintro (h | h | h); exact hs h; omega; omega) ((hS k).2 (.inl h4))
        · rw [World.putObj_heap_other (by omega), hE.keep k (by omega) (by rintro (h | h | h); exact hs h; omega; omega)]
          exact hbw.block k hk3
      rintro e W2 ⟨⟨v, rfl⟩, S2, hE, (⟨SI, hS, hn1, hn2, hi, hl, hk⟩ | ⟨pre, hp, SI, c, hS, hn1, hn2, hi, hl, hk⟩)⟩
      · exact ⟨none, _, by have := run_endLoop (P := P) hl (by rw [hrec]; simp); rw [hrec] at this; exact this, hdone _ SI _ (Nat.le_refl _) hn2 (out _ _ _ _ hE hS) (hI.put _ _ hn1 hi) ((World.putObj_heap_other (by omega)).trans hk)⟩
      · exact ⟨some c, _, by have := run_endLoop (P := P) hl (by rw [hrec]; simp); rw [hrec] at this; exact this, hstop _ c pre SI _ (Nat.le_refl _) hn2 (out _ _ _ _ hE hS) hp ((hIx c).put _ _ hn1 hi) ((World.putObj_heap_other (by omega)).trans hk)⟩
end
end Go.Proofs.Ytlofoeapfmcolaa
