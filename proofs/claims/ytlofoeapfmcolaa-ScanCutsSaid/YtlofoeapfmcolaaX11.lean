/- Several texts, one behind the other; each says by itself what it proves, and on what conditions. -/
import Derived.Test.YtlofoeapfmcolaaX10
import Derived.Test.YtlofoeapfmcolaaProg
import Derived.Maps.OwnSet
import Derived.StringKeys
/- The document on parts: has, Letters, MayPart, stands; the statements' Part. Its condition: lengths that fit. -/
namespace Go.Proofs.Ytlofoeapfmcolaa
open Go.RowKit Go.Shelf
set_option linter.unusedVariables false
set_option linter.unusedSimpArgs false
section
open E
theorem ent24 : Enters Try.prog 24 := enters_of Try.func24 (by kernel_rfl) rfl
theorem ent25 : Enters Try.prog 25 := enters_of Try.func25 (by kernel_rfl) rfl
theorem ent10 : Enters Try.prog 10 := enters_of Try.func10 (by kernel_rfl) rfl
theorem ent27 : Enters Try.prog 27 := enters_of Try.func27 (by kernel_rfl) rfl
theorem ent19 : Enters Try.prog 19 := enters_of Try.func19 (by kernel_rfl) rfl
theorem getD_nat (s : List UInt8) (i : Nat) (h : i < s.length) : s.getD ((i : Nat) : Int).toNat 0 = s[i] := by
  rw [Int.toNat_natCast, List.getD_eq_getElem?_getD, List.getElem?_eq_getElem h]; rfl
set_option maxRecDepth 100000 in
theorem has_any (s : List UInt8) (c : UInt8) (hs : s.length ≤ 9223372036854775806) (w : World) : Calls Try.prog 24 #[stv s, .int .u8 (c.toNat : Int)] w (BoolQ w (s.contains c)) := by
  refine At.calls (args := [.v (stv s), .int .u8 (c.toNat : Int)]) (rows := []) (gl := []) (wr := []) (ρ := fun _ => (⟨0, 0, 0⟩ : Blk)) Try.func24 rfl rfl (init_rw ⟨rfl, rfl, trivial⟩ rfl rfl rfl (fun p hp => by cases hp) (fun p hp => by cases hp) (fun p hp => by cases hp)) rfl ?_
  have hloop : ∀ i : Nat, (i ≤ s.length ∧ s.contains c = (s.drop i).contains c) → At Try.prog w nB Try.f24.ntmps [] (lp Try.f24 0) (EndX Try.prog Try.f24 (BoolQ w (s.contains c))) [(0, .v (stv s)), (1, .int .u8 (c.toNat : Int)), (5, .int .i64 (i : Int))] [] := by
    refine At.loop (fun i : Nat => [(0, .v (stv s)), (1, .int .u8 (c.toNat : Int)), (5, .int .i64 (i : Int))]) (fun _ => []) (fun i => i ≤ s.length ∧ s.contains c = (s.drop i).contains c) (fun i => s.length - i) fun i ⟨hi, hc⟩ ih => ?_
    by_cases h : i < s.length
    · have hd : s.drop i = s[i] :: s.drop (i + 1) := (List.drop_eq_getElem_cons h)
      have hb : (((s.getD (i : Int).toNat 0).toNat : Int) == (c.toNat : Int)) = (s[i] == c) := by
        rw [getD_nat s i h]
        by_cases e : s[i] = c
        · rw [e]; simp
        · have : s[i].toNat ≠ c.toNat := fun h => e (UInt8.toNat_inj.1 h)
          have h1 : (s[i] == c) = false := by simpa using e
          rw [h1]
          simp only [beq_eq_false_iff_ne, ne_eq]
          omega
      by_cases e : s[i] = c
      · have hm : s.contains c = true := by rw [hc, hd, List.contains_cons, e]; simp
        rw [hm]
        exact At.fin rfl [] trivial [.y, .y] (x := .v (.bool true)) (ob := [decide ((i : Int) < (s.length : Int)) = true, 0 ≤ (i : Int) ∧ (i : Int) < (s.length : Int), (((s.getD (i : Int).toNat 0).toNat : Int) == (c.toNat : Int)) = true]) (by kernel_rfl) ⟨decide_eq_true (by omega), ⟨by omega, by omega⟩, by rw [hb, e]; simp, trivial⟩ fun ρ' w' hf _ => ⟨rfl, hf.below⟩
      · have h1 : (s[i] == c) = false := by simpa using e
        have h2 : (c == s[i]) = false := by simpa using fun h => e h.symm
        refine At.run rfl [] trivial [.y, .n] (tm2 := [(0, .v (stv s)), (1, .int .u8 (c.toNat : Int)), (5, .int .i64 ((i + 1 : Nat) : Int))]) (rows2 := []) (ob := [decide ((i : Int) < (s.length : Int)) = true, 0 ≤ (i : Int) ∧ (i : Int) < (s.length : Int), (((s.getD (i : Int).toNat 0).toNat : Int) == (c.toNat : Int)) = false, inI ((i : Int) + 1)]) (td := lp Try.f24 0) (by kernel_rfl) ⟨decide_eq_true (by omega), ⟨by omega, by omega⟩, by rw [hb, h1], ⟨by omega, by omega⟩, trivial⟩ rfl rfl (by intro h; cases h) (ih (i + 1) ⟨h, ?_⟩ (by omega))
        rw [hc, hd, List.contains_cons, h2, Bool.false_or]
    · have hm : s.contains c = false := by rw [hc, List.drop_eq_nil_of_le (by omega)]; rfl
      rw [hm]
      exact At.fin rfl [] trivial [.n] (x := .v (.bool false)) (ob := [decide ((i : Int) < (s.length : Int)) = false]) (by kernel_rfl) ⟨decide_eq_false (by omega), trivial⟩ fun ρ' w' hf _ => ⟨rfl, hf.below⟩
  exact At.run rfl [] trivial [] (tm2 := [(0, .v (stv s)), (1, .int .u8 (c.toNat : Int)), (5, .int .i64 ((0 : Nat) : Int))]) (rows2 := []) (ob := []) (td := lp Try.f24 0) (by kernel_rfl) trivial rfl rfl (by intro h; cases h) (hloop 0 ⟨Nat.zero_le _, rfl⟩)
abbrev hHs (l : List UInt8) (c : UInt8) (b : Bool) : Hint := pc 24 #[stv l, .int .u8 (c.toNat : Int)] (.v (.bool b))
theorem hHs_ok (id : Nat) (l : List UInt8) (c : UInt8) (b : Bool) (hl : l.length ≤ 9223372036854775806) (h : l.contains c = b) : HintOk Try.prog id (hHs l c b) := pc_ok ent24 (v := .bool b) rfl (fun _ => rfl) fun w => by rw [← h]; exact has_any l c hl w
abbrev hLe : Hint := pc 25 #[] (.v (stv letL))
set_option maxRecDepth 100000 in
theorem hLe_ok (id : Nat) : HintOk Try.prog id hLe := pc_ok ent25 (v := stv letL) rfl (fun _ => rfl) fun w => by
  refine At.calls (args := []) (rows := []) (gl := []) (wr := []) (ρ := fun _ => (⟨0, 0, 0⟩ : Blk)) Try.func25 rfl rfl (init_rw trivial rfl rfl rfl (fun p hp => by cases hp) (fun p hp => by cases hp) (fun p hp => by cases hp)) rfl ?_
  exact At.fin rfl [] trivial [] (x := .v (stv letL)) (ob := []) (by kernel_rfl) trivial fun ρ' w' hf _ => ⟨rfl, hf.below⟩
set_option maxRecDepth 100000 in
theorem mayp_any (s : List UInt8) (hs : s.length ≤ 9223372036854775806) (w : World) : Calls Try.prog 10 #[stv s] w (BoolQ w (mayP s)) := by
  refine At.calls (args := [.v (stv s)]) (rows := []) (gl := []) (wr := []) (ρ := fun _ => (⟨0, 0, 0⟩ : Blk)) Try.func10 rfl rfl (init_rw ⟨rfl, trivial⟩ rfl rfl rfl (fun p hp => by cases hp) (fun p hp => by cases hp) (fun p hp => by cases hp)) rfl ?_
  have hloop : ∀ i : Nat, (i ≤ s.length ∧ ∀ j (h : j < s.length), j < i → letL.contains s[j] = true) → At Try.prog w nB Try.f10.ntmps [] (lp Try.f10 0) (EndX Try.prog Try.f10 (BoolQ w (mayP s))) [(0, .v (stv s)), (3, .int .i64 (i : Int))] [] := by
    refine At.loop (fun i : Nat => [(0, .v (stv s)), (3, .int .i64 (i : Int))]) (fun _ => []) (fun i => i ≤ s.length ∧ ∀ j (h : j < s.length), j < i → letL.contains s[j] = true) (fun i => s.length - i) fun i ⟨hi, hc⟩ ih => ?_
    by_cases h : i < s.length
    · have hv : TV.int .u8 (((s.getD (i : Int).toNat 0).toNat : Nat) : Int) = TV.int .u8 ((s[i].toNat : Nat) : Int) := by rw [getD_nat s i h]
      cases e : letL.contains s[i] with
      | false =>
        have hm : mayP s = false := by
          cases hm : mayP s with
          | false => rfl
          | true =>
            unfold mayP at hm
            rw [Bool.and_eq_true, List.all_eq_true] at hm
            rw [hm.2 _ (List.getElem_mem h)] at e
            cases e
        rw [hm]
        exact At.fin rfl [(5000, hLe), (2005003, .val (.int .u8 (s[i].toNat : Int))), (5004, hHs letL s[i] false)] ⟨hLe_ok _, trivial, hHs_ok _ _ _ _ (by decide) e, trivial⟩ [.y, .y] (x := .v (.bool false)) (ob := [[decide ((i : Int) < (s.length : Int)) = true], qL hLe, [TV.int .u8 (((s.getD (i : Int).toNat 0).toNat : Nat) : Int) = TV.int .u8 ((s[i].toNat : Nat) : Int), 0 ≤ (i : Int) ∧ (i : Int) < (s.length : Int)], qL (hHs letL s[i] false), [true = true]].flatten) (by kernel_rfl) (all_flat ⟨⟨decide_eq_true (by omega), trivial⟩, all_qL _, ⟨hv, ⟨by omega, by omega⟩, trivial⟩, all_qL _, ⟨rfl, trivial⟩, trivial⟩) fun ρ' w' hf _ => ⟨rfl, hf.below⟩
      | true =>
        exact At.run rfl [(5000, hLe), (2005003, .val (.int .u8 (s[i].toNat : Int))), (5004, hHs letL s[i] true)] ⟨hLe_ok _, trivial, hHs_ok _ _ _ _ (by decide) e, trivial⟩ [.y, .n] (tm2 := [(0, .v (stv s)), (3, .int .i64 ((i + 1 : Nat) : Int))]) (rows2 := []) (ob := [[decide ((i : Int) < (s.length : Int)) = true], qL hLe, [TV.int .u8 (((s.getD (i : Int).toNat 0).toNat : Nat) : Int) = TV.int .u8 ((s[i].toNat : Nat) : Int), 0 ≤ (i : Int) ∧ (i : Int) < (s.length : Int)], qL (hHs letL s[i] true), [false = false, inI ((i : Int) + 1)]].flatten) (td := lp Try.f10 0) (by kernel_rfl) (all_flat ⟨⟨decide_eq_true (by omega), trivial⟩, all_qL _, ⟨hv, ⟨by omega, by omega⟩, trivial⟩, all_qL _, ⟨rfl, ⟨by omega, by omega⟩, trivial⟩, trivial⟩) rfl rfl (by intro h; cases h) (ih (i + 1) ⟨h, fun j hj1 hj2 => (by
          by_cases e2 : j = i
          · subst e2; exact e
          · exact hc j hj1 (by omega))⟩ (by omega))
    · have hall : (s.all fun c => letL.contains c) = true := List.all_eq_true.2 fun c hcm => by
        obtain ⟨j, hj, rfl⟩ := List.mem_iff_getElem.1 hcm
        exact hc j hj (by omega)
      have hm : mayP s = ((s.length : Int) == 32) := by
        unfold mayP
        rw [hall, Bool.and_true]
        by_cases h32 : s.length = 32
        · rw [h32]; rfl
        · rw [decide_eq_false h32]
          symm
          simp only [beq_eq_false_iff_ne, ne_eq]
          omega
      rw [hm]
      exact At.fin rfl [] trivial [.n] (x := .v (.bool ((s.length : Int) == 32))) (ob := [decide ((i : Int) < (s.length : Int)) = false]) (by kernel_rfl) ⟨decide_eq_false (by omega), trivial⟩ fun ρ' w' hf _ => ⟨rfl, hf.below⟩
  exact At.run rfl [] trivial [] (tm2 := [(0, .v (stv s)), (3, .int .i64 ((0 : Nat) : Int))]) (rows2 := []) (ob := []) (td := lp Try.f10 0) (by kernel_rfl) trivial rfl rfl (by intro h; cases h) (hloop 0 ⟨Nat.zero_le _, fun j _ hj => absurd hj (Nat.not_lt_zero _)⟩)
abbrev hMp (s : List UInt8) (b : Bool) : Hint := pc 10 #[stv s] (.v (.bool b))
theorem hMp_ok (id : Nat) (s : List UInt8) (b : Bool) (hs : s.length ≤ 9223372036854775806) (h : mayP s = b) : HintOk Try.prog id (hMp s b) := pc_ok ent10 (v := .bool b) rfl (fun _ => rfl) fun w => by rw [← h]; exact mayp_any s hs w
set_option maxRecDepth 100000 in
theorem stands_any (s p : List UInt8) (i : Nat) (hs : s.length ≤ 1000000000) (hp : p.length ≤ 1000000000) (hi : i ≤ 1000000000) (w : World) : Calls Try.prog 27 #[stv s, .int .i64 (i : Int), stv p] w (BoolQ w (stP s p i)) := by
  refine At.calls (args := [.v (stv s), .int .i64 (i : Int), .v (stv p)]) (rows := []) (gl := []) (wr := []) (ρ := fun _ => (⟨0, 0, 0⟩ : Blk)) Try.func27 rfl rfl (init_rw ⟨rfl, rfl, rfl, trivial⟩ rfl rfl rfl (fun p hp => by cases hp) (fun p hp => by cases hp) (fun p hp => by cases hp)) rfl ?_
  have i1 : inI ((i : Int) + (p.length : Int)) := ⟨by omega, by omega⟩
  by_cases h : i + p.length ≤ s.length
  · have e : stP s p i = (((s.take ((i : Int) + (p.length : Int)).toNat).drop (i : Int).toNat) == p) := by
      unfold stP
      rw [decide_eq_true h, Bool.true_and, show ((i : Int) + (p.length : Int)).toNat = i + p.length by omega, Int.toNat_natCast, List.drop_take, Nat.add_sub_cancel_left]
    rw [e]
    exact At.fin rfl [(2002007, .val (.v (.bool true)))] ⟨trivial, trivial⟩ [] (x := .v (.bool (((s.take ((i : Int) + (p.length : Int)).toNat).drop (i : Int).toNat) == p))) (ob := [inI ((i : Int) + (p.length : Int)), TV.v (.bool (decide ((i : Int) + (p.length : Int) ≤ (s.length : Int)))) = TV.v (.bool true), inI ((i : Int) + (p.length : Int)), 0 ≤ (i : Int) + (p.length : Int) ∧ (i : Int) + (p.length : Int) ≤ (s.length : Int), 0 ≤ (i : Int) ∧ (i : Int) ≤ (i : Int) + (p.length : Int)]) (by kernel_rfl) ⟨i1, by rw [decide_eq_true (by omega)], i1, ⟨by omega, by omega⟩, ⟨by omega, by omega⟩, trivial⟩ fun ρ' w' hf _ => ⟨rfl, hf.below⟩
  · have e : stP s p i = false := by unfold stP; rw [decide_eq_false h]; rfl
    rw [e]
    exact At.fin rfl [(2002007, .val (.v (.bool false)))] ⟨trivial, trivial⟩ [] (x := .v (.bool false)) (ob := [inI ((i : Int) + (p.length : Int)), TV.v (.bool (decide ((i : Int) + (p.length : Int) ≤ (s.length : Int)))) = TV.v (.bool false)]) (by kernel_rfl) ⟨i1, by rw [decide_eq_false (by omega)], trivial⟩ fun ρ' w' hf _ => ⟨rfl, hf.below⟩
abbrev hSd (s p : List UInt8) (i : Nat) (b : Bool) : Hint := pc 27 #[stv s, .int .i64 (i : Int), stv p] (.v (.bool b))
theorem hSd_ok (id : Nat) (s p : List UInt8) (i : Nat) (b : Bool) (hs : s.length ≤ 1000000000) (hp : p.length ≤ 1000000000) (hi : i ≤ 1000000000) (h : stP s p i = b) : HintOk Try.prog id (hSd s p i b) := pc_ok ent27 (v := .bool b) rfl (fun _ => rfl) fun w => by rw [← h]; exact stands_any s p i hs hp hi w
/-- A part by a number. -/
def partL (n : Nat) : List UInt8 := (List.range 32).map fun i => letL.getD ((n + i * (n % 5)) % 32) 0
theorem partL_len (n : Nat) : (partL n).length = 32 := by simp [partL]
theorem letL_all : ∀ d, d < 32 → letL.contains (letL.getD d 0) = true := by decide +kernel
theorem part_may (n : Nat) : mayP (partL n) = true := by
  unfold mayP
  rw [Bool.and_eq_true, List.all_eq_true]
  refine ⟨decide_eq_true (partL_len n), fun c hc => ?_⟩
  obtain ⟨i, _, rfl⟩ := List.mem_map.1 hc
  exact letL_all _ (Nat.mod_lt _ (by decide))
theorem let_one : ∀ m, m < 32 → (letL.drop m).take 1 = [letL.getD m 0] := by decide +kernel
set_option maxRecDepth 100000 in
theorem part_any (n : Nat) (hn : n < 256) (w : World) : Calls Try.prog 19 #[.int .u8 (n : Int)] w fun e w' => e = .returned (stv (partL n)) ∧ Below w.heap.size w w' := by
  refine At.calls (args := [.int .u8 (n : Int)]) (rows := []) (gl := []) (wr := []) (ρ := fun _ => (⟨0, 0, 0⟩ : Blk)) Try.func19 rfl rfl (init_rw ⟨rfl, trivial⟩ rfl rfl rfl (fun p hp => by cases hp) (fun p hp => by cases hp) (fun p hp => by cases hp)) rfl ?_
  have hloop : ∀ i : Nat, i ≤ 32 → At Try.prog w nB Try.f19.ntmps [] (lp Try.f19 0) (EndX Try.prog Try.f19 fun e w' => e = .returned (stv (partL n)) ∧ Below w.heap.size w w') [(0, .int .u8 (n : Int)), (3, .v (stv ((partL n).take i))), (4, .int .i64 (i : Int))] [] := by
    refine At.loop (fun i : Nat => [(0, .int .u8 (n : Int)), (3, .v (stv ((partL n).take i))), (4, .int .i64 (i : Int))]) (fun _ => []) (fun i => i ≤ 32) (fun i => 32 - i) fun i hi ih => ?_
    by_cases h : i < 32
    · obtain ⟨q, hq⟩ : ∃ q, q = n % 5 := ⟨_, rfl⟩
      have hq5 : q < 5 := by omega
      have hqi : (n : Int) % 5 = (q : Int) := by omega
      obtain ⟨t, ht⟩ : ∃ t, t = i * q := ⟨_, rfl⟩
      have ht2 : t ≤ 32 * 4 := by rw [ht]; exact Nat.mul_le_mul (by omega) (by omega)
      have hti : (i : Int) * ((n : Int) % 5) = (t : Int) := by rw [hqi, ht, Int.natCast_mul]
      obtain ⟨m, hm⟩ : ∃ m, m = (n + t) % 32 := ⟨_, rfl⟩
      have hm32 : m < 32 := by omega
      obtain ⟨c, hc⟩ : ∃ c, c = letL.getD m 0 := ⟨_, rfl⟩
      have hll : (letL.length : Int) = 32 := by decide
      have htk : (partL n).take i ++ [c] = (partL n).take (i + 1) := by
        rw [List.take_add_one]
        congr 1
        unfold partL
        rw [List.getElem?_map, List.getElem?_range (by omega)]
        simp only [Option.map_some, Option.toList_some]
        rw [hc, hm, ht, hq]
      have hl1 : ((partL n).take i).length = i := by rw [List.length_take, partL_len]; omega
      have h9 := ih (i + 1) (by omega) (by omega)
      rw [← htk] at h9
      have hs1 : TV.v (.string ⟨((letL.drop (m : Int).toNat).take (Int.toNat 1)).toArray⟩) = TV.v (stv [c]) := by
        refine tv_str ?_
        rw [Int.toNat_natCast, hc]
        exact let_one m hm32
      have hdl : (((letL.drop (m : Int).toNat).length : Nat) : Int) = 32 - m := by rw [Int.toNat_natCast, List.length_drop]; omega
      exact At.run rfl [(6001, hLe), (2006010, .val (.int .i64 (m : Int))), (2006012, .val (.v (stv [c])))] ⟨hLe_ok _, trivial, trivial, trivial⟩ [.y] (tm2 := [(0, .int .u8 (n : Int)), (3, .v (stv ((partL n).take i ++ [c]))), (4, .int .i64 ((i + 1 : Nat) : Int))]) (rows2 := []) (ob := [[decide ((i : Int) < 32) = true], qL hLe, [IntKind.i64.wrap (n : Int) = (n : Int), 0 ≤ (n : Int) ∧ (0 : Int) < 5, IntKind.i64.wrap ((n : Int) % 5) = (n : Int) % 5, inI ((i : Int) * ((n : Int) % 5)), inI ((n : Int) + (i : Int) * ((n : Int) % 5)), TV.int .i64 (((n : Int) + (i : Int) * ((n : Int) % 5)) % 32) = TV.int .i64 (m : Int), 0 ≤ (n : Int) + (i : Int) * ((n : Int) % 5) ∧ (0 : Int) < 32, 0 ≤ (m : Int) ∧ (m : Int) ≤ (letL.length : Int), TV.v (.string ⟨((letL.drop (m : Int).toNat).take (Int.toNat 1)).toArray⟩) = TV.v (stv [c]), 0 ≤ (1 : Int) ∧ (1 : Int) ≤ (((letL.drop (m : Int).toNat).length : Nat) : Int), (((partL n).take i).length : Int) + (([c] : List UInt8).length : Int) ≤ 9223372036854775807, inI ((i : Int) + 1)]].flatten) (td := lp Try.f19 0) (by kernel_rfl) (all_flat ⟨⟨decide_eq_true (by omega), trivial⟩, all_qL _, ⟨by rw [IntKind.wrap_i64]; omega, ⟨by omega, by omega⟩, by rw [IntKind.wrap_i64]; omega, by rw [hti]; exact ⟨by omega, by omega⟩, by rw [hti]; exact ⟨by omega, by omega⟩, by rw [hti]; exact tv_int (by omega), by rw [hti]; exact ⟨by omega, by omega⟩, ⟨by omega, by omega⟩, hs1, ⟨by omega, by omega⟩, by rw [hl1]; simp; omega, ⟨by omega, by omega⟩, trivial⟩, trivial⟩) rfl rfl (by intro h; cases h) h9
    · obtain rfl : i = 32 := by omega
      rw [List.take_of_length_le (by rw [partL_len]; exact Nat.le_refl _)]
      exact At.fin rfl [] trivial [.n] (x := .v (stv (partL n))) (ob := [decide (((32 : Nat) : Int) < 32) = false]) (by kernel_rfl) ⟨by decide, trivial⟩ fun ρ' w' hf _ => ⟨rfl, hf.below⟩
  exact At.run rfl [] trivial [] (tm2 := [(0, .int .u8 (n : Int)), (3, .v (stv ((partL n).take 0))), (4, .int .i64 ((0 : Nat) : Int))]) (rows2 := []) (ob := []) (td := lp Try.f19 0) (by kernel_rfl) trivial rfl rfl (by intro h; cases h) (hloop 0 (by decide))
abbrev hPt (n : Nat) : Hint := pc 19 #[.int .u8 (n : Int)] (.v (stv (partL n)))
theorem hPt_ok (id n : Nat) (hn : n < 256) : HintOk Try.prog id (hPt n) := pc_ok ent19 (v := stv (partL n)) rfl (fun _ => rfl) fun w => part_any n hn w
end
end Go.Proofs.Ytlofoeapfmcolaa
/- The document's Places. Its condition: lengths that fit. -/
namespace Go.Proofs.Ytlofoeapfmcolaa
open Go.RowKit Go.Shelf
set_option linter.unusedVariables false
set_option linter.unusedSimpArgs false
section
open E
abbrev inF (l : List Nat) : Nat → List Value := fun q => [.int .i64 ((l.getD q 0 : Nat) : Int)]
abbrev inR (l : List Nat) (n : Nat) : Row := ⟨[.fnc (inF l) 1 n], true, some (3, 1)⟩
theorem inR_ok (l : List Nat) (n : Nat) : pok (inR l n).ps := pok1 fun i => ⟨rfl, fun v hv => by obtain rfl := List.mem_singleton.1 hv; rfl⟩
/-- A list of numbers of the call's own, as a slot and as rows. -/
def slT (r : Nat) : Nat → TV
  | 0 => .v nilS
  | n + 1 => .s (.lf (.sl r 0 0 1 (n + 1) none))
def rwT (r : Nat) (l : List Nat) : Nat → List (Nat × Row)
  | 0 => []
  | n + 1 => [(r, inR l (n + 1))]
/-- What a call tells of numbers. -/
def IOut (w : World) (l : List Nat) (e : Ending) (w' : World) : Prop := Fr w [] w' ∧ ((l = [] ∧ e = .returned nilS) ∨ (l ≠ [] ∧ ∃ B : Blk, e = .returned (.slice (some ⟨B.1, 0, none⟩) l.length B.3) ∧ B.2 = 0 ∧ w.heap.size ≤ B.1 ∧ RowAt (fun _ => B) 0 (inR l l.length) w'))
theorem iout_row {w w' : World} {ρ : Env} {r n : Nat} {l : List Nat} (hf : Fr w [] w') (h : RowAt ρ r (inR l (n + 1)) w') (hn : n + 1 = l.length) (hb : w.heap.size ≤ (ρ r).1) : IOut w l (.returned ((TV.s (.lf (.sl r 0 0 1 (n + 1) none))).val ρ)) w' := by
  have h0 : (ρ r).2 = 0 := (h.2.2.1 3 1 rfl).1
  refine ⟨hf, .inr ⟨(fun e => by rw [e] at hn; cases hn), ρ r, ?_, h0, hb, ?_⟩⟩
  · show Ending.returned (.slice (some ⟨(ρ r).1, (ρ r).2 + (0 + 0 * 1), none⟩) (n + 1) ((ρ r).3 - 0)) = _
    rw [h0, ← hn]; rfl
  · rw [← hn]; exact rowAt_mv h rfl
theorem in_step (l : List Nat) (n i : Nat) (hn : n = l.length) : ∀ q, q < n + 1 → appF (inF l) n (fun q => chunkF [.int .i64 (i : Int)] 1 1 (addN 0 q)) q = inF (l ++ [i]) q := by
  intro q hq
  subst hn
  by_cases h : q < l.length
  · rw [appF_lo h]
    show [Value.int .i64 ((l.getD q 0 : Nat) : Int)] = [Value.int .i64 (((l ++ [i]).getD q 0 : Nat) : Int)]
    rw [List.getD_eq_getElem?_getD, List.getD_eq_getElem?_getD, List.getElem?_append_left h]
  · obtain rfl : q = l.length := by omega
    rw [appF_hi (Nat.le_refl _), Nat.sub_self]
    show [Value.int .i64 (i : Int)] = [Value.int .i64 (((l ++ [i]).getD l.length 0 : Nat) : Int)]
    simp
theorem in_one (i : Nat) : ∀ q, q < 1 → chunkF [.int .i64 (i : Int)] 1 1 (addN 0 q) = inF [i] q := by
  intro q hq
  obtain rfl : q = 0 := by omega
  rfl
abbrev hI0 (f : Nat) (args : Env → Array Value) (pre : List (Nat × Row)) : Hint := .call ⟨f, args, .s (.lf (.v nilS)), pre, [], none, []⟩
abbrev hI1 (f : Nat) (args : Env → Array Value) (pre : List (Nat × Row)) (id : Nat) (l : List Nat) : Hint := .call ⟨f, args, .s (.lf (.sl id 0 0 1 l.length none)), pre, [], some (inR l l.length), []⟩
theorem hI0_of {f id : Nat} {args : Env → Array Value} {pre : List (Nat × Row)} (he : Enters Try.prog f) (h : ∀ (ρ : Env) (w : World), (∀ p ∈ pre, RowAt ρ p.1 p.2 w) → Calls Try.prog f (args ρ) w (IOut w [])) : HintOk Try.prog id (hI0 f args pre) := by
  refine call_ok he rfl (fun p hp => by cases hp) fun ρ w hr => (h ρ w hr).mono ?_
  rintro e w' ⟨hf, ⟨_, rfl⟩ | ⟨h1, _⟩⟩
  · exact ⟨⟨0, 0, 0⟩, rfl, hf, (fun p hp => by cases hp), fun row hrw => by cases hrw⟩
  · exact absurd rfl h1
theorem hI1_of {f id : Nat} {args : Env → Array Value} {pre : List (Nat × Row)} {l : List Nat} (hl : l ≠ []) (he : Enters Try.prog f) (h : ∀ (ρ : Env) (w : World), (∀ p ∈ pre, RowAt ρ p.1 p.2 w) → Calls Try.prog f (args ρ) w (IOut w l)) : HintOk Try.prog id (hI1 f args pre id l) := by
  refine call_ok he trivial (fun p hp => by cases hp) fun ρ w hr => (h ρ w hr).mono ?_
  rintro e w' ⟨hf, ⟨h1, _⟩ | ⟨_, B, rfl, h0, hb, hrow⟩⟩
  · exact absurd h1 hl
  · refine ⟨B, ?_, hf, (fun p hp => by cases hp), fun row hrw => ?_⟩
    · show _ = Ending.returned (.slice (some ⟨(setE ρ id B id).1, (setE ρ id B id).2 + (0 + 0 * 1), none⟩) l.length ((setE ρ id B id).3 - 0))
      rw [setE_same, h0]; rfl
    · cases hrw
      exact ⟨hb, rowAt_mv hrow (setE_same ρ id B), inR_ok _ _⟩
theorem ent15 : Enters Try.prog 15 := enters_of Try.func15 (by kernel_rfl) rfl
structure PlX where
  i : Nat
  l : List Nat
  n : Nat
abbrev plT (s p : List UInt8) (r : Nat) (x : PlX) : List (Nat × TV) := [(0, .v (stv s)), (1, .v (stv p)), (5, slT r x.n), (6, .int .i64 (x.i : Int))]
set_option maxRecDepth 100000 in
theorem rplaces_any (s p : List UInt8) (hs : s.length ≤ 1000000) (hp : p.length ≤ 1000000) (w : World) : Calls Try.prog 15 #[stv s, stv p] w (IOut w (placesL s p)) := by
  refine At.calls (args := [.v (stv s), .v (stv p)]) (rows := []) (gl := []) (wr := []) (ρ := fun _ => (⟨0, 0, 0⟩ : Blk)) Try.func15 rfl rfl (init_rw ⟨rfl, rfl, trivial⟩ rfl rfl rfl (fun p hp => by cases hp) (fun p hp => by cases hp) (fun p hp => by cases hp)) rfl ?_
  cases hm : mayP p with
  | false =>
    have e : placesL s p = [] := by unfold placesL; rw [hm, if_neg (by simp)]
    rw [e]
    exact At.fin rfl [(3001, hMp p false)] ⟨hMp_ok _ _ _ (by omega) hm, trivial⟩ [.y] (x := .v nilS) (ob := [qL (hMp p false), [true = true]].flatten) (by kernel_rfl) (all_flat ⟨all_qL _, ⟨rfl, trivial⟩, trivial⟩) fun ρ' w' hf _ => ⟨hf, .inl ⟨rfl, rfl⟩⟩
  | true =>
    have e : placesL s p = pl s p 0 := by unfold placesL; rw [hm, if_pos rfl]
    rw [e]
    have hp32 := may_len hm
    have hloop : ∀ x : PlX, (x.n = x.l.length ∧ x.l ++ pl s p x.i = pl s p 0 ∧ x.i ≤ 1000100) → At Try.prog w nB Try.f15.ntmps [] (lp Try.f15 0) (EndX Try.prog Try.f15 (IOut w (pl s p 0))) (plT s p 2904 x) (rwT 2904 x.l x.n) := by
      refine At.loop (fun x : PlX => plT s p 2904 x) (fun x => rwT 2904 x.l x.n) (fun x => x.n = x.l.length ∧ x.l ++ pl s p x.i = pl s p 0 ∧ x.i ≤ 1000100) (fun x => 1000200 - x.i) ?_
      rintro ⟨i, l, n⟩ ⟨hn, hl, hi⟩ ih
      simp only at hn hl hi ih ⊢
      have i1 : inI ((i : Int) + (p.length : Int)) := ⟨by omega, by omega⟩
      have i2 : inI ((i : Int) + 1) := ⟨by omega, by omega⟩
      have hnl : n ≤ 1000000 := by
        have h1 := congrArg List.length hl
        rw [List.length_append] at h1
        have := pl_len s p (by omega) 0
        omega
      by_cases h : i + p.length ≤ s.length
      · have hdc : decide ((i : Int) + (p.length : Int) ≤ (s.length : Int)) = true := decide_eq_true (by omega)
        by_cases hw : (s.drop i).take p.length = p
        · have hst : stP s p i = true := by unfold stP; rw [decide_eq_true h, Bool.true_and]; simpa using hw
          have hk : HintOk Try.prog 7003 (hSd s p i true) := hSd_ok _ _ _ _ _ (by omega) (by omega) (by omega) hst
          have hl2 : (l ++ [i]) ++ pl s p (i + p.length) = pl s p 0 := by rw [← hl, pl_yes (by omega) h hw]; simp
          have h9 := ih ⟨i + p.length, l ++ [i], n + 1⟩ ⟨by rw [List.length_append, hn]; rfl, hl2, by show i + p.length ≤ _; omega⟩ (by show 1000200 - (i + p.length) < 1000200 - i; omega)
          have e6 : ((i + p.length : Nat) : Int) = (i : Int) + (p.length : Int) := by omega
          have hren : At Try.prog w nB Try.f15.ntmps [] (lp Try.f15 0) (EndX Try.prog Try.f15 (IOut w (pl s p 0))) [(0, .v (stv s)), (1, .v (stv p)), (5, .s (.lf (.sl 8003 0 0 1 (n + 1) none))), (6, .int .i64 ((i : Int) + (p.length : Int)))] [(8003, inR (l ++ [i]) (n + 1))] := by
            rw [← e6]
            exact At.ren [(2904, 8003)] (plT s p 2904 ⟨i + p.length, l ++ [i], n + 1⟩) (rwT 2904 (l ++ [i]) (n + 1)) rfl rfl rfl rfl rfl h9
          cases n with
          | zero =>
            obtain rfl : l = [] := List.length_eq_zero_iff.1 hn.symm
            refine At.run rfl [(7003, hSd s p i true)] ⟨hk, trivial⟩ [.y, .y] (tm2 := [(0, .v (stv s)), (1, .v (stv p)), (5, .s (.lf (.sl 8003 0 0 1 (0 + 1) none))), (6, .int .i64 ((i : Int) + (p.length : Int)))]) (rows2 := [(8003, ⟨[.fnc (fun q => chunkF [.int .i64 (i : Int)] 1 1 (addN 0 q)) 1 1], true, some (3, 1)⟩)]) (ob := [[inI ((i : Int) + (p.length : Int)), decide ((i : Int) + (p.length : Int) ≤ (s.length : Int)) = true], qL (hSd s p i true), [true = true, 0 < 1, 1 ≤ 9223372036854775807, 8 ≤ 140737488355328, 1 ≤ 1, inI ((i : Int) + (p.length : Int))]].flatten) (td := lp Try.f15 0) (by kernel_rfl) (all_flat ⟨⟨i1, hdc, trivial⟩, all_qL _, ⟨rfl, by decide, by decide, by decide, by decide, i1, trivial⟩, trivial⟩) rfl rfl (by intro h; cases h) ?_
            exact At.rows (rows2 := [(8003, inR ([] ++ [i]) (0 + 1))]) (rowsEq_fnc (in_one i) trivial) rfl hren
          | succ n =>
            refine At.run rfl [(7003, hSd s p i true)] ⟨hk, trivial⟩ [.y, .y] (tm2 := [(0, .v (stv s)), (1, .v (stv p)), (5, .s (.lf (.sl 8003 0 0 1 (n + 1 + 1) none))), (6, .int .i64 ((i : Int) + (p.length : Int)))]) (rows2 := [(8003, ⟨[.fnc (appF (inF l) (n + 1) fun q => chunkF [.int .i64 (i : Int)] 1 1 (addN 0 q)) 1 (n + 1 + 1)], true, some (3, 1)⟩)]) (ob := [[inI ((i : Int) + (p.length : Int)), decide ((i : Int) + (p.length : Int) ≤ (s.length : Int)) = true], qL (hSd s p i true), [true = true, n + 1 = n + 1, n + 1 + 1 ≤ 9223372036854775807, (n + 1 + 1) * 8 ≤ 140737488355328, 1 ≤ 1, inI ((i : Int) + (p.length : Int))]].flatten) (td := lp Try.f15 0) (by kernel_rfl) (all_flat ⟨⟨i1, hdc, trivial⟩, all_qL _, ⟨rfl, rfl, by omega, by omega, by decide, i1, trivial⟩, trivial⟩) rfl rfl (by intro h; cases h) ?_
            exact At.rows (rows2 := [(8003, inR (l ++ [i]) (n + 1 + 1))]) (rowsEq_fnc (in_step l (n + 1) i hn) trivial) rfl hren
        · have hst : stP s p i = false := by unfold stP; rw [decide_eq_true h, Bool.true_and]; simpa using hw
          have hk : HintOk Try.prog 7003 (hSd s p i false) := hSd_ok _ _ _ _ _ (by omega) (by omega) (by omega) hst
          have h9 := ih ⟨i + 1, l, n⟩ ⟨hn, by rw [← hl, pl_no (by omega) h hw], by show i + 1 ≤ _; omega⟩ (by show 1000200 - (i + 1) < 1000200 - i; omega)
          cases n with
          | zero => exact At.run rfl [(7003, hSd s p i false)] ⟨hk, trivial⟩ [.y, .n] (tm2 := plT s p 2904 ⟨i + 1, l, 0⟩) (rows2 := []) (ob := [[inI ((i : Int) + (p.length : Int)), decide ((i : Int) + (p.length : Int) ≤ (s.length : Int)) = true], qL (hSd s p i false), [false = false, inI ((i : Int) + 1)]].flatten) (td := lp Try.f15 0) (by kernel_rfl) (all_flat ⟨⟨i1, hdc, trivial⟩, all_qL _, ⟨rfl, i2, trivial⟩, trivial⟩) rfl rfl (by intro h; cases h) h9
          | succ n => exact At.run rfl [(7003, hSd s p i false)] ⟨hk, trivial⟩ [.y, .n] (tm2 := plT s p 2904 ⟨i + 1, l, n + 1⟩) (rows2 := [(2904, inR l (n + 1))]) (ob := [[inI ((i : Int) + (p.length : Int)), decide ((i : Int) + (p.length : Int) ≤ (s.length : Int)) = true], qL (hSd s p i false), [false = false, inI ((i : Int) + 1)]].flatten) (td := lp Try.f15 0) (by kernel_rfl) (all_flat ⟨⟨i1, hdc, trivial⟩, all_qL _, ⟨rfl, i2, trivial⟩, trivial⟩) rfl rfl (by intro h; cases h) h9
      · have hdc : decide ((i : Int) + (p.length : Int) ≤ (s.length : Int)) = false := decide_eq_false (by omega)
        rw [pl_end h, List.append_nil] at hl
        rw [← hl]
        cases n with
        | zero =>
          obtain rfl : l = [] := List.length_eq_zero_iff.1 hn.symm
          exact At.fin rfl [] trivial [.n] (x := .v nilS) (ob := [inI ((i : Int) + (p.length : Int)), decide ((i : Int) + (p.length : Int) ≤ (s.length : Int)) = false]) (by kernel_rfl) ⟨i1, hdc, trivial⟩ fun ρ' w' hf _ => ⟨hf, .inl ⟨rfl, rfl⟩⟩
        | succ n =>
          refine At.finR rfl [] trivial [.n] (rows2 := [(2904, inR l (n + 1))]) (x := .s (.lf (.sl 2904 0 0 1 (n + 1) none))) (ob := [inI ((i : Int) + (p.length : Int)), decide ((i : Int) + (p.length : Int) ≤ (s.length : Int)) = false]) (by kernel_rfl) ⟨i1, hdc, trivial⟩ fun ρ' w' hf he _ hq => ?_
          obtain ⟨g1, _, g3⟩ := hq _ (List.mem_singleton.2 rfl)
          exact iout_row hf g1 hn ((g3 rfl).resolve_right (by simp))
    exact At.run rfl [(3001, hMp p true)] ⟨hMp_ok _ _ _ (by omega) hm, trivial⟩ [.n] (tm2 := plT s p 2904 ⟨0, [], 0⟩) (rows2 := []) (ob := [qL (hMp p true), [false = false]].flatten) (td := lp Try.f15 0) (by kernel_rfl) (all_flat ⟨all_qL _, ⟨rfl, trivial⟩, trivial⟩) rfl rfl (by intro h; cases h) (hloop ⟨0, [], 0⟩ ⟨rfl, rfl, Nat.zero_le _⟩)
end
end Go.Proofs.Ytlofoeapfmcolaa
/- The statements' same: are two lists of numbers the same? Its condition: lengths that fit. -/
namespace Go.Proofs.Ytlofoeapfmcolaa
open Go.RowKit Go.Shelf
set_option linter.unusedVariables false
set_option linter.unusedSimpArgs false
section
open E
theorem ent11 : Enters Try.prog 11 := enters_of Try.func11 (by kernel_rfl) rfl
abbrev inO (l : List Nat) : Row := ⟨[.fnc (inF l) 1 l.length], false, none⟩
theorem inO_ok (l : List Nat) : pok (inO l).ps := pok1 fun i => ⟨rfl, fun v hv => by obtain rfl := List.mem_singleton.1 hv; rfl⟩
theorem inO_of {ρ σ : Env} {r q : Nat} {l : List Nat} {w : World} (h : RowAt ρ r (inR l l.length) w) (e : σ q = ρ r) : RowAt σ q (inO l) w := by
  unfold RowAt at h ⊢
  rw [e]
  obtain ⟨k1, k2, _, k4⟩ := h
  exact ⟨k1, fun j v hv => ⟨(k2 j v hv).1, fun h => by cases h⟩, (fun e k he => by cases he), k4⟩
abbrev smT (l m : List Nat) (i : Nat) : List (Nat × TV) := [(0, .s (.lf (.sl 0 0 0 1 l.length none))), (1, .s (.lf (.sl 1 0 0 1 m.length none))), (5, .int .i64 (i : Int))]
set_option maxRecDepth 100000 in
theorem same_pos (l m : List Nat) (hl : l.length ≤ 1000000000) (hm : m.length ≤ 1000000000) (w : World) (ρ : Env) (h0 : RowAt ρ 0 (inO l) w) (h1 : RowAt ρ 1 (inO m) w) : Calls Try.prog 11 #[(TV.s (.lf (.sl 0 0 0 1 l.length none))).val ρ, (TV.s (.lf (.sl 1 0 0 1 m.length none))).val ρ] w (BoolQ w (decide (l = m))) := by
  refine At.calls (args := [.s (.lf (.sl 0 0 0 1 l.length none)), .s (.lf (.sl 1 0 0 1 m.length none))]) (rows := [(0, inO l), (1, inO m)]) (gl := []) (wr := []) (ρ := ρ) Try.func11 rfl rfl (init_rw ⟨trivial, trivial, trivial⟩ rfl rfl rfl (fun p hp => by
    simp only [List.mem_cons, List.not_mem_nil, or_false] at hp
    rcases hp with rfl | rfl
    · exact ⟨h0, inO_ok l⟩
    · exact ⟨h1, inO_ok m⟩) (fun p hp hw => by
    simp only [List.mem_cons, List.not_mem_nil, or_false] at hp
    rcases hp with rfl | rfl <;> cases hw) (fun p hp q hq hpq hw => by
    simp only [List.mem_cons, List.not_mem_nil, or_false] at hp
    rcases hp with rfl | rfl <;> cases hw)) rfl ?_
  by_cases hlm : l.length = m.length
  · have hne : ((l.length : Int) != (m.length : Int)) = false := by rw [hlm]; simp
    have hloop : ∀ i : Nat, (i ≤ l.length ∧ l.take i = m.take i) → At Try.prog w ⟨[], ρ, []⟩ Try.f11.ntmps [] (lp Try.f11 0) (EndX Try.prog Try.f11 (BoolQ w (decide (l = m)))) (smT l m i) [(0, inO l), (1, inO m)] := by
      refine At.loop (fun i : Nat => smT l m i) (fun _ => [(0, inO l), (1, inO m)]) (fun i => i ≤ l.length ∧ l.take i = m.take i) (fun i => l.length - i) fun i ⟨hi, ht⟩ ih => ?_
      by_cases hlt : i < l.length
      · have e0 : l.getD (addN 0 (i : Int).toNat) 0 = l[i] := by rw [addN_eq, Nat.zero_add, Int.toNat_natCast, List.getD_eq_getElem?_getD, List.getElem?_eq_getElem hlt]; rfl
        have e1 : m.getD (addN 0 (i : Int).toNat) 0 = m[i]'(by omega) := by rw [addN_eq, Nat.zero_add, Int.toNat_natCast, List.getD_eq_getElem?_getD, List.getElem?_eq_getElem (by omega)]; rfl
        have hx0 : addN 0 (i : Int).toNat < l.length := by rw [addN_eq]; omega
        have hx1 : addN 0 (i : Int).toNat < m.length := by rw [addN_eq]; omega
        by_cases he : l[i] = m[i]'(by omega)
        · have hb : (((l.getD (addN 0 (i : Int).toNat) 0 : Nat) : Int) != ((m.getD (addN 0 (i : Int).toNat) 0 : Nat) : Int)) = false := by
            rw [e0, e1]
            simp only [bne_eq_false_iff_eq]
            omega
          refine At.run rfl [] trivial [.y, .n] (tm2 := smT l m (i + 1)) (rows2 := [(0, inO l), (1, inO m)]) (ob := [decide ((i : Int) < (l.length : Int)) = true, 0 ≤ (i : Int) ∧ (i : Int) < (l.length : Int), addN 0 (i : Int).toNat < l.length, 0 ≤ (i : Int) ∧ (i : Int) < (m.length : Int), addN 0 (i : Int).toNat < m.length, (((l.getD (addN 0 (i : Int).toNat) 0 : Nat) : Int) != ((m.getD (addN 0 (i : Int).toNat) 0 : Nat) : Int)) = false, inI ((i : Int) + 1)]) (td := lp Try.f11 0) (by kernel_rfl) ⟨decide_eq_true (by omega), ⟨by omega, by omega⟩, hx0, ⟨by omega, by omega⟩, hx1, hb, ⟨by omega, by omega⟩, trivial⟩ rfl rfl (by intro h; cases h) (ih (i + 1) ⟨hlt, ?_⟩ (by show l.length - (i + 1) < l.length - i; omega))
          rw [List.take_add_one, List.take_add_one, List.getElem?_eq_getElem hlt, List.getElem?_eq_getElem (show i < m.length by omega), ht]
          exact congrArg (fun v => List.take i m ++ (some v).toList) he
        · have hb : (((l.getD (addN 0 (i : Int).toNat) 0 : Nat) : Int) != ((m.getD (addN 0 (i : Int).toNat) 0 : Nat) : Int)) = true := by
            rw [e0, e1]
            simp only [bne_iff_ne, ne_eq]
            omega
          have hr : decide (l = m) = false := decide_eq_false fun e => by subst e; exact he rfl
          rw [hr]
          exact At.fin rfl [] trivial [.y, .y] (x := .v (.bool false)) (ob := [decide ((i : Int) < (l.length : Int)) = true, 0 ≤ (i : Int) ∧ (i : Int) < (l.length : Int), addN 0 (i : Int).toNat < l.length, 0 ≤ (i : Int) ∧ (i : Int) < (m.length : Int), addN 0 (i : Int).toNat < m.length, (((l.getD (addN 0 (i : Int).toNat) 0 : Nat) : Int) != ((m.getD (addN 0 (i : Int).toNat) 0 : Nat) : Int)) = true]) (by kernel_rfl) ⟨decide_eq_true (by omega), ⟨by omega, by omega⟩, hx0, ⟨by omega, by omega⟩, hx1, hb, trivial⟩ fun ρ' w' hf _ => ⟨rfl, hf.below⟩
      · have hr : decide (l = m) = true := decide_eq_true (by
          rw [List.take_of_length_le (by omega), List.take_of_length_le (by omega)] at ht
          exact ht)
        rw [hr]
        exact At.fin rfl [] trivial [.n] (x := .v (.bool true)) (ob := [decide ((i : Int) < (l.length : Int)) = false]) (by kernel_rfl) ⟨decide_eq_false (by omega), trivial⟩ fun ρ' w' hf _ => ⟨rfl, hf.below⟩
    exact At.run rfl [] trivial [.n] (tm2 := smT l m 0) (rows2 := [(0, inO l), (1, inO m)]) (ob := [((l.length : Int) != (m.length : Int)) = false]) (td := lp Try.f11 0) (by kernel_rfl) ⟨hne, trivial⟩ rfl rfl (by intro h; cases h) (hloop 0 ⟨Nat.zero_le _, rfl⟩)
  · have hne : ((l.length : Int) != (m.length : Int)) = true := by simp only [bne_iff_ne, ne_eq]; omega
    have hr : decide (l = m) = false := decide_eq_false fun e => hlm (by rw [e])
    rw [hr]
    exact At.fin rfl [] trivial [.y] (x := .v (.bool false)) (ob := [((l.length : Int) != (m.length : Int)) = true]) (by kernel_rfl) ⟨hne, trivial⟩ fun ρ' w' hf _ => ⟨rfl, hf.below⟩
set_option maxRecDepth 100000 in
theorem same_nil (w : World) : Calls Try.prog 11 #[nilS, nilS] w (BoolQ w true) := by
  refine At.calls (args := [.v nilS, .v nilS]) (rows := []) (gl := []) (wr := []) (ρ := fun _ => (⟨0, 0, 0⟩ : Blk)) Try.func11 rfl rfl (init_rw ⟨rfl, rfl, trivial⟩ rfl rfl rfl (fun p hp => by cases hp) (fun p hp => by cases hp) (fun p hp => by cases hp)) rfl ?_
  exact At.fin rfl [] trivial [.d, .u, .d] (x := .v (.bool true)) (ob := []) (by kernel_rfl) trivial fun ρ' w' hf _ => ⟨rfl, hf.below⟩
/-- The hint: both lie in rows of the caller's own. -/
abbrev hSm (r q : Nat) (l m : List Nat) (b : Bool) : Hint := .call ⟨11, fun ρ => #[(TV.s (.lf (.sl r 0 0 1 l.length none))).val ρ, (TV.s (.lf (.sl q 0 0 1 m.length none))).val ρ], .v (.bool b), [(r, inR l l.length), (q, inR m m.length)], [], none, []⟩
theorem hSm_ok (id r q : Nat) (l m : List Nat) (b : Bool) (hl : l.length ≤ 1000000000) (hm : m.length ≤ 1000000000) (h : decide (l = m) = b) : HintOk Try.prog id (hSm r q l m b) := by
  refine call_ok ent11 rfl (fun p hp => by cases hp) fun ρ w hr => ?_
  have h0 := hr _ (List.mem_cons_self ..)
  have h1 := hr _ (List.mem_cons_of_mem _ (List.mem_cons_self ..))
  have hc := same_pos l m hl hm w (fun x => if x = 0 then ρ r else ρ q) (inO_of h0 rfl) (inO_of h1 rfl)
  refine hc.mono ?_
  rintro e w' ⟨rfl, hf⟩
  exact ⟨⟨0, 0, 0⟩, by rw [h]; rfl, Fr.of_below hf _, (fun p hp => by cases hp), fun row hrw => by cases hrw⟩
abbrev hSm0 : Hint := pc 11 #[nilS, nilS] (.v (.bool true))
theorem hSm0_ok (id : Nat) : HintOk Try.prog id hSm0 := pc_ok ent11 (v := .bool true) rfl (fun _ => rfl) fun w => same_nil w
end
end Go.Proofs.Ytlofoeapfmcolaa
/- Sets of texts in memory, as the program's scanner keeps them: made, put into, dropped from, looked into. Its condition: lengths that fit. -/
namespace Go.Proofs.Ytlofoeapfmcolaa
open Go.RowKit Go.ChangeMaps Go.MapKept Go.WideMaps
set_option linter.unusedVariables false
set_option linter.unusedSimpArgs false
/-- A set of texts in memory. -/
def MsR (W : World) (b n : Nat) (S : List UInt8 → Bool) : Prop := ∃ D : DataW Unit, W.ownsMap Try.prog 9 unitElem b n D ∧ ∀ p : List UInt8, p.length ≤ maxLen → Maps.has D (.string p) = S p
theorem ms_keyed : Maps.Keyed Try.prog 9 := Maps.string_keyed (by kernel_rfl)
theorem ms_key {p : List UInt8} (hp : p.length ≤ maxLen) : keyOf Try.prog 9 (stv p) = some (.string p) := keyOf_string_mk (by kernel_rfl) (s := ⟨p.toArray⟩) (by show p.toArray.size ≤ _; simpa using hp)
theorem ms_map : Try.prog.underlying 50 = some (.map 9 57) := by kernel_rfl
theorem MsR.lt {W : World} {b n : Nat} {S : List UInt8 → Bool} (h : MsR W b n S) : b < W.heap.size := by
  obtain ⟨D, h1, _⟩ := h
  exact h1.lt
theorem MsR.keep {W W' : World} {b n : Nat} {S : List UInt8 → Bool} (h : MsR W b n S) (hb : W'.heap[b]? = W.heap[b]?) : MsR W' b n S := by
  obtain ⟨D, ⟨es, clock, h1, h2⟩, h3⟩ := h
  exact ⟨D, ⟨es, clock, hb.trans h1, h2⟩, h3⟩
theorem ms_made (w : World) : MsR (w.alloc (.map #[] 0)) w.heap.size 0 fun _ => false := ⟨.map [], World.ownsMap_made w _ _ _, fun p _ => rfl⟩
theorem fr_turned {w w' : World} {b : Nat} (h : w.mapTurned w' b) : E.Fr w [b] w' := by
  obtain ⟨es, clock, es', clock', hb, rfl⟩ := h
  exact ⟨rfl, rfl, rfl, by simp [setBlock], fun k hk hn => heap_setBlock_other hb _ (fun e => hn (by rw [e]; exact List.mem_singleton.2 rfl))⟩
theorem ms_drop {w : World} {b n : Nat} {S : List UInt8 → Bool} (h : MsR w b n S) {p : List UInt8} (hp : p.length ≤ maxLen) (ty : TypeId) :
    ∃ w', (Builtin.delete_ #[50, 9] ty #[.map (some b), stv p]).run Try.prog w = .ok (.tuple #[]) w' ∧ MsR w' b n (fun q => S q && !(q == p)) ∧ E.Fr w [b] w' := by
  obtain ⟨D, h1, h2⟩ := h
  obtain ⟨w', g1, g2, g3⟩ := h1.drop ms_keyed ms_map (ms_key hp) ty
  refine ⟨w', g1, ⟨_, g2, fun q hq => ?_⟩, fr_turned g3⟩
  by_cases e : q = p
  · subst e
    rw [Maps.has_del_same]; simp
  · rw [Maps.has_del_other (by intro h; cases h; exact e rfl), h2 q hq]
    simp [e]
theorem ms_put {w : World} {b n : Nat} {S : List UInt8 → Bool} (h : MsR w b n S) (hn : n < maxLen) {p : List UInt8} (hp : p.length ≤ maxLen) :
    ∃ w', (Instr.mapUpdate 50 (.map (some b)) (stv p) (.agg #[])).run Try.prog w = .ok () w' ∧ MsR w' b (n + 1) (fun q => S q || q == p) ∧ E.Fr w [b] w' := by
  obtain ⟨D, h1, h2⟩ := h
  obtain ⟨w', g1, g2, g3⟩ := h1.store ms_keyed ms_map hn (ms_key hp) unitElem_mk
  refine ⟨w', g1, ⟨_, g2, fun q hq => ?_⟩, fr_turned g3⟩
  by_cases e : q = p
  · subst e
    rw [Maps.has_put_same h1.isMap (by simp [WideAt.IsKeyLit])]; simp
  · rw [Maps.has_put_other (by intro h; cases h; exact e rfl), h2 q hq]
    simp [e]
theorem ms_look {w : World} {b n : Nat} {S : List UInt8 → Bool} (h : MsR w b n S) {p : List UInt8} (hp : p.length ≤ maxLen) :
    (Instr.lookup 50 (.map (some b)) (stv p) true).run Try.prog w = .ok (.tuple #[.agg #[], .bool (S p)]) w := by
  obtain ⟨D, h1, h2⟩ := h
  obtain ⟨v, ps, g1, g2⟩ := h1.look_ok ms_keyed ms_map (z := .agg #[]) (by kernel_rfl) unitElem_mk (ms_key hp)
  obtain ⟨rfl, _⟩ := unitElem_inv g2
  rw [g1, h2 p hp]
end Go.Proofs.Ytlofoeapfmcolaa
/- strings.Clone; the program's end. Its condition: lengths that fit. -/
namespace Go.Proofs.Ytlofoeapfmcolaa
open Go.RowKit Go.Shelf
set_option linter.unusedVariables false
set_option linter.unusedSimpArgs false
section
open E
theorem ent38 : Enters Try.prog 38 := enters_of Try.func38 (by kernel_rfl) rfl
theorem ent28 : Enters Try.prog 28 := enters_of Try.func28 (by kernel_rfl) rfl
theorem ent30 : Enters Try.prog 30 := enters_of Try.func30 (by kernel_rfl) rfl
theorem hC0_ok (id : Nat) (s : List UInt8) (hs : s.length ≤ 281474976710656) : HintOk Try.prog id (pc 38 #[stv s] (.v (stv s))) := pc_ok ent38 (v := stv s) rfl (fun _ => rfl) fun w => stringslite_Clone ⟨s.toArray⟩ w (by show s.toArray.size ≤ _; simpa using hs)
set_option maxRecDepth 100000 in
theorem clone_any (s : List UInt8) (hs : s.length ≤ 281474976710656) (w : World) : Calls Try.prog 28 #[stv s] w fun e w' => e = .returned (stv s) ∧ Below w.heap.size w w' := by
  refine At.calls (args := [.v (stv s)]) (rows := []) (gl := []) (wr := []) (ρ := fun _ => (⟨0, 0, 0⟩ : Blk)) Try.func28 rfl rfl (init_rw ⟨rfl, trivial⟩ rfl rfl rfl (fun p hp => by cases hp) (fun p hp => by cases hp) (fun p hp => by cases hp)) rfl ?_
  exact At.fin rfl [(2001, pc 38 #[stv s] (.v (stv s)))] ⟨hC0_ok _ _ hs, trivial⟩ [] (x := .v (stv s)) (ob := qL (pc 38 #[stv s] (.v (stv s)))) (by kernel_rfl) (all_qL _) fun ρ' w' hf _ => ⟨rfl, hf.below⟩
abbrev hCl (s : List UInt8) : Hint := pc 28 #[stv s] (.v (stv s))
theorem hCl_ok (id : Nat) (s : List UInt8) (hs : s.length ≤ 281474976710656) : HintOk Try.prog id (hCl s) := pc_ok ent28 (v := stv s) rfl (fun _ => rfl) fun w => clone_any s hs w
/-- The last bytes of a text: those in which a part may begin and not end. -/
def endL (s : List UInt8) : List UInt8 := s.drop (s.length - 31)
theorem endL_len (s : List UInt8) : (endL s).length ≤ 31 := by
  unfold endL
  rw [List.length_drop]; omega
set_option maxRecDepth 100000 in
theorem end_any (s : List UInt8) (hs : s.length ≤ 9223372036854775807) (w : World) : Calls Try.prog 30 #[stv s] w fun e w' => e = .returned (stv (endL s)) ∧ Below w.heap.size w w' := by
  refine At.calls (args := [.v (stv s)]) (rows := []) (gl := []) (wr := []) (ρ := fun _ => (⟨0, 0, 0⟩ : Blk)) Try.func30 rfl rfl (init_rw ⟨rfl, trivial⟩ rfl rfl rfl (fun p hp => by cases hp) (fun p hp => by cases hp) (fun p hp => by cases hp)) rfl ?_
  obtain ⟨k, hk⟩ : ∃ k, k = s.length - 31 := ⟨_, rfl⟩
  have he : endL s = s.drop k := by rw [hk]; rfl
  have hv : TV.int .i64 (bif true then (if (s.length : Int) - 31 > 0 then (s.length : Int) - 31 else 0) else (if (s.length : Int) - 31 < 0 then (s.length : Int) - 31 else 0)) = TV.int .i64 (k : Int) := tv_int (by
    rw [cond_true]
    split <;> omega)
  have hx : TV.v (stv (List.drop (k : Int).toNat s)) = TV.v (stv (endL s)) := tv_str (by rw [he, Int.toNat_natCast])
  exact At.fin rfl [(2002004, .val (.int .i64 (k : Int))), (2002005, .val (.v (stv (endL s))))] ⟨trivial, trivial, trivial⟩ [] (x := .v (stv (endL s))) (ob := [inI ((s.length : Int) - 31), TV.int .i64 (bif true then (if (s.length : Int) - 31 > 0 then (s.length : Int) - 31 else 0) else (if (s.length : Int) - 31 < 0 then (s.length : Int) - 31 else 0)) = TV.int .i64 (k : Int), TV.v (stv (List.drop (k : Int).toNat s)) = TV.v (stv (endL s)), 0 ≤ (k : Int) ∧ (k : Int) ≤ (s.length : Int)]) (by kernel_rfl) ⟨⟨by omega, by omega⟩, hv, hx, ⟨by omega, by omega⟩, trivial⟩ fun ρ' w' hf _ => ⟨rfl, hf.below⟩
abbrev hEd (s : List UInt8) : Hint := pc 30 #[stv s] (.v (stv (endL s)))
theorem hEd_ok (id : Nat) (s : List UInt8) (hs : s.length ≤ 9223372036854775807) : HintOk Try.prog id (hEd s) := pc_ok ent30 (v := stv (endL s)) rfl (fun _ => rfl) fun w => end_any s hs w
end
end Go.Proofs.Ytlofoeapfmcolaa
/- Windows of a text that comes in pieces: each lies in what came ahead, over the seam, or in the piece. No condition. -/
namespace Go.Proofs.Ytlofoeapfmcolaa
set_option linter.unusedVariables false
set_option linter.unusedSimpArgs false
/-- Thirty-two bytes stand somewhere in a text. -/
def winP (x q : List UInt8) : Prop := ∃ k, k + 32 ≤ x.length ∧ (x.drop k).take 32 = q
theorem endL_rev (x : List UInt8) : endL x = (x.reverse.take 31).reverse := by
  unfold endL
  rw [List.take_reverse, List.reverse_reverse]
/-- The last bytes of all that came are those of the last bytes ahead and of the piece. -/
theorem endL_app (a s : List UInt8) : endL (endL a ++ endL s) = endL (a ++ s) := by
  rw [endL_rev (endL a ++ endL s), endL_rev (a ++ s), List.reverse_append, List.reverse_append, endL_rev a, endL_rev s, List.reverse_reverse, List.reverse_reverse, List.take_append, List.take_append, List.take_take, List.take_take, List.length_take]
  rw [show min 31 31 = 31 by rfl]
  rw [show min (31 - min 31 s.reverse.length) 31 = 31 - s.reverse.length by omega]
theorem win_in {u x v q : List UInt8} (h : winP x q) : winP (u ++ (x ++ v)) q := by
  obtain ⟨k, h1, h2⟩ := h
  refine ⟨u.length + k, by rw [List.length_append, List.length_append]; omega, ?_⟩
  rw [List.drop_append, List.drop_of_length_le (by omega), List.nil_append, Nat.add_sub_cancel_left, List.drop_append, List.take_append, h2]
  rw [show 32 - (List.drop k x).length = 0 by rw [List.length_drop]; omega]
  simp
theorem endL_split (a : List UInt8) : a = a.take (a.length - 31) ++ endL a := (List.take_append_drop _ _).symm
theorem win_feed (a s q : List UInt8) : winP (a ++ s) q ↔ winP a q ∨ winP (endL a ++ s.take 31) q ∨ winP s q := by
  constructor
  · rintro ⟨k, h1, h2⟩
    rw [List.length_append] at h1
    by_cases h3 : k + 32 ≤ a.length
    · left
      refine ⟨k, h3, ?_⟩
      rw [← h2, List.drop_append, List.take_append, show 32 - (List.drop k a).length = 0 by rw [List.length_drop]; omega]
      simp
    · by_cases h4 : a.length ≤ k
      · right; right
        refine ⟨k - a.length, by omega, ?_⟩
        rw [← h2, List.drop_append, List.drop_of_length_le h4, List.nil_append]
      · right; left
        have he : (endL a).length = min 31 a.length := by unfold endL; rw [List.length_drop]; omega
        refine ⟨k - (a.length - 31), by rw [List.length_append, he, List.length_take]; omega, ?_⟩
        rw [← h2, List.drop_append, List.drop_append, show k - a.length = 0 by omega, show k - (a.length - 31) - (endL a).length = 0 by rw [he]; omega, List.drop_zero, List.drop_zero]
        have hd : (endL a).drop (k - (a.length - 31)) = a.drop k := by
          unfold endL
          rw [List.drop_drop, show a.length - 31 + (k - (a.length - 31)) = k by omega]
        rw [hd, List.take_append, List.take_append, List.take_take, List.length_drop, show min (32 - (a.length - k)) 31 = 32 - (a.length - k) by omega]
  · rintro (h | h | h)
    · have := win_in (u := []) (v := s) h
      simpa using this
    · have := win_in (u := a.take (a.length - 31)) (v := s.drop 31) h
      rw [List.append_assoc, ← List.append_assoc (List.take _ a), List.take_append_drop, ← endL_split] at this
      exact this
    · have := win_in (u := a) (v := []) h
      simpa using this
end Go.Proofs.Ytlofoeapfmcolaa
