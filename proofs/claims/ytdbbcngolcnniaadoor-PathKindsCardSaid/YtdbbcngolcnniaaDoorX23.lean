/- Several texts, one behind the other; each says by itself what it proves, and on what conditions. -/
import Derived.Test.YtdbbcngolcnniaaDoorX22
/- PathNames' law: names have letters, digits and few signs, no point ahead, a length that may be. Its conditions: lengths that fit; the tables of sha as its text lays them. -/
namespace Go.Proofs.YtdbbcngolcnniaaDoor
open Go Go.RowKit
set_option linter.unusedVariables false
set_option linter.unusedSimpArgs false
section
open E
abbrev FrG (w : World) (e : Ending) (w' : World) : Prop := e = .returned (.bool true) ∧ Fr w [] w'
theorem nm_row (k : Nat) (hk : 1 ≤ k) : nmP (List.replicate k 110) = decide (k ≤ 211) := by
  unfold nmP
  rw [List.length_replicate, decide_eq_true hk]
  have h1 : (List.replicate k (110 : UInt8)).all fitB = true := by
    rw [List.all_eq_true]
    intro c hc
    rw [(List.mem_replicate.1 hc).2]
    decide
  have h2 : ((List.replicate k (110 : UInt8)).getD 0 0).toNat = 110 := by
    rw [List.getD_eq_getElem?_getD, List.getElem?_replicate, if_pos (by omega)]; rfl
  rw [h1, h2]
  simp
theorem nm_two (c : UInt8) : nmP [97, c] = fitB c := by
  unfold nmP
  simp only [List.all_cons, List.all_nil, Bool.and_true, List.length_cons, List.length_nil]
  have : fitB 97 = true := by decide
  rw [this]
  simp
set_option maxRecDepth 100000 in
theorem names_end (W : World) (ρ : Env) (hG : S3.Glob W) (k : Nat) (hk : k ≤ 1000) (s o : List UInt8) (g : Bool) (hs : s.length ≤ 1000) (hb : nmP s = decide (k ≤ 211)) (ho : nmP o = g) (hol : o.length ≤ 1000) :
    At Tryd.prog W ⟨[], ρ, []⟩ Tryd.f5.ntmps [] (rp Tryd.f5 9) (EndX Tryd.prog Tryd.f5 (FrG W)) [(5, .v (stv s)), (6, .int .i64 (k : Int)), (8, .v (stv o)), (9, .v (.bool g))] [] := by
  have h46 : nmP [46, 97] = false := by decide +kernel
  have h0 : nmP [] = false := by decide +kernel
  have hv : TV.v (.bool (decide (k ≤ 211) == decide ((k : Int) ≤ 211))) = TV.v (.bool true) := tv_b (by
    have : decide ((k : Int) ≤ 211) = decide (k ≤ 211) := by
      rw [decide_eq_decide]; omega
    rw [this]; simp)
  exact At.fin rfl [(10001, hMn s (decide (k ≤ 211))), (2010004, .val (.v (.bool true))), (10007, hMn o g), (2010009, .val (.v (.bool true))), (10012, hMn [46, 97] false), (10016, hMn [] false), (10020, hAw)] ⟨hMn_ok _ _ _ (by omega) hb, trivial, hMn_ok _ _ _ (by omega) ho, trivial, hMn_ok _ _ _ (by decide) h46, hMn_ok _ _ _ (by decide) h0, hAw_ok _ hG (by simp) (by simp), trivial⟩ [] (x := .v (.bool true)) (ob := [qL (hMn s (decide (k ≤ 211))), [TV.v (.bool (decide (k ≤ 211) == decide ((k : Int) ≤ 211))) = TV.v (.bool true)], qL (hMn o g), [TV.v (.bool (g == g)) = TV.v (.bool true)], qL (hMn [46, 97] false), qL (hMn [] false), qL hAw].flatten) (by kernel_rfl) (all_flat ⟨all_qL _, ⟨hv, trivial⟩, all_qL _, ⟨tv_b (by simp), trivial⟩, all_qL _, all_qL _, all_qL _, trivial⟩) fun ρ' w' hf _ => ⟨rfl, hf⟩
set_option maxRecDepth 100000 in
theorem names_good (W : World) (ρ : Env) (hG : S3.Glob W) (k : Nat) (hk : k ≤ 1000) (s o : List UInt8) (c : Nat) (hc : c < 256) (hs : s.length ≤ 1000) (hb : nmP s = decide (k ≤ 211)) (ho : nmP o = fitN c) (hol : o.length ≤ 1000) :
    At Tryd.prog W ⟨[], ρ, []⟩ Tryd.f5.ntmps [] (rp Tryd.f5 8) (EndX Tryd.prog Tryd.f5 (FrG W)) [(0, .int .u8 (c : Int)), (5, .v (stv s)), (6, .int .i64 (k : Int)), (8, .v (stv o))] [] := by
  by_cases c0 : 97 ≤ c ∧ c ≤ 122
  · have hr : fitN c = true := by
      unfold fitN
      simp [*]
      try omega
    exact At.run rfl [(2009001, .val (.v (.bool true))), (2009004, .val (.v (.bool true))), (2010000, .val (.tup []))] ⟨trivial, trivial, trivial, trivial⟩ [] (tm2 := [(5, .v (stv s)), (6, .int .i64 (k : Int)), (8, .v (stv o)), (9, .v (.bool true))]) (rows2 := []) (ob := [TV.v (.bool (decide ((c : Int) ≥ 97))) = TV.v (.bool true), TV.v (.bool (decide ((c : Int) ≤ 122))) = TV.v (.bool true)]) (td := rp Tryd.f5 9) (by kernel_rfl) ⟨tv_b (decide_eq_true (by omega)), tv_b (decide_eq_true (by omega)), trivial⟩ rfl rfl (by intro h; cases h) (names_end W ρ hG k hk s o true hs hb (by rw [ho, hr]) hol)
  by_cases c1 : 122 < c
  · have hr : fitN c = false := by
      unfold fitN
      simp [*]
      try omega
    exact At.run rfl [(2009001, .val (.v (.bool true))), (2009004, .val (.v (.bool false))), (2009008, .val (.v (.bool true))), (2009011, .val (.v (.bool false))), (2009016, .val (.v (.bool true))), (2009019, .val (.v (.bool false))), (2009024, .val (.v (.bool false))), (2009028, .val (.v (.bool false))), (2009032, .val (.v (.bool false))), (2009036, .val (.v (.bool false))), (2009040, .val (.v (.bool false))), (2009044, .val (.v (.bool false))), (2010000, .val (.tup []))] ⟨trivial, trivial, trivial, trivial, trivial, trivial, trivial, trivial, trivial, trivial, trivial, trivial, trivial, trivial⟩ [] (tm2 := [(5, .v (stv s)), (6, .int .i64 (k : Int)), (8, .v (stv o)), (9, .v (.bool false))]) (rows2 := []) (ob := [TV.v (.bool (decide ((c : Int) ≥ 97))) = TV.v (.bool true), TV.v (.bool (decide ((c : Int) ≤ 122))) = TV.v (.bool false), TV.v (.bool (decide ((c : Int) ≥ 65))) = TV.v (.bool true), TV.v (.bool (decide ((c : Int) ≤ 90))) = TV.v (.bool false), TV.v (.bool (decide ((c : Int) ≥ 48))) = TV.v (.bool true), TV.v (.bool (decide ((c : Int) ≤ 57))) = TV.v (.bool false), TV.v (.bool ((c : Int) == 43)) = TV.v (.bool false), TV.v (.bool ((c : Int) == 45)) = TV.v (.bool false), TV.v (.bool ((c : Int) == 46)) = TV.v (.bool false), TV.v (.bool ((c : Int) == 95)) = TV.v (.bool false), TV.v (.bool ((c : Int) == 63)) = TV.v (.bool false), TV.v (.bool ((c : Int) == 61)) = TV.v (.bool false)]) (td := rp Tryd.f5 9) (by kernel_rfl) ⟨tv_b (decide_eq_true (by omega)), tv_b (decide_eq_false (by omega)), tv_b (decide_eq_true (by omega)), tv_b (decide_eq_false (by omega)), tv_b (decide_eq_true (by omega)), tv_b (decide_eq_false (by omega)), tv_b (by simp; omega), tv_b (by simp; omega), tv_b (by simp; omega), tv_b (by simp; omega), tv_b (by simp; omega), tv_b (by simp; omega), trivial⟩ rfl rfl (by intro h; cases h) (names_end W ρ hG k hk s o false hs hb (by rw [ho, hr]) hol)
  by_cases c2 : 65 ≤ c ∧ c ≤ 90
  · have hr : fitN c = true := by
      unfold fitN
      simp [*]
      try omega
    exact At.run rfl [(2009001, .val (.v (.bool false))), (2009008, .val (.v (.bool true))), (2009011, .val (.v (.bool true))), (2010000, .val (.tup []))] ⟨trivial, trivial, trivial, trivial, trivial⟩ [] (tm2 := [(5, .v (stv s)), (6, .int .i64 (k : Int)), (8, .v (stv o)), (9, .v (.bool true))]) (rows2 := []) (ob := [TV.v (.bool (decide ((c : Int) ≥ 97))) = TV.v (.bool false), TV.v (.bool (decide ((c : Int) ≥ 65))) = TV.v (.bool true), TV.v (.bool (decide ((c : Int) ≤ 90))) = TV.v (.bool true)]) (td := rp Tryd.f5 9) (by kernel_rfl) ⟨tv_b (decide_eq_false (by omega)), tv_b (decide_eq_true (by omega)), tv_b (decide_eq_true (by omega)), trivial⟩ rfl rfl (by intro h; cases h) (names_end W ρ hG k hk s o true hs hb (by rw [ho, hr]) hol)
  by_cases c3 : 90 < c
  · by_cases e3 : c = 95
    · skip
      have hr : fitN c = true := by
        unfold fitN
        simp [*]
        try omega
      exact At.run rfl [(2009001, .val (.v (.bool false))), (2009008, .val (.v (.bool true))), (2009011, .val (.v (.bool false))), (2009016, .val (.v (.bool true))), (2009019, .val (.v (.bool false))), (2009024, .val (.v (.bool false))), (2009028, .val (.v (.bool false))), (2009032, .val (.v (.bool false))), (2009036, .val (.v (.bool true))), (2010000, .val (.tup []))] ⟨trivial, trivial, trivial, trivial, trivial, trivial, trivial, trivial, trivial, trivial, trivial⟩ [] (tm2 := [(5, .v (stv s)), (6, .int .i64 (k : Int)), (8, .v (stv o)), (9, .v (.bool true))]) (rows2 := []) (ob := [TV.v (.bool (decide ((c : Int) ≥ 97))) = TV.v (.bool false), TV.v (.bool (decide ((c : Int) ≥ 65))) = TV.v (.bool true), TV.v (.bool (decide ((c : Int) ≤ 90))) = TV.v (.bool false), TV.v (.bool (decide ((c : Int) ≥ 48))) = TV.v (.bool true), TV.v (.bool (decide ((c : Int) ≤ 57))) = TV.v (.bool false), TV.v (.bool ((c : Int) == 43)) = TV.v (.bool false), TV.v (.bool ((c : Int) == 45)) = TV.v (.bool false), TV.v (.bool ((c : Int) == 46)) = TV.v (.bool false), TV.v (.bool ((c : Int) == 95)) = TV.v (.bool true)]) (td := rp Tryd.f5 9) (by kernel_rfl) ⟨tv_b (decide_eq_false (by omega)), tv_b (decide_eq_true (by omega)), tv_b (decide_eq_false (by omega)), tv_b (decide_eq_true (by omega)), tv_b (decide_eq_false (by omega)), tv_b (by simp; omega), tv_b (by simp; omega), tv_b (by simp; omega), tv_b (by simp; omega), trivial⟩ rfl rfl (by intro h; cases h) (names_end W ρ hG k hk s o true hs hb (by rw [ho, hr]) hol)
    have hr : fitN c = false := by
      unfold fitN
      simp [*]
      try omega
    exact At.run rfl [(2009001, .val (.v (.bool false))), (2009008, .val (.v (.bool true))), (2009011, .val (.v (.bool false))), (2009016, .val (.v (.bool true))), (2009019, .val (.v (.bool false))), (2009024, .val (.v (.bool false))), (2009028, .val (.v (.bool false))), (2009032, .val (.v (.bool false))), (2009036, .val (.v (.bool false))), (2009040, .val (.v (.bool false))), (2009044, .val (.v (.bool false))), (2010000, .val (.tup []))] ⟨trivial, trivial, trivial, trivial, trivial, trivial, trivial, trivial, trivial, trivial, trivial, trivial, trivial⟩ [] (tm2 := [(5, .v (stv s)), (6, .int .i64 (k : Int)), (8, .v (stv o)), (9, .v (.bool false))]) (rows2 := []) (ob := [TV.v (.bool (decide ((c : Int) ≥ 97))) = TV.v (.bool false), TV.v (.bool (decide ((c : Int) ≥ 65))) = TV.v (.bool true), TV.v (.bool (decide ((c : Int) ≤ 90))) = TV.v (.bool false), TV.v (.bool (decide ((c : Int) ≥ 48))) = TV.v (.bool true), TV.v (.bool (decide ((c : Int) ≤ 57))) = TV.v (.bool false), TV.v (.bool ((c : Int) == 43)) = TV.v (.bool false), TV.v (.bool ((c : Int) == 45)) = TV.v (.bool false), TV.v (.bool ((c : Int) == 46)) = TV.v (.bool false), TV.v (.bool ((c : Int) == 95)) = TV.v (.bool false), TV.v (.bool ((c : Int) == 63)) = TV.v (.bool false), TV.v (.bool ((c : Int) == 61)) = TV.v (.bool false)]) (td := rp Tryd.f5 9) (by kernel_rfl) ⟨tv_b (decide_eq_false (by omega)), tv_b (decide_eq_true (by omega)), tv_b (decide_eq_false (by omega)), tv_b (decide_eq_true (by omega)), tv_b (decide_eq_false (by omega)), tv_b (by simp; omega), tv_b (by simp; omega), tv_b (by simp; omega), tv_b (by simp; omega), tv_b (by simp; omega), tv_b (by simp; omega), trivial⟩ rfl rfl (by intro h; cases h) (names_end W ρ hG k hk s o false hs hb (by rw [ho, hr]) hol)
  by_cases c4 : 48 ≤ c ∧ c ≤ 57
  · have hr : fitN c = true := by
      unfold fitN
      simp [*]
      try omega
    exact At.run rfl [(2009001, .val (.v (.bool false))), (2009008, .val (.v (.bool false))), (2009016, .val (.v (.bool true))), (2009019, .val (.v (.bool true))), (2010000, .val (.tup []))] ⟨trivial, trivial, trivial, trivial, trivial, trivial⟩ [] (tm2 := [(5, .v (stv s)), (6, .int .i64 (k : Int)), (8, .v (stv o)), (9, .v (.bool true))]) (rows2 := []) (ob := [TV.v (.bool (decide ((c : Int) ≥ 97))) = TV.v (.bool false), TV.v (.bool (decide ((c : Int) ≥ 65))) = TV.v (.bool false), TV.v (.bool (decide ((c : Int) ≥ 48))) = TV.v (.bool true), TV.v (.bool (decide ((c : Int) ≤ 57))) = TV.v (.bool true)]) (td := rp Tryd.f5 9) (by kernel_rfl) ⟨tv_b (decide_eq_false (by omega)), tv_b (decide_eq_false (by omega)), tv_b (decide_eq_true (by omega)), tv_b (decide_eq_true (by omega)), trivial⟩ rfl rfl (by intro h; cases h) (names_end W ρ hG k hk s o true hs hb (by rw [ho, hr]) hol)
  by_cases c5 : 57 < c
  · by_cases e4 : c = 63
    · skip
      have hr : fitN c = true := by
        unfold fitN
        simp [*]
        try omega
      exact At.run rfl [(2009001, .val (.v (.bool false))), (2009008, .val (.v (.bool false))), (2009016, .val (.v (.bool true))), (2009019, .val (.v (.bool false))), (2009024, .val (.v (.bool false))), (2009028, .val (.v (.bool false))), (2009032, .val (.v (.bool false))), (2009036, .val (.v (.bool false))), (2009040, .val (.v (.bool true))), (2010000, .val (.tup []))] ⟨trivial, trivial, trivial, trivial, trivial, trivial, trivial, trivial, trivial, trivial, trivial⟩ [] (tm2 := [(5, .v (stv s)), (6, .int .i64 (k : Int)), (8, .v (stv o)), (9, .v (.bool true))]) (rows2 := []) (ob := [TV.v (.bool (decide ((c : Int) ≥ 97))) = TV.v (.bool false), TV.v (.bool (decide ((c : Int) ≥ 65))) = TV.v (.bool false), TV.v (.bool (decide ((c : Int) ≥ 48))) = TV.v (.bool true), TV.v (.bool (decide ((c : Int) ≤ 57))) = TV.v (.bool false), TV.v (.bool ((c : Int) == 43)) = TV.v (.bool false), TV.v (.bool ((c : Int) == 45)) = TV.v (.bool false), TV.v (.bool ((c : Int) == 46)) = TV.v (.bool false), TV.v (.bool ((c : Int) == 95)) = TV.v (.bool false), TV.v (.bool ((c : Int) == 63)) = TV.v (.bool true)]) (td := rp Tryd.f5 9) (by kernel_rfl) ⟨tv_b (decide_eq_false (by omega)), tv_b (decide_eq_false (by omega)), tv_b (decide_eq_true (by omega)), tv_b (decide_eq_false (by omega)), tv_b (by simp; omega), tv_b (by simp; omega), tv_b (by simp; omega), tv_b (by simp; omega), tv_b (by simp; omega), trivial⟩ rfl rfl (by intro h; cases h) (names_end W ρ hG k hk s o true hs hb (by rw [ho, hr]) hol)
    by_cases e5 : c = 61
    · skip
      have hr : fitN c = true := by
        unfold fitN
        simp [*]
        try omega
      exact At.run rfl [(2009001, .val (.v (.bool false))), (2009008, .val (.v (.bool false))), (2009016, .val (.v (.bool true))), (2009019, .val (.v (.bool false))), (2009024, .val (.v (.bool false))), (2009028, .val (.v (.bool false))), (2009032, .val (.v (.bool false))), (2009036, .val (.v (.bool false))), (2009040, .val (.v (.bool false))), (2009044, .val (.v (.bool true))), (2010000, .val (.tup []))] ⟨trivial, trivial, trivial, trivial, trivial, trivial, trivial, trivial, trivial, trivial, trivial, trivial⟩ [] (tm2 := [(5, .v (stv s)), (6, .int .i64 (k : Int)), (8, .v (stv o)), (9, .v (.bool true))]) (rows2 := []) (ob := [TV.v (.bool (decide ((c : Int) ≥ 97))) = TV.v (.bool false), TV.v (.bool (decide ((c : Int) ≥ 65))) = TV.v (.bool false), TV.v (.bool (decide ((c : Int) ≥ 48))) = TV.v (.bool true), TV.v (.bool (decide ((c : Int) ≤ 57))) = TV.v (.bool false), TV.v (.bool ((c : Int) == 43)) = TV.v (.bool false), TV.v (.bool ((c : Int) == 45)) = TV.v (.bool false), TV.v (.bool ((c : Int) == 46)) = TV.v (.bool false), TV.v (.bool ((c : Int) == 95)) = TV.v (.bool false), TV.v (.bool ((c : Int) == 63)) = TV.v (.bool false), TV.v (.bool ((c : Int) == 61)) = TV.v (.bool true)]) (td := rp Tryd.f5 9) (by kernel_rfl) ⟨tv_b (decide_eq_false (by omega)), tv_b (decide_eq_false (by omega)), tv_b (decide_eq_true (by omega)), tv_b (decide_eq_false (by omega)), tv_b (by simp; omega), tv_b (by simp; omega), tv_b (by simp; omega), tv_b (by simp; omega), tv_b (by simp; omega), tv_b (by simp; omega), trivial⟩ rfl rfl (by intro h; cases h) (names_end W ρ hG k hk s o true hs hb (by rw [ho, hr]) hol)
    have hr : fitN c = false := by
      unfold fitN
      simp [*]
      try omega
    exact At.run rfl [(2009001, .val (.v (.bool false))), (2009008, .val (.v (.bool false))), (2009016, .val (.v (.bool true))), (2009019, .val (.v (.bool false))), (2009024, .val (.v (.bool false))), (2009028, .val (.v (.bool false))), (2009032, .val (.v (.bool false))), (2009036, .val (.v (.bool false))), (2009040, .val (.v (.bool false))), (2009044, .val (.v (.bool false))), (2010000, .val (.tup []))] ⟨trivial, trivial, trivial, trivial, trivial, trivial, trivial, trivial, trivial, trivial, trivial, trivial⟩ [] (tm2 := [(5, .v (stv s)), (6, .int .i64 (k : Int)), (8, .v (stv o)), (9, .v (.bool false))]) (rows2 := []) (ob := [TV.v (.bool (decide ((c : Int) ≥ 97))) = TV.v (.bool false), TV.v (.bool (decide ((c : Int) ≥ 65))) = TV.v (.bool false), TV.v (.bool (decide ((c : Int) ≥ 48))) = TV.v (.bool true), TV.v (.bool (decide ((c : Int) ≤ 57))) = TV.v (.bool false), TV.v (.bool ((c : Int) == 43)) = TV.v (.bool false), TV.v (.bool ((c : Int) == 45)) = TV.v (.bool false), TV.v (.bool ((c : Int) == 46)) = TV.v (.bool false), TV.v (.bool ((c : Int) == 95)) = TV.v (.bool false), TV.v (.bool ((c : Int) == 63)) = TV.v (.bool false), TV.v (.bool ((c : Int) == 61)) = TV.v (.bool false)]) (td := rp Tryd.f5 9) (by kernel_rfl) ⟨tv_b (decide_eq_false (by omega)), tv_b (decide_eq_false (by omega)), tv_b (decide_eq_true (by omega)), tv_b (decide_eq_false (by omega)), tv_b (by simp; omega), tv_b (by simp; omega), tv_b (by simp; omega), tv_b (by simp; omega), tv_b (by simp; omega), tv_b (by simp; omega), trivial⟩ rfl rfl (by intro h; cases h) (names_end W ρ hG k hk s o false hs hb (by rw [ho, hr]) hol)
  by_cases e0 : c = 43
  · skip
    have hr : fitN c = true := by
      unfold fitN
      simp [*]
      try omega
    exact At.run rfl [(2009001, .val (.v (.bool false))), (2009008, .val (.v (.bool false))), (2009016, .val (.v (.bool false))), (2009024, .val (.v (.bool true))), (2010000, .val (.tup []))] ⟨trivial, trivial, trivial, trivial, trivial, trivial⟩ [] (tm2 := [(5, .v (stv s)), (6, .int .i64 (k : Int)), (8, .v (stv o)), (9, .v (.bool true))]) (rows2 := []) (ob := [TV.v (.bool (decide ((c : Int) ≥ 97))) = TV.v (.bool false), TV.v (.bool (decide ((c : Int) ≥ 65))) = TV.v (.bool false), TV.v (.bool (decide ((c : Int) ≥ 48))) = TV.v (.bool false), TV.v (.bool ((c : Int) == 43)) = TV.v (.bool true)]) (td := rp Tryd.f5 9) (by kernel_rfl) ⟨tv_b (decide_eq_false (by omega)), tv_b (decide_eq_false (by omega)), tv_b (decide_eq_false (by omega)), tv_b (by simp; omega), trivial⟩ rfl rfl (by intro h; cases h) (names_end W ρ hG k hk s o true hs hb (by rw [ho, hr]) hol)
  by_cases e1 : c = 45
  · skip
    have hr : fitN c = true := by
      unfold fitN
      simp [*]
      try omega
    exact At.run rfl [(2009001, .val (.v (.bool false))), (2009008, .val (.v (.bool false))), (2009016, .val (.v (.bool false))), (2009024, .val (.v (.bool false))), (2009028, .val (.v (.bool true))), (2010000, .val (.tup []))] ⟨trivial, trivial, trivial, trivial, trivial, trivial, trivial⟩ [] (tm2 := [(5, .v (stv s)), (6, .int .i64 (k : Int)), (8, .v (stv o)), (9, .v (.bool true))]) (rows2 := []) (ob := [TV.v (.bool (decide ((c : Int) ≥ 97))) = TV.v (.bool false), TV.v (.bool (decide ((c : Int) ≥ 65))) = TV.v (.bool false), TV.v (.bool (decide ((c : Int) ≥ 48))) = TV.v (.bool false), TV.v (.bool ((c : Int) == 43)) = TV.v (.bool false), TV.v (.bool ((c : Int) == 45)) = TV.v (.bool true)]) (td := rp Tryd.f5 9) (by kernel_rfl) ⟨tv_b (decide_eq_false (by omega)), tv_b (decide_eq_false (by omega)), tv_b (decide_eq_false (by omega)), tv_b (by simp; omega), tv_b (by simp; omega), trivial⟩ rfl rfl (by intro h; cases h) (names_end W ρ hG k hk s o true hs hb (by rw [ho, hr]) hol)
  by_cases e2 : c = 46
  · skip
    have hr : fitN c = true := by
      unfold fitN
      simp [*]
      try omega
    exact At.run rfl [(2009001, .val (.v (.bool false))), (2009008, .val (.v (.bool false))), (2009016, .val (.v (.bool false))), (2009024, .val (.v (.bool false))), (2009028, .val (.v (.bool false))), (2009032, .val (.v (.bool true))), (2010000, .val (.tup []))] ⟨trivial, trivial, trivial, trivial, trivial, trivial, trivial, trivial⟩ [] (tm2 := [(5, .v (stv s)), (6, .int .i64 (k : Int)), (8, .v (stv o)), (9, .v (.bool true))]) (rows2 := []) (ob := [TV.v (.bool (decide ((c : Int) ≥ 97))) = TV.v (.bool false), TV.v (.bool (decide ((c : Int) ≥ 65))) = TV.v (.bool false), TV.v (.bool (decide ((c : Int) ≥ 48))) = TV.v (.bool false), TV.v (.bool ((c : Int) == 43)) = TV.v (.bool false), TV.v (.bool ((c : Int) == 45)) = TV.v (.bool false), TV.v (.bool ((c : Int) == 46)) = TV.v (.bool true)]) (td := rp Tryd.f5 9) (by kernel_rfl) ⟨tv_b (decide_eq_false (by omega)), tv_b (decide_eq_false (by omega)), tv_b (decide_eq_false (by omega)), tv_b (by simp; omega), tv_b (by simp; omega), tv_b (by simp; omega), trivial⟩ rfl rfl (by intro h; cases h) (names_end W ρ hG k hk s o true hs hb (by rw [ho, hr]) hol)
  have hr : fitN c = false := by
    unfold fitN
    simp [*]
    try omega
  exact At.run rfl [(2009001, .val (.v (.bool false))), (2009008, .val (.v (.bool false))), (2009016, .val (.v (.bool false))), (2009024, .val (.v (.bool false))), (2009028, .val (.v (.bool false))), (2009032, .val (.v (.bool false))), (2009036, .val (.v (.bool false))), (2009040, .val (.v (.bool false))), (2009044, .val (.v (.bool false))), (2010000, .val (.tup []))] ⟨trivial, trivial, trivial, trivial, trivial, trivial, trivial, trivial, trivial, trivial, trivial⟩ [] (tm2 := [(5, .v (stv s)), (6, .int .i64 (k : Int)), (8, .v (stv o)), (9, .v (.bool false))]) (rows2 := []) (ob := [TV.v (.bool (decide ((c : Int) ≥ 97))) = TV.v (.bool false), TV.v (.bool (decide ((c : Int) ≥ 65))) = TV.v (.bool false), TV.v (.bool (decide ((c : Int) ≥ 48))) = TV.v (.bool false), TV.v (.bool ((c : Int) == 43)) = TV.v (.bool false), TV.v (.bool ((c : Int) == 45)) = TV.v (.bool false), TV.v (.bool ((c : Int) == 46)) = TV.v (.bool false), TV.v (.bool ((c : Int) == 95)) = TV.v (.bool false), TV.v (.bool ((c : Int) == 63)) = TV.v (.bool false), TV.v (.bool ((c : Int) == 61)) = TV.v (.bool false)]) (td := rp Tryd.f5 9) (by kernel_rfl) ⟨tv_b (decide_eq_false (by omega)), tv_b (decide_eq_false (by omega)), tv_b (decide_eq_false (by omega)), tv_b (by simp; omega), tv_b (by simp; omega), tv_b (by simp; omega), tv_b (by simp; omega), tv_b (by simp; omega), tv_b (by simp; omega), trivial⟩ rfl rfl (by intro h; cases h) (names_end W ρ hG k hk s o false hs hb (by rw [ho, hr]) hol)
set_option maxRecDepth 100000 in
theorem names_any (c n : Nat) (hc : c < 256) (hn : n < 256) (W : World) (hG : S3.Glob W) : Calls Tryd.prog 5 #[.int .u8 (c : Int), .int .u8 (n : Int)] W (FrG W) := by
  refine At.calls (args := [.int .u8 (c : Int), .int .u8 (n : Int)]) (rows := []) (gl := []) (wr := []) (ρ := fun _ => (⟨0, 0, 0⟩ : Blk)) Tryd.func5 rfl rfl (init_rw ⟨rfl, rfl, trivial⟩ rfl rfl rfl (fun p hp => by cases hp) (fun p hp => by cases hp) (fun p hp => by cases hp)) rfl ?_
  obtain ⟨k, hk⟩ : ∃ k, k = n % 215 := ⟨_, rfl⟩
  have hk2 : k < 215 := by rw [hk]; exact Nat.mod_lt _ (by decide)
  have hkv : TV.int .i64 ((n : Int) % 215) = TV.int .i64 (k : Int) := tv_int (by rw [hk]; simp)
  obtain ⟨K, hK⟩ : ∃ K, K = 1 + k := ⟨_, rfl⟩
  have hloop : ∀ i : Nat, i ≤ K → At Tryd.prog W nB Tryd.f5.ntmps [] (lp Tryd.f5 0) (EndX Tryd.prog Tryd.f5 (FrG W)) [(0, .int .u8 (c : Int)), (5, .v (stv (List.replicate i 110))), (6, .int .i64 (K : Int)), (7, .int .i64 (i : Int))] [] := by
    refine At.loop (fun i : Nat => [(0, .int .u8 (c : Int)), (5, .v (stv (List.replicate i 110))), (6, .int .i64 (K : Int)), (7, .int .i64 (i : Int))]) (fun _ => []) (fun i => i ≤ K) (fun i => K - i) fun i hi ih => ?_
    by_cases h : i < K
    · have h9 := ih (i + 1) h (by show K - (i + 1) < K - i; omega)
      have hv : TV.v (stv (List.replicate i 110 ++ [110])) = TV.v (stv (List.replicate (i + 1) 110)) := tv_str (by rw [List.replicate_succ'])
      obtain ⟨s, hs⟩ : ∃ s, s = List.replicate i (110 : UInt8) := ⟨_, rfl⟩
      have hsl : s.length = i := by rw [hs, List.length_replicate]
      obtain ⟨s2, hs2⟩ : ∃ s2, s2 = List.replicate (i + 1) (110 : UInt8) := ⟨_, rfl⟩
      rw [← hs, ← hs2] at hv
      rw [← hs2] at h9
      rw [← hs]
      exact At.run rfl [(2007001, .val (.v (stv s2)))] ⟨trivial, trivial⟩ [.y] (tm2 := [(0, .int .u8 (c : Int)), (5, .v (stv s2)), (6, .int .i64 (K : Int)), (7, .int .i64 ((i + 1 : Nat) : Int))]) (rows2 := []) (ob := [decide ((i : Int) < (K : Int)) = true, TV.v (stv (s ++ [110])) = TV.v (stv s2), (s.length : Int) + ((1 : Nat) : Int) ≤ 9223372036854775807, inI ((i : Int) + 1)]) (td := lp Tryd.f5 0) (by kernel_rfl) ⟨decide_eq_true (by omega), hv, by omega, ⟨by omega, by omega⟩, trivial⟩ rfl rfl (by intro h; cases h) h9
    · obtain rfl : i = K := by omega
      have hb := nm_row i (by omega)
      obtain ⟨s, hs⟩ : ∃ s, s = List.replicate i (110 : UInt8) := ⟨_, rfl⟩
      have hsl : s.length = i := by rw [hs, List.length_replicate]
      rw [← hs] at hb ⊢
      obtain ⟨o, ho⟩ : ∃ o : List UInt8, o = [97, UInt8.ofNat c] := ⟨_, rfl⟩
      have hon : nmP o = fitN c := by
        rw [ho, nm_two]
        unfold fitB
        rw [UInt8.toNat_ofNat_of_lt' (by omega)]
      have hch : ∀ q, q < 1 → ∃ d : UInt8, chunkF [.int .u8 (c : Int)] 1 1 (addN 0 q) = [.int .u8 (d.toNat : Int)] := fun q _ => ⟨UInt8.ofNat c, by rw [UInt8.toNat_ofNat_of_lt' (by omega)]; rfl⟩
      have hov : TV.v (stv ([97] ++ (List.range 1).map fun q => ubyte (chunkF [.int .u8 (c : Int)] 1 1 (addN 0 q)))) = TV.v (stv o) := tv_str (by rw [ho]; rfl)
      exact At.run rfl [(2008003, .val (.v (stv o))), (2009000, .val (.tup []))] ⟨trivial, trivial, trivial⟩ [.n] (tm2 := [(0, .int .u8 (c : Int)), (5, .v (stv s)), (6, .int .i64 (i : Int)), (8, .v (stv o))]) (rows2 := []) (ob := [decide ((i : Int) < (i : Int)) = false, 1 ≤ 1, ∀ q, q < 1 → ∃ d : UInt8, chunkF [.int .u8 (c : Int)] 1 1 (addN 0 q) = [.int .u8 (d.toNat : Int)], TV.v (stv ([97] ++ (List.range 1).map fun q => ubyte (chunkF [.int .u8 (c : Int)] 1 1 (addN 0 q)))) = TV.v (stv o), ((1 : Nat) : Int) + ((((List.range 1).map fun q => ubyte (chunkF [.int .u8 (c : Int)] 1 1 (addN 0 q))).length : Nat) : Int) ≤ 9223372036854775807]) (td := rp Tryd.f5 8) (by kernel_rfl) ⟨decide_eq_false (by omega), by decide, hch, hov, by simp, trivial⟩ rfl rfl (by intro h; cases h) (names_good W _ hG i (by omega) s o c hc (by omega) hb hon (by rw [ho]; show 2 ≤ _; decide))
  rw [hK] at hloop
  exact At.run rfl [(2003002, .val (.int .i64 (k : Int)))] ⟨trivial, trivial⟩ [] (tm2 := [(0, .int .u8 (c : Int)), (5, .v (stv [])), (6, .int .i64 ((1 + k : Nat) : Int)), (7, .int .i64 ((0 : Nat) : Int))]) (rows2 := []) (ob := [IntKind.i64.wrap (n : Int) = (n : Int), TV.int .i64 ((n : Int) % 215) = TV.int .i64 (k : Int), 0 ≤ (n : Int) ∧ (0 : Int) < 215, inI (1 + (k : Int))]) (td := lp Tryd.f5 0) (by kernel_rfl) ⟨w64 ⟨by omega, by omega⟩, hkv, ⟨by omega, by decide⟩, ⟨by omega, by omega⟩, trivial⟩ rfl rfl (by intro h; cases h) (hloop 0 (Nat.zero_le _))
theorem names_all (W : World) (c n : Int) (hc : 0 ≤ c ∧ c < 256) (hn : 0 ≤ n ∧ n < 256) (hG : S3.Glob W) : Calls Tryd.prog 5 #[.int .u8 c, .int .u8 n] W (FrG W) := by
  obtain ⟨c, rfl⟩ := Int.eq_ofNat_of_zero_le hc.1
  obtain ⟨n, rfl⟩ := Int.eq_ofNat_of_zero_le hn.1
  have := hc.2
  have := hn.2
  exact names_any c n (by omega) (by omega) W hG
end
end Go.Proofs.YtdbbcngolcnniaaDoor
/- PathForms' law: paths out of form have no parse. Its conditions: lengths that fit; the tables of sha as its text lays them. -/
namespace Go.Proofs.YtdbbcngolcnniaaDoor
open Go Go.RowKit
set_option linter.unusedVariables false
set_option linter.unusedSimpArgs false
section
open E
theorem ent6 : Enters Tryd.prog 6 := enters_of Tryd.func6 (by kernel_rfl) rfl
theorem parse_dir (R : List UInt8) : parseR (dirL ++ R) = if decide (32 ≤ R.length) && (preP (R.drop 32) [45] && (mayP (R.take 32) && nmP ((R.drop 32).drop 1))) then some (R.take 32, (R.drop 32).drop 1) else none := by
  have h1 : preP (dirL ++ R) dirL = true := by
    unfold preP
    rw [Bool.and_eq_true]
    exact ⟨decide_eq_true (by rw [List.length_append]; omega), by rw [List.take_left]; exact BEq.rfl⟩
  unfold parseR
  rw [h1, show (dirL ++ R).drop 11 = R from rfl, Bool.true_and]
theorem pre_head {c d : UInt8} {r p : List UInt8} (h : c ≠ d) : preP (c :: r) (d :: p) = false := by
  unfold preP
  rw [show (c :: r).take (d :: p).length = c :: r.take p.length from rfl]
  have : (c :: r.take p.length == d :: p) = false := by
    rw [beq_eq_false_iff_ne]
    intro e
    exact h (List.cons.inj e).1
  rw [this, Bool.and_false]
theorem may_no {q : List UInt8} {c : UInt8} (h : c ∈ q) (hc : letL.contains c = false) : mayP q = false := by
  cases hm : mayP q with
  | false => rfl
  | true =>
    unfold mayP at hm
    rw [Bool.and_eq_true, List.all_eq_true] at hm
    rw [hm.2 c h] at hc; cases hc
theorem nm_no {q : List UInt8} {c : UInt8} (h : c ∈ q) (hc : fitB c = false) : nmP q = false := by
  unfold nmP
  have : q.all fitB = false := by
    rw [List.all_eq_false]
    exact ⟨c, h, by rw [hc]; simp⟩
  rw [this, Bool.and_false]
section
variable {P N : List UInt8}
abbrev ppL (P N : List UInt8) : List UInt8 := dirL ++ (P ++ (45 :: N))
theorem bad1 : parseR ((ppL P N).drop 1) = none := by
  unfold parseR
  rw [show (ppL P N).drop 1 = 110 :: ((ppL P N).drop 2) from rfl, pre_head (by decide)]; rfl
theorem bad2 : parseR ([47, 110, 105, 120, 47, 115, 116, 111, 114, 101, 115] ++ (ppL P N).drop 10) = none := by
  unfold parseR
  have : preP ([47, 110, 105, 120, 47, 115, 116, 111, 114, 101, 115] ++ (ppL P N).drop 10) dirL = false := by
    unfold preP
    rw [show (([47, 110, 105, 120, 47, 115, 116, 111, 114, 101, 115] : List UInt8) ++ (ppL P N).drop 10).take dirL.length = [47, 110, 105, 120, 47, 115, 116, 111, 114, 101, 115] from rfl, show (([47, 110, 105, 120, 47, 115, 116, 111, 114, 101, 115] : List UInt8) == dirL) = false by decide, Bool.and_false]
  rw [this]; rfl
theorem bad3 (hP : P.length = 32) : parseR ((ppL P N).take 43) = none := by
  have e : (ppL P N).take 43 = dirL ++ P := by
    show dirL ++ (P ++ (45 :: N)).take 32 = _
    rw [← hP, List.take_left]
  rw [e, parse_dir, List.drop_of_length_le (by omega)]
  rw [show preP ([] : List UInt8) [45] = false by decide]; simp
theorem bad4 (hP : P.length = 32) : parseR ((ppL P N).take 42) = none := by
  have e : (ppL P N).take 42 = dirL ++ (P ++ (45 :: N)).take 31 := rfl
  rw [e, parse_dir, decide_eq_false (by rw [List.length_take]; omega)]; rfl
theorem bad5 (hP : P.length = 32) : parseR ((ppL P N).take 11 ++ [101] ++ (ppL P N).drop 12) = none := by
  have e : (ppL P N).take 11 ++ [101] ++ (ppL P N).drop 12 = dirL ++ (101 :: (P ++ (45 :: N)).drop 1) := rfl
  rw [e, parse_dir, may_no (c := 101) (by rw [show (32 : Nat) = 31 + 1 from rfl, List.take_succ_cons]; exact List.mem_cons_self ..) (by decide +kernel)]; simp
theorem bad6 (hP : P.length = 32) : parseR ((ppL P N).take 43 ++ [95] ++ (ppL P N).drop 44) = none := by
  have e : (ppL P N).take 43 ++ [95] ++ (ppL P N).drop 44 = dirL ++ (P ++ (95 :: N)) := by
    show dirL ++ (P ++ (45 :: N)).take 32 ++ [95] ++ (P ++ (45 :: N)).drop 33 = _
    have h1 : (P ++ (45 :: N)).take 32 = P := by rw [← hP, List.take_left]
    have h2 : (P ++ (45 :: N)).drop 33 = N := by rw [List.drop_append, List.drop_of_length_le (by omega), hP]; rfl
    rw [h1, h2]
    simp [List.append_assoc]
  have h : (P ++ (95 :: N)).drop 32 = 95 :: N := by rw [← hP, List.drop_left]
  rw [e, parse_dir, h, pre_head (by decide)]; simp
theorem bad7 (hP : P.length = 32) : parseR (ppL P N ++ [47, 120]) = none := by
  have e : ppL P N ++ [47, 120] = dirL ++ (P ++ (45 :: (N ++ [47, 120]))) := by simp [ppL, List.append_assoc]
  have h : (P ++ (45 :: (N ++ [47, 120]))).drop 32 = 45 :: (N ++ [47, 120]) := by rw [← hP, List.drop_left]
  rw [e, parse_dir, h, show (45 :: (N ++ [47, 120])).drop 1 = N ++ [47, 120] from rfl, nm_no (c := 47) (by simp) (by decide)]; simp
theorem bad8 (hP : P.length = 32) : parseR ((ppL P N).take 44 ++ [46, 120]) = none := by
  have e : (ppL P N).take 44 ++ [46, 120] = dirL ++ (P ++ (45 :: [46, 120])) := by
    show dirL ++ (P ++ (45 :: N)).take 33 ++ [46, 120] = _
    have h1 : (P ++ (45 :: N)).take 33 = P ++ [45] := by rw [List.take_append, List.take_of_length_le (by omega), hP]; rfl
    rw [h1]
    simp [List.append_assoc]
  have h : (P ++ (45 :: [46, 120])).drop 32 = [45, 46, 120] := by rw [← hP, List.drop_left]
  rw [e, parse_dir, h, show nmP (([45, 46, 120] : List UInt8).drop 1) = false by decide +kernel]; simp
theorem bad9 (hP : P.length = 32) : parseR ((ppL P N).take 11 ++ (ppL P N).drop 12) = none := by
  have e : (ppL P N).take 11 ++ (ppL P N).drop 12 = dirL ++ (P ++ (45 :: N)).drop 1 := rfl
  have h1 : (P ++ (45 :: N)).drop 1 = P.drop 1 ++ (45 :: N) := by rw [List.drop_append, show 1 - P.length = 0 by omega]; rfl
  rw [e, parse_dir, may_no (c := 45) (by
    rw [h1, List.take_append, List.length_drop, hP]
    refine List.mem_append.2 (.inr ?_)
    exact List.mem_cons_self ..) (by decide +kernel)]; simp
end
abbrev strF (ps : List (List UInt8)) : Nat → List Value := fun q => [stv (ps.getD q [])]
theorem path_pp (a m : Nat) : pathL a m = ppL (partL a) (nm5 (m % 5)) := by unfold pathL ppL; rw [List.append_assoc, List.append_assoc]; rfl
abbrev foT (h p q n : List UInt8) (i : Int) : List (Nat × TV) := [(2, .v (stv h)), (7, .v (stv p)), (8, .v (stv q)), (9, .v (stv n)), (10, .v (.bool true)), (11, .s (.lf (.sl 4031 0 0 1 10 none))), (12, .int .i64 i)]
abbrev foR (B : List (List UInt8)) : List (Nat × Row) := [(4031, ⟨[.fnc (strF B) 1 10], true, some (9, 1)⟩)]
set_option maxRecDepth 100000 in
theorem forms_loop (W : World) (ρ : Env) (hG : S3.Glob W) (h p q n : List UInt8) (hh : h.length ≤ 9223372036854775807) (hq : q.length = 32) (hn : n.length ≤ 1000) (hp : p = dirL ++ q ++ [45] ++ n) (B : List (List UInt8)) (hB : B.length = 10) (hBn : ∀ x ∈ B, parseR x = none ∧ x.length ≤ 1000) :
    At Tryd.prog W ⟨[], ρ, []⟩ Tryd.f6.ntmps [] (lp Tryd.f6 0) (EndX Tryd.prog Tryd.f6 (FrG W)) (foT h p q n ((0 : Nat) : Int)) (foR B) := by
  refine At.loop (fun i : Nat => foT h p q n (i : Int)) (fun _ => foR B) (fun i => i ≤ 10) (fun i => 10 - i) (fun i hi ih => ?_) 0 (Nat.zero_le _)
  by_cases hlt : i < 10
  · obtain ⟨x, hx⟩ : ∃ x, x = B.getD i [] := ⟨_, rfl⟩
    have hxm : x ∈ B := by rw [hx, List.getD_eq_getElem?_getD, List.getElem?_eq_getElem (by omega)]; exact List.getElem_mem _
    obtain ⟨h1, h2⟩ := hBn x hxm
    have hv : TV.v (stv (B.getD (addN 0 (i : Int).toNat) [])) = TV.v (stv x) := by rw [hx, addN_eq, Nat.zero_add, Int.toNat_natCast]
    exact At.run rfl [(2008003, .val (.v (stv x))), (8004, hPa x none), (2009001, .val (.v (.bool false)))] ⟨trivial, hPa_ok _ _ _ (by omega) h1, trivial, trivial⟩ [.y, .d] (tm2 := foT h p q n ((i + 1 : Nat) : Int)) (rows2 := foR B) (ob := [[decide ((i : Int) < ((10 : Nat) : Int)) = true, 0 ≤ (i : Int) ∧ (i : Int) < ((10 : Nat) : Int), TV.v (stv (B.getD (addN 0 (i : Int).toNat) [])) = TV.v (stv x), addN 0 (i : Int).toNat < 10], qL (hPa x none), [TV.v (.bool false) = TV.v (.bool false), ((0 : Nat) : Int) + ((0 : Nat) : Int) ≤ 9223372036854775807, inI ((i : Int) + 1)]].flatten) (td := lp Tryd.f6 0) (by kernel_rfl) (all_flat ⟨⟨decide_eq_true (by omega), ⟨by omega, by omega⟩, hv, by rw [addN_eq]; omega, trivial⟩, all_qL _, ⟨rfl, by decide, ⟨by omega, by omega⟩, trivial⟩, trivial⟩) rfl rfl (by intro h; cases h) (ih (i + 1) hlt (by show 10 - (i + 1) < 10 - i; omega))
  · obtain rfl : i = 10 := by omega
    have kS : HintOk Tryd.prog 11001 (pc 17 #[stv h] (.v (stv (seedL h)))) := hSe_ok 11001 h hh
    have kS2 : HintOk Tryd.prog 12001 (pc 17 #[stv h] (.v (stv (seedL h)))) := hSe_ok 12001 h hh
    have hsl := seedL_len h
    generalize seedL h = s at kS kS2 hsl
    obtain ⟨s31, hs31⟩ : ∃ t, t = s.take 31 := ⟨_, rfl⟩
    have h31 : s31.length = 31 := by rw [hs31, List.length_take]; omega
    have m1 : makeR textL s31 [97] = none := by unfold makeR; rw [h31]; rfl
    have m2 : makeR textL s [97, 47, 98] = none := by unfold makeR; rw [show nmP [97, 47, 98] = false by decide +kernel, Bool.and_false]; rfl
    have k3 := hMk_ok (wr := ⟨[], ρ, []⟩) 11003 textL s31 [97] none (by decide) (by omega) (by decide) hG (by simp) (by simp) m1
    have k4 := hMk_ok (wr := ⟨[], ρ, []⟩) 12002 textL s [97, 47, 98] none (by decide) (by omega) (by decide) hG (by simp) (by simp) m2
    exact At.fin rfl [(11001, pc 17 #[stv h] (.v (stv s))), (2011002, .val (.v (stv s31))), (11003, hMk textL s31 [97] none), (12001, pc 17 #[stv h] (.v (stv s))), (12002, hMk textL s [97, 47, 98] none), (2013004, .val (.v (.bool true))), (2013013, .val (.v (.bool true))), (13024, hAw)] ⟨kS, trivial, k3, kS2, k4, trivial, trivial, hAw_ok _ hG (by simp) (by simp), trivial⟩ [.n] (x := .v (.bool true))
      (ob := [[decide (((10 : Nat) : Int) < ((10 : Nat) : Int)) = false], qL (pc 17 #[stv h] (.v (stv s))), [TV.v (stv (List.take (Int.toNat 31) s)) = TV.v (stv s31), 0 ≤ (31 : Int) ∧ (31 : Int) ≤ (s.length : Int)], qL (hMk textL s31 [97] none), qL (pc 17 #[stv h] (.v (stv s))), qL (hMk textL s [97, 47, 98] none), [TV.v (.bool ((q.length : Int) == 32)) = TV.v (.bool true), ((11 : Nat) : Int) + (q.length : Int) ≤ 9223372036854775807, ((dirL ++ q).length : Int) + ((1 : Nat) : Int) ≤ 9223372036854775807, ((dirL ++ q ++ [45]).length : Int) + (n.length : Int) ≤ 9223372036854775807, TV.v (.bool (p == dirL ++ q ++ [45] ++ n)) = TV.v (.bool true)], qL hAw].flatten) (by kernel_rfl)
      (all_flat ⟨⟨decide_eq_false (by omega), trivial⟩, all_qL _, ⟨tv_str (by rw [hs31]; rfl), ⟨by decide, by omega⟩, trivial⟩, all_qL _, all_qL _, all_qL _, ⟨tv_b (by rw [hq]; rfl), by omega, by simp only [List.length_append, List.length_cons, List.length_nil]; omega, by simp only [List.length_append, List.length_cons, List.length_nil]; omega, tv_b (by rw [← hp]; simp), trivial⟩, all_qL _, trivial⟩) fun ρ' w' hf _ => ⟨rfl, hf⟩
set_option maxRecDepth 100000 in
theorem forms_any (a m : Nat) (h : List UInt8) (ha : a < 256) (hm : m < 256) (hh : h.length ≤ 9223372036854775807) (W : World) (hG : S3.Glob W) : Calls Tryd.prog 6 #[.int .u8 (a : Int), .int .u8 (m : Int), stv h] W (FrG W) := by
  refine At.calls (args := [.int .u8 (a : Int), .int .u8 (m : Int), .v (stv h)]) (rows := []) (gl := []) (wr := []) (ρ := fun _ => (⟨0, 0, 0⟩ : Blk)) Tryd.func6 rfl rfl (init_rw ⟨rfl, rfl, rfl, trivial⟩ rfl rfl rfl (fun p hp => by cases hp) (fun p hp => by cases hp) (fun p hp => by cases hp)) rfl ?_
  have k1 : HintOk Tryd.prog 2002 (pc 18 #[.int .u8 (a : Int), .int .u8 (m : Int)] (.v (stv (pathL a m)))) := hPh_ok 2002 a m ha hm
  have hpl := path_len a m
  have k2 := hPa_ok 3001 (pathL a m) _ (by omega) (path_parse a m)
  have hq := partL_len a
  have hp := path_pp a m
  have hp2 : pathL a m = dirL ++ partL a ++ [45] ++ nm5 (m % 5) := rfl
  have hn1 : 1 ≤ (nm5 (m % 5)).length := by unfold nm5; split <;> decide
  generalize pathL a m = p at k1 k2 hpl hp hp2
  generalize nm5 (m % 5) = n at k2 hp hp2 hn1
  generalize partL a = q at k2 hq hp hp2
  have hlen : p.length = 44 + n.length := by rw [hp2]; simp only [List.length_append, List.length_cons, List.length_nil]; omega
  refine At.run rfl [(2002, pc 18 #[.int .u8 (a : Int), .int .u8 (m : Int)] (.v (stv p))), (3001, hPa p (some (q, n))), (2004000, .val (.tup []))] ⟨k1, k2, trivial, trivial⟩ [] (tm2 := [(2, .v (stv h)), (7, .v (stv p)), (8, .v (stv q)), (9, .v (stv n)), (10, .v (.bool true))]) (rows2 := []) (ob := [qL (pc 18 #[.int .u8 (a : Int), .int .u8 (m : Int)] (.v (stv p))), qL (hPa p (some (q, n)))].flatten) (td := rp Tryd.f6 3) (by kernel_rfl) (all_flat ⟨all_qL _, all_qL _, trivial⟩) rfl rfl (by intro h; cases h) ?_
  obtain ⟨b1, hb1⟩ : ∃ b, b = List.drop 1 p := ⟨_, rfl⟩
  obtain ⟨b2, hb2⟩ : ∃ b, b = [47, 110, 105, 120, 47, 115, 116, 111, 114, 101, 115] ++ List.drop 10 p := ⟨_, rfl⟩
  obtain ⟨b3, hb3⟩ : ∃ b, b = List.take 43 p := ⟨_, rfl⟩
  obtain ⟨b4, hb4⟩ : ∃ b, b = List.take 42 p := ⟨_, rfl⟩
  obtain ⟨b5, hb5⟩ : ∃ b, b = List.take 11 p ++ [101] ++ List.drop 12 p := ⟨_, rfl⟩
  obtain ⟨b6, hb6⟩ : ∃ b, b = List.take 43 p ++ [95] ++ List.drop 44 p := ⟨_, rfl⟩
  obtain ⟨b7, hb7⟩ : ∃ b, b = p ++ [47, 120] := ⟨_, rfl⟩
  obtain ⟨b8, hb8⟩ : ∃ b, b = List.take 44 p ++ [46, 120] := ⟨_, rfl⟩
  obtain ⟨b9, hb9⟩ : ∃ b, b = List.take 11 p ++ List.drop 12 p := ⟨_, rfl⟩
  refine At.run rfl [(2004001, .val (.v (stv b1))), (2004004, .val (.v (stv b2))), (2004006, .val (.v (stv b3))), (2004008, .val (.v (stv b4))), (2004014, .val (.v (stv b5))), (2004020, .val (.v (stv b6))), (2004022, .val (.v (stv b7))), (2004025, .val (.v (stv b8))), (2004030, .val (.v (stv b9)))] ⟨trivial, trivial, trivial, trivial, trivial, trivial, trivial, trivial, trivial, trivial⟩ [] (tm2 := foT h p q n ((0 : Nat) : Int)) (rows2 := [(4031, ⟨[.fnc (chunkF [stv [], stv b1, stv b2, stv b3, stv b4, stv b5, stv b6, stv b7, stv b8, stv b9] 1 10) 1 10], true, some (9, 1)⟩)]) (ob := [TV.v (stv (List.drop (Int.toNat 1) p)) = TV.v (stv b1), 0 ≤ (1 : Int) ∧ (1 : Int) ≤ (p.length : Int), 0 ≤ (10 : Int) ∧ (10 : Int) ≤ (p.length : Int), TV.v (stv ([47, 110, 105, 120, 47, 115, 116, 111, 114, 101, 115] ++ List.drop (Int.toNat 10) p)) = TV.v (stv b2), ((11 : Nat) : Int) + ((List.drop (Int.toNat 10) p).length : Int) ≤ 9223372036854775807, TV.v (stv (List.take (Int.toNat 43) p)) = TV.v (stv b3), 0 ≤ (43 : Int) ∧ (43 : Int) ≤ (p.length : Int), TV.v (stv (List.take (Int.toNat 42) p)) = TV.v (stv b4), 0 ≤ (42 : Int) ∧ (42 : Int) ≤ (p.length : Int), 0 ≤ (11 : Int) ∧ (11 : Int) ≤ (p.length : Int), ((List.take (Int.toNat 11) p).length : Int) + ((1 : Nat) : Int) ≤ 9223372036854775807, 0 ≤ (12 : Int) ∧ (12 : Int) ≤ (p.length : Int), TV.v (stv (List.take (Int.toNat 11) p ++ [101] ++ List.drop (Int.toNat 12) p)) = TV.v (stv b5), ((List.take (Int.toNat 11) p ++ [101]).length : Int) + ((List.drop (Int.toNat 12) p).length : Int) ≤ 9223372036854775807, 0 ≤ (43 : Int) ∧ (43 : Int) ≤ (p.length : Int), ((List.take (Int.toNat 43) p).length : Int) + ((1 : Nat) : Int) ≤ 9223372036854775807, 0 ≤ (44 : Int) ∧ (44 : Int) ≤ (p.length : Int), TV.v (stv (List.take (Int.toNat 43) p ++ [95] ++ List.drop (Int.toNat 44) p)) = TV.v (stv b6), ((List.take (Int.toNat 43) p ++ [95]).length : Int) + ((List.drop (Int.toNat 44) p).length : Int) ≤ 9223372036854775807, TV.v (stv (p ++ [47, 120])) = TV.v (stv b7), (p.length : Int) + ((2 : Nat) : Int) ≤ 9223372036854775807, 0 ≤ (44 : Int) ∧ (44 : Int) ≤ (p.length : Int), TV.v (stv (List.take (Int.toNat 44) p ++ [46, 120])) = TV.v (stv b8), ((List.take (Int.toNat 44) p).length : Int) + ((2 : Nat) : Int) ≤ 9223372036854775807, 0 ≤ (11 : Int) ∧ (11 : Int) ≤ (p.length : Int), 0 ≤ (12 : Int) ∧ (12 : Int) ≤ (p.length : Int), TV.v (stv (List.take (Int.toNat 11) p ++ List.drop (Int.toNat 12) p)) = TV.v (stv b9), ((List.take (Int.toNat 11) p).length : Int) + ((List.drop (Int.toNat 12) p).length : Int) ≤ 9223372036854775807]) (td := lp Tryd.f6 0) (by kernel_rfl) ⟨tv_str hb1.symm, ⟨by decide, by omega⟩, ⟨by decide, by omega⟩, tv_str hb2.symm, by first | omega | (simp only [List.length_append, List.length_take, List.length_drop, List.length_cons, List.length_nil]; omega), tv_str hb3.symm, ⟨by decide, by omega⟩, tv_str hb4.symm, ⟨by decide, by omega⟩, ⟨by decide, by omega⟩, by first | omega | (simp only [List.length_append, List.length_take, List.length_drop, List.length_cons, List.length_nil]; omega), ⟨by decide, by omega⟩, tv_str hb5.symm, by first | omega | (simp only [List.length_append, List.length_take, List.length_drop, List.length_cons, List.length_nil]; omega), ⟨by decide, by omega⟩, by first | omega | (simp only [List.length_append, List.length_take, List.length_drop, List.length_cons, List.length_nil]; omega), ⟨by decide, by omega⟩, tv_str hb6.symm, by first | omega | (simp only [List.length_append, List.length_take, List.length_drop, List.length_cons, List.length_nil]; omega), tv_str hb7.symm, by first | omega | (simp only [List.length_append, List.length_take, List.length_drop, List.length_cons, List.length_nil]; omega), ⟨by decide, by omega⟩, tv_str hb8.symm, by first | omega | (simp only [List.length_append, List.length_take, List.length_drop, List.length_cons, List.length_nil]; omega), ⟨by decide, by omega⟩, ⟨by decide, by omega⟩, tv_str hb9.symm, by first | omega | (simp only [List.length_append, List.length_take, List.length_drop, List.length_cons, List.length_nil]; omega), trivial⟩ rfl rfl (by intro h; cases h) ?_
  refine At.rows (rows2 := foR [[], b1, b2, b3, b4, b5, b6, b7, b8, b9]) (rowsEq_fnc (fun i hi => ?_) trivial) rfl (forms_loop W _ hG h p q n hh hq (by omega) hp2 [[], b1, b2, b3, b4, b5, b6, b7, b8, b9] rfl fun x hx => ?_)
  · match i, hi with
    | 0, _ => rfl
    | 1, _ => rfl
    | 2, _ => rfl
    | 3, _ => rfl
    | 4, _ => rfl
    | 5, _ => rfl
    | 6, _ => rfl
    | 7, _ => rfl
    | 8, _ => rfl
    | 9, _ => rfl
  · rw [hp] at hb1 hb2 hb3 hb4 hb5 hb6 hb7 hb8 hb9
    have hl : (ppL q n).length = 44 + n.length := by rw [← hp]; exact hlen
    simp only [List.mem_cons, List.not_mem_nil, or_false] at hx
    rcases hx with rfl | rfl | rfl | rfl | rfl | rfl | rfl | rfl | rfl | rfl
    · exact ⟨by decide +kernel, by decide⟩
    · rw [hb1]
      exact ⟨bad1, by simp only [List.length_append, List.length_take, List.length_drop, List.length_cons, List.length_nil] at hl ⊢; omega⟩
    · rw [hb2]
      exact ⟨bad2, by simp only [List.length_append, List.length_take, List.length_drop, List.length_cons, List.length_nil] at hl ⊢; omega⟩
    · rw [hb3]
      exact ⟨bad3 hq, by simp only [List.length_append, List.length_take, List.length_drop, List.length_cons, List.length_nil] at hl ⊢; omega⟩
    · rw [hb4]
      exact ⟨bad4 hq, by simp only [List.length_append, List.length_take, List.length_drop, List.length_cons, List.length_nil] at hl ⊢; omega⟩
    · rw [hb5]
      exact ⟨bad5 hq, by simp only [List.length_append, List.length_take, List.length_drop, List.length_cons, List.length_nil] at hl ⊢; omega⟩
    · rw [hb6]
      exact ⟨bad6 hq, by simp only [List.length_append, List.length_take, List.length_drop, List.length_cons, List.length_nil] at hl ⊢; omega⟩
    · rw [hb7]
      exact ⟨bad7 hq, by simp only [List.length_append, List.length_take, List.length_drop, List.length_cons, List.length_nil] at hl ⊢; omega⟩
    · rw [hb8]
      exact ⟨bad8 hq, by simp only [List.length_append, List.length_take, List.length_drop, List.length_cons, List.length_nil] at hl ⊢; omega⟩
    · rw [hb9]
      exact ⟨bad9 hq, by simp only [List.length_append, List.length_take, List.length_drop, List.length_cons, List.length_nil] at hl ⊢; omega⟩
theorem forms_all (W : World) (a m : Int) (h : ByteArray) (ha : 0 ≤ a ∧ a < 256) (hm : 0 ≤ m ∧ m < 256) (hh : h.size ≤ 9223372036854775807) (hG : S3.Glob W) : Calls Tryd.prog 6 #[.int .u8 a, .int .u8 m, .string h] W (FrG W) := by
  obtain ⟨a, rfl⟩ := Int.eq_ofNat_of_zero_le ha.1
  obtain ⟨m, rfl⟩ := Int.eq_ofNat_of_zero_le hm.1
  have := ha.2
  have := hm.2
  exact forms_any a m h.data.toList (by omega) (by omega) (by simpa using hh) W hG
end
end Go.Proofs.YtdbbcngolcnniaaDoor
