/- Several texts, one behind the other; each says by itself what it proves, and on what conditions. -/
import Derived.Test.YtdbbcngolcnniaaDoorY20
/- The document's MayPath. Its condition: lengths that fit. -/
namespace Go.Proofs.YtdbbcngolcnniaaDoor
open Go Go.RowKit
set_option linter.unusedVariables false
set_option linter.unusedSimpArgs false
section
open E
theorem ent16 : Enters Tryd.prog 16 := enters_of Tryd.func16 (by kernel_rfl) rfl
abbrev signL : List UInt8 := [43, 45, 46, 95, 63, 61]
theorem sign_fit : ∀ c : UInt8, (fitB c = (signL.contains c || (decide (97 ≤ c.toNat) && decide (c.toNat ≤ 122)) || (decide (65 ≤ c.toNat) && decide (c.toNat ≤ 90)) || (decide (48 ≤ c.toNat) && decide (c.toNat ≤ 57)))) := by
 have h : ∀ n : Fin 256, (fitB (UInt8.ofNat n.val) = (signL.contains (UInt8.ofNat n.val) || (decide (97 ≤ (UInt8.ofNat n.val).toNat) && decide ((UInt8.ofNat n.val).toNat ≤ 122)) || (decide (65 ≤ (UInt8.ofNat n.val).toNat) && decide ((UInt8.ofNat n.val).toNat ≤ 90)) || (decide (48 ≤ (UInt8.ofNat n.val).toNat) && decide ((UInt8.ofNat n.val).toNat ≤ 57)))) := by decide +kernel
 intro c
 have := h ⟨c.toNat, UInt8.toNat_lt c⟩
 simpa using this
theorem nm_bad {s : List UInt8} {i : Nat} (h : i < s.length) (hf : fitB s[i] = false) : nmP s = false := by
 have : s.all fitB = false := by
  rw [List.all_eq_false]
  exact ⟨s[i], List.getElem_mem h, by rw [hf]; simp⟩
 unfold nmP
 rw [this, Bool.and_false]
set_option maxRecDepth 100000 in
theorem maypath_any (s : List UInt8) (hs : s.length ≤ 1000000000) (w : World) : Calls Tryd.prog 16 #[stv s] w (BoolQ w (nmP s)) := by
 refine At.calls (args := [.v (stv s)]) (rows := []) (gl := []) (wr := []) (ρ := fun _ => (⟨0, 0, 0⟩ : Blk)) Tryd.func16 rfl rfl (init_rw ⟨rfl, trivial⟩ rfl rfl rfl (fun p hp => by cases hp) (fun p hp => by cases hp) (fun p hp => by cases hp)) rfl ?_
 have hloop : ∀ i : Nat, (i ≤ s.length ∧ (s.take i).all fitB = true) → At Tryd.prog w nB Tryd.f16.ntmps [] (lp Tryd.f16 0) (EndX Tryd.prog Tryd.f16 (BoolQ w (nmP s))) [(0, .v (stv s)), (3, .int .i64 (i : Int))] [] := by
  refine At.loop (fun i : Nat => [(0, .v (stv s)), (3, .int .i64 (i : Int))]) (fun _ => []) (fun i => i ≤ s.length ∧ (s.take i).all fitB = true) (fun i => s.length - i) fun i ⟨hi, hA⟩ ih => ?_
  by_cases h : i < s.length
  ·obtain ⟨c, hc⟩ : ∃ c, c = s[i] := ⟨_, rfl⟩
   have hv : TV.int .u8 (((s.getD (i : Int).toNat 0).toNat : Nat) : Int) = TV.int .u8 ((c.toNat : Nat) : Int) := by rw [getD_nat s i h, hc]
   have hfit := sign_fit c
   have hlt : decide ((i : Int) < (s.length : Int)) = true := decide_eq_true (by omega)
   have hib : 0 ≤ (i : Int) ∧ (i : Int) < (s.length : Int) := ⟨by omega, by omega⟩
   have i2 : inI ((i : Int) + 1) := ⟨by omega, by omega⟩
   have hyes : fitB c = true → _ := fun hf => ih (i + 1) ⟨h, by rw [List.take_add_one, List.getElem?_eq_getElem h, List.all_append, hA, ← hc]; show (true && (fitB c && true)) = true; rw [hf]; rfl⟩ (by show s.length - (i + 1) < s.length - i; omega)
   by_cases c0 : 97 ≤ c.toNat ∧ c.toNat ≤ 122
   ·have hf : fitB c = true := by rw [hfit]; simp; omega
    exact At.run rfl [(2005002, .val (.int .u8 ((c.toNat : Nat) : Int))), (2006001, .val (.v (.bool false))), (2006004, .val (.v (.bool false)))] ⟨trivial, trivial, trivial, trivial⟩ [.y, .n] (tm2 := [(0, .v (stv s)), (3, .int .i64 ((i + 1 : Nat) : Int))]) (rows2 := []) (ob := [[decide ((i : Int) < (s.length : Int)) = true, TV.int .u8 (((s.getD (i : Int).toNat 0).toNat : Nat) : Int) = TV.int .u8 ((c.toNat : Nat) : Int), 0 ≤ (i : Int) ∧ (i : Int) < (s.length : Int), TV.v (.bool (decide (((c.toNat : Nat) : Int) < 97))) = TV.v (.bool false), TV.v (.bool (decide (((c.toNat : Nat) : Int) > 122))) = TV.v (.bool false)], [false = false, inI ((i : Int) + 1)]].flatten) (td := lp Tryd.f16 0) (by kernel_rfl) (all_flat ⟨⟨hlt, hv, hib, tv_b (decide_eq_false (by omega)), tv_b (decide_eq_false (by omega)), trivial⟩, ⟨rfl, i2, trivial⟩, trivial⟩) rfl rfl (by intro h; cases h) (hyes hf)
   by_cases c1 : 65 ≤ c.toNat ∧ c.toNat ≤ 90
   ·have hf : fitB c = true := by rw [hfit]; simp; omega
    exact At.run rfl [(2005002, .val (.int .u8 ((c.toNat : Nat) : Int))), (2006001, .val (.v (.bool true))), (2006008, .val (.v (.bool false))), (2006011, .val (.v (.bool false)))] ⟨trivial, trivial, trivial, trivial, trivial⟩ [.y, .n] (tm2 := [(0, .v (stv s)), (3, .int .i64 ((i + 1 : Nat) : Int))]) (rows2 := []) (ob := [[decide ((i : Int) < (s.length : Int)) = true, TV.int .u8 (((s.getD (i : Int).toNat 0).toNat : Nat) : Int) = TV.int .u8 ((c.toNat : Nat) : Int), 0 ≤ (i : Int) ∧ (i : Int) < (s.length : Int), TV.v (.bool (decide (((c.toNat : Nat) : Int) < 97))) = TV.v (.bool true), TV.v (.bool (decide (((c.toNat : Nat) : Int) < 65))) = TV.v (.bool false), TV.v (.bool (decide (((c.toNat : Nat) : Int) > 90))) = TV.v (.bool false)], [false = false, inI ((i : Int) + 1)]].flatten) (td := lp Tryd.f16 0) (by kernel_rfl) (all_flat ⟨⟨hlt, hv, hib, tv_b (decide_eq_true (by omega)), tv_b (decide_eq_false (by omega)), tv_b (decide_eq_false (by omega)), trivial⟩, ⟨rfl, i2, trivial⟩, trivial⟩) rfl rfl (by intro h; cases h) (hyes hf)
   by_cases c2 : 48 ≤ c.toNat ∧ c.toNat ≤ 57
   ·have hf : fitB c = true := by rw [hfit]; simp; omega
    exact At.run rfl [(2005002, .val (.int .u8 ((c.toNat : Nat) : Int))), (2006001, .val (.v (.bool true))), (2006008, .val (.v (.bool true))), (2006016, .val (.v (.bool false))), (2006019, .val (.v (.bool false)))] ⟨trivial, trivial, trivial, trivial, trivial, trivial⟩ [.y, .n] (tm2 := [(0, .v (stv s)), (3, .int .i64 ((i + 1 : Nat) : Int))]) (rows2 := []) (ob := [[decide ((i : Int) < (s.length : Int)) = true, TV.int .u8 (((s.getD (i : Int).toNat 0).toNat : Nat) : Int) = TV.int .u8 ((c.toNat : Nat) : Int), 0 ≤ (i : Int) ∧ (i : Int) < (s.length : Int), TV.v (.bool (decide (((c.toNat : Nat) : Int) < 97))) = TV.v (.bool true), TV.v (.bool (decide (((c.toNat : Nat) : Int) < 65))) = TV.v (.bool true), TV.v (.bool (decide (((c.toNat : Nat) : Int) < 48))) = TV.v (.bool false), TV.v (.bool (decide (((c.toNat : Nat) : Int) > 57))) = TV.v (.bool false)], [false = false, inI ((i : Int) + 1)]].flatten) (td := lp Tryd.f16 0) (by kernel_rfl) (all_flat ⟨⟨hlt, hv, hib, tv_b (decide_eq_true (by omega)), tv_b (decide_eq_true (by omega)), tv_b (decide_eq_false (by omega)), tv_b (decide_eq_false (by omega)), trivial⟩, ⟨rfl, i2, trivial⟩, trivial⟩) rfl rfl (by intro h; cases h) (hyes hf)
   by_cases c3 : c.toNat < 48
   ·have hf0 : fitB c = signL.contains c := by rw [hfit, show (decide (97 ≤ c.toNat) && decide (c.toNat ≤ 122)) = false by simp; omega, show (decide (65 ≤ c.toNat) && decide (c.toNat ≤ 90)) = false by simp; omega, show (decide (48 ≤ c.toNat) && decide (c.toNat ≤ 57)) = false by simp; omega]; simp
    cases hs1 : signL.contains c with
    | true =>
     have hf : fitB c = true := by rw [hf0, hs1]
     exact At.run rfl [(2005002, .val (.int .u8 ((c.toNat : Nat) : Int))), (2006001, .val (.v (.bool true))), (2006008, .val (.v (.bool true))), (2006016, .val (.v (.bool true))), (6024, hHs signL c true)] ⟨trivial, trivial, trivial, trivial, hHs_ok _ _ _ _ (by decide) hs1, trivial⟩ [.y, .n] (tm2 := [(0, .v (stv s)), (3, .int .i64 ((i + 1 : Nat) : Int))]) (rows2 := []) (ob := [[decide ((i : Int) < (s.length : Int)) = true, TV.int .u8 (((s.getD (i : Int).toNat 0).toNat : Nat) : Int) = TV.int .u8 ((c.toNat : Nat) : Int), 0 ≤ (i : Int) ∧ (i : Int) < (s.length : Int), TV.v (.bool (decide (((c.toNat : Nat) : Int) < 97))) = TV.v (.bool true), TV.v (.bool (decide (((c.toNat : Nat) : Int) < 65))) = TV.v (.bool true), TV.v (.bool (decide (((c.toNat : Nat) : Int) < 48))) = TV.v (.bool true)], qL (hHs signL c true), [false = false, inI ((i : Int) + 1)]].flatten) (td := lp Tryd.f16 0) (by kernel_rfl) (all_flat ⟨⟨hlt, hv, hib, tv_b (decide_eq_true (by omega)), tv_b (decide_eq_true (by omega)), tv_b (decide_eq_true (by omega)), trivial⟩, all_qL _, ⟨rfl, i2, trivial⟩, trivial⟩) rfl rfl (by intro h; cases h) (hyes hf)
    | false =>
     have hf : fitB c = false := by rw [hf0, hs1]
     rw [nm_bad h (by rw [← hc]; exact hf)]
     exact At.fin rfl [(2005002, .val (.int .u8 ((c.toNat : Nat) : Int))), (2006001, .val (.v (.bool true))), (2006008, .val (.v (.bool true))), (2006016, .val (.v (.bool true))), (6024, hHs signL c false)] ⟨trivial, trivial, trivial, trivial, hHs_ok _ _ _ _ (by decide) hs1, trivial⟩ [.y, .y] (x := .v (.bool false)) (ob := [[decide ((i : Int) < (s.length : Int)) = true, TV.int .u8 (((s.getD (i : Int).toNat 0).toNat : Nat) : Int) = TV.int .u8 ((c.toNat : Nat) : Int), 0 ≤ (i : Int) ∧ (i : Int) < (s.length : Int), TV.v (.bool (decide (((c.toNat : Nat) : Int) < 97))) = TV.v (.bool true), TV.v (.bool (decide (((c.toNat : Nat) : Int) < 65))) = TV.v (.bool true), TV.v (.bool (decide (((c.toNat : Nat) : Int) < 48))) = TV.v (.bool true)], qL (hHs signL c false), [true = true]].flatten) (by kernel_rfl) (all_flat ⟨⟨hlt, hv, hib, tv_b (decide_eq_true (by omega)), tv_b (decide_eq_true (by omega)), tv_b (decide_eq_true (by omega)), trivial⟩, all_qL _, ⟨rfl, trivial⟩, trivial⟩) fun ρ' w' hf _ => ⟨rfl, hf.below⟩
   by_cases c4 : c.toNat < 65
   ·have hf0 : fitB c = signL.contains c := by rw [hfit, show (decide (97 ≤ c.toNat) && decide (c.toNat ≤ 122)) = false by simp; omega, show (decide (65 ≤ c.toNat) && decide (c.toNat ≤ 90)) = false by simp; omega, show (decide (48 ≤ c.toNat) && decide (c.toNat ≤ 57)) = false by simp; omega]; simp
    cases hs1 : signL.contains c with
    | true =>
     have hf : fitB c = true := by rw [hf0, hs1]
     exact At.run rfl [(2005002, .val (.int .u8 ((c.toNat : Nat) : Int))), (2006001, .val (.v (.bool true))), (2006008, .val (.v (.bool true))), (2006016, .val (.v (.bool false))), (2006019, .val (.v (.bool true))), (6024, hHs signL c true)] ⟨trivial, trivial, trivial, trivial, trivial, hHs_ok _ _ _ _ (by decide) hs1, trivial⟩ [.y, .n] (tm2 := [(0, .v (stv s)), (3, .int .i64 ((i + 1 : Nat) : Int))]) (rows2 := []) (ob := [[decide ((i : Int) < (s.length : Int)) = true, TV.int .u8 (((s.getD (i : Int).toNat 0).toNat : Nat) : Int) = TV.int .u8 ((c.toNat : Nat) : Int), 0 ≤ (i : Int) ∧ (i : Int) < (s.length : Int), TV.v (.bool (decide (((c.toNat : Nat) : Int) < 97))) = TV.v (.bool true), TV.v (.bool (decide (((c.toNat : Nat) : Int) < 65))) = TV.v (.bool true), TV.v (.bool (decide (((c.toNat : Nat) : Int) < 48))) = TV.v (.bool false), TV.v (.bool (decide (((c.toNat : Nat) : Int) > 57))) = TV.v (.bool true)], qL (hHs signL c true), [false = false, inI ((i : Int) + 1)]].flatten) (td := lp Tryd.f16 0) (by kernel_rfl) (all_flat ⟨⟨hlt, hv, hib, tv_b (decide_eq_true (by omega)), tv_b (decide_eq_true (by omega)), tv_b (decide_eq_false (by omega)), tv_b (decide_eq_true (by omega)), trivial⟩, all_qL _, ⟨rfl, i2, trivial⟩, trivial⟩) rfl rfl (by intro h; cases h) (hyes hf)
    | false =>
     have hf : fitB c = false := by rw [hf0, hs1]
     rw [nm_bad h (by rw [← hc]; exact hf)]
     exact At.fin rfl [(2005002, .val (.int .u8 ((c.toNat : Nat) : Int))), (2006001, .val (.v (.bool true))), (2006008, .val (.v (.bool true))), (2006016, .val (.v (.bool false))), (2006019, .val (.v (.bool true))), (6024, hHs signL c false)] ⟨trivial, trivial, trivial, trivial, trivial, hHs_ok _ _ _ _ (by decide) hs1, trivial⟩ [.y, .y] (x := .v (.bool false)) (ob := [[decide ((i : Int) < (s.length : Int)) = true, TV.int .u8 (((s.getD (i : Int).toNat 0).toNat : Nat) : Int) = TV.int .u8 ((c.toNat : Nat) : Int), 0 ≤ (i : Int) ∧ (i : Int) < (s.length : Int), TV.v (.bool (decide (((c.toNat : Nat) : Int) < 97))) = TV.v (.bool true), TV.v (.bool (decide (((c.toNat : Nat) : Int) < 65))) = TV.v (.bool true), TV.v (.bool (decide (((c.toNat : Nat) : Int) < 48))) = TV.v (.bool false), TV.v (.bool (decide (((c.toNat : Nat) : Int) > 57))) = TV.v (.bool true)], qL (hHs signL c false), [true = true]].flatten) (by kernel_rfl) (all_flat ⟨⟨hlt, hv, hib, tv_b (decide_eq_true (by omega)), tv_b (decide_eq_true (by omega)), tv_b (decide_eq_false (by omega)), tv_b (decide_eq_true (by omega)), trivial⟩, all_qL _, ⟨rfl, trivial⟩, trivial⟩) fun ρ' w' hf _ => ⟨rfl, hf.below⟩
   by_cases c5 : c.toNat < 97
   ·have hf0 : fitB c = signL.contains c := by rw [hfit, show (decide (97 ≤ c.toNat) && decide (c.toNat ≤ 122)) = false by simp; omega, show (decide (65 ≤ c.toNat) && decide (c.toNat ≤ 90)) = false by simp; omega, show (decide (48 ≤ c.toNat) && decide (c.toNat ≤ 57)) = false by simp; omega]; simp
    cases hs1 : signL.contains c with
    | true =>
     have hf : fitB c = true := by rw [hf0, hs1]
     exact At.run rfl [(2005002, .val (.int .u8 ((c.toNat : Nat) : Int))), (2006001, .val (.v (.bool true))), (2006008, .val (.v (.bool false))), (2006011, .val (.v (.bool true))), (2006016, .val (.v (.bool false))), (2006019, .val (.v (.bool true))), (6024, hHs signL c true)] ⟨trivial, trivial, trivial, trivial, trivial, trivial, hHs_ok _ _ _ _ (by decide) hs1, trivial⟩ [.y, .n] (tm2 := [(0, .v (stv s)), (3, .int .i64 ((i + 1 : Nat) : Int))]) (rows2 := []) (ob := [[decide ((i : Int) < (s.length : Int)) = true, TV.int .u8 (((s.getD (i : Int).toNat 0).toNat : Nat) : Int) = TV.int .u8 ((c.toNat : Nat) : Int), 0 ≤ (i : Int) ∧ (i : Int) < (s.length : Int), TV.v (.bool (decide (((c.toNat : Nat) : Int) < 97))) = TV.v (.bool true), TV.v (.bool (decide (((c.toNat : Nat) : Int) < 65))) = TV.v (.bool false), TV.v (.bool (decide (((c.toNat : Nat) : Int) > 90))) = TV.v (.bool true), TV.v (.bool (decide (((c.toNat : Nat) : Int) < 48))) = TV.v (.bool false), TV.v (.bool (decide (((c.toNat : Nat) : Int) > 57))) = TV.v (.bool true)], qL (hHs signL c true), [false = false, inI ((i : Int) + 1)]].flatten) (td := lp Tryd.f16 0) (by kernel_rfl) (all_flat ⟨⟨hlt, hv, hib, tv_b (decide_eq_true (by omega)), tv_b (decide_eq_false (by omega)), tv_b (decide_eq_true (by omega)), tv_b (decide_eq_false (by omega)), tv_b (decide_eq_true (by omega)), trivial⟩, all_qL _, ⟨rfl, i2, trivial⟩, trivial⟩) rfl rfl (by intro h; cases h) (hyes hf)
    | false =>
     have hf : fitB c = false := by rw [hf0, hs1]
     rw [nm_bad h (by rw [← hc]; exact hf)]
     exact At.fin rfl [(2005002, .val (.int .u8 ((c.toNat : Nat) : Int))), (2006001, .val (.v (.bool true))), (2006008, .val (.v (.bool false))), (2006011, .val (.v (.bool true))), (2006016, .val (.v (.bool false))), (2006019, .val (.v (.bool true))), (6024, hHs signL c false)] ⟨trivial, trivial, trivial, trivial, trivial, trivial, hHs_ok _ _ _ _ (by decide) hs1, trivial⟩ [.y, .y] (x := .v (.bool false)) (ob := [[decide ((i : Int) < (s.length : Int)) = true, TV.int .u8 (((s.getD (i : Int).toNat 0).toNat : Nat) : Int) = TV.int .u8 ((c.toNat : Nat) : Int), 0 ≤ (i : Int) ∧ (i : Int) < (s.length : Int), TV.v (.bool (decide (((c.toNat : Nat) : Int) < 97))) = TV.v (.bool true), TV.v (.bool (decide (((c.toNat : Nat) : Int) < 65))) = TV.v (.bool false), TV.v (.bool (decide (((c.toNat : Nat) : Int) > 90))) = TV.v (.bool true), TV.v (.bool (decide (((c.toNat : Nat) : Int) < 48))) = TV.v (.bool false), TV.v (.bool (decide (((c.toNat : Nat) : Int) > 57))) = TV.v (.bool true)], qL (hHs signL c false), [true = true]].flatten) (by kernel_rfl) (all_flat ⟨⟨hlt, hv, hib, tv_b (decide_eq_true (by omega)), tv_b (decide_eq_false (by omega)), tv_b (decide_eq_true (by omega)), tv_b (decide_eq_false (by omega)), tv_b (decide_eq_true (by omega)), trivial⟩, all_qL _, ⟨rfl, trivial⟩, trivial⟩) fun ρ' w' hf _ => ⟨rfl, hf.below⟩
   have c6 : 122 < c.toNat := by omega
   have hf0 : fitB c = signL.contains c := by rw [hfit, show (decide (97 ≤ c.toNat) && decide (c.toNat ≤ 122)) = false by simp; omega, show (decide (65 ≤ c.toNat) && decide (c.toNat ≤ 90)) = false by simp; omega, show (decide (48 ≤ c.toNat) && decide (c.toNat ≤ 57)) = false by simp; omega]; simp
   cases hs1 : signL.contains c with
   | true =>
    have hf : fitB c = true := by rw [hf0, hs1]
    exact At.run rfl [(2005002, .val (.int .u8 ((c.toNat : Nat) : Int))), (2006001, .val (.v (.bool false))), (2006004, .val (.v (.bool true))), (2006008, .val (.v (.bool false))), (2006011, .val (.v (.bool true))), (2006016, .val (.v (.bool false))), (2006019, .val (.v (.bool true))), (6024, hHs signL c true)] ⟨trivial, trivial, trivial, trivial, trivial, trivial, trivial, hHs_ok _ _ _ _ (by decide) hs1, trivial⟩ [.y, .n] (tm2 := [(0, .v (stv s)), (3, .int .i64 ((i + 1 : Nat) : Int))]) (rows2 := []) (ob := [[decide ((i : Int) < (s.length : Int)) = true, TV.int .u8 (((s.getD (i : Int).toNat 0).toNat : Nat) : Int) = TV.int .u8 ((c.toNat : Nat) : Int), 0 ≤ (i : Int) ∧ (i : Int) < (s.length : Int), TV.v (.bool (decide (((c.toNat : Nat) : Int) < 97))) = TV.v (.bool false), TV.v (.bool (decide (((c.toNat : Nat) : Int) > 122))) = TV.v (.bool true), TV.v (.bool (decide (((c.toNat : Nat) : Int) < 65))) = TV.v (.bool false), TV.v (.bool (decide (((c.toNat : Nat) : Int) > 90))) = TV.v (.bool true), TV.v (.bool (decide (((c.toNat : Nat) : Int) < 48))) = TV.v (.bool false), TV.v (.bool (decide (((c.toNat : Nat) : Int) > 57))) = TV.v (.bool true)], qL (hHs signL c true), [false = false, inI ((i : Int) + 1)]].flatten) (td := lp Tryd.f16 0) (by kernel_rfl) (all_flat ⟨⟨hlt, hv, hib, tv_b (decide_eq_false (by omega)), tv_b (decide_eq_true (by omega)), tv_b (decide_eq_false (by omega)), tv_b (decide_eq_true (by omega)), tv_b (decide_eq_false (by omega)), tv_b (decide_eq_true (by omega)), trivial⟩, all_qL _, ⟨rfl, i2, trivial⟩, trivial⟩) rfl rfl (by intro h; cases h) (hyes hf)
   | false =>
    have hf : fitB c = false := by rw [hf0, hs1]
    rw [nm_bad h (by rw [← hc]; exact hf)]
    exact At.fin rfl [(2005002, .val (.int .u8 ((c.toNat : Nat) : Int))), (2006001, .val (.v (.bool false))), (2006004, .val (.v (.bool true))), (2006008, .val (.v (.bool false))), (2006011, .val (.v (.bool true))), (2006016, .val (.v (.bool false))), (2006019, .val (.v (.bool true))), (6024, hHs signL c false)] ⟨trivial, trivial, trivial, trivial, trivial, trivial, trivial, hHs_ok _ _ _ _ (by decide) hs1, trivial⟩ [.y, .y] (x := .v (.bool false)) (ob := [[decide ((i : Int) < (s.length : Int)) = true, TV.int .u8 (((s.getD (i : Int).toNat 0).toNat : Nat) : Int) = TV.int .u8 ((c.toNat : Nat) : Int), 0 ≤ (i : Int) ∧ (i : Int) < (s.length : Int), TV.v (.bool (decide (((c.toNat : Nat) : Int) < 97))) = TV.v (.bool false), TV.v (.bool (decide (((c.toNat : Nat) : Int) > 122))) = TV.v (.bool true), TV.v (.bool (decide (((c.toNat : Nat) : Int) < 65))) = TV.v (.bool false), TV.v (.bool (decide (((c.toNat : Nat) : Int) > 90))) = TV.v (.bool true), TV.v (.bool (decide (((c.toNat : Nat) : Int) < 48))) = TV.v (.bool false), TV.v (.bool (decide (((c.toNat : Nat) : Int) > 57))) = TV.v (.bool true)], qL (hHs signL c false), [true = true]].flatten) (by kernel_rfl) (all_flat ⟨⟨hlt, hv, hib, tv_b (decide_eq_false (by omega)), tv_b (decide_eq_true (by omega)), tv_b (decide_eq_false (by omega)), tv_b (decide_eq_true (by omega)), tv_b (decide_eq_false (by omega)), tv_b (decide_eq_true (by omega)), trivial⟩, all_qL _, ⟨rfl, trivial⟩, trivial⟩) fun ρ' w' hf _ => ⟨rfl, hf.below⟩
  ·obtain rfl : i = s.length := by omega
   rw [List.take_length] at hA
   have hlt : decide ((s.length : Int) < (s.length : Int)) = false := decide_eq_false (by omega)
   by_cases h1 : ¬ 1 ≤ s.length
   ·have hr : nmP s = false := by unfold nmP; rw [decide_eq_false h1]; simp
    rw [hr]
    exact At.fin rfl [(2008003, .val (.v (.bool false)))] ⟨trivial, trivial⟩ [.n] (x := .v (.bool false)) (ob := [decide ((s.length : Int) < (s.length : Int)) = false, TV.v (.bool (decide ((s.length : Int) ≥ 1))) = TV.v (.bool false)]) (by kernel_rfl) ⟨hlt, tv_b (decide_eq_false (by omega)), trivial⟩ fun ρ' w' hf _ => ⟨rfl, hf.below⟩
   have h1 : 1 ≤ s.length := by omega
   by_cases h2 : ¬ s.length ≤ 211
   ·have hr : nmP s = false := by unfold nmP; rw [decide_eq_false h2]; simp
    rw [hr]
    exact At.fin rfl [(2008003, .val (.v (.bool true))), (2008007, .val (.v (.bool false)))] ⟨trivial, trivial, trivial⟩ [.n] (x := .v (.bool false)) (ob := [decide ((s.length : Int) < (s.length : Int)) = false, TV.v (.bool (decide ((s.length : Int) ≥ 1))) = TV.v (.bool true), TV.v (.bool (decide ((s.length : Int) ≤ 211))) = TV.v (.bool false)]) (by kernel_rfl) ⟨hlt, tv_b (decide_eq_true (by omega)), tv_b (decide_eq_false (by omega)), trivial⟩ fun ρ' w' hf _ => ⟨rfl, hf.below⟩
   have h2 : s.length ≤ 211 := by omega
   obtain ⟨b, hb⟩ : ∃ b, b = !((s.getD 0 0).toNat == 46) := ⟨_, rfl⟩
   have hr : nmP s = b := by unfold nmP; rw [decide_eq_true h1, decide_eq_true h2, hA, hb]; simp
   rw [hr]
   exact At.fin rfl [(2008003, .val (.v (.bool true))), (2008007, .val (.v (.bool true))), (2008011, .val (.v (.bool b)))] ⟨trivial, trivial, trivial, trivial⟩ [.n] (x := .v (.bool b)) (ob := [decide ((s.length : Int) < (s.length : Int)) = false, TV.v (.bool (decide ((s.length : Int) ≥ 1))) = TV.v (.bool true), TV.v (.bool (decide ((s.length : Int) ≤ 211))) = TV.v (.bool true), 0 ≤ (0 : Int) ∧ (0 : Int) < (s.length : Int), TV.v (.bool ((((s.getD (Int.toNat 0) 0).toNat : Nat) : Int) != 46)) = TV.v (.bool b)]) (by kernel_rfl) ⟨hlt, tv_b (decide_eq_true (by omega)), tv_b (decide_eq_true (by omega)), ⟨by omega, by omega⟩, tv_b (by rw [hb]; show ((((s.getD 0 0).toNat : Nat) : Int) != 46) = !((s.getD 0 0).toNat == 46); rw [Bool.eq_iff_iff]; simp; omega), trivial⟩ fun ρ' w' hf _ => ⟨rfl, hf.below⟩
 exact At.run rfl [] trivial [] (tm2 := [(0, .v (stv s)), (3, .int .i64 ((0 : Nat) : Int))]) (rows2 := []) (ob := []) (td := lp Tryd.f16 0) (by kernel_rfl) trivial rfl rfl (by intro h; cases h) (hloop 0 ⟨Nat.zero_le _, rfl⟩)
abbrev hMq (s : List UInt8) (b : Bool) : Hint := pc 16 #[stv s] (.v (.bool b))
theorem hMq_ok (id : Nat) (s : List UInt8) (b : Bool) (hs : s.length ≤ 1000000000) (h : nmP s = b) : HintOk Tryd.prog id (hMq s b) := pc_ok ent16 (v := .bool b) rfl (fun _ => rfl) fun w => by rw [← h]; exact maypath_any s hs w
end
end Go.Proofs.YtdbbcngolcnniaaDoor
/- The document's Parse of a path, Rising. Its condition: lengths that fit. -/
namespace Go.Proofs.YtdbbcngolcnniaaDoor
open Go Go.RowKit
set_option linter.unusedVariables false
set_option linter.unusedSimpArgs false
section
open E
theorem ent10 : Enters Tryd.prog 10 := enters_of Tryd.func10 (by kernel_rfl) rfl
theorem ent34 : Enters Tryd.prog 34 := enters_of Tryd.func34 (by kernel_rfl) rfl
theorem parse_short {s : List UInt8} (h : s.length < 44) : parseR s = none := by
 unfold parseR
 rw [if_neg]
 intro hc
 simp only [Bool.and_eq_true, decide_eq_true_eq, preP, List.length_drop, List.length_cons, List.length_nil] at hc
 omega
theorem parse_long {s : List UInt8} (h : 44 ≤ s.length) : parseR s = if (s.take 11 == dirL) && (((s.getD 43 0).toNat == 45) && (mayP ((s.take 43).drop 11) && nmP (s.drop 44))) then some ((s.take 43).drop 11, s.drop 44) else none := by
 have e1 : (s.drop 11).take 32 = (s.take 43).drop 11 := by rw [List.drop_take]
 have e2 : ((s.drop 11).drop 32).drop 1 = s.drop 44 := by rw [List.drop_drop, List.drop_drop]
 have e3 : preP s dirL = (s.take 11 == dirL) := by unfold preP; rw [decide_eq_true (show dirL.length ≤ s.length by show 11 ≤ _; omega), Bool.true_and]; rfl
 have e4 : preP ((s.drop 11).drop 32) [45] = ((s.getD 43 0).toNat == 45) := by
  rw [List.drop_drop, show 11 + 32 = 43 from rfl, List.drop_eq_getElem_cons (show 43 < s.length by omega)]
  unfold preP
  rw [decide_eq_true (show ([45] : List UInt8).length ≤ (s[43] :: s.drop (43 + 1)).length by simp; omega), Bool.true_and]
  show ([s[43]] == [45]) = _
  rw [List.getD_eq_getElem?_getD, List.getElem?_eq_getElem (show 43 < s.length by omega), Option.getD_some, Bool.eq_iff_iff]
  simp only [beq_iff_eq, List.cons.injEq, and_true]
  exact ⟨fun h => by rw [h]; rfl, fun h => UInt8.toNat_inj.1 h⟩
 unfold parseR
 rw [e1, e2, e3, e4, decide_eq_true (show 32 ≤ (s.drop 11).length by rw [List.length_drop]; omega), Bool.true_and]
abbrev parsT : Option (List UInt8 × List UInt8) → TV
 | some (a, n) => .s (.agg [.one (.v (stv a)), .one (.v (stv n)), .one (.v (.bool true))])
 | none => .s (.agg [.one (.v (stv [])), .one (.v (stv [])), .one (.v (.bool false))])
abbrev parsV : Option (List UInt8 × List UInt8) → Value
 | some (a, n) => .agg #[stv a, stv n, .bool true]
 | none => .agg #[stv [], stv [], .bool false]
set_option maxRecDepth 100000 in
theorem rparse_any (s : List UInt8) (hs : s.length ≤ 1000000) (w : World) : Calls Tryd.prog 10 #[stv s] w fun e w' => e = .returned (parsV (parseR s)) ∧ Below w.heap.size w w' := by
 refine At.calls (args := [.v (stv s)]) (rows := []) (gl := []) (wr := []) (ρ := fun _ => (⟨0, 0, 0⟩ : Blk)) Tryd.func10 rfl rfl (init_rw ⟨rfl, trivial⟩ rfl rfl rfl (fun p hp => by cases hp) (fun p hp => by cases hp) (fun p hp => by cases hp)) rfl ?_
 have j1 : inI ((11 : Int) + 32) := ⟨by decide, by decide⟩
 have j2 : inI ((11 : Int) + 32 + 1) := ⟨by decide, by decide⟩
 by_cases h1 : s.length < 44
 ·rw [parse_short h1]
  exact At.fin rfl [(2003005, .val (.v (.bool true)))] ⟨trivial, trivial⟩ [.d] (x := parsT none) (ob := [inI ((11 : Int) + 32), inI ((11 : Int) + 32 + 1), TV.v (.bool (decide ((s.length : Int) < 11 + 32 + 1))) = TV.v (.bool true)]) (by kernel_rfl) ⟨j1, j2, tv_b (decide_eq_true (by omega)), trivial⟩ fun ρ' w' hf _ => ⟨rfl, hf.below⟩
 have hL : 44 ≤ s.length := by omega
 rw [parse_long hL]
 have d1 : TV.v (.bool (decide ((s.length : Int) < 11 + 32 + 1))) = TV.v (.bool false) := tv_b (decide_eq_false (by omega))
 have d2 : 0 ≤ (11 : Int) ∧ (11 : Int) ≤ (s.length : Int) := ⟨by decide, by omega⟩
 have d3 : 0 ≤ (11 : Int) + 32 ∧ (11 : Int) + 32 < (s.length : Int) := ⟨by decide, by omega⟩
 have d4 : 0 ≤ (11 : Int) + 32 ∧ (11 : Int) + 32 ≤ (s.length : Int) := ⟨by decide, by omega⟩
 have d5 : 0 ≤ (11 : Int) ∧ (11 : Int) ≤ 11 + 32 := ⟨by decide, by decide⟩
 have d6 : 0 ≤ (11 : Int) + 32 + 1 ∧ (11 : Int) + 32 + 1 ≤ (s.length : Int) := ⟨by decide, by omega⟩
 cases h2 : s.take 11 == dirL with
 | false =>
  have t2 : TV.v (.bool (!(List.take (Int.toNat 11) s == dirL))) = TV.v (.bool true) := tv_b (by show (!(s.take 11 == dirL)) = true; rw [h2]; rfl)
  exact At.fin rfl [(2003005, .val (.v (.bool false))), (2003010, .val (.v (.bool true)))] ⟨trivial, trivial, trivial⟩ [.d] (x := parsT none) (ob := [inI ((11 : Int) + 32), inI ((11 : Int) + 32 + 1), TV.v (.bool (decide ((s.length : Int) < 11 + 32 + 1))) = TV.v (.bool false), 0 ≤ (11 : Int) ∧ (11 : Int) ≤ (s.length : Int), TV.v (.bool (!(List.take (Int.toNat 11) s == dirL))) = TV.v (.bool true)]) (by kernel_rfl) ⟨j1, j2, d1, d2, t2, trivial⟩ fun ρ' w' hf _ => ⟨rfl, hf.below⟩
 | true =>
 have t2 : TV.v (.bool (!(List.take (Int.toNat 11) s == dirL))) = TV.v (.bool false) := tv_b (by show (!(s.take 11 == dirL)) = false; rw [h2]; rfl)
 cases h3 : ((s.getD 43 0).toNat == 45) with
 | false =>
  have t3 : TV.v (.bool ((((s.getD ((11 : Int) + 32).toNat 0).toNat : Nat) : Int) != 45)) = TV.v (.bool true) := tv_b (by show ((((s.getD 43 0).toNat : Nat) : Int) != 45) = true; simp at h3 ⊢; omega)
  exact At.fin rfl [(2003005, .val (.v (.bool false))), (2003010, .val (.v (.bool false))), (2003017, .val (.v (.bool true)))] ⟨trivial, trivial, trivial, trivial⟩ [.d] (x := parsT none) (ob := [inI ((11 : Int) + 32), inI ((11 : Int) + 32 + 1), TV.v (.bool (decide ((s.length : Int) < 11 + 32 + 1))) = TV.v (.bool false), 0 ≤ (11 : Int) ∧ (11 : Int) ≤ (s.length : Int), TV.v (.bool (!(List.take (Int.toNat 11) s == dirL))) = TV.v (.bool false), inI ((11 : Int) + 32), 0 ≤ (11 : Int) + 32 ∧ (11 : Int) + 32 < (s.length : Int), TV.v (.bool ((((s.getD ((11 : Int) + 32).toNat 0).toNat : Nat) : Int) != 45)) = TV.v (.bool true)]) (by kernel_rfl) ⟨j1, j2, d1, d2, t2, j1, d3, t3, trivial⟩ fun ρ' w' hf _ => ⟨rfl, hf.below⟩
 | true =>
 have t3 : TV.v (.bool ((((s.getD ((11 : Int) + 32).toNat 0).toNat : Nat) : Int) != 45)) = TV.v (.bool false) := tv_b (by show ((((s.getD 43 0).toNat : Nat) : Int) != 45) = false; simp at h3 ⊢; omega)
 obtain ⟨a, ha⟩ : ∃ a, a = (s.take 43).drop 11 := ⟨_, rfl⟩
 obtain ⟨n, hn⟩ : ∃ n, n = s.drop 44 := ⟨_, rfl⟩
 rw [← ha, ← hn]
 have hal : a.length ≤ 1000000 := by rw [ha, List.length_drop, List.length_take]; omega
 have hnl : n.length ≤ 1000000 := by rw [hn, List.length_drop]; omega
 have t4 : TV.v (stv (List.drop (Int.toNat 11) (List.take ((11 : Int) + 32).toNat s))) = TV.v (stv a) := tv_str ha.symm
 have t5 : TV.v (stv (List.drop ((11 : Int) + 32 + 1).toNat s)) = TV.v (stv n) := tv_str hn.symm
 cases h4 : mayP a with
 | false =>
  exact At.fin rfl [(2003005, .val (.v (.bool false))), (2003010, .val (.v (.bool false))), (2003017, .val (.v (.bool false))), (2005004, .val (.v (stv a))), (2005009, .val (.v (stv n))), (6002, hMp a false)] ⟨trivial, trivial, trivial, trivial, trivial, hMp_ok _ _ _ (by omega) h4, trivial⟩ [.d, .d] (x := parsT none) (ob := [[inI ((11 : Int) + 32), inI ((11 : Int) + 32 + 1), TV.v (.bool (decide ((s.length : Int) < 11 + 32 + 1))) = TV.v (.bool false), 0 ≤ (11 : Int) ∧ (11 : Int) ≤ (s.length : Int), TV.v (.bool (!(List.take (Int.toNat 11) s == dirL))) = TV.v (.bool false), inI ((11 : Int) + 32), 0 ≤ (11 : Int) + 32 ∧ (11 : Int) + 32 < (s.length : Int), TV.v (.bool ((((s.getD ((11 : Int) + 32).toNat 0).toNat : Nat) : Int) != 45)) = TV.v (.bool false), inI ((11 : Int) + 32), TV.v (stv (List.drop (Int.toNat 11) (List.take ((11 : Int) + 32).toNat s))) = TV.v (stv a), 0 ≤ (11 : Int) + 32 ∧ (11 : Int) + 32 ≤ (s.length : Int), 0 ≤ (11 : Int) ∧ (11 : Int) ≤ 11 + 32, inI ((11 : Int) + 32), inI ((11 : Int) + 32 + 1), TV.v (stv (List.drop ((11 : Int) + 32 + 1).toNat s)) = TV.v (stv n), 0 ≤ (11 : Int) + 32 + 1 ∧ (11 : Int) + 32 + 1 ≤ (s.length : Int)], qL (hMp a false)].flatten) (by kernel_rfl) (all_flat ⟨⟨j1, j2, d1, d2, t2, j1, d3, t3, j1, t4, d4, d5, j1, j2, t5, d6, trivial⟩, all_qL _, trivial⟩) fun ρ' w' hf _ => ⟨rfl, hf.below⟩
 | true =>
 cases h5 : nmP n with
 | false =>
  exact At.fin rfl [(2003005, .val (.v (.bool false))), (2003010, .val (.v (.bool false))), (2003017, .val (.v (.bool false))), (2005004, .val (.v (stv a))), (2005009, .val (.v (stv n))), (6002, hMp a true), (6007, hMq n false)] ⟨trivial, trivial, trivial, trivial, trivial, hMp_ok _ _ _ (by omega) h4, hMq_ok _ _ _ (by omega) h5, trivial⟩ [.d, .d] (x := parsT none) (ob := [[inI ((11 : Int) + 32), inI ((11 : Int) + 32 + 1), TV.v (.bool (decide ((s.length : Int) < 11 + 32 + 1))) = TV.v (.bool false), 0 ≤ (11 : Int) ∧ (11 : Int) ≤ (s.length : Int), TV.v (.bool (!(List.take (Int.toNat 11) s == dirL))) = TV.v (.bool false), inI ((11 : Int) + 32), 0 ≤ (11 : Int) + 32 ∧ (11 : Int) + 32 < (s.length : Int), TV.v (.bool ((((s.getD ((11 : Int) + 32).toNat 0).toNat : Nat) : Int) != 45)) = TV.v (.bool false), inI ((11 : Int) + 32), TV.v (stv (List.drop (Int.toNat 11) (List.take ((11 : Int) + 32).toNat s))) = TV.v (stv a), 0 ≤ (11 : Int) + 32 ∧ (11 : Int) + 32 ≤ (s.length : Int), 0 ≤ (11 : Int) ∧ (11 : Int) ≤ 11 + 32, inI ((11 : Int) + 32), inI ((11 : Int) + 32 + 1), TV.v (stv (List.drop ((11 : Int) + 32 + 1).toNat s)) = TV.v (stv n), 0 ≤ (11 : Int) + 32 + 1 ∧ (11 : Int) + 32 + 1 ≤ (s.length : Int)], qL (hMp a true), qL (hMq n false)].flatten) (by kernel_rfl) (all_flat ⟨⟨j1, j2, d1, d2, t2, j1, d3, t3, j1, t4, d4, d5, j1, j2, t5, d6, trivial⟩, all_qL _, all_qL _, trivial⟩) fun ρ' w' hf _ => ⟨rfl, hf.below⟩
 | true =>
  exact At.fin rfl [(2003005, .val (.v (.bool false))), (2003010, .val (.v (.bool false))), (2003017, .val (.v (.bool false))), (2005004, .val (.v (stv a))), (2005009, .val (.v (stv n))), (6002, hMp a true), (6007, hMq n true)] ⟨trivial, trivial, trivial, trivial, trivial, hMp_ok _ _ _ (by omega) h4, hMq_ok _ _ _ (by omega) h5, trivial⟩ [.d, .d] (x := parsT (some (a, n))) (ob := [[inI ((11 : Int) + 32), inI ((11 : Int) + 32 + 1), TV.v (.bool (decide ((s.length : Int) < 11 + 32 + 1))) = TV.v (.bool false), 0 ≤ (11 : Int) ∧ (11 : Int) ≤ (s.length : Int), TV.v (.bool (!(List.take (Int.toNat 11) s == dirL))) = TV.v (.bool false), inI ((11 : Int) + 32), 0 ≤ (11 : Int) + 32 ∧ (11 : Int) + 32 < (s.length : Int), TV.v (.bool ((((s.getD ((11 : Int) + 32).toNat 0).toNat : Nat) : Int) != 45)) = TV.v (.bool false), inI ((11 : Int) + 32), TV.v (stv (List.drop (Int.toNat 11) (List.take ((11 : Int) + 32).toNat s))) = TV.v (stv a), 0 ≤ (11 : Int) + 32 ∧ (11 : Int) + 32 ≤ (s.length : Int), 0 ≤ (11 : Int) ∧ (11 : Int) ≤ 11 + 32, inI ((11 : Int) + 32), inI ((11 : Int) + 32 + 1), TV.v (stv (List.drop ((11 : Int) + 32 + 1).toNat s)) = TV.v (stv n), 0 ≤ (11 : Int) + 32 + 1 ∧ (11 : Int) + 32 + 1 ≤ (s.length : Int)], qL (hMp a true), qL (hMq n true)].flatten) (by kernel_rfl) (all_flat ⟨⟨j1, j2, d1, d2, t2, j1, d3, t3, j1, t4, d4, d5, j1, j2, t5, d6, trivial⟩, all_qL _, all_qL _, trivial⟩) fun ρ' w' hf _ => ⟨rfl, hf.below⟩
abbrev hDp (s : List UInt8) (o : Option (List UInt8 × List UInt8)) : Hint := pc 10 #[stv s] (parsT o)
theorem hDp_ok (id : Nat) (s : List UInt8) (o : Option (List UInt8 × List UInt8)) (hs : s.length ≤ 1000000) (h : parseR s = o) : HintOk Tryd.prog id (hDp s o) := by
 subst h
 refine pc_ok ent10 (v := parsV (parseR s)) ?_ (fun _ => ?_) fun w => rparse_any s hs w
 ·cases parseR s with
  | none => intro p hp; simp only [List.mem_cons, List.not_mem_nil, or_false] at hp; rcases hp with rfl | rfl | rfl <;> rfl
  | some x => intro p hp; simp only [List.mem_cons, List.not_mem_nil, or_false] at hp; rcases hp with rfl | rfl | rfl <;> rfl
 ·cases parseR s <;> rfl
abbrev drT (ps : List (List UInt8)) (i : Nat) : List (Nat × TV) := [(0, .s (.lf (.sl 1 0 0 1 ps.length none))), (3, .int .i64 (i : Int))]
set_option maxRecDepth 100000 in
theorem rrise_pos (ps : List (List UInt8)) (hps : ps.length ≤ 1000000) (hp : ∀ p ∈ ps, p.length ≤ 1000000) (w : World) (ρ : Env) (h1 : RowAt ρ 1 (strR ps) w) : Calls Tryd.prog 34 #[(TV.s (.lf (.sl 1 0 0 1 ps.length none))).val ρ] w (BoolQ w (riseL ps)) := by
 refine At.calls (args := [.s (.lf (.sl 1 0 0 1 ps.length none))]) (rows := [(1, strR ps)]) (gl := []) (wr := []) (ρ := ρ) Tryd.func34 rfl rfl (init_rw ⟨trivial, trivial⟩ rfl rfl rfl (fun p hp => by obtain rfl := List.mem_singleton.1 hp; exact ⟨h1, strR_ok ps⟩) (fun p hp hw => by obtain rfl := List.mem_singleton.1 hp; cases hw) (fun p hp q hq hpq hw => by obtain rfl := List.mem_singleton.1 hp; cases hw)) rfl ?_
 have hloop : ∀ i : Nat, (i ≤ ps.length ∧ (List.range i).all (okAt ps) = true) → At Tryd.prog w ⟨[], ρ, []⟩ Tryd.f34.ntmps [] (lp Tryd.f34 0) (EndX Tryd.prog Tryd.f34 (BoolQ w (riseL ps))) (drT ps i) [(1, strR ps)] := by
  refine At.loop (fun i : Nat => drT ps i) (fun i => [(1, strR ps)]) (fun i => i ≤ ps.length ∧ (List.range i).all (okAt ps) = true) (fun i => ps.length - i) ?_
  rintro i ⟨hi, ha⟩ ih
  by_cases hlt : i < ps.length
  ·obtain ⟨x, hx⟩ : ∃ x, x = ps.getD i [] := ⟨_, rfl⟩
   have hxm : x ∈ ps := by rw [hx, List.getD_eq_getElem?_getD, List.getElem?_eq_getElem hlt]; exact List.getElem_mem hlt
   have hxl := hp x hxm
   have hv : TV.v (stv (ps.getD (addN 0 (i : Int).toNat) [])) = TV.v (stv x) := by rw [hx, addN_eq, Nat.zero_add, Int.toNat_natCast]
   have hd : decide ((i : Int) < (ps.length : Int)) = true := decide_eq_true (by omega)
   have hib : 0 ≤ (i : Int) ∧ (i : Int) < (ps.length : Int) := ⟨by omega, by omega⟩
   have hidx : addN 0 (i : Int).toNat < ps.length := by rw [addN_eq]; omega
   have i2 : inI ((i : Int) + 1) := ⟨by omega, by omega⟩
   cases hpx : parseR x with
   | none =>
    rw [rise_no hlt (by unfold okAt; rw [← hx, hpx]; rfl)]
    exact At.fin rfl [(2005003, .val (.v (stv x))), (5004, hDp x none)] ⟨trivial, hDp_ok _ _ _ hxl hpx, trivial⟩ [.y, .d] (x := .v (.bool false)) (ob := [[decide ((i : Int) < (ps.length : Int)) = true, 0 ≤ (i : Int) ∧ (i : Int) < (ps.length : Int), TV.v (stv (ps.getD (addN 0 (i : Int).toNat) [])) = TV.v (stv x), addN 0 (i : Int).toNat < ps.length], qL (hDp x none)].flatten) (by kernel_rfl) (all_flat ⟨⟨hd, hib, hv, hidx, trivial⟩, all_qL _, trivial⟩) fun ρ' w' hf _ => ⟨rfl, hf.below⟩
   | some an =>
    obtain ⟨a, n⟩ := an
    by_cases h0 : i = 0
    ·have hg : TV.v (.bool (decide ((i : Int) > 0))) = TV.v (.bool false) := tv_b (decide_eq_false (by omega))
     have hok : okAt ps i = true := by unfold okAt; rw [← hx, hpx, decide_eq_true h0]; rfl
     have h9 := ih (i + 1) ⟨hlt, by rw [List.range_succ, List.all_append, ha]; simp [hok]⟩ (by show ps.length - (i + 1) < ps.length - i; omega)
     exact At.run rfl [(2005003, .val (.v (stv x))), (5004, hDp x (some (a, n))), (2005009, .val (.v (.bool false)))] ⟨trivial, hDp_ok _ _ _ hxl hpx, trivial, trivial⟩ [.y, .d] (tm2 := drT ps (i + 1)) (rows2 := [(1, strR ps)]) (ob := [[decide ((i : Int) < (ps.length : Int)) = true, 0 ≤ (i : Int) ∧ (i : Int) < (ps.length : Int), TV.v (stv (ps.getD (addN 0 (i : Int).toNat) [])) = TV.v (stv x), addN 0 (i : Int).toNat < ps.length], qL (hDp x (some (a, n))), [TV.v (.bool (decide ((i : Int) > 0))) = TV.v (.bool false), inI ((i : Int) + 1)]].flatten) (td := lp Tryd.f34 0) (by kernel_rfl) (all_flat ⟨⟨hd, hib, hv, hidx, trivial⟩, all_qL _, ⟨hg, i2, trivial⟩, trivial⟩) rfl rfl (by intro h; cases h) h9
    ·have hg : TV.v (.bool (decide ((i : Int) > 0))) = TV.v (.bool true) := tv_b (decide_eq_true (by omega))
     obtain ⟨y, hy⟩ : ∃ y, y = ps.getD (i - 1) [] := ⟨_, rfl⟩
     have hv2 : TV.v (stv (ps.getD (addN 0 ((i : Int) - 1).toNat) [])) = TV.v (stv y) := by rw [hy, addN_eq, Nat.zero_add, show ((i : Int) - 1).toNat = i - 1 by omega]
     have hib2 : 0 ≤ (i : Int) - 1 ∧ (i : Int) - 1 < (ps.length : Int) := ⟨by omega, by omega⟩
     have hidx2 : addN 0 ((i : Int) - 1).toNat < ps.length := by rw [addN_eq]; omega
     have i3 : inI ((i : Int) - 1) := ⟨by omega, by omega⟩
     cases hle : leS x y with
     | true =>
      have hle2 : TV.v (.bool (Op.bytesLess (lb ⟨x.toArray⟩) (lb ⟨y.toArray⟩) || lb ⟨x.toArray⟩ == lb ⟨y.toArray⟩)) = TV.v (.bool true) := tv_b hle
      rw [rise_no hlt (by unfold okAt; rw [← hx, ← hy, hle, decide_eq_false h0]; simp)]
      exact At.fin rfl [(2005003, .val (.v (stv x))), (5004, hDp x (some (a, n))), (2005009, .val (.v (.bool true))), (2005014, .val (.v (stv x))), (2005019, .val (.v (stv y))), (2005020, .val (.v (.bool true)))] ⟨trivial, hDp_ok _ _ _ hxl hpx, trivial, trivial, trivial, trivial, trivial⟩ [.y, .d] (x := .v (.bool false)) (ob := [[decide ((i : Int) < (ps.length : Int)) = true, 0 ≤ (i : Int) ∧ (i : Int) < (ps.length : Int), TV.v (stv (ps.getD (addN 0 (i : Int).toNat) [])) = TV.v (stv x), addN 0 (i : Int).toNat < ps.length], qL (hDp x (some (a, n))), [TV.v (.bool (decide ((i : Int) > 0))) = TV.v (.bool true), 0 ≤ (i : Int) ∧ (i : Int) < (ps.length : Int), TV.v (stv (ps.getD (addN 0 (i : Int).toNat) [])) = TV.v (stv x), addN 0 (i : Int).toNat < ps.length, inI ((i : Int) - 1), 0 ≤ (i : Int) - 1 ∧ (i : Int) - 1 < (ps.length : Int), TV.v (stv (ps.getD (addN 0 ((i : Int) - 1).toNat) [])) = TV.v (stv y), addN 0 ((i : Int) - 1).toNat < ps.length, TV.v (.bool (Op.bytesLess (lb ⟨x.toArray⟩) (lb ⟨y.toArray⟩) || lb ⟨x.toArray⟩ == lb ⟨y.toArray⟩)) = TV.v (.bool true)]].flatten) (by kernel_rfl) (all_flat ⟨⟨hd, hib, hv, hidx, trivial⟩, all_qL _, ⟨hg, hib, hv, hidx, i3, hib2, hv2, hidx2, hle2, trivial⟩, trivial⟩) fun ρ' w' hf _ => ⟨rfl, hf.below⟩
     | false =>
      have hle2 : TV.v (.bool (Op.bytesLess (lb ⟨x.toArray⟩) (lb ⟨y.toArray⟩) || lb ⟨x.toArray⟩ == lb ⟨y.toArray⟩)) = TV.v (.bool false) := tv_b hle
      have hok : okAt ps i = true := by unfold okAt; rw [← hx, ← hy, hle, hpx]; simp
      have h9 := ih (i + 1) ⟨hlt, by rw [List.range_succ, List.all_append, ha]; simp [hok]⟩ (by show ps.length - (i + 1) < ps.length - i; omega)
      exact At.run rfl [(2005003, .val (.v (stv x))), (5004, hDp x (some (a, n))), (2005009, .val (.v (.bool true))), (2005014, .val (.v (stv x))), (2005019, .val (.v (stv y))), (2005020, .val (.v (.bool false)))] ⟨trivial, hDp_ok _ _ _ hxl hpx, trivial, trivial, trivial, trivial, trivial⟩ [.y, .d] (tm2 := drT ps (i + 1)) (rows2 := [(1, strR ps)]) (ob := [[decide ((i : Int) < (ps.length : Int)) = true, 0 ≤ (i : Int) ∧ (i : Int) < (ps.length : Int), TV.v (stv (ps.getD (addN 0 (i : Int).toNat) [])) = TV.v (stv x), addN 0 (i : Int).toNat < ps.length], qL (hDp x (some (a, n))), [TV.v (.bool (decide ((i : Int) > 0))) = TV.v (.bool true), 0 ≤ (i : Int) ∧ (i : Int) < (ps.length : Int), TV.v (stv (ps.getD (addN 0 (i : Int).toNat) [])) = TV.v (stv x), addN 0 (i : Int).toNat < ps.length, inI ((i : Int) - 1), 0 ≤ (i : Int) - 1 ∧ (i : Int) - 1 < (ps.length : Int), TV.v (stv (ps.getD (addN 0 ((i : Int) - 1).toNat) [])) = TV.v (stv y), addN 0 ((i : Int) - 1).toNat < ps.length, TV.v (.bool (Op.bytesLess (lb ⟨x.toArray⟩) (lb ⟨y.toArray⟩) || lb ⟨x.toArray⟩ == lb ⟨y.toArray⟩)) = TV.v (.bool false), inI ((i : Int) + 1)]].flatten) (td := lp Tryd.f34 0) (by kernel_rfl) (all_flat ⟨⟨hd, hib, hv, hidx, trivial⟩, all_qL _, ⟨hg, hib, hv, hidx, i3, hib2, hv2, hidx2, hle2, i2, trivial⟩, trivial⟩) rfl rfl (by intro h; cases h) h9
  ·obtain rfl : i = ps.length := by omega
   rw [show riseL ps = true from ha]
   exact At.fin rfl [] trivial [.n] (x := .v (.bool true)) (ob := [decide ((ps.length : Int) < (ps.length : Int)) = false]) (by kernel_rfl) ⟨decide_eq_false (by omega), trivial⟩ fun ρ' w' hf _ => ⟨rfl, hf.below⟩
 exact At.run rfl [] trivial [] (tm2 := drT ps 0) (rows2 := [(1, strR ps)]) (ob := []) (td := lp Tryd.f34 0) (by kernel_rfl) trivial rfl rfl (by intro h; cases h) (hloop 0 ⟨Nat.zero_le _, rfl⟩)
set_option maxRecDepth 100000 in
theorem rrise_nil (pa : Option Addr) (ca : Nat) (w : World) : Calls Tryd.prog 34 #[.slice pa 0 ca] w (BoolQ w true) := by
 refine At.calls (args := [.v (.slice pa 0 ca)]) (rows := []) (gl := []) (wr := []) (ρ := fun _ => (⟨0, 0, 0⟩ : Blk)) Tryd.func34 rfl rfl (init_rw ⟨rfl, trivial⟩ rfl rfl rfl (fun p hp => by cases hp) (fun p hp => by cases hp) (fun p hp => by cases hp)) rfl ?_
 exact At.fin rfl [] trivial [.u, .d] (x := .v (.bool true)) (ob := []) (by kernel_rfl) trivial fun ρ' w' hf _ => ⟨rfl, hf.below⟩
end
end Go.Proofs.YtdbbcngolcnniaaDoor
/- The plain arithmetic of the document's roots: numbers of 256 bits as four words, added, moved up, compared; roots bit by bit; the first primes. No condition. -/
namespace Go.Proofs.YtdbbcngolcnniaaDoor.S3
set_option linter.unusedSimpArgs false
set_option linter.unusedVariables false
structure N4 where
 a : Nat
 b : Nat
 c : Nat
 d : Nat
def mk4 (a b c d : Nat) : N4 := force a fun a => force b fun b => force c fun c => force d fun d => ⟨a, b, c, d⟩
theorem mk4_eq (a b c d : Nat) : mk4 a b c d = ⟨a, b, c, d⟩ := by unfold mk4; simp only [force_eq]
def addL (x y : N4) : N4 :=
 force (x.a + y.a) fun s0 => force (x.b + y.b + s0 / 18446744073709551616) fun s1 => force (x.c + y.c + s1 / 18446744073709551616) fun s2 => force (x.d + y.d + s2 / 18446744073709551616) fun s3 =>
  mk4 (s0 % 18446744073709551616) (s1 % 18446744073709551616) (s2 % 18446744073709551616) (s3 % 18446744073709551616)
def at4 (x : N4) : Nat → Nat
 | 0 => x.a
 | 1 => x.b
 | 2 => x.c
 | _ => x.d
def upW (x : N4) (n i : Nat) : Nat :=
 if i < n / 64 then 0 else if i = n / 64 then at4 x 0 * 2 ^ (n % 64) % 18446744073709551616
  else at4 x (i - n / 64) * 2 ^ (n % 64) % 18446744073709551616 ||| at4 x (i - n / 64 - 1) / 2 / 2 ^ (63 - n % 64)
def upL (x : N4) (n : Nat) : N4 := mk4 (upW x n 0) (upW x n 1) (upW x n 2) (upW x n 3)
def lessL (x y : N4) : Bool := if x.d = y.d then (if x.c = y.c then (if x.b = y.b then decide (x.a < y.a) else decide (x.b < y.b)) else decide (x.c < y.c)) else decide (x.d < y.d)
def sumL (x y z : N4) : N4 := addL (addL x y) z
structure R3 where
 x : N4
 s : N4
 c : N4
def one4 : N4 := ⟨1, 0, 0, 0⟩
def sqL (r : R3) (i : Nat) : N4 := sumL r.s (upL r.x (i + 1)) (upL one4 (2 * i))
def cuStep (r : R3) (i : Nat) (c : N4) : N4 := sumL c (upL r.s i) (upL r.x (2 * i))
def cuL (r : R3) (i : Nat) : N4 := addL (cuStep r i (cuStep r i (cuStep r i r.c))) (upL one4 (3 * i))
def setBit (x : N4) (i : Nat) : N4 := if i / 64 = 0 then ⟨x.a ||| 2 ^ (i % 64), x.b, x.c, x.d⟩ else ⟨x.a, x.b ||| 2 ^ (i % 64), x.c, x.d⟩
def rStep (a : N4) (p3 : Bool) (r : R3) (i : Nat) : R3 :=
 let s := sqL r i
 let c := cuL r i
 if lessL a (if p3 then c else s) then r else ⟨setBit r.x i, s, c⟩
def rTo (a : N4) (p3 : Bool) : Nat → R3 → R3
 | 0, r => r
 | k + 1, r => rTo a p3 k (rStep a p3 r k)
def r0 : R3 := ⟨⟨0, 0, 0, 0⟩, ⟨0, 0, 0, 0⟩, ⟨0, 0, 0, 0⟩⟩
def rootL (a : N4) (p3 : Bool) : N4 := (rTo a p3 70 r0).x
def cons (p : Nat) : Nat := (rootL ⟨0, p * 4294967296 % 18446744073709551616, 0, 0⟩ true).a % 4294967296
def sqr (p : Nat) : Nat := (rootL ⟨0, p, 0, 0⟩ false).a % 4294967296
def pL : List Nat := [2, 3, 5, 7, 11, 13, 17, 19, 23, 29, 31, 37, 41, 43, 47, 53, 59, 61, 67, 71, 73, 79, 83, 89, 97, 101, 103, 107, 109, 113, 127, 131, 137, 139, 149, 151, 157, 163, 167, 173, 179, 181, 191, 193, 197, 199, 211, 223, 227, 229, 233, 239, 241, 251, 257, 263, 269, 271, 277, 281, 283, 293, 307, 311]
theorem cons_all : pL.map cons = kL := by decide +kernel
theorem sqr_all : (pL.take 8).map sqr = [1779033703, 3144134277, 1013904242, 2773480762, 1359893119, 2600822924, 528734635, 1541459225] := by decide +kernel
end Go.Proofs.YtdbbcngolcnniaaDoor.S3
/- AddNum of the document's package: numbers of four words added. No condition but that the words have 64 bits. -/
namespace Go.Proofs.YtdbbcngolcnniaaDoor.S3
set_option linter.unusedSimpArgs false
open Go.RowKit
set_option linter.unusedVariables false
def N4.ok (x : N4) : Prop := x.a < 18446744073709551616 ∧ x.b < 18446744073709551616 ∧ x.c < 18446744073709551616 ∧ x.d < 18446744073709551616
theorem at4_lt {x : N4} (h : x.ok) (j : Nat) : at4 x j < 18446744073709551616 := by
 obtain ⟨h1, h2, h3, h4⟩ := h
 unfold at4
 split <;> assumption
def num (x : N4) : Array Value := (rowOf .u64 4 (at4 x)).toArray
theorem zero47 (w : World) : (zeroValue 80).run Tryd.prog w = .ok (.agg (rowOf .u64 4 (fun _ => 0)).toArray) w := by kernel_rfl
theorem size47 (f : Nat → Nat) : (Tryd.prog.info? 80).map (·.size) = some (rowOf .u64 4 f).length := by rw [rowOf_length]; kernel_rfl
theorem results_two {fn : Func} {a b : Tmp} {t : TypeId} (h : fn.results = #[.cell a t, .tmp b]) (tmps : Array Value) (P : Program) (w : World) (ad : Addr) (ha : tmps.getD a undef = .pointer (some ad)) (v : Value)
  (hl : (loadVar t ad).run P w = .ok v w) : (results fn tmps).run P w = .ok (.tuple #[v, tmps.getD b undef]) w := by
 have ha2 : tmps[a]?.getD undef = .pointer (some ad) := by rw [← Array.getD_eq_getD_getElem?]; exact ha
 unfold results
 rw [h]
 simp [Array.mapM_eq_mapM_toList, ha2, asAddr, hl]
def cA (a b : Nat → Nat) : Nat → Nat
 | 0 => 0
 | k + 1 => (a k + b k + cA a b k) / 18446744073709551616
def tA (a b : Nat → Nat) (k : Nat) : Nat := (a k + b k + cA a b k) % 18446744073709551616
def tTo (a b : Nat → Nat) (k j : Nat) : Nat := if j < k then tA a b j else 0
theorem cA_le (a b : Nat → Nat) (ha : ∀ j, a j < 18446744073709551616) (hb : ∀ j, b j < 18446744073709551616) : ∀ k, cA a b k ≤ 1
 | 0 => by unfold cA; omega
 | k + 1 => by
  have h1 := ha k
  have h2 := hb k
  have h3 := cA_le a b ha hb k
  unfold cA
  omega
theorem wrap64_add (x y : Nat) : IntKind.u64.wrap ((x : Int) + (y : Int)) = (((x + y) % 18446744073709551616 : Nat) : Int) := by
 have h : IntKind.u64.wrap ((x : Int) + (y : Int)) = ((x : Int) + (y : Int)) % 18446744073709551616 := by simp [IntKind.wrap, IntKind.bits, IntKind.signed]
 rw [h]; omega
theorem carry_of (x y c : Nat) (hx : x < 18446744073709551616) (hy : y < 18446744073709551616) (hc : c ≤ 1) : ∃ S T : Nat, IntKind.u64.wrap ((x : Int) + (y : Int)) = (S : Int) ∧ IntKind.u64.wrap ((S : Int) + (c : Int)) = (T : Int) ∧ T = (x + y + c) % 18446744073709551616 ∧
  ((S < x ∧ (x + y + c) / 18446744073709551616 = 1) ∨ (x ≤ S ∧ T < S ∧ (x + y + c) / 18446744073709551616 = 1) ∨ (x ≤ S ∧ S ≤ T ∧ (x + y + c) / 18446744073709551616 = 0)) := by
 refine ⟨(x + y) % 18446744073709551616, ((x + y) % 18446744073709551616 + c) % 18446744073709551616, wrap64_add x y, wrap64_add _ c, by omega, ?_⟩
 omega
theorem tTo_step (a b : Nat → Nat) (k v : Nat) (hv : v = tA a b k) : ∀ j, j < 4 → upd (tTo a b k) k v j = tTo a b (k + 1) j := by
 intro j _
 unfold upd tTo
 by_cases e : j = k
 ·subst e; rw [if_pos rfl, if_pos (by omega), hv]
 ·rw [if_neg e]
  by_cases h : j < k
  ·rw [if_pos h, if_pos (by omega)]
  ·rw [if_neg h, if_neg (by omega)]
set_option maxRecDepth 100000 in
set_option maxHeartbeats 1000000 in
theorem add_walk (a b : Nat → Nat) (ha : ∀ j, a j < 18446744073709551616) (hb : ∀ j, b j < 18446744073709551616) (w : World) :
  Calls Tryd.prog 75 #[.agg (rowOf .u64 4 a).toArray, .agg (rowOf .u64 4 b).toArray] w fun e w' => e = .returned (.tuple #[.agg (rowOf .u64 4 (tA a b)).toArray, .int .u64 (cA a b 4)]) ∧ Below w.heap.size w w' := by
 obtain ⟨ra, hra⟩ : ∃ ra, Hid (ra = (rowOf .u64 4 a).toArray) := ⟨_, Lib.hid rfl⟩
 obtain ⟨rb, hrb⟩ : ∃ rb, Hid (rb = (rowOf .u64 4 b).toArray) := ⟨_, Lib.hid rfl⟩
 rw [← hra.out, ← hrb.out]
 have HA := Lib.hid ha
 have HBb := Lib.hid hb
 clear ha hb
 go_enter Tryd.func75, Tryd.ntmps75
 go_wp2_with (refine wpList_run rfl _ (exec_alloc_agg _ 80 rfl _ (zero47 _)) ?_)
 have hW : ∀ w4 : World, w4 = (((w.alloc (.cells ra 80)).alloc (.cells rb 80)).alloc (.cells (rowOf .u64 4 fun _ => 0).toArray 80)).alloc (.cells (rowOf .u64 4 fun _ => 0).toArray 80) →
   Row w4 w.heap.size 80 .u64 4 a ∧ Row w4 (w.heap.size + 1) 80 .u64 4 b ∧ Row w4 (w.heap.size + 1 + 1) 80 .u64 4 (fun _ => 0) ∧ Row w4 (w.heap.size + 1 + 1 + 1) 80 .u64 4 (tTo a b 0) ∧ Below w.heap.size w w4 := by
  rintro w4 rfl
  rw [hra.out, hrb.out]
  refine ⟨(((Row.new w 80 .u64 4 a).alloc _).alloc _).alloc _, ?_, ?_, ?_, ((((Below.refl _ w).alloc (Nat.le_refl _) _).alloc (by simp) _).alloc (by simp <;> omega) _).alloc (by simp <;> omega) _⟩
  ·have h := Row.new (w.alloc (.cells (rowOf .u64 4 a).toArray 80)) 80 .u64 4 b
   rw [World.size_alloc] at h
   exact (h.alloc _).alloc _
  ·have h := Row.new ((w.alloc (.cells (rowOf .u64 4 a).toArray 80)).alloc (.cells (rowOf .u64 4 b).toArray 80)) 80 .u64 4 (fun _ => 0)
   rw [World.size_alloc, World.size_alloc] at h
   exact h.alloc _
  ·have h := Row.new (((w.alloc (.cells (rowOf .u64 4 a).toArray 80)).alloc (.cells (rowOf .u64 4 b).toArray 80)).alloc (.cells (rowOf .u64 4 fun _ => 0).toArray 80)) 80 .u64 4 (fun _ => 0)
   rw [World.size_alloc, World.size_alloc, World.size_alloc] at h
   exact h
 have hW2 := hW _ rfl
 obtain ⟨w4, hw4⟩ : ∃ w4, w4 = (((w.alloc (.cells ra 80)).alloc (.cells rb 80)).alloc (.cells (rowOf .u64 4 fun _ => 0).toArray 80)).alloc (.cells (rowOf .u64 4 fun _ => 0).toArray 80) := ⟨_, rfl⟩
 rw [← hw4] at hW2 ⊢
 have HW := Lib.hid hW2
 clear hW hW2 hw4
 go_loopw [7, 8, 9, 10] (fun c i s t wr => ∃ k : Nat, k ≤ 4 ∧ i = .int .i64 k ∧ c = .int .u64 (cA a b k) ∧ Row wr w.heap.size 80 .u64 4 a ∧ Row wr (w.heap.size + 1) 80 .u64 4 b ∧ Row wr (w.heap.size + 1 + 1) 80 .u64 4 (fun _ => 0) ∧ Row wr (w.heap.size + 1 + 1 + 1) 80 .u64 4 (tTo a b k) ∧ Below w.heap.size w wr) (fun _ i _ _ _ => 4 - (intOf i).toNat)
 case atStart => exact ⟨0, by omega, rfl, rfl, HW.out⟩
 case round =>
  clear HW
  obtain ⟨k, hk, rfl, rfl, h0, h1, h2, h3, hbl⟩ := hrel
  have H0 := Lib.hid h0
  have H1 := Lib.hid h1
  have H2 := Lib.hid h2
  have H3 := Lib.hid h3
  have HB := Lib.hid hbl
  clear h0 h1 h2 h3 hbl
  by_cases hlt : k < 4
  ·have hk4 : (k : Int) < 4 := by omega
   have c0 : wr.cell? ⟨w.heap.size, k, none⟩ = some (.int .u64 (a k)) := H0.out.cell k hlt
   have c1 : wr.cell? ⟨w.heap.size + 1, k, none⟩ = some (.int .u64 (b k)) := H1.out.cell k hlt
   have c3 : wr.cell? ⟨w.heap.size + 1 + 1 + 1, k, none⟩ = some (.int .u64 (tTo a b k k)) := H3.out.cell k hlt
   have f3 : wr.frozen? ⟨w.heap.size + 1 + 1 + 1, k, none⟩ = false := H3.out.free k
   obtain ⟨S, T, hS, hT, hT2, hcar0⟩ := carry_of (a k) (b k) (cA a b k) (HA.out k) (HBb.out k) (cA_le a b HA.out HBb.out k)
   have HT2 : Hid (T = tA a b k) := hT2
   have hcar : (S < a k ∧ cA a b (k + 1) = 1) ∨ (a k ≤ S ∧ T < S ∧ cA a b (k + 1) = 1) ∨ (a k ≤ S ∧ S ≤ T ∧ cA a b (k + 1) = 0) := hcar0
   clear hT2 hcar0
   have HSET : Hid (Row ((wr.drewN 1).setCell ⟨w.heap.size + 1 + 1 + 1, k, none⟩ (.int .u64 T)) (w.heap.size + 1 + 1 + 1) 80 .u64 4 (tTo a b (k + 1))) := Lib.hid ((Row.set (w := wr.drewN 1) H3.out k T).ext (tTo_step a b k T HT2.out))
   generalize a k = x at *
   generalize b k = y at *
   generalize cA a b k = c at *
   generalize tTo a b k k = old at *
   rcases hcar with ⟨hc1, hc2⟩ | ⟨hc1, hc3, hc2⟩ | ⟨hc1, hc3, hc2⟩
   all_goals
    have HC := Lib.hid hc2
    clear hc2
   ·have d1 : decide ((S : Int) < (x : Int)) = true := by simp; omega
    have hc1I : (S : Int) < (x : Int) := by omega
    go_wp2
    go_quiet (fail)
    go_wp2
    go_roundw
    case rel =>
     refine ⟨k + 1, by omega, by go_num, ?_, H0.out.other _ _ (by show w.heap.size ≠ w.heap.size + 1 + 1 + 1; omega), H1.out.other _ _ (by show w.heap.size + 1 ≠ w.heap.size + 1 + 1 + 1; omega), H2.out.other _ _ (by show w.heap.size + 1 + 1 ≠ w.heap.size + 1 + 1 + 1; omega), ?_, ?_⟩
     ·rw [HC.out]; rfl
     ·exact HSET.out
     ·exact Below.setCell (Below.drewN' HB.out _) (p := ⟨w.heap.size + 1 + 1 + 1, k, none⟩) (by show w.heap.size ≤ w.heap.size + 1 + 1 + 1; omega) _
    case measure => simp [intOf]; omega
   ·have d1 : decide ((S : Int) < (x : Int)) = false := by simp; omega
    have d2 : decide ((T : Int) < (S : Int)) = true := by simp; omega
    have hc1I : (x : Int) ≤ (S : Int) := by omega
    have hc3I : (T : Int) < (S : Int) := by omega
    go_wp2
    go_quiet (fail)
    go_wp2
    go_roundw
    case rel =>
     refine ⟨k + 1, by omega, by go_num, ?_, H0.out.other _ _ (by show w.heap.size ≠ w.heap.size + 1 + 1 + 1; omega), H1.out.other _ _ (by show w.heap.size + 1 ≠ w.heap.size + 1 + 1 + 1; omega), H2.out.other _ _ (by show w.heap.size + 1 + 1 ≠ w.heap.size + 1 + 1 + 1; omega), ?_, ?_⟩
     ·rw [HC.out]; rfl
     ·exact HSET.out
     ·exact Below.setCell (Below.drewN' HB.out _) (p := ⟨w.heap.size + 1 + 1 + 1, k, none⟩) (by show w.heap.size ≤ w.heap.size + 1 + 1 + 1; omega) _
    case measure => simp [intOf]; omega
   ·have d1 : decide ((S : Int) < (x : Int)) = false := by simp; omega
    have d2 : decide ((T : Int) < (S : Int)) = false := by simp; omega
    have hc1I : (x : Int) ≤ (S : Int) := by omega
    have hc3I : (S : Int) ≤ (T : Int) := by omega
    go_wp2
    go_quiet (fail)
    go_wp2
    go_roundw
    case rel =>
     refine ⟨k + 1, by omega, by go_num, ?_, H0.out.other _ _ (by show w.heap.size ≠ w.heap.size + 1 + 1 + 1; omega), H1.out.other _ _ (by show w.heap.size + 1 ≠ w.heap.size + 1 + 1 + 1; omega), H2.out.other _ _ (by show w.heap.size + 1 + 1 ≠ w.heap.size + 1 + 1 + 1; omega), ?_, ?_⟩
     ·rw [HC.out]; rfl
     ·exact HSET.out
     ·exact Below.setCell (Below.drewN' HB.out _) (p := ⟨w.heap.size + 1 + 1 + 1, k, none⟩) (by show w.heap.size ≤ w.heap.size + 1 + 1 + 1; omega) _
    case measure => simp [intOf]; omega
  ·obtain rfl : k = 4 := by omega
   obtain ⟨cs, hcs⟩ : ∃ cs, Hid (cs = rowOf .u64 4 (tA a b)) := ⟨_, Lib.hid rfl⟩
   have hrow : wr.heap[w.heap.size + 1 + 1 + 1]? = some (.cells cs.toArray 80 (0, 0)) := by
    rw [hcs.out]
    exact H3.out.ext (fun j hj => by unfold tTo; rw [if_pos hj])
   have hseg : Hid (∀ j v, cs[j]? = some v → wr.cell? ⟨w.heap.size + 1 + 1 + 1, 0 + j, none⟩ = some v) := by
    intro j v hv
    rw [cell_of_row _ _ _ _ _ _ hrow, Nat.zero_add, List.getElem?_toArray, hv]
   have hlen : Hid (cs.length = 4) := by unfold Hid; rw [hcs.out, rowOf_length]
   have hsz : Hid ((Tryd.prog.info? 80).map (·.size) = some cs.length) := by unfold Hid; rw [hcs.out]; exact size47 _
   have hone : Hid (∀ v ∈ cs, v.oneCell' = true) := by unfold Hid; rw [hcs.out]; exact rowOf_one _ _ _
   have hfit : Hid (0 + cs.length ≤ (rowOf .u64 4 (fun _ => 0)).toArray.size) := by unfold Hid; rw [hlen.out, rowOf_size]; exact Nat.le_refl _
   have hfit2 : Hid ((rowOf .u64 4 (fun _ => 0)).toArray.size = cs.length) := by unfold Hid; rw [hlen.out, rowOf_size]
   clear hrow
   rw [show ((4 : Nat) : Int) = (4 : Int) from rfl]
   go_wp2_with (first | (refine wpList_load_seg rfl 80 (.tmp 6) rfl (w.heap.size + 1 + 1 + 1) 0 rfl cs _ hseg.out Tryd.underlying80 rfl hsz.out ?_) | (refine wpList_store_seg rfl 80 (.tmp 4) (.tmp 38) rfl (w.heap.size + 1 + 1) 0 rfl cs rfl _ 80 H2.out hfit.out hone.out hsz.out ?_))
   rw [splice_all _ _ hfit2.out]
   have hld : (loadVar 80 ⟨w.heap.size + 1 + 1, 0, none⟩).run Tryd.prog (wr.setRow (w.heap.size + 1 + 1) cs.toArray) = .ok (.agg cs.toArray) (wr.setRow (w.heap.size + 1 + 1) cs.toArray) := by
    refine run_loadVar_seg _ 80 (w.heap.size + 1 + 1) 0 cs _ (fun j v hv => ?_) Tryd.underlying80 rfl hsz.out
    rw [cell_of_row _ (w.heap.size + 1 + 1) (0 + j) cs.toArray 80 (0, 0) (setRow_heap _ _ _ _ _ _ H2.out), Nat.zero_add, List.getElem?_toArray, hv]
   have hbel : Below w.heap.size w (wr.setRow (w.heap.size + 1 + 1) cs.toArray) := by
    exact HB.out.trans ⟨rfl, rfl, rfl, by simp, fun k hk => setRow_other _ _ _ _ (by omega)⟩
   generalize wr.setRow (w.heap.size + 1 + 1) cs.toArray = W2 at *
   refine bodyPost_ret (results_two rfl _ _ _ ⟨w.heap.size + 1 + 1, 0, none⟩ rfl _ hld) rfl ⟨?_, hbel⟩
   rw [hcs.out]
   rfl
theorem tA_add (x y : N4) : rowOf .u64 4 (tA (at4 x) (at4 y)) = rowOf .u64 4 (at4 (addL x y)) := by
 refine rowOf_ext (fun j hj => ?_)
 unfold addL
 simp only [force_eq, mk4_eq]
 rcases (show j = 0 ∨ j = 1 ∨ j = 2 ∨ j = 3 by omega) with rfl | rfl | rfl | rfl
 ·unfold tA cA at4; rfl
 ·unfold tA cA cA at4; rfl
 ·unfold tA cA cA cA at4; rfl
 ·unfold tA cA cA cA cA at4; rfl
theorem addL_ok (x y : N4) : (addL x y).ok := by
 unfold addL N4.ok
 simp only [force_eq, mk4_eq]
 refine ⟨?_, ?_, ?_, ?_⟩ <;> exact Nat.mod_lt _ (by decide)
theorem add_any (x y : N4) (hx : x.ok) (hy : y.ok) (w : World) :
  Calls Tryd.prog 75 #[.agg (num x), .agg (num y)] w fun e w' => e = .returned (.tuple #[.agg (num (addL x y)), .int .u64 (cA (at4 x) (at4 y) 4)]) ∧ Below w.heap.size w w' := by
 have h := add_walk (at4 x) (at4 y) (at4_lt hx) (at4_lt hy) w
 rw [tA_add] at h
 exact h
end Go.Proofs.YtdbbcngolcnniaaDoor.S3
