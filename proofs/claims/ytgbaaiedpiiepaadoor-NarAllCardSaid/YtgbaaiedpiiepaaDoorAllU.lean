/- Slices of nodes and of texts, as they came in, opened. No condition. -/
import Derived.Test.YtgbaaiedpiiepaaDoorU19
import Derived.Deep.Slices
import Derived.ProofKit
import Derived.OpenShut
import Derived.ChangeOld
namespace Go.Proofs.YtgbaaiedpiiepaaDoor
open Go.RowKit Go.Shelf
set_option linter.unusedVariables false
set_option linter.unusedSimpArgs false
section
open E
theorem heavy_nil (a : Option Addr) (cap : Nat) (w : World) : Calls Tryd.prog 10 #[.slice a 0 cap] w fun e w' => e = .returned (.bool false) ∧ Below w.heap.size w w' :=
  straight [.v (.slice a 0 cap)] [] [.u, .n] Tryd.func10 rfl mixed trivial ⟨rfl, trivial⟩ rfl rfl rfl (ρ0 := fun _ => ⟨0, 0, 0⟩) (ob := [false = false]) (x := .v (.bool false)) (by kernel_rfl) ⟨rfl, trivial⟩ (fun _ => rfl)
theorem heavy_v (v : Value) (l : List Nd) (hl : l.length ≤ 9223372036854775807) (hp : ∀ c ∈ l, c.path.length ≤ 9223372036854775807) (hd : ∀ c ∈ l, c.data.length ≤ 9223372036854775807) (w : World) (h : NdV w v l) : Calls Tryd.prog 10 #[v] w fun e w' => e = .returned (.bool (heavyL l)) ∧ Below w.heap.size w w' := by
  obtain ⟨a, cap, rfl, h1, h2, h3⟩ := h
  cases l with
  | nil => exact heavy_nil a cap w
  | cons d r =>
    obtain ⟨b, o, rfl, hN⟩ := h3 (by simp)
    exact (heavy_any b o cap (d :: r) hl hp hd w hN).mono (by rintro e w' ⟨rfl, rfl⟩; exact ⟨rfl, Below.refl _ _⟩)
theorem rmay_v (v : Value) (l : List Nd) (hl : l.length ≤ 100000) (hp : ∀ c ∈ l, c.path.length ≤ 1000000) (hd : ∀ c ∈ l, c.data.length ≤ 1000000) (w : World) (h : NdV w v l) : Calls Tryd.prog 15 #[v] w fun e w' => e = .returned (.bool (mayL l)) ∧ Below w.heap.size w w' := by
  obtain ⟨a, cap, rfl, h1, h2, h3⟩ := h
  cases l with
  | nil => exact (may_nil a cap w).mono (by rintro e w' ⟨rfl, rfl⟩; exact ⟨rfl, Below.refl _ _⟩)
  | cons d r =>
    obtain ⟨b, o, rfl, hN⟩ := h3 (by simp)
    exact may_pos b o cap d r hl hp hd w hN
theorem packV_eq (l : List Nd) : packV l = .agg #[strV (packS l), .int .i64 (packE l)] := by
  unfold packV packS packE packL
  cases mayL l <;> rfl
theorem ent15 : Enters Tryd.prog 15 := enters_of Tryd.func15 (by kernel_rfl) rfl
theorem rpack_nil (a : Option Addr) (cap : Nat) (w : World) : Calls Tryd.prog 13 #[.slice a 0 cap] w fun e w' => e = .returned (packV []) ∧ Below w.heap.size w w' :=
  straight [.v (.slice a 0 cap)] [(2001, pc 15 #[.slice a 0 cap] (.v (.bool false)))] [.y] Tryd.func13 rfl mixed ⟨pc_ok ent15 (v := .bool false) rfl (fun _ => rfl) fun w => (may_nil a cap w).mono (by rintro e w' ⟨rfl, rfl⟩; exact ⟨rfl, Below.refl _ _⟩), trivial⟩ ⟨rfl, trivial⟩ rfl rfl rfl (ρ0 := fun _ => ⟨0, 0, 0⟩)
    (ob := [∀ ρ : Env, #[Value.slice a 0 cap] = #[.slice a 0 cap], true = true]) (x := .s (.agg [.one (.v (.string ⟨#[]⟩)), .one (.v (.int .i64 1))])) (by kernel_rfl) ⟨fun _ => rfl, rfl, trivial⟩ (fun _ => rfl)
theorem rpack_v (v : Value) (l : List Nd) (hl : l.length ≤ 100000) (hp : ∀ c ∈ l, c.path.length ≤ 1000000) (hd : ∀ c ∈ l, c.data.length ≤ 1000000) (w : World) (h : NdV w v l) : Calls Tryd.prog 13 #[v] w fun e w' => e = .returned (.agg #[strV (packS l), .int .i64 (packE l)]) ∧ Below w.heap.size w w' := by
  rw [← packV_eq]
  obtain ⟨a, cap, rfl, h1, h2, h3⟩ := h
  cases l with
  | nil => exact rpack_nil a cap w
  | cons d r =>
    obtain ⟨b, o, rfl, hN⟩ := h3 (by simp)
    refine pack_pos b o cap d r hl hp hd (Nat.le_trans (costs_le (d :: r) 1000000 1000000 hp hd) ?_) w hN
    refine Nat.le_trans (Nat.mul_le_mul_right _ hl) ?_
    omega
theorem rsame_short (a a2 : Option Addr) (n m cap cap2 : Nat) (h : n = 0 ∨ m = 0) (w : World) : Calls Tryd.prog 24 #[.slice a n cap, .slice a2 m cap2] w fun e w' => e = .returned (.bool (decide (n = m))) ∧ Below w.heap.size w w' := by
  by_cases hne : n = m
  · obtain rfl : n = 0 := by omega
    subst hne
    exact straight [.v (.slice a 0 cap), .v (.slice a2 0 cap2)] [] [.n, .u, .n] Tryd.func24 rfl mixed trivial ⟨rfl, rfl, trivial⟩ rfl rfl rfl (ρ0 := fun _ => ⟨0, 0, 0⟩) (ob := [false = false, false = false]) (x := .v (.bool true)) (by kernel_rfl) ⟨rfl, rfl, trivial⟩ (fun _ => rfl)
  · rw [decide_eq_false hne]
    exact straight [.v (.slice a n cap), .v (.slice a2 m cap2)] [] [.y] Tryd.func24 rfl mixed trivial ⟨rfl, rfl, trivial⟩ rfl rfl rfl (ρ0 := fun _ => ⟨0, 0, 0⟩) (ob := [((n : Int) != (m : Int)) = true]) (x := .v (.bool false)) (by kernel_rfl) ⟨by simp; omega, trivial⟩ (fun _ => rfl)
theorem rsame_v (v v2 : Value) (l m : List Nd) (hl : l.length ≤ 1000000000000000) (hm : m.length ≤ 1000000000000000) (w : World) (h1 : NdV w v l) (h2 : NdV w v2 m) : Calls Tryd.prog 24 #[v, v2] w fun e w' => e = .returned (.bool (sameL l m)) ∧ Below w.heap.size w w' := by
  obtain ⟨a, cap, rfl, _, _, h3⟩ := h1
  obtain ⟨a2, cap2, rfl, _, _, h4⟩ := h2
  by_cases h : l.length = 0 ∨ m.length = 0
  · refine (rsame_short a a2 l.length m.length cap cap2 h w).mono ?_
    rintro e w' ⟨rfl, hb⟩
    refine ⟨?_, hb⟩
    by_cases hq : l.length = m.length
    · have e1 : l = [] := List.length_eq_zero_iff.1 (by omega)
      have e2 : m = [] := List.length_eq_zero_iff.1 (by omega)
      rw [e1, e2]; rfl
    · rw [same_len l m hq, decide_eq_false hq]
  · obtain ⟨b, o, rfl, hN⟩ := h3 (by omega)
    obtain ⟨b2, o2, rfl, hN2⟩ := h4 (by omega)
    exact (same_any b o cap b2 o2 cap2 l m (by omega) (by omega) w hN hN2).mono (by rintro e w' ⟨rfl, hb⟩; first | exact ⟨rfl, hb⟩ | (subst hb; exact ⟨rfl, Below.refl _ _⟩))
/-- Where nodes lie: what a run knows of them. -/
def NdSrc (tv : TV) (rl : List (Nat × Row)) (l : List Nd) : Prop := ∀ (ρ : Env) (w : World), (∀ p ∈ rl, RowAt ρ p.1 p.2 w) → NdV w (tv.val ρ) l
theorem src_nil (a : Option Addr) (cap : Nat) (hc : cap ≤ 9223372036854775807) : NdSrc (.v (.slice a 0 cap)) [] [] := fun ρ w _ => ⟨a, cap, rfl, by simp, hc, fun h => absurd h (Nat.lt_irrefl _)⟩
theorem src_row (r cap : Nat) (l : List Nd) (h0 : 0 < l.length) (h1 : l.length ≤ cap) (hc : cap ≤ 9223372036854775807) : NdSrc (.s (.lf (.sl r 0 0 3 l.length (some cap)))) [(r, ndRow (ndf l) l.length)] l := fun ρ w h => by
  have h2 := h (r, ndRow (ndf l) l.length) (by simp)
  exact ⟨_, cap, rfl, h1, hc, fun _ => ⟨_, _, rfl, row_nodes h2 (Nat.le_refl _) (fun i hi => rfl) (fun i hi => by rw [ndf_at l i hi])⟩⟩
theorem ent10 : Enters Tryd.prog 10 := enters_of Tryd.func10 (by kernel_rfl) rfl
theorem ent13 : Enters Tryd.prog 13 := enters_of Tryd.func13 (by kernel_rfl) rfl
theorem ent18 : Enters Tryd.prog 18 := enters_of Tryd.func18 (by kernel_rfl) rfl
theorem ent20 : Enters Tryd.prog 20 := enters_of Tryd.func20 (by kernel_rfl) rfl
theorem ent22 : Enters Tryd.prog 22 := enters_of Tryd.func22 (by kernel_rfl) rfl
theorem ent23 : Enters Tryd.prog 23 := enters_of Tryd.func23 (by kernel_rfl) rfl
theorem ent24 : Enters Tryd.prog 24 := enters_of Tryd.func24 (by kernel_rfl) rfl
abbrev hH (tv : TV) (rl : List (Nat × Row)) (b : Bool) : Hint := pr 10 (fun ρ => #[tv.val ρ]) (.v (.bool b)) rl
abbrev hP (tv : TV) (rl : List (Nat × Row)) (s : List UInt8) (e : Int) : Hint := pr 12 (fun ρ => #[tv.val ρ]) (.tup [.lf (.v (stv s)), .lf (.v (.int .i64 e))]) rl
abbrev hRP (tv : TV) (rl : List (Nat × Row)) (s : List UInt8) (e : Int) : Hint := pr 13 (fun ρ => #[tv.val ρ]) (.s (.agg [.one (.v (stv s)), .one (.v (.int .i64 e))])) rl
abbrev hMy (tv : TV) (rl : List (Nat × Row)) (b : Bool) : Hint := pr 14 (fun ρ => #[tv.val ρ]) (.v (.bool b)) rl
abbrev hRM (tv : TV) (rl : List (Nat × Row)) (b : Bool) : Hint := pr 15 (fun ρ => #[tv.val ρ]) (.v (.bool b)) rl
abbrev hSm (f : Nat) (tv tv2 : TV) (rl rl2 : List (Nat × Row)) (b : Bool) : Hint := pr f (fun ρ => #[tv.val ρ, tv2.val ρ]) (.v (.bool b)) (rl ++ rl2)
theorem hH_ok (id : Nat) {tv : TV} {rl : List (Nat × Row)} {l : List Nd} {b : Bool} (hS : NdSrc tv rl l) (hl : l.length ≤ 9223372036854775807) (hp : ∀ c ∈ l, c.path.length ≤ 9223372036854775807) (hd : ∀ c ∈ l, c.data.length ≤ 9223372036854775807) (hb : heavyL l = b) : HintOk Tryd.prog id (hH tv rl b) :=
  pr_ok ent10 (v := .bool b) rfl (fun _ => rfl) fun ρ w h => by rw [← hb]; exact heavy_v _ l hl hp hd w (hS ρ w h)
theorem hP_ok (id : Nat) {tv : TV} {rl : List (Nat × Row)} {l : List Nd} (hS : NdSrc tv rl l) (hl : l.length ≤ 1000000) (hp : ∀ c ∈ l, c.path.length ≤ 10000) (hd : ∀ c ∈ l, c.data.length ≤ 100000) : HintOk Tryd.prog id (hP tv rl (packS l) (packE l)) :=
  pr_ok ent12 (v := .tuple #[strV (packS l), .int .i64 (packE l)]) (ok2 rfl rfl) (fun _ => rfl) fun ρ w h => ppack_any _ l hl hp hd w (hS ρ w h)
theorem hRP_ok (id : Nat) {tv : TV} {rl : List (Nat × Row)} {l : List Nd} (hS : NdSrc tv rl l) (hl : l.length ≤ 100000) (hp : ∀ c ∈ l, c.path.length ≤ 1000000) (hd : ∀ c ∈ l, c.data.length ≤ 1000000) : HintOk Tryd.prog id (hRP tv rl (packS l) (packE l)) :=
  pr_ok ent13 (v := .agg #[strV (packS l), .int .i64 (packE l)]) (by intro q hq; simp at hq; rcases hq with rfl | rfl <;> rfl) (fun _ => rfl) fun ρ w h => rpack_v _ l hl hp hd w (hS ρ w h)
theorem hMy_ok (id : Nat) {tv : TV} {rl : List (Nat × Row)} {l : List Nd} (hS : NdSrc tv rl l) (hl : l.length ≤ 1000000) (hp : ∀ c ∈ l, c.path.length ≤ 1000000) (hd : ∀ c ∈ l, c.data.length ≤ 1000000) : HintOk Tryd.prog id (hMy tv rl (mayL l)) :=
  pr_ok ent14 (v := .bool (mayL l)) rfl (fun _ => rfl) fun ρ w h => pmay_v _ l hl hp hd w (hS ρ w h)
theorem hRM_ok (id : Nat) {tv : TV} {rl : List (Nat × Row)} {l : List Nd} (hS : NdSrc tv rl l) (hl : l.length ≤ 100000) (hp : ∀ c ∈ l, c.path.length ≤ 1000000) (hd : ∀ c ∈ l, c.data.length ≤ 1000000) : HintOk Tryd.prog id (hRM tv rl (mayL l)) :=
  pr_ok ent15 (v := .bool (mayL l)) rfl (fun _ => rfl) fun ρ w h => rmay_v _ l hl hp hd w (hS ρ w h)
theorem hSm_ok (id : Nat) {tv tv2 : TV} {rl rl2 : List (Nat × Row)} {l m : List Nd} (hS : NdSrc tv rl l) (hS2 : NdSrc tv2 rl2 m) (hl : l.length ≤ 1000000000000000) (hm : m.length ≤ 1000000000000000) : HintOk Tryd.prog id (hSm 23 tv tv2 rl rl2 (sameL l m)) ∧ HintOk Tryd.prog id (hSm 24 tv tv2 rl rl2 (sameL l m)) :=
  ⟨pr_ok ent23 (v := .bool (sameL l m)) rfl (fun _ => rfl) fun ρ w h => psame_any _ _ l m hl hm w (hS ρ w fun p hp => h p (List.mem_append.2 (.inl hp))) (hS2 ρ w fun p hp => h p (List.mem_append.2 (.inr hp))),
   pr_ok ent24 (v := .bool (sameL l m)) rfl (fun _ => rfl) fun ρ w h => rsame_v _ _ l m hl hm w (hS ρ w fun p hp => h p (List.mem_append.2 (.inl hp))) (hS2 ρ w fun p hp => h p (List.mem_append.2 (.inr hp)))⟩
end
end Go.Proofs.YtgbaaiedpiiepaaDoor
namespace Go.Proofs.YtgbaaiedpiiepaaDoor
open Go.RowKit Go.Shelf
set_option linter.unusedVariables false
set_option linter.unusedSimpArgs false
section
open E
abbrev hNm (f : Nat) (s : List UInt8) (b : Bool) : Hint := pc f #[stv s] (.v (.bool b))
theorem ent17 : Enters Tryd.prog 17 := enters_of Tryd.func17 (by kernel_rfl) rfl
theorem hNm_ok (id : Nat) (s : List UInt8) (hs : s.length ≤ 1000000) : HintOk Tryd.prog id (hNm 17 s (mayNameL s)) ∧ HintOk Tryd.prog id (hNm 18 s (mayNameL s)) :=
  ⟨pc_ok ent17 (v := .bool (mayNameL s)) rfl (fun _ => rfl) fun w => (pmayName_any ⟨s.toArray⟩ w).mono (by rintro e w' ⟨rfl, rfl⟩; exact ⟨rfl, Below.refl _ _⟩),
   pc_ok ent18 (v := .bool (mayNameL s)) rfl (fun _ => rfl) fun w => (mayName_any ⟨s.toArray⟩ hs w).mono (by rintro e w' ⟨rfl, rfl⟩; exact ⟨rfl, Below.refl _ _⟩)⟩
abbrev hRWord (n : Int) (q : List UInt8) : Hint := pc 20 #[.int .i64 n] (.v (stv q))
theorem hRWord_ok (id : Nat) (n : Int) (h1 : -9223372036854775808 ≤ n) (h2 : n ≤ 9223372036854775807) : HintOk Tryd.prog id (hRWord n (wordL n.toNat)) := pc_ok ent20 (v := stv (wordL n.toNat)) rfl (fun _ => rfl) fun w => word_any n h1 h2 w
abbrev hRStr (s : List UInt8) : Hint := pc 22 #[stv s] (.v (stv (strL s)))
theorem hRStr_ok (id : Nat) (s : List UInt8) (hs : s.length ≤ 1000000) : HintOk Tryd.prog id (hRStr s) := pc_ok ent22 (v := stv (strL s)) rfl (fun _ => rfl) fun w => str_any ⟨s.toArray⟩ hs w
abbrev vT (b : Bool) : List Prop := [TV.v (.bool b) = TV.v (.bool true)]
theorem vT_ok {α : Type} [BEq α] [ReflBEq α] (x : α) : all (vT (x == x)) := ⟨by rw [beq_self_eq_true], trivial⟩
abbrev AllQ (w : World) : Ending → World → Prop := fun e w' => e = .returned (.bool true) ∧ Below w.heap.size w w'
set_option maxRecDepth 100000 in
theorem all_11 (l m : List Nd) (a a2 : Option Addr) (cap cap2 : Nat) (s : List UInt8) (n : Int) (ρ : Env) (w : World) (hL : NdSrc (TV.s (.lf (.sl 0 0 0 3 l.length (some cap)))) [(0, ndRow (ndf l) l.length)] l) (hM : NdSrc (TV.s (.lf (.sl 1 0 0 3 m.length (some cap2)))) [(1, ndRow (ndf m) m.length)] m) (h0 : RowAt ρ 0 (ndRow (ndf l) l.length) w) (h1 : RowAt ρ 1 (ndRow (ndf m) m.length) w)
    (hlz : l.length ≤ 9223372036854775807) (hmz : m.length ≤ 9223372036854775807) (hlp0 : ∀ c ∈ l, c.path.length ≤ 9223372036854775807) (hld0 : ∀ c ∈ l, c.data.length ≤ 9223372036854775807) (hmp0 : ∀ c ∈ m, c.path.length ≤ 9223372036854775807) (hmd0 : ∀ c ∈ m, c.data.length ≤ 9223372036854775807) (hn : -9223372036854775808 ≤ n ∧ n ≤ 9223372036854775807) :
    Calls Tryd.prog 3 #[.slice (some ⟨(ρ 0).1, (ρ 0).2 + (0 + 0 * 3), none⟩) l.length cap, .slice (some ⟨(ρ 1).1, (ρ 1).2 + (0 + 0 * 3), none⟩) m.length cap2, strV s, .int .i64 n] w (AllQ w) := by
  refine At.calls (args := [(TV.s (.lf (.sl 0 0 0 3 l.length (some cap)))), (TV.s (.lf (.sl 1 0 0 3 m.length (some cap2)))), .v (stv s), .int .i64 n]) (rows := [(0, ndRow (ndf l) l.length), (1, ndRow (ndf m) m.length)]) (gl := []) (wr := []) (ρ := ρ) Tryd.func3 rfl rfl (init_ro1 ⟨trivial, trivial, rfl, rfl, trivial⟩ rfl rfl ⟨⟨h0, ndRow_ok _ _⟩, ⟨h1, ndRow_ok _ _⟩, trivial⟩) rfl ?_
  cases hb : heavyL l with
  | true => exact At.fin rfl [(2001, hH (TV.s (.lf (.sl 0 0 0 3 l.length (some cap)))) [(0, ndRow (ndf l) l.length)] true), (3000, hAwake)] ⟨hH_ok _ hL (by omega) hlp0 hld0 hb, hAwake_ok _, trivial⟩ [.y] (x := .v (.bool true)) (ob := [qL (hH (TV.s (.lf (.sl 0 0 0 3 l.length (some cap)))) [(0, ndRow (ndf l) l.length)] true), [true = true], qL hAwake].flatten) (by kernel_rfl) (all_flat ⟨all_qL _, ⟨rfl, trivial⟩, all_qL _, trivial⟩) fun ρ w' hf _ => ⟨rfl, hf.below⟩
  | false =>
    cases hb2 : heavyL m with
    | true => exact At.fin rfl [(2001, hH (TV.s (.lf (.sl 0 0 0 3 l.length (some cap)))) [(0, ndRow (ndf l) l.length)] false), (2004, hH (TV.s (.lf (.sl 1 0 0 3 m.length (some cap2)))) [(1, ndRow (ndf m) m.length)] true), (3000, hAwake)] ⟨hH_ok _ hL (by omega) hlp0 hld0 hb, hH_ok _ hM (by omega) hmp0 hmd0 hb2, hAwake_ok _, trivial⟩ [.y] (x := .v (.bool true)) (ob := [qL (hH (TV.s (.lf (.sl 0 0 0 3 l.length (some cap)))) [(0, ndRow (ndf l) l.length)] false), qL (hH (TV.s (.lf (.sl 1 0 0 3 m.length (some cap2)))) [(1, ndRow (ndf m) m.length)] true), [true = true], qL hAwake].flatten) (by kernel_rfl) (all_flat ⟨all_qL _, all_qL _, ⟨rfl, trivial⟩, all_qL _, trivial⟩) fun ρ w' hf _ => ⟨rfl, hf.below⟩
    | false =>
      by_cases hs4 : s.length > 400
      · exact At.fin rfl [(2001, hH (TV.s (.lf (.sl 0 0 0 3 l.length (some cap)))) [(0, ndRow (ndf l) l.length)] false), (2004, hH (TV.s (.lf (.sl 1 0 0 3 m.length (some cap2)))) [(1, ndRow (ndf m) m.length)] false), (3000, hAwake)] ⟨hH_ok _ hL (by omega) hlp0 hld0 hb, hH_ok _ hM (by omega) hmp0 hmd0 hb2, hAwake_ok _, trivial⟩ [.y] (x := .v (.bool true)) (ob := [qL (hH (TV.s (.lf (.sl 0 0 0 3 l.length (some cap)))) [(0, ndRow (ndf l) l.length)] false), qL (hH (TV.s (.lf (.sl 1 0 0 3 m.length (some cap2)))) [(1, ndRow (ndf m) m.length)] false), [decide ((s.length : Int) > 400) = true], qL hAwake].flatten) (by kernel_rfl) (all_flat ⟨all_qL _, all_qL _, ⟨decide_eq_true (by omega), trivial⟩, all_qL _, trivial⟩) fun ρ w' hf _ => ⟨rfl, hf.below⟩
      · obtain ⟨hl1, hq⟩ := light_of hb
        obtain ⟨hm3, _⟩ := light_of hb2
        have hl2 : l.length ≤ 1000000000000000 := by omega
        have hm2 : m.length ≤ 1000000000000000 := by omega
        have hs : s.length ≤ 1000000 := by omega
        have hl0 : l.length ≤ 1000000 := by omega
        have hl1 : l.length ≤ 100000 := by omega
        have hlp : ∀ c ∈ l, c.path.length ≤ 10000 := fun c hc => Nat.le_trans (hq c hc).1 (by omega)
        have hlp2 : ∀ c ∈ l, c.path.length ≤ 1000000 := fun c hc => Nat.le_trans (hq c hc).1 (by omega)
        have hld : ∀ c ∈ l, c.data.length ≤ 100000 := fun c hc => Nat.le_trans (hq c hc).2 (by omega)
        have hld2 : ∀ c ∈ l, c.data.length ≤ 1000000 := fun c hc => Nat.le_trans (hq c hc).2 (by omega)
        exact At.fin rfl [(2001, hH (TV.s (.lf (.sl 0 0 0 3 l.length (some cap)))) [(0, ndRow (ndf l) l.length)] false), (2004, hH (TV.s (.lf (.sl 1 0 0 3 m.length (some cap2)))) [(1, ndRow (ndf m) m.length)] false), (4001, hP (TV.s (.lf (.sl 0 0 0 3 l.length (some cap)))) [(0, ndRow (ndf l) l.length)] (packS l) (packE l)), (5001, hRP (TV.s (.lf (.sl 0 0 0 3 l.length (some cap)))) [(0, ndRow (ndf l) l.length)] (packS l) (packE l)), (6001, hMy (TV.s (.lf (.sl 0 0 0 3 l.length (some cap)))) [(0, ndRow (ndf l) l.length)] (mayL l)), (6003, hRM (TV.s (.lf (.sl 0 0 0 3 l.length (some cap)))) [(0, ndRow (ndf l) l.length)] (mayL l)), (2006004, .val (.v (.bool true))), (2006009, .val (.v (.bool true))), (6013, hErr (packE l)), (2006016, .val (.v (.bool true))), (6020, hNm 17 s (mayNameL s)), (6022, hNm 18 s (mayNameL s)), (2006023, .val (.v (.bool true))), (6027, hWord n (wordL n.toNat)), (6029, hRWord n (wordL n.toNat)), (2006030, .val (.v (.bool true))), (6034, hStr s), (6036, hRStr s), (2006037, .val (.v (.bool true))), (6042, hSm 23 (TV.s (.lf (.sl 0 0 0 3 l.length (some cap)))) (TV.s (.lf (.sl 1 0 0 3 m.length (some cap2)))) [(0, ndRow (ndf l) l.length)] [(1, ndRow (ndf m) m.length)] (sameL l m)), (6045, hSm 24 (TV.s (.lf (.sl 0 0 0 3 l.length (some cap)))) (TV.s (.lf (.sl 1 0 0 3 m.length (some cap2)))) [(0, ndRow (ndf l) l.length)] [(1, ndRow (ndf m) m.length)] (sameL l m)), (2006046, .val (.v (.bool true))), (6049, hAwake)] ⟨hH_ok _ hL (by omega) hlp0 hld0 hb, hH_ok _ hM (by omega) hmp0 hmd0 hb2, hP_ok _ hL hl0 hlp hld, hRP_ok _ hL hl1 hlp2 hld2, hMy_ok _ hL hl0 hlp2 hld2, hRM_ok _ hL hl1 hlp2 hld2, trivial, trivial, hErr_ok _ _, trivial, (hNm_ok _ s hs).1, (hNm_ok _ s hs).2, trivial, hWord_ok _ _ _ hn.1 hn.2 rfl, hRWord_ok _ _ hn.1 hn.2, trivial, hStr_ok _ _ hs, hRStr_ok _ _ hs, trivial, (hSm_ok _ hL hM hl2 hm2).1, (hSm_ok _ hL hM hl2 hm2).2, trivial, hAwake_ok _, trivial⟩ [.n] (x := .v (.bool true))
          (ob := [qL (hH (TV.s (.lf (.sl 0 0 0 3 l.length (some cap)))) [(0, ndRow (ndf l) l.length)] false), qL (hH (TV.s (.lf (.sl 1 0 0 3 m.length (some cap2)))) [(1, ndRow (ndf m) m.length)] false), [decide ((s.length : Int) > 400) = false], qL (hP (TV.s (.lf (.sl 0 0 0 3 l.length (some cap)))) [(0, ndRow (ndf l) l.length)] (packS l) (packE l)), qL (hRP (TV.s (.lf (.sl 0 0 0 3 l.length (some cap)))) [(0, ndRow (ndf l) l.length)] (packS l) (packE l)), qL (hMy (TV.s (.lf (.sl 0 0 0 3 l.length (some cap)))) [(0, ndRow (ndf l) l.length)] (mayL l)), qL (hRM (TV.s (.lf (.sl 0 0 0 3 l.length (some cap)))) [(0, ndRow (ndf l) l.length)] (mayL l)), vT (mayL l == mayL l), vT (packS l == packS l), qL (hErr (packE l)), vT (packE l == packE l), qL (hNm 17 s (mayNameL s)), qL (hNm 18 s (mayNameL s)), vT (mayNameL s == mayNameL s), qL (hWord n (wordL n.toNat)), qL (hRWord n (wordL n.toNat)), vT (wordL n.toNat == wordL n.toNat), qL (hStr s), qL (hRStr s), vT (strL s == strL s), qL (hSm 23 (TV.s (.lf (.sl 0 0 0 3 l.length (some cap)))) (TV.s (.lf (.sl 1 0 0 3 m.length (some cap2)))) [(0, ndRow (ndf l) l.length)] [(1, ndRow (ndf m) m.length)] (sameL l m)), qL (hSm 24 (TV.s (.lf (.sl 0 0 0 3 l.length (some cap)))) (TV.s (.lf (.sl 1 0 0 3 m.length (some cap2)))) [(0, ndRow (ndf l) l.length)] [(1, ndRow (ndf m) m.length)] (sameL l m)), vT (sameL l m == sameL l m), qL (hAwake)].flatten) (by kernel_rfl) (all_flat ⟨all_qL _, all_qL _, ⟨decide_eq_false (by omega), trivial⟩, all_qL _, all_qL _, all_qL _, all_qL _, vT_ok _, vT_ok _, all_qL _, vT_ok _, all_qL _, all_qL _, vT_ok _, all_qL _, all_qL _, vT_ok _, all_qL _, all_qL _, vT_ok _, all_qL _, all_qL _, vT_ok _, all_qL _, trivial⟩) fun ρ w' hf _ => ⟨rfl, hf.below⟩
set_option maxRecDepth 100000 in
theorem all_10 (l m : List Nd) (a a2 : Option Addr) (cap cap2 : Nat) (s : List UInt8) (n : Int) (ρ : Env) (w : World) (hL : NdSrc (TV.s (.lf (.sl 0 0 0 3 l.length (some cap)))) [(0, ndRow (ndf l) l.length)] l) (hM : NdSrc (TV.v (.slice a2 0 cap2)) [] m) (h0 : RowAt ρ 0 (ndRow (ndf l) l.length) w) 
    (hlz : l.length ≤ 9223372036854775807) (hmz : m.length ≤ 9223372036854775807) (hlp0 : ∀ c ∈ l, c.path.length ≤ 9223372036854775807) (hld0 : ∀ c ∈ l, c.data.length ≤ 9223372036854775807) (hmp0 : ∀ c ∈ m, c.path.length ≤ 9223372036854775807) (hmd0 : ∀ c ∈ m, c.data.length ≤ 9223372036854775807) (hn : -9223372036854775808 ≤ n ∧ n ≤ 9223372036854775807) :
    Calls Tryd.prog 3 #[.slice (some ⟨(ρ 0).1, (ρ 0).2 + (0 + 0 * 3), none⟩) l.length cap, .slice a2 0 cap2, strV s, .int .i64 n] w (AllQ w) := by
  refine At.calls (args := [(TV.s (.lf (.sl 0 0 0 3 l.length (some cap)))), (TV.v (.slice a2 0 cap2)), .v (stv s), .int .i64 n]) (rows := [(0, ndRow (ndf l) l.length)]) (gl := []) (wr := []) (ρ := ρ) Tryd.func3 rfl rfl (init_ro1 ⟨trivial, rfl, rfl, rfl, trivial⟩ rfl rfl ⟨⟨h0, ndRow_ok _ _⟩, trivial⟩) rfl ?_
  cases hb : heavyL l with
  | true => exact At.fin rfl [(2001, hH (TV.s (.lf (.sl 0 0 0 3 l.length (some cap)))) [(0, ndRow (ndf l) l.length)] true), (3000, hAwake)] ⟨hH_ok _ hL (by omega) hlp0 hld0 hb, hAwake_ok _, trivial⟩ [.y] (x := .v (.bool true)) (ob := [qL (hH (TV.s (.lf (.sl 0 0 0 3 l.length (some cap)))) [(0, ndRow (ndf l) l.length)] true), [true = true], qL hAwake].flatten) (by kernel_rfl) (all_flat ⟨all_qL _, ⟨rfl, trivial⟩, all_qL _, trivial⟩) fun ρ w' hf _ => ⟨rfl, hf.below⟩
  | false =>
    cases hb2 : heavyL m with
    | true => exact At.fin rfl [(2001, hH (TV.s (.lf (.sl 0 0 0 3 l.length (some cap)))) [(0, ndRow (ndf l) l.length)] false), (2004, hH (TV.v (.slice a2 0 cap2)) [] true), (3000, hAwake)] ⟨hH_ok _ hL (by omega) hlp0 hld0 hb, hH_ok _ hM (by omega) hmp0 hmd0 hb2, hAwake_ok _, trivial⟩ [.y] (x := .v (.bool true)) (ob := [qL (hH (TV.s (.lf (.sl 0 0 0 3 l.length (some cap)))) [(0, ndRow (ndf l) l.length)] false), qL (hH (TV.v (.slice a2 0 cap2)) [] true), [true = true], qL hAwake].flatten) (by kernel_rfl) (all_flat ⟨all_qL _, all_qL _, ⟨rfl, trivial⟩, all_qL _, trivial⟩) fun ρ w' hf _ => ⟨rfl, hf.below⟩
    | false =>
      by_cases hs4 : s.length > 400
      · exact At.fin rfl [(2001, hH (TV.s (.lf (.sl 0 0 0 3 l.length (some cap)))) [(0, ndRow (ndf l) l.length)] false), (2004, hH (TV.v (.slice a2 0 cap2)) [] false), (3000, hAwake)] ⟨hH_ok _ hL (by omega) hlp0 hld0 hb, hH_ok _ hM (by omega) hmp0 hmd0 hb2, hAwake_ok _, trivial⟩ [.y] (x := .v (.bool true)) (ob := [qL (hH (TV.s (.lf (.sl 0 0 0 3 l.length (some cap)))) [(0, ndRow (ndf l) l.length)] false), qL (hH (TV.v (.slice a2 0 cap2)) [] false), [decide ((s.length : Int) > 400) = true], qL hAwake].flatten) (by kernel_rfl) (all_flat ⟨all_qL _, all_qL _, ⟨decide_eq_true (by omega), trivial⟩, all_qL _, trivial⟩) fun ρ w' hf _ => ⟨rfl, hf.below⟩
      · obtain ⟨hl1, hq⟩ := light_of hb
        obtain ⟨hm3, _⟩ := light_of hb2
        have hl2 : l.length ≤ 1000000000000000 := by omega
        have hm2 : m.length ≤ 1000000000000000 := by omega
        have hs : s.length ≤ 1000000 := by omega
        have hl0 : l.length ≤ 1000000 := by omega
        have hl1 : l.length ≤ 100000 := by omega
        have hlp : ∀ c ∈ l, c.path.length ≤ 10000 := fun c hc => Nat.le_trans (hq c hc).1 (by omega)
        have hlp2 : ∀ c ∈ l, c.path.length ≤ 1000000 := fun c hc => Nat.le_trans (hq c hc).1 (by omega)
        have hld : ∀ c ∈ l, c.data.length ≤ 100000 := fun c hc => Nat.le_trans (hq c hc).2 (by omega)
        have hld2 : ∀ c ∈ l, c.data.length ≤ 1000000 := fun c hc => Nat.le_trans (hq c hc).2 (by omega)
        exact At.fin rfl [(2001, hH (TV.s (.lf (.sl 0 0 0 3 l.length (some cap)))) [(0, ndRow (ndf l) l.length)] false), (2004, hH (TV.v (.slice a2 0 cap2)) [] false), (4001, hP (TV.s (.lf (.sl 0 0 0 3 l.length (some cap)))) [(0, ndRow (ndf l) l.length)] (packS l) (packE l)), (5001, hRP (TV.s (.lf (.sl 0 0 0 3 l.length (some cap)))) [(0, ndRow (ndf l) l.length)] (packS l) (packE l)), (6001, hMy (TV.s (.lf (.sl 0 0 0 3 l.length (some cap)))) [(0, ndRow (ndf l) l.length)] (mayL l)), (6003, hRM (TV.s (.lf (.sl 0 0 0 3 l.length (some cap)))) [(0, ndRow (ndf l) l.length)] (mayL l)), (2006004, .val (.v (.bool true))), (2006009, .val (.v (.bool true))), (6013, hErr (packE l)), (2006016, .val (.v (.bool true))), (6020, hNm 17 s (mayNameL s)), (6022, hNm 18 s (mayNameL s)), (2006023, .val (.v (.bool true))), (6027, hWord n (wordL n.toNat)), (6029, hRWord n (wordL n.toNat)), (2006030, .val (.v (.bool true))), (6034, hStr s), (6036, hRStr s), (2006037, .val (.v (.bool true))), (6042, hSm 23 (TV.s (.lf (.sl 0 0 0 3 l.length (some cap)))) (TV.v (.slice a2 0 cap2)) [(0, ndRow (ndf l) l.length)] [] (sameL l m)), (6045, hSm 24 (TV.s (.lf (.sl 0 0 0 3 l.length (some cap)))) (TV.v (.slice a2 0 cap2)) [(0, ndRow (ndf l) l.length)] [] (sameL l m)), (2006046, .val (.v (.bool true))), (6049, hAwake)] ⟨hH_ok _ hL (by omega) hlp0 hld0 hb, hH_ok _ hM (by omega) hmp0 hmd0 hb2, hP_ok _ hL hl0 hlp hld, hRP_ok _ hL hl1 hlp2 hld2, hMy_ok _ hL hl0 hlp2 hld2, hRM_ok _ hL hl1 hlp2 hld2, trivial, trivial, hErr_ok _ _, trivial, (hNm_ok _ s hs).1, (hNm_ok _ s hs).2, trivial, hWord_ok _ _ _ hn.1 hn.2 rfl, hRWord_ok _ _ hn.1 hn.2, trivial, hStr_ok _ _ hs, hRStr_ok _ _ hs, trivial, (hSm_ok _ hL hM hl2 hm2).1, (hSm_ok _ hL hM hl2 hm2).2, trivial, hAwake_ok _, trivial⟩ [.n] (x := .v (.bool true))
          (ob := [qL (hH (TV.s (.lf (.sl 0 0 0 3 l.length (some cap)))) [(0, ndRow (ndf l) l.length)] false), qL (hH (TV.v (.slice a2 0 cap2)) [] false), [decide ((s.length : Int) > 400) = false], qL (hP (TV.s (.lf (.sl 0 0 0 3 l.length (some cap)))) [(0, ndRow (ndf l) l.length)] (packS l) (packE l)), qL (hRP (TV.s (.lf (.sl 0 0 0 3 l.length (some cap)))) [(0, ndRow (ndf l) l.length)] (packS l) (packE l)), qL (hMy (TV.s (.lf (.sl 0 0 0 3 l.length (some cap)))) [(0, ndRow (ndf l) l.length)] (mayL l)), qL (hRM (TV.s (.lf (.sl 0 0 0 3 l.length (some cap)))) [(0, ndRow (ndf l) l.length)] (mayL l)), vT (mayL l == mayL l), vT (packS l == packS l), qL (hErr (packE l)), vT (packE l == packE l), qL (hNm 17 s (mayNameL s)), qL (hNm 18 s (mayNameL s)), vT (mayNameL s == mayNameL s), qL (hWord n (wordL n.toNat)), qL (hRWord n (wordL n.toNat)), vT (wordL n.toNat == wordL n.toNat), qL (hStr s), qL (hRStr s), vT (strL s == strL s), qL (hSm 23 (TV.s (.lf (.sl 0 0 0 3 l.length (some cap)))) (TV.v (.slice a2 0 cap2)) [(0, ndRow (ndf l) l.length)] [] (sameL l m)), qL (hSm 24 (TV.s (.lf (.sl 0 0 0 3 l.length (some cap)))) (TV.v (.slice a2 0 cap2)) [(0, ndRow (ndf l) l.length)] [] (sameL l m)), vT (sameL l m == sameL l m), qL (hAwake)].flatten) (by kernel_rfl) (all_flat ⟨all_qL _, all_qL _, ⟨decide_eq_false (by omega), trivial⟩, all_qL _, all_qL _, all_qL _, all_qL _, vT_ok _, vT_ok _, all_qL _, vT_ok _, all_qL _, all_qL _, vT_ok _, all_qL _, all_qL _, vT_ok _, all_qL _, all_qL _, vT_ok _, all_qL _, all_qL _, vT_ok _, all_qL _, trivial⟩) fun ρ w' hf _ => ⟨rfl, hf.below⟩
set_option maxRecDepth 100000 in
theorem all_01 (l m : List Nd) (a a2 : Option Addr) (cap cap2 : Nat) (s : List UInt8) (n : Int) (ρ : Env) (w : World) (hL : NdSrc (TV.v (.slice a 0 cap)) [] l) (hM : NdSrc (TV.s (.lf (.sl 1 0 0 3 m.length (some cap2)))) [(1, ndRow (ndf m) m.length)] m)  (h1 : RowAt ρ 1 (ndRow (ndf m) m.length) w)
    (hlz : l.length ≤ 9223372036854775807) (hmz : m.length ≤ 9223372036854775807) (hlp0 : ∀ c ∈ l, c.path.length ≤ 9223372036854775807) (hld0 : ∀ c ∈ l, c.data.length ≤ 9223372036854775807) (hmp0 : ∀ c ∈ m, c.path.length ≤ 9223372036854775807) (hmd0 : ∀ c ∈ m, c.data.length ≤ 9223372036854775807) (hn : -9223372036854775808 ≤ n ∧ n ≤ 9223372036854775807) :
    Calls Tryd.prog 3 #[.slice a 0 cap, .slice (some ⟨(ρ 1).1, (ρ 1).2 + (0 + 0 * 3), none⟩) m.length cap2, strV s, .int .i64 n] w (AllQ w) := by
  refine At.calls (args := [(TV.v (.slice a 0 cap)), (TV.s (.lf (.sl 1 0 0 3 m.length (some cap2)))), .v (stv s), .int .i64 n]) (rows := [(1, ndRow (ndf m) m.length)]) (gl := []) (wr := []) (ρ := ρ) Tryd.func3 rfl rfl (init_ro1 ⟨rfl, trivial, rfl, rfl, trivial⟩ rfl rfl ⟨⟨h1, ndRow_ok _ _⟩, trivial⟩) rfl ?_
  cases hb : heavyL l with
  | true => exact At.fin rfl [(2001, hH (TV.v (.slice a 0 cap)) [] true), (3000, hAwake)] ⟨hH_ok _ hL (by omega) hlp0 hld0 hb, hAwake_ok _, trivial⟩ [.y] (x := .v (.bool true)) (ob := [qL (hH (TV.v (.slice a 0 cap)) [] true), [true = true], qL hAwake].flatten) (by kernel_rfl) (all_flat ⟨all_qL _, ⟨rfl, trivial⟩, all_qL _, trivial⟩) fun ρ w' hf _ => ⟨rfl, hf.below⟩
  | false =>
    cases hb2 : heavyL m with
    | true => exact At.fin rfl [(2001, hH (TV.v (.slice a 0 cap)) [] false), (2004, hH (TV.s (.lf (.sl 1 0 0 3 m.length (some cap2)))) [(1, ndRow (ndf m) m.length)] true), (3000, hAwake)] ⟨hH_ok _ hL (by omega) hlp0 hld0 hb, hH_ok _ hM (by omega) hmp0 hmd0 hb2, hAwake_ok _, trivial⟩ [.y] (x := .v (.bool true)) (ob := [qL (hH (TV.v (.slice a 0 cap)) [] false), qL (hH (TV.s (.lf (.sl 1 0 0 3 m.length (some cap2)))) [(1, ndRow (ndf m) m.length)] true), [true = true], qL hAwake].flatten) (by kernel_rfl) (all_flat ⟨all_qL _, all_qL _, ⟨rfl, trivial⟩, all_qL _, trivial⟩) fun ρ w' hf _ => ⟨rfl, hf.below⟩
    | false =>
      by_cases hs4 : s.length > 400
      · exact At.fin rfl [(2001, hH (TV.v (.slice a 0 cap)) [] false), (2004, hH (TV.s (.lf (.sl 1 0 0 3 m.length (some cap2)))) [(1, ndRow (ndf m) m.length)] false), (3000, hAwake)] ⟨hH_ok _ hL (by omega) hlp0 hld0 hb, hH_ok _ hM (by omega) hmp0 hmd0 hb2, hAwake_ok _, trivial⟩ [.y] (x := .v (.bool true)) (ob := [qL (hH (TV.v (.slice a 0 cap)) [] false), qL (hH (TV.s (.lf (.sl 1 0 0 3 m.length (some cap2)))) [(1, ndRow (ndf m) m.length)] false), [decide ((s.length : Int) > 400) = true], qL hAwake].flatten) (by kernel_rfl) (all_flat ⟨all_qL _, all_qL _, ⟨decide_eq_true (by omega), trivial⟩, all_qL _, trivial⟩) fun ρ w' hf _ => ⟨rfl, hf.below⟩
      · obtain ⟨hl1, hq⟩ := light_of hb
        obtain ⟨hm3, _⟩ := light_of hb2
        have hl2 : l.length ≤ 1000000000000000 := by omega
        have hm2 : m.length ≤ 1000000000000000 := by omega
        have hs : s.length ≤ 1000000 := by omega
        have hl0 : l.length ≤ 1000000 := by omega
        have hl1 : l.length ≤ 100000 := by omega
        have hlp : ∀ c ∈ l, c.path.length ≤ 10000 := fun c hc => Nat.le_trans (hq c hc).1 (by omega)
        have hlp2 : ∀ c ∈ l, c.path.length ≤ 1000000 := fun c hc => Nat.le_trans (hq c hc).1 (by omega)
        have hld : ∀ c ∈ l, c.data.length ≤ 100000 := fun c hc => Nat.le_trans (hq c hc).2 (by omega)
        have hld2 : ∀ c ∈ l, c.data.length ≤ 1000000 := fun c hc => Nat.le_trans (hq c hc).2 (by omega)
        exact At.fin rfl [(2001, hH (TV.v (.slice a 0 cap)) [] false), (2004, hH (TV.s (.lf (.sl 1 0 0 3 m.length (some cap2)))) [(1, ndRow (ndf m) m.length)] false), (4001, hP (TV.v (.slice a 0 cap)) [] (packS l) (packE l)), (5001, hRP (TV.v (.slice a 0 cap)) [] (packS l) (packE l)), (6001, hMy (TV.v (.slice a 0 cap)) [] (mayL l)), (6003, hRM (TV.v (.slice a 0 cap)) [] (mayL l)), (2006004, .val (.v (.bool true))), (2006009, .val (.v (.bool true))), (6013, hErr (packE l)), (2006016, .val (.v (.bool true))), (6020, hNm 17 s (mayNameL s)), (6022, hNm 18 s (mayNameL s)), (2006023, .val (.v (.bool true))), (6027, hWord n (wordL n.toNat)), (6029, hRWord n (wordL n.toNat)), (2006030, .val (.v (.bool true))), (6034, hStr s), (6036, hRStr s), (2006037, .val (.v (.bool true))), (6042, hSm 23 (TV.v (.slice a 0 cap)) (TV.s (.lf (.sl 1 0 0 3 m.length (some cap2)))) [] [(1, ndRow (ndf m) m.length)] (sameL l m)), (6045, hSm 24 (TV.v (.slice a 0 cap)) (TV.s (.lf (.sl 1 0 0 3 m.length (some cap2)))) [] [(1, ndRow (ndf m) m.length)] (sameL l m)), (2006046, .val (.v (.bool true))), (6049, hAwake)] ⟨hH_ok _ hL (by omega) hlp0 hld0 hb, hH_ok _ hM (by omega) hmp0 hmd0 hb2, hP_ok _ hL hl0 hlp hld, hRP_ok _ hL hl1 hlp2 hld2, hMy_ok _ hL hl0 hlp2 hld2, hRM_ok _ hL hl1 hlp2 hld2, trivial, trivial, hErr_ok _ _, trivial, (hNm_ok _ s hs).1, (hNm_ok _ s hs).2, trivial, hWord_ok _ _ _ hn.1 hn.2 rfl, hRWord_ok _ _ hn.1 hn.2, trivial, hStr_ok _ _ hs, hRStr_ok _ _ hs, trivial, (hSm_ok _ hL hM hl2 hm2).1, (hSm_ok _ hL hM hl2 hm2).2, trivial, hAwake_ok _, trivial⟩ [.n] (x := .v (.bool true))
          (ob := [qL (hH (TV.v (.slice a 0 cap)) [] false), qL (hH (TV.s (.lf (.sl 1 0 0 3 m.length (some cap2)))) [(1, ndRow (ndf m) m.length)] false), [decide ((s.length : Int) > 400) = false], qL (hP (TV.v (.slice a 0 cap)) [] (packS l) (packE l)), qL (hRP (TV.v (.slice a 0 cap)) [] (packS l) (packE l)), qL (hMy (TV.v (.slice a 0 cap)) [] (mayL l)), qL (hRM (TV.v (.slice a 0 cap)) [] (mayL l)), vT (mayL l == mayL l), vT (packS l == packS l), qL (hErr (packE l)), vT (packE l == packE l), qL (hNm 17 s (mayNameL s)), qL (hNm 18 s (mayNameL s)), vT (mayNameL s == mayNameL s), qL (hWord n (wordL n.toNat)), qL (hRWord n (wordL n.toNat)), vT (wordL n.toNat == wordL n.toNat), qL (hStr s), qL (hRStr s), vT (strL s == strL s), qL (hSm 23 (TV.v (.slice a 0 cap)) (TV.s (.lf (.sl 1 0 0 3 m.length (some cap2)))) [] [(1, ndRow (ndf m) m.length)] (sameL l m)), qL (hSm 24 (TV.v (.slice a 0 cap)) (TV.s (.lf (.sl 1 0 0 3 m.length (some cap2)))) [] [(1, ndRow (ndf m) m.length)] (sameL l m)), vT (sameL l m == sameL l m), qL (hAwake)].flatten) (by kernel_rfl) (all_flat ⟨all_qL _, all_qL _, ⟨decide_eq_false (by omega), trivial⟩, all_qL _, all_qL _, all_qL _, all_qL _, vT_ok _, vT_ok _, all_qL _, vT_ok _, all_qL _, all_qL _, vT_ok _, all_qL _, all_qL _, vT_ok _, all_qL _, all_qL _, vT_ok _, all_qL _, all_qL _, vT_ok _, all_qL _, trivial⟩) fun ρ w' hf _ => ⟨rfl, hf.below⟩
set_option maxRecDepth 100000 in
theorem all_00 (l m : List Nd) (a a2 : Option Addr) (cap cap2 : Nat) (s : List UInt8) (n : Int) (ρ : Env) (w : World) (hL : NdSrc (TV.v (.slice a 0 cap)) [] l) (hM : NdSrc (TV.v (.slice a2 0 cap2)) [] m)  
    (hlz : l.length ≤ 9223372036854775807) (hmz : m.length ≤ 9223372036854775807) (hlp0 : ∀ c ∈ l, c.path.length ≤ 9223372036854775807) (hld0 : ∀ c ∈ l, c.data.length ≤ 9223372036854775807) (hmp0 : ∀ c ∈ m, c.path.length ≤ 9223372036854775807) (hmd0 : ∀ c ∈ m, c.data.length ≤ 9223372036854775807) (hn : -9223372036854775808 ≤ n ∧ n ≤ 9223372036854775807) :
    Calls Tryd.prog 3 #[.slice a 0 cap, .slice a2 0 cap2, strV s, .int .i64 n] w (AllQ w) := by
  refine At.calls (args := [(TV.v (.slice a 0 cap)), (TV.v (.slice a2 0 cap2)), .v (stv s), .int .i64 n]) (rows := []) (gl := []) (wr := []) (ρ := ρ) Tryd.func3 rfl rfl (init_ro1 ⟨rfl, rfl, rfl, rfl, trivial⟩ rfl rfl trivial) rfl ?_
  cases hb : heavyL l with
  | true => exact At.fin rfl [(2001, hH (TV.v (.slice a 0 cap)) [] true), (3000, hAwake)] ⟨hH_ok _ hL (by omega) hlp0 hld0 hb, hAwake_ok _, trivial⟩ [.y] (x := .v (.bool true)) (ob := [qL (hH (TV.v (.slice a 0 cap)) [] true), [true = true], qL hAwake].flatten) (by kernel_rfl) (all_flat ⟨all_qL _, ⟨rfl, trivial⟩, all_qL _, trivial⟩) fun ρ w' hf _ => ⟨rfl, hf.below⟩
  | false =>
    cases hb2 : heavyL m with
    | true => exact At.fin rfl [(2001, hH (TV.v (.slice a 0 cap)) [] false), (2004, hH (TV.v (.slice a2 0 cap2)) [] true), (3000, hAwake)] ⟨hH_ok _ hL (by omega) hlp0 hld0 hb, hH_ok _ hM (by omega) hmp0 hmd0 hb2, hAwake_ok _, trivial⟩ [.y] (x := .v (.bool true)) (ob := [qL (hH (TV.v (.slice a 0 cap)) [] false), qL (hH (TV.v (.slice a2 0 cap2)) [] true), [true = true], qL hAwake].flatten) (by kernel_rfl) (all_flat ⟨all_qL _, all_qL _, ⟨rfl, trivial⟩, all_qL _, trivial⟩) fun ρ w' hf _ => ⟨rfl, hf.below⟩
    | false =>
      by_cases hs4 : s.length > 400
      · exact At.fin rfl [(2001, hH (TV.v (.slice a 0 cap)) [] false), (2004, hH (TV.v (.slice a2 0 cap2)) [] false), (3000, hAwake)] ⟨hH_ok _ hL (by omega) hlp0 hld0 hb, hH_ok _ hM (by omega) hmp0 hmd0 hb2, hAwake_ok _, trivial⟩ [.y] (x := .v (.bool true)) (ob := [qL (hH (TV.v (.slice a 0 cap)) [] false), qL (hH (TV.v (.slice a2 0 cap2)) [] false), [decide ((s.length : Int) > 400) = true], qL hAwake].flatten) (by kernel_rfl) (all_flat ⟨all_qL _, all_qL _, ⟨decide_eq_true (by omega), trivial⟩, all_qL _, trivial⟩) fun ρ w' hf _ => ⟨rfl, hf.below⟩
      · obtain ⟨hl1, hq⟩ := light_of hb
        obtain ⟨hm3, _⟩ := light_of hb2
        have hl2 : l.length ≤ 1000000000000000 := by omega
        have hm2 : m.length ≤ 1000000000000000 := by omega
        have hs : s.length ≤ 1000000 := by omega
        have hl0 : l.length ≤ 1000000 := by omega
        have hl1 : l.length ≤ 100000 := by omega
        have hlp : ∀ c ∈ l, c.path.length ≤ 10000 := fun c hc => Nat.le_trans (hq c hc).1 (by omega)
        have hlp2 : ∀ c ∈ l, c.path.length ≤ 1000000 := fun c hc => Nat.le_trans (hq c hc).1 (by omega)
        have hld : ∀ c ∈ l, c.data.length ≤ 100000 := fun c hc => Nat.le_trans (hq c hc).2 (by omega)
        have hld2 : ∀ c ∈ l, c.data.length ≤ 1000000 := fun c hc => Nat.le_trans (hq c hc).2 (by omega)
        exact At.fin rfl [(2001, hH (TV.v (.slice a 0 cap)) [] false), (2004, hH (TV.v (.slice a2 0 cap2)) [] false), (4001, hP (TV.v (.slice a 0 cap)) [] (packS l) (packE l)), (5001, hRP (TV.v (.slice a 0 cap)) [] (packS l) (packE l)), (6001, hMy (TV.v (.slice a 0 cap)) [] (mayL l)), (6003, hRM (TV.v (.slice a 0 cap)) [] (mayL l)), (2006004, .val (.v (.bool true))), (2006009, .val (.v (.bool true))), (6013, hErr (packE l)), (2006016, .val (.v (.bool true))), (6020, hNm 17 s (mayNameL s)), (6022, hNm 18 s (mayNameL s)), (2006023, .val (.v (.bool true))), (6027, hWord n (wordL n.toNat)), (6029, hRWord n (wordL n.toNat)), (2006030, .val (.v (.bool true))), (6034, hStr s), (6036, hRStr s), (2006037, .val (.v (.bool true))), (6042, hSm 23 (TV.v (.slice a 0 cap)) (TV.v (.slice a2 0 cap2)) [] [] (sameL l m)), (6045, hSm 24 (TV.v (.slice a 0 cap)) (TV.v (.slice a2 0 cap2)) [] [] (sameL l m)), (2006046, .val (.v (.bool true))), (6049, hAwake)] ⟨hH_ok _ hL (by omega) hlp0 hld0 hb, hH_ok _ hM (by omega) hmp0 hmd0 hb2, hP_ok _ hL hl0 hlp hld, hRP_ok _ hL hl1 hlp2 hld2, hMy_ok _ hL hl0 hlp2 hld2, hRM_ok _ hL hl1 hlp2 hld2, trivial, trivial, hErr_ok _ _, trivial, (hNm_ok _ s hs).1, (hNm_ok _ s hs).2, trivial, hWord_ok _ _ _ hn.1 hn.2 rfl, hRWord_ok _ _ hn.1 hn.2, trivial, hStr_ok _ _ hs, hRStr_ok _ _ hs, trivial, (hSm_ok _ hL hM hl2 hm2).1, (hSm_ok _ hL hM hl2 hm2).2, trivial, hAwake_ok _, trivial⟩ [.n] (x := .v (.bool true))
          (ob := [qL (hH (TV.v (.slice a 0 cap)) [] false), qL (hH (TV.v (.slice a2 0 cap2)) [] false), [decide ((s.length : Int) > 400) = false], qL (hP (TV.v (.slice a 0 cap)) [] (packS l) (packE l)), qL (hRP (TV.v (.slice a 0 cap)) [] (packS l) (packE l)), qL (hMy (TV.v (.slice a 0 cap)) [] (mayL l)), qL (hRM (TV.v (.slice a 0 cap)) [] (mayL l)), vT (mayL l == mayL l), vT (packS l == packS l), qL (hErr (packE l)), vT (packE l == packE l), qL (hNm 17 s (mayNameL s)), qL (hNm 18 s (mayNameL s)), vT (mayNameL s == mayNameL s), qL (hWord n (wordL n.toNat)), qL (hRWord n (wordL n.toNat)), vT (wordL n.toNat == wordL n.toNat), qL (hStr s), qL (hRStr s), vT (strL s == strL s), qL (hSm 23 (TV.v (.slice a 0 cap)) (TV.v (.slice a2 0 cap2)) [] [] (sameL l m)), qL (hSm 24 (TV.v (.slice a 0 cap)) (TV.v (.slice a2 0 cap2)) [] [] (sameL l m)), vT (sameL l m == sameL l m), qL (hAwake)].flatten) (by kernel_rfl) (all_flat ⟨all_qL _, all_qL _, ⟨decide_eq_false (by omega), trivial⟩, all_qL _, all_qL _, all_qL _, all_qL _, vT_ok _, vT_ok _, all_qL _, vT_ok _, all_qL _, all_qL _, vT_ok _, all_qL _, all_qL _, vT_ok _, all_qL _, all_qL _, vT_ok _, all_qL _, all_qL _, vT_ok _, all_qL _, trivial⟩) fun ρ w' hf _ => ⟨rfl, hf.below⟩
theorem all_any (v v2 : Value) (l m : List Nd) (s : List UInt8) (n : Int) (w : World) (hL : NdV w v l) (hM : NdV w v2 m) (hlz : l.length ≤ 9223372036854775807) (hmz : m.length ≤ 9223372036854775807) (hlp0 : ∀ c ∈ l, c.path.length ≤ 9223372036854775807) (hld0 : ∀ c ∈ l, c.data.length ≤ 9223372036854775807) (hmp0 : ∀ c ∈ m, c.path.length ≤ 9223372036854775807) (hmd0 : ∀ c ∈ m, c.data.length ≤ 9223372036854775807) (hn : -9223372036854775808 ≤ n ∧ n ≤ 9223372036854775807) :
    Calls Tryd.prog 3 #[v, v2, strV s, .int .i64 n] w (AllQ w) := by
  obtain ⟨a, cap, rfl, h1, h2, h3⟩ := hL
  obtain ⟨a2, cap2, rfl, h4, h5, h6⟩ := hM
  rcases Nat.eq_zero_or_pos l.length with e | e
  · have e2 : l = [] := List.length_eq_zero_iff.1 e
    subst e2
    rcases Nat.eq_zero_or_pos m.length with e3 | e3
    · have e4 : m = [] := List.length_eq_zero_iff.1 e3
      subst e4
      exact all_00 [] [] a a2 cap cap2 s n (fun _ => ⟨0, 0, 0⟩) w (src_nil a cap h2) (src_nil a2 cap2 h5) hlz hmz hlp0 hld0 hmp0 hmd0 hn
    · obtain ⟨b2, o2, rfl, hN2⟩ := h6 e3
      exact all_01 [] m a none cap cap2 s n (fun _ => ⟨b2, o2, 0⟩) w (src_nil a cap h2) (src_row 1 cap2 m e3 h4 h5) (nodes_row hN2 e3 0) hlz hmz hlp0 hld0 hmp0 hmd0 hn
  · obtain ⟨b, o, rfl, hN⟩ := h3 e
    rcases Nat.eq_zero_or_pos m.length with e3 | e3
    · have e4 : m = [] := List.length_eq_zero_iff.1 e3
      subst e4
      exact all_10 l [] none a2 cap cap2 s n (fun _ => ⟨b, o, 0⟩) w (src_row 0 cap l e h1 h2) (src_nil a2 cap2 h5) (nodes_row hN e 0) hlz hmz hlp0 hld0 hmp0 hmd0 hn
    · obtain ⟨b2, o2, rfl, hN2⟩ := h6 e3
      exact all_11 l m none none cap cap2 s n (fun i => if i = 0 then ⟨b, o, 0⟩ else ⟨b2, o2, 0⟩) w (src_row 0 cap l e h1 h2) (src_row 1 cap2 m e3 h4 h5) (nodes_row hN e 0) (nodes_row hN2 e3 0) hlz hmz hlp0 hld0 hmp0 hmd0 hn
end
end Go.Proofs.YtgbaaiedpiiepaaDoor
namespace Go.Proofs.YtgbaaiedpiiepaaDoor
open Go.Deep Go.ChangeShapes Go.WideShapes Go.ChangeAt Go.RowKit
set_option linter.unusedVariables false
theorem strV_of (s : ByteArray) : Value.string s = strV s.data.toList := rfl
theorem addr_add {g o i : Nat} : (⟨g, o, none⟩ : Addr).add i = ⟨g, o + i, none⟩ := by unfold Addr.add; split <;> simp_all
set_option maxRecDepth 100000 in
theorem nodes_open {H : Type} {enc : TypeId × Value → H} {W : World} {fuel : Nat} {cs : List Value} {x : DataW H × List MemPlace} (h : DataW.trod enc Tryd.prog W 0 (fun _ => true) true fuel 22 cs = some x) :
    ∃ pa len ca l, cs = [.slice pa len ca] ∧ NdV W (.slice pa len ca) l ∧ l.length ≤ 9223372036854775807 ∧ (∀ c ∈ l, c.path.length ≤ 9223372036854775807) ∧ ∀ c ∈ l, c.data.length ≤ 9223372036854775807 := by
  rcases open_slice Tryd.underlying22 h with ⟨rfl, -⟩ | ⟨a, len, cap, m, fu, D, Pl, rfl, -, hl, hm, hmm, -, hel⟩
  · exact ⟨none, 0, 0, [], rfl, ⟨none, 0, rfl, Nat.le_refl _, by omega, fun h => absurd h (Nat.lt_irrefl _)⟩, by simp, (fun c hc => by cases hc), fun c hc => by cases hc⟩
  · have c42 : Tryd.prog.cellsOf 42 = 3 := by kernel_rfl
    have hlm : len ≤ m := by rw [hmm]; split <;> omega
    unfold maxLen at hm
    obtain ⟨g, off, spot⟩ := a
    have hsp : 0 < len → spot = none := by
      intro h0
      obtain ⟨cs', h1, h2⟩ := hel 0 (by omega)
      rw [c42] at h1
      obtain ⟨-, hlen, hcell⟩ := World.cells?_some h1
      have hc0 := hcell 0 (by omega)
      rw [List.getElem?_eq_getElem (by omega)] at hc0
      have := World.cell?_spot hc0
      simpa [Addr.add] using this
    have each : ∀ i, i < len → ∃ d : Nd, W.cell? ⟨g, off + i * 3, none⟩ = some (strV d.path) ∧ W.cell? ⟨g, off + i * 3 + 1, none⟩ = some (.int .i64 d.kind) ∧ W.cell? ⟨g, off + i * 3 + 2, none⟩ = some (strV d.data) ∧ d.path.length ≤ 9223372036854775807 ∧ d.data.length ≤ 9223372036854775807 := by
      intro i hi
      obtain rfl := hsp (by omega)
      obtain ⟨cs', h1, h2⟩ := hel i (by omega)
      rw [c42] at h1
      obtain ⟨-, hlen, hcell⟩ := World.cells?_some h1
      obtain ⟨xs, k, -, -, -, hxl, hf⟩ := DataW.trod_struct Tryd.underlying42 h2
      have f0 : DataW.trod enc Tryd.prog W 0 (fun _ => true) true k 9 (List.take (Tryd.prog.cellsOf 9) (List.drop 0 cs')) = xs[0]? := hf 0 _ rfl
      have f1 : DataW.trod enc Tryd.prog W 0 (fun _ => true) true k 3 (List.take (Tryd.prog.cellsOf 3) (List.drop 1 cs')) = xs[1]? := hf 1 _ rfl
      have f2 : DataW.trod enc Tryd.prog W 0 (fun _ => true) true k 9 (List.take (Tryd.prog.cellsOf 9) (List.drop 2 cs')) = xs[2]? := hf 2 _ rfl
      match cs', hlen with
      | [v0, v1, v2], _ =>
        have c3 : Tryd.prog.cellsOf 3 = 1 := by kernel_rfl
        have c9 : Tryd.prog.cellsOf 9 = 1 := by kernel_rfl
        rw [c3] at f1
        rw [c9] at f0 f2
        simp only [List.drop_zero, List.drop_succ_cons, List.take_succ_cons, List.take_zero] at f0 f1 f2
        have g0 : ∃ y, DataW.trod enc Tryd.prog W 0 (fun _ => true) true k 9 [v0] = some y := ⟨_, f0.trans (List.getElem?_eq_getElem (by rw [hxl]; decide))⟩
        have g1 : ∃ y, DataW.trod enc Tryd.prog W 0 (fun _ => true) true k 3 [v1] = some y := ⟨_, f1.trans (List.getElem?_eq_getElem (by rw [hxl]; decide))⟩
        have g2 : ∃ y, DataW.trod enc Tryd.prog W 0 (fun _ => true) true k 9 [v2] = some y := ⟨_, f2.trans (List.getElem?_eq_getElem (by rw [hxl]; decide))⟩
        clear f0 f1 f2 hf
        obtain ⟨y0, g0⟩ := g0
        obtain ⟨y1, g1⟩ := g1
        obtain ⟨y2, g2⟩ := g2
        obtain ⟨s0, e0, -, o0⟩ := DataW.trod_string Tryd.underlying9 g0
        obtain ⟨n1, e1, -, o1⟩ := DataW.trod_int Tryd.underlying3 g1
        obtain ⟨s2, e2, -, o2⟩ := DataW.trod_string Tryd.underlying9 g2
        simp only [List.cons.injEq, and_true] at e0 e1 e2
        subst e0 e1 e2
        have hcell2 : ∀ j, j < 3 → W.cell? ⟨g, off + i * 3 + j, none⟩ = [Value.string s0, .int .i64 n1, .string s2][j]? := by
          intro j hj
          have := hcell j hj
          rw [addr_add, addr_add] at this
          exact this
        unfold maxLen at o0 o2
        refine ⟨⟨s0.data.toList, n1, s2.data.toList⟩, hcell2 0 (by omega), hcell2 1 (by omega), hcell2 2 (by omega), ?_, ?_⟩
        · show s0.data.toList.length ≤ _
          rw [Array.length_toList]; show s0.size ≤ _; omega
        · show s2.data.toList.length ≤ _
          rw [Array.length_toList]; show s2.size ≤ _; omega
    haveI : Inhabited Nd := ⟨⟨[], 0, []⟩⟩
    obtain ⟨A, hA⟩ := choose_lt each
    have hlen : ((List.range len).map A).length = len := by simp
    have hmem : ∀ c ∈ (List.range len).map A, ∃ i, i < len ∧ A i = c := fun c hc => by
      obtain ⟨i, hi, e⟩ := List.mem_map.1 hc
      exact ⟨i, List.mem_range.1 hi, e⟩
    refine ⟨some ⟨g, off, spot⟩, len, cap, (List.range len).map A, rfl, ⟨_, cap, by rw [hlen], by rw [hlen]; exact hl, by omega, fun h0 => ?_⟩, by rw [hlen]; omega, fun c hc => ?_, fun c hc => ?_⟩
    · rw [hlen] at h0
      obtain rfl := hsp h0
      refine ⟨g, off, rfl, block_lt_of_cell (hA 0 h0).1, fun i hi => ?_⟩
      rw [hlen] at hi
      rw [List.getElem_map, List.getElem_range]
      exact ⟨(hA i hi).1, (hA i hi).2.1, (hA i hi).2.2.1⟩
    · obtain ⟨i, hi, rfl⟩ := hmem c hc
      exact (hA i hi).2.2.2.1
    · obtain ⟨i, hi, rfl⟩ := hmem c hc
      exact (hA i hi).2.2.2.2
set_option maxRecDepth 100000 in
theorem texts_open {H : Type} {enc : TypeId × Value → H} {W : World} {fuel : Nat} {cs : List Value} {x : DataW H × List MemPlace} (h : DataW.trod enc Tryd.prog W 0 (fun _ => true) true fuel 38 cs = some x) :
    ∃ pa len ca l, cs = [.slice pa len ca] ∧ TxtV W (.slice pa len ca) l ∧ len ≤ ca ∧ ca ≤ 9223372036854775807 ∧ l.length = len ∧ ∀ c ∈ l, c.length ≤ 9223372036854775807 := by
  rcases open_slice1 Tryd.underlying38 (by kernel_rfl) h with ⟨rfl, -⟩ | ⟨a, len, cap, m, fu, V, D, Pl, rfl, -, hl, hm, hmm, -, hel⟩
  · exact ⟨none, 0, 0, [], rfl, ⟨by simp, none, 0, rfl, fun h => absurd h (Nat.lt_irrefl _)⟩, by omega, by omega, rfl, fun c hc => by cases hc⟩
  · have hlm : len ≤ m := by rw [hmm]; split <;> omega
    unfold maxLen at hm
    obtain ⟨g, off, spot⟩ := a
    have hsp : 0 < len → spot = none := fun h0 => by
      have := World.cell?_spot (hel 0 (by omega)).1
      simpa [Addr.add] using this
    have each : ∀ i, i < len → ∃ s : List UInt8, W.cell? ⟨g, off + i, none⟩ = some (strV s) ∧ s.length ≤ 9223372036854775807 := by
      intro i hi
      obtain rfl := hsp (by omega)
      obtain ⟨h1, h2⟩ := hel i (by omega)
      obtain ⟨s0, e0, -, o0⟩ := DataW.trod_string Tryd.underlying9 h2
      simp only [List.cons.injEq, and_true] at e0
      rw [e0, addr_add] at h1
      unfold maxLen at o0
      exact ⟨s0.data.toList, h1, by rw [Array.length_toList]; show s0.size ≤ _; omega⟩
    obtain ⟨A, hA⟩ := choose_lt each
    have hlen : ((List.range len).map A).length = len := by simp
    refine ⟨some ⟨g, off, spot⟩, len, cap, (List.range len).map A, rfl, ⟨by rw [hlen]; omega, _, cap, by rw [hlen], fun h0 => ?_⟩, hl, by omega, hlen, fun c hc => ?_⟩
    · rw [hlen] at h0
      obtain rfl := hsp h0
      refine ⟨g, off, rfl, block_lt_of_cell (hA 0 h0).1, fun i hi => ?_⟩
      rw [hlen] at hi
      rw [List.getElem_map, List.getElem_range]
      exact (hA i hi).1
    · obtain ⟨i, hi, rfl⟩ := List.mem_map.1 hc
      exact (hA i (List.mem_range.1 hi)).2
end Go.Proofs.YtgbaaiedpiiepaaDoor
