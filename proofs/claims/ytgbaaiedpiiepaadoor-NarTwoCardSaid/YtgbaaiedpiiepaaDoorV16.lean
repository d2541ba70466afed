/- Several texts, one behind the other; each says by itself what it proves, and on what conditions. -/
import Derived.Test.YtgbaaiedpiiepaaDoorV15
/- Nodes may be a tree, as the program finds it (each against the one ahead of it), just if they may as the document has it. No condition. -/
namespace Go.Proofs.YtgbaaiedpiiepaaDoor
open Go.RowKit
set_option linter.unusedVariables false
set_option linter.unusedSimpArgs false
/-- A name that may stand in a path. -/
def gn (n : List UInt8) : Prop := n ≠ [] ∧ 47 ∉ n
/-- The path of names, the last one first. -/
def pathR : List (List UInt8) → List UInt8
  | [] => []
  | n :: r => joinL (pathR r) n
theorem pathR_nil {r : List (List UInt8)} (h : ∀ n ∈ r, gn n) : pathR r = [] ↔ r = [] := by
  cases r with
  | nil => simp [pathR]
  | cons n r =>
    have hn := (h n (by simp)).1
    simp only [pathR, joinL]
    split
    · simp [hn]
    · simp
theorem cut_path {n : List UInt8} {r : List (List UInt8)} (h : ∀ m ∈ n :: r, gn m) : cutL (pathR (n :: r)) = (pathR r, n) := by
  have hn := h n (by simp)
  simp only [pathR, joinL]
  split
  · rename_i e; rw [e, cut_none n hn.2]
  · exact cut_at _ _ hn.2
theorem pathR_inj : ∀ {r s : List (List UInt8)}, (∀ n ∈ r, gn n) → (∀ n ∈ s, gn n) → pathR r = pathR s → r = s
  | [], s, _, hs, h => ((pathR_nil hs).1 h.symm).symm
  | n :: r, [], hr, _, h => by have := (pathR_nil hr).1 h; cases this
  | n :: r, m :: s, hr, hs, h => by
    have e := congrArg cutL h
    rw [cut_path hr, cut_path hs] at e
    simp only [Prod.mk.injEq] at e
    rw [e.2, pathR_inj (fun x hx => hr x (List.mem_cons_of_mem _ hx)) (fun x hx => hs x (List.mem_cons_of_mem _ hx)) e.1]
theorem name_path {n : List UInt8} {r s : List (List UInt8)} (h : ∀ m ∈ n :: r, gn m) (hs : ∀ m ∈ s, gn m) : nameL (pathR (n :: r)) (pathR s) = if r = s then n else [] := by
  by_cases e : r = s
  · rw [if_pos e, ← e]; exact name_of_join _ _ (h n (by simp)).2
  · rw [if_neg e]
    by_cases hq : nameL (pathR (n :: r)) (pathR s) = []
    · exact hq
    · exfalso
      obtain ⟨h1, h2⟩ := name_join hq
      apply e
      have h3 := pathR_inj (s := nameL (pathR (n :: r)) (pathR s) :: s) h (fun m hm => by
        rcases List.mem_cons.1 hm with e | hm
        · rw [e]; exact ⟨hq, h2⟩
        · exact hs m hm) h1
      exact (List.cons.inj h3).2
theorem not_path {e : List UInt8} {s : List (List UInt8)} (hs : ∀ m ∈ s, gn m) (h : nameL e (pathR s) ≠ []) : e = pathR (nameL e (pathR s) :: s) ∧ gn (nameL e (pathR s)) := by
  obtain ⟨h1, h2⟩ := name_join h
  exact ⟨h1, h, h2⟩
/-! ### What is left, with no fuel to speak of -/
def leftR (d : Nd) (r : List Nd) : List Nd := restU (fuelN r) d r
def leftL (p last : List UInt8) (r : List Nd) : List Nd := loopU (2 * r.length + 1) p last r
theorem leftR_eq (d : Nd) (r : List Nd) : leftR d r = if d.kind = 4 then leftL d.path [] r else r := by
  unfold leftR leftL fuelN
  rw [restU_succ]
theorem leftL_nil (p last : List UInt8) : leftL p last [] = [] := by unfold leftL; rw [loopU_nil]
theorem leftL_cons (p last : List UInt8) (c : Nd) (r : List Nd) : leftL p last (c :: r) = if nameL c.path p = [] ∨ ltL last (nameL c.path p) = false then c :: r else leftL p (nameL c.path p) (leftR c r) := by
  unfold leftL leftR fuelN
  rw [List.length_cons, loopU_cons]
  split
  · rfl
  · have h1 := (rest_fuel (2 * (r.length + 1)) (2 * r.length + 2)).1 c r (by omega) (by omega)
    rw [h1]
    have hl := (rest_len (2 * r.length + 2)).1 c r
    exact (rest_fuel _ _).2 _ _ _ (by omega) (by omega)
/-- Through directories that are open, the inmost one first. -/
def goU : List (List UInt8 × List UInt8) → List Nd → List Nd
  | [], r => r
  | p :: S, r => goU S (leftL p.1 p.2 r)
def anc : List (List UInt8) → List (List UInt8 × List UInt8)
  | [] => []
  | n :: r => (pathR r, n) :: anc r
def stk (c : Nd) (rc : List (List UInt8)) : List (List UInt8 × List UInt8) := (if c.kind = 4 then [(c.path, [])] else []) ++ anc rc
theorem goU_stk (c : Nd) (rc : List (List UInt8)) (r : List Nd) : goU (stk c rc) r = goU (anc rc) (leftR c r) := by
  unfold stk
  rw [leftR_eq]
  split
  · rfl
  · rfl
theorem goU_nil : ∀ S, goU S [] = []
  | [] => rfl
  | p :: S => by rw [goU, leftL_nil, goU_nil S]
/-- One directory above the other, and the name that leads down. -/
def up (re rc : List (List UInt8)) (n : List UInt8) : Prop := ∃ S m, rc = S ++ m :: re ∧ ltL m n = true
theorem up_cons {re rp : List (List UInt8)} {m n : List UInt8} : up re (m :: rp) n ↔ (re = rp ∧ ltL m n = true) ∨ (re ≠ rp ∧ up re rp n) := by
  constructor
  · rintro ⟨S, q, e, h⟩
    cases S with
    | nil =>
      simp only [List.nil_append, List.cons.injEq] at e
      obtain ⟨rfl, rfl⟩ := e
      exact .inl ⟨rfl, h⟩
    | cons s S =>
      simp only [List.cons_append, List.cons.injEq] at e
      refine .inr ⟨?_, S, q, e.2, h⟩
      rintro rfl
      have := congrArg List.length e.2
      simp at this
      omega
  · rintro (⟨rfl, h⟩ | ⟨_, S, q, e, h⟩)
    · exact ⟨[], m, rfl, h⟩
    · exact ⟨m :: S, q, by rw [e]; rfl, h⟩
theorem up_self {rc : List (List UInt8)} {n : List UInt8} : ¬ up rc rc n := by
  rintro ⟨S, m, e, _⟩
  have := congrArg List.length e
  simp at this
  omega
open Classical in
theorem goU_anc {n : List UInt8} {re : List (List UInt8)} (hg : ∀ m ∈ n :: re, gn m) (e : Nd) (he : e.path = pathR (n :: re)) (r : List Nd) : ∀ rc : List (List UInt8), (∀ m ∈ rc, gn m) →
    goU (anc rc) (e :: r) = if up re rc n then goU (stk e (n :: re)) r else e :: r
  | [], _ => by
    have : ¬ up re [] n := by rintro ⟨S, m, h, _⟩; simp at h
    rw [if_neg this]; rfl
  | m :: rp, hc => by
    have hp : ∀ x ∈ rp, gn x := fun x hx => hc x (List.mem_cons_of_mem _ hx)
    have hn := hg n (by simp)
    rw [anc, goU, leftL_cons, he, name_path hg hp]
    by_cases h : re = rp
    · rw [if_pos h]
      by_cases hl : ltL m n = true
      · rw [if_neg (by rintro (h1 | h1); exact hn.1 h1; rw [hl] at h1; cases h1), if_pos (up_cons.2 (.inl ⟨h, hl⟩)), goU_stk, anc, goU, ← h]
      · rw [if_pos (.inr (by simpa using hl)), goU_anc hg e he r rp hp, h, if_neg up_self]
        rw [if_neg]
        rw [up_cons]
        rintro (⟨_, h2⟩ | ⟨h2, _⟩)
        · exact hl h2
        · exact h2 rfl
    · rw [if_neg h, if_pos (.inl rfl), goU_anc hg e he r rp hp]
      have : up re (m :: rp) n ↔ up re rp n := by
        rw [up_cons]
        exact ⟨fun q => q.elim (fun q => absurd q.1 h) (fun q => q.2), fun q => .inr ⟨h, q⟩⟩
      by_cases hu : up re rp n
      · rw [if_pos hu, if_pos (this.2 hu)]
      · rw [if_neg hu, if_neg (fun q => hu (this.1 q))]
theorem goU_off {e : Nd} (r : List Nd) : ∀ rc : List (List UInt8), (∀ m ∈ rc, gn m) → (∀ s, (∀ m ∈ s, gn m) → nameL e.path (pathR s) = []) → goU (anc rc) (e :: r) = e :: r
  | [], _, _ => rfl
  | m :: rp, hc, h => by
    have hp : ∀ x ∈ rp, gn x := fun x hx => hc x (List.mem_cons_of_mem _ hx)
    rw [anc, goU, leftL_cons, if_pos (.inl (h rp hp))]
    exact goU_off r rp hp h
theorem tail_form {re : List (List UInt8)} {m : List UInt8} : ∀ S : List (List UInt8), (∀ x ∈ S ++ m :: re, gn x) → ∃ t, pathR (S ++ m :: re) = pathR (m :: re) ++ t ∧ (t = [] ∨ ∃ u, t = 47 :: u)
  | [], _ => ⟨[], by simp, .inl rfl⟩
  | s :: S, h => by
    have hS : ∀ x ∈ S ++ m :: re, gn x := fun x hx => h x (List.mem_cons_of_mem _ hx)
    obtain ⟨t, ht, ht2⟩ := tail_form S hS
    have hne : pathR (S ++ m :: re) ≠ [] := fun e => by have := (pathR_nil hS).1 e; simp at this
    refine ⟨t ++ 47 :: s, ?_, .inr ?_⟩
    · show joinL (pathR (S ++ m :: re)) s = _
      unfold joinL
      rw [if_neg hne, ht, List.append_assoc]
    · rcases ht2 with rfl | ⟨u, rfl⟩
      · exact ⟨s, rfl⟩
      · exact ⟨u ++ 47 :: s, rfl⟩
theorem headL_form {m t : List UInt8} (hm : 47 ∉ m) (ht : t = [] ∨ ∃ u, t = 47 :: u) : headL (m ++ t) = m := by
  rcases ht with rfl | ⟨u, rfl⟩
  · rw [List.append_nil]; exact headL_none hm
  · exact headL_at hm
theorem pre_suf {re : List (List UInt8)} (hre : ∀ x ∈ re, gn x) : ∀ rc : List (List UInt8), (∀ x ∈ rc, gn x) → (pathR re ++ [47]) <+: pathR rc → ∃ S m, rc = S ++ m :: re
  | [], _, h => by
    have := h.length_le
    simp [pathR] at this
  | m :: rp, hc, h => by
    have hp : ∀ x ∈ rp, gn x := fun x hx => hc x (List.mem_cons_of_mem _ hx)
    have hm := hc m (by simp)
    simp only [pathR, joinL] at h
    split at h
    · exfalso
      obtain ⟨t, ht⟩ := h
      apply hm.2
      rw [← ht]
      simp
    · obtain ⟨t, ht⟩ := h
      rw [List.append_assoc, List.singleton_append] at ht
      have same : pathR re = pathR rp → ∃ S q, m :: rp = S ++ q :: re := fun e => ⟨[], m, by rw [pathR_inj hre hp e]; rfl⟩
      rcases List.append_eq_append_iff.1 ht with ⟨a, h1, h2⟩ | ⟨a, h1, h2⟩
      · cases a with
        | nil => exact same (by simpa using h1.symm)
        | cons x a =>
          rw [List.cons_append, List.cons.injEq] at h2
          obtain ⟨S, q, e⟩ := pre_suf hre rp hp ⟨a, by rw [h1, ← h2.1]; simp⟩
          exact ⟨m :: S, q, by rw [e]; rfl⟩
      · cases a with
        | nil => exact same (by simpa using h1)
        | cons x a =>
          exfalso
          rw [List.cons_append, List.cons.injEq] at h2
          apply hm.2
          rw [h2.2]
          simp
theorem follows_eq {c e : Nd} {rc re : List (List UInt8)} {n : List UInt8} (hc : c.path = pathR rc) (he : e.path = pathR (n :: re)) (hg : ∀ x ∈ rc, gn x) (hg2 : ∀ x ∈ n :: re, gn x) :
    followsL c e = true ↔ (re = rc ∧ c.kind = 4) ∨ (re ≠ rc ∧ up re rc n) := by
  have hre : ∀ x ∈ re, gn x := fun x hx => hg2 x (List.mem_cons_of_mem _ hx)
  unfold followsL
  rw [he, cut_path hg2, hc]
  simp only
  by_cases h : re = rc
  · subst h
    rw [if_pos rfl]
    simp
  · have h1 : pathR re ≠ pathR rc := fun e => h (pathR_inj hre hg e)
    rw [if_neg h1]
    simp only [h, false_and, false_or, ne_eq, not_false_eq_true, true_and]
    by_cases h2 : pathR re = []
    · rw [if_pos h2]
      obtain rfl := (pathR_nil hre).1 h2
      rcases List.eq_nil_or_concat rc with rfl | ⟨S, m, rfl⟩
      · exact absurd rfl h
      · rw [List.concat_eq_append] at hg ⊢
        obtain ⟨t, ht, ht2⟩ := tail_form S hg
        rw [ht]
        have hm := hg m (by simp)
        have e1 : pathR [m] = m := rfl
        rw [e1, headL_form hm.2 ht2]
        constructor
        · exact fun hl => ⟨S, m, rfl, hl⟩
        · rintro ⟨S2, m2, e2, hl⟩
          have := (List.append_inj' e2 rfl).2
          simp at this
          rw [this]; exact hl
    · rw [if_neg h2, Bool.and_eq_true]
      constructor
      · rintro ⟨h3, h4⟩
        obtain ⟨S, m, rfl⟩ := pre_suf hre rc hg (List.isPrefixOf_iff_prefix.1 h3)
        obtain ⟨t, ht, ht2⟩ := tail_form S hg
        have hm := hg m (by simp)
        refine ⟨S, m, rfl, ?_⟩
        have e1 : pathR (m :: re) = pathR re ++ 47 :: m := by simp [pathR, joinL, h2]
        have e2 : (pathR (S ++ m :: re)).drop ((pathR re).length + 1) = m ++ t := by rw [ht, e1]; simp
        rwa [e2, headL_form hm.2 ht2] at h4
      · rintro ⟨S, m, rfl, hl⟩
        obtain ⟨t, ht, ht2⟩ := tail_form S hg
        have hm := hg m (by simp)
        have e1 : pathR (m :: re) = pathR re ++ 47 :: m := by simp [pathR, joinL, h2]
        have e2 : (pathR (S ++ m :: re)).drop ((pathR re).length + 1) = m ++ t := by rw [ht, e1]; simp
        refine ⟨List.isPrefixOf_iff_prefix.2 ⟨m ++ t, by rw [ht, e1]; simp⟩, ?_⟩
        rw [e2, headL_form hm.2 ht2]
        exact hl
theorem split_ne (l : List UInt8) : splitL l ≠ [] := by
  cases l with
  | nil => simp [splitL]
  | cons c l =>
    rw [splitL]
    split
    · simp
    · split <;> simp
theorem split_app : ∀ (a b : List UInt8), splitL (a ++ 47 :: b) = splitL a ++ splitL b
  | [], b => by simp [splitL]
  | c :: a, b => by
    rw [List.cons_append, splitL, splitL, split_app a b]
    split
    · rfl
    · cases h : splitL a with
      | nil => exact absurd h (split_ne a)
      | cons x r => rfl
theorem split_path : ∀ {r : List (List UInt8)}, r ≠ [] → (∀ x ∈ r, gn x) → splitL (pathR r) = r.reverse
  | [], h, _ => absurd rfl h
  | [n], _, hg => by
    have hn := hg n (by simp)
    show splitL n = [n]
    exact split_none hn.2
  | n :: m :: r, _, hg => by
    have hm : ∀ x ∈ m :: r, gn x := fun x hx => hg x (List.mem_cons_of_mem _ hx)
    have hn := hg n (by simp)
    have hne : pathR (m :: r) ≠ [] := fun e => by have := (pathR_nil hm).1 e; cases this
    have e : pathR (n :: m :: r) = pathR (m :: r) ++ 47 :: n := by
      show joinL (pathR (m :: r)) n = _
      unfold joinL; rw [if_neg hne]
    rw [e, split_app, split_path (by simp) hm, split_none hn.2]
    simp
theorem path_split : ∀ (k : Nat) (p : List UInt8), p.length ≤ k → (∀ x ∈ splitL p, x ≠ []) → pathR (splitL p).reverse = p
  | 0, p, hk, h => by
    obtain rfl : p = [] := List.length_eq_zero_iff.1 (by omega)
    exact absurd rfl (h [] (by simp [splitL]))
  | k + 1, p, hk, h => by
    by_cases h47 : 47 ∈ p
    · obtain ⟨a, n, rfl, hn⟩ := last_split h47
      rw [split_app, split_none hn] at h ⊢
      have ha : a ≠ [] := by
        rintro rfl
        exact absurd rfl (h [] (by simp [splitL]))
      rw [List.reverse_append, List.reverse_singleton, List.singleton_append, pathR, path_split k a (by simp at hk; omega) (fun x hx => h x (by simp [hx]))]
      unfold joinL; rw [if_neg ha]
    · rw [split_none h47]
      rfl
theorem may_gn {n : List UInt8} (h : mayNameL n = true) : gn n := by
  unfold mayNameL at h
  simp only [Bool.and_eq_true, decide_eq_true_eq, Bool.not_eq_true', List.contains_eq_mem, decide_eq_false_iff_not] at h
  exact ⟨fun e => by rw [e] at h; simp at h, h.1.1.2⟩
theorem count_no {n : List UInt8} (h : 47 ∉ n) : n.count 47 = 0 := List.count_eq_zero.2 h
theorem deep_path : ∀ {r : List (List UInt8)}, r ≠ [] → (∀ x ∈ r, gn x) → deepL (pathR r) = r.length
  | [], h, _ => absurd rfl h
  | [n], _, hg => by
    have hn := hg n (by simp)
    show 1 + n.count 47 = 1
    rw [count_no hn.2]
  | n :: m :: r, _, hg => by
    have hm : ∀ x ∈ m :: r, gn x := fun x hx => hg x (List.mem_cons_of_mem _ hx)
    have hn := hg n (by simp)
    have hne : pathR (m :: r) ≠ [] := fun e => by have := (pathR_nil hm).1 e; cases this
    have e : pathR (n :: m :: r) = pathR (m :: r) ++ 47 :: n := by
      show joinL (pathR (m :: r)) n = _
      unfold joinL; rw [if_neg hne]
    have ih := deep_path (r := m :: r) (by simp) hm
    unfold deepL at ih ⊢
    rw [e, List.count_append, List.count_cons, count_no hn.2]
    simp at ih ⊢
    omega
/-- Each node against the one ahead of it. -/
def chainL : Nd → List Nd → Prop
  | _, [] => True
  | c, e :: r => (mayDataL e = true ∧ mayPathL e.path = true ∧ followsL c e = true) ∧ chainL e r
def docC (e : Nd) : Prop := mayNameL (cutL e.path).2 = true ∧ deepL e.path ≤ 64 ∧ mayDataL e = true
theorem valid_path {p : List UInt8} (h : mayPathL p = true) : ∃ n re, p = pathR (n :: re) ∧ (∀ x ∈ n :: re, mayNameL x = true) ∧ (n :: re).length ≤ 64 := by
  unfold mayPathL at h
  rw [Bool.and_eq_true, decide_eq_true_eq, List.all_eq_true] at h
  have hp := path_split p.length p (Nat.le_refl _) (fun x hx => (may_gn (h.2 x hx)).1)
  cases hr : (splitL p).reverse with
  | nil => exact absurd (List.reverse_eq_nil_iff.1 hr) (split_ne p)
  | cons n re =>
    rw [hr] at hp
    refine ⟨n, re, hp.symm, fun x hx => h.2 x (by rw [← List.mem_reverse, hr]; exact hx), ?_⟩
    have := congrArg List.length hr
    rw [List.length_reverse] at this
    omega
theorem path_valid {n : List UInt8} {re : List (List UInt8)} (h : ∀ x ∈ n :: re, mayNameL x = true) (hl : (n :: re).length ≤ 64) : mayPathL (pathR (n :: re)) = true := by
  unfold mayPathL
  rw [split_path (by simp) (fun x hx => may_gn (h x hx)), List.length_reverse, decide_eq_true hl, Bool.true_and, List.all_eq_true]
  exact fun x hx => h x (List.mem_reverse.1 hx)
theorem stk_step {c e : Nd} {rc re : List (List UInt8)} {n : List UInt8} (hc : c.path = pathR rc) (he : e.path = pathR (n :: re)) (hg : ∀ x ∈ rc, gn x) (hg2 : ∀ x ∈ n :: re, gn x) (r : List Nd) :
    (followsL c e = true → goU (stk c rc) (e :: r) = goU (stk e (n :: re)) r) ∧ (followsL c e ≠ true → goU (stk c rc) (e :: r) = e :: r) := by
  have hf := follows_eq hc he hg hg2
  have ha := goU_anc hg2 e he r rc hg
  have hn := hg2 n (by simp)
  rw [goU_stk, leftR_eq]
  by_cases h4 : c.kind = 4
  · rw [if_pos h4, leftL_cons, hc, he, name_path hg2 hg]
    by_cases h : re = rc
    · rw [if_pos h, if_neg (by rintro (h1 | h1); exact hn.1 h1; cases hnn : n with | nil => exact hn.1 hnn | cons a b => rw [hnn] at h1; simp [ltL] at h1)]
      refine ⟨fun _ => ?_, fun q => absurd (hf.2 (.inl ⟨h, h4⟩)) q⟩
      rw [goU_stk, anc, goU, ← h]
    · rw [if_neg h, if_pos (.inl rfl), ha]
      simp only [h, false_and, false_or, ne_eq, not_false_eq_true, true_and] at hf
      by_cases hu : up re rc n
      · rw [if_pos hu]; exact ⟨fun _ => rfl, fun q => absurd (hf.2 hu) q⟩
      · rw [if_neg hu]; exact ⟨fun q => absurd (hf.1 q) hu, fun _ => rfl⟩
  · rw [if_neg h4, ha]
    by_cases h : re = rc
    · rw [if_neg (by rw [h]; exact up_self)]
      refine ⟨fun q => ?_, fun _ => rfl⟩
      rcases hf.1 q with ⟨_, q⟩ | ⟨q, _⟩
      · exact absurd q h4
      · exact absurd h q
    · simp only [h, false_and, false_or, ne_eq, not_false_eq_true, true_and] at hf
      by_cases hu : up re rc n
      · rw [if_pos hu]; exact ⟨fun _ => rfl, fun q => absurd (hf.2 hu) q⟩
      · rw [if_neg hu]; exact ⟨fun q => absurd (hf.1 q) hu, fun _ => rfl⟩
theorem stk_off {c e : Nd} {rc : List (List UInt8)} (hc : c.path = pathR rc) (hg : ∀ x ∈ rc, gn x) (r : List Nd) (h : ∀ s, (∀ m ∈ s, gn m) → nameL e.path (pathR s) = []) : goU (stk c rc) (e :: r) = e :: r := by
  rw [goU_stk, leftR_eq]
  split
  · rw [leftL_cons, hc, if_pos (.inl (h rc hg))]; exact goU_off r rc hg h
  · exact goU_off r rc hg h
theorem chain_eq : ∀ (r : List Nd) (c : Nd) (rc : List (List UInt8)), c.path = pathR rc → (∀ x ∈ rc, mayNameL x = true) → (chainL c r ↔ (goU (stk c rc) r = [] ∧ ∀ e ∈ r, docC e))
  | [], c, rc, _, _ => ⟨fun _ => ⟨goU_nil _, fun e he => by cases he⟩, fun _ => trivial⟩
  | e :: r, c, rc, hc, hm => by
    have hg : ∀ x ∈ rc, gn x := fun x hx => may_gn (hm x hx)
    constructor
    · rintro ⟨⟨h1, h2, h3⟩, h4⟩
      obtain ⟨n, re, he, hn, hl⟩ := valid_path h2
      have hg2 : ∀ x ∈ n :: re, gn x := fun x hx => may_gn (hn x hx)
      have ih := (chain_eq r e (n :: re) he hn).1 h4
      refine ⟨by rw [(stk_step hc he hg hg2 r).1 h3]; exact ih.1, fun x hx => ?_⟩
      rcases List.mem_cons.1 hx with rfl | hx
      · refine ⟨?_, ?_, h1⟩
        · rw [he, cut_path hg2]; exact hn n (by simp)
        · rw [he, deep_path (by simp) hg2]; exact hl
      · exact ih.2 x hx
    · rintro ⟨h1, h2⟩
      obtain ⟨d1, d2, d3⟩ := h2 e (by simp)
      by_cases hoff : ∀ s, (∀ m ∈ s, gn m) → nameL e.path (pathR s) = []
      · rw [stk_off hc hg r hoff] at h1; cases h1
      · have hoff2 : ∃ s, (∀ m ∈ s, gn m) ∧ nameL e.path (pathR s) ≠ [] := Classical.byContradiction fun hq => hoff fun s hs => Classical.byContradiction fun hx => hq ⟨s, hs, hx⟩
        obtain ⟨re, hre, hne⟩ := hoff2
        obtain ⟨he, hgn⟩ := not_path hre hne
        generalize nameL e.path (pathR re) = n at he hgn
        have hg2 : ∀ x ∈ n :: re, gn x := fun x hx => by
          rcases List.mem_cons.1 hx with rfl | hx
          · exact hgn
          · exact hre x hx
        have hst := stk_step hc he hg hg2 r
        have hf : followsL c e = true := Classical.byContradiction fun q => by rw [hst.2 q] at h1; cases h1
        rw [hst.1 hf] at h1
        have hnm : mayNameL n = true := by rw [he, cut_path hg2] at d1; exact d1
        have hrm : ∀ x ∈ re, mayNameL x = true := by
          rcases (follows_eq hc he hg hg2).1 hf with ⟨q, _⟩ | ⟨_, S, m, q, _⟩
          · rw [q]; exact hm
          · exact fun x hx => hm x (by rw [q]; simp [hx])
        have hall : ∀ x ∈ n :: re, mayNameL x = true := fun x hx => by
          rcases List.mem_cons.1 hx with rfl | hx
          · exact hnm
          · exact hrm x hx
        have hl : (n :: re).length ≤ 64 := by rw [he, deep_path (by simp) hg2] at d2; exact d2
        exact ⟨⟨d3, by rw [he]; exact path_valid hall hl, hf⟩, (chain_eq r e (n :: re) he hall).2 ⟨h1, fun x hx => h2 x (List.mem_cons_of_mem _ hx)⟩⟩
theorem okAt_next (d e : Nd) (r : List Nd) (j : Nat) : okAt (ndf (d :: e :: r)) (j + 2) = okAt (ndf (e :: r)) (j + 1) := rfl
theorem chain_ok : ∀ (r : List Nd) (d : Nd), (∀ i, i < r.length → okAt (ndf (d :: r)) (i + 1) = true) ↔ chainL d r
  | [], d => ⟨fun _ => trivial, fun _ i hi => absurd hi (Nat.not_lt_zero _)⟩
  | e :: r, d => by
    have h0 : okAt (ndf (d :: e :: r)) 1 = true ↔ (mayDataL e = true ∧ mayPathL e.path = true ∧ followsL d e = true) := by
      show (mayDataL e && (mayPathL e.path && followsL d e)) = true ↔ _
      rw [Bool.and_eq_true, Bool.and_eq_true]
    constructor
    · intro h
      exact ⟨h0.1 (h 0 (by simp)), (chain_ok r e).1 fun i hi => by rw [← okAt_next d]; exact h (i + 1) (by simp; omega)⟩
    · rintro ⟨h1, h2⟩ i hi
      cases i with
      | zero => exact h0.2 h1
      | succ i => exact (okAt_next d e r i).trans ((chain_ok r e).2 h2 i (by simp at hi; omega))
theorem mayP_eq (d : Nd) (r : List Nd) : mayP (ndf (d :: r)) (d :: r).length = mayL (d :: r) := by
  rw [Bool.eq_iff_iff]
  unfold mayP mayL
  simp only [Bool.and_eq_true, decide_eq_true_eq, beq_iff_eq, List.all_eq_true, List.mem_range, List.length_cons]
  have e0 : ndf (d :: r) 0 = d := rfl
  rw [e0]
  have hall : (∀ i, i < r.length + 1 → okAt (ndf (d :: r)) i = true) ↔ (mayDataL d = true ∧ chainL d r) := by
    rw [← chain_ok r d]
    constructor
    · exact fun h => ⟨h 0 (by omega), fun i hi => h (i + 1) (by omega)⟩
    · rintro ⟨h1, h2⟩ i hi
      cases i with
      | zero => exact h1
      | succ i => exact h2 i (by omega)
  rw [hall]
  constructor
  · rintro ⟨h1, h2, h3, h4⟩
    have hc := (chain_eq r d [] h2 (fun x hx => by cases hx)).1 h4
    refine ⟨⟨⟨⟨h1, h2⟩, h3⟩, fun x hx => ?_⟩, ?_⟩
    · obtain ⟨q1, q2, q3⟩ := hc.2 x hx
      exact ⟨⟨q1, q2⟩, q3⟩
    · have q := hc.1
      rw [goU_stk] at q
      exact List.length_eq_zero_iff.2 q
  · rintro ⟨⟨⟨⟨h1, h2⟩, h3⟩, h4⟩, h5⟩
    refine ⟨h1, h2, h3, (chain_eq r d [] h2 (fun x hx => by cases hx)).2 ⟨?_, fun e he => ?_⟩⟩
    · rw [goU_stk]
      exact List.length_eq_zero_iff.1 h5
    · obtain ⟨⟨q1, q2⟩, q3⟩ := h4 e he
      exact ⟨q1, q2, q3⟩
theorem pmay_any (b o cap : Nat) (d : Nd) (r : List Nd) (hl : r.length + 1 ≤ 1000000) (hp : ∀ c ∈ d :: r, c.path.length ≤ 1000000) (hd : ∀ c ∈ d :: r, c.data.length ≤ 1000000) (w : World) (hN : Nodes w b o (d :: r)) :
    Calls Tryd.prog 14 #[slV b o (r.length + 1) cap] w fun e w' => e = .returned (.bool (mayL (d :: r))) ∧ Below w.heap.size w w' := by
  rw [← mayP_eq]
  exact pmay_pos b o cap (d :: r) (by simp) hl hp hd w hN
end Go.Proofs.YtgbaaiedpiiepaaDoor
/- The bytes of a tree that may be, as the program makes them (each node of a directory with all that is below it), are the document's. No condition. -/
namespace Go.Proofs.YtgbaaiedpiiepaaDoor
open Go.RowKit
set_option linter.unusedVariables false
set_option linter.unusedSimpArgs false
/-- Below a path? -/
def wh (p : List UInt8) (e : Nd) : Bool := p == [] || (p ++ [47]).isPrefixOf e.path
def subT (c : Nd) (r : List Nd) : List Nd := r.takeWhile (wh c.path)
def subD (c : Nd) (r : List Nd) : List Nd := r.dropWhile (wh c.path)
mutual
/-- The bytes of a node with all that is below it. -/
def progU : Nat → Nd → List Nd → List UInt8
  | 0, _, _ => []
  | f + 1, d, r =>
    strsL [tOpen, tType] ++ ((if d.kind = 1 then strsL [tReg, tCont, d.data]
    else if d.kind = 2 then strsL [tReg, tExec, [], tCont, d.data]
    else if d.kind = 3 then strsL [tSym, tTarg, d.data]
    else strsL [tDir] ++ entsP f r) ++ strsL [tClose])
/-- The bytes of the nodes of a directory. -/
def entsP : Nat → List Nd → List UInt8
  | 0, _ => []
  | _ + 1, [] => []
  | f + 1, c :: r => strsL [tEntry, tOpen, tName, (cutL c.path).2, tNode] ++ (progU f c (subT c r) ++ (strsL [tClose] ++ entsP f (subD c r)))
end
theorem progU_succ (f : Nat) (d : Nd) (r : List Nd) : progU (f + 1) d r = strsL [tOpen, tType] ++ ((if d.kind = 1 then strsL [tReg, tCont, d.data] else if d.kind = 2 then strsL [tReg, tExec, [], tCont, d.data] else if d.kind = 3 then strsL [tSym, tTarg, d.data] else strsL [tDir] ++ entsP f r) ++ strsL [tClose]) := by rw [progU]
theorem entsP_nil (f : Nat) : entsP (f + 1) [] = [] := by rw [entsP]
theorem entsP_cons (f : Nat) (c : Nd) (r : List Nd) : entsP (f + 1) (c :: r) = strsL [tEntry, tOpen, tName, (cutL c.path).2, tNode] ++ (progU f c (subT c r) ++ (strsL [tClose] ++ entsP f (subD c r))) := by rw [entsP]
/-! ### Below, by names -/
theorem wh_path {rc re : List (List UInt8)} {n : List UInt8} {e : Nd} (he : e.path = pathR (n :: re)) (hc : ∀ x ∈ rc, gn x) (hg : ∀ x ∈ n :: re, gn x) : wh (pathR rc) e = true ↔ rc <:+ re := by
  unfold wh
  rw [Bool.or_eq_true, beq_iff_eq, pathR_nil hc, he]
  constructor
  · rintro (rfl | h)
    · exact List.nil_suffix
    · obtain ⟨S, m, h2⟩ := pre_suf hc _ hg (List.isPrefixOf_iff_prefix.1 h)
      cases S with
      | nil =>
        simp only [List.nil_append, List.cons.injEq] at h2
        rw [h2.2]; exact List.suffix_refl _
      | cons s S =>
        simp only [List.cons_append, List.cons.injEq] at h2
        rw [h2.2]; exact ⟨S ++ [m], by simp⟩
  · rintro ⟨S, rfl⟩
    by_cases h0 : rc = []
    · exact .inl h0
    · right
      have h1 : pathR rc ≠ [] := fun e => h0 ((pathR_nil hc).1 e)
      have key : ∃ T m, n :: (S ++ rc) = T ++ m :: rc := by
        rcases List.eq_nil_or_concat S with rfl | ⟨S2, m, rfl⟩
        · exact ⟨[], n, rfl⟩
        · exact ⟨n :: S2, m, by simp⟩
      obtain ⟨T, m, h2⟩ := key
      rw [h2] at hg ⊢
      obtain ⟨t, ht, _⟩ := tail_form T hg
      have e1 : pathR (m :: rc) = pathR rc ++ 47 :: m := by simp [pathR, joinL, h1]
      rw [ht, e1]
      exact List.isPrefixOf_iff_prefix.2 ⟨m ++ t, by simp⟩
/-- What a step of the chain is, by names. -/
theorem chain_step {c e : Nd} {rc : List (List UInt8)} (hc : c.path = pathR rc) (hm : ∀ x ∈ rc, mayNameL x = true) {r : List Nd} (h : chainL c (e :: r)) :
    ∃ n re, e.path = pathR (n :: re) ∧ (∀ x ∈ n :: re, mayNameL x = true) ∧ ((re = rc ∧ c.kind = 4) ∨ (re ≠ rc ∧ re <:+ rc)) ∧ mayDataL e = true ∧ chainL e r := by
  obtain ⟨⟨h1, h2, h3⟩, h4⟩ := h
  obtain ⟨n, re, he, hn, hl⟩ := valid_path h2
  refine ⟨n, re, he, hn, ?_, h1, h4⟩
  rcases (follows_eq hc he (fun x hx => may_gn (hm x hx)) (fun x hx => may_gn (hn x hx))).1 h3 with q | ⟨q, S, m, q2, _⟩
  · exact .inl q
  · exact .inr ⟨q, S ++ [m], by rw [q2]; simp⟩
/-- Behind all that is below a path the chain goes on. -/
theorem chain_drop {rc : List (List UInt8)} (hc : ∀ x ∈ rc, mayNameL x = true) : ∀ (r : List Nd) (x : Nd) (rx : List (List UInt8)), x.path = pathR rx → (∀ y ∈ rx, mayNameL y = true) → rc <:+ rx → chainL x r →
    ∃ y ry, y.path = pathR ry ∧ (∀ z ∈ ry, mayNameL z = true) ∧ rc <:+ ry ∧ chainL y (r.dropWhile (wh (pathR rc)))
  | [], x, rx, hx, hm, hs, h => ⟨x, rx, hx, hm, hs, trivial⟩
  | e :: r, x, rx, hx, hm, hs, h => by
    obtain ⟨n, re, he, hn, _, _, h4⟩ := chain_step hx hm h
    by_cases hw : wh (pathR rc) e = true
    · rw [List.dropWhile_cons, if_pos hw]
      have := (wh_path he (fun x hx => may_gn (hc x hx)) (fun x hx => may_gn (hn x hx))).1 hw
      exact chain_drop hc r e (n :: re) he hn (List.IsSuffix.trans this (List.suffix_cons _ _)) h4
    · rw [List.dropWhile_cons, if_neg hw]
      exact ⟨x, rx, hx, hm, hs, h⟩
theorem take_take {α : Type} {p q : α → Bool} (h : ∀ x, q x = true → p x = true) : ∀ l : List α, (l.takeWhile p).takeWhile q = l.takeWhile q
  | [] => rfl
  | x :: l => by
    by_cases hq : q x = true
    · rw [List.takeWhile_cons, if_pos (h x hq), List.takeWhile_cons, if_pos hq, List.takeWhile_cons, if_pos hq, take_take h l]
    · rw [List.takeWhile_cons, List.takeWhile_cons, if_neg hq]
      split
      · rw [List.takeWhile_cons, if_neg hq]
      · rfl
theorem take_drop {α : Type} {p q : α → Bool} (h : ∀ x, q x = true → p x = true) : ∀ l : List α, (l.takeWhile p).dropWhile q = (l.dropWhile q).takeWhile p
  | [] => rfl
  | x :: l => by
    by_cases hq : q x = true
    · rw [List.takeWhile_cons, if_pos (h x hq), List.dropWhile_cons, if_pos hq, List.dropWhile_cons, if_pos hq, take_drop h l]
    · rw [List.dropWhile_cons, if_neg hq, List.takeWhile_cons]
      split
      · rw [List.dropWhile_cons, if_neg hq]
      · rfl
theorem wh_trans {p : List UInt8} {c e : Nd} (hp : wh p c = true) (hc : c.path ≠ []) (h : wh c.path e = true) : wh p e = true := by
  unfold wh at *
  rw [Bool.or_eq_true, beq_iff_eq] at *
  rcases hp with hp | hp
  · exact .inl hp
  · rcases h with h | h
    · exact absurd h hc
    · right
      rw [List.isPrefixOf_iff_prefix] at *
      obtain ⟨t, ht⟩ := hp
      obtain ⟨u, hu⟩ := h
      exact ⟨t ++ 47 :: u, by rw [← hu, ← ht]; simp⟩
theorem kinds {e : Nd} (h : mayDataL e = true) : e.kind = 1 ∨ e.kind = 2 ∨ e.kind = 3 ∨ e.kind = 4 := by
  unfold mayDataL at h
  split at h
  · omega
  · split at h
    · omega
    · split at h
      · omega
      · cases h
theorem prog_byt : ∀ f, (∀ (d : Nd) (r : List Nd) (rd : List (List UInt8)), 2 * r.length + 2 ≤ f → d.path = pathR rd → (∀ x ∈ rd, mayNameL x = true) → mayDataL d = true → chainL d r →
      (bytU f d r).1 = progU f d (subT d r) ∧ (bytU f d r).2 = subD d r) ∧
    (∀ (rp : List (List UInt8)) (r : List Nd) (x : Nd) (rx : List (List UInt8)), 2 * r.length + 1 ≤ f → (∀ y ∈ rp, mayNameL y = true) → x.path = pathR rx → (∀ y ∈ rx, mayNameL y = true) → rp <:+ rx → chainL x r →
      (∀ c r1, r = c :: r1 → wh (pathR rp) c = true → nameL c.path (pathR rp) ≠ []) →
      (entU f (pathR rp) r).1 = entsP f (r.takeWhile (wh (pathR rp))) ∧ (entU f (pathR rp) r).2 = r.dropWhile (wh (pathR rp)))
  | 0 => ⟨fun d r rd h => by omega, fun rp r x rx h => by omega⟩
  | f + 1 => by
    obtain ⟨h1, h2⟩ := prog_byt f
    constructor
    · intro d r rd hf hd hm hk hch
      have leaf : d.kind ≠ 4 → subT d r = [] ∧ subD d r = r := by
        intro h4
        cases r with
        | nil => exact ⟨rfl, rfl⟩
        | cons e r =>
          obtain ⟨n, re, he, hn, hs, _, _⟩ := chain_step hd hm hch
          have hw : ¬ wh d.path e = true := by
            rw [hd, wh_path he (fun x hx => may_gn (hm x hx)) (fun x hx => may_gn (hn x hx))]
            intro hsuf
            rcases hs with ⟨_, q⟩ | ⟨q, q2⟩
            · exact h4 q
            · exact q (List.IsSuffix.eq_of_length_le q2 hsuf.length_le)
          unfold subT subD
          rw [List.takeWhile_cons, if_neg hw, List.dropWhile_cons, if_neg hw]
          exact ⟨rfl, rfl⟩
      have fl : ∀ a b : List (List UInt8), strsL (a ++ b) = strsL a ++ strsL b := fun a b => by simp [strsL]
      rcases kinds hk with k | k | k | k
      · rw [bytU_succ, if_pos k, progU_succ, if_pos k, (leaf (by omega)).2, ← fl, ← fl]
        exact ⟨rfl, rfl⟩
      · rw [bytU_succ, if_neg (by omega), if_pos k, progU_succ, if_neg (by omega), if_pos k, (leaf (by omega)).2, ← fl, ← fl]
        exact ⟨rfl, rfl⟩
      · rw [bytU_succ, if_neg (by omega), if_neg (by omega), if_pos k, progU_succ, if_neg (by omega), if_neg (by omega), if_pos k, (leaf (by omega)).2, ← fl, ← fl]
        exact ⟨rfl, rfl⟩
      · have hE := h2 rd r d rd (by omega) hm hd hm (List.suffix_refl _) hch (fun c r1 e hw => by
          subst e
          obtain ⟨n, re, he, hn, hs, _, _⟩ := chain_step hd hm hch
          have hsuf := (wh_path he (fun x hx => may_gn (hm x hx)) (fun x hx => may_gn (hn x hx))).1 hw
          have : re = rd := by
            rcases hs with ⟨q, _⟩ | ⟨q, q2⟩
            · exact q
            · exact absurd (List.IsSuffix.eq_of_length_le q2 hsuf.length_le) q
          rw [he, name_path (fun x hx => may_gn (hn x hx)) (fun x hx => may_gn (hm x hx)), if_pos this]
          exact (may_gn (hn n (by simp))).1)
        rw [← hd] at hE
        rw [bytU_succ, if_neg (by omega), if_neg (by omega), if_neg (by omega), progU_succ, if_neg (by omega), if_neg (by omega), if_neg (by omega)]
        refine ⟨?_, hE.2⟩
        show strsL [tOpen, tType, tDir] ++ ((entU f d.path r).1 ++ strL tClose) = _
        rw [hE.1]
        show strsL ([tOpen, tType] ++ [tDir]) ++ _ = _
        rw [fl]
        simp [strsL, subT, List.append_assoc]
    · intro rp r x rx hf hp hx hm hs hch H
      cases r with
      | nil => rw [entU_nil]; exact ⟨by rw [List.takeWhile_nil, entsP_nil], rfl⟩
      | cons c r =>
        obtain ⟨n, re, he, hn, hst, hk, h4⟩ := chain_step hx hm hch
        have gp : ∀ y ∈ rp, gn y := fun y hy => may_gn (hp y hy)
        have gc : ∀ y ∈ n :: re, gn y := fun y hy => may_gn (hn y hy)
        by_cases hw : wh (pathR rp) c = true
        · have hne := H c r rfl hw
          have hre : re = rp := by
            rw [he, name_path gc gp] at hne
            exact Classical.byContradiction fun q => hne (if_neg q)
          have hnm : nameL c.path (pathR rp) = (cutL c.path).2 := by rw [he, name_path gc gp, if_pos hre, cut_path gc]
          have hcne : c.path ≠ [] := by
            rw [he]; intro q; have := (pathR_nil gc).1 q; cases this
          simp only [List.length_cons] at hf
          have hb := h1 c r (n :: re) (by omega) he hn hk h4
          have hdl : (subD c r).length ≤ r.length := (List.dropWhile_sublist _).length_le
          obtain ⟨y, ry, hy, hym, hys, hyc⟩ := chain_drop hn r c (n :: re) he hn (List.suffix_refl _) h4
          rw [← he] at hyc
          have hE := h2 rp (subD c r) y ry (by omega) hp hy hym (by
            refine List.IsSuffix.trans ?_ hys
            rw [hre]; exact List.suffix_cons _ _) hyc (fun c2 r2 e2 hw2 => by
            have hyc2 : chainL y (c2 :: r2) := by rw [← e2]; exact hyc
            obtain ⟨n2, re2, he2, hn2, hst2, _, _⟩ := chain_step hy hym hyc2
            have gc2 : ∀ y ∈ n2 :: re2, gn y := fun y hy => may_gn (hn2 y hy)
            have s1 := (wh_path he2 gp gc2).1 hw2
            have s2 : ¬ (n :: re) <:+ re2 := by
              rw [← wh_path he2 gc gc2, ← he]
              intro hq
              have := List.head?_dropWhile_not (wh c.path) r
              unfold subD at e2
              rw [e2] at this
              simp only [List.head?_cons] at this
              rw [hq] at this
              cases this
            have s3 : re2 <:+ ry := by
              rcases hst2 with ⟨q, _⟩ | ⟨_, q⟩
              · rw [q]; exact List.suffix_refl _
              · exact q
            have hlen : re2.length ≤ re.length := by
              refine Nat.le_of_not_lt fun hq => s2 ?_
              exact List.suffix_of_suffix_length_le hys s3 (by simp; omega)
            have : re2 = rp := by
              have := List.IsSuffix.eq_of_length_le s1 (by rw [← hre]; exact hlen)
              exact this.symm
            rw [he2, name_path gc2 gp, if_pos this]
            exact (gc2 n2 (by simp)).1)
          rw [entU_cons f _ c r hne, hb.1, hb.2, hE.1, hE.2, hnm, List.takeWhile_cons, if_pos hw, List.dropWhile_cons, if_pos hw, entsP_cons]
          have tr : ∀ e, wh c.path e = true → wh (pathR rp) e = true := fun e => wh_trans hw hcne
          refine ⟨?_, ?_⟩
          · unfold subT subD
            rw [take_take tr, take_drop tr]
            simp [strsL]
          · unfold subD
            have : ∀ l : List Nd, (l.dropWhile (wh c.path)).dropWhile (wh (pathR rp)) = l.dropWhile (wh (pathR rp)) := by
              intro l
              induction l with
              | nil => rfl
              | cons e l ih =>
                by_cases q : wh c.path e = true
                · rw [List.dropWhile_cons, if_pos q, ih, List.dropWhile_cons, if_pos (tr e q)]
                · rw [List.dropWhile_cons, if_neg q]
            exact this r
        · have hre : re ≠ rp := by
            rintro rfl
            exact hw ((wh_path he gp gc).2 (List.suffix_refl _))
          have hnm : nameL c.path (pathR rp) = [] := by rw [he, name_path gc gp, if_neg hre]
          rw [entU_stop f _ c r hnm, List.takeWhile_cons, if_neg hw, List.dropWhile_cons, if_neg hw, entsP_nil]
          exact ⟨rfl, rfl⟩
theorem prog_tree (d : Nd) (r : List Nd) (h : mayL (d :: r) = true) : strsL [tMagic] ++ progU (fuelN r) d r = treeL (d :: r) := by
  have hq := mayP_eq d r
  rw [h] at hq
  unfold mayP at hq
  simp only [Bool.and_eq_true, decide_eq_true_eq, beq_iff_eq, List.all_eq_true, List.mem_range, List.length_cons] at hq
  obtain ⟨_, h0, hall⟩ := hq
  have hd : d.path = [] := h0
  have hch : chainL d r := (chain_ok r d).1 fun i hi => hall (i + 1) (by omega)
  have hb := (prog_byt (fuelN r)).1 d r [] (Nat.le_refl _) hd (fun x hx => by cases hx) (hall 0 (by omega)) hch
  have hs : subT d r = r := by
    unfold subT
    rw [hd]
    have : ∀ l : List Nd, l.takeWhile (wh []) = l := by
      intro l
      induction l with
      | nil => rfl
      | cons e l ih => rw [List.takeWhile_cons, if_pos (by simp [wh]), ih]
    exact this r
  rw [hs] at hb
  show strsL [tMagic] ++ progU (fuelN r) d r = strL tMagic ++ (bytU (fuelN r) d r).1
  rw [hb.1]
  simp [strsL]
end Go.Proofs.YtgbaaiedpiiepaaDoor
/- Of the program: how many nodes stand below one, and the iterator over the nodes of a directory, what it hands its rounds, whatever they do. Its conditions: lengths that fit. -/
namespace Go.Proofs.YtgbaaiedpiiepaaDoor
open Go.RowKit Go.Shelf
set_option linter.unusedVariables false
set_option linter.unusedSimpArgs false
section
open E
abbrev slAt (j n cap : Nat) : TV := .s (.lf (.sl 0 0 j 3 n (some cap)))
abbrev hPre (p q : List UInt8) (b : Bool) : Hint := pc 58 #[stv p, stv q] (.v (.bool b))
theorem ent58 : Enters Tryd.prog 58 := enters_of Tryd.func58 (by kernel_rfl) rfl
theorem hPre_ok (id : Nat) (p q : List UInt8) (b : Bool) (hb : q.isPrefixOf p = b) : HintOk Tryd.prog id (hPre p q b) := pc_ok ent58 (v := .bool b) rfl (fun _ => rfl) fun w => (strings_HasPrefix ⟨p.toArray⟩ ⟨q.toArray⟩ w).mono (by rintro e w' ⟨rfl, rfl⟩; exact ⟨by rw [← hb]; rfl, Below.refl _ _⟩)
/-- How many of the nodes from j + 1 on, one behind the other, are below node j. -/
def runN (nd : Nat → Nd) (j : Nat) : Nat → Nat → Nat
  | 0, k => k
  | m + 1, k => if ((nd j).path ++ [47]).isPrefixOf (nd (addN j k)).path then runN nd j m (k + 1) else k
theorem runN_le (nd : Nat → Nd) (j : Nat) : ∀ m k, k ≤ runN nd j m k ∧ runN nd j m k ≤ k + m
  | 0, k => ⟨Nat.le_refl _, Nat.le_refl _⟩
  | m + 1, k => by
    have h := runN_le nd j m (k + 1)
    unfold runN
    split
    · omega
    · omega
/-- The node's own, and all below it, of m nodes. -/
def spanN (nd : Nat → Nd) (j m : Nat) : Nat := runN nd j (m - 1) 1
abbrev tmS (nd : Nat → Nd) (j m cap k : Nat) : List (Nat × TV) := [(0, slAt j m cap), (3, .v (stv ((nd j).path ++ [47]))), (4, .int .i64 k)]
set_option maxRecDepth 100000 in
set_option maxHeartbeats 1000000 in
theorem span_rows (nd : Nat → Nd) (n j m cap : Nat) (hm : 0 < m) (hn : j + m ≤ n) (hn2 : n ≤ 1000000) (hp : ∀ i, i < n → (nd i).path.length ≤ 1000000) (ρ : Env) (w : World) (hr : RowAt ρ 0 (ndRow nd n) w) :
    Calls Tryd.prog 64 #[(slAt j m cap).val ρ] w fun e w' => e = .returned (.int .i64 (spanN nd j m : Int)) ∧ Below w.heap.size w w' := by
  refine At.calls (args := [slAt j m cap]) (rows := [(0, ndRow nd n)]) (gl := []) (wr := []) (ρ := ρ) Tryd.func64 rfl rfl (init_ro1 ⟨trivial, trivial⟩ rfl rfl ⟨⟨hr, ndRow_ok nd n⟩, trivial⟩) rfl ?_
  have hadd : ∀ k, addN j k = j + k := addN_eq j
  have hloop : ∀ k, (k ≤ m ∧ runN nd j (m - k) k = spanN nd j m) → At Tryd.prog w ⟨[], ρ, []⟩ 26 [] (lp Tryd.f64 0) (EndX Tryd.prog Tryd.f64 fun e w' => e = .returned (.int .i64 (spanN nd j m : Int)) ∧ Below w.heap.size w w') (tmS nd j m cap k) [(0, ndRow nd n)] := by
    refine At.loop (tmS nd j m cap) (fun _ => [(0, ndRow nd n)]) (fun k => k ≤ m ∧ runN nd j (m - k) k = spanN nd j m) (fun k => m - k) fun k hk ih => ?_
    obtain ⟨hk, hrun⟩ := hk
    by_cases h : k < m
    · obtain ⟨q, hq⟩ : ∃ q, m - k = q + 1 := ⟨m - k - 1, by omega⟩
      rw [hq] at hrun
      have hlt : addN j k < n := by rw [hadd]; omega
      cases hpre : ((nd j).path ++ [47]).isPrefixOf (nd (addN j k)).path with
      | true =>
        have hnext : runN nd j (m - (k + 1)) (k + 1) = spanN nd j m := by
          rw [← hrun, show m - (k + 1) = q by omega]
          show _ = if _ then _ else _
          rw [if_pos hpre]
        refine At.run rfl [(2004004, .val (.v (.bool true))), (4011, _)] ⟨trivial, hPre_ok _ (nd (addN j k)).path ((nd j).path ++ [47]) true hpre, trivial⟩ [.d] (tm2 := tmS nd j m cap (k + 1)) (rows2 := [(0, ndRow nd n)]) (td := lp Tryd.f64 0)
          (ob := [TV.v (.bool (decide ((k : Int) < (m : Int)))) = TV.v (.bool true), 0 ≤ (k : Int) ∧ (k : Int) < (m : Int), addN j k < n] ++ qL (hPre (nd (addN j k)).path ((nd j).path ++ [47]) true) ++ [inI ((k : Int) + 1)]) (by kernel_rfl) ?_ rfl rfl (by intro h; cases h) (ih (k + 1) ⟨h, hnext⟩ (by omega))
        exact all_append.2 ⟨all_append.2 ⟨⟨by rw [decide_eq_true (by omega)], by omega, hlt, trivial⟩, all_qL _⟩, ⟨⟨by omega, by omega⟩, trivial⟩⟩
      | false =>
        have hend : k = spanN nd j m := by
          rw [← hrun]
          show k = if _ then _ else _
          rw [hpre]
          rfl
        refine At.fin rfl [(2004004, .val (.v (.bool true))), (4011, _)] ⟨trivial, hPre_ok _ (nd (addN j k)).path ((nd j).path ++ [47]) false hpre, trivial⟩ [.d] (x := .int .i64 k)
          (ob := [TV.v (.bool (decide ((k : Int) < (m : Int)))) = TV.v (.bool true), 0 ≤ (k : Int) ∧ (k : Int) < (m : Int), addN j k < n] ++ qL (hPre (nd (addN j k)).path ((nd j).path ++ [47]) false)) (by kernel_rfl) ?_ fun ρ w' hf _ => ⟨by rw [← hend]; rfl, hf.below⟩
        exact all_append.2 ⟨⟨by rw [decide_eq_true (by omega)], by omega, hlt, trivial⟩, all_qL _⟩
    · obtain rfl : k = m := by omega
      have hend : k = spanN nd j k := by
        rw [← hrun, Nat.sub_self]; rfl
      refine At.fin rfl [(2004004, .val (.v (.bool false)))] ⟨trivial, trivial⟩ [.d] (x := .int .i64 k) (ob := [TV.v (.bool (decide ((k : Int) < (k : Int)))) = TV.v (.bool false)]) (by kernel_rfl) ⟨by rw [decide_eq_false (by omega)], trivial⟩ fun ρ w' hf _ => ⟨by rw [← hend]; rfl, hf.below⟩
  have h0 : addN j 0 = j := by rw [hadd, Nat.add_zero]
  refine At.run rfl [] trivial [] (tm2 := [(0, slAt j m cap), (3, .v (stv ((nd (addN j 0)).path ++ [47]))), (4, .int .i64 (1 : Nat))]) (rows2 := [(0, ndRow nd n)]) (td := lp Tryd.f64 0)
    (ob := [0 ≤ (0 : Int) ∧ (0 : Int) < (m : Int), addN j 0 < n, (((nd (addN j 0)).path.length : Nat) : Int) + ((1 : Nat) : Int) ≤ 9223372036854775807]) (by kernel_rfl) ?_ rfl rfl (by intro h; cases h) ?_
  · rw [h0]
    have := hp j (by omega)
    exact ⟨by omega, by omega, by omega, trivial⟩
  · rw [h0]
    exact hloop 1 ⟨hm, rfl⟩
/-- The nodes of a directory: where each stands, how many it is with all below it. -/
def entsN (nd : Nat → Nd) : Nat → Nat → Nat → List (Nat × Nat)
  | 0, _, _ => []
  | f + 1, j, m => if m = 0 then [] else (j, spanN nd j m) :: entsN nd f (j + spanN nd j m) (m - spanN nd j m)
theorem span_ge (nd : Nat → Nd) (j m : Nat) (h : 0 < m) : 1 ≤ spanN nd j m ∧ spanN nd j m ≤ m := by
  have := runN_le nd j (m - 1) 1
  unfold spanN
  omega
theorem ent51b : Enters Tryd.prog 51 := enters_of Tryd.func51 (by kernel_rfl) rfl
theorem ent64 : Enters Tryd.prog 64 := enters_of Tryd.func64 (by kernel_rfl) rfl
abbrev hPart (p a b : List UInt8) : Hint := pc 51 #[stv p] (.tup [.lf (.v (stv a)), .lf (.v (stv b))])
abbrev hSpan (nd : Nat → Nd) (n j m cap s : Nat) : Hint := pr 64 (fun ρ => #[(slAt j m cap).val ρ]) (.int .i64 s) [(0, ndRow nd n)]
theorem hPart_ok (id : Nat) (p : List UInt8) (hp : p.length ≤ 1000000) : HintOk Tryd.prog id (hPart p (cutL p).1 (cutL p).2) := pc_ok ent51b (v := .tuple #[stv (cutL p).1, stv (cutL p).2]) (ok2 rfl rfl) (fun _ => rfl) fun w => part_any p hp w
theorem hSpan_ok (id : Nat) (nd : Nat → Nd) (n j m cap : Nat) (hm : 0 < m) (hn : j + m ≤ n) (hn2 : n ≤ 1000000) (hp : ∀ i, i < n → (nd i).path.length ≤ 1000000) : HintOk Tryd.prog id (hSpan nd n j m cap (spanN nd j m)) :=
  pr_ok ent64 (v := .int .i64 (spanN nd j m : Int)) rfl (fun _ => rfl) fun ρ w h => span_rows nd n j m cap hm hn hn2 hp ρ w (h (0, ndRow nd n) (by simp))
abbrev bxS (n cap : Nat) : Row := ⟨[.one (.sl 0 0 0 3 n (some cap))], false, none⟩
abbrev yv (l : Nat) : TV := .v (.func (.yield l) #[] #[])
/-- Where a node stands, how many it is with all below it. -/
abbrev Spot (n : Nat) : Type := { x : Nat × Nat // 1 ≤ x.1 ∧ 1 ≤ x.2 ∧ x.1 + x.2 ≤ n }
def encE (e : Env) (nd : Nat → Nd) (n cap : Nat) (x : Spot n) : Array Value := #[strV (cutL (nd x.1.1).path).2, .slice (some ⟨(e 0).1, (e 0).2 + (0 + x.1.1 * 3), none⟩) x.1.2 (cap - x.1.1)]
def spots {n : Nat} (l : List (Spot n)) : List (Nat × Nat) := l.map fun x => x.1
theorem spots_snoc {n : Nat} (l : List (Spot n)) (x : Spot n) : spots (l ++ [x]) = spots l ++ [x.1] := by simp [spots]
abbrev rowsE (nd : Nat → Nd) (n cap : Nat) : List (Nat × Row) := [(0, ndRow nd n), (1, bxS n cap)]
abbrev tmE (l j m c : Nat) : List (Nat × TV) := [(0, yv l), (1, ptrTo 1), (3, slAt j m c)]
abbrev tmY (nd : Nat → Nd) (l j m c : Nat) : List (Nat × TV) := [(0, yv l), (1, ptrTo 1), (3, slAt j m c), (4, .int .i64 (spanN nd j m : Nat)), (6, .v (stv (cutL (nd j).path).2))]
/-- Where the iterator stands. -/
structure At6 (n : Nat) where
  pre : List (Spot n)
  f : Nat
  j : Nat
  m : Nat
  c : Nat
  W : World
set_option maxRecDepth 100000 in
set_option maxHeartbeats 2000000 in
theorem entries_stops (nd : Nat → Nd) (n cap : Nat) (hn : 0 < n) (hn2 : n ≤ 1000000) (hc : n ≤ cap) (hp : ∀ i, i < n → (nd i).path.length ≤ 1000000) (w : World) (e : Env) (h0 : ∀ W, Below w.heap.size w W → RowAt e 0 (ndRow nd n) W) (h1 : ∀ W, Below w.heap.size w W → RowAt e 1 (bxS n cap) W) :
    SeqStopsK (FW none) 5 Tryd.prog 63 #[.pointer (some ⟨(e 1).1, (e 1).2, none⟩)] (encE e nd n cap) (fun W W' => ∀ r ∈ [0, 1], W'.heap[(e r).1]? = W.heap[(e r).1]?) (fun xs => spots xs = entsN nd n 1 (n - 1)) (fun _ => True) (n + 1) w := by
  refine seq_ok2 (args := [ptrTo 1]) (rows := rowsE nd n cap) (gl := []) Tryd.func63 rfl rfl rfl (fun W hW l => ?_) fun l J Jx W hJ hJx hY hj0 => ?_
  · exact init_ro1 ⟨rfl, trivial, trivial⟩ rfl rfl ⟨⟨h0 W hW, ndRow_ok nd n⟩, ⟨h1 W hW, fun p hp => by simp at hp; subst hp; exact trivial⟩, trivial⟩
  · have hadd : ∀ a b, addN a b = a + b := addN_eq
    have hloop : ∀ x : At6 n, (J x.pre x.W ∧ entsN nd n 1 (n - 1) = spots x.pre ++ entsN nd x.f x.j x.m ∧ x.m ≤ x.f ∧ x.pre.length + x.m ≤ n ∧ x.m ≤ x.c ∧ (0 < x.m → 1 ≤ x.j ∧ x.j + x.m = n ∧ x.c = cap - x.j)) →
        At Tryd.prog x.W ⟨[], e, []⟩ 32 [] (lp Tryd.f63 0) (EndX Tryd.prog Tryd.f63 fun en W' => (∃ v, en = .returned v) ∧ ((∃ xs, spots xs = entsN nd n 1 (n - 1) ∧ J xs W') ∨ (∃ pre, True ∧ Jx pre W'))) (tmE l x.j x.m x.c) (rowsE nd n cap) := by
      refine At.loopW (fun x : At6 n => x.W) (fun _ => ⟨[], e, []⟩) (fun x => tmE l x.j x.m x.c) (fun _ => rowsE nd n cap) (fun x => J x.pre x.W ∧ entsN nd n 1 (n - 1) = spots x.pre ++ entsN nd x.f x.j x.m ∧ x.m ≤ x.f ∧ x.pre.length + x.m ≤ n ∧ x.m ≤ x.c ∧ (0 < x.m → 1 ≤ x.j ∧ x.j + x.m = n ∧ x.c = cap - x.j)) (fun x => x.m) fun ⟨pre, f, j, m, c, W1⟩ hx ih => ?_
      simp only at hx ih ⊢
      obtain ⟨hJ1, hents, hmf, hlen, hmc, hpos⟩ := hx
      by_cases hm : 0 < m
      · obtain ⟨hj1, hjm, hcj⟩ := hpos hm
        obtain ⟨s, hs⟩ : ∃ s, s = spanN nd j m := ⟨_, rfl⟩
        have hsr := span_ge nd j m hm
        rw [← hs] at hsr
        have hjn : j < n := by omega
        have hj0 : addN j (Int.toNat 0) = j := by rw [hadd]; rfl
        obtain ⟨g, hg⟩ : ∃ g, f = g + 1 := ⟨f - 1, by omega⟩
        have hent2 : entsN nd f j m = (j, s) :: entsN nd g (j + s) (m - s) := by
          rw [hg, entsN, if_neg (by omega), hs]
        refine At.run rfl [(3001, _), (4004, _)] ⟨hSpan_ok _ nd n j m c hm (by omega) hn2 hp, hPart_ok _ (nd j).path (hp j hjn), trivial⟩ [.y] (tm2 := tmY nd l j m c) (rows2 := rowsE nd n cap)
          (ob := [decide ((m : Int) > 0) = true] ++ qL (hSpan nd n j m c (spanN nd j m)) ++ [0 ≤ (0 : Int) ∧ (0 : Int) < (m : Int), addN j (Int.toNat 0) < n] ++ [∀ ρ : Env, #[stv (nd (addN j (Int.toNat 0))).path] = #[stv (nd j).path]]) (td := rp Tryd.f63 4) (by kernel_rfl) ?_ rfl rfl (by intro h; cases h) ?_
        · exact all_append.2 ⟨all_append.2 ⟨all_append.2 ⟨⟨decide_eq_true (by omega), trivial⟩, all_qL _⟩, ⟨by omega, by rw [hj0]; exact hjn, trivial⟩⟩, ⟨fun _ => by rw [hj0], trivial⟩⟩
        · rw [tmY, ← hs]
          refine At.yieldAt rfl 5 pre (⟨(j, s), hj1, by simp only; omega, by simp only; omega⟩ : Spot n) [] trivial [0, 1] hJ hJ1 (by omega) hY (fun W W' h => h) (tmT := [(0, yv l), (1, ptrTo 1), (3, slAt j m c), (4, .int .i64 s), (28, .v (.bool false))]) (rowsT := rowsE nd n cap) (tmF := [(28, .v (.bool true))]) (o1 := [0 ≤ (s : Int) ∧ (s : Int) ≤ (c : Int)]) (o2 := []) (o3 := []) (vs := [.v (stv (cutL (nd j).path).2), slAt j s c]) rfl (by kernel_rfl) (by kernel_rfl) ⟨by omega, trivial⟩ (fun ρ hρ => ?_) rfl rfl (fun W' hJ2 => ?_) (fun W' hJ2 => ?_)
          · show #[strV (cutL (nd j).path).2, Value.slice (some ⟨(ρ 0).1, (ρ 0).2 + (0 + j * 3), none⟩) s c] = _
            rw [hρ 0 (by omega), hcj]
            rfl
          · refine At.run rfl [] trivial [.d] (tm2 := [(0, yv l), (1, ptrTo 1), (3, slAt (bif Nat.beq c s then j else j + s) (m - s) (c - s))]) (rows2 := rowsE nd n cap) (ob := [0 ≤ (s : Int) ∧ (s : Int) ≤ (m : Int), m ≤ c]) (td := lp Tryd.f63 0) (by kernel_rfl) ⟨by omega, hmc, trivial⟩ rfl rfl (by intro h; cases h) ?_
            refine ih ⟨pre ++ [⟨(j, s), hj1, by simp only; omega, by simp only; omega⟩], g, bif Nat.beq c s then j else j + s, m - s, c - s, W'⟩ ⟨hJ2, ?_, by simp only; omega, by simp only [List.length_append, List.length_cons, List.length_nil]; omega, by simp only; omega, fun h => ?_⟩ (by show m - s < m; omega)
            · simp only
              rw [hents, hent2, spots_snoc, List.append_assoc, List.singleton_append]
              by_cases hb : m - s = 0
              · rw [hb]
                cases g with
                | zero => rfl
                | succ g => rw [entsN, if_pos rfl, entsN, if_pos rfl]
              · have : Nat.beq c s = false := by
                  cases hq : Nat.beq c s with
                  | false => rfl
                  | true => have := Nat.eq_of_beq_eq_true hq; omega
                rw [this]; rfl
            · simp only at h ⊢
              have : Nat.beq c s = false := by
                cases hq : Nat.beq c s with
                | false => rfl
                | true => have := Nat.eq_of_beq_eq_true hq; omega
              rw [this]
              simp only [cond_false]
              omega
          · exact At.fin rfl [] trivial [.d] (x := .tup []) (ob := []) (by kernel_rfl) trivial fun ρ W2 hf _ => ⟨⟨_, rfl⟩, .inr ⟨_, trivial, abides_fr hJx hJ2 hf⟩⟩
      · obtain rfl : m = 0 := by omega
        refine At.fin rfl [] trivial [.n] (x := .tup []) (ob := [decide (((0 : Nat) : Int) > 0) = false]) (by kernel_rfl) ⟨rfl, trivial⟩ fun ρ W2 hf _ => ⟨⟨_, rfl⟩, .inl ⟨pre, ?_, abides_fr hJ hJ1 hf⟩⟩
        rw [hents]
        cases f with
        | zero => simp [entsN]
        | succ f => simp [entsN]
    refine At.run rfl [] trivial [] (tm2 := [(0, yv l), (1, ptrTo 1), (3, slAt (bif Nat.beq cap 1 then 0 else 1) (n - 1) (cap - 1))]) (rows2 := rowsE nd n cap) (ob := [0 ≤ (1 : Int) ∧ (1 : Int) ≤ (n : Int), n ≤ cap]) (td := lp Tryd.f63 0) (by kernel_rfl) ⟨by omega, hc, trivial⟩ rfl rfl (by intro h; cases h) ?_
    refine hloop ⟨[], n, bif Nat.beq cap 1 then 0 else 1, n - 1, cap - 1, W⟩ ⟨hj0, ?_, by simp only; omega, by simp only [List.length_nil]; omega, by simp only; omega, fun h => ?_⟩
    · simp only [List.nil_append]
      by_cases hb : n - 1 = 0
      · rw [hb]
        cases n with
        | zero => rfl
        | succ n => rw [entsN, if_pos rfl, entsN, if_pos rfl]; rfl
      · have : Nat.beq cap 1 = false := by
          cases hq : Nat.beq cap 1 with
          | false => rfl
          | true => have := Nat.eq_of_beq_eq_true hq; omega
        rw [this]; rfl
    · simp only at h ⊢
      have : Nat.beq cap 1 = false := by
        cases hq : Nat.beq cap 1 with
        | false => rfl
        | true => have := Nat.eq_of_beq_eq_true hq; omega
      rw [this]
      exact ⟨Nat.le_refl _, by show 1 + (n - 1) = n; omega, rfl⟩
end
end Go.Proofs.YtgbaaiedpiiepaaDoor
