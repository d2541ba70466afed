/- The plain mathematics of a name with a signature as a text: which names may be, the text, what a text says, the pieces between its strokes. No condition. -/
import Derived.Test.YtdajmekliodmcaaGreatDoorCodec
namespace Go.Proofs.YtdajmekliodmcaaGreatDoor
set_option linter.unusedVariables false
/-- A byte that may be in a name. -/
def fitsC (c : UInt8) : Bool := (decide (97 ≤ c.toNat) && decide (c.toNat ≤ 122)) || (decide (65 ≤ c.toNat) && decide (c.toNat ≤ 90)) || (decide (48 ≤ c.toNat) && decide (c.toNat ≤ 57)) || decide (c.toNat = 45) || decide (c.toNat = 46) || decide (c.toNat = 95)
def mayL (l : List UInt8) : Bool := decide (1 ≤ l.length) && decide (l.length ≤ 64) && l.all fitsC
def textL (n g : List UInt8) : List UInt8 := if mayL n = true ∧ g.length = 64 then n ++ 58 :: b64 g else []
/-- What stands ahead of the first stroke, and behind it. -/
def colon : List UInt8 → Option (List UInt8 × List UInt8)
  | [] => none
  | c :: l => if c = 58 then some ([], l) else (colon l).map fun p => (c :: p.1, p.2)
/-- What a text says. -/
def parseL (s : List UInt8) : Option (List UInt8 × List UInt8) :=
  match colon s with
  | none => none
  | some (p, r) => match get64 r with
    | none => none
    | some g => if textL p g = s then some (p, g) else none
theorem colon_some : ∀ {s p r : List UInt8}, colon s = some (p, r) → s = p ++ 58 :: r ∧ 58 ∉ p
  | [], p, r, h => by simp [colon] at h
  | c :: l, p, r, h => by
    unfold colon at h
    by_cases hc : c = 58
    · rw [if_pos hc] at h
      simp only [Option.some.injEq, Prod.mk.injEq] at h
      obtain ⟨rfl, rfl⟩ := h
      subst hc
      exact ⟨rfl, by simp⟩
    · rw [if_neg hc] at h
      cases hq : colon l with
      | none => rw [hq] at h; simp at h
      | some q =>
        obtain ⟨a, b⟩ := q
        rw [hq] at h
        simp only [Option.map_some, Option.some.injEq, Prod.mk.injEq] at h
        obtain ⟨rfl, rfl⟩ := h
        obtain ⟨h1, h2⟩ := colon_some hq
        exact ⟨by rw [h1]; rfl, by simp; exact ⟨fun e => hc e.symm, h2⟩⟩
theorem colon_app : ∀ (p r : List UInt8), 58 ∉ p → colon (p ++ 58 :: r) = some (p, r)
  | [], r, _ => by simp [colon]
  | c :: p, r, h => by
    simp at h
    have h2 := colon_app p r h.2
    show (if c = 58 then _ else _) = _
    rw [if_neg (fun e => h.1 e.symm)]
    show (colon (p ++ 58 :: r)).map _ = _
    rw [h2]
    rfl
theorem colon_none : ∀ {s : List UInt8}, colon s = none → 58 ∉ s
  | [], _ => by simp
  | c :: l, h => by
    unfold colon at h
    by_cases hc : c = 58
    · rw [if_pos hc] at h; cases h
    · rw [if_neg hc] at h
      cases hq : colon l with
      | none => simp; exact ⟨fun e => hc e.symm, colon_none hq⟩
      | some q => rw [hq] at h; simp at h
theorem six_58 (d : Nat) : six d ≠ 58 := by
  by_cases h : d < 64
  · have : ∀ d, d < 64 → six d ≠ 58 := by decide +kernel
    exact this d h
  · unfold six
    rw [List.getD_eq_getElem?_getD, List.getElem?_eq_none (by show 64 ≤ d; omega)]
    decide
theorem b64_58 : ∀ l : List UInt8, 58 ∉ b64 l
  | a :: b :: c :: l => by
    have h := b64_58 l
    simp only [b64, List.mem_cons, not_or]
    exact ⟨(six_58 _).symm, (six_58 _).symm, (six_58 _).symm, (six_58 _).symm, h⟩
  | [a, b] => by
    simp only [b64, List.mem_cons, not_or]
    exact ⟨(six_58 _).symm, (six_58 _).symm, (six_58 _).symm, by decide, by simp⟩
  | [a] => by
    simp only [b64, List.mem_cons, not_or]
    exact ⟨(six_58 _).symm, (six_58 _).symm, by decide, by decide, by simp⟩
  | [] => by simp [b64]
theorem may_58 {n : List UInt8} (h : mayL n = true) : 58 ∉ n := by
  unfold mayL at h
  simp only [Bool.and_eq_true, List.all_eq_true] at h
  intro hm
  have := h.2 58 hm
  revert this
  decide
theorem may_len {n : List UInt8} (h : mayL n = true) : 1 ≤ n.length ∧ n.length ≤ 64 := by
  unfold mayL at h
  simp only [Bool.and_eq_true, decide_eq_true_eq] at h
  exact h.1
theorem text_may {n g : List UInt8} (h : mayL n = true) (hg : g.length = 64) : textL n g = n ++ 58 :: b64 g := if_pos ⟨h, hg⟩
theorem text_none {n g : List UInt8} (h : ¬ (mayL n = true ∧ g.length = 64)) : textL n g = [] := if_neg h
theorem get64_b64 (g : List UInt8) : get64 (b64 g) = some g := (get64_iff _ _).2 rfl
theorem parse_text {n g : List UInt8} (h : mayL n = true) (hg : g.length = 64) : parseL (textL n g) = some (n, g) := by
  have ht := text_may h hg
  unfold parseL
  rw [ht, colon_app n _ (may_58 h)]
  show (match get64 (b64 g) with | none => none | some g2 => if textL n g2 = n ++ 58 :: b64 g then some (n, g2) else none) = _
  rw [get64_b64]
  show (if textL n g = n ++ 58 :: b64 g then some (n, g) else none) = _
  rw [if_pos ht]
theorem parse_nil : parseL [] = none := rfl
theorem parse_some {s n g : List UInt8} (h : parseL s = some (n, g)) : textL n g = s ∧ mayL n = true ∧ g.length = 64 := by
  unfold parseL at h
  cases hc : colon s with
  | none => rw [hc] at h; cases h
  | some q =>
    obtain ⟨p, r⟩ := q
    rw [hc] at h
    cases hg : get64 r with
    | none => simp only [hg] at h; cases h
    | some g2 =>
      simp only [hg] at h
      by_cases ht : textL p g2 = s
      · rw [if_pos ht] at h
        simp only [Option.some.injEq, Prod.mk.injEq] at h
        obtain ⟨rfl, rfl⟩ := h
        refine ⟨ht, ?_⟩
        by_cases hm : mayL p = true ∧ g2.length = 64
        · exact hm
        · rw [text_none hm] at ht
          subst ht
          cases hc
      · rw [if_neg ht] at h; cases h
/-- A text that is no name's with a signature says nothing. -/
theorem parse_not {s : List UInt8} (h : ∀ n g, mayL n = true → g.length = 64 → n ++ 58 :: b64 g ≠ s) : parseL s = none := by
  cases hp : parseL s with
  | none => rfl
  | some q =>
    obtain ⟨n, g⟩ := q
    obtain ⟨h1, h2, h3⟩ := parse_some hp
    rw [text_may h2 h3] at h1
    exact absurd h1 (h n g h2 h3)
/-- The pieces between the strokes. -/
def pieces : List UInt8 → List (List UInt8)
  | [] => [[]]
  | c :: l => if c = 58 then [] :: pieces l else match pieces l with
    | [] => [[c]]
    | h :: t => (c :: h) :: t
theorem pieces_ne : ∀ s, pieces s ≠ []
  | [] => by simp [pieces]
  | c :: l => by
    unfold pieces
    split
    · simp
    · split <;> simp
theorem pieces_some : ∀ {s p r : List UInt8}, colon s = some (p, r) → pieces s = p :: pieces r
  | [], p, r, h => by simp [colon] at h
  | c :: l, p, r, h => by
    unfold colon at h
    by_cases hc : c = 58
    · rw [if_pos hc] at h
      simp only [Option.some.injEq, Prod.mk.injEq] at h
      obtain ⟨rfl, rfl⟩ := h
      show (if c = 58 then _ else _) = _
      rw [if_pos hc]
    · rw [if_neg hc] at h
      cases hq : colon l with
      | none => rw [hq] at h; simp at h
      | some q =>
        obtain ⟨a, b⟩ := q
        rw [hq] at h
        simp only [Option.map_some, Option.some.injEq, Prod.mk.injEq] at h
        obtain ⟨rfl, rfl⟩ := h
        show (if c = 58 then _ else _) = _
        rw [if_neg hc, pieces_some hq]
theorem pieces_none : ∀ {s : List UInt8}, colon s = none → pieces s = [s]
  | [], _ => rfl
  | c :: l, h => by
    unfold colon at h
    by_cases hc : c = 58
    · rw [if_pos hc] at h; cases h
    · rw [if_neg hc] at h
      cases hq : colon l with
      | some q => rw [hq] at h; simp at h
      | none =>
        show (if c = 58 then _ else _) = _
        rw [if_neg hc, pieces_none hq]
/-- What the rounds over the pieces leave: the first one, and what the second one says. -/
def nameOf (l : List (List UInt8)) : List UInt8 := l.getD 0 []
def sigOf (l : List (List UInt8)) : Option (List UInt8) := if 2 ≤ l.length then get64 (l.getD 1 []) else none
/-- So told again it is what the text says. -/
theorem parse_pieces (s : List UInt8) : parseL s = match sigOf (pieces s) with
    | none => none
    | some g => if textL (nameOf (pieces s)) g = s then some (nameOf (pieces s), g) else none := by
  cases hc : colon s with
  | none =>
    rw [pieces_none hc]
    unfold parseL
    rw [hc]
    rfl
  | some q =>
    obtain ⟨p, r⟩ := q
    rw [pieces_some hc]
    cases hr : colon r with
    | none =>
      rw [pieces_none hr]
      unfold parseL
      rw [hc]
      rfl
    | some q2 =>
      obtain ⟨p2, r2⟩ := q2
      rw [pieces_some hr]
      have h1 : parseL s = none := by
        refine parse_not (fun n g hn hg e => ?_)
        rw [← e, colon_app n _ (may_58 hn)] at hc
        simp only [Option.some.injEq, Prod.mk.injEq] at hc
        obtain ⟨rfl, rfl⟩ := hc
        have := (colon_some hr).1
        exact b64_58 g (by rw [this]; simp)
      rw [h1]
      show none = match get64 p2 with | none => none | some g => if textL p g = s then some (p, g) else none
      cases hg : get64 p2 with
      | none => rfl
      | some g =>
        have hb := (get64_iff _ _).1 hg
        show none = if textL p g = s then some (p, g) else none
        rw [if_neg]
        intro e
        by_cases hm : mayL p = true ∧ g.length = 64
        · rw [text_may hm.1 hm.2, hb, (colon_some hc).1, (colon_some hr).1] at e
          have h2 := congrArg List.length e
          simp at h2
        · rw [text_none hm] at e
          subst e
          cases hc
end Go.Proofs.YtdajmekliodmcaaGreatDoor
