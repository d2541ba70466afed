/- Several texts, one behind the other; each says by itself what it proves, and on what conditions. -/
import Derived.KernelRfl
/- Trees as lists of nodes: names, what may be, words, texts with what fills them, the bytes of a tree as the document makes them; two trees have two packings. No condition but what each names. -/
namespace Go.Proofs.YtgbaaiedpiiepaaDoor
set_option linter.unusedSimpArgs false
set_option linter.unusedVariables false
/-- A node. -/
structure Nd where
  path : List UInt8
  kind : Int
  data : List UInt8
theorem Nd.ext' {a b : Nd} (h1 : a.path = b.path) (h2 : a.kind = b.kind) (h3 : a.data = b.data) : a = b := by
  cases a; cases b; simp_all
/-- Eight bytes of a number, the lowest first. -/
def wordL (n : Nat) : List UInt8 := [UInt8.ofNat n, UInt8.ofNat (n / 256), UInt8.ofNat (n / 65536), UInt8.ofNat (n / 16777216), UInt8.ofNat (n / 4294967296), UInt8.ofNat (n / 1099511627776), UInt8.ofNat (n / 281474976710656), UInt8.ofNat (n / 72057594037927936)]
theorem wordL_len (n : Nat) : (wordL n).length = 8 := rfl
theorem u8_of {a b : Nat} (h : UInt8.ofNat a = UInt8.ofNat b) : a % 256 = b % 256 := by
  have := congrArg UInt8.toNat h
  simpa using this
theorem wordL_inj {a b : Nat} (ha : a < 18446744073709551616) (hb : b < 18446744073709551616) (h : wordL a = wordL b) : a = b := by
  unfold wordL at h
  simp only [List.cons.injEq, and_true] at h
  obtain ⟨h0, h1, h2, h3, h4, h5, h6, h7⟩ := h
  have e0 := u8_of h0
  have e1 := u8_of h1
  have e2 := u8_of h2
  have e3 := u8_of h3
  have e4 := u8_of h4
  have e5 := u8_of h5
  have e6 := u8_of h6
  have e7 := u8_of h7
  clear h0 h1 h2 h3 h4 h5 h6 h7
  omega
/-- How many noughts fill a text. -/
def fillN (n : Nat) : Nat := (8 - n % 8) % 8
/-- A text with its length ahead, and what fills it. -/
def strL (s : List UInt8) : List UInt8 := wordL s.length ++ (s ++ List.replicate (fillN s.length) 0)
theorem strL_len (s : List UInt8) : (strL s).length = 8 + (s.length + fillN s.length) := by simp [strL, wordL_len]
theorem strL_mod (s : List UInt8) : (strL s).length % 8 = 0 := by
  rw [strL_len]
  unfold fillN
  omega
theorem app_inj {α : Type} {a b x y : List α} (h : a ++ x = b ++ y) (hl : a.length = b.length) : a = b ∧ x = y := List.append_inj h hl
theorem strL_inj {a b x y : List UInt8} (ha : a.length < 18446744073709551616) (hb : b.length < 18446744073709551616) (h : strL a ++ x = strL b ++ y) : a = b ∧ x = y := by
  unfold strL at h
  simp only [List.append_assoc] at h
  obtain ⟨h1, h2⟩ := app_inj h (by rw [wordL_len, wordL_len])
  have hl := wordL_inj ha hb h1
  rw [hl] at h2
  obtain ⟨h3, h4⟩ := app_inj h2 hl
  exact ⟨h3, (app_inj h4 rfl).2⟩
/-- Texts, one behind the other. -/
def strsL (l : List (List UInt8)) : List UInt8 := l.flatMap strL
theorem strsL_nil : strsL [] = [] := rfl
theorem strsL_cons (a : List UInt8) (l : List (List UInt8)) : strsL (a :: l) = strL a ++ strsL l := rfl
theorem strsL_mod : ∀ l : List (List UInt8), (strsL l).length % 8 = 0
  | [] => rfl
  | a :: l => by
    rw [strsL_cons, List.length_append]
    have := strL_mod a
    have := strsL_mod l
    omega
def mayNameL (s : List UInt8) : Bool := decide (1 ≤ s.length) && decide (s.length ≤ 255) && !s.contains 0 && !s.contains 47 && !(s == [46]) && !(s == [46, 46])
/-- The place of a name in a path: what is ahead of the last stroke, and what is behind. -/
def cutL (s : List UInt8) : List UInt8 × List UInt8 :=
  let b := (s.reverse.takeWhile (· != 47)).reverse
  if 47 ∈ s then (s.take (s.length - b.length - 1), b) else ([], s)
def deepL (s : List UInt8) : Nat := 1 + s.count 47
def mayDataL (n : Nd) : Bool :=
  if n.kind = 1 ∨ n.kind = 2 then decide (n.data.length ≤ 65536)
  else if n.kind = 3 then decide (1 ≤ n.data.length) && decide (n.data.length ≤ 4096) && !n.data.contains 0
  else if n.kind = 4 then decide (n.data = [])
  else false
/-- The name of what stands in a directory; empty: it does not. -/
def nameL (path dir : List UInt8) : List UInt8 :=
  if dir = [] then (if 47 ∈ path then [] else path)
  else if (dir ++ [47]).isPrefixOf path then (if 47 ∈ path.drop (dir.length + 1) then [] else path.drop (dir.length + 1))
  else []
def joinL (dir n : List UInt8) : List UInt8 := if dir = [] then n else dir ++ 47 :: n
theorem pre_drop {d p : List UInt8} (h : (d ++ [47]).isPrefixOf p = true) : p = d ++ 47 :: p.drop (d.length + 1) := by
  obtain ⟨t, ht⟩ := List.isPrefixOf_iff_prefix.1 h
  rw [← ht]
  simp
theorem name_join {p d : List UInt8} (h : nameL p d ≠ []) : p = joinL d (nameL p d) ∧ 47 ∉ nameL p d := by
  unfold nameL joinL at *
  by_cases hd : d = []
  · rw [if_pos hd] at h ⊢
    rw [if_pos hd]
    by_cases h47 : (47 : UInt8) ∈ p
    · rw [if_pos h47] at h; exact absurd rfl h
    · rw [if_neg h47]; exact ⟨rfl, h47⟩
  · rw [if_neg hd] at h ⊢
    rw [if_neg hd]
    by_cases hp : (d ++ [47]).isPrefixOf p = true
    · rw [if_pos hp] at h ⊢
      by_cases h47 : (47 : UInt8) ∈ p.drop (d.length + 1)
      · rw [if_pos h47] at h; exact absurd rfl h
      · rw [if_neg h47]; exact ⟨pre_drop hp, h47⟩
    · rw [if_neg hp] at h; exact absurd rfl h
theorem name_of_join (d n : List UInt8) (hn : 47 ∉ n) : nameL (joinL d n) d = n := by
  unfold nameL joinL
  by_cases hd : d = []
  · rw [if_pos hd, if_pos hd, if_neg hn]
  · rw [if_neg hd, if_neg hd]
    have hp : (d ++ [47]).isPrefixOf (d ++ 47 :: n) = true := List.isPrefixOf_iff_prefix.2 ⟨n, by simp⟩
    have e : (d ++ 47 :: n).drop (d.length + 1) = n := by simp
    rw [if_pos hp, e, if_neg hn]
/-- One text is below another one, letter by letter. -/
def ltL : List UInt8 → List UInt8 → Bool
  | _, [] => false
  | [], _ :: _ => true
  | a :: l, b :: m => if a < b then true else if a = b then ltL l m else false
mutual
/-- What is left behind a node and all that is below it, as long as names rise. -/
def restU : Nat → Nd → List Nd → List Nd
  | 0, _, r => r
  | f + 1, d, r => if d.kind = 4 then loopU f d.path [] r else r
/-- What is left behind all that stands in a directory, from a name on. -/
def loopU : Nat → List UInt8 → List UInt8 → List Nd → List Nd
  | 0, _, _, r => r
  | _ + 1, _, _, [] => []
  | f + 1, p, last, c :: r => if nameL c.path p = [] ∨ ltL last (nameL c.path p) = false then c :: r else loopU f p (nameL c.path p) (restU f c r)
end
theorem restU_succ (f : Nat) (d : Nd) (r : List Nd) : restU (f + 1) d r = if d.kind = 4 then loopU f d.path [] r else r := by rw [restU]
theorem loopU_nil (f : Nat) (p last : List UInt8) : loopU (f + 1) p last [] = [] := by rw [loopU]
theorem loopU_cons (f : Nat) (p last : List UInt8) (c : Nd) (r : List Nd) : loopU (f + 1) p last (c :: r) = if nameL c.path p = [] ∨ ltL last (nameL c.path p) = false then c :: r else loopU f p (nameL c.path p) (restU f c r) := by rw [loopU]
theorem rest_len : ∀ f, (∀ d r, (restU f d r).length ≤ r.length) ∧ (∀ p last r, (loopU f p last r).length ≤ r.length)
  | 0 => ⟨fun d r => by rw [restU]; exact Nat.le_refl _, fun p last r => by rw [loopU]; exact Nat.le_refl _⟩
  | f + 1 => by
    obtain ⟨h1, h2⟩ := rest_len f
    constructor
    · intro d r
      rw [restU_succ]
      split
      · exact h2 _ _ _
      · exact Nat.le_refl _
    · intro p last r
      cases r with
      | nil => rw [loopU_nil]; exact Nat.le_refl _
      | cons c r =>
        rw [loopU_cons]
        split
        · exact Nat.le_refl _
        · exact Nat.le_trans (h2 _ _ _) (Nat.le_trans (h1 _ _) (Nat.le_succ _))
theorem rest_suf : ∀ f, (∀ d r, restU f d r <:+ r) ∧ (∀ p last r, loopU f p last r <:+ r)
  | 0 => ⟨fun d r => by rw [restU]; exact List.suffix_refl _, fun p last r => by rw [loopU]; exact List.suffix_refl _⟩
  | f + 1 => by
    obtain ⟨h1, h2⟩ := rest_suf f
    constructor
    · intro d r
      rw [restU_succ]
      split
      · exact h2 _ _ _
      · exact List.suffix_refl _
    · intro p last r
      cases r with
      | nil => rw [loopU_nil]; exact List.suffix_refl _
      | cons c r =>
        rw [loopU_cons]
        split
        · exact List.suffix_refl _
        · exact (h2 _ _ _).trans ((h1 _ _).trans (List.suffix_cons _ _))
theorem rest_mem (f : Nat) (d : Nd) (r : List Nd) : ∀ e ∈ restU f d r, e ∈ r := fun e he => ((rest_suf f).1 d r).mem he
theorem rest_fuel : ∀ f g, (∀ d r, 2 * r.length + 2 ≤ f → 2 * r.length + 2 ≤ g → restU f d r = restU g d r) ∧ (∀ p last r, 2 * r.length + 1 ≤ f → 2 * r.length + 1 ≤ g → loopU f p last r = loopU g p last r)
  | 0, g => ⟨fun d r h => by omega, fun p last r h => by omega⟩
  | f + 1, 0 => ⟨fun d r _ h => by omega, fun p last r _ h => by omega⟩
  | f + 1, g + 1 => by
    obtain ⟨h1, h2⟩ := rest_fuel f g
    constructor
    · intro d r hf hg
      rw [restU_succ, restU_succ]
      split
      · exact h2 _ _ _ (by omega) (by omega)
      · rfl
    · intro p last r hf hg
      cases r with
      | nil => rw [loopU_nil, loopU_nil]
      | cons c r =>
        simp only [List.length_cons] at hf hg
        have hl := (rest_len g).1 c r
        rw [loopU_cons, loopU_cons, h1 c r (by omega) (by omega)]
        split
        · rfl
        · exact h2 _ _ _ (by omega) (by omega)
def fuelN (l : List Nd) : Nat := 2 * l.length + 2
/-- Whether nodes are a tree. -/
def mayL (l : List Nd) : Bool := match l with
  | [] => false
  | d :: r => decide (r.length + 1 ≤ 256) && decide (d.path = []) && mayDataL d && r.all (fun c => mayNameL (cutL c.path).2 && decide (deepL c.path ≤ 64) && mayDataL c) && decide ((restU (fuelN r) d r).length = 0)
def tOpen : List UInt8 := [40]
def tClose : List UInt8 := [41]
def tType : List UInt8 := [116, 121, 112, 101]
def tReg : List UInt8 := [114, 101, 103, 117, 108, 97, 114]
def tCont : List UInt8 := [99, 111, 110, 116, 101, 110, 116, 115]
def tExec : List UInt8 := [101, 120, 101, 99, 117, 116, 97, 98, 108, 101]
def tSym : List UInt8 := [115, 121, 109, 108, 105, 110, 107]
def tTarg : List UInt8 := [116, 97, 114, 103, 101, 116]
def tDir : List UInt8 := [100, 105, 114, 101, 99, 116, 111, 114, 121]
def tEntry : List UInt8 := [101, 110, 116, 114, 121]
def tName : List UInt8 := [110, 97, 109, 101]
def tNode : List UInt8 := [110, 111, 100, 101]
def tMagic : List UInt8 := [110, 105, 120, 45, 97, 114, 99, 104, 105, 118, 101, 45, 49]
mutual
/-- The bytes of a node, and what is left behind all that is below it. -/
def bytU : Nat → Nd → List Nd → List UInt8 × List Nd
  | 0, _, r => ([], r)
  | f + 1, d, r =>
    if d.kind = 1 then (strsL [tOpen, tType, tReg, tCont, d.data, tClose], r)
    else if d.kind = 2 then (strsL [tOpen, tType, tReg, tExec, [], tCont, d.data, tClose], r)
    else if d.kind = 3 then (strsL [tOpen, tType, tSym, tTarg, d.data, tClose], r)
    else (strsL [tOpen, tType, tDir] ++ ((entU f d.path r).1 ++ strL tClose), (entU f d.path r).2)
/-- The bytes of all that stands in a directory, and what is left. -/
def entU : Nat → List UInt8 → List Nd → List UInt8 × List Nd
  | 0, _, r => ([], r)
  | _ + 1, _, [] => ([], [])
  | f + 1, p, c :: r => if nameL c.path p = [] then ([], c :: r) else
      (strsL [tEntry, tOpen, tName, nameL c.path p, tNode] ++ ((bytU f c r).1 ++ (strL tClose ++ (entU f p (bytU f c r).2).1)), (entU f p (bytU f c r).2).2)
end
theorem bytU_succ (f : Nat) (d : Nd) (r : List Nd) : bytU (f + 1) d r = if d.kind = 1 then (strsL [tOpen, tType, tReg, tCont, d.data, tClose], r) else if d.kind = 2 then (strsL [tOpen, tType, tReg, tExec, [], tCont, d.data, tClose], r) else if d.kind = 3 then (strsL [tOpen, tType, tSym, tTarg, d.data, tClose], r) else (strsL [tOpen, tType, tDir] ++ ((entU f d.path r).1 ++ strL tClose), (entU f d.path r).2) := by rw [bytU]
theorem entU_nil (f : Nat) (p : List UInt8) : entU (f + 1) p [] = ([], []) := by rw [entU]
theorem entU_stop (f : Nat) (p : List UInt8) (c : Nd) (r : List Nd) (h : nameL c.path p = []) : entU (f + 1) p (c :: r) = ([], c :: r) := by rw [entU, if_pos h]
theorem entU_cons (f : Nat) (p : List UInt8) (c : Nd) (r : List Nd) (h : nameL c.path p ≠ []) : entU (f + 1) p (c :: r) = (strsL [tEntry, tOpen, tName, nameL c.path p, tNode] ++ ((bytU f c r).1 ++ (strL tClose ++ (entU f p (bytU f c r).2).1)), (entU f p (bytU f c r).2).2) := by rw [entU, if_neg h]
theorem byt_len : ∀ f, (∀ d r, (bytU f d r).2.length ≤ r.length) ∧ (∀ p r, (entU f p r).2.length ≤ r.length)
  | 0 => ⟨fun d r => by rw [bytU]; exact Nat.le_refl _, fun p r => by rw [entU]; exact Nat.le_refl _⟩
  | f + 1 => by
    obtain ⟨h1, h2⟩ := byt_len f
    constructor
    · intro d r
      rw [bytU_succ]
      split
      · exact Nat.le_refl _
      split
      · exact Nat.le_refl _
      split
      · exact Nat.le_refl _
      · exact h2 _ _
    · intro p r
      cases r with
      | nil => rw [entU_nil]; exact Nat.le_refl _
      | cons c r =>
        by_cases hn : nameL c.path p = []
        · rw [entU_stop f p c r hn]; exact Nat.le_refl _
        · rw [entU_cons f p c r hn]
          exact Nat.le_trans (h2 _ _) (Nat.le_trans (h1 _ _) (Nat.le_succ _))
theorem byt_fuel : ∀ f g, (∀ d r, 2 * r.length + 2 ≤ f → 2 * r.length + 2 ≤ g → bytU f d r = bytU g d r) ∧ (∀ p r, 2 * r.length + 1 ≤ f → 2 * r.length + 1 ≤ g → entU f p r = entU g p r)
  | 0, g => ⟨fun d r h => by omega, fun p r h => by omega⟩
  | f + 1, 0 => ⟨fun d r _ h => by omega, fun p r _ h => by omega⟩
  | f + 1, g + 1 => by
    obtain ⟨h1, h2⟩ := byt_fuel f g
    constructor
    · intro d r hf hg
      rw [bytU_succ, bytU_succ, h2 d.path r (by omega) (by omega)]
    · intro p r hf hg
      cases r with
      | nil => rw [entU_nil, entU_nil]
      | cons c r =>
        simp only [List.length_cons] at hf hg
        by_cases hn : nameL c.path p = []
        · rw [entU_stop f p c r hn, entU_stop g p c r hn]
        · have hl := (byt_len g).1 c r
          rw [entU_cons f p c r hn, entU_cons g p c r hn, h1 c r (by omega) (by omega), h2 p (bytU g c r).2 (by omega) (by omega)]
/-- The bytes of a tree that may be. -/
def treeL (l : List Nd) : List UInt8 := match l with
  | [] => []
  | d :: r => strL tMagic ++ (bytU (fuelN r) d r).1
/-- The bytes of a tree; none, if it may not be. -/
def packL (l : List Nd) : Option (List UInt8) := if mayL l then some (treeL l) else none
/-- What stands somewhere below a directory. -/
def below (p q : List UInt8) : Prop := p = [] ∨ (p ++ [47]) <+: q
theorem join_below (p n : List UInt8) : below p (joinL p n) := by
  unfold below joinL
  by_cases h : p = []
  · exact .inl h
  · rw [if_neg h]; exact .inr ⟨n, by simp⟩
theorem below_join {p n q : List UInt8} (h : below (joinL p n) q) (hn : n ≠ []) : below p q := by
  unfold below joinL at *
  by_cases hp : p = []
  · exact .inl hp
  · rw [if_neg hp] at h
    rcases h with h | ⟨t, ht⟩
    · simp at h
    · exact .inr ⟨n ++ (47 :: t), by rw [← ht]; simp⟩
theorem join_not_below {p n m : List UInt8} (hn : n ≠ []) (hm : 47 ∉ m) : ¬ below (joinL p n) (joinL p m) := by
  unfold below joinL
  by_cases hp : p = []
  · rw [if_pos hp, if_pos hp]
    rintro (h | ⟨t, ht⟩)
    · exact hn h
    · apply hm; rw [← ht]; simp
  · rw [if_neg hp, if_neg hp]
    rintro (h | ⟨t, ht⟩)
    · simp at h
    · have : n ++ (47 :: t) = m := by simpa using ht
      apply hm; rw [← this]; simp
/-- What the rising names leave is what the bytes leave, if it stands no more below. -/
theorem same_rest : ∀ f, (∀ d r, 2 * r.length + 2 ≤ f → (d.kind = 1 ∨ d.kind = 2 ∨ d.kind = 3 ∨ d.kind = 4) → (∀ c ∈ r, c.kind = 1 ∨ c.kind = 2 ∨ c.kind = 3 ∨ c.kind = 4) → (∀ e r2, restU f d r = e :: r2 → ¬ below d.path e.path) → (bytU f d r).2 = restU f d r) ∧
    (∀ p last r, 2 * r.length + 1 ≤ f → (∀ c ∈ r, c.kind = 1 ∨ c.kind = 2 ∨ c.kind = 3 ∨ c.kind = 4) → (∀ e r2, loopU f p last r = e :: r2 → ¬ below p e.path) → (entU f p r).2 = loopU f p last r)
  | 0 => ⟨fun d r h => by omega, fun p last r h => by omega⟩
  | f + 1 => by
    obtain ⟨h1, h2⟩ := same_rest f
    constructor
    · intro d r hf hk hks hr
      rw [bytU_succ]
      rw [restU_succ] at hr ⊢
      rcases hk with k | k | k | k
      · rw [if_pos k, if_neg (by omega)]
      · rw [if_neg (by omega), if_pos k, if_neg (by omega)]
      · rw [if_neg (by omega), if_neg (by omega), if_pos k, if_neg (by omega)]
      · rw [if_neg (by omega), if_neg (by omega), if_neg (by omega), if_pos k]
        rw [if_pos k] at hr
        exact h2 d.path [] r (by omega) hks hr
    · intro p last r hf hks hr
      cases r with
      | nil => rw [entU_nil, loopU_nil]
      | cons c r =>
        simp only [List.length_cons] at hf
        rw [loopU_cons] at hr ⊢
        by_cases hn : nameL c.path p = []
        · rw [entU_stop f p c r hn, if_pos (.inl hn)]
        · obtain ⟨hj, h47⟩ := name_join hn
          by_cases hlt : ltL last (nameL c.path p) = false
          · exfalso
            rw [if_pos (.inr hlt)] at hr
            exact hr c r rfl (by rw [hj]; exact join_below _ _)
          · have hor : ¬ (nameL c.path p = [] ∨ ltL last (nameL c.path p) = false) := fun h => h.elim hn hlt
            rw [if_neg hor] at hr ⊢
            rw [entU_cons f p c r hn]
            have hl := (rest_len f).1 c r
            have hkc := hks c (by simp)
            have hkr : ∀ e ∈ r, e.kind = 1 ∨ e.kind = 2 ∨ e.kind = 3 ∨ e.kind = 4 := fun e he => hks e (List.mem_cons_of_mem _ he)
            have hb : (bytU f c r).2 = restU f c r := by
              refine h1 c r (by omega) hkc hkr ?_
              intro e r2 he hbe
              -- the head of what is left: either the loop stops there, or it is a name of p
              have hf2 : 1 ≤ f := by omega
              obtain ⟨g, rfl⟩ : ∃ g, f = g + 1 := ⟨f - 1, by omega⟩
              rw [he, loopU_cons] at hr
              by_cases hne : nameL e.path p = []
              · rw [if_pos (.inl hne)] at hr
                refine hr e r2 rfl (below_join (n := nameL c.path p) ?_ hn)
                rw [← hj]; exact hbe
              · obtain ⟨hje, h47e⟩ := name_join hne
                rw [hj, hje] at hbe
                exact join_not_below hn h47e hbe
            show (entU f p (bytU f c r).2).2 = loopU f p (nameL c.path p) (restU f c r)
            rw [hb]
            have hsub : ∀ e ∈ restU f c r, e.kind = 1 ∨ e.kind = 2 ∨ e.kind = 3 ∨ e.kind = 4 := by
              intro e he
              exact hkr e (rest_mem f c r e he)
            exact h2 p _ _ (by omega) hsub hr
/-- What a node of a tree that may be keeps. -/
def okN (c : Nd) : Prop := (c.kind = 1 ∨ c.kind = 2 ∨ c.kind = 3 ∨ c.kind = 4) ∧ c.data.length < 18446744073709551616 ∧ c.path.length < 18446744073709551616 ∧ (c.kind = 4 → c.data = [])
theorem name_len (p d : List UInt8) : (nameL p d).length ≤ p.length := by
  unfold nameL
  split
  · split <;> simp
  · split
    · split <;> simp
    · simp
theorem peel {a b x y : List UInt8} (h : strL a ++ x = strL b ++ y) (ha : a.length < 18446744073709551616 := by decide) (hb : b.length < 18446744073709551616 := by decide) : a = b ∧ x = y := strL_inj ha hb h
theorem byt_1 (f : Nat) (d : Nd) (r : List Nd) (x : List UInt8) (k : d.kind = 1) : (bytU (f + 1) d r).1 ++ x = strL tOpen ++ (strL tType ++ (strL tReg ++ (strL tCont ++ (strL d.data ++ (strL tClose ++ x))))) ∧ (bytU (f + 1) d r).2 = r := by
  rw [bytU_succ, if_pos k]
  exact ⟨by simp only [strsL_cons, strsL_nil, List.append_assoc, List.nil_append], rfl⟩
theorem byt_2 (f : Nat) (d : Nd) (r : List Nd) (x : List UInt8) (k : d.kind = 2) : (bytU (f + 1) d r).1 ++ x = strL tOpen ++ (strL tType ++ (strL tReg ++ (strL tExec ++ (strL [] ++ (strL tCont ++ (strL d.data ++ (strL tClose ++ x))))))) ∧ (bytU (f + 1) d r).2 = r := by
  rw [bytU_succ, if_neg (by omega), if_pos k]
  exact ⟨by simp only [strsL_cons, strsL_nil, List.append_assoc, List.nil_append], rfl⟩
theorem byt_3 (f : Nat) (d : Nd) (r : List Nd) (x : List UInt8) (k : d.kind = 3) : (bytU (f + 1) d r).1 ++ x = strL tOpen ++ (strL tType ++ (strL tSym ++ (strL tTarg ++ (strL d.data ++ (strL tClose ++ x))))) ∧ (bytU (f + 1) d r).2 = r := by
  rw [bytU_succ, if_neg (by omega), if_neg (by omega), if_pos k]
  exact ⟨by simp only [strsL_cons, strsL_nil, List.append_assoc, List.nil_append], rfl⟩
theorem byt_4 (f : Nat) (d : Nd) (r : List Nd) (x : List UInt8) (k : d.kind = 4) : (bytU (f + 1) d r).1 ++ x = strL tOpen ++ (strL tType ++ (strL tDir ++ ((entU f d.path r).1 ++ (strL tClose ++ x)))) ∧ (bytU (f + 1) d r).2 = (entU f d.path r).2 := by
  rw [bytU_succ, if_neg (by omega), if_neg (by omega), if_neg (by omega)]
  exact ⟨by simp only [strsL_cons, strsL_nil, List.append_assoc, List.nil_append], rfl⟩
theorem entU_form (f : Nat) (p : List UInt8) (c : Nd) (r : List Nd) (x : List UInt8) (h : nameL c.path p ≠ []) : (entU (f + 1) p (c :: r)).1 ++ x = strL tEntry ++ (strL tOpen ++ (strL tName ++ (strL (nameL c.path p) ++ (strL tNode ++ ((bytU f c r).1 ++ (strL tClose ++ ((entU f p (bytU f c r).2).1 ++ x))))))) ∧ (entU (f + 1) p (c :: r)).2 = (entU f p (bytU f c r).2).2 := by
  rw [entU_cons f p c r h]
  exact ⟨by simp only [strsL_cons, strsL_nil, List.append_assoc, List.nil_append], rfl⟩
/-- A directory's nodes end, or one more stands there. -/
theorem entU_ends (f : Nat) (p : List UInt8) (r : List Nd) : ((entU (f + 1) p r).1 = [] ∧ (entU (f + 1) p r).2 = r) ∨ ∃ c r1, r = c :: r1 ∧ nameL c.path p ≠ [] := by
  cases r with
  | nil => rw [entU_nil]; exact .inl ⟨rfl, rfl⟩
  | cons c r =>
    by_cases h : nameL c.path p = []
    · rw [entU_stop f p c r h]; exact .inl ⟨rfl, rfl⟩
    · exact .inr ⟨c, r, rfl, h⟩
theorem byt_suf : ∀ f, (∀ d r, (bytU f d r).2 <:+ r) ∧ (∀ p r, (entU f p r).2 <:+ r)
  | 0 => ⟨fun d r => by rw [bytU]; exact List.suffix_refl _, fun p r => by rw [entU]; exact List.suffix_refl _⟩
  | f + 1 => by
    obtain ⟨h1, h2⟩ := byt_suf f
    constructor
    · intro d r
      rw [bytU_succ]
      split
      · exact List.suffix_refl _
      split
      · exact List.suffix_refl _
      split
      · exact List.suffix_refl _
      · exact h2 _ _
    · intro p r
      cases r with
      | nil => rw [entU_nil]; exact List.suffix_refl _
      | cons c r =>
        by_cases hn : nameL c.path p = []
        · rw [entU_stop f p c r hn]; exact List.suffix_refl _
        · rw [entU_cons f p c r hn]
          exact (h2 _ _).trans ((h1 _ _).trans (List.suffix_cons _ _))
/-- Bytes of nodes tell the nodes. -/
theorem byt_inj : ∀ f, (∀ (d d' : Nd) (r r' : List Nd) (x y : List UInt8), 2 * r.length + 2 ≤ f → 2 * r'.length + 2 ≤ f → okN d → okN d' → (∀ c ∈ r, okN c) → (∀ c ∈ r', okN c) → d.path = d'.path →
      (bytU f d r).1 ++ x = (bytU f d' r').1 ++ y → d = d' ∧ x = y ∧ ∃ c, r = c ++ (bytU f d r).2 ∧ r' = c ++ (bytU f d' r').2) ∧
    (∀ (p : List UInt8) (r r' : List Nd) (x y : List UInt8), 2 * r.length + 1 ≤ f → 2 * r'.length + 1 ≤ f → (∀ c ∈ r, okN c) → (∀ c ∈ r', okN c) →
      (entU f p r).1 ++ (strL tClose ++ x) = (entU f p r').1 ++ (strL tClose ++ y) → x = y ∧ ∃ c, r = c ++ (entU f p r).2 ∧ r' = c ++ (entU f p r').2)
  | 0 => ⟨fun d d' r r' x y h => by omega, fun p r r' x y h => by omega⟩
  | f + 1 => by
    obtain ⟨h1, h2⟩ := byt_inj f
    constructor
    · intro d d' r r' x y hf hf' ⟨hk, hd, hp, h4⟩ ⟨hk', hd', hp', h4'⟩ hr hr' hpp h
      rcases hk with k | k | k | k
      · rw [(byt_1 f d r x k).1] at h
        rw [(byt_1 f d r x k).2]
        rcases hk' with k' | k' | k' | k'
        · rw [(byt_1 f d' r' y k').1] at h
          rw [(byt_1 f d' r' y k').2]
          obtain ⟨_, h⟩ := peel (peel h).2
          obtain ⟨_, h⟩ := peel (peel h).2
          obtain ⟨e, h⟩ := peel h hd hd'
          exact ⟨Nd.ext' hpp (by rw [k, k']) e, (peel h).2, [], rfl, rfl⟩
        · rw [(byt_2 f d' r' y k').1] at h
          exact absurd (peel (peel (peel (peel h).2).2).2).1 (by decide)
        · rw [(byt_3 f d' r' y k').1] at h
          exact absurd (peel (peel (peel h).2).2).1 (by decide)
        · rw [(byt_4 f d' r' y k').1] at h
          exact absurd (peel (peel (peel h).2).2).1 (by decide)
      · rw [(byt_2 f d r x k).1] at h
        rw [(byt_2 f d r x k).2]
        rcases hk' with k' | k' | k' | k'
        · rw [(byt_1 f d' r' y k').1] at h
          exact absurd (peel (peel (peel (peel h).2).2).2).1 (by decide)
        · rw [(byt_2 f d' r' y k').1] at h
          rw [(byt_2 f d' r' y k').2]
          obtain ⟨_, h⟩ := peel (peel h).2
          obtain ⟨_, h⟩ := peel (peel h).2
          obtain ⟨_, h⟩ := peel (peel h).2
          obtain ⟨e, h⟩ := peel h hd hd'
          exact ⟨Nd.ext' hpp (by rw [k, k']) e, (peel h).2, [], rfl, rfl⟩
        · rw [(byt_3 f d' r' y k').1] at h
          exact absurd (peel (peel (peel h).2).2).1 (by decide)
        · rw [(byt_4 f d' r' y k').1] at h
          exact absurd (peel (peel (peel h).2).2).1 (by decide)
      · rw [(byt_3 f d r x k).1] at h
        rw [(byt_3 f d r x k).2]
        rcases hk' with k' | k' | k' | k'
        · rw [(byt_1 f d' r' y k').1] at h
          exact absurd (peel (peel (peel h).2).2).1 (by decide)
        · rw [(byt_2 f d' r' y k').1] at h
          exact absurd (peel (peel (peel h).2).2).1 (by decide)
        · rw [(byt_3 f d' r' y k').1] at h
          rw [(byt_3 f d' r' y k').2]
          obtain ⟨_, h⟩ := peel (peel h).2
          obtain ⟨_, h⟩ := peel (peel h).2
          obtain ⟨e, h⟩ := peel h hd hd'
          exact ⟨Nd.ext' hpp (by rw [k, k']) e, (peel h).2, [], rfl, rfl⟩
        · rw [(byt_4 f d' r' y k').1] at h
          exact absurd (peel (peel (peel h).2).2).1 (by decide)
      · rw [(byt_4 f d r x k).1] at h
        rw [(byt_4 f d r x k).2]
        rcases hk' with k' | k' | k' | k'
        · rw [(byt_1 f d' r' y k').1] at h
          exact absurd (peel (peel (peel h).2).2).1 (by decide)
        · rw [(byt_2 f d' r' y k').1] at h
          exact absurd (peel (peel (peel h).2).2).1 (by decide)
        · rw [(byt_3 f d' r' y k').1] at h
          exact absurd (peel (peel (peel h).2).2).1 (by decide)
        · rw [(byt_4 f d' r' y k').1] at h
          rw [(byt_4 f d' r' y k').2]
          obtain ⟨_, h⟩ := peel (peel (peel h).2).2
          rw [← hpp] at h ⊢
          obtain ⟨e, c, hc, hc'⟩ := h2 d.path r r' x y (by omega) (by omega) hr hr' h
          exact ⟨Nd.ext' hpp (by rw [k, k']) (by rw [h4 k, h4' k']), e, c, hc, hc'⟩
    · intro p r r' x y hf hf' hr hr' h
      rcases entU_ends f p r with ⟨e1, e2⟩ | ⟨c, r1, rfl, hn⟩
      · rcases entU_ends f p r' with ⟨e1', e2'⟩ | ⟨c', r1', rfl, hn'⟩
        · rw [e1, e1'] at h
          rw [e2, e2']
          exact ⟨(peel h).2, [], rfl, rfl⟩
        · rw [e1, (entU_form f p c' r1' _ hn').1] at h
          exact absurd (peel h).1 (by decide)
      · rcases entU_ends f p r' with ⟨e1', e2'⟩ | ⟨c', r1', rfl, hn'⟩
        · rw [e1', (entU_form f p c r1 _ hn).1] at h
          exact absurd (peel h).1 (by decide)
        · rw [(entU_form f p c r1 _ hn).1, (entU_form f p c' r1' _ hn').1] at h
          rw [(entU_form f p c r1 [] hn).2, (entU_form f p c' r1' [] hn').2]
          simp only [List.length_cons] at hf hf'
          have oc := hr c (by simp)
          have oc' := hr' c' (by simp)
          have o1 : ∀ e ∈ r1, okN e := fun e he => hr e (List.mem_cons_of_mem _ he)
          have o1' : ∀ e ∈ r1', okN e := fun e he => hr' e (List.mem_cons_of_mem _ he)
          obtain ⟨_, h⟩ := peel (peel (peel h).2).2
          obtain ⟨en, h⟩ := peel h (Nat.lt_of_le_of_lt (name_len _ _) oc.2.2.1) (Nat.lt_of_le_of_lt (name_len _ _) oc'.2.2.1)
          obtain ⟨_, h⟩ := peel h
          have hpath : c.path = c'.path := by rw [(name_join hn).1, (name_join hn').1, en]
          obtain ⟨ec, h, l1, hl1, hl1'⟩ := h1 c c' r1 r1' _ _ (by omega) (by omega) oc oc' o1 o1' hpath h
          obtain ⟨_, h⟩ := peel h
          have hz := (byt_len f).1 c r1
          have hz' := (byt_len f).1 c' r1'
          obtain ⟨ex, l2, hl2, hl2'⟩ := h2 p _ _ x y (by omega) (by omega) (fun e he => o1 e (((byt_suf f).1 c r1).mem he)) (fun e he => o1' e (((byt_suf f).1 c' r1').mem he)) h
          refine ⟨ex, c :: (l1 ++ l2), ?_, ?_⟩
          · rw [List.cons_append, List.append_assoc, ← hl2, ← hl1]
          · rw [ec, List.cons_append, List.append_assoc, ← hl2', ← hl1']
theorem data_ok {c : Nd} (h : mayDataL c = true) (hp : c.path.length < 18446744073709551616) : okN c := by
  unfold mayDataL at h
  unfold okN
  split at h
  · rename_i hk
    have := of_decide_eq_true h
    exact ⟨by omega, by omega, hp, by omega⟩
  split at h
  · rename_i hk
    rw [Bool.and_eq_true, Bool.and_eq_true] at h
    have := of_decide_eq_true h.1.2
    exact ⟨by omega, by omega, hp, by omega⟩
  split at h
  · rename_i hk
    have := of_decide_eq_true h
    exact ⟨by omega, by rw [this]; decide, hp, fun _ => this⟩
  · cases h
/-- What a tree that may be is. -/
theorem may_parts {l : List Nd} (h : mayL l = true) (hp : ∀ c ∈ l, c.path.length < 18446744073709551616) : ∃ d r, l = d :: r ∧ d.path = [] ∧ okN d ∧ (∀ c ∈ r, okN c) ∧ restU (fuelN r) d r = [] ∧ (bytU (fuelN r) d r).2 = [] := by
  cases l with
  | nil => cases h
  | cons d r =>
    simp only [mayL, Bool.and_eq_true, decide_eq_true_eq, List.all_eq_true] at h
    obtain ⟨⟨⟨⟨_, h0⟩, hd⟩, hall⟩, hlen⟩ := h
    have hrest : restU (fuelN r) d r = [] := List.eq_nil_of_length_eq_zero hlen
    have ok0 := data_ok hd (hp d (by simp))
    have okr : ∀ c ∈ r, okN c := fun c hc => data_ok (hall c hc).2 (hp c (by simp [hc]))
    refine ⟨d, r, rfl, h0, ok0, okr, hrest, ?_⟩
    rw [(same_rest (fuelN r)).1 d r (by unfold fuelN; omega) ok0.1 (fun c hc => (okr c hc).1) (fun e r2 he => by rw [hrest] at he; cases he)]
    exact hrest
/-- Two trees have two packings. -/
theorem pack_inj {l m : List Nd} (hl : mayL l = true) (hm : mayL m = true) (hpl : ∀ c ∈ l, c.path.length < 18446744073709551616) (hpm : ∀ c ∈ m, c.path.length < 18446744073709551616) (h : treeL l = treeL m) : l = m := by
  obtain ⟨d, r, rfl, hd0, od, or_, _, hb⟩ := may_parts hl hpl
  obtain ⟨d', r', rfl, hd0', od', or', _, hb'⟩ := may_parts hm hpm
  have h := (peel (a := tMagic) (b := tMagic) h).2
  have ef : bytU (fuelN r) d r = bytU (fuelN r + fuelN r') d r := (byt_fuel _ _).1 d r (Nat.le_refl _) (by unfold fuelN; omega)
  have ef' : bytU (fuelN r') d' r' = bytU (fuelN r + fuelN r') d' r' := (byt_fuel _ _).1 d' r' (Nat.le_refl _) (by unfold fuelN; omega)
  rw [ef] at h hb
  rw [ef'] at h hb'
  have h : (bytU (fuelN r + fuelN r') d r).1 ++ [] = (bytU (fuelN r + fuelN r') d' r').1 ++ [] := by rw [h]
  obtain ⟨e, _, c, hc, hc'⟩ := (byt_inj (fuelN r + fuelN r')).1 d d' r r' [] [] (by unfold fuelN; omega) (by unfold fuelN; omega) od od' or_ or' (by rw [hd0, hd0']) h
  rw [hb, List.append_nil] at hc
  rw [hb', List.append_nil] at hc'
  rw [e, hc, hc']
end Go.Proofs.YtgbaaiedpiiepaaDoor
/- Trees made of numbers and texts: each may be. No condition but that the texts are not too long. -/
namespace Go.Proofs.YtgbaaiedpiiepaaDoor
set_option linter.unusedSimpArgs false
set_option linter.unusedVariables false
def nmL (j : Nat) : List UInt8 := match j with
  | 0 => [97]
  | 1 => [98, 46, 99]
  | 2 => [98, 105, 110]
  | 3 => [108, 105, 98]
  | 4 => [120, 32, 121]
  | _ => [122]
theorem nm_47 (j : Nat) : 47 ∉ nmL j := by
  unfold nmL
  split <;> decide
theorem nm_ne (j : Nat) : nmL j ≠ [] := by
  unfold nmL
  split <;> decide
theorem nm_may (j : Nat) : mayNameL (nmL j) = true := by
  unfold nmL
  split <;> decide
theorem nm_lt {i j : Nat} (h : i < j) (hj : j < 6) : ltL (nmL i) (nmL j) = true := by
  have key : ∀ j, j < 6 → ∀ i, i < j → ltL (nmL i) (nmL j) = true := by decide
  exact key j hj i h
theorem nm_lt0 (j : Nat) : ltL [] (nmL j) = true := by
  unfold nmL
  split <;> rfl
/-- One of some texts. -/
def textL (l : List (List UInt8)) (i : Nat) : List UInt8 := if l = [] then [] else l.getD (i % l.length) []
def dataL (texts : List (List UInt8)) (kind : Nat) (a b c : UInt8) : List UInt8 :=
  if kind = 1 ∨ kind = 2 then textL texts c.toNat ++ [a, b] else if kind = 3 then [116, 111, 47] ++ nmL (c.toNat % 6) else []
/-- Files behind a directory. -/
def dir2L (texts : List (List UInt8)) (p : List UInt8) : List UInt8 → Nat → Nat → List Nd
  | [], _, _ => []
  | a :: ns, k, cnt => if k < 6 ∧ cnt < 16 then ⟨joinL p (nmL k), 1, textL texts a.toNat⟩ :: dir2L texts p ns (k + 1) (cnt + 1) else []
/-- Nodes in a directory, by three numbers each; so many levels may go on below. -/
def dirL (texts : List (List UInt8)) : Nat → Nat → List UInt8 → List UInt8 → Nat → Nat → List Nd
  | 0, _, _, _, _, _ => []
  | f + 1, dl, p, a :: b :: c :: ns, k, cnt =>
    if k < 6 ∧ cnt < 14 then
      if k + a.toNat % 3 < 6 then
        if 1 + b.toNat % 4 = 4 ∧ 0 < dl then
          ⟨joinL p (nmL (k + a.toNat % 3)), ((1 + b.toNat % 4 : Nat) : Int), dataL texts (1 + b.toNat % 4) a b c⟩ ::
            (dirL texts f (dl - 1) (joinL p (nmL (k + a.toNat % 3))) (ns.take (ns.length / 2)) 0 (cnt + 1) ++
              dir2L texts p (ns.drop (ns.length / 2)) (k + a.toNat % 3 + 1) (cnt + 1 + (dirL texts f (dl - 1) (joinL p (nmL (k + a.toNat % 3))) (ns.take (ns.length / 2)) 0 (cnt + 1)).length))
        else ⟨joinL p (nmL (k + a.toNat % 3)), ((1 + b.toNat % 4 : Nat) : Int), dataL texts (1 + b.toNat % 4) a b c⟩ :: dirL texts f dl p ns (k + a.toNat % 3 + 1) (cnt + 1)
      else []
    else []
  | _ + 1, _, _, _, _, _ => []
/-- What stands no more below a directory. -/
def away (p : List UInt8) (post : List Nd) : Prop := ∀ e r, post = e :: r → ¬ below p e.path
theorem away_name {p : List UInt8} {e : Nd} {r : List Nd} (h : away p (e :: r)) : nameL e.path p = [] := by
  by_cases hn : nameL e.path p = []
  · exact hn
  · exfalso
    exact h e r rfl (by rw [(name_join hn).1]; exact join_below _ _)
theorem loop_away {p last : List UInt8} {post : List Nd} (f : Nat) (h : away p post) : loopU (f + 1) p last post = post := by
  cases post with
  | nil => exact loopU_nil _ _ _
  | cons e r => rw [loopU_cons, if_pos (.inl (away_name h))]
theorem away_join {p n : List UInt8} {post : List Nd} (hn : n ≠ []) (h : away p post) : away (joinL p n) post := fun e r he hb => h e r he (below_join hb hn)
theorem dir2_loop (texts : List (List UInt8)) (p : List UInt8) (post : List Nd) (ha : away p post) : ∀ (ns : List UInt8) (k cnt f : Nat) (last : List UInt8), 2 * (dir2L texts p ns k cnt ++ post).length + 1 ≤ f → (∀ j, k ≤ j → j < 6 → ltL last (nmL j) = true) → loopU f p last (dir2L texts p ns k cnt ++ post) = post
  | [], k, cnt, f, last, hf, _ => by
    obtain ⟨g, rfl⟩ : ∃ g, f = g + 1 := ⟨f - 1, by omega⟩
    exact loop_away g ha
  | a :: ns, k, cnt, f, last, hf, hl => by
    obtain ⟨g, rfl⟩ : ∃ g, f = g + 1 := ⟨f - 1, by omega⟩
    rw [dir2L] at hf ⊢
    by_cases hk : k < 6 ∧ cnt < 16
    · rw [if_pos hk] at hf ⊢
      rw [List.cons_append] at hf ⊢
      simp only [List.length_cons] at hf
      have hname : nameL (joinL p (nmL k)) p = nmL k := name_of_join _ _ (nm_47 k)
      rw [loopU_cons]
      show (if nameL (joinL p (nmL k)) p = [] ∨ ltL last (nameL (joinL p (nmL k)) p) = false then _ else loopU g p (nameL (joinL p (nmL k)) p) (restU g _ _)) = post
      rw [hname, if_neg (by rw [hl k (Nat.le_refl _) hk.1]; intro h; exact h.elim (nm_ne k) (by decide))]
      obtain ⟨g2, rfl⟩ : ∃ g2, g = g2 + 1 := ⟨g - 1, by omega⟩
      rw [restU_succ, if_neg (show ¬ (1 : Int) = 4 by decide)]
      exact dir2_loop texts p post ha ns (k + 1) (cnt + 1) (g2 + 1) (nmL k) (by omega) (fun j hj hj6 => nm_lt (by omega) hj6)
    · rw [if_neg hk] at hf ⊢
      exact loop_away g ha
theorem dir2_head (texts : List (List UInt8)) (p : List UInt8) (post : List Nd) (ns : List UInt8) (k cnt : Nat) (n : List UInt8) (hn : n ≠ []) (ha : away p post) : away (joinL p n) (dir2L texts p ns k cnt ++ post) := by
  intro e r he hb
  cases ns with
  | nil => exact away_join hn ha e r he hb
  | cons a ns =>
    rw [dir2L] at he
    by_cases hk : k < 6 ∧ cnt < 16
    · rw [if_pos hk, List.cons_append] at he
      obtain ⟨h1, _⟩ := List.cons.inj he
      rw [← h1] at hb
      exact join_not_below hn (nm_47 k) hb
    · rw [if_neg hk] at he
      exact away_join hn ha e r he hb
theorem dir_head (texts : List (List UInt8)) (f dl : Nat) (p : List UInt8) (post : List Nd) (ns : List UInt8) (k cnt : Nat) (n : List UInt8) (hn : n ≠ []) (ha : away p post) : away (joinL p n) (dirL texts f dl p ns k cnt ++ post) := by
  intro e r he hb
  cases f with
  | zero => rw [dirL] at he; exact away_join hn ha e r he hb
  | succ f =>
    match ns, he with
    | [], he => rw [dirL] at he; exact away_join hn ha e r he hb; all_goals (intros; simp_all)
    | [_], he => rw [dirL] at he; exact away_join hn ha e r he hb; all_goals (intros; simp_all)
    | [_, _], he => rw [dirL] at he; exact away_join hn ha e r he hb; all_goals (intros; simp_all)
    | a :: b :: c :: ns, he =>
      rw [dirL] at he
      by_cases hk : k < 6 ∧ cnt < 14
      · rw [if_pos hk] at he
        by_cases hk2 : k + a.toNat % 3 < 6
        · rw [if_pos hk2] at he
          split at he
          all_goals
            rw [List.cons_append] at he
            obtain ⟨h1, _⟩ := List.cons.inj he
            rw [← h1] at hb
            exact join_not_below hn (nm_47 _) hb
        · rw [if_neg hk2] at he; exact away_join hn ha e r he hb
      · rw [if_neg hk] at he; exact away_join hn ha e r he hb
theorem dir_loop (texts : List (List UInt8)) : ∀ (F dl : Nat) (p : List UInt8) (post : List Nd) (ns : List UInt8) (k cnt f : Nat) (last : List UInt8), away p post → 2 * (dirL texts F dl p ns k cnt ++ post).length + 1 ≤ f → (∀ j, k ≤ j → j < 6 → ltL last (nmL j) = true) → loopU f p last (dirL texts F dl p ns k cnt ++ post) = post
  | 0, dl, p, post, ns, k, cnt, f, last, ha, hf, _ => by
    obtain ⟨g, rfl⟩ : ∃ g, f = g + 1 := ⟨f - 1, by omega⟩
    rw [dirL]
    exact loop_away g ha
  | F + 1, dl, p, post, [], k, cnt, f, last, ha, hf, hl => by
    obtain ⟨g, rfl⟩ : ∃ g, f = g + 1 := ⟨f - 1, by omega⟩
    rw [dirL]
    · exact loop_away g ha
    · intros; simp_all
  | F + 1, dl, p, post, [_], k, cnt, f, last, ha, hf, hl => by
    obtain ⟨g, rfl⟩ : ∃ g, f = g + 1 := ⟨f - 1, by omega⟩
    rw [dirL]
    · exact loop_away g ha
    · intros; simp_all
  | F + 1, dl, p, post, [_, _], k, cnt, f, last, ha, hf, hl => by
    obtain ⟨g, rfl⟩ : ∃ g, f = g + 1 := ⟨f - 1, by omega⟩
    rw [dirL]
    · exact loop_away g ha
    · intros; simp_all
  | F + 1, dl, p, post, a :: b :: c :: ns, k, cnt, f, last, ha, hf, hl => by
    obtain ⟨g, rfl⟩ : ∃ g, f = g + 1 := ⟨f - 1, by omega⟩
    rw [dirL] at hf ⊢
    by_cases hk : k < 6 ∧ cnt < 14
    · rw [if_pos hk] at hf ⊢
      by_cases hk2 : k + a.toNat % 3 < 6
      · rw [if_pos hk2] at hf ⊢
        obtain ⟨k1, hk1⟩ : ∃ k1, k1 = k + a.toNat % 3 := ⟨_, rfl⟩
        rw [← hk1] at hf hk2 ⊢
        have hname : nameL (joinL p (nmL k1)) p = nmL k1 := name_of_join _ _ (nm_47 k1)
        by_cases hd : 1 + b.toNat % 4 = 4 ∧ 0 < dl
        · rw [if_pos hd] at hf ⊢
          rw [List.cons_append, List.append_assoc] at hf ⊢
          simp only [List.length_cons] at hf
          rw [loopU_cons]
          show (if nameL (joinL p (nmL k1)) p = [] ∨ ltL last (nameL (joinL p (nmL k1)) p) = false then _ else loopU g p (nameL (joinL p (nmL k1)) p) (restU g _ _)) = post
          rw [hname, if_neg (by rw [hl k1 (by omega) hk2]; intro h; exact h.elim (nm_ne k1) (by decide))]
          obtain ⟨g2, rfl⟩ : ∃ g2, g = g2 + 1 := ⟨g - 1, by omega⟩
          rw [restU_succ, if_pos (show ((1 + b.toNat % 4 : Nat) : Int) = 4 by omega)]
          show loopU (g2 + 1) p (nmL k1) (loopU g2 (joinL p (nmL k1)) [] _) = post
          rw [dir_loop texts F (dl - 1) (joinL p (nmL k1)) _ _ 0 (cnt + 1) g2 [] (dir2_head texts p post _ _ _ _ (nm_ne k1) ha) (by omega) (fun j _ _ => nm_lt0 j)]
          exact dir2_loop texts p post ha _ _ _ (g2 + 1) (nmL k1) (by rw [List.length_append] at hf; omega) (fun j hj hj6 => nm_lt (by omega) hj6)
        · rw [if_neg hd] at hf ⊢
          rw [List.cons_append] at hf ⊢
          simp only [List.length_cons] at hf
          rw [loopU_cons]
          show (if nameL (joinL p (nmL k1)) p = [] ∨ ltL last (nameL (joinL p (nmL k1)) p) = false then _ else loopU g p (nameL (joinL p (nmL k1)) p) (restU g _ _)) = post
          rw [hname, if_neg (by rw [hl k1 (by omega) hk2]; intro h; exact h.elim (nm_ne k1) (by decide))]
          obtain ⟨g2, rfl⟩ : ∃ g2, g = g2 + 1 := ⟨g - 1, by omega⟩
          have hrest : ∀ (d : Nd), d.path = joinL p (nmL k1) → restU (g2 + 1) d (dirL texts F dl p ns (k1 + 1) (cnt + 1) ++ post) = dirL texts F dl p ns (k1 + 1) (cnt + 1) ++ post := by
            intro d hdp
            rw [restU_succ]
            split
            · obtain ⟨g3, rfl⟩ : ∃ g3, g2 = g3 + 1 := ⟨g2 - 1, by omega⟩
              rw [hdp]
              exact loop_away g3 (dir_head texts F dl p post ns (k1 + 1) (cnt + 1) _ (nm_ne k1) ha)
            · rfl
          rw [hrest _ rfl]
          exact dir_loop texts F dl p post ns (k1 + 1) (cnt + 1) (g2 + 1) (nmL k1) ha (by omega) (fun j hj hj6 => nm_lt (by omega) hj6)
      · rw [if_neg hk2] at hf ⊢
        exact loop_away g ha
    · rw [if_neg hk] at hf ⊢
      exact loop_away g ha
theorem tw_app (n : List UInt8) (h : 47 ∉ n) (t : List UInt8) : (n ++ 47 :: t).takeWhile (· != 47) = n := by
  induction n with
  | nil => rfl
  | cons a n ih =>
    have ha : a ≠ 47 := fun e => h (by simp [e])
    have hn : 47 ∉ n := fun e => h (List.mem_cons_of_mem _ e)
    rw [List.cons_append, List.takeWhile_cons, if_pos (by simpa using ha), ih hn]
theorem tw_all (n : List UInt8) (h : 47 ∉ n) : n.takeWhile (· != 47) = n := by
  induction n with
  | nil => rfl
  | cons a n ih =>
    have ha : a ≠ 47 := fun e => h (by simp [e])
    have hn : 47 ∉ n := fun e => h (List.mem_cons_of_mem _ e)
    simp [ha, ih hn]
theorem cut_join (p n : List UInt8) (hn : 47 ∉ n) : cutL (joinL p n) = (p, n) := by
  unfold cutL joinL
  by_cases hp : p = []
  · rw [if_pos hp, if_neg hn, hp]
  · rw [if_neg hp, if_pos (by simp)]
    have hr : (p ++ 47 :: n).reverse = n.reverse ++ 47 :: p.reverse := by simp
    rw [hr, tw_app _ (by simpa using hn), List.reverse_reverse]
    have hl : (p ++ 47 :: n).length - n.length - 1 = p.length := by rw [List.length_append, List.length_cons]; omega
    simp only [hl, List.take_left']
/-- How many names a directory's path has. -/
def depthL (p : List UInt8) : Nat := if p = [] then 0 else deepL p
theorem deep_join (p n : List UInt8) (hn : 47 ∉ n) : deepL (joinL p n) = depthL p + 1 := by
  have h0 : n.count 47 = 0 := List.count_eq_zero.2 hn
  unfold deepL joinL depthL
  by_cases hp : p = []
  · rw [if_pos hp, if_pos hp, h0]
  · rw [if_neg hp, if_neg hp, List.count_append, List.count_cons, h0]
    unfold deepL
    simp
    omega
theorem depth_join (p n : List UInt8) (hn : 47 ∉ n) (h : n ≠ []) : depthL (joinL p n) = depthL p + 1 := by
  have hne : joinL p n ≠ [] := by
    unfold joinL
    split
    · exact h
    · simp
  rw [← deep_join p n hn]
  unfold depthL
  rw [if_neg hne]
theorem text_len (l : List (List UInt8)) (h : ∀ t ∈ l, t.length ≤ 300) (i : Nat) : (textL l i).length ≤ 300 := by
  unfold textL
  split
  · simp
  · rename_i hne
    have hpos : 0 < l.length := List.length_pos_iff.2 hne
    have hi : i % l.length < l.length := Nat.mod_lt _ hpos
    rw [List.getD_eq_getElem?_getD, List.getElem?_eq_getElem hi]
    exact h _ (List.getElem_mem hi)
theorem nm_len (j : Nat) : (nmL j).length ≤ 3 := by
  unfold nmL
  split <;> decide
theorem nm_0 (j : Nat) : (nmL j).contains 0 = false := by
  unfold nmL
  split <;> decide
theorem data_may (texts : List (List UInt8)) (h : ∀ t ∈ texts, t.length ≤ 300) (path : List UInt8) (kd : Nat) (h1 : 1 ≤ kd) (h4 : kd ≤ 4) (a b c : UInt8) : mayDataL ⟨path, (kd : Int), dataL texts kd a b c⟩ = true := by
  unfold mayDataL dataL
  rcases (show kd = 1 ∨ kd = 2 ∨ kd = 3 ∨ kd = 4 by omega) with rfl | rfl | rfl | rfl
  · have := text_len texts h c.toNat
    simp
    omega
  · have := text_len texts h c.toNat
    simp
    omega
  · have h1 := nm_len (c.toNat % 6)
    have h2 := nm_0 (c.toNat % 6)
    have h3 : 0 ∉ nmL (c.toNat % 6) := by simpa using h2
    simp [h3]
    omega
  · simp
/-- What each node of a tree by numbers keeps. -/
def goodN (D : Nat) (c : Nd) : Prop := mayNameL (cutL c.path).2 = true ∧ deepL c.path ≤ D ∧ mayDataL c = true
theorem good_join (p : List UInt8) (j D : Nat) (c : Nd) (hp : c.path = joinL p (nmL j)) (hD : depthL p + 1 ≤ D) (hd : mayDataL c = true) : goodN D c := by
  refine ⟨?_, ?_, hd⟩
  · rw [hp, cut_join _ _ (nm_47 j)]; exact nm_may j
  · rw [hp, deep_join _ _ (nm_47 j)]; exact hD
theorem dir2_good (texts : List (List UInt8)) (h : ∀ t ∈ texts, t.length ≤ 300) (p : List UInt8) (D : Nat) (hD : depthL p + 1 ≤ D) : ∀ (ns : List UInt8) (k cnt : Nat), (∀ c ∈ dir2L texts p ns k cnt, goodN D c) ∧ (cnt ≤ 16 → cnt + (dir2L texts p ns k cnt).length ≤ 16)
  | [], k, cnt => ⟨fun c hc => (by rw [dir2L] at hc; cases hc), fun hc => by rw [dir2L]; exact hc⟩
  | a :: ns, k, cnt => by
    rw [dir2L]
    by_cases hk : k < 6 ∧ cnt < 16
    · rw [if_pos hk]
      obtain ⟨h1, h2⟩ := dir2_good texts h p D hD ns (k + 1) (cnt + 1)
      constructor
      · intro c hc
        rcases List.mem_cons.1 hc with rfl | hc
        · refine good_join p k D _ rfl hD ?_
          have := text_len texts h a.toNat
          unfold mayDataL
          simp
          omega
        · exact h1 c hc
      · intro hc
        have := h2 (by omega)
        rw [List.length_cons]
        omega
    · rw [if_neg hk]
      exact ⟨fun c hc => (by cases hc), fun hc => hc⟩
theorem dir_good (texts : List (List UInt8)) (h : ∀ t ∈ texts, t.length ≤ 300) : ∀ (F dl : Nat) (p : List UInt8) (D : Nat) (ns : List UInt8) (k cnt : Nat), depthL p + dl + 1 ≤ D → (∀ c ∈ dirL texts F dl p ns k cnt, goodN D c) ∧ (cnt ≤ 16 → cnt + (dirL texts F dl p ns k cnt).length ≤ 16)
  | 0, dl, p, D, ns, k, cnt, _ => ⟨fun c hc => (by rw [dirL] at hc; cases hc), fun hc => by rw [dirL]; exact hc⟩
  | F + 1, dl, p, D, [], k, cnt, _ => ⟨fun c hc => (by rw [dirL] at hc; cases hc; all_goals (intros; simp_all)), fun hc => (by rw [dirL]; exact hc; all_goals (intros; simp_all))⟩
  | F + 1, dl, p, D, [_], k, cnt, _ => ⟨fun c hc => (by rw [dirL] at hc; cases hc; all_goals (intros; simp_all)), fun hc => (by rw [dirL]; exact hc; all_goals (intros; simp_all))⟩
  | F + 1, dl, p, D, [_, _], k, cnt, _ => ⟨fun c hc => (by rw [dirL] at hc; cases hc; all_goals (intros; simp_all)), fun hc => (by rw [dirL]; exact hc; all_goals (intros; simp_all))⟩
  | F + 1, dl, p, D, a :: b :: c :: ns, k, cnt, hD => by
    rw [dirL]
    by_cases hk : k < 6 ∧ cnt < 14
    · rw [if_pos hk]
      by_cases hk2 : k + a.toNat % 3 < 6
      · rw [if_pos hk2]
        have hdata := data_may texts h (joinL p (nmL (k + a.toNat % 3))) (1 + b.toNat % 4) (by omega) (by omega) a b c
        by_cases hd : 1 + b.toNat % 4 = 4 ∧ 0 < dl
        · rw [if_pos hd]
          obtain ⟨h1, h2⟩ := dir_good texts h F (dl - 1) (joinL p (nmL (k + a.toNat % 3))) D (ns.take (ns.length / 2)) 0 (cnt + 1) (by rw [depth_join _ _ (nm_47 _) (nm_ne _)]; omega)
          obtain ⟨h3, h4⟩ := dir2_good texts h p D (by omega) (ns.drop (ns.length / 2)) (k + a.toNat % 3 + 1) (cnt + 1 + (dirL texts F (dl - 1) (joinL p (nmL (k + a.toNat % 3))) (ns.take (ns.length / 2)) 0 (cnt + 1)).length)
          constructor
          · intro e he
            rcases List.mem_cons.1 he with rfl | he
            · exact good_join p _ D _ rfl (by omega) hdata
            · rcases List.mem_append.1 he with he | he
              · exact h1 e he
              · exact h3 e he
          · intro hc
            have e2 := h2 (by omega)
            have e4 := h4 (by omega)
            rw [List.length_cons, List.length_append]
            omega
        · rw [if_neg hd]
          obtain ⟨h1, h2⟩ := dir_good texts h F dl p D ns (k + a.toNat % 3 + 1) (cnt + 1) hD
          constructor
          · intro e he
            rcases List.mem_cons.1 he with rfl | he
            · exact good_join p _ D _ rfl (by omega) hdata
            · exact h1 e he
          · intro hc
            have e2 := h2 (by omega)
            rw [List.length_cons]
            omega
      · rw [if_neg hk2]; exact ⟨fun c hc => (by cases hc), fun hc => hc⟩
    · rw [if_neg hk]; exact ⟨fun c hc => (by cases hc), fun hc => hc⟩
/-- A tree by numbers. -/
def madeL (texts : List (List UInt8)) (ns : List UInt8) : List Nd := match ns with
  | [] => [⟨[], 1, textL texts 0⟩]
  | a :: m =>
    if 4 < 1 + a.toNat % 5 ∨ 3 < m.length + 1 ∨ 1 + a.toNat % 5 = 4 then ⟨[], 4, []⟩ :: dirL texts (m.length + 2) 3 [] (a :: m) 0 1
    else if 1 + a.toNat % 5 = 3 then [⟨[], 3, [116, 111]⟩]
    else [⟨[], ((1 + a.toNat % 5 : Nat) : Int), 116 :: textL texts 0⟩]
theorem may_one (d : Nd) (h0 : d.path = []) (hd : mayDataL d = true) : mayL [d] = true := by
  have hr : restU (fuelN []) d [] = [] := by
    show restU 2 d [] = []
    rw [restU_succ]
    split
    · rw [loopU_nil]
    · rfl
  simp [mayL, h0, hd, hr]
theorem made_may (texts : List (List UInt8)) (h : ∀ t ∈ texts, t.length ≤ 300) (ns : List UInt8) : mayL (madeL texts ns) = true := by
  unfold madeL
  have ht := text_len texts h 0
  cases ns with
  | nil => exact may_one _ rfl (by unfold mayDataL; simp; omega)
  | cons a m =>
    show mayL (if _ then _ else _) = true
    by_cases h1 : 4 < 1 + a.toNat % 5 ∨ 3 < m.length + 1 ∨ 1 + a.toNat % 5 = 4
    · rw [if_pos h1]
      obtain ⟨hg, hc⟩ := dir_good texts h (m.length + 2) 3 [] 64 (a :: m) 0 1 (by decide)
      have hl := hc (by decide)
      have hrest : restU (fuelN (dirL texts (m.length + 2) 3 [] (a :: m) 0 1)) ⟨[], 4, []⟩ (dirL texts (m.length + 2) 3 [] (a :: m) 0 1) = [] := by
        unfold fuelN
        rw [restU_succ, if_pos rfl]
        have := dir_loop texts (m.length + 2) 3 [] [] (a :: m) 0 1 (2 * (dirL texts (m.length + 2) 3 [] (a :: m) 0 1).length + 1) [] (fun e r he => by cases he) (by rw [List.append_nil]; omega) (fun j _ _ => nm_lt0 j)
        rw [List.append_nil] at this
        exact this
      simp only [mayL, Bool.and_eq_true, decide_eq_true_eq, List.all_eq_true]
      refine ⟨⟨⟨⟨by omega, trivial⟩, by unfold mayDataL; simp⟩, fun c hc => ⟨⟨(hg c hc).1, (hg c hc).2.1⟩, (hg c hc).2.2⟩⟩, by rw [hrest]; rfl⟩
    · rw [if_neg h1]
      by_cases h3 : 1 + a.toNat % 5 = 3
      · rw [if_pos h3]
        exact may_one _ rfl (by unfold mayDataL; simp)
      · rw [if_neg h3]
        refine may_one _ rfl ?_
        unfold mayDataL
        rw [if_pos (show ((1 + a.toNat % 5 : Nat) : Int) = 1 ∨ ((1 + a.toNat % 5 : Nat) : Int) = 2 by omega)]
        simp
        omega
end Go.Proofs.YtgbaaiedpiiepaaDoor
