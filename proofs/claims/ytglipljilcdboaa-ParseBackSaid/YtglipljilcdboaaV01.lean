/- Several texts, one behind the other; each says by itself what it proves, and on what conditions. -/
import Derived.KernelRfl
import Derived.Test.YtglipljilcdboaaProg
import Derived.WalkKit
import Derived.Lib.Hide
import Derived.Shelf.Abstract
import Derived.Deep.RegionLaw
import Derived.BigRegion
/- Trees as lists of nodes: names, what may be, words, texts with what fills them, the bytes of a tree as the document makes them; two trees have two packings. No condition but what each names. -/
namespace Go.Proofs.Ytglipljilcdboaa
set_option linter.unusedSimpArgs false
set_option linter.unusedVariables false
/-- A node. -/
structure Nd where
  path : List UInt8
  kind : Int
  data : List UInt8
theorem Nd.ext' {a b : Nd} (h1 : a.path = b.path) (h2 : a.kind = b.kind) (h3 : a.data = b.data) : a = b := by
  cases a; cases b; simp_all
/-- Eight bytes of a number, the lowest first. -/
def wordL (n : Nat) : List UInt8 := [UInt8.ofNat n, UInt8.ofNat (n / 256), UInt8.ofNat (n / 65536), UInt8.ofNat (n / 16777216), UInt8.ofNat (n / 4294967296), UInt8.ofNat (n / 1099511627776), UInt8.ofNat (n / 281474976710656), UInt8.ofNat (n / 72057594037927936)]
theorem wordL_len (n : Nat) : (wordL n).length = 8 := rfl
/-- How many noughts fill a text. -/
def fillN (n : Nat) : Nat := (8 - n % 8) % 8
/-- A text with its length ahead, and what fills it. -/
def strL (s : List UInt8) : List UInt8 := wordL s.length ++ (s ++ List.replicate (fillN s.length) 0)
theorem strL_len (s : List UInt8) : (strL s).length = 8 + (s.length + fillN s.length) := by simp [strL, wordL_len]
/-- Texts, one behind the other. -/
def strsL (l : List (List UInt8)) : List UInt8 := l.flatMap strL
theorem strsL_nil : strsL [] = [] := rfl
theorem strsL_cons (a : List UInt8) (l : List (List UInt8)) : strsL (a :: l) = strL a ++ strsL l := rfl
def mayNameL (s : List UInt8) : Bool := decide (1 ≤ s.length) && decide (s.length ≤ 255) && !s.contains 0 && !s.contains 47 && !(s == [46]) && !(s == [46, 46])
/-- The place of a name in a path: what is ahead of the last stroke, and what is behind. -/
def cutL (s : List UInt8) : List UInt8 × List UInt8 :=
  let b := (s.reverse.takeWhile (· != 47)).reverse
  if 47 ∈ s then (s.take (s.length - b.length - 1), b) else ([], s)
def deepL (s : List UInt8) : Nat := 1 + s.count 47
def mayDataL (n : Nd) : Bool :=
  if n.kind = 1 ∨ n.kind = 2 then decide (n.data.length ≤ 65536)
  else if n.kind = 3 then decide (1 ≤ n.data.length) && decide (n.data.length ≤ 4096) && !n.data.contains 0
  else if n.kind = 4 then decide (n.data = [])
  else false
/-- The name of what stands in a directory; empty: it does not. -/
def nameL (path dir : List UInt8) : List UInt8 :=
  if dir = [] then (if 47 ∈ path then [] else path)
  else if (dir ++ [47]).isPrefixOf path then (if 47 ∈ path.drop (dir.length + 1) then [] else path.drop (dir.length + 1))
  else []
def joinL (dir n : List UInt8) : List UInt8 := if dir = [] then n else dir ++ 47 :: n
theorem pre_drop {d p : List UInt8} (h : (d ++ [47]).isPrefixOf p = true) : p = d ++ 47 :: p.drop (d.length + 1) := by
  obtain ⟨t, ht⟩ := List.isPrefixOf_iff_prefix.1 h
  rw [← ht]
  simp
theorem name_join {p d : List UInt8} (h : nameL p d ≠ []) : p = joinL d (nameL p d) ∧ 47 ∉ nameL p d := by
  unfold nameL joinL at *
  by_cases hd : d = []
  · rw [if_pos hd] at h ⊢
    rw [if_pos hd]
    by_cases h47 : (47 : UInt8) ∈ p
    · rw [if_pos h47] at h; exact absurd rfl h
    · rw [if_neg h47]; exact ⟨rfl, h47⟩
  · rw [if_neg hd] at h ⊢
    rw [if_neg hd]
    by_cases hp : (d ++ [47]).isPrefixOf p = true
    · rw [if_pos hp] at h ⊢
      by_cases h47 : (47 : UInt8) ∈ p.drop (d.length + 1)
      · rw [if_pos h47] at h; exact absurd rfl h
      · rw [if_neg h47]; exact ⟨pre_drop hp, h47⟩
    · rw [if_neg hp] at h; exact absurd rfl h
theorem name_of_join (d n : List UInt8) (hn : 47 ∉ n) : nameL (joinL d n) d = n := by
  unfold nameL joinL
  by_cases hd : d = []
  · rw [if_pos hd, if_pos hd, if_neg hn]
  · rw [if_neg hd, if_neg hd]
    have hp : (d ++ [47]).isPrefixOf (d ++ 47 :: n) = true := List.isPrefixOf_iff_prefix.2 ⟨n, by simp⟩
    have e : (d ++ 47 :: n).drop (d.length + 1) = n := by simp
    rw [if_pos hp, e, if_neg hn]
/-- One text is below another one, letter by letter. -/
def ltL : List UInt8 → List UInt8 → Bool
  | _, [] => false
  | [], _ :: _ => true
  | a :: l, b :: m => if a < b then true else if a = b then ltL l m else false
mutual
/-- What is left behind a node and all that is below it, as long as names rise. -/
def restU : Nat → Nd → List Nd → List Nd
  | 0, _, r => r
  | f + 1, d, r => if d.kind = 4 then loopU f d.path [] r else r
/-- What is left behind all that stands in a directory, from a name on. -/
def loopU : Nat → List UInt8 → List UInt8 → List Nd → List Nd
  | 0, _, _, r => r
  | _ + 1, _, _, [] => []
  | f + 1, p, last, c :: r => if nameL c.path p = [] ∨ ltL last (nameL c.path p) = false then c :: r else loopU f p (nameL c.path p) (restU f c r)
end
theorem restU_succ (f : Nat) (d : Nd) (r : List Nd) : restU (f + 1) d r = if d.kind = 4 then loopU f d.path [] r else r := by rw [restU]
theorem loopU_nil (f : Nat) (p last : List UInt8) : loopU (f + 1) p last [] = [] := by rw [loopU]
theorem loopU_cons (f : Nat) (p last : List UInt8) (c : Nd) (r : List Nd) : loopU (f + 1) p last (c :: r) = if nameL c.path p = [] ∨ ltL last (nameL c.path p) = false then c :: r else loopU f p (nameL c.path p) (restU f c r) := by rw [loopU]
theorem rest_len : ∀ f, (∀ d r, (restU f d r).length ≤ r.length) ∧ (∀ p last r, (loopU f p last r).length ≤ r.length)
  | 0 => ⟨fun d r => by rw [restU]; exact Nat.le_refl _, fun p last r => by rw [loopU]; exact Nat.le_refl _⟩
  | f + 1 => by
    obtain ⟨h1, h2⟩ := rest_len f
    constructor
    · intro d r
      rw [restU_succ]
      split
      · exact h2 _ _ _
      · exact Nat.le_refl _
    · intro p last r
      cases r with
      | nil => rw [loopU_nil]; exact Nat.le_refl _
      | cons c r =>
        rw [loopU_cons]
        split
        · exact Nat.le_refl _
        · exact Nat.le_trans (h2 _ _ _) (Nat.le_trans (h1 _ _) (Nat.le_succ _))
theorem rest_suf : ∀ f, (∀ d r, restU f d r <:+ r) ∧ (∀ p last r, loopU f p last r <:+ r)
  | 0 => ⟨fun d r => by rw [restU]; exact List.suffix_refl _, fun p last r => by rw [loopU]; exact List.suffix_refl _⟩
  | f + 1 => by
    obtain ⟨h1, h2⟩ := rest_suf f
    constructor
    · intro d r
      rw [restU_succ]
      split
      · exact h2 _ _ _
      · exact List.suffix_refl _
    · intro p last r
      cases r with
      | nil => rw [loopU_nil]; exact List.suffix_refl _
      | cons c r =>
        rw [loopU_cons]
        split
        · exact List.suffix_refl _
        · exact (h2 _ _ _).trans ((h1 _ _).trans (List.suffix_cons _ _))
theorem rest_mem (f : Nat) (d : Nd) (r : List Nd) : ∀ e ∈ restU f d r, e ∈ r := fun e he => ((rest_suf f).1 d r).mem he
theorem rest_fuel : ∀ f g, (∀ d r, 2 * r.length + 2 ≤ f → 2 * r.length + 2 ≤ g → restU f d r = restU g d r) ∧ (∀ p last r, 2 * r.length + 1 ≤ f → 2 * r.length + 1 ≤ g → loopU f p last r = loopU g p last r)
  | 0, g => ⟨fun d r h => by omega, fun p last r h => by omega⟩
  | f + 1, 0 => ⟨fun d r _ h => by omega, fun p last r _ h => by omega⟩
  | f + 1, g + 1 => by
    obtain ⟨h1, h2⟩ := rest_fuel f g
    constructor
    · intro d r hf hg
      rw [restU_succ, restU_succ]
      split
      · exact h2 _ _ _ (by omega) (by omega)
      · rfl
    · intro p last r hf hg
      cases r with
      | nil => rw [loopU_nil, loopU_nil]
      | cons c r =>
        simp only [List.length_cons] at hf hg
        have hl := (rest_len g).1 c r
        rw [loopU_cons, loopU_cons, h1 c r (by omega) (by omega)]
        split
        · rfl
        · exact h2 _ _ _ (by omega) (by omega)
def fuelN (l : List Nd) : Nat := 2 * l.length + 2
/-- Whether nodes are a tree. -/
def mayL (l : List Nd) : Bool := match l with
  | [] => false
  | d :: r => decide (r.length + 1 ≤ 256) && decide (d.path = []) && mayDataL d && r.all (fun c => mayNameL (cutL c.path).2 && decide (deepL c.path ≤ 64) && mayDataL c) && decide ((restU (fuelN r) d r).length = 0)
def tOpen : List UInt8 := [40]
def tClose : List UInt8 := [41]
def tType : List UInt8 := [116, 121, 112, 101]
def tReg : List UInt8 := [114, 101, 103, 117, 108, 97, 114]
def tCont : List UInt8 := [99, 111, 110, 116, 101, 110, 116, 115]
def tExec : List UInt8 := [101, 120, 101, 99, 117, 116, 97, 98, 108, 101]
def tSym : List UInt8 := [115, 121, 109, 108, 105, 110, 107]
def tTarg : List UInt8 := [116, 97, 114, 103, 101, 116]
def tDir : List UInt8 := [100, 105, 114, 101, 99, 116, 111, 114, 121]
def tEntry : List UInt8 := [101, 110, 116, 114, 121]
def tName : List UInt8 := [110, 97, 109, 101]
def tNode : List UInt8 := [110, 111, 100, 101]
def tMagic : List UInt8 := [110, 105, 120, 45, 97, 114, 99, 104, 105, 118, 101, 45, 49]
mutual
/-- The bytes of a node, and what is left behind all that is below it. -/
def bytU : Nat → Nd → List Nd → List UInt8 × List Nd
  | 0, _, r => ([], r)
  | f + 1, d, r =>
    if d.kind = 1 then (strsL [tOpen, tType, tReg, tCont, d.data, tClose], r)
    else if d.kind = 2 then (strsL [tOpen, tType, tReg, tExec, [], tCont, d.data, tClose], r)
    else if d.kind = 3 then (strsL [tOpen, tType, tSym, tTarg, d.data, tClose], r)
    else (strsL [tOpen, tType, tDir] ++ ((entU f d.path r).1 ++ strL tClose), (entU f d.path r).2)
/-- The bytes of all that stands in a directory, and what is left. -/
def entU : Nat → List UInt8 → List Nd → List UInt8 × List Nd
  | 0, _, r => ([], r)
  | _ + 1, _, [] => ([], [])
  | f + 1, p, c :: r => if nameL c.path p = [] then ([], c :: r) else
      (strsL [tEntry, tOpen, tName, nameL c.path p, tNode] ++ ((bytU f c r).1 ++ (strL tClose ++ (entU f p (bytU f c r).2).1)), (entU f p (bytU f c r).2).2)
end
theorem bytU_succ (f : Nat) (d : Nd) (r : List Nd) : bytU (f + 1) d r = if d.kind = 1 then (strsL [tOpen, tType, tReg, tCont, d.data, tClose], r) else if d.kind = 2 then (strsL [tOpen, tType, tReg, tExec, [], tCont, d.data, tClose], r) else if d.kind = 3 then (strsL [tOpen, tType, tSym, tTarg, d.data, tClose], r) else (strsL [tOpen, tType, tDir] ++ ((entU f d.path r).1 ++ strL tClose), (entU f d.path r).2) := by rw [bytU]
theorem entU_nil (f : Nat) (p : List UInt8) : entU (f + 1) p [] = ([], []) := by rw [entU]
theorem entU_stop (f : Nat) (p : List UInt8) (c : Nd) (r : List Nd) (h : nameL c.path p = []) : entU (f + 1) p (c :: r) = ([], c :: r) := by rw [entU, if_pos h]
theorem entU_cons (f : Nat) (p : List UInt8) (c : Nd) (r : List Nd) (h : nameL c.path p ≠ []) : entU (f + 1) p (c :: r) = (strsL [tEntry, tOpen, tName, nameL c.path p, tNode] ++ ((bytU f c r).1 ++ (strL tClose ++ (entU f p (bytU f c r).2).1)), (entU f p (bytU f c r).2).2) := by rw [entU, if_neg h]
theorem byt_len : ∀ f, (∀ d r, (bytU f d r).2.length ≤ r.length) ∧ (∀ p r, (entU f p r).2.length ≤ r.length)
  | 0 => ⟨fun d r => by rw [bytU]; exact Nat.le_refl _, fun p r => by rw [entU]; exact Nat.le_refl _⟩
  | f + 1 => by
    obtain ⟨h1, h2⟩ := byt_len f
    constructor
    · intro d r
      rw [bytU_succ]
      split
      · exact Nat.le_refl _
      split
      · exact Nat.le_refl _
      split
      · exact Nat.le_refl _
      · exact h2 _ _
    · intro p r
      cases r with
      | nil => rw [entU_nil]; exact Nat.le_refl _
      | cons c r =>
        by_cases hn : nameL c.path p = []
        · rw [entU_stop f p c r hn]; exact Nat.le_refl _
        · rw [entU_cons f p c r hn]
          exact Nat.le_trans (h2 _ _) (Nat.le_trans (h1 _ _) (Nat.le_succ _))
theorem byt_fuel : ∀ f g, (∀ d r, 2 * r.length + 2 ≤ f → 2 * r.length + 2 ≤ g → bytU f d r = bytU g d r) ∧ (∀ p r, 2 * r.length + 1 ≤ f → 2 * r.length + 1 ≤ g → entU f p r = entU g p r)
  | 0, g => ⟨fun d r h => by omega, fun p r h => by omega⟩
  | f + 1, 0 => ⟨fun d r _ h => by omega, fun p r _ h => by omega⟩
  | f + 1, g + 1 => by
    obtain ⟨h1, h2⟩ := byt_fuel f g
    constructor
    · intro d r hf hg
      rw [bytU_succ, bytU_succ, h2 d.path r (by omega) (by omega)]
    · intro p r hf hg
      cases r with
      | nil => rw [entU_nil, entU_nil]
      | cons c r =>
        simp only [List.length_cons] at hf hg
        by_cases hn : nameL c.path p = []
        · rw [entU_stop f p c r hn, entU_stop g p c r hn]
        · have hl := (byt_len g).1 c r
          rw [entU_cons f p c r hn, entU_cons g p c r hn, h1 c r (by omega) (by omega), h2 p (bytU g c r).2 (by omega) (by omega)]
/-- The bytes of a tree that may be. -/
def treeL (l : List Nd) : List UInt8 := match l with
  | [] => []
  | d :: r => strL tMagic ++ (bytU (fuelN r) d r).1
/-- The bytes of a tree; none, if it may not be. -/
def packL (l : List Nd) : Option (List UInt8) := if mayL l then some (treeL l) else none
/-- What stands somewhere below a directory. -/
def below (p q : List UInt8) : Prop := p = [] ∨ (p ++ [47]) <+: q
theorem join_below (p n : List UInt8) : below p (joinL p n) := by
  unfold below joinL
  by_cases h : p = []
  · exact .inl h
  · rw [if_neg h]; exact .inr ⟨n, by simp⟩
theorem below_join {p n q : List UInt8} (h : below (joinL p n) q) (hn : n ≠ []) : below p q := by
  unfold below joinL at *
  by_cases hp : p = []
  · exact .inl hp
  · rw [if_neg hp] at h
    rcases h with h | ⟨t, ht⟩
    · simp at h
    · exact .inr ⟨n ++ (47 :: t), by rw [← ht]; simp⟩
theorem join_not_below {p n m : List UInt8} (hn : n ≠ []) (hm : 47 ∉ m) : ¬ below (joinL p n) (joinL p m) := by
  unfold below joinL
  by_cases hp : p = []
  · rw [if_pos hp, if_pos hp]
    rintro (h | ⟨t, ht⟩)
    · exact hn h
    · apply hm; rw [← ht]; simp
  · rw [if_neg hp, if_neg hp]
    rintro (h | ⟨t, ht⟩)
    · simp at h
    · have : n ++ (47 :: t) = m := by simpa using ht
      apply hm; rw [← this]; simp
theorem name_len (p d : List UInt8) : (nameL p d).length ≤ p.length := by
  unfold nameL
  split
  · split <;> simp
  · split
    · split <;> simp
    · simp
theorem byt_1 (f : Nat) (d : Nd) (r : List Nd) (x : List UInt8) (k : d.kind = 1) : (bytU (f + 1) d r).1 ++ x = strL tOpen ++ (strL tType ++ (strL tReg ++ (strL tCont ++ (strL d.data ++ (strL tClose ++ x))))) ∧ (bytU (f + 1) d r).2 = r := by
  rw [bytU_succ, if_pos k]
  exact ⟨by simp only [strsL_cons, strsL_nil, List.append_assoc, List.nil_append], rfl⟩
theorem byt_2 (f : Nat) (d : Nd) (r : List Nd) (x : List UInt8) (k : d.kind = 2) : (bytU (f + 1) d r).1 ++ x = strL tOpen ++ (strL tType ++ (strL tReg ++ (strL tExec ++ (strL [] ++ (strL tCont ++ (strL d.data ++ (strL tClose ++ x))))))) ∧ (bytU (f + 1) d r).2 = r := by
  rw [bytU_succ, if_neg (by omega), if_pos k]
  exact ⟨by simp only [strsL_cons, strsL_nil, List.append_assoc, List.nil_append], rfl⟩
theorem byt_3 (f : Nat) (d : Nd) (r : List Nd) (x : List UInt8) (k : d.kind = 3) : (bytU (f + 1) d r).1 ++ x = strL tOpen ++ (strL tType ++ (strL tSym ++ (strL tTarg ++ (strL d.data ++ (strL tClose ++ x))))) ∧ (bytU (f + 1) d r).2 = r := by
  rw [bytU_succ, if_neg (by omega), if_neg (by omega), if_pos k]
  exact ⟨by simp only [strsL_cons, strsL_nil, List.append_assoc, List.nil_append], rfl⟩
theorem byt_suf : ∀ f, (∀ d r, (bytU f d r).2 <:+ r) ∧ (∀ p r, (entU f p r).2 <:+ r)
  | 0 => ⟨fun d r => by rw [bytU]; exact List.suffix_refl _, fun p r => by rw [entU]; exact List.suffix_refl _⟩
  | f + 1 => by
    obtain ⟨h1, h2⟩ := byt_suf f
    constructor
    · intro d r
      rw [bytU_succ]
      split
      · exact List.suffix_refl _
      split
      · exact List.suffix_refl _
      split
      · exact List.suffix_refl _
      · exact h2 _ _
    · intro p r
      cases r with
      | nil => rw [entU_nil]; exact List.suffix_refl _
      | cons c r =>
        by_cases hn : nameL c.path p = []
        · rw [entU_stop f p c r hn]; exact List.suffix_refl _
        · rw [entU_cons f p c r hn]
          exact (h2 _ _).trans ((h1 _ _).trans (List.suffix_cons _ _))
end Go.Proofs.Ytglipljilcdboaa
/- Trees made of numbers and texts: each may be. No condition but that the texts are not too long. -/
namespace Go.Proofs.Ytglipljilcdboaa
set_option linter.unusedSimpArgs false
set_option linter.unusedVariables false
def nmL (j : Nat) : List UInt8 := match j with
  | 0 => [97]
  | 1 => [98, 46, 99]
  | 2 => [98, 105, 110]
  | 3 => [108, 105, 98]
  | 4 => [120, 32, 121]
  | _ => [122]
theorem nm_47 (j : Nat) : 47 ∉ nmL j := by
  unfold nmL
  split <;> decide
theorem nm_ne (j : Nat) : nmL j ≠ [] := by
  unfold nmL
  split <;> decide
theorem nm_may (j : Nat) : mayNameL (nmL j) = true := by
  unfold nmL
  split <;> decide
theorem nm_lt {i j : Nat} (h : i < j) (hj : j < 6) : ltL (nmL i) (nmL j) = true := by
  have key : ∀ j, j < 6 → ∀ i, i < j → ltL (nmL i) (nmL j) = true := by decide
  exact key j hj i h
theorem nm_lt0 (j : Nat) : ltL [] (nmL j) = true := by
  unfold nmL
  split <;> rfl
/-- One of some texts. -/
def textL (l : List (List UInt8)) (i : Nat) : List UInt8 := if l = [] then [] else l.getD (i % l.length) []
def dataL (texts : List (List UInt8)) (kind : Nat) (a b c : UInt8) : List UInt8 :=
  if kind = 1 ∨ kind = 2 then textL texts c.toNat ++ [a, b] else if kind = 3 then [116, 111, 47] ++ nmL (c.toNat % 6) else []
/-- Files behind a directory. -/
def dir2L (texts : List (List UInt8)) (p : List UInt8) : List UInt8 → Nat → Nat → List Nd
  | [], _, _ => []
  | a :: ns, k, cnt => if k < 6 ∧ cnt < 16 then ⟨joinL p (nmL k), 1, textL texts a.toNat⟩ :: dir2L texts p ns (k + 1) (cnt + 1) else []
/-- Nodes in a directory, by three numbers each; so many levels may go on below. -/
def dirL (texts : List (List UInt8)) : Nat → Nat → List UInt8 → List UInt8 → Nat → Nat → List Nd
  | 0, _, _, _, _, _ => []
  | f + 1, dl, p, a :: b :: c :: ns, k, cnt =>
    if k < 6 ∧ cnt < 14 then
      if k + a.toNat % 3 < 6 then
        if 1 + b.toNat % 4 = 4 ∧ 0 < dl then
          ⟨joinL p (nmL (k + a.toNat % 3)), ((1 + b.toNat % 4 : Nat) : Int), dataL texts (1 + b.toNat % 4) a b c⟩ ::
            (dirL texts f (dl - 1) (joinL p (nmL (k + a.toNat % 3))) (ns.take (ns.length / 2)) 0 (cnt + 1) ++
              dir2L texts p (ns.drop (ns.length / 2)) (k + a.toNat % 3 + 1) (cnt + 1 + (dirL texts f (dl - 1) (joinL p (nmL (k + a.toNat % 3))) (ns.take (ns.length / 2)) 0 (cnt + 1)).length))
        else ⟨joinL p (nmL (k + a.toNat % 3)), ((1 + b.toNat % 4 : Nat) : Int), dataL texts (1 + b.toNat % 4) a b c⟩ :: dirL texts f dl p ns (k + a.toNat % 3 + 1) (cnt + 1)
      else []
    else []
  | _ + 1, _, _, _, _, _ => []
/-- What stands no more below a directory. -/
def away (p : List UInt8) (post : List Nd) : Prop := ∀ e r, post = e :: r → ¬ below p e.path
theorem away_name {p : List UInt8} {e : Nd} {r : List Nd} (h : away p (e :: r)) : nameL e.path p = [] := by
  by_cases hn : nameL e.path p = []
  · exact hn
  · exfalso
    exact h e r rfl (by rw [(name_join hn).1]; exact join_below _ _)
theorem loop_away {p last : List UInt8} {post : List Nd} (f : Nat) (h : away p post) : loopU (f + 1) p last post = post := by
  cases post with
  | nil => exact loopU_nil _ _ _
  | cons e r => rw [loopU_cons, if_pos (.inl (away_name h))]
theorem away_join {p n : List UInt8} {post : List Nd} (hn : n ≠ []) (h : away p post) : away (joinL p n) post := fun e r he hb => h e r he (below_join hb hn)
theorem dir2_loop (texts : List (List UInt8)) (p : List UInt8) (post : List Nd) (ha : away p post) : ∀ (ns : List UInt8) (k cnt f : Nat) (last : List UInt8), 2 * (dir2L texts p ns k cnt ++ post).length + 1 ≤ f → (∀ j, k ≤ j → j < 6 → ltL last (nmL j) = true) → loopU f p last (dir2L texts p ns k cnt ++ post) = post
  | [], k, cnt, f, last, hf, _ => by
    obtain ⟨g, rfl⟩ : ∃ g, f = g + 1 := ⟨f - 1, by omega⟩
    exact loop_away g ha
  | a :: ns, k, cnt, f, last, hf, hl => by
    obtain ⟨g, rfl⟩ : ∃ g, f = g + 1 := ⟨f - 1, by omega⟩
    rw [dir2L] at hf ⊢
    by_cases hk : k < 6 ∧ cnt < 16
    · rw [if_pos hk] at hf ⊢
      rw [List.cons_append] at hf ⊢
      simp only [List.length_cons] at hf
      have hname : nameL (joinL p (nmL k)) p = nmL k := name_of_join _ _ (nm_47 k)
      rw [loopU_cons]
      show (if nameL (joinL p (nmL k)) p = [] ∨ ltL last (nameL (joinL p (nmL k)) p) = false then _ else loopU g p (nameL (joinL p (nmL k)) p) (restU g _ _)) = post
      rw [hname, if_neg (by rw [hl k (Nat.le_refl _) hk.1]; intro h; exact h.elim (nm_ne k) (by decide))]
      obtain ⟨g2, rfl⟩ : ∃ g2, g = g2 + 1 := ⟨g - 1, by omega⟩
      rw [restU_succ, if_neg (show ¬ (1 : Int) = 4 by decide)]
      exact dir2_loop texts p post ha ns (k + 1) (cnt + 1) (g2 + 1) (nmL k) (by omega) (fun j hj hj6 => nm_lt (by omega) hj6)
    · rw [if_neg hk] at hf ⊢
      exact loop_away g ha
theorem dir2_head (texts : List (List UInt8)) (p : List UInt8) (post : List Nd) (ns : List UInt8) (k cnt : Nat) (n : List UInt8) (hn : n ≠ []) (ha : away p post) : away (joinL p n) (dir2L texts p ns k cnt ++ post) := by
  intro e r he hb
  cases ns with
  | nil => exact away_join hn ha e r he hb
  | cons a ns =>
    rw [dir2L] at he
    by_cases hk : k < 6 ∧ cnt < 16
    · rw [if_pos hk, List.cons_append] at he
      obtain ⟨h1, _⟩ := List.cons.inj he
      rw [← h1] at hb
      exact join_not_below hn (nm_47 k) hb
    · rw [if_neg hk] at he
      exact away_join hn ha e r he hb
theorem dir_head (texts : List (List UInt8)) (f dl : Nat) (p : List UInt8) (post : List Nd) (ns : List UInt8) (k cnt : Nat) (n : List UInt8) (hn : n ≠ []) (ha : away p post) : away (joinL p n) (dirL texts f dl p ns k cnt ++ post) := by
  intro e r he hb
  cases f with
  | zero => rw [dirL] at he; exact away_join hn ha e r he hb
  | succ f =>
    match ns, he with
    | [], he => rw [dirL] at he; exact away_join hn ha e r he hb; all_goals (intros; simp_all)
    | [_], he => rw [dirL] at he; exact away_join hn ha e r he hb; all_goals (intros; simp_all)
    | [_, _], he => rw [dirL] at he; exact away_join hn ha e r he hb; all_goals (intros; simp_all)
    | a :: b :: c :: ns, he =>
      rw [dirL] at he
      by_cases hk : k < 6 ∧ cnt < 14
      · rw [if_pos hk] at he
        by_cases hk2 : k + a.toNat % 3 < 6
        · rw [if_pos hk2] at he
          split at he
          all_goals
            rw [List.cons_append] at he
            obtain ⟨h1, _⟩ := List.cons.inj he
            rw [← h1] at hb
            exact join_not_below hn (nm_47 _) hb
        · rw [if_neg hk2] at he; exact away_join hn ha e r he hb
      · rw [if_neg hk] at he; exact away_join hn ha e r he hb
theorem dir_loop (texts : List (List UInt8)) : ∀ (F dl : Nat) (p : List UInt8) (post : List Nd) (ns : List UInt8) (k cnt f : Nat) (last : List UInt8), away p post → 2 * (dirL texts F dl p ns k cnt ++ post).length + 1 ≤ f → (∀ j, k ≤ j → j < 6 → ltL last (nmL j) = true) → loopU f p last (dirL texts F dl p ns k cnt ++ post) = post
  | 0, dl, p, post, ns, k, cnt, f, last, ha, hf, _ => by
    obtain ⟨g, rfl⟩ : ∃ g, f = g + 1 := ⟨f - 1, by omega⟩
    rw [dirL]
    exact loop_away g ha
  | F + 1, dl, p, post, [], k, cnt, f, last, ha, hf, hl => by
    obtain ⟨g, rfl⟩ : ∃ g, f = g + 1 := ⟨f - 1, by omega⟩
    rw [dirL]
    · exact loop_away g ha
    · intros; simp_all
  | F + 1, dl, p, post, [_], k, cnt, f, last, ha, hf, hl => by
    obtain ⟨g, rfl⟩ : ∃ g, f = g + 1 := ⟨f - 1, by omega⟩
    rw [dirL]
    · exact loop_away g ha
    · intros; simp_all
  | F + 1, dl, p, post, [_, _], k, cnt, f, last, ha, hf, hl => by
    obtain ⟨g, rfl⟩ : ∃ g, f = g + 1 := ⟨f - 1, by omega⟩
    rw [dirL]
    · exact loop_away g ha
    · intros; simp_all
  | F + 1, dl, p, post, a :: b :: c :: ns, k, cnt, f, last, ha, hf, hl => by
    obtain ⟨g, rfl⟩ : ∃ g, f = g + 1 := ⟨f - 1, by omega⟩
    rw [dirL] at hf ⊢
    by_cases hk : k < 6 ∧ cnt < 14
    · rw [if_pos hk] at hf ⊢
      by_cases hk2 : k + a.toNat % 3 < 6
      · rw [if_pos hk2] at hf ⊢
        obtain ⟨k1, hk1⟩ : ∃ k1, k1 = k + a.toNat % 3 := ⟨_, rfl⟩
        rw [← hk1] at hf hk2 ⊢
        have hname : nameL (joinL p (nmL k1)) p = nmL k1 := name_of_join _ _ (nm_47 k1)
        by_cases hd : 1 + b.toNat % 4 = 4 ∧ 0 < dl
        · rw [if_pos hd] at hf ⊢
          rw [List.cons_append, List.append_assoc] at hf ⊢
          simp only [List.length_cons] at hf
          rw [loopU_cons]
          show (if nameL (joinL p (nmL k1)) p = [] ∨ ltL last (nameL (joinL p (nmL k1)) p) = false then _ else loopU g p (nameL (joinL p (nmL k1)) p) (restU g _ _)) = post
          rw [hname, if_neg (by rw [hl k1 (by omega) hk2]; intro h; exact h.elim (nm_ne k1) (by decide))]
          obtain ⟨g2, rfl⟩ : ∃ g2, g = g2 + 1 := ⟨g - 1, by omega⟩
          rw [restU_succ, if_pos (show ((1 + b.toNat % 4 : Nat) : Int) = 4 by omega)]
          show loopU (g2 + 1) p (nmL k1) (loopU g2 (joinL p (nmL k1)) [] _) = post
          rw [dir_loop texts F (dl - 1) (joinL p (nmL k1)) _ _ 0 (cnt + 1) g2 [] (dir2_head texts p post _ _ _ _ (nm_ne k1) ha) (by omega) (fun j _ _ => nm_lt0 j)]
          exact dir2_loop texts p post ha _ _ _ (g2 + 1) (nmL k1) (by rw [List.length_append] at hf; omega) (fun j hj hj6 => nm_lt (by omega) hj6)
        · rw [if_neg hd] at hf ⊢
          rw [List.cons_append] at hf ⊢
          simp only [List.length_cons] at hf
          rw [loopU_cons]
          show (if nameL (joinL p (nmL k1)) p = [] ∨ ltL last (nameL (joinL p (nmL k1)) p) = false then _ else loopU g p (nameL (joinL p (nmL k1)) p) (restU g _ _)) = post
          rw [hname, if_neg (by rw [hl k1 (by omega) hk2]; intro h; exact h.elim (nm_ne k1) (by decide))]
          obtain ⟨g2, rfl⟩ : ∃ g2, g = g2 + 1 := ⟨g - 1, by omega⟩
          have hrest : ∀ (d : Nd), d.path = joinL p (nmL k1) → restU (g2 + 1) d (dirL texts F dl p ns (k1 + 1) (cnt + 1) ++ post) = dirL texts F dl p ns (k1 + 1) (cnt + 1) ++ post := by
            intro d hdp
            rw [restU_succ]
            split
            · obtain ⟨g3, rfl⟩ : ∃ g3, g2 = g3 + 1 := ⟨g2 - 1, by omega⟩
              rw [hdp]
              exact loop_away g3 (dir_head texts F dl p post ns (k1 + 1) (cnt + 1) _ (nm_ne k1) ha)
            · rfl
          rw [hrest _ rfl]
          exact dir_loop texts F dl p post ns (k1 + 1) (cnt + 1) (g2 + 1) (nmL k1) ha (by omega) (fun j hj hj6 => nm_lt (by omega) hj6)
      · rw [if_neg hk2] at hf ⊢
        exact loop_away g ha
    · rw [if_neg hk] at hf ⊢
      exact loop_away g ha
theorem tw_app (n : List UInt8) (h : 47 ∉ n) (t : List UInt8) : (n ++ 47 :: t).takeWhile (· != 47) = n := by
  induction n with
  | nil => rfl
  | cons a n ih =>
    have ha : a ≠ 47 := fun e => h (by simp [e])
    have hn : 47 ∉ n := fun e => h (List.mem_cons_of_mem _ e)
    rw [List.cons_append, List.takeWhile_cons, if_pos (by simpa using ha), ih hn]
theorem cut_join (p n : List UInt8) (hn : 47 ∉ n) : cutL (joinL p n) = (p, n) := by
  unfold cutL joinL
  by_cases hp : p = []
  · rw [if_pos hp, if_neg hn, hp]
  · rw [if_neg hp, if_pos (by simp)]
    have hr : (p ++ 47 :: n).reverse = n.reverse ++ 47 :: p.reverse := by simp
    rw [hr, tw_app _ (by simpa using hn), List.reverse_reverse]
    have hl : (p ++ 47 :: n).length - n.length - 1 = p.length := by rw [List.length_append, List.length_cons]; omega
    simp only [hl, List.take_left']
/-- How many names a directory's path has. -/
def depthL (p : List UInt8) : Nat := if p = [] then 0 else deepL p
theorem deep_join (p n : List UInt8) (hn : 47 ∉ n) : deepL (joinL p n) = depthL p + 1 := by
  have h0 : n.count 47 = 0 := List.count_eq_zero.2 hn
  unfold deepL joinL depthL
  by_cases hp : p = []
  · rw [if_pos hp, if_pos hp, h0]
  · rw [if_neg hp, if_neg hp, List.count_append, List.count_cons, h0]
    unfold deepL
    simp
    omega
theorem depth_join (p n : List UInt8) (hn : 47 ∉ n) (h : n ≠ []) : depthL (joinL p n) = depthL p + 1 := by
  have hne : joinL p n ≠ [] := by
    unfold joinL
    split
    · exact h
    · simp
  rw [← deep_join p n hn]
  unfold depthL
  rw [if_neg hne]
theorem text_len (l : List (List UInt8)) (h : ∀ t ∈ l, t.length ≤ 300) (i : Nat) : (textL l i).length ≤ 300 := by
  unfold textL
  split
  · simp
  · rename_i hne
    have hpos : 0 < l.length := List.length_pos_iff.2 hne
    have hi : i % l.length < l.length := Nat.mod_lt _ hpos
    rw [List.getD_eq_getElem?_getD, List.getElem?_eq_getElem hi]
    exact h _ (List.getElem_mem hi)
theorem nm_len (j : Nat) : (nmL j).length ≤ 3 := by
  unfold nmL
  split <;> decide
theorem nm_0 (j : Nat) : (nmL j).contains 0 = false := by
  unfold nmL
  split <;> decide
theorem data_may (texts : List (List UInt8)) (h : ∀ t ∈ texts, t.length ≤ 300) (path : List UInt8) (kd : Nat) (h1 : 1 ≤ kd) (h4 : kd ≤ 4) (a b c : UInt8) : mayDataL ⟨path, (kd : Int), dataL texts kd a b c⟩ = true := by
  unfold mayDataL dataL
  rcases (show kd = 1 ∨ kd = 2 ∨ kd = 3 ∨ kd = 4 by omega) with rfl | rfl | rfl | rfl
  · have := text_len texts h c.toNat
    simp
    omega
  · have := text_len texts h c.toNat
    simp
    omega
  · have h1 := nm_len (c.toNat % 6)
    have h2 := nm_0 (c.toNat % 6)
    have h3 : 0 ∉ nmL (c.toNat % 6) := by simpa using h2
    simp [h3]
    omega
  · simp
/-- What each node of a tree by numbers keeps. -/
def goodN (D : Nat) (c : Nd) : Prop := mayNameL (cutL c.path).2 = true ∧ deepL c.path ≤ D ∧ mayDataL c = true
theorem good_join (p : List UInt8) (j D : Nat) (c : Nd) (hp : c.path = joinL p (nmL j)) (hD : depthL p + 1 ≤ D) (hd : mayDataL c = true) : goodN D c := by
  refine ⟨?_, ?_, hd⟩
  · rw [hp, cut_join _ _ (nm_47 j)]; exact nm_may j
  · rw [hp, deep_join _ _ (nm_47 j)]; exact hD
theorem dir2_good (texts : List (List UInt8)) (h : ∀ t ∈ texts, t.length ≤ 300) (p : List UInt8) (D : Nat) (hD : depthL p + 1 ≤ D) : ∀ (ns : List UInt8) (k cnt : Nat), (∀ c ∈ dir2L texts p ns k cnt, goodN D c) ∧ (cnt ≤ 16 → cnt + (dir2L texts p ns k cnt).length ≤ 16)
  | [], k, cnt => ⟨fun c hc => (by rw [dir2L] at hc; cases hc), fun hc => by rw [dir2L]; exact hc⟩
  | a :: ns, k, cnt => by
    rw [dir2L]
    by_cases hk : k < 6 ∧ cnt < 16
    · rw [if_pos hk]
      obtain ⟨h1, h2⟩ := dir2_good texts h p D hD ns (k + 1) (cnt + 1)
      constructor
      · intro c hc
        rcases List.mem_cons.1 hc with rfl | hc
        · refine good_join p k D _ rfl hD ?_
          have := text_len texts h a.toNat
          unfold mayDataL
          simp
          omega
        · exact h1 c hc
      · intro hc
        have := h2 (by omega)
        rw [List.length_cons]
        omega
    · rw [if_neg hk]
      exact ⟨fun c hc => (by cases hc), fun hc => hc⟩
theorem dir_good (texts : List (List UInt8)) (h : ∀ t ∈ texts, t.length ≤ 300) : ∀ (F dl : Nat) (p : List UInt8) (D : Nat) (ns : List UInt8) (k cnt : Nat), depthL p + dl + 1 ≤ D → (∀ c ∈ dirL texts F dl p ns k cnt, goodN D c) ∧ (cnt ≤ 16 → cnt + (dirL texts F dl p ns k cnt).length ≤ 16)
  | 0, dl, p, D, ns, k, cnt, _ => ⟨fun c hc => (by rw [dirL] at hc; cases hc), fun hc => by rw [dirL]; exact hc⟩
  | F + 1, dl, p, D, [], k, cnt, _ => ⟨fun c hc => (by rw [dirL] at hc; cases hc; all_goals (intros; simp_all)), fun hc => (by rw [dirL]; exact hc; all_goals (intros; simp_all))⟩
  | F + 1, dl, p, D, [_], k, cnt, _ => ⟨fun c hc => (by rw [dirL] at hc; cases hc; all_goals (intros; simp_all)), fun hc => (by rw [dirL]; exact hc; all_goals (intros; simp_all))⟩
  | F + 1, dl, p, D, [_, _], k, cnt, _ => ⟨fun c hc => (by rw [dirL] at hc; cases hc; all_goals (intros; simp_all)), fun hc => (by rw [dirL]; exact hc; all_goals (intros; simp_all))⟩
  | F + 1, dl, p, D, a :: b :: c :: ns, k, cnt, hD => by
    rw [dirL]
    by_cases hk : k < 6 ∧ cnt < 14
    · rw [if_pos hk]
      by_cases hk2 : k + a.toNat % 3 < 6
      · rw [if_pos hk2]
        have hdata := data_may texts h (joinL p (nmL (k + a.toNat % 3))) (1 + b.toNat % 4) (by omega) (by omega) a b c
        by_cases hd : 1 + b.toNat % 4 = 4 ∧ 0 < dl
        · rw [if_pos hd]
          obtain ⟨h1, h2⟩ := dir_good texts h F (dl - 1) (joinL p (nmL (k + a.toNat % 3))) D (ns.take (ns.length / 2)) 0 (cnt + 1) (by rw [depth_join _ _ (nm_47 _) (nm_ne _)]; omega)
          obtain ⟨h3, h4⟩ := dir2_good texts h p D (by omega) (ns.drop (ns.length / 2)) (k + a.toNat % 3 + 1) (cnt + 1 + (dirL texts F (dl - 1) (joinL p (nmL (k + a.toNat % 3))) (ns.take (ns.length / 2)) 0 (cnt + 1)).length)
          constructor
          · intro e he
            rcases List.mem_cons.1 he with rfl | he
            · exact good_join p _ D _ rfl (by omega) hdata
            · rcases List.mem_append.1 he with he | he
              · exact h1 e he
              · exact h3 e he
          · intro hc
            have e2 := h2 (by omega)
            have e4 := h4 (by omega)
            rw [List.length_cons, List.length_append]
            omega
        · rw [if_neg hd]
          obtain ⟨h1, h2⟩ := dir_good texts h F dl p D ns (k + a.toNat % 3 + 1) (cnt + 1) hD
          constructor
          · intro e he
            rcases List.mem_cons.1 he with rfl | he
            · exact good_join p _ D _ rfl (by omega) hdata
            · exact h1 e he
          · intro hc
            have e2 := h2 (by omega)
            rw [List.length_cons]
            omega
      · rw [if_neg hk2]; exact ⟨fun c hc => (by cases hc), fun hc => hc⟩
    · rw [if_neg hk]; exact ⟨fun c hc => (by cases hc), fun hc => hc⟩
/-- A tree by numbers. -/
def madeL (texts : List (List UInt8)) (ns : List UInt8) : List Nd := match ns with
  | [] => [⟨[], 1, textL texts 0⟩]
  | a :: m =>
    if 4 < 1 + a.toNat % 5 ∨ 3 < m.length + 1 ∨ 1 + a.toNat % 5 = 4 then ⟨[], 4, []⟩ :: dirL texts (m.length + 2) 3 [] (a :: m) 0 1
    else if 1 + a.toNat % 5 = 3 then [⟨[], 3, [116, 111]⟩]
    else [⟨[], ((1 + a.toNat % 5 : Nat) : Int), 116 :: textL texts 0⟩]
theorem may_one (d : Nd) (h0 : d.path = []) (hd : mayDataL d = true) : mayL [d] = true := by
  have hr : restU (fuelN []) d [] = [] := by
    show restU 2 d [] = []
    rw [restU_succ]
    split
    · rw [loopU_nil]
    · rfl
  simp [mayL, h0, hd, hr]
theorem made_may (texts : List (List UInt8)) (h : ∀ t ∈ texts, t.length ≤ 300) (ns : List UInt8) : mayL (madeL texts ns) = true := by
  unfold madeL
  have ht := text_len texts h 0
  cases ns with
  | nil => exact may_one _ rfl (by unfold mayDataL; simp; omega)
  | cons a m =>
    show mayL (if _ then _ else _) = true
    by_cases h1 : 4 < 1 + a.toNat % 5 ∨ 3 < m.length + 1 ∨ 1 + a.toNat % 5 = 4
    · rw [if_pos h1]
      obtain ⟨hg, hc⟩ := dir_good texts h (m.length + 2) 3 [] 64 (a :: m) 0 1 (by decide)
      have hl := hc (by decide)
      have hrest : restU (fuelN (dirL texts (m.length + 2) 3 [] (a :: m) 0 1)) ⟨[], 4, []⟩ (dirL texts (m.length + 2) 3 [] (a :: m) 0 1) = [] := by
        unfold fuelN
        rw [restU_succ, if_pos rfl]
        have := dir_loop texts (m.length + 2) 3 [] [] (a :: m) 0 1 (2 * (dirL texts (m.length + 2) 3 [] (a :: m) 0 1).length + 1) [] (fun e r he => by cases he) (by rw [List.append_nil]; omega) (fun j _ _ => nm_lt0 j)
        rw [List.append_nil] at this
        exact this
      simp only [mayL, Bool.and_eq_true, decide_eq_true_eq, List.all_eq_true]
      refine ⟨⟨⟨⟨by omega, trivial⟩, by unfold mayDataL; simp⟩, fun c hc => ⟨⟨(hg c hc).1, (hg c hc).2.1⟩, (hg c hc).2.2⟩⟩, by rw [hrest]; rfl⟩
    · rw [if_neg h1]
      by_cases h3 : 1 + a.toNat % 5 = 3
      · rw [if_pos h3]
        exact may_one _ rfl (by unfold mayDataL; simp)
      · rw [if_neg h3]
        refine may_one _ rfl ?_
        unfold mayDataL
        rw [if_pos (show ((1 + a.toNat % 5 : Nat) : Int) = 1 ∨ ((1 + a.toNat % 5 : Nat) : Int) = 2 by omega)]
        simp
        omega
end Go.Proofs.Ytglipljilcdboaa
/- What the document asks of texts: whether one has a byte, how many names, the last name, a name in a directory, which names may be. Its condition: a length that fits. -/
namespace Go.Proofs.Ytglipljilcdboaa
open Go.RowKit Go.Shelf
set_option linter.unusedVariables false
set_option linter.unusedSimpArgs false
theorem take_snoc (s : ByteArray) (k : Nat) (h : k < s.size) : s.data.toList.take (k + 1) = s.data.toList.take k ++ [s[k]] := by
  have h2 : k < s.data.toList.length := h
  rw [List.take_add_one, List.getElem?_eq_getElem h2]
  rfl
theorem toNat_ne {a b : UInt8} (h : ¬ a = b) : ¬ (a.toNat : Int) = (b.toNat : Int) := fun e => h (UInt8.toNat_inj.1 (by omega))
set_option maxRecDepth 100000 in
set_option maxHeartbeats 1000000 in
theorem has_any (s : ByteArray) (c : UInt8) (hs : s.size ≤ 9223372036854775807) (w : World) : Calls Try.prog 56 #[.string s, .int .u8 (c.toNat : Int)] w fun e w' => e = .returned (.bool (decide (c ∈ s.data.toList))) ∧ w' = w := by
  obtain ⟨b, hb⟩ : ∃ b, Hid (b = decide (c ∈ s.data.toList)) := ⟨_, Lib.hid rfl⟩
  rw [← hb.out]
  have hsl : s.data.toList.length = s.size := rfl
  go_enter Try.func56, Try.ntmps56
  go_wp2
  go_loopw [5] (fun i wr => ∃ k : Nat, k ≤ s.size ∧ i = .int .i64 k ∧ c ∉ s.data.toList.take k ∧ wr = w) (fun i _ => s.size - (intOf i).toNat)
  case atStart => exact ⟨0, Nat.zero_le _, rfl, by simp, rfl⟩
  case round =>
    obtain ⟨k, hk, rfl, hno, rfl⟩ := hrel
    have HNO := Lib.hid hno
    clear hno
    by_cases hlt : k < s.size
    · have hltI : (k : Int) < (s.size : Int) := by omega
      by_cases he : s[k] = c
      · have heI : (s[k].toNat : Int) = (c.toNat : Int) := by rw [he]
        have hz : Hid (b = true) := Lib.hid (by
          rw [hb.out, decide_eq_true_eq, ← he]
          exact List.getElem_mem (l := s.data.toList) hlt)
        clear he
        go_wp2
        go_ret
        exact ⟨by rw [hz.out]; rfl, rfl⟩
      · have heI := toNat_ne he
        have hst : Hid (c ∉ s.data.toList.take (k + 1)) := Lib.hid (by
          rw [take_snoc s k hlt, List.mem_append]
          intro h
          rcases h with h | h
          · exact HNO.out h
          · exact he (List.mem_singleton.1 h).symm)
        clear he
        go_wp2
        go_roundw
        case rel => exact ⟨k + 1, by omega, by first | rfl | simp | go_num, hst.out, trivial⟩
        case measure => simp [intOf]; omega
    · have hltI : ¬ (k : Int) < (s.size : Int) := by omega
      have hz : Hid (b = false) := Lib.hid (by
        rw [hb.out]
        have h := HNO.out
        rw [List.take_of_length_le (by omega)] at h
        exact decide_eq_false h)
      go_wp2
      go_ret
      exact ⟨by rw [hz.out]; rfl, rfl⟩
set_option maxRecDepth 100000 in
set_option maxHeartbeats 1000000 in
theorem deep_any (s : ByteArray) (hs : s.size ≤ 1000000) (w : World) : Calls Try.prog 43 #[.string s] w fun e w' => e = .returned (.int .i64 (deepL s.data.toList : Int)) ∧ w' = w := by
  obtain ⟨b, hb⟩ : ∃ b, Hid (b = deepL s.data.toList) := ⟨_, Lib.hid rfl⟩
  rw [← hb.out]
  have hsl : s.data.toList.length = s.size := rfl
  go_enter Try.func43, Try.ntmps43
  go_wp2
  go_loopw [3, 4] (fun n i wr => ∃ k q : Nat, k ≤ s.size ∧ q ≤ k ∧ n = .int .i64 ((1 + q : Nat) : Int) ∧ i = .int .i64 k ∧ (s.data.toList.take k).count 47 = q ∧ wr = w) (fun n i _ => s.size - (intOf i).toNat)
  case atStart => exact ⟨0, 0, Nat.zero_le _, Nat.le_refl _, rfl, rfl, by simp, rfl⟩
  case round =>
    obtain ⟨k, q, hk, hq, rfl, rfl, hno, rfl⟩ := hrel
    have HNO := Lib.hid hno
    clear hno
    by_cases hlt : k < s.size
    · have hltI : (k : Int) < (s.size : Int) := by omega
      have hst : Hid ((s.data.toList.take (k + 1)).count 47 = q + if s[k] = 47 then 1 else 0) := Lib.hid (by
        rw [take_snoc s k hlt, List.count_append, HNO.out, List.count_cons, List.count_nil]
        by_cases h : s[k] = 47
        · rw [if_pos h, if_pos (by simpa using h)]
        · rw [if_neg h, if_neg (by simpa using h)])
      by_cases he : s[k] = 47
      · have heI : (s[k].toNat : Int) = 47 := by rw [he]; rfl
        rw [if_pos he] at hst
        clear he
        go_wp2
        go_roundw
        case rel => exact ⟨k + 1, q + 1, by omega, by omega, by first | rfl | simp | go_num | (congr 1; omega), by first | rfl | simp | go_num, hst.out, trivial⟩
        case measure => simp [intOf]; omega
      · have heI : ¬ (s[k].toNat : Int) = 47 := fun e => he (UInt8.toNat_inj.1 (by show _ = 47; omega))
        rw [if_neg he] at hst
        clear he
        go_wp2
        go_roundw
        case rel => exact ⟨k + 1, q, by omega, by omega, by first | rfl | simp | go_num, by first | rfl | simp | go_num, hst.out, trivial⟩
        case measure => simp [intOf]; omega
    · have hltI : ¬ (k : Int) < (s.size : Int) := by omega
      have hz : Hid (b = 1 + q) := Lib.hid (by
        rw [hb.out]
        have h := HNO.out
        rw [List.take_of_length_le (by omega)] at h
        unfold deepL
        rw [h])
      go_wp2
      go_ret
      exact ⟨by rw [hz.out]; rfl, rfl⟩
theorem cut_at (a n : List UInt8) (hn : 47 ∉ n) : cutL (a ++ 47 :: n) = (a, n) := by
  unfold cutL
  rw [if_pos (by simp)]
  have hr : (a ++ 47 :: n).reverse = n.reverse ++ 47 :: a.reverse := by simp
  rw [hr, tw_app _ (by simpa using hn), List.reverse_reverse]
  have hl : (a ++ 47 :: n).length - n.length - 1 = a.length := by rw [List.length_append, List.length_cons]; omega
  simp only [hl, List.take_left']
theorem cut_none (s : List UInt8) (h : 47 ∉ s) : cutL s = ([], s) := by
  unfold cutL
  rw [if_neg h]
theorem results_tmps {fn : Func} {a b : Tmp} (h : fn.results = #[.tmp a, .tmp b]) (tmps : Array Value) (P : Program) (w : World) : (results fn tmps).run P w = .ok (.tuple #[tmps.getD a undef, tmps.getD b undef]) w := by
  unfold results
  rw [h]
  simp [Array.mapM_eq_mapM_toList]
def strV (l : List UInt8) : Value := .string ⟨l.toArray⟩
theorem list_split (l : List UInt8) (k : Nat) (h : k < l.length) : l = l.take k ++ l[k] :: l.drop (k + 1) := by
  rw [← List.drop_eq_getElem_cons h, List.take_append_drop]
theorem bytes_eta (s : ByteArray) : s = ⟨s.data.toList.toArray⟩ := by cases s; rfl
theorem ext_take (s : ByteArray) (k : Nat) : s.extract 0 k = ⟨(s.data.toList.take k).toArray⟩ := by
  apply ByteArray.ext
  apply Array.toList_inj.1
  simp only [ByteArray.data_extract, Array.toList_extract, List.extract, List.drop_zero, Nat.sub_zero]
theorem ext_drop (s : ByteArray) (k n : Nat) (h : n = s.size) : s.extract k n = ⟨(s.data.toList.drop k).toArray⟩ := by
  apply ByteArray.ext
  apply Array.toList_inj.1
  have hl : s.data.toList.length = s.size := rfl
  simp only [ByteArray.data_extract, Array.toList_extract, List.extract]
  rw [List.take_of_length_le (by rw [List.length_drop]; omega)]
set_option maxRecDepth 100000 in
set_option maxHeartbeats 1000000 in
theorem cut_any (s : ByteArray) (hs : s.size ≤ 1000000) (w : World) : Calls Try.prog 41 #[.string s] w fun e w' => e = .returned (.tuple #[strV (cutL s.data.toList).1, strV (cutL s.data.toList).2]) ∧ Below w.heap.size w w' := by
  obtain ⟨b, hb⟩ : ∃ b, Hid (b = cutL s.data.toList) := ⟨_, Lib.hid rfl⟩
  rw [← hb.out]
  have hsl : s.data.toList.length = s.size := rfl
  go_enter Try.func41, Try.ntmps41
  go_wp2
  go_loopw [4] (fun i wr => ∃ k : Nat, k ≤ s.size ∧ i = .int .i64 ((k : Int) - 1) ∧ 47 ∉ s.data.toList.drop k ∧ wr = w) (fun i _ => (intOf i + 1).toNat)
  case atStart => exact ⟨s.size, Nat.le_refl _, by first | rfl | simp | go_num, by rw [List.drop_of_length_le (by omega)]; simp, rfl⟩
  case round =>
    obtain ⟨k, hk, rfl, hno, rfl⟩ := hrel
    have HNO := Lib.hid hno
    clear hno
    by_cases hlt : 0 < k
    · obtain ⟨j, rfl⟩ : ∃ j, k = j + 1 := ⟨k - 1, by omega⟩
      have hj : ((j + 1 : Nat) : Int) - 1 = (j : Int) := by omega
      rw [hj]
      have hltI : (j : Int) ≥ 0 := by omega
      have hjs : (j : Int) < (s.size : Int) := by omega
      have hjs2 : j < s.size := by omega
      by_cases he : s[j] = 47
      · have heI : (s[j].toNat : Int) = 47 := by rw [he]; rfl
        have hz : Hid (b = (s.data.toList.take j, s.data.toList.drop (j + 1))) := Lib.hid (by
          rw [hb.out]
          have h := list_split s.data.toList j hjs2
          rw [show s.data.toList[j] = 47 from he] at h
          conv => lhs; rw [h]
          exact cut_at _ _ HNO.out)
        clear he
        have h1 : ((j : Int) + 1) ≤ (s.size : Int) := by omega
        go_wp2
        go_region
        go_wp2
        exact ⟨rfl, _, results_tmps rfl _ _ _, by rw [hz.out]; show _ = Ending.returned (Value.tuple #[strV _, strV _]); unfold strV; rw [← ext_take, ← ext_drop s (j + 1) s.size rfl]; rfl, (Below.refl _ wr).drew⟩
      · have heI : ¬ (s[j].toNat : Int) = 47 := fun e => he (UInt8.toNat_inj.1 (by show _ = 47; omega))
        have hst : Hid (47 ∉ s.data.toList.drop j) := Lib.hid (by
          rw [List.drop_eq_getElem_cons (show j < s.data.toList.length from hjs2), List.mem_cons]
          intro h
          rcases h with h | h
          · exact he h.symm
          · exact HNO.out h)
        clear he
        go_wp2
        go_roundw
        case rel => exact ⟨j, by omega, by first | rfl | simp | go_num, hst.out, trivial⟩
        case measure => simp [intOf] <;> omega
    · obtain rfl : k = 0 := by omega
      have hz : Hid (b = ([], s.data.toList)) := Lib.hid (by
        rw [hb.out]
        exact cut_none _ HNO.out)
      go_wp2
      exact ⟨rfl, _, results_tmps rfl _ _ _, by rw [hz.out]; rfl, Below.refl _ wr⟩
end Go.Proofs.Ytglipljilcdboaa
/- A name in a directory, which names may be, as the document tells them. Its condition: a length that fits. -/
namespace Go.Proofs.Ytglipljilcdboaa
open Go.RowKit Go.Shelf
set_option linter.unusedVariables false
set_option linter.unusedSimpArgs false
theorem pre_iff (d p : List UInt8) : (d ++ [47]).isPrefixOf p = true ↔ ∃ h : d.length < p.length, p.take d.length = d ∧ p[d.length] = 47 := by
  rw [List.isPrefixOf_iff_prefix]
  constructor
  · rintro ⟨t, rfl⟩
    refine ⟨by simp, by simp, by simp⟩
  · rintro ⟨h, h1, h2⟩
    refine ⟨p.drop (d.length + 1), ?_⟩
    have := list_split p d.length h
    rw [h1, h2] at this
    rw [List.append_assoc]
    exact this.symm
theorem nonempty_str {d : ByteArray} (h : d.data.toList ≠ []) : (!d.toList.isEmpty) = true := by
  rw [ByteArray.toList_eq]
  cases hd : d.data.toList with
  | nil => exact absurd hd h
  | cons a l => rfl
set_option maxRecDepth 100000 in
set_option maxHeartbeats 1000000 in
theorem name_any (p d : ByteArray) (hs : p.size ≤ 1000000) (hd : d.size ≤ 1000000) (w : World) : Calls Try.prog 45 #[.string p, .string d] w fun e w' => e = .returned (strV (nameL p.data.toList d.data.toList)) ∧ w' = w := by
  obtain ⟨b, hb⟩ : ∃ b, Hid (b = nameL p.data.toList d.data.toList) := ⟨_, Lib.hid rfl⟩
  rw [← hb.out]
  have HH : Hid (∀ (q : ByteArray) w, q.size ≤ 1000000 → Calls Try.prog 56 #[.string q, .int .u8 47] w fun e w' => e = .returned (.bool (decide (47 ∈ q.data.toList))) ∧ w' = w) := Lib.hid (fun q w h => has_any q 47 (by omega) w)
  by_cases h0 : d = ⟨#[]⟩
  · subst h0
    have hz : Hid (b = if 47 ∈ p.data.toList then [] else p.data.toList) := Lib.hid (by rw [hb.out]; rfl)
    go_enter Try.func45, Try.ntmps45
    go_wp2_with fail
    with_reducible refine (HH.out p _ hs).mono ?_
    rintro e w2 ⟨rfl, rfl⟩
    by_cases h47 : 47 ∈ p.data.toList
    · rw [if_pos h47] at hz
      rw [decide_eq_true h47]
      go_wp2_with fail
      go_ret
      exact ⟨by rw [hz.out]; rfl, rfl⟩
    · rw [if_neg h47] at hz
      rw [decide_eq_false h47]
      go_wp2_with fail
      go_ret
      exact ⟨by rw [hz.out]; rfl, rfl⟩
  · have h0L : d.data.toList ≠ [] := fun e => h0 (by rw [bytes_eta d, e])
    have hE := nonempty_str h0L
    have hpl : p.data.toList.length = p.size := rfl
    have hdl : d.data.toList.length = d.size := rfl
    by_cases hA : d.size < p.size
    · by_cases hB : p.data.toList.take d.size = d.data.toList
      · have hBt : (p.extract 0 d.size).toList = d.toList := by rw [ByteArray.toList_eq, ByteArray.toList_eq, ext_take]; exact hB
        by_cases hC : p[d.size] = 47
        · have hCI : (p[d.size].toNat : Int) = 47 := by rw [hC]; rfl
          have hpre : (d.data.toList ++ [47]).isPrefixOf p.data.toList = true := (pre_iff _ _).2 ⟨hA, hB, hC⟩
          obtain ⟨q, hq⟩ : ∃ q, q = p.extract (d.size + 1) p.size := ⟨_, rfl⟩
          have hqL : q.data.toList = p.data.toList.drop (d.size + 1) := by rw [hq, ext_drop p (d.size + 1) p.size rfl]
          have hqs : q.size ≤ 1000000 := by rw [hq, ByteArray.size_extract]; omega
          have hz : Hid (b = if 47 ∈ q.data.toList then [] else q.data.toList) := Lib.hid (by
            rw [hb.out]
            unfold nameL
            rw [if_neg h0L, if_pos hpre, hqL]; rfl)
          have hI : ((d.size : Int) + 1) ≤ (p.size : Int) := by omega
          have hq2 : p.extract (d.size + 1) p.size = q := hq.symm
          clear hC hB hpre h0 h0L hq
          go_enter Try.func45, Try.ntmps45
          go_wp2_with fail
          try rw [hq2]
          with_reducible refine (HH.out q _ hqs).mono ?_
          rintro e w2 ⟨rfl, rfl⟩
          by_cases h47 : 47 ∈ q.data.toList
          · rw [if_pos h47] at hz
            rw [decide_eq_true h47]
            go_wp2_with fail
            go_ret
            exact ⟨by rw [hz.out]; rfl, rfl⟩
          · rw [if_neg h47] at hz
            rw [decide_eq_false h47]
            go_wp2_with fail
            go_ret
            exact ⟨by rw [hz.out]; rfl, rfl⟩
        · have hCI : ¬ (p[d.size].toNat : Int) = 47 := fun e => hC (UInt8.toNat_inj.1 (by show _ = 47; omega))
          have hz : Hid (b = []) := Lib.hid (by
            rw [hb.out]
            unfold nameL
            rw [if_neg h0L, if_neg (fun h => by obtain ⟨_, _, h3⟩ := (pre_iff _ _).1 h; exact hC h3)])
          have hCI2 : ((p[d.size].toNat : Int) != 47) = true := by rw [bne_iff_ne]; exact hCI
          clear hC hB h0 h0L
          go_enter Try.func45, Try.ntmps45
          go_wp2_with fail
          go_ret
          exact ⟨by rw [hz.out]; rfl, rfl⟩
      · have hBt : ¬ (p.extract 0 d.size).toList = d.toList := by rw [ByteArray.toList_eq, ByteArray.toList_eq, ext_take]; exact hB
        have hz : Hid (b = []) := Lib.hid (by
          rw [hb.out]
          unfold nameL
          rw [if_neg h0L, if_neg (fun h => by obtain ⟨_, h2, _⟩ := (pre_iff _ _).1 h; exact hB h2)])
        clear hB h0 h0L
        go_enter Try.func45, Try.ntmps45
        go_wp2_with fail
        go_ret
        exact ⟨by rw [hz.out]; rfl, rfl⟩
    · have hz : Hid (b = []) := Lib.hid (by
        rw [hb.out]
        unfold nameL
        rw [if_neg h0L, if_neg (fun h => by obtain ⟨h1, _, _⟩ := (pre_iff _ _).1 h; exact hA h1)])
      have hA2 : p.size ≤ d.size := by omega
      clear h0 h0L
      go_enter Try.func45, Try.ntmps45
      go_wp2_with fail
      go_ret
      exact ⟨by rw [hz.out]; rfl, rfl⟩
set_option maxRecDepth 100000 in
set_option maxHeartbeats 1000000 in
theorem mayName_any (s : ByteArray) (hs : s.size ≤ 1000000) (w : World) : Calls Try.prog 42 #[.string s] w fun e w' => e = .returned (.bool (mayNameL s.data.toList)) ∧ w' = w := by
  obtain ⟨b, hb⟩ : ∃ b, Hid (b = mayNameL s.data.toList) := ⟨_, Lib.hid rfl⟩
  rw [← hb.out]
  have hsl : s.data.toList.length = s.size := rfl
  have H0 : Hid (∀ w, Calls Try.prog 56 #[.string s, .int .u8 0] w fun e w' => e = .returned (.bool (decide (0 ∈ s.data.toList))) ∧ w' = w) := Lib.hid (fun w => has_any s 0 (by omega) w)
  have H4 : Hid (∀ w, Calls Try.prog 56 #[.string s, .int .u8 47] w fun e w' => e = .returned (.bool (decide (47 ∈ s.data.toList))) ∧ w' = w) := Lib.hid (fun w => has_any s 47 (by omega) w)
  go_enter Try.func42, Try.ntmps42
  by_cases h1 : s.size ≥ 1
  · by_cases h2 : s.size ≤ 255
    · go_wp2_with fail
      with_reducible refine (H0.out _).mono ?_
      rintro e w2 ⟨rfl, rfl⟩
      by_cases h0 : 0 ∈ s.data.toList
      · rw [decide_eq_true h0]
        have hz : Hid (b = false) := Lib.hid (by rw [hb.out]; simp [mayNameL, h0])
        clear h0
        go_wp2_with fail
        go_ret
        exact ⟨by rw [hz.out]; rfl, rfl⟩
      · rw [decide_eq_false h0]
        have h0H := Lib.hid h0
        clear h0
        go_wp2_with fail
        with_reducible refine (H4.out _).mono ?_
        rintro e w3 ⟨rfl, rfl⟩
        by_cases h47 : 47 ∈ s.data.toList
        · rw [decide_eq_true h47]
          have hz : Hid (b = false) := Lib.hid (by rw [hb.out]; simp [mayNameL, h47])
          clear h47
          go_wp2_with fail
          go_ret
          exact ⟨by rw [hz.out]; rfl, rfl⟩
        · rw [decide_eq_false h47]
          have h47H := Lib.hid h47
          clear h47
          by_cases hp : s.toList = [46]
          · have hz : Hid (b = false) := Lib.hid (by
              rw [hb.out]
              rw [ByteArray.toList_eq] at hp
              rw [hp]
              decide)
            go_wp2_with fail
            go_ret
            exact ⟨by rw [hz.out]; rfl, rfl⟩
          · have hz : Hid (b = (!s.toList == [46] && !s.toList == [46, 46])) := Lib.hid (by
              rw [hb.out, ByteArray.toList_eq]
              simp [mayNameL, h0H.out, h47H.out, show 1 ≤ s.size from h1, show s.size ≤ 255 from h2])
            go_wp2_with fail
            go_ret
            exact ⟨by rw [hz.out]; rfl, rfl⟩
    · have hz : Hid (b = false) := Lib.hid (by rw [hb.out]; simp only [mayNameL]; rw [decide_eq_false (show ¬ s.data.toList.length ≤ 255 from h2)]; simp)
      go_wp2_with fail
      go_ret
      exact ⟨by rw [hz.out]; rfl, rfl⟩
  · have hz : Hid (b = false) := Lib.hid (by rw [hb.out]; simp only [mayNameL]; rw [decide_eq_false (show ¬ 1 ≤ s.data.toList.length from h1)]; simp)
    go_wp2_with fail
    go_ret
    exact ⟨by rw [hz.out]; rfl, rfl⟩
end Go.Proofs.Ytglipljilcdboaa
