/- Several texts, one behind the other; each says by itself what it proves, and on what conditions. -/
import Derived.Test.YtglipljilcdboaaU07
import Derived.KernelRfl
/- The engine: rows under other numbers (a round that makes a row anew). No condition of its own. -/
namespace Go.Proofs.Ytglipljilcdboaa.E
set_option linter.unusedSimpArgs false
open Go Go.RowKit
set_option linter.unusedVariables false
def isLf : TV → Bool
  | .s (.lf _) => true
  | _ => false
def TV.renS (m : List (Nat × Nat)) : TV → TV
  | .s (.lf x) => .s (.lf (x.ren m))
  | y => y
theorem findT_map {g : TV → TV} {t : Nat} : ∀ {l : List (Nat × TV)} {x : TV}, findT l t = some x → findT (l.map fun p => (p.1, g p.2)) t = some (g x)
  | [], _, h => by cases h
  | p :: l, x, h => by
    unfold findT at h
    rw [List.map_cons]
    unfold findT
    cases hb : Nat.beq p.1 t with
    | true => rw [hb] at h; cases h; rfl
    | false => rw [hb] at h; exact findT_map (l := l) h
/-- Rows under other numbers (m: a row's number there, its number here). -/
theorem At.ren {r : Option Nat} {mk : List Nat} {P : Program} {w0 : World} {wr : Bs} {n : Nat} {gl : List Nat} {todo : List Item} {Q : Exit → Act → World → Prop} (m : List (Nat × Nat)) (tm2 : List (Nat × TV)) (rows2 : List (Nat × Row))
    (hlf : tm2.all (fun p => isLf p.2) = true) (hid : idsOk tm2 rows2 gl = true) (hmo : renOk m wr.k = true) (hnd : nodupB (rows2.map fun p => renL m p.1) = true) (h5 : wr.k.all (hasN (rows2.map (·.1) ++ gl.map (500 + ·))) = true)
    (h : At P w0 wr n gl todo Q tm2 rows2 r mk) : At P w0 wr n gl todo Q (tm2.map fun p => (p.1, p.2.renS m)) (rows2.map fun p => (renL m p.1, p.2.ren m)) r mk := by
  intro a w ρ hd
  have hN := nodupB_ok hnd
  have hinj : ∀ p ∈ rows2, ∀ q ∈ rows2, renL m p.1 = renL m q.1 → p.1 = q.1 := by
    clear hid h5 h hd hnd
    induction rows2 with
    | nil => intro p hp; cases hp
    | cons x l ih =>
      rw [List.map_cons, List.nodup_cons] at hN
      intro p hp q hq he
      rcases List.mem_cons.1 hp with e1 | hp <;> rcases List.mem_cons.1 hq with e2 | hq
      · rw [e1, e2]
      · exact absurd (List.mem_map.2 ⟨q, hq, by rw [← he, e1]⟩) hN.1
      · exact absurd (List.mem_map.2 ⟨p, hp, by rw [he, e2]⟩) hN.1
      · exact ih hN.2 p hp q hq he
  have hrow : ∀ q y, findR rows2 q = some y → (q, y) ∈ rows2 ∧ findR (rows2.map fun p => (renL m p.1, p.2.ren m)) (renL m q) = some (y.ren m) := fun q y hy => by
    have hm := findR_mem hy
    refine ⟨hm, ?_⟩
    have hN2 : ((rows2.map fun p => (renL m p.1, p.2.ren m)).map (·.1)).Nodup := by rw [List.map_map]; exact hN
    exact findR_nodup (p := (renL m q, y.ren m)) hN2 (List.mem_map.2 ⟨_, hm, rfl⟩)
  have hids := hid
  unfold idsOk at hids
  rw [Bool.and_eq_true] at hids
  refine h a w (fun q => ρ (renL m q)) ⟨hd.sz, hd.df, hd.mf, hd.ko, fun t x hx => ?_, fun q y hy => ?_, fun q u y z hy hz hqu hw => ?_, hd.fr, fun q hq => ?_, fun q hq => List.all_eq_true.1 h5 q hq, fun g hg hu => ?_, fun q B hq => by cases hq⟩
  · have hp := findT_mem hx
    obtain ⟨g1, g2, _⟩ := hd.tm t _ (findT_map (g := TV.renS m) hx)
    have hl : isLf x = true := List.all_eq_true.1 hlf _ hp
    have hu : x.ids.all (hasN (rows2.map (·.1) ++ gl.map (500 + ·))) = true := List.all_eq_true.1 hids.1 _ hp
    cases x with
    | tup _ => cases hl
    | s sv =>
      cases sv with
      | lf x =>
        refine ⟨by rw [g1]; show some ((Lf.ren m x).val ρ) = _; rw [Lf.ren_val]; rfl, ?_, fun q hq => List.all_eq_true.1 hu q hq⟩
        cases x <;> exact g2
      | agg _ => cases hl
      | un => cases hl
  · obtain ⟨hm, hf⟩ := hrow q y hy
    obtain ⟨g1, g2, g3, g4, g5⟩ := hd.rw _ _ hf
    refine ⟨RowAt.ren g1, pok_ren g2, hasN_iff.2 (List.mem_append.2 (.inl (List.mem_map.2 ⟨_, hm, rfl⟩))), fun u hu => ?_, g5⟩
    exact List.all_eq_true.1 (List.all_eq_true.1 hids.2 _ hm) u hu
  · obtain ⟨hm, hf⟩ := hrow q y hy
    obtain ⟨hm2, hf2⟩ := hrow u z hz
    exact hd.ds _ _ _ _ hf hf2 (fun e => hqu (hinj _ hm _ hm2 e)) hw
  · show ρ (renL m q) = _
    rw [renL_fix hmo hq]
    exact hd.e0 q hq
  · show ρ (renL m (500 + g)) = _
    rw [renL_fix hmo (.inl (by omega))]
    refine hd.gl g hg ?_
    rcases List.mem_append.1 (hasN_iff.1 hu) with hu | hu
    · obtain ⟨p, hp, e⟩ := List.mem_map.1 hu
      refine hasN_iff.2 (List.mem_append.2 (.inl ?_))
      rw [List.map_map]
      exact List.mem_map.2 ⟨p, hp, by show renL m p.1 = _; rw [e, renL_fix hmo (.inl (by omega))]⟩
    · exact hasN_iff.2 (List.mem_append.2 (.inr hu))
end Go.Proofs.Ytglipljilcdboaa.E
/- Trees as lists of nodes: names, what may be, words, texts with what fills them, the bytes of a tree as the document makes them; two trees have two packings. No condition but what each names. -/
namespace Go.Proofs.Ytglipljilcdboaa
set_option linter.unusedSimpArgs false
set_option linter.unusedVariables false
/-- A node. -/
structure Nd where
  path : List UInt8
  kind : Int
  data : List UInt8
theorem Nd.ext' {a b : Nd} (h1 : a.path = b.path) (h2 : a.kind = b.kind) (h3 : a.data = b.data) : a = b := by
  cases a; cases b; simp_all
/-- Eight bytes of a number, the lowest first. -/
def wordL (n : Nat) : List UInt8 := [UInt8.ofNat n, UInt8.ofNat (n / 256), UInt8.ofNat (n / 65536), UInt8.ofNat (n / 16777216), UInt8.ofNat (n / 4294967296), UInt8.ofNat (n / 1099511627776), UInt8.ofNat (n / 281474976710656), UInt8.ofNat (n / 72057594037927936)]
theorem wordL_len (n : Nat) : (wordL n).length = 8 := rfl
theorem u8_of {a b : Nat} (h : UInt8.ofNat a = UInt8.ofNat b) : a % 256 = b % 256 := by
  have := congrArg UInt8.toNat h
  simpa using this
theorem wordL_inj {a b : Nat} (ha : a < 18446744073709551616) (hb : b < 18446744073709551616) (h : wordL a = wordL b) : a = b := by
  unfold wordL at h
  simp only [List.cons.injEq, and_true] at h
  obtain ⟨h0, h1, h2, h3, h4, h5, h6, h7⟩ := h
  have e0 := u8_of h0
  have e1 := u8_of h1
  have e2 := u8_of h2
  have e3 := u8_of h3
  have e4 := u8_of h4
  have e5 := u8_of h5
  have e6 := u8_of h6
  have e7 := u8_of h7
  clear h0 h1 h2 h3 h4 h5 h6 h7
  omega
/-- How many noughts fill a text. -/
def fillN (n : Nat) : Nat := (8 - n % 8) % 8
/-- A text with its length ahead, and what fills it. -/
def strL (s : List UInt8) : List UInt8 := wordL s.length ++ (s ++ List.replicate (fillN s.length) 0)
theorem strL_len (s : List UInt8) : (strL s).length = 8 + (s.length + fillN s.length) := by simp [strL, wordL_len]
theorem strL_mod (s : List UInt8) : (strL s).length % 8 = 0 := by
  rw [strL_len]
  unfold fillN
  omega
theorem app_inj {α : Type} {a b x y : List α} (h : a ++ x = b ++ y) (hl : a.length = b.length) : a = b ∧ x = y := List.append_inj h hl
theorem strL_inj {a b x y : List UInt8} (ha : a.length < 18446744073709551616) (hb : b.length < 18446744073709551616) (h : strL a ++ x = strL b ++ y) : a = b ∧ x = y := by
  unfold strL at h
  simp only [List.append_assoc] at h
  obtain ⟨h1, h2⟩ := app_inj h (by rw [wordL_len, wordL_len])
  have hl := wordL_inj ha hb h1
  rw [hl] at h2
  obtain ⟨h3, h4⟩ := app_inj h2 hl
  exact ⟨h3, (app_inj h4 rfl).2⟩
/-- Texts, one behind the other. -/
def strsL (l : List (List UInt8)) : List UInt8 := l.flatMap strL
theorem strsL_nil : strsL [] = [] := rfl
theorem strsL_cons (a : List UInt8) (l : List (List UInt8)) : strsL (a :: l) = strL a ++ strsL l := rfl
theorem strsL_mod : ∀ l : List (List UInt8), (strsL l).length % 8 = 0
  | [] => rfl
  | a :: l => by
    rw [strsL_cons, List.length_append]
    have := strL_mod a
    have := strsL_mod l
    omega
def mayNameL (s : List UInt8) : Bool := decide (1 ≤ s.length) && decide (s.length ≤ 255) && !s.contains 0 && !s.contains 47 && !(s == [46]) && !(s == [46, 46])
/-- The place of a name in a path: what is ahead of the last stroke, and what is behind. -/
def cutL (s : List UInt8) : List UInt8 × List UInt8 :=
  let b := (s.reverse.takeWhile (· != 47)).reverse
  if 47 ∈ s then (s.take (s.length - b.length - 1), b) else ([], s)
def deepL (s : List UInt8) : Nat := 1 + s.count 47
def mayDataL (n : Nd) : Bool :=
  if n.kind = 1 ∨ n.kind = 2 then decide (n.data.length ≤ 65536)
  else if n.kind = 3 then decide (1 ≤ n.data.length) && decide (n.data.length ≤ 4096) && !n.data.contains 0
  else if n.kind = 4 then decide (n.data = [])
  else false
/-- The name of what stands in a directory; empty: it does not. -/
def nameL (path dir : List UInt8) : List UInt8 :=
  if dir = [] then (if 47 ∈ path then [] else path)
  else if (dir ++ [47]).isPrefixOf path then (if 47 ∈ path.drop (dir.length + 1) then [] else path.drop (dir.length + 1))
  else []
def joinL (dir n : List UInt8) : List UInt8 := if dir = [] then n else dir ++ 47 :: n
theorem pre_drop {d p : List UInt8} (h : (d ++ [47]).isPrefixOf p = true) : p = d ++ 47 :: p.drop (d.length + 1) := by
  obtain ⟨t, ht⟩ := List.isPrefixOf_iff_prefix.1 h
  rw [← ht]
  simp
theorem name_join {p d : List UInt8} (h : nameL p d ≠ []) : p = joinL d (nameL p d) ∧ 47 ∉ nameL p d := by
  unfold nameL joinL at *
  by_cases hd : d = []
  · rw [if_pos hd] at h ⊢
    rw [if_pos hd]
    by_cases h47 : (47 : UInt8) ∈ p
    · rw [if_pos h47] at h; exact absurd rfl h
    · rw [if_neg h47]; exact ⟨rfl, h47⟩
  · rw [if_neg hd] at h ⊢
    rw [if_neg hd]
    by_cases hp : (d ++ [47]).isPrefixOf p = true
    · rw [if_pos hp] at h ⊢
      by_cases h47 : (47 : UInt8) ∈ p.drop (d.length + 1)
      · rw [if_pos h47] at h; exact absurd rfl h
      · rw [if_neg h47]; exact ⟨pre_drop hp, h47⟩
    · rw [if_neg hp] at h; exact absurd rfl h
theorem name_of_join (d n : List UInt8) (hn : 47 ∉ n) : nameL (joinL d n) d = n := by
  unfold nameL joinL
  by_cases hd : d = []
  · rw [if_pos hd, if_pos hd, if_neg hn]
  · rw [if_neg hd, if_neg hd]
    have hp : (d ++ [47]).isPrefixOf (d ++ 47 :: n) = true := List.isPrefixOf_iff_prefix.2 ⟨n, by simp⟩
    have e : (d ++ 47 :: n).drop (d.length + 1) = n := by simp
    rw [if_pos hp, e, if_neg hn]
/-- One text is below another one, letter by letter. -/
def ltL : List UInt8 → List UInt8 → Bool
  | _, [] => false
  | [], _ :: _ => true
  | a :: l, b :: m => if a < b then true else if a = b then ltL l m else false
mutual
/-- What is left behind a node and all that is below it, as long as names rise. -/
def restU : Nat → Nd → List Nd → List Nd
  | 0, _, r => r
  | f + 1, d, r => if d.kind = 4 then loopU f d.path [] r else r
/-- What is left behind all that stands in a directory, from a name on. -/
def loopU : Nat → List UInt8 → List UInt8 → List Nd → List Nd
  | 0, _, _, r => r
  | _ + 1, _, _, [] => []
  | f + 1, p, last, c :: r => if nameL c.path p = [] ∨ ltL last (nameL c.path p) = false then c :: r else loopU f p (nameL c.path p) (restU f c r)
end
theorem restU_succ (f : Nat) (d : Nd) (r : List Nd) : restU (f + 1) d r = if d.kind = 4 then loopU f d.path [] r else r := by rw [restU]
theorem loopU_nil (f : Nat) (p last : List UInt8) : loopU (f + 1) p last [] = [] := by rw [loopU]
theorem loopU_cons (f : Nat) (p last : List UInt8) (c : Nd) (r : List Nd) : loopU (f + 1) p last (c :: r) = if nameL c.path p = [] ∨ ltL last (nameL c.path p) = false then c :: r else loopU f p (nameL c.path p) (restU f c r) := by rw [loopU]
theorem rest_len : ∀ f, (∀ d r, (restU f d r).length ≤ r.length) ∧ (∀ p last r, (loopU f p last r).length ≤ r.length)
  | 0 => ⟨fun d r => by rw [restU]; exact Nat.le_refl _, fun p last r => by rw [loopU]; exact Nat.le_refl _⟩
  | f + 1 => by
    obtain ⟨h1, h2⟩ := rest_len f
    constructor
    · intro d r
      rw [restU_succ]
      split
      · exact h2 _ _ _
      · exact Nat.le_refl _
    · intro p last r
      cases r with
      | nil => rw [loopU_nil]; exact Nat.le_refl _
      | cons c r =>
        rw [loopU_cons]
        split
        · exact Nat.le_refl _
        · exact Nat.le_trans (h2 _ _ _) (Nat.le_trans (h1 _ _) (Nat.le_succ _))
theorem rest_suf : ∀ f, (∀ d r, restU f d r <:+ r) ∧ (∀ p last r, loopU f p last r <:+ r)
  | 0 => ⟨fun d r => by rw [restU]; exact List.suffix_refl _, fun p last r => by rw [loopU]; exact List.suffix_refl _⟩
  | f + 1 => by
    obtain ⟨h1, h2⟩ := rest_suf f
    constructor
    · intro d r
      rw [restU_succ]
      split
      · exact h2 _ _ _
      · exact List.suffix_refl _
    · intro p last r
      cases r with
      | nil => rw [loopU_nil]; exact List.suffix_refl _
      | cons c r =>
        rw [loopU_cons]
        split
        · exact List.suffix_refl _
        · exact (h2 _ _ _).trans ((h1 _ _).trans (List.suffix_cons _ _))
theorem rest_mem (f : Nat) (d : Nd) (r : List Nd) : ∀ e ∈ restU f d r, e ∈ r := fun e he => ((rest_suf f).1 d r).mem he
theorem rest_fuel : ∀ f g, (∀ d r, 2 * r.length + 2 ≤ f → 2 * r.length + 2 ≤ g → restU f d r = restU g d r) ∧ (∀ p last r, 2 * r.length + 1 ≤ f → 2 * r.length + 1 ≤ g → loopU f p last r = loopU g p last r)
  | 0, g => ⟨fun d r h => by omega, fun p last r h => by omega⟩
  | f + 1, 0 => ⟨fun d r _ h => by omega, fun p last r _ h => by omega⟩
  | f + 1, g + 1 => by
    obtain ⟨h1, h2⟩ := rest_fuel f g
    constructor
    · intro d r hf hg
      rw [restU_succ, restU_succ]
      split
      · exact h2 _ _ _ (by omega) (by omega)
      · rfl
    · intro p last r hf hg
      cases r with
      | nil => rw [loopU_nil, loopU_nil]
      | cons c r =>
        simp only [List.length_cons] at hf hg
        have hl := (rest_len g).1 c r
        rw [loopU_cons, loopU_cons, h1 c r (by omega) (by omega)]
        split
        · rfl
        · exact h2 _ _ _ (by omega) (by omega)
def fuelN (l : List Nd) : Nat := 2 * l.length + 2
/-- Whether nodes are a tree. -/
def mayL (l : List Nd) : Bool := match l with
  | [] => false
  | d :: r => decide (r.length + 1 ≤ 256) && decide (d.path = []) && mayDataL d && r.all (fun c => mayNameL (cutL c.path).2 && decide (deepL c.path ≤ 64) && mayDataL c) && decide ((restU (fuelN r) d r).length = 0)
def tOpen : List UInt8 := [40]
def tClose : List UInt8 := [41]
def tType : List UInt8 := [116, 121, 112, 101]
def tReg : List UInt8 := [114, 101, 103, 117, 108, 97, 114]
def tCont : List UInt8 := [99, 111, 110, 116, 101, 110, 116, 115]
def tExec : List UInt8 := [101, 120, 101, 99, 117, 116, 97, 98, 108, 101]
def tSym : List UInt8 := [115, 121, 109, 108, 105, 110, 107]
def tTarg : List UInt8 := [116, 97, 114, 103, 101, 116]
def tDir : List UInt8 := [100, 105, 114, 101, 99, 116, 111, 114, 121]
def tEntry : List UInt8 := [101, 110, 116, 114, 121]
def tName : List UInt8 := [110, 97, 109, 101]
def tNode : List UInt8 := [110, 111, 100, 101]
def tMagic : List UInt8 := [110, 105, 120, 45, 97, 114, 99, 104, 105, 118, 101, 45, 49]
mutual
/-- The bytes of a node, and what is left behind all that is below it. -/
def bytU : Nat → Nd → List Nd → List UInt8 × List Nd
  | 0, _, r => ([], r)
  | f + 1, d, r =>
    if d.kind = 1 then (strsL [tOpen, tType, tReg, tCont, d.data, tClose], r)
    else if d.kind = 2 then (strsL [tOpen, tType, tReg, tExec, [], tCont, d.data, tClose], r)
    else if d.kind = 3 then (strsL [tOpen, tType, tSym, tTarg, d.data, tClose], r)
    else (strsL [tOpen, tType, tDir] ++ ((entU f d.path r).1 ++ strL tClose), (entU f d.path r).2)
/-- The bytes of all that stands in a directory, and what is left. -/
def entU : Nat → List UInt8 → List Nd → List UInt8 × List Nd
  | 0, _, r => ([], r)
  | _ + 1, _, [] => ([], [])
  | f + 1, p, c :: r => if nameL c.path p = [] then ([], c :: r) else
      (strsL [tEntry, tOpen, tName, nameL c.path p, tNode] ++ ((bytU f c r).1 ++ (strL tClose ++ (entU f p (bytU f c r).2).1)), (entU f p (bytU f c r).2).2)
end
theorem bytU_succ (f : Nat) (d : Nd) (r : List Nd) : bytU (f + 1) d r = if d.kind = 1 then (strsL [tOpen, tType, tReg, tCont, d.data, tClose], r) else if d.kind = 2 then (strsL [tOpen, tType, tReg, tExec, [], tCont, d.data, tClose], r) else if d.kind = 3 then (strsL [tOpen, tType, tSym, tTarg, d.data, tClose], r) else (strsL [tOpen, tType, tDir] ++ ((entU f d.path r).1 ++ strL tClose), (entU f d.path r).2) := by rw [bytU]
theorem entU_nil (f : Nat) (p : List UInt8) : entU (f + 1) p [] = ([], []) := by rw [entU]
theorem entU_stop (f : Nat) (p : List UInt8) (c : Nd) (r : List Nd) (h : nameL c.path p = []) : entU (f + 1) p (c :: r) = ([], c :: r) := by rw [entU, if_pos h]
theorem entU_cons (f : Nat) (p : List UInt8) (c : Nd) (r : List Nd) (h : nameL c.path p ≠ []) : entU (f + 1) p (c :: r) = (strsL [tEntry, tOpen, tName, nameL c.path p, tNode] ++ ((bytU f c r).1 ++ (strL tClose ++ (entU f p (bytU f c r).2).1)), (entU f p (bytU f c r).2).2) := by rw [entU, if_neg h]
theorem byt_len : ∀ f, (∀ d r, (bytU f d r).2.length ≤ r.length) ∧ (∀ p r, (entU f p r).2.length ≤ r.length)
  | 0 => ⟨fun d r => by rw [bytU]; exact Nat.le_refl _, fun p r => by rw [entU]; exact Nat.le_refl _⟩
  | f + 1 => by
    obtain ⟨h1, h2⟩ := byt_len f
    constructor
    · intro d r
      rw [bytU_succ]
      split
      · exact Nat.le_refl _
      split
      · exact Nat.le_refl _
      split
      · exact Nat.le_refl _
      · exact h2 _ _
    · intro p r
      cases r with
      | nil => rw [entU_nil]; exact Nat.le_refl _
      | cons c r =>
        by_cases hn : nameL c.path p = []
        · rw [entU_stop f p c r hn]; exact Nat.le_refl _
        · rw [entU_cons f p c r hn]
          exact Nat.le_trans (h2 _ _) (Nat.le_trans (h1 _ _) (Nat.le_succ _))
theorem byt_fuel : ∀ f g, (∀ d r, 2 * r.length + 2 ≤ f → 2 * r.length + 2 ≤ g → bytU f d r = bytU g d r) ∧ (∀ p r, 2 * r.length + 1 ≤ f → 2 * r.length + 1 ≤ g → entU f p r = entU g p r)
  | 0, g => ⟨fun d r h => by omega, fun p r h => by omega⟩
  | f + 1, 0 => ⟨fun d r _ h => by omega, fun p r _ h => by omega⟩
  | f + 1, g + 1 => by
    obtain ⟨h1, h2⟩ := byt_fuel f g
    constructor
    · intro d r hf hg
      rw [bytU_succ, bytU_succ, h2 d.path r (by omega) (by omega)]
    · intro p r hf hg
      cases r with
      | nil => rw [entU_nil, entU_nil]
      | cons c r =>
        simp only [List.length_cons] at hf hg
        by_cases hn : nameL c.path p = []
        · rw [entU_stop f p c r hn, entU_stop g p c r hn]
        · have hl := (byt_len g).1 c r
          rw [entU_cons f p c r hn, entU_cons g p c r hn, h1 c r (by omega) (by omega), h2 p (bytU g c r).2 (by omega) (by omega)]
/-- The bytes of a tree that may be. -/
def treeL (l : List Nd) : List UInt8 := match l with
  | [] => []
  | d :: r => strL tMagic ++ (bytU (fuelN r) d r).1
/-- The bytes of a tree; none, if it may not be. -/
def packL (l : List Nd) : Option (List UInt8) := if mayL l then some (treeL l) else none
/-- What stands somewhere below a directory. -/
def below (p q : List UInt8) : Prop := p = [] ∨ (p ++ [47]) <+: q
theorem join_below (p n : List UInt8) : below p (joinL p n) := by
  unfold below joinL
  by_cases h : p = []
  · exact .inl h
  · rw [if_neg h]; exact .inr ⟨n, by simp⟩
theorem below_join {p n q : List UInt8} (h : below (joinL p n) q) (hn : n ≠ []) : below p q := by
  unfold below joinL at *
  by_cases hp : p = []
  · exact .inl hp
  · rw [if_neg hp] at h
    rcases h with h | ⟨t, ht⟩
    · simp at h
    · exact .inr ⟨n ++ (47 :: t), by rw [← ht]; simp⟩
theorem join_not_below {p n m : List UInt8} (hn : n ≠ []) (hm : 47 ∉ m) : ¬ below (joinL p n) (joinL p m) := by
  unfold below joinL
  by_cases hp : p = []
  · rw [if_pos hp, if_pos hp]
    rintro (h | ⟨t, ht⟩)
    · exact hn h
    · apply hm; rw [← ht]; simp
  · rw [if_neg hp, if_neg hp]
    rintro (h | ⟨t, ht⟩)
    · simp at h
    · have : n ++ (47 :: t) = m := by simpa using ht
      apply hm; rw [← this]; simp
/-- What the rising names leave is what the bytes leave, if it stands no more below. -/
theorem same_rest : ∀ f, (∀ d r, 2 * r.length + 2 ≤ f → (d.kind = 1 ∨ d.kind = 2 ∨ d.kind = 3 ∨ d.kind = 4) → (∀ c ∈ r, c.kind = 1 ∨ c.kind = 2 ∨ c.kind = 3 ∨ c.kind = 4) → (∀ e r2, restU f d r = e :: r2 → ¬ below d.path e.path) → (bytU f d r).2 = restU f d r) ∧
    (∀ p last r, 2 * r.length + 1 ≤ f → (∀ c ∈ r, c.kind = 1 ∨ c.kind = 2 ∨ c.kind = 3 ∨ c.kind = 4) → (∀ e r2, loopU f p last r = e :: r2 → ¬ below p e.path) → (entU f p r).2 = loopU f p last r)
  | 0 => ⟨fun d r h => by omega, fun p last r h => by omega⟩
  | f + 1 => by
    obtain ⟨h1, h2⟩ := same_rest f
    constructor
    · intro d r hf hk hks hr
      rw [bytU_succ]
      rw [restU_succ] at hr ⊢
      rcases hk with k | k | k | k
      · rw [if_pos k, if_neg (by omega)]
      · rw [if_neg (by omega), if_pos k, if_neg (by omega)]
      · rw [if_neg (by omega), if_neg (by omega), if_pos k, if_neg (by omega)]
      · rw [if_neg (by omega), if_neg (by omega), if_neg (by omega), if_pos k]
        rw [if_pos k] at hr
        exact h2 d.path [] r (by omega) hks hr
    · intro p last r hf hks hr
      cases r with
      | nil => rw [entU_nil, loopU_nil]
      | cons c r =>
        simp only [List.length_cons] at hf
        rw [loopU_cons] at hr ⊢
        by_cases hn : nameL c.path p = []
        · rw [entU_stop f p c r hn, if_pos (.inl hn)]
        · obtain ⟨hj, h47⟩ := name_join hn
          by_cases hlt : ltL last (nameL c.path p) = false
          · exfalso
            rw [if_pos (.inr hlt)] at hr
            exact hr c r rfl (by rw [hj]; exact join_below _ _)
          · have hor : ¬ (nameL c.path p = [] ∨ ltL last (nameL c.path p) = false) := fun h => h.elim hn hlt
            rw [if_neg hor] at hr ⊢
            rw [entU_cons f p c r hn]
            have hl := (rest_len f).1 c r
            have hkc := hks c (by simp)
            have hkr : ∀ e ∈ r, e.kind = 1 ∨ e.kind = 2 ∨ e.kind = 3 ∨ e.kind = 4 := fun e he => hks e (List.mem_cons_of_mem _ he)
            have hb : (bytU f c r).2 = restU f c r := by
              refine h1 c r (by omega) hkc hkr ?_
              intro e r2 he hbe
              -- the head of what is left: either the loop stops there, or it is a name of p
              have hf2 : 1 ≤ f := by omega
              obtain ⟨g, rfl⟩ : ∃ g, f = g + 1 := ⟨f - 1, by omega⟩
              rw [he, loopU_cons] at hr
              by_cases hne : nameL e.path p = []
              · rw [if_pos (.inl hne)] at hr
                refine hr e r2 rfl (below_join (n := nameL c.path p) ?_ hn)
                rw [← hj]; exact hbe
              · obtain ⟨hje, h47e⟩ := name_join hne
                rw [hj, hje] at hbe
                exact join_not_below hn h47e hbe
            show (entU f p (bytU f c r).2).2 = loopU f p (nameL c.path p) (restU f c r)
            rw [hb]
            have hsub : ∀ e ∈ restU f c r, e.kind = 1 ∨ e.kind = 2 ∨ e.kind = 3 ∨ e.kind = 4 := by
              intro e he
              exact hkr e (rest_mem f c r e he)
            exact h2 p _ _ (by omega) hsub hr
/-- What a node of a tree that may be keeps. -/
def okN (c : Nd) : Prop := (c.kind = 1 ∨ c.kind = 2 ∨ c.kind = 3 ∨ c.kind = 4) ∧ c.data.length < 18446744073709551616 ∧ c.path.length < 18446744073709551616 ∧ (c.kind = 4 → c.data = [])
theorem name_len (p d : List UInt8) : (nameL p d).length ≤ p.length := by
  unfold nameL
  split
  · split <;> simp
  · split
    · split <;> simp
    · simp
theorem peel {a b x y : List UInt8} (h : strL a ++ x = strL b ++ y) (ha : a.length < 18446744073709551616 := by decide) (hb : b.length < 18446744073709551616 := by decide) : a = b ∧ x = y := strL_inj ha hb h
theorem byt_1 (f : Nat) (d : Nd) (r : List Nd) (x : List UInt8) (k : d.kind = 1) : (bytU (f + 1) d r).1 ++ x = strL tOpen ++ (strL tType ++ (strL tReg ++ (strL tCont ++ (strL d.data ++ (strL tClose ++ x))))) ∧ (bytU (f + 1) d r).2 = r := by
  rw [bytU_succ, if_pos k]
  exact ⟨by simp only [strsL_cons, strsL_nil, List.append_assoc, List.nil_append], rfl⟩
theorem byt_2 (f : Nat) (d : Nd) (r : List Nd) (x : List UInt8) (k : d.kind = 2) : (bytU (f + 1) d r).1 ++ x = strL tOpen ++ (strL tType ++ (strL tReg ++ (strL tExec ++ (strL [] ++ (strL tCont ++ (strL d.data ++ (strL tClose ++ x))))))) ∧ (bytU (f + 1) d r).2 = r := by
  rw [bytU_succ, if_neg (by omega), if_pos k]
  exact ⟨by simp only [strsL_cons, strsL_nil, List.append_assoc, List.nil_append], rfl⟩
theorem byt_3 (f : Nat) (d : Nd) (r : List Nd) (x : List UInt8) (k : d.kind = 3) : (bytU (f + 1) d r).1 ++ x = strL tOpen ++ (strL tType ++ (strL tSym ++ (strL tTarg ++ (strL d.data ++ (strL tClose ++ x))))) ∧ (bytU (f + 1) d r).2 = r := by
  rw [bytU_succ, if_neg (by omega), if_neg (by omega), if_pos k]
  exact ⟨by simp only [strsL_cons, strsL_nil, List.append_assoc, List.nil_append], rfl⟩
theorem byt_4 (f : Nat) (d : Nd) (r : List Nd) (x : List UInt8) (k : d.kind = 4) : (bytU (f + 1) d r).1 ++ x = strL tOpen ++ (strL tType ++ (strL tDir ++ ((entU f d.path r).1 ++ (strL tClose ++ x)))) ∧ (bytU (f + 1) d r).2 = (entU f d.path r).2 := by
  rw [bytU_succ, if_neg (by omega), if_neg (by omega), if_neg (by omega)]
  exact ⟨by simp only [strsL_cons, strsL_nil, List.append_assoc, List.nil_append], rfl⟩
theorem entU_form (f : Nat) (p : List UInt8) (c : Nd) (r : List Nd) (x : List UInt8) (h : nameL c.path p ≠ []) : (entU (f + 1) p (c :: r)).1 ++ x = strL tEntry ++ (strL tOpen ++ (strL tName ++ (strL (nameL c.path p) ++ (strL tNode ++ ((bytU f c r).1 ++ (strL tClose ++ ((entU f p (bytU f c r).2).1 ++ x))))))) ∧ (entU (f + 1) p (c :: r)).2 = (entU f p (bytU f c r).2).2 := by
  rw [entU_cons f p c r h]
  exact ⟨by simp only [strsL_cons, strsL_nil, List.append_assoc, List.nil_append], rfl⟩
/-- A directory's nodes end, or one more stands there. -/
theorem entU_ends (f : Nat) (p : List UInt8) (r : List Nd) : ((entU (f + 1) p r).1 = [] ∧ (entU (f + 1) p r).2 = r) ∨ ∃ c r1, r = c :: r1 ∧ nameL c.path p ≠ [] := by
  cases r with
  | nil => rw [entU_nil]; exact .inl ⟨rfl, rfl⟩
  | cons c r =>
    by_cases h : nameL c.path p = []
    · rw [entU_stop f p c r h]; exact .inl ⟨rfl, rfl⟩
    · exact .inr ⟨c, r, rfl, h⟩
theorem byt_suf : ∀ f, (∀ d r, (bytU f d r).2 <:+ r) ∧ (∀ p r, (entU f p r).2 <:+ r)
  | 0 => ⟨fun d r => by rw [bytU]; exact List.suffix_refl _, fun p r => by rw [entU]; exact List.suffix_refl _⟩
  | f + 1 => by
    obtain ⟨h1, h2⟩ := byt_suf f
    constructor
    · intro d r
      rw [bytU_succ]
      split
      · exact List.suffix_refl _
      split
      · exact List.suffix_refl _
      split
      · exact List.suffix_refl _
      · exact h2 _ _
    · intro p r
      cases r with
      | nil => rw [entU_nil]; exact List.suffix_refl _
      | cons c r =>
        by_cases hn : nameL c.path p = []
        · rw [entU_stop f p c r hn]; exact List.suffix_refl _
        · rw [entU_cons f p c r hn]
          exact (h2 _ _).trans ((h1 _ _).trans (List.suffix_cons _ _))
/-- Bytes of nodes tell the nodes. -/
theorem byt_inj : ∀ f, (∀ (d d' : Nd) (r r' : List Nd) (x y : List UInt8), 2 * r.length + 2 ≤ f → 2 * r'.length + 2 ≤ f → okN d → okN d' → (∀ c ∈ r, okN c) → (∀ c ∈ r', okN c) → d.path = d'.path →
      (bytU f d r).1 ++ x = (bytU f d' r').1 ++ y → d = d' ∧ x = y ∧ ∃ c, r = c ++ (bytU f d r).2 ∧ r' = c ++ (bytU f d' r').2) ∧
    (∀ (p : List UInt8) (r r' : List Nd) (x y : List UInt8), 2 * r.length + 1 ≤ f → 2 * r'.length + 1 ≤ f → (∀ c ∈ r, okN c) → (∀ c ∈ r', okN c) →
      (entU f p r).1 ++ (strL tClose ++ x) = (entU f p r').1 ++ (strL tClose ++ y) → x = y ∧ ∃ c, r = c ++ (entU f p r).2 ∧ r' = c ++ (entU f p r').2)
  | 0 => ⟨fun d d' r r' x y h => by omega, fun p r r' x y h => by omega⟩
  | f + 1 => by
    obtain ⟨h1, h2⟩ := byt_inj f
    constructor
    · intro d d' r r' x y hf hf' ⟨hk, hd, hp, h4⟩ ⟨hk', hd', hp', h4'⟩ hr hr' hpp h
      rcases hk with k | k | k | k
      · rw [(byt_1 f d r x k).1] at h
        rw [(byt_1 f d r x k).2]
        rcases hk' with k' | k' | k' | k'
        · rw [(byt_1 f d' r' y k').1] at h
          rw [(byt_1 f d' r' y k').2]
          obtain ⟨_, h⟩ := peel (peel h).2
          obtain ⟨_, h⟩ := peel (peel h).2
          obtain ⟨e, h⟩ := peel h hd hd'
          exact ⟨Nd.ext' hpp (by rw [k, k']) e, (peel h).2, [], rfl, rfl⟩
        · rw [(byt_2 f d' r' y k').1] at h
          exact absurd (peel (peel (peel (peel h).2).2).2).1 (by decide)
        · rw [(byt_3 f d' r' y k').1] at h
          exact absurd (peel (peel (peel h).2).2).1 (by decide)
        · rw [(byt_4 f d' r' y k').1] at h
          exact absurd (peel (peel (peel h).2).2).1 (by decide)
      · rw [(byt_2 f d r x k).1] at h
        rw [(byt_2 f d r x k).2]
        rcases hk' with k' | k' | k' | k'
        · rw [(byt_1 f d' r' y k').1] at h
          exact absurd (peel (peel (peel (peel h).2).2).2).1 (by decide)
        · rw [(byt_2 f d' r' y k').1] at h
          rw [(byt_2 f d' r' y k').2]
          obtain ⟨_, h⟩ := peel (peel h).2
          obtain ⟨_, h⟩ := peel (peel h).2
          obtain ⟨_, h⟩ := peel (peel h).2
          obtain ⟨e, h⟩ := peel h hd hd'
          exact ⟨Nd.ext' hpp (by rw [k, k']) e, (peel h).2, [], rfl, rfl⟩
        · rw [(byt_3 f d' r' y k').1] at h
          exact absurd (peel (peel (peel h).2).2).1 (by decide)
        · rw [(byt_4 f d' r' y k').1] at h
          exact absurd (peel (peel (peel h).2).2).1 (by decide)
      · rw [(byt_3 f d r x k).1] at h
        rw [(byt_3 f d r x k).2]
        rcases hk' with k' | k' | k' | k'
        · rw [(byt_1 f d' r' y k').1] at h
          exact absurd (peel (peel (peel h).2).2).1 (by decide)
        · rw [(byt_2 f d' r' y k').1] at h
          exact absurd (peel (peel (peel h).2).2).1 (by decide)
        · rw [(byt_3 f d' r' y k').1] at h
          rw [(byt_3 f d' r' y k').2]
          obtain ⟨_, h⟩ := peel (peel h).2
          obtain ⟨_, h⟩ := peel (peel h).2
          obtain ⟨e, h⟩ := peel h hd hd'
          exact ⟨Nd.ext' hpp (by rw [k, k']) e, (peel h).2, [], rfl, rfl⟩
        · rw [(byt_4 f d' r' y k').1] at h
          exact absurd (peel (peel (peel h).2).2).1 (by decide)
      · rw [(byt_4 f d r x k).1] at h
        rw [(byt_4 f d r x k).2]
        rcases hk' with k' | k' | k' | k'
        · rw [(byt_1 f d' r' y k').1] at h
          exact absurd (peel (peel (peel h).2).2).1 (by decide)
        · rw [(byt_2 f d' r' y k').1] at h
          exact absurd (peel (peel (peel h).2).2).1 (by decide)
        · rw [(byt_3 f d' r' y k').1] at h
          exact absurd (peel (peel (peel h).2).2).1 (by decide)
        · rw [(byt_4 f d' r' y k').1] at h
          rw [(byt_4 f d' r' y k').2]
          obtain ⟨_, h⟩ := peel (peel (peel h).2).2
          rw [← hpp] at h ⊢
          obtain ⟨e, c, hc, hc'⟩ := h2 d.path r r' x y (by omega) (by omega) hr hr' h
          exact ⟨Nd.ext' hpp (by rw [k, k']) (by rw [h4 k, h4' k']), e, c, hc, hc'⟩
    · intro p r r' x y hf hf' hr hr' h
      rcases entU_ends f p r with ⟨e1, e2⟩ | ⟨c, r1, rfl, hn⟩
      · rcases entU_ends f p r' with ⟨e1', e2'⟩ | ⟨c', r1', rfl, hn'⟩
        · rw [e1, e1'] at h
          rw [e2, e2']
          exact ⟨(peel h).2, [], rfl, rfl⟩
        · rw [e1, (entU_form f p c' r1' _ hn').1] at h
          exact absurd (peel h).1 (by decide)
      · rcases entU_ends f p r' with ⟨e1', e2'⟩ | ⟨c', r1', rfl, hn'⟩
        · rw [e1', (entU_form f p c r1 _ hn).1] at h
          exact absurd (peel h).1 (by decide)
        · rw [(entU_form f p c r1 _ hn).1, (entU_form f p c' r1' _ hn').1] at h
          rw [(entU_form f p c r1 [] hn).2, (entU_form f p c' r1' [] hn').2]
          simp only [List.length_cons] at hf hf'
          have oc := hr c (by simp)
          have oc' := hr' c' (by simp)
          have o1 : ∀ e ∈ r1, okN e := fun e he => hr e (List.mem_cons_of_mem _ he)
          have o1' : ∀ e ∈ r1', okN e := fun e he => hr' e (List.mem_cons_of_mem _ he)
          obtain ⟨_, h⟩ := peel (peel (peel h).2).2
          obtain ⟨en, h⟩ := peel h (Nat.lt_of_le_of_lt (name_len _ _) oc.2.2.1) (Nat.lt_of_le_of_lt (name_len _ _) oc'.2.2.1)
          obtain ⟨_, h⟩ := peel h
          have hpath : c.path = c'.path := by rw [(name_join hn).1, (name_join hn').1, en]
          obtain ⟨ec, h, l1, hl1, hl1'⟩ := h1 c c' r1 r1' _ _ (by omega) (by omega) oc oc' o1 o1' hpath h
          obtain ⟨_, h⟩ := peel h
          have hz := (byt_len f).1 c r1
          have hz' := (byt_len f).1 c' r1'
          obtain ⟨ex, l2, hl2, hl2'⟩ := h2 p _ _ x y (by omega) (by omega) (fun e he => o1 e (((byt_suf f).1 c r1).mem he)) (fun e he => o1' e (((byt_suf f).1 c' r1').mem he)) h
          refine ⟨ex, c :: (l1 ++ l2), ?_, ?_⟩
          · rw [List.cons_append, List.append_assoc, ← hl2, ← hl1]
          · rw [ec, List.cons_append, List.append_assoc, ← hl2', ← hl1']
theorem data_ok {c : Nd} (h : mayDataL c = true) (hp : c.path.length < 18446744073709551616) : okN c := by
  unfold mayDataL at h
  unfold okN
  split at h
  · rename_i hk
    have := of_decide_eq_true h
    exact ⟨by omega, by omega, hp, by omega⟩
  split at h
  · rename_i hk
    rw [Bool.and_eq_true, Bool.and_eq_true] at h
    have := of_decide_eq_true h.1.2
    exact ⟨by omega, by omega, hp, by omega⟩
  split at h
  · rename_i hk
    have := of_decide_eq_true h
    exact ⟨by omega, by rw [this]; decide, hp, fun _ => this⟩
  · cases h
/-- What a tree that may be is. -/
theorem may_parts {l : List Nd} (h : mayL l = true) (hp : ∀ c ∈ l, c.path.length < 18446744073709551616) : ∃ d r, l = d :: r ∧ d.path = [] ∧ okN d ∧ (∀ c ∈ r, okN c) ∧ restU (fuelN r) d r = [] ∧ (bytU (fuelN r) d r).2 = [] := by
  cases l with
  | nil => cases h
  | cons d r =>
    simp only [mayL, Bool.and_eq_true, decide_eq_true_eq, List.all_eq_true] at h
    obtain ⟨⟨⟨⟨_, h0⟩, hd⟩, hall⟩, hlen⟩ := h
    have hrest : restU (fuelN r) d r = [] := List.eq_nil_of_length_eq_zero hlen
    have ok0 := data_ok hd (hp d (by simp))
    have okr : ∀ c ∈ r, okN c := fun c hc => data_ok (hall c hc).2 (hp c (by simp [hc]))
    refine ⟨d, r, rfl, h0, ok0, okr, hrest, ?_⟩
    rw [(same_rest (fuelN r)).1 d r (by unfold fuelN; omega) ok0.1 (fun c hc => (okr c hc).1) (fun e r2 he => by rw [hrest] at he; cases he)]
    exact hrest
/-- Two trees have two packings. -/
theorem pack_inj {l m : List Nd} (hl : mayL l = true) (hm : mayL m = true) (hpl : ∀ c ∈ l, c.path.length < 18446744073709551616) (hpm : ∀ c ∈ m, c.path.length < 18446744073709551616) (h : treeL l = treeL m) : l = m := by
  obtain ⟨d, r, rfl, hd0, od, or_, _, hb⟩ := may_parts hl hpl
  obtain ⟨d', r', rfl, hd0', od', or', _, hb'⟩ := may_parts hm hpm
  have h := (peel (a := tMagic) (b := tMagic) h).2
  have ef : bytU (fuelN r) d r = bytU (fuelN r + fuelN r') d r := (byt_fuel _ _).1 d r (Nat.le_refl _) (by unfold fuelN; omega)
  have ef' : bytU (fuelN r') d' r' = bytU (fuelN r + fuelN r') d' r' := (byt_fuel _ _).1 d' r' (Nat.le_refl _) (by unfold fuelN; omega)
  rw [ef] at h hb
  rw [ef'] at h hb'
  have h : (bytU (fuelN r + fuelN r') d r).1 ++ [] = (bytU (fuelN r + fuelN r') d' r').1 ++ [] := by rw [h]
  obtain ⟨e, _, c, hc, hc'⟩ := (byt_inj (fuelN r + fuelN r')).1 d d' r r' [] [] (by unfold fuelN; omega) (by unfold fuelN; omega) od od' or_ or' (by rw [hd0, hd0']) h
  rw [hb, List.append_nil] at hc
  rw [hb', List.append_nil] at hc'
  rw [e, hc, hc']
end Go.Proofs.Ytglipljilcdboaa
/- Reading bytes text by text: a text cut off from the front; a tree that takes texts, as far as they came; more bytes behind those that came. No condition but what each names. -/
namespace Go.Proofs.Ytglipljilcdboaa
set_option linter.unusedSimpArgs false
set_option linter.unusedVariables false
/-- The number of bytes, the lowest first. -/
def leN : List UInt8 → Nat
  | [] => 0
  | b :: l => b.toNat + 256 * leN l
/-- How many bytes a text of so many fills. -/
def padN (n : Nat) : Nat := (n + 7) / 8 * 8
/-- A text from the front. -/
inductive Cut where
  | more
  | form
  | ok (s rest : List UInt8)
def cutT (most : Nat) (r : List UInt8) : Cut :=
  if r.length < 8 then .more
  else if most < leN (r.take 8) then .form
  else if r.length < 8 + padN (leN (r.take 8)) then .more
  else if ((r.drop (8 + leN (r.take 8))).take (padN (leN (r.take 8)) - leN (r.take 8))).all (· == 0) then .ok ((r.drop 8).take (leN (r.take 8))) (r.drop (8 + padN (leN (r.take 8))))
  else .form
theorem pad_le (n : Nat) : n ≤ padN n := by unfold padN; omega
theorem pad_fill (n : Nat) : padN n = n + fillN n := by unfold padN fillN; omega
theorem cut_app_form {most : Nat} {r : List UInt8} (x : List UInt8) (h : cutT most r = .form) : cutT most (r ++ x) = .form := by
  unfold cutT at h ⊢
  by_cases h1 : r.length < 8
  · rw [if_pos h1] at h; cases h
  · rw [if_neg h1] at h
    have e1 : (r ++ x).take 8 = r.take 8 := by rw [List.take_append_of_le_length (by omega)]
    rw [if_neg (by rw [List.length_append]; omega), e1]
    by_cases h2 : most < leN (r.take 8)
    · rw [if_pos h2]
    · rw [if_neg h2] at h ⊢
      by_cases h3 : r.length < 8 + padN (leN (r.take 8))
      · rw [if_pos h3] at h; cases h
      · rw [if_neg h3] at h
        have h4 := pad_le (leN (r.take 8))
        rw [if_neg (by rw [List.length_append]; omega)]
        have e2 : ((r ++ x).drop (8 + leN (r.take 8))).take (padN (leN (r.take 8)) - leN (r.take 8)) = (r.drop (8 + leN (r.take 8))).take (padN (leN (r.take 8)) - leN (r.take 8)) := by
          rw [List.drop_append_of_le_length (by omega), List.take_append_of_le_length (by rw [List.length_drop]; omega)]
        rw [e2]
        split at h
        · cases h
        · rename_i h5; rw [if_neg h5]
theorem cut_app_ok {most : Nat} {r s t : List UInt8} (x : List UInt8) (h : cutT most r = .ok s t) : cutT most (r ++ x) = .ok s (t ++ x) := by
  unfold cutT at h ⊢
  by_cases h1 : r.length < 8
  · rw [if_pos h1] at h; cases h
  · rw [if_neg h1] at h
    have e1 : (r ++ x).take 8 = r.take 8 := by rw [List.take_append_of_le_length (by omega)]
    rw [if_neg (by rw [List.length_append]; omega), e1]
    by_cases h2 : most < leN (r.take 8)
    · rw [if_pos h2] at h; cases h
    · rw [if_neg h2] at h ⊢
      by_cases h3 : r.length < 8 + padN (leN (r.take 8))
      · rw [if_pos h3] at h; cases h
      · rw [if_neg h3] at h
        have h4 := pad_le (leN (r.take 8))
        rw [if_neg (by rw [List.length_append]; omega)]
        have e2 : ((r ++ x).drop (8 + leN (r.take 8))).take (padN (leN (r.take 8)) - leN (r.take 8)) = (r.drop (8 + leN (r.take 8))).take (padN (leN (r.take 8)) - leN (r.take 8)) := by
          rw [List.drop_append_of_le_length (by omega), List.take_append_of_le_length (by rw [List.length_drop]; omega)]
        rw [e2]
        split at h
        · rename_i h5
          cases h
          rw [if_pos h5, List.drop_append_of_le_length (show 8 ≤ r.length by omega), List.take_append_of_le_length (by rw [List.length_drop]; omega), List.drop_append_of_le_length (by omega)]
        · cases h
theorem cut_ok_len {most : Nat} {r s t : List UInt8} (h : cutT most r = .ok s t) : s.length ≤ most ∧ t = r.drop (8 + padN s.length) ∧ r.length = 8 + padN s.length + t.length := by
  unfold cutT at h
  by_cases h1 : r.length < 8
  · rw [if_pos h1] at h; cases h
  · rw [if_neg h1] at h
    by_cases h2 : most < leN (r.take 8)
    · rw [if_pos h2] at h; cases h
    · rw [if_neg h2] at h
      by_cases h3 : r.length < 8 + padN (leN (r.take 8))
      · rw [if_pos h3] at h; cases h
      · rw [if_neg h3] at h
        have h4 := pad_le (leN (r.take 8))
        split at h
        · cases h
          have e : ((r.drop 8).take (leN (r.take 8))).length = leN (r.take 8) := by rw [List.length_take, List.length_drop]; omega
          rw [e]
          refine ⟨by omega, rfl, ?_⟩
          rw [List.length_drop]; omega
        · cases h
/-- A number's eight bytes say it again. -/
theorem le_word (n : Nat) (h : n < 18446744073709551616) : leN (wordL n) = n := by
  simp only [wordL, leN, UInt8.toNat_ofNat']
  omega
theorem u8_le {b : UInt8} : UInt8.ofNat b.toNat = b := by simp
theorem le_lt : ∀ l : List UInt8, leN l < 256 ^ l.length
  | [] => by decide
  | b :: l => by
    have := le_lt l
    have := b.toNat_lt
    rw [leN, List.length_cons, Nat.pow_succ]
    omega
theorem word_le {l : List UInt8} (h : l.length = 8) : wordL (leN l) = l := by
  match l, h with
  | [a, b, c, d, e, f, g, i], _ =>
    have := a.toNat_lt; have := b.toNat_lt; have := c.toNat_lt; have := d.toNat_lt
    have := e.toNat_lt; have := f.toNat_lt; have := g.toNat_lt; have := i.toNat_lt
    have k : ∀ (m : Nat) (x : UInt8), m % 256 = x.toNat → UInt8.ofNat m = x := fun m x hx => by
      apply UInt8.toNat_inj.1
      simp only [UInt8.toNat_ofNat']
      omega
    simp only [leN, wordL]
    simp only [List.cons.injEq, and_true]
    refine ⟨k _ _ (by omega), k _ _ (by omega), k _ _ (by omega), k _ _ (by omega), k _ _ (by omega), k _ _ (by omega), k _ _ (by omega), k _ _ (by omega)⟩
theorem cut_str {most : Nat} {s : List UInt8} (x : List UInt8) (h : s.length ≤ most) (hm : s.length < 18446744073709551616) : cutT most (strL s ++ x) = .ok s x := by
  have e0 : (strL s ++ x).take 8 = wordL s.length := by
    unfold strL
    rw [List.append_assoc, List.take_left' (wordL_len _)]
  have e1 : (strL s ++ x).drop 8 = s ++ (List.replicate (fillN s.length) 0 ++ x) := by
    unfold strL
    rw [List.append_assoc, List.drop_left' (wordL_len _), List.append_assoc]
  have hl := strL_len s
  unfold cutT
  rw [e0, le_word _ hm, pad_fill, if_neg (by rw [List.length_append]; omega), if_neg (by omega), if_neg (by rw [List.length_append]; omega)]
  have e2 : (strL s ++ x).drop (8 + s.length) = List.replicate (fillN s.length) 0 ++ x := by
    rw [← List.drop_drop, e1, List.drop_left' rfl]
  have e3 : (strL s ++ x).drop (8 + (s.length + fillN s.length)) = x := by
    rw [List.drop_left' hl]
  rw [e1, e2, e3, List.take_left' rfl, show s.length + fillN s.length - s.length = fillN s.length by omega, List.take_left' (List.length_replicate ..)]
  rw [if_pos (by simp)]
/-- What is cut off was there so. -/
theorem cut_back {most : Nat} {r s t : List UInt8} (h : cutT most r = .ok s t) : r = strL s ++ t := by
  obtain ⟨_, ht, hl⟩ := cut_ok_len h
  unfold cutT at h
  by_cases h1 : r.length < 8
  · rw [if_pos h1] at h; cases h
  · rw [if_neg h1] at h
    by_cases h2 : most < leN (r.take 8)
    · rw [if_pos h2] at h; cases h
    · rw [if_neg h2] at h
      by_cases h3 : r.length < 8 + padN (leN (r.take 8))
      · rw [if_pos h3] at h; cases h
      · rw [if_neg h3] at h
        have h4 := pad_le (leN (r.take 8))
        split at h
        · rename_i h5
          obtain ⟨n, hn⟩ : ∃ n, n = leN (r.take 8) := ⟨_, rfl⟩
          rw [← hn] at h h3 h4 h5
          cases h
          have e : ((r.drop 8).take n).length = n := by rw [List.length_take, List.length_drop]; omega
          have hw : wordL n = r.take 8 := by rw [hn]; exact word_le (by rw [List.length_take]; omega)
          have hz : List.replicate (fillN n) 0 = (r.drop (8 + n)).take (padN n - n) := by
            symm
            apply List.eq_replicate_iff.2
            refine ⟨by rw [List.length_take, List.length_drop, pad_fill]; rw [pad_fill] at h3; omega, fun b hb => ?_⟩
            simpa using List.all_eq_true.1 h5 b hb
          unfold strL
          rw [e, hw, hz]
          have g1 : (r.drop 8).take n ++ (r.drop (8 + n)).take (padN n - n) = (r.drop 8).take (padN n) := by
            have : padN n = n + (padN n - n) := by omega
            conv => rhs; rw [this, List.take_add, List.drop_drop]
          rw [g1, List.append_assoc]
          have g2 : (r.drop 8).take (padN n) ++ r.drop (8 + padN n) = r.drop 8 := by
            rw [← List.drop_drop]; exact List.take_append_drop _ _
          rw [g2, List.take_append_drop]
        · cases h
end Go.Proofs.Ytglipljilcdboaa
/- A tree that takes texts: where it stands, what may come, what it makes of a text; bytes that come piece by piece. No condition but what each names. -/
namespace Go.Proofs.Ytglipljilcdboaa
set_option linter.unusedSimpArgs false
set_option linter.unusedVariables false
/-- A tree as far as its texts came: the place, the path of the node that comes next or came last, nodes, directories that are open (path, last name). -/
structure TS where
  pl : Nat
  path : List UInt8
  nodes : List Nd
  opens : List (List UInt8 × List UInt8)
def t0 : TS := ⟨0, [], [], []⟩
/-- Words that lead on from a place: the word, the place behind it, the kind that it tells. -/
def waysL : Nat → List (List UInt8 × Nat × Int)
  | 0 => [(tMagic, 1, 0)]
  | 1 => [(tOpen, 2, 0)]
  | 2 => [(tType, 3, 0)]
  | 3 => [(tReg, 4, 1), (tSym, 8, 3), (tDir, 11, 4)]
  | 4 => [(tExec, 5, 2), (tCont, 7, 0)]
  | 5 => [([], 6, 0)]
  | 6 => [(tCont, 7, 0)]
  | 8 => [(tTarg, 9, 0)]
  | 10 => [(tClose, 16, 0)]
  | 11 => [(tEntry, 12, 0), (tClose, 16, 0)]
  | 12 => [(tOpen, 13, 0)]
  | 13 => [(tName, 14, 0)]
  | 15 => [(tNode, 1, 0)]
  | 16 => [(tClose, 11, 0)]
  | _ => []
/-- How many bytes the next text may have; none: none may come. -/
def mostM (p : Nat) : Option Nat :=
  if p = 14 then some 255 else if p = 9 then some 4096 else if p = 7 then some 65536
  else match waysL p with
  | [] => none
  | w :: l => some (l.foldl (fun m w => max m w.1.length) w.1.length)
/-- The last node with another kind. -/
def setKind (l : List Nd) (k : Int) : List Nd := match l.getLast? with
  | some c => l.dropLast ++ [{ c with kind := k }]
  | none => l
def setData (l : List Nd) (d : List UInt8) : List Nd := match l.getLast? with
  | some c => l.dropLast ++ [{ c with data := d }]
  | none => l
def followM (t : TS) (w : List UInt8 × Nat × Int) : TS :=
  let t1 : TS := if w.2.2 = 0 then { t with pl := w.2.1 } else { t with pl := w.2.1, nodes := setKind t.nodes w.2.2 }
  if w.2.1 = 2 then { t1 with nodes := t1.nodes ++ [⟨t1.path, 0, []⟩], opens := t1.opens ++ [(t1.path, [])] }
  else if w.2.1 = 16 then { t1 with opens := t1.opens.dropLast, pl := if t1.opens.dropLast = [] then 17 else 16 }
  else t1
def enterM (t : TS) (n : List UInt8) : Option TS := match t.opens.getLast? with
  | none => none
  | some d => if t.nodes.length = 256 ∨ 64 < t.opens.length then none
    else if mayNameL n = false ∨ ltL d.2 n = false then none
    else some { t with pl := 15, path := joinL d.1 n, opens := t.opens.dropLast ++ [(d.1, n)] }
def holdM (t : TS) (d : List UInt8) : Option TS :=
  if t.pl = 9 ∧ (d = [] ∨ 0 ∈ d) then none else some { t with pl := 10, nodes := setData t.nodes d }
def takeM (t : TS) (s : List UInt8) : Option TS :=
  if t.pl = 14 then enterM t s else if t.pl = 9 ∨ t.pl = 7 then holdM t s
  else match (waysL t.pl).find? (fun w => w.1 == s) with
  | some w => some (followM t w)
  | none => none
/-- Bytes that come to a tree: none, if it can't be one; else what it is then, and the bytes of the text that is begun. -/
def runF : Nat → TS → List UInt8 → Option (TS × List UInt8)
  | 0, t, r => some (t, r)
  | f + 1, t, r =>
    if r = [] then some (t, [])
    else match mostM t.pl with
    | none => none
    | some m => match cutT m r with
      | .more => some (t, r)
      | .form => none
      | .ok s rest => match takeM t s with
        | none => none
        | some t' => runF f t' rest
def runM (t : TS) (r : List UInt8) : Option (TS × List UInt8) := runF r.length t r
theorem runF_succ (f : Nat) (t : TS) (r : List UInt8) : runF (f + 1) t r = if r = [] then some (t, []) else match mostM t.pl with
    | none => none
    | some m => match cutT m r with
      | .more => some (t, r)
      | .form => none
      | .ok s rest => match takeM t s with
        | none => none
        | some t' => runF f t' rest := rfl
theorem runF_nil (f : Nat) (t : TS) : runF f t [] = some (t, []) := by cases f <;> simp [runF]
theorem run_fuel : ∀ (f g : Nat) (t : TS) (r : List UInt8), r.length ≤ f → r.length ≤ g → runF f t r = runF g t r
  | 0, g, t, r, hf, _ => by
    obtain rfl : r = [] := List.length_eq_zero_iff.1 (by omega)
    rw [runF_nil, runF_nil]
  | f + 1, 0, t, r, _, hg => by
    obtain rfl : r = [] := List.length_eq_zero_iff.1 (by omega)
    rw [runF_nil, runF_nil]
  | f + 1, g + 1, t, r, hf, hg => by
    rw [runF_succ, runF_succ]
    by_cases hr : r = []
    · rw [if_pos hr, if_pos hr]
    · rw [if_neg hr, if_neg hr]
      cases hm : mostM t.pl with
      | none => rfl
      | some m =>
        dsimp only
        cases hc : cutT m r with
        | more => rfl
        | form => rfl
        | ok s rest =>
          dsimp only
          cases ht : takeM t s with
          | none => rfl
          | some t' =>
            have := cut_ok_len hc
            exact run_fuel f g t' rest (by omega) (by omega)
theorem runM_nil (t : TS) : runM t [] = some (t, []) := runF_nil _ t
/-- One step. -/
theorem runM_eq (t : TS) (r : List UInt8) (hr : r ≠ []) : runM t r = match mostM t.pl with
    | none => none
    | some m => match cutT m r with
      | .more => some (t, r)
      | .form => none
      | .ok s rest => match takeM t s with
        | none => none
        | some t' => runM t' rest := by
  obtain ⟨n, hn⟩ : ∃ n, r.length = n + 1 := ⟨r.length - 1, by have := List.length_pos_iff.2 hr; omega⟩
  unfold runM
  rw [hn, runF_succ, if_neg hr]
  cases hm : mostM t.pl with
  | none => rfl
  | some m =>
    dsimp only
    cases hc : cutT m r with
    | more => rfl
    | form => rfl
    | ok s rest =>
      dsimp only
      cases ht : takeM t s with
      | none => rfl
      | some t' =>
        have := cut_ok_len hc
        exact run_fuel _ _ t' rest (by omega) (Nat.le_refl _)
theorem runM_form {t : TS} {r : List UInt8} {m : Nat} (hr : r ≠ []) (hm : mostM t.pl = some m) (hc : cutT m r = .form) : runM t r = none := by rw [runM_eq t r hr, hm]; simp only [hc]
theorem runM_more {t : TS} {r : List UInt8} {m : Nat} (hm : mostM t.pl = some m) (hc : cutT m r = .more) : runM t r = some (t, r) := by
  by_cases hr : r = []
  · subst hr; exact runM_nil t
  · rw [runM_eq t r hr, hm]; simp only [hc]
theorem runM_none {t : TS} {r : List UInt8} (hr : r ≠ []) (hm : mostM t.pl = none) : runM t r = none := by rw [runM_eq t r hr, hm]
theorem cut_ok_ne {m : Nat} {r s x : List UInt8} (hc : cutT m r = .ok s x) : r ≠ [] := by
  have := cut_ok_len hc
  intro h
  rw [h] at this
  simp at this
  omega
theorem runM_ok {t : TS} {r s x : List UInt8} {m : Nat} (hm : mostM t.pl = some m) (hc : cutT m r = .ok s x) : runM t r = match takeM t s with
    | none => none
    | some t' => runM t' x := by
  rw [runM_eq t r (cut_ok_ne hc), hm]; simp only [hc]
/-- More bytes behind those that came. -/
theorem run_app : ∀ (n : Nat) (t : TS) (r x : List UInt8), r.length ≤ n → runM t (r ++ x) = match runM t r with
    | none => none
    | some (t', b) => runM t' (b ++ x)
  | n, t, r, x, hn => by
    by_cases hr : r = []
    · subst hr; rw [runM_nil]
    · have hrx : r ++ x ≠ [] := by simp [hr]
      cases hm : mostM t.pl with
      | none => rw [runM_none hr hm, runM_none hrx hm]
      | some m =>
        cases hc : cutT m r with
        | more => rw [runM_more hm hc]
        | form => rw [runM_form hr hm hc, runM_form hrx hm (cut_app_form x hc)]
        | ok s rest =>
          rw [runM_ok hm hc, runM_ok hm (cut_app_ok x hc)]
          cases ht : takeM t s with
          | none => rfl
          | some t' =>
            have hl := cut_ok_len hc
            cases n with
            | zero => omega
            | succ n => exact run_app n t' rest x (by omega)
theorem runM_app (t : TS) (r x : List UInt8) : runM t (r ++ x) = match runM t r with
    | none => none
    | some (t', b) => runM t' (b ++ x) := run_app _ t r x (Nat.le_refl _)
/-- What is begun does not go on by itself; at the end nothing is begun. -/
theorem run_stuck : ∀ (n : Nat) (t : TS) (r : List UInt8) (t' : TS) (b : List UInt8), r.length ≤ n → runM t r = some (t', b) → runM t' b = some (t', b) ∧ (b ≠ [] → ∃ m, mostM t'.pl = some m ∧ cutT m b = .more)
  | n, t, r, t', b, hn, h => by
    by_cases hr : r = []
    · subst hr; rw [runM_nil] at h; cases h; exact ⟨runM_nil _, fun h => absurd rfl h⟩
    · cases hm : mostM t.pl with
      | none => rw [runM_none hr hm] at h; cases h
      | some m =>
        cases hc : cutT m r with
        | more => rw [runM_more hm hc] at h; cases h; exact ⟨runM_more hm hc, fun _ => ⟨m, hm, hc⟩⟩
        | form => rw [runM_form hr hm hc] at h; cases h
        | ok s rest =>
          rw [runM_ok hm hc] at h
          cases ht : takeM t s with
          | none => rw [ht] at h; cases h
          | some t2 =>
            rw [ht] at h
            have hl := cut_ok_len hc
            cases n with
            | zero => omega
            | succ n => exact run_stuck n t2 rest t' b (by omega) h
/-- What came of all the bytes: the tree, or the error. -/
def finM (x : Option (TS × List UInt8)) : List Nd × Int := match x with
  | none => ([], 4)
  | some (t, _) => if t.pl = 17 then (t.nodes, 0) else ([], 5)
def finR (t : TS) (r : List UInt8) : List Nd × Int := finM (runM t r)
def getL (s : List UInt8) : List Nd × Int := finR t0 s
theorem most17 : mostM 17 = none := rfl
theorem fin_more {t : TS} {r : List UInt8} {m : Nat} (h17 : t.pl ≠ 17) (hm : mostM t.pl = some m) (hc : cutT m r = .more) : finR t r = ([], 5) := by
  unfold finR; rw [runM_more hm hc]; simp [finM, h17]
theorem fin_form {t : TS} {r : List UInt8} {m : Nat} (hm : mostM t.pl = some m) (hc : cutT m r = .form) : finR t r = ([], 4) := by
  have hr : r ≠ [] := by rintro rfl; unfold cutT at hc; simp at hc
  unfold finR; rw [runM_form hr hm hc]; rfl
theorem fin_ok {t t' : TS} {r s x : List UInt8} {m : Nat} (hm : mostM t.pl = some m) (hc : cutT m r = .ok s x) (ht : takeM t s = some t') : finR t r = finR t' x := by
  unfold finR; rw [runM_ok hm hc, ht]
theorem fin_no {t : TS} {r s x : List UInt8} {m : Nat} (hm : mostM t.pl = some m) (hc : cutT m r = .ok s x) (ht : takeM t s = none) : finR t r = ([], 4) := by
  unfold finR; rw [runM_ok hm hc, ht]; rfl
theorem fin_end (t : TS) (r : List UInt8) (h : t.pl = 17) : finR t r = if r = [] then (t.nodes, 0) else ([], 4) := by
  unfold finR
  by_cases hr : r = []
  · rw [if_pos hr, hr, runM_nil]; simp [finM, h]
  · rw [if_neg hr, runM_none hr (by rw [h]; rfl)]; rfl
end Go.Proofs.Ytglipljilcdboaa
