/- The statements: ParseRepacks. No condition. -/
import Derived.Test.YtglipljilcdboaaU24
namespace Go.Proofs.Ytglipljilcdboaa
set_option linter.unusedVariables false
set_option linter.unusedSimpArgs false
/-- A tree with its bytes: a node at a path; what stands in a directory behind a name. -/
inductive TI : Option (List UInt8) → List UInt8 → List Nd → List UInt8 → Prop
  | file (p d : List UInt8) (h : d.length ≤ 65536) : TI none p [⟨p, 1, d⟩] (strL tOpen ++ (strL tType ++ (strL tReg ++ (strL tCont ++ (strL d ++ strL tClose)))))
  | exec (p d : List UInt8) (h : d.length ≤ 65536) : TI none p [⟨p, 2, d⟩] (strL tOpen ++ (strL tType ++ (strL tReg ++ (strL tExec ++ (strL [] ++ (strL tCont ++ (strL d ++ strL tClose)))))))
  | link (p d : List UInt8) (h : mayDataL ⟨p, 3, d⟩ = true) : TI none p [⟨p, 3, d⟩] (strL tOpen ++ (strL tType ++ (strL tSym ++ (strL tTarg ++ (strL d ++ strL tClose)))))
  | dir (p : List UInt8) (r : List Nd) (b : List UInt8) (h : TI (some []) p r b) : TI none p (⟨p, 4, []⟩ :: r) (strL tOpen ++ (strL tType ++ (strL tDir ++ (b ++ strL tClose))))
  | nil (p last : List UInt8) : TI (some last) p [] []
  | cons (p last n : List UInt8) (l : List Nd) (b : List UInt8) (r : List Nd) (c : List UInt8) (h1 : mayNameL n = true) (h2 : ltL last n = true) (h3 : deepL (joinL p n) ≤ 64) (h4 : TI none (joinL p n) l b) (h5 : TI (some n) p r c) :
      TI (some last) p (l ++ r) (strL tEntry ++ (strL tOpen ++ (strL tName ++ (strL n ++ (strL tNode ++ (b ++ (strL tClose ++ c)))))))
theorem ti_head {o : Option (List UInt8)} {p b : List UInt8} {l : List Nd} (h : TI o p l b) : (o = none → ∃ d r, l = d :: r ∧ d.path = p) ∧ (o ≠ none → l = [] ∨ ∃ e r m, l = e :: r ∧ e.path = joinL p m ∧ m ≠ [] ∧ (47 : UInt8) ∉ m) := by
  induction h with
  | file p d h => exact ⟨fun _ => ⟨_, _, rfl, rfl⟩, fun h => absurd rfl h⟩
  | exec p d h => exact ⟨fun _ => ⟨_, _, rfl, rfl⟩, fun h => absurd rfl h⟩
  | link p d h => exact ⟨fun _ => ⟨_, _, rfl, rfl⟩, fun h => absurd rfl h⟩
  | dir p r b h ih => exact ⟨fun _ => ⟨_, _, rfl, rfl⟩, fun h => absurd rfl h⟩
  | nil p last => exact ⟨(fun h => by cases h), fun _ => .inl rfl⟩
  | cons p last n l b r c h1 h2 h3 h4 h5 ih4 ih5 =>
    refine ⟨(fun h => by cases h), fun _ => .inr ?_⟩
    obtain ⟨d, r1, rfl, hd⟩ := ih4.1 rfl
    have hn : n ≠ [] ∧ (47 : UInt8) ∉ n := by
      unfold mayNameL at h1
      simp at h1
      refine ⟨?_, h1.1.1.2⟩
      rintro rfl
      simp at h1
    exact ⟨d, r1 ++ r, n, rfl, hd, hn.1, hn.2⟩
theorem may_ne {n : List UInt8} (h1 : mayNameL n = true) : n ≠ [] ∧ (47 : UInt8) ∉ n := by
  unfold mayNameL at h1
  simp at h1
  refine ⟨?_, h1.1.1.2⟩
  rintro rfl
  simp at h1
theorem not_below_name {p : List UInt8} {e : Nd} (h : ¬ below p e.path) : nameL e.path p = [] := by
  apply Classical.byContradiction
  intro hn
  obtain ⟨h1, _⟩ := name_join hn
  exact h (by rw [h1]; exact join_below _ _)
def topH (p : List UInt8) (rest : List Nd) : Prop := ∀ e r2, rest = e :: r2 → ¬ below p e.path
/-- The document's bytes of nodes that are a tree are those; what is left is what stood behind. -/
theorem ti_byt {o : Option (List UInt8)} {p b : List UInt8} {l : List Nd} (h : TI o p l b) :
    (o = none → ∀ d r, l = d :: r → ∀ rest f, 2 * (r ++ rest).length + 2 ≤ f → topH p rest → bytU f d (r ++ rest) = (b, rest) ∧ restU f d (r ++ rest) = rest) ∧
    (∀ last, o = some last → ∀ rest f, 2 * (l ++ rest).length + 1 ≤ f → topH p rest → entU f p (l ++ rest) = (b, rest) ∧ loopU f p last (l ++ rest) = rest) := by
  induction h with
  | file p d h =>
    refine ⟨fun _ d' r e rest f hf ht => ?_, fun last h => by cases h⟩
    cases e
    obtain ⟨g, rfl⟩ : ∃ g, f = g + 1 := ⟨f - 1, by omega⟩
    rw [bytU_succ, restU_succ, if_pos rfl, if_neg (by simp)]
    exact ⟨by simp [strsL], rfl⟩
  | exec p d h =>
    refine ⟨fun _ d' r e rest f hf ht => ?_, fun last h => by cases h⟩
    cases e
    obtain ⟨g, rfl⟩ : ∃ g, f = g + 1 := ⟨f - 1, by omega⟩
    rw [bytU_succ, restU_succ, if_neg (by simp), if_pos rfl, if_neg (by simp)]
    exact ⟨by simp [strsL], rfl⟩
  | link p d h =>
    refine ⟨fun _ d' r e rest f hf ht => ?_, fun last h => by cases h⟩
    cases e
    obtain ⟨g, rfl⟩ : ∃ g, f = g + 1 := ⟨f - 1, by omega⟩
    rw [bytU_succ, restU_succ, if_neg (by simp), if_neg (by simp), if_pos rfl, if_neg (by simp)]
    exact ⟨by simp [strsL], rfl⟩
  | dir p r b h ih =>
    refine ⟨fun _ d' r' e rest f hf ht => ?_, fun last h => by cases h⟩
    cases e
    obtain ⟨g, rfl⟩ : ∃ g, f = g + 1 := ⟨f - 1, by omega⟩
    obtain ⟨h1, h2⟩ := ih.2 [] rfl rest g (by omega) ht
    rw [bytU_succ, restU_succ, if_neg (by simp), if_neg (by simp), if_neg (by simp), if_pos rfl]
    show (strsL [tOpen, tType, tDir] ++ ((entU g p (r ++ rest)).1 ++ strL tClose), (entU g p (r ++ rest)).2) = _ ∧ loopU g p [] (r ++ rest) = rest
    rw [h1, h2]
    exact ⟨by simp [strsL], rfl⟩
  | nil p last =>
    refine ⟨(fun h => by cases h), fun last' h rest f hf ht => ?_⟩
    cases h
    obtain ⟨g, rfl⟩ : ∃ g, f = g + 1 := ⟨f - 1, by omega⟩
    cases rest with
    | nil => exact ⟨entU_nil g p, loopU_nil g p last⟩
    | cons e r2 =>
      have hn := not_below_name (ht e r2 rfl)
      refine ⟨entU_stop g p e r2 hn, ?_⟩
      show loopU (g + 1) p last (e :: r2) = e :: r2
      rw [loopU_cons, if_pos (.inl hn)]
  | cons p last n l b r c h1 h2 h3 h4 h5 ih4 ih5 =>
    refine ⟨(fun h => by cases h), fun last' h rest f hf ht => ?_⟩
    cases h
    obtain ⟨g, rfl⟩ : ∃ g, f = g + 1 := ⟨f - 1, by omega⟩
    obtain ⟨d, r1, rfl, hd⟩ := (ti_head h4).1 rfl
    obtain ⟨hn, h47⟩ := may_ne h1
    have hname : nameL d.path p = n := by rw [hd]; exact name_of_join p n h47
    have htop : topH (joinL p n) (r ++ rest) := by
      intro e r2 he
      rcases (ti_head h5).2 (by simp) with rfl | ⟨e', r', m, rfl, hm1, hm2, hm3⟩
      · exact fun hb => ht e r2 he (below_join hb hn)
      · have e1 : e' = e := by cases he; rfl
        rw [← e1, hm1]
        exact join_not_below hn hm3
    have hlen : 2 * (r1 ++ (r ++ rest)).length + 2 ≤ g := by simp at hf ⊢; omega
    have hlen2 : 2 * (r ++ rest).length + 1 ≤ g := by simp at hf ⊢; omega
    obtain ⟨k1, k2⟩ := ih4.1 rfl d r1 rfl (r ++ rest) g hlen htop
    obtain ⟨k3, k4⟩ := ih5.2 n rfl rest g hlen2 ht
    have el : (d :: r1 ++ r) ++ rest = d :: (r1 ++ (r ++ rest)) := by simp
    rw [el, entU_cons g p d _ (by rw [hname]; exact hn), loopU_cons, hname, if_neg (by rintro (h | h); exact hn h; rw [h2] at h; cases h), k1, k2, k4]
    refine ⟨?_, rfl⟩
    simp only
    rw [k3]
    simp [strsL]
/-- What a node in a directory must have. -/
def okC (c : Nd) : Prop := mayNameL (cutL c.path).2 = true ∧ deepL c.path ≤ 64 ∧ mayDataL c = true
theorem ti_all {o : Option (List UInt8)} {p b : List UInt8} {l : List Nd} (h : TI o p l b) :
    (o = none → ∀ d r, l = d :: r → mayDataL d = true ∧ ∀ c ∈ r, okC c) ∧ (o ≠ none → ∀ c ∈ l, okC c) := by
  induction h with
  | file p d h => exact ⟨fun _ d' r e => (by cases e; exact ⟨by simp [mayDataL, h], by simp⟩), fun h => absurd rfl h⟩
  | exec p d h => exact ⟨fun _ d' r e => (by cases e; exact ⟨by simp [mayDataL, h], by simp⟩), fun h => absurd rfl h⟩
  | link p d h => exact ⟨fun _ d' r e => (by cases e; exact ⟨h, by simp⟩), fun h => absurd rfl h⟩
  | dir p r b h ih => exact ⟨fun _ d' r' e => (by cases e; exact ⟨by simp [mayDataL], ih.2 (by simp)⟩), fun h => absurd rfl h⟩
  | nil p last => exact ⟨(fun h => by cases h), fun _ => by simp⟩
  | cons p last n l b r c h1 h2 h3 h4 h5 ih4 ih5 =>
    refine ⟨(fun h => by cases h), fun _ e he => ?_⟩
    obtain ⟨d, r1, rfl, hd⟩ := (ti_head h4).1 rfl
    obtain ⟨k1, k2⟩ := ih4.1 rfl d r1 rfl
    rcases List.mem_append.1 he with he | he
    · rcases List.mem_cons.1 he with rfl | he
      · refine ⟨?_, by rw [hd]; exact h3, k1⟩
        rw [hd, cut_join p n (may_ne h1).2]
        exact h1
      · exact k2 e he
    · exact ih5.2 (by simp) e he
theorem ti_may {b : List UInt8} {l : List Nd} (h : TI none [] l b) (hl : l.length ≤ 256) : mayL l = true ∧ treeL l = strL tMagic ++ b := by
  obtain ⟨d, r, rfl, hd⟩ := (ti_head h).1 rfl
  obtain ⟨k1, k2⟩ := (ti_all h).1 rfl d r rfl
  obtain ⟨k3, k4⟩ := (ti_byt h).1 rfl d r rfl [] (fuelN r) (by simp [fuelN]) (fun e r2 he => by cases he)
  rw [List.append_nil] at k3 k4
  constructor
  · unfold mayL
    simp only [List.length_cons] at hl
    simp only [hd, k1, k4, Bool.and_eq_true, decide_eq_true_eq, List.all_eq_true, List.length_nil]
    exact ⟨⟨⟨⟨hl, trivial⟩, trivial⟩, fun c hc => ⟨⟨(k2 c hc).1, (k2 c hc).2.1⟩, (k2 c hc).2.2⟩⟩, trivial⟩
  · show strL tMagic ++ (bytU (fuelN r) d r).1 = _
    rw [k3]
/-- Nodes of which nothing is left are a tree with its bytes. -/
theorem ti_of : ∀ f, (∀ d r, 2 * r.length + 2 ≤ f → mayDataL d = true → (∀ c ∈ r, okC c) → ∃ l1 b, r = l1 ++ restU f d r ∧ TI none d.path (d :: l1) b) ∧
    (∀ p last r, 2 * r.length + 1 ≤ f → (∀ c ∈ r, okC c) → ∃ l1 b, r = l1 ++ loopU f p last r ∧ TI (some last) p l1 b)
  | 0 => ⟨fun d r h => by omega, fun p last r h => by omega⟩
  | f + 1 => by
    obtain ⟨h1, h2⟩ := ti_of f
    constructor
    · intro d r hf hd hr
      rw [restU_succ]
      obtain ⟨path, kind, data⟩ := d
      unfold mayDataL at hd
      simp only at hd
      by_cases k1 : kind = 1
      · subst k1
        rw [if_neg (by simp)]
        simp at hd
        exact ⟨[], _, rfl, TI.file path data hd⟩
      by_cases k2 : kind = 2
      · subst k2
        rw [if_neg (by simp)]
        simp at hd
        exact ⟨[], _, rfl, TI.exec path data hd⟩
      by_cases k3 : kind = 3
      · subst k3
        rw [if_neg (by simp)]
        exact ⟨[], _, rfl, TI.link path data (by unfold mayDataL; exact hd)⟩
      by_cases k4 : kind = 4
      · subst k4
        rw [if_pos rfl]
        simp at hd
        subst hd
        obtain ⟨l1, b, e, t⟩ := h2 path [] r (by omega) hr
        exact ⟨l1, _, e, TI.dir path l1 b t⟩
      · simp [k1, k2, k3, k4] at hd
    · intro p last r hf hr
      cases r with
      | nil => exact ⟨[], [], by rw [loopU_nil]; rfl, TI.nil p last⟩
      | cons c r =>
        rw [loopU_cons]
        by_cases hs : nameL c.path p = [] ∨ ltL last (nameL c.path p) = false
        · rw [if_pos hs]; exact ⟨[], [], rfl, TI.nil p last⟩
        · rw [if_neg hs]
          have hn : nameL c.path p ≠ [] := fun h => hs (.inl h)
          have hlt : ltL last (nameL c.path p) = true := by
            cases hh : ltL last (nameL c.path p) with
            | true => rfl
            | false => exact absurd (.inr hh) hs
          obtain ⟨hj, h47⟩ := name_join hn
          have hok := hr c (by simp)
          simp only [List.length_cons] at hf
          obtain ⟨l1, b, e1, t1⟩ := h1 c r (by omega) hok.2.2 (fun e he => hr e (by simp [he]))
          have hsub : ∀ e ∈ restU f c r, okC e := fun e he => hr e (by simp [rest_mem f c r e he])
          have hl := (rest_len f).1 c r
          obtain ⟨l2, b2, e2, t2⟩ := h2 p (nameL c.path p) (restU f c r) (by omega) hsub
          rw [hj] at t1
          refine ⟨(c :: l1) ++ l2, _, ?_, TI.cons p last (nameL c.path p) (c :: l1) b l2 b2 ?_ hlt ?_ t1 t2⟩
          · rw [List.append_assoc, ← e2, List.cons_append, ← e1]
          · have := hok.1
            rw [hj, cut_join p _ h47] at this
            exact this
          · rw [← hj]; exact hok.2.1
theorem ti_of_may {l : List Nd} (h : mayL l = true) : ∃ b, TI none [] l b ∧ treeL l = strL tMagic ++ b ∧ l.length ≤ 256 := by
  cases l with
  | nil => simp [mayL] at h
  | cons d r =>
    have h' := h
    unfold mayL at h
    simp only [Bool.and_eq_true, decide_eq_true_eq, List.all_eq_true] at h
    obtain ⟨⟨⟨⟨h1, h2⟩, h3⟩, h4⟩, h5⟩ := h
    obtain ⟨l1, b, e, t⟩ := (ti_of (fuelN r)).1 d r (by simp [fuelN]) h3 (fun c hc => ⟨(h4 c hc).1.1, (h4 c hc).1.2, (h4 c hc).2⟩)
    rw [List.length_eq_zero_iff.1 h5, List.append_nil] at e
    subst e
    rw [h2] at t
    exact ⟨b, t, (ti_may t h1).2, h1⟩
end Go.Proofs.Ytglipljilcdboaa
namespace Go.Proofs.Ytglipljilcdboaa
set_option linter.unusedVariables false
set_option linter.unusedSimpArgs false
section
variable (S : List UInt8)
/-- One text was taken. -/
def Took (q : RS) (s : List UInt8) (q' : RS) : Prop := q.e = 0 ∧ q'.e = 0 ∧ q'.l = q.l ∧ S.drop q.at' = strL s ++ S.drop q'.at' ∧ q.at' < q'.at' ∧ q'.at' ≤ S.length
theorem text_inv {m : Nat} {q : RS} (h : (textD S m q).2.e = 0) : Took S q (textD S m q).1 (textD S m q).2 ∧ (textD S m q).1.length ≤ m := by
  have h0 : q.e = 0 := Classical.byContradiction fun h0 => by rw [text_err S h0] at h; exact h0 h
  cases hc : cutT m (S.drop q.at') with
  | more => rw [text_more S h0 hc] at h; exact absurd h n5
  | form => rw [text_form S h0 hc] at h; exact absurd h n4
  | ok s x =>
    have hl := cut_ok_len hc
    have h3 := hl.2.2
    rw [List.length_drop] at h3
    rw [text_ok S h0 hc]
    refine ⟨⟨h0, h0, rfl, ?_, by show q.at' < q.at' + _; omega, by show q.at' + _ ≤ _; omega⟩, hl.1⟩
    have hx : x = S.drop (q.at' + (8 + padN s.length)) := by rw [hl.2.1, List.drop_drop]
    show S.drop q.at' = strL s ++ S.drop (q.at' + (8 + padN s.length))
    rw [← hx]
    exact cut_back hc
theorem wrong_inv {b : Bool} {q : RS} (h : (wrongD b q).e = 0) : wrongD b q = q ∧ b = false := by
  unfold wrongD at h ⊢
  by_cases hb : b = true ∧ q.e = 0
  · rw [if_pos hb] at h; exact absurd h n4
  · rw [if_neg hb] at h ⊢
    refine ⟨rfl, ?_⟩
    cases b with
    | false => rfl
    | true => exact absurd ⟨rfl, h⟩ hb
theorem one_inv {l : List (List UInt8)} {q : RS} (h : (oneD S l q).2.e = 0) : Took S q (oneD S l q).1 (oneD S l q).2 ∧ (oneD S l q).1 ∈ l := by
  unfold oneD at h ⊢
  by_cases hb : (textD S (mostD l) q).2.e = 0 ∧ (textD S (mostD l) q).1 ∈ l
  · rw [if_pos hb] at h ⊢
    exact ⟨(text_inv S h).1, hb.2⟩
  · rw [if_neg hb] at h
    have := (wrong_inv h).2
    cases this
theorem one_inv1 {w : List UInt8} {q : RS} (h : (oneD S [w] q).2.e = 0) : Took S q w (oneD S [w] q).2 := by
  obtain ⟨h1, h2⟩ := one_inv S h
  rw [List.mem_singleton.1 h2] at h1
  exact h1
theorem one_no {l : List (List UInt8)} {q : RS} (h : (oneD S l q).2.e ≠ 0) : (oneD S l q).1 = [] := by
  unfold oneD at h ⊢
  by_cases hb : (textD S (mostD l) q).2.e = 0 ∧ (textD S (mostD l) q).1 ∈ l
  · rw [if_pos hb] at h; exact absurd hb.1 h
  · rw [if_neg hb]
/-- What is read, from a place, of a tree. -/
def Read (o : Option (List UInt8)) (p : List UInt8) (q q' : RS) (tail : List UInt8) : Prop := ∃ l b, TI o p l b ∧ q'.l = q.l ++ l ∧ S.drop q.at' = b ++ (tail ++ S.drop q'.at') ∧ q.at' ≤ q'.at' ∧ q'.at' ≤ S.length
theorem file2_inv {p : List UInt8} {k : Int} {q : RS} (h : (file2D S p k q).e = 0) : ∃ d, d.length ≤ 65536 ∧ q.e = 0 ∧ (file2D S p k q).l = q.l ++ [⟨p, k, d⟩] ∧ S.drop q.at' = strL d ++ (strL tClose ++ S.drop (file2D S p k q).at') ∧ q.at' ≤ (file2D S p k q).at' ∧ (file2D S p k q).at' ≤ S.length := by
  unfold file2D at h ⊢
  have h1 := one_inv1 S h
  obtain ⟨z0, z1, z2, z3, z4, z5⟩ := h1
  obtain ⟨⟨y0, y1, y2, y3, y4, y5⟩, y6⟩ := text_inv S (m := 65536) (q := q) z0
  refine ⟨_, y6, y0, ?_, ?_, Nat.le_trans (Nat.le_of_lt y4) (Nat.le_of_lt z4), z5⟩
  · rw [z2]; show (textD S 65536 q).2.l ++ _ = _; rw [y2]
  · rw [y3]; congr 1
theorem took_e {q q' : RS} {s : List UInt8} (h : Took S q s q') : q.e = 0 := h.1
theorem file_inv {p : List UInt8} {q q0 : RS} (h : (fileD S p q).e = 0) (hh : S.drop q0.at' = strL tOpen ++ (strL tType ++ (strL tReg ++ S.drop q.at'))) (hl : q.l = q0.l) (ha : q0.at' ≤ q.at') : Read S none p q0 (fileD S p q) [] := by
  unfold fileD at h ⊢
  by_cases hx : (oneD S [tCont, tExec] q).1 = tExec
  · rw [if_pos hx] at h ⊢
    obtain ⟨d, w1, w2, w3, w4, w5, w6⟩ := file2_inv S h
    have c3 := one_inv1 S w2
    have c2 := one_inv1 S c3.1
    obtain ⟨c1, _⟩ := one_inv S c2.1
    rw [hx] at c1
    refine ⟨[⟨p, 2, d⟩], _, TI.exec p d w1, ?_, ?_, ?_, w6⟩
    · rw [w3, c3.2.2.1, c2.2.2.1, c1.2.2.1, hl]
    · rw [hh, c1.2.2.2.1, c2.2.2.2.1, c3.2.2.2.1, w4]; simp only [List.append_assoc, List.nil_append]
    · have := c1.2.2.2.2.1; have := c2.2.2.2.2.1; have := c3.2.2.2.2.1; omega
  · rw [if_neg hx] at h ⊢
    obtain ⟨d, w1, w2, w3, w4, w5, w6⟩ := file2_inv S h
    obtain ⟨c1, c2⟩ := one_inv S w2
    simp only [List.mem_cons, List.not_mem_nil, or_false] at c2
    rw [c2.resolve_right hx] at c1
    refine ⟨[⟨p, 1, d⟩], _, TI.file p d w1, ?_, ?_, ?_, w6⟩
    · rw [w3, c1.2.2.1, hl]
    · rw [hh, c1.2.2.2.1, w4]; simp only [List.append_assoc, List.nil_append]
    · have := c1.2.2.2.2.1; omega
theorem link_inv {p : List UInt8} {q q0 : RS} (h : (linkD S p q).e = 0) (hh : S.drop q0.at' = strL tOpen ++ (strL tType ++ (strL tSym ++ S.drop q.at'))) (hl : q.l = q0.l) (ha : q0.at' ≤ q.at') : Read S none p q0 (linkD S p q) [] := by
  unfold linkD link2D at h ⊢
  have c3 := one_inv1 S h
  have c3e := c3.1
  have w := wrong_inv (b := !(mayDataL ⟨p, 3, (textD S 4096 (oneD S [tTarg] q).2).1⟩)) (q := (textD S 4096 (oneD S [tTarg] q).2).2) c3e
  have c2 := text_inv S (m := 4096) (q := (oneD S [tTarg] q).2) (by rw [← w.1]; exact c3e)
  have c1 := one_inv1 S c2.1.1
  have hd : mayDataL ⟨p, 3, (textD S 4096 (oneD S [tTarg] q).2).1⟩ = true := by simpa using w.2
  refine ⟨[⟨p, 3, (textD S 4096 (oneD S [tTarg] q).2).1⟩], _, TI.link p _ hd, ?_, ?_, ?_, c3.2.2.2.2.2⟩
  · rw [c3.2.2.1]
    show (wrongD _ _).l ++ _ = _
    rw [w.1, c2.1.2.2.1, c1.2.2.1, hl]
  · have k := c3.2.2.2.1
    simp only [w.1] at k ⊢
    rw [hh, c1.2.2.2.1, c2.1.2.2.2.1, k]; simp only [List.append_assoc, List.nil_append]
  · have k := c3.2.2.2.2.1
    simp only [w.1] at k ⊢
    have := c1.2.2.2.2.1; have := c2.1.2.2.2.2.1; omega
theorem node_inv : ∀ f : Nat, (∀ (p : List UInt8) (q : RS), 2 * (S.length - q.at') + 2 ≤ f → (nodeD S f p q).e = 0 → q.e = 0 ∧ Read S none p q (nodeD S f p q) []) ∧
    (∀ (p last : List UInt8) (q : RS), 2 * (S.length - q.at') + 1 ≤ f → (dirD S f p last q).e = 0 → q.e = 0 ∧ Read S (some last) p q (dirD S f p last q) (strL tClose))
  | 0 => ⟨fun p q h => by omega, fun p last q h => by omega⟩
  | f + 1 => by
    obtain ⟨hN, hD⟩ := node_inv f
    constructor
    · intro p q hf he
      have h0 : q.e = 0 := Classical.byContradiction fun h0 => by rw [node_err S h0] at he; exact h0 he
      refine ⟨h0, ?_⟩
      rw [nodeD] at he ⊢
      have hz : (headD S q).2.e = 0 := Classical.byContradiction fun hz => by
        have hs : (headD S q).1 = [] := one_no S hz
        rw [hs] at he
        rw [kind_err S hz] at he
        exact hz he
      obtain ⟨c3, c4⟩ := one_inv S hz
      have c2 := one_inv1 S c3.1
      have c1 := one_inv1 S c2.1
      have e3 : S.drop q.at' = strL tOpen ++ (strL tType ++ (strL (headD S q).1 ++ S.drop (headD S q).2.at')) := by rw [c1.2.2.2.1, c2.2.2.2.1]; exact congrArg _ (congrArg _ c3.2.2.2.1)
      have l3 : (headD S q).2.l = q.l := by
        have := c3.2.2.1
        rw [c2.2.2.1, c1.2.2.1] at this
        exact this
      have a3 : q.at' < (headD S q).2.at' := Nat.lt_trans c1.2.2.2.2.1 (Nat.lt_trans c2.2.2.2.2.1 c3.2.2.2.2.1)
      have b3 : (headD S q).2.at' ≤ S.length := c3.2.2.2.2.2
      have c4' : (headD S q).1 ∈ [tReg, tSym, tDir] := c4
      generalize headD S q = hq at he hz e3 l3 a3 b3 c4' ⊢
      obtain ⟨s, q1⟩ := hq
      simp only [List.mem_cons, List.not_mem_nil, or_false] at he hz e3 l3 a3 b3 c4' ⊢
      rcases c4' with rfl | rfl | rfl
      · unfold kindD at he ⊢
        rw [if_pos rfl] at he ⊢
        exact file_inv S he e3 l3 (Nat.le_of_lt a3)
      · unfold kindD at he ⊢
        rw [if_neg (by decide), if_pos rfl] at he ⊢
        exact link_inv S he e3 l3 (Nat.le_of_lt a3)
      · unfold kindD at he ⊢
        rw [if_neg (by decide), if_neg (by decide), if_pos rfl] at he ⊢
        obtain ⟨_, l, b, t, k1, k2, k3, k4⟩ := hD p [] { q1 with l := q1.l ++ [⟨p, 4, []⟩] } (by show 2 * (S.length - q1.at') + 1 ≤ f; omega) he
        refine ⟨⟨p, 4, []⟩ :: l, _, TI.dir p l b t, ?_, ?_, ?_, k4⟩
        · rw [k1]; show (q1.l ++ _) ++ l = _; rw [l3]; simp
        · have k2' : S.drop q1.at' = b ++ (strL tClose ++ S.drop (dirD S f p [] { q1 with l := q1.l ++ [⟨p, 4, []⟩] }).at') := k2
          rw [e3, k2']; simp only [List.append_assoc, List.nil_append]
        · have h8 : q1.at' ≤ (dirD S f p [] { q1 with l := q1.l ++ [⟨p, 4, []⟩] }).at' := k3
          exact Nat.le_trans (Nat.le_of_lt a3) h8
    · intro p last q hf he
      have h0 : q.e = 0 := Classical.byContradiction fun h0 => by rw [dir_err S h0] at he; exact h0 he
      refine ⟨h0, ?_⟩
      rw [dirD, if_neg (by simp [h0])] at he ⊢
      by_cases hx : (oneD S [tEntry, tClose] q).1 ≠ tEntry
      · rw [if_pos hx] at he ⊢
        obtain ⟨c1, c2⟩ := one_inv S he
        simp only [List.mem_cons, List.not_mem_nil, or_false] at c2
        rw [c2.resolve_left hx] at c1
        refine ⟨[], [], TI.nil p last, ?_, ?_, Nat.le_of_lt c1.2.2.2.2.1, c1.2.2.2.2.2⟩
        · rw [c1.2.2.1]; simp
        · rw [c1.2.2.2.1]; simp
      · rw [if_neg hx] at he ⊢
        simp only at he ⊢
        have hx' : (oneD S [tEntry, tClose] q).1 = tEntry := Classical.byContradiction hx
        obtain ⟨q1, hq1⟩ : ∃ q1, q1 = (oneD S [tEntry, tClose] q).2 := ⟨_, rfl⟩
        rw [← hq1] at he ⊢
        obtain ⟨n, q4, hq4⟩ : ∃ n q4, nameD S q1 = (n, q4) := ⟨_, _, rfl⟩
        simp only [hq4] at he ⊢
        obtain ⟨q5, hq5⟩ : ∃ q5, q5 = entD S p last n q4 := ⟨_, rfl⟩
        simp only [← hq5] at he ⊢
        obtain ⟨q6, hq6⟩ : ∃ q6, q6 = (if q5.e = 0 then nodeD S f (joinL p n) q5 else q5) := ⟨_, rfl⟩
        simp only [← hq6] at he ⊢
        have e7 : (oneD S [tClose] q6).2.e = 0 := Classical.byContradiction fun h => by rw [dir_err S h] at he; exact h he
        have c7 := one_inv1 S e7
        have e5 : q5.e = 0 := Classical.byContradiction fun h => by
          rw [if_neg h] at hq6
          rw [hq6] at c7
          exact h c7.1
        rw [if_pos e5] at hq6
        -- the entry
        have e5' : (oneD S [tNode] (wrongD (badN p last n q4.l.length) q4)).2.e = 0 := by rw [hq5] at e5; exact e5
        have c5 := one_inv1 S e5'
        have w5 := wrong_inv c5.1
        rw [w5.1] at c5
        have ee : entD S p last n q4 = (oneD S [tNode] q4).2 := by unfold entD; rw [w5.1]
        rw [ee] at hq5
        rw [← hq5] at c5
        -- its name
        have hn4 : (textD S 255 (oneD S [tName] (oneD S [tOpen] q1).2).2) = (n, q4) := hq4
        obtain ⟨c4, c4l⟩ := text_inv S (m := 255) (q := (oneD S [tName] (oneD S [tOpen] q1).2).2) (by rw [hn4]; exact c5.1)
        rw [hn4] at c4 c4l
        have c3 := one_inv1 S c4.1
        have c2 := one_inv1 S c3.1
        obtain ⟨c1, _⟩ := one_inv S (l := [tEntry, tClose]) (q := q) (by rw [← hq1]; exact c2.1)
        rw [hx', ← hq1] at c1
        have a1 := c1.2.2.2.2.1
        have a2 := c2.2.2.2.2.1
        have a3 := c3.2.2.2.2.1
        have a4 := c4.2.2.2.2.1
        have a5 := c5.2.2.2.2.1
        have b5 := c5.2.2.2.2.2
        have b7 := c7.2.2.2.2.2
        simp only at a4 a5
        have hnode := hN (joinL p n) q5 (by omega) (by rw [← hq6]; exact c7.1)
        rw [← hq6] at hnode
        obtain ⟨_, l6, b6, t6, k1, k2, k3, k4⟩ := hnode
        have a7 := c7.2.2.2.2.1
        obtain ⟨_, l8, b8, t8, j1, j2, j3, j4⟩ := hD p n (oneD S [tClose] q6).2 (by omega) he
        have hb := w5.2
        unfold badN at hb
        simp only [Bool.or_eq_false_iff, Bool.not_eq_false', decide_eq_false_iff_not] at hb
        obtain ⟨⟨⟨m1, m2⟩, m3⟩, m4⟩ := hb
        refine ⟨l6 ++ l8, _, TI.cons p last n l6 b6 l8 b8 m1 m2 (by omega) t6 t8, ?_, ?_, by omega, j4⟩
        · rw [j1, c7.2.2.1, k1, c5.2.2.1, c4.2.2.1, c3.2.2.1, c2.2.2.1, c1.2.2.1, List.append_assoc]
        · rw [c1.2.2.2.1, c2.2.2.2.1, c3.2.2.2.1, c4.2.2.2.1, c5.2.2.2.1, k2, c7.2.2.2.1, j2]
          simp only [List.append_assoc, List.nil_append]
/-- What is read is packed to just those bytes. -/
theorem get_packs {l : List Nd} (h : getL S = (l, 0)) : mayL l = true ∧ treeL l = S := by
  rw [← get_eq S (2 * S.length + 2) (Nat.le_refl _)] at h
  unfold getD at h
  by_cases he : (getD1 S (2 * S.length + 2)).e ≠ 0
  · rw [if_pos he] at h
    exact absurd (congrArg Prod.snd h) he
  · rw [if_neg he] at h
    have he' : (getD1 S (2 * S.length + 2)).e = 0 := Classical.byContradiction he
    have hl : (getD1 S (2 * S.length + 2)).l = l := congrArg Prod.fst h
    unfold getD1 at he' hl
    simp only at he' hl
    obtain ⟨q1, hq1⟩ : ∃ q1, q1 = (oneD S [tMagic] ⟨0, [], 0⟩).2 := ⟨_, rfl⟩
    rw [← hq1] at he' hl
    obtain ⟨q2, hq2⟩ : ∃ q2, q2 = (if q1.e = 0 then nodeD S (2 * S.length + 2) [] q1 else q1) := ⟨_, rfl⟩
    rw [← hq2] at he' hl
    have w := wrong_inv he'
    rw [w.1] at he' hl
    have e1 : q1.e = 0 := Classical.byContradiction fun h => by
      rw [if_neg h] at hq2
      rw [hq2] at he'
      exact h he'
    rw [if_pos e1] at hq2
    have c1 := one_inv1 S (w := tMagic) (q := ⟨0, [], 0⟩) (by rw [← hq1]; exact e1)
    rw [← hq1] at c1
    obtain ⟨_, l2, b, t, k1, k2, k3, k4⟩ := (node_inv S (2 * S.length + 2)).1 [] q1 (by omega) (by rw [← hq2]; exact he')
    rw [← hq2] at k1 k2 k3 k4
    have hl1 : q1.l = [] := c1.2.2.1
    have hb := (node_dir_b S (2 * S.length + 2)).1 [] q1 ⟨c1.2.2.2.2.2, by rw [hl1]; exact Nat.zero_le _⟩ (by rw [hl1]; decide)
    rw [← hq2] at hb
    rw [hl1, List.nil_append] at k1
    have e2 : l2 = l := k1.symm.trans hl
    subst e2
    have hend : q2.at' = S.length := by
      have := w.2
      simp only [decide_eq_false_iff_not] at this
      omega
    obtain ⟨m1, m2⟩ := ti_may t (by rw [← k1]; exact hb.2)
    refine ⟨m1, ?_⟩
    have c14 : S.drop 0 = strL tMagic ++ S.drop q1.at' := c1.2.2.2.1
    rw [List.drop_zero] at c14
    rw [m2]
    rw [hend, List.drop_length, List.append_nil] at k2
    rw [c14, k2]
    simp
end
end Go.Proofs.Ytglipljilcdboaa
namespace Go.Proofs.Ytglipljilcdboaa
set_option linter.unusedVariables false
set_option linter.unusedSimpArgs false
section
variable (S : List UInt8)
theorem text_fwd {m : Nat} {q : RS} {s x : List UInt8} (h0 : q.e = 0) (h : S.drop q.at' = strL s ++ x) (hm : s.length ≤ m) (hs : s.length < 18446744073709551616) : textD S m q = (s, onto q s) ∧ S.drop (onto q s).at' = x := by
  have hc : cutT m (S.drop q.at') = .ok s x := by rw [h]; exact cut_str x hm hs
  refine ⟨text_ok S h0 hc, ?_⟩
  have hl := cut_ok_len hc
  rw [hl.2.1, List.drop_drop]; rfl
theorem most_le' {l : List (List UInt8)} {s : List UInt8} (h : s ∈ l) : s.length ≤ mostD l := by
  unfold mostD
  have key : ∀ (l : List (List UInt8)) (m : Nat), m ≤ l.foldl (fun m w => max m w.length) m ∧ ∀ s ∈ l, s.length ≤ l.foldl (fun m w => max m w.length) m := by
    intro l
    induction l with
    | nil => intro m; exact ⟨Nat.le_refl _, fun s h => by cases h⟩
    | cons w l ih =>
      intro m
      obtain ⟨k1, k2⟩ := ih (max m w.length)
      refine ⟨by simp only [List.foldl_cons]; omega, fun s h => ?_⟩
      simp only [List.foldl_cons]
      rcases List.mem_cons.1 h with rfl | h
      · omega
      · exact k2 s h
  exact (key l 0).2 s h
theorem one_fwd {l : List (List UInt8)} {q : RS} {s x : List UInt8} (h0 : q.e = 0) (h : S.drop q.at' = strL s ++ x) (hm : s ∈ l) (hs : s.length < 18446744073709551616) : oneD S l q = (s, onto q s) ∧ S.drop (onto q s).at' = x := by
  obtain ⟨h1, h2⟩ := text_fwd S h0 h (most_le' hm) hs
  refine ⟨?_, h2⟩
  unfold oneD
  rw [h1, if_pos ⟨h0, hm⟩]
theorem onto_len {q : RS} {s x : List UInt8} (h : S.drop q.at' = strL s ++ x) : q.at' + 8 ≤ S.length ∧ q.at' < (onto q s).at' ∧ (onto q s).e = q.e ∧ (onto q s).l = q.l := by
  have := congrArg List.length h
  rw [List.length_drop, List.length_append, strL_len] at this
  exact ⟨by omega, by show q.at' < q.at' + _; omega, rfl, rfl⟩
def goes (q q' : RS) (l : List Nd) (rest : List UInt8) : Prop := q'.e = 0 ∧ q'.l = q.l ++ l ∧ S.drop q'.at' = rest ∧ q.at' ≤ q'.at'
/-- The name of any text has fewer bytes than a word tells. -/
theorem name_small {n : List UInt8} (h : mayNameL n = true) : n.length ≤ 255 := by
  unfold mayNameL at h
  simp at h
  omega
theorem link_small {p d : List UInt8} (h : mayDataL ⟨p, 3, d⟩ = true) : d.length ≤ 4096 := by
  unfold mayDataL at h
  simp at h
  omega
theorem head_fwd {q : RS} {s x : List UInt8} (h0 : q.e = 0) (h : S.drop q.at' = strL tOpen ++ (strL tType ++ (strL s ++ x))) (hs : s ∈ [tReg, tSym, tDir]) : headD S q = (s, onto (onto (onto q tOpen) tType) s) ∧ S.drop (onto (onto (onto q tOpen) tType) s).at' = x := by
  obtain ⟨a1, a2⟩ := one_fwd S (l := [tOpen]) h0 h (by simp) (by decide)
  obtain ⟨b1, b2⟩ := one_fwd S (l := [tType]) (q := onto q tOpen) h0 a2 (by simp) (by decide)
  obtain ⟨c1, c2⟩ := one_fwd S (l := [tReg, tSym, tDir]) (q := onto (onto q tOpen) tType) h0 b2 hs (by
    simp only [List.mem_cons, List.not_mem_nil, or_false] at hs
    rcases hs with rfl | rfl | rfl <;> decide)
  refine ⟨?_, c2⟩
  unfold headD
  rw [a1, b1, c1]
theorem file2_fwd {p d x : List UInt8} {k : Int} {q : RS} (h0 : q.e = 0) (h : S.drop q.at' = strL d ++ (strL tClose ++ x)) (hd : d.length ≤ 65536) : goes S q (file2D S p k q) [⟨p, k, d⟩] x := by
  obtain ⟨a1, a2⟩ := text_fwd S h0 h hd (by omega)
  obtain ⟨b1, b2⟩ := one_fwd S (l := [tClose]) (q := { onto q d with l := (onto q d).l ++ [⟨p, k, d⟩] }) h0 a2 (by simp) (by decide)
  unfold file2D
  rw [a1]
  simp only
  rw [b1]
  exact ⟨h0, rfl, b2, by show q.at' ≤ q.at' + _ + _; omega⟩
theorem node_fwd {o : Option (List UInt8)} {p b : List UInt8} {l : List Nd} (t : TI o p l b) :
    (o = none → ∀ (q : RS) (x : List UInt8) (f : Nat), q.e = 0 → S.drop q.at' = b ++ x → q.l.length + l.length ≤ 256 → 2 * (S.length - q.at') + 2 ≤ f → goes S q (nodeD S f p q) l x) ∧
    (∀ last, o = some last → ∀ (q : RS) (x : List UInt8) (f : Nat), q.e = 0 → S.drop q.at' = b ++ (strL tClose ++ x) → q.l.length + l.length ≤ 256 → 2 * (S.length - q.at') + 1 ≤ f → goes S q (dirD S f p last q) l x) := by
  induction t with
  | file p d h =>
    refine ⟨fun _ q x f h0 hS hl hf => ?_, fun last h => by cases h⟩
    obtain ⟨g, rfl⟩ : ∃ g, f = g + 1 := ⟨f - 1, by omega⟩
    simp only [List.append_assoc] at hS
    obtain ⟨a1, a2⟩ := head_fwd S h0 hS (by simp)
    rw [nodeD, a1]
    simp only
    unfold kindD
    rw [if_pos rfl]
    obtain ⟨q3, hq3⟩ : ∃ q3, q3 = onto (onto (onto q tOpen) tType) tReg := ⟨_, rfl⟩
    rw [← hq3] at a2 ⊢
    have e3 : q3.e = 0 := by rw [hq3]; exact h0
    have l3 : q3.l = q.l := by rw [hq3]; rfl
    have p3 : q.at' ≤ q3.at' := by rw [hq3]; show q.at' ≤ q.at' + _ + _ + _; omega
    obtain ⟨b1, b2⟩ := one_fwd S (l := [tCont, tExec]) e3 a2 (by simp) (by decide)
    unfold fileD
    rw [b1, if_neg (show ¬ tCont = tExec by decide)]
    have := file2_fwd S (p := p) (k := 1) (q := onto q3 tCont) (d := d) (x := x) e3 b2 h
    exact ⟨this.1, by rw [this.2.1]; show q3.l ++ _ = _; rw [l3], this.2.2.1, Nat.le_trans p3 (Nat.le_trans (by show q3.at' ≤ q3.at' + _; omega) this.2.2.2)⟩
  | exec p d h =>
    refine ⟨fun _ q x f h0 hS hl hf => ?_, fun last h => by cases h⟩
    obtain ⟨g, rfl⟩ : ∃ g, f = g + 1 := ⟨f - 1, by omega⟩
    simp only [List.append_assoc] at hS
    obtain ⟨a1, a2⟩ := head_fwd S h0 hS (by simp)
    rw [nodeD, a1]
    simp only
    unfold kindD
    rw [if_pos rfl]
    obtain ⟨q3, hq3⟩ : ∃ q3, q3 = onto (onto (onto q tOpen) tType) tReg := ⟨_, rfl⟩
    rw [← hq3] at a2 ⊢
    have e3 : q3.e = 0 := by rw [hq3]; exact h0
    have l3 : q3.l = q.l := by rw [hq3]; rfl
    have p3 : q.at' ≤ q3.at' := by rw [hq3]; show q.at' ≤ q.at' + _ + _ + _; omega
    obtain ⟨b1, b2⟩ := one_fwd S (l := [tCont, tExec]) e3 a2 (by simp) (by decide)
    obtain ⟨c1, c2⟩ := one_fwd S (l := [[]]) (q := onto q3 tExec) e3 b2 (by simp) (by decide)
    obtain ⟨d1, d2⟩ := one_fwd S (l := [tCont]) (q := onto (onto q3 tExec) []) e3 c2 (by simp) (by decide)
    unfold fileD
    rw [b1, if_pos rfl]
    simp only
    rw [c1]
    simp only
    rw [d1]
    have := file2_fwd S (p := p) (k := 2) (q := onto (onto (onto q3 tExec) []) tCont) (d := d) (x := x) e3 d2 h
    exact ⟨this.1, by rw [this.2.1]; show q3.l ++ _ = _; rw [l3], this.2.2.1, Nat.le_trans p3 (Nat.le_trans (by show q3.at' ≤ q3.at' + _ + _ + _; omega) this.2.2.2)⟩
  | link p d h =>
    refine ⟨fun _ q x f h0 hS hl hf => ?_, fun last h => by cases h⟩
    obtain ⟨g, rfl⟩ : ∃ g, f = g + 1 := ⟨f - 1, by omega⟩
    simp only [List.append_assoc] at hS
    obtain ⟨a1, a2⟩ := head_fwd S h0 hS (by simp)
    rw [nodeD, a1]
    simp only
    unfold kindD
    rw [if_neg (by decide), if_pos rfl]
    obtain ⟨q3, hq3⟩ : ∃ q3, q3 = onto (onto (onto q tOpen) tType) tSym := ⟨_, rfl⟩
    rw [← hq3] at a2 ⊢
    have e3 : q3.e = 0 := by rw [hq3]; exact h0
    have l3 : q3.l = q.l := by rw [hq3]; rfl
    have p3 : q.at' ≤ q3.at' := by rw [hq3]; show q.at' ≤ q.at' + _ + _ + _; omega
    obtain ⟨b1, b2⟩ := one_fwd S (l := [tTarg]) e3 a2 (by simp) (by decide)
    obtain ⟨c1, c2⟩ := text_fwd S (m := 4096) (q := onto q3 tTarg) e3 b2 (link_small h) (Nat.lt_of_le_of_lt (link_small h) (by decide))
    unfold linkD
    rw [b1]
    simp only
    rw [c1]
    simp only
    unfold link2D
    have w : wrongD (!(mayDataL ⟨p, 3, d⟩)) (onto (onto q3 tTarg) d) = onto (onto q3 tTarg) d := by unfold wrongD; rw [h, if_neg (by simp)]
    rw [w]
    obtain ⟨d1, d2⟩ := one_fwd S (l := [tClose]) (q := { onto (onto q3 tTarg) d with l := (onto (onto q3 tTarg) d).l ++ [⟨p, 3, d⟩] }) e3 c2 (by simp) (by decide)
    rw [d1]
    exact ⟨e3, by show q3.l ++ _ = _; rw [l3], d2, Nat.le_trans p3 (by show q3.at' ≤ q3.at' + _ + _ + _; omega)⟩
  | dir p r b h ih =>
    refine ⟨fun _ q x f h0 hS hl hf => ?_, fun last h => by cases h⟩
    obtain ⟨g, rfl⟩ : ∃ g, f = g + 1 := ⟨f - 1, by omega⟩
    simp only [List.append_assoc] at hS
    obtain ⟨a1, a2⟩ := head_fwd S h0 hS (by simp)
    rw [nodeD, a1]
    simp only
    unfold kindD
    rw [if_neg (by decide), if_neg (by decide), if_pos rfl]
    have p0 := (onto_len S hS).1
    obtain ⟨q3, hq3⟩ : ∃ q3, q3 = onto (onto (onto q tOpen) tType) tDir := ⟨_, rfl⟩
    rw [← hq3] at a2 ⊢
    have e3 : q3.e = 0 := by rw [hq3]; exact h0
    have l3 : q3.l = q.l := by rw [hq3]; rfl
    have p3 : q.at' < q3.at' := by rw [hq3]; show q.at' < q.at' + _ + _ + _; omega
    have := ih.2 [] rfl { q3 with l := q3.l ++ [⟨p, 4, []⟩] } x g e3 a2 (by show (q3.l ++ [_]).length + _ ≤ _; rw [l3]; simp at hl ⊢; omega) (by show 2 * (S.length - q3.at') + 1 ≤ g; omega)
    refine ⟨this.1, ?_, this.2.2.1, Nat.le_trans (Nat.le_of_lt p3) this.2.2.2⟩
    rw [this.2.1]
    show (q3.l ++ _) ++ r = _
    rw [l3]; simp
  | nil p last =>
    refine ⟨(fun h => by cases h), fun last' h q x f h0 hS hl hf => ?_⟩
    cases h
    obtain ⟨g, rfl⟩ : ∃ g, f = g + 1 := ⟨f - 1, by omega⟩
    rw [List.nil_append] at hS
    obtain ⟨a1, a2⟩ := one_fwd S (l := [tEntry, tClose]) h0 hS (by simp) (by decide)
    rw [dirD, if_neg (by simp [h0]), a1, if_pos (show tClose ≠ tEntry by decide)]
    exact ⟨h0, by show q.l = _; simp, a2, by show q.at' ≤ q.at' + _; omega⟩
  | cons p last n l b r c h1 h2 h3 h4 h5 ih4 ih5 =>
    refine ⟨(fun h => by cases h), fun last' h q x f h0 hS hl hf => ?_⟩
    cases h
    obtain ⟨g, rfl⟩ : ∃ g, f = g + 1 := ⟨f - 1, by omega⟩
    simp only [List.append_assoc] at hS
    have p0 := (onto_len S hS).1
    obtain ⟨a1, a2⟩ := one_fwd S (l := [tEntry, tClose]) h0 hS (by simp) (by decide)
    obtain ⟨b1, b2⟩ := one_fwd S (l := [tOpen]) (q := onto q tEntry) h0 a2 (by simp) (by decide)
    obtain ⟨c1, c2⟩ := one_fwd S (l := [tName]) (q := onto (onto q tEntry) tOpen) h0 b2 (by simp) (by decide)
    have hn := name_small h1
    obtain ⟨d1, d2⟩ := text_fwd S (m := 255) (q := onto (onto (onto q tEntry) tOpen) tName) h0 c2 hn (by omega)
    obtain ⟨q4, hq4⟩ : ∃ q4, q4 = onto (onto (onto (onto q tEntry) tOpen) tName) n := ⟨_, rfl⟩
    rw [← hq4] at d1 d2
    have e4 : q4.e = 0 := by rw [hq4]; exact h0
    have l4 : q4.l = q.l := by rw [hq4]; rfl
    have p4 : q.at' < q4.at' := by rw [hq4]; show q.at' < q.at' + _ + _ + _ + _; omega
    obtain ⟨k1, k2⟩ := one_fwd S (l := [tNode]) e4 d2 (by simp) (by decide)
    rw [dirD, if_neg (by simp [h0]), a1, if_neg (by simp)]
    simp only
    have en : nameD S (onto q tEntry) = (n, q4) := by unfold nameD; rw [b1]; simp only; rw [c1]; exact d1
    rw [en]
    simp only
    obtain ⟨d, r1, rfl, hd⟩ := (ti_head h4).1 rfl
    have hcount : q.l.length < 256 := by simp at hl; omega
    have hbad : badN p last n q4.l.length = false := by
      unfold badN
      rw [h1, h2, l4]
      simp only [Bool.not_true, Bool.false_or, Bool.or_eq_false_iff, decide_eq_false_iff_not]
      omega
    have ee : entD S p last n q4 = onto q4 tNode := by
      unfold entD
      have w : wrongD (badN p last n q4.l.length) q4 = q4 := by unfold wrongD; rw [hbad, if_neg (by simp)]
      rw [w, k1]
    rw [ee, if_pos (show (onto q4 tNode).e = 0 from e4)]
    have p5 := (onto_len S d2).1
    have hlen1 : (onto q4 tNode).l.length + (d :: r1).length ≤ 256 := by
      show q4.l.length + _ ≤ _
      rw [l4]; simp at hl ⊢; omega
    have p6 : q4.at' < (onto q4 tNode).at' := (onto_len S d2).2.1
    obtain ⟨m1, m2, m3, m4⟩ := ih4.1 rfl (onto q4 tNode) (strL tClose ++ (c ++ (strL tClose ++ x))) g e4 k2 hlen1 (by omega)
    obtain ⟨q6, hq6⟩ : ∃ q6, q6 = nodeD S g (joinL p n) (onto q4 tNode) := ⟨_, rfl⟩
    rw [← hq6] at m1 m2 m3 m4 ⊢
    obtain ⟨v1, v2⟩ := one_fwd S (l := [tClose]) m1 m3 (by simp) (by decide)
    rw [v1]
    simp only
    have l6 : q6.l = q.l ++ (d :: r1) := by rw [m2]; show q4.l ++ _ = _; rw [l4]
    have p7 := (onto_len S m3)
    have hlen2 : (onto q6 tClose).l.length + r.length ≤ 256 := by
      show q6.l.length + _ ≤ _
      rw [l6]; simp at hl ⊢; omega
    obtain ⟨w1, w2, w3, w4⟩ := ih5.2 n rfl (onto q6 tClose) x g m1 v2 hlen2 (by omega)
    refine ⟨w1, ?_, w3, by omega⟩
    rw [w2]
    show q6.l ++ r = _
    rw [l6, List.append_assoc]
end
/-- What may be is read from its bytes. -/
theorem may_gets {l : List Nd} (h : mayL l = true) : getL (treeL l) = (l, 0) := by
  obtain ⟨b, t, ht, hl⟩ := ti_of_may h
  rw [← get_eq (treeL l) (2 * (treeL l).length + 2) (Nat.le_refl _)]
  obtain ⟨S, hS⟩ : ∃ S, S = treeL l := ⟨_, rfl⟩
  rw [← hS] at ht ⊢
  obtain ⟨a1, a2⟩ := one_fwd S (l := [tMagic]) (q := ⟨0, [], 0⟩) (s := tMagic) (x := b) rfl (by rw [← ht]; rfl) (by simp) (by decide)
  have hb : S.drop (onto ⟨0, [], 0⟩ tMagic).at' = b ++ [] := by rw [List.append_nil]; exact a2
  obtain ⟨k1, k2, k3, k4⟩ := (node_fwd S t).1 rfl (onto ⟨0, [], 0⟩ tMagic) [] (2 * S.length + 2) rfl hb (by show 0 + _ ≤ _; omega) (by omega)
  have hend := List.drop_eq_nil_iff.1 k3
  have e : getD1 S (2 * S.length + 2) = nodeD S (2 * S.length + 2) [] (onto ⟨0, [], 0⟩ tMagic) := by
    unfold getD1
    simp only
    rw [a1, if_pos (show (onto (⟨0, [], 0⟩ : RS) tMagic).e = 0 from rfl)]
    simp only
    unfold wrongD
    rw [decide_eq_false (by omega), if_neg (by simp)]
  unfold getD
  rw [e, if_neg (by simp [k1]), k2]
  rfl
/-- What comes of the bytes of a tree, ahead of the end. -/
theorem may_runs {l : List Nd} (h : mayL l = true) : ∃ t, runM t0 (treeL l) = some (t, []) ∧ t.pl = 17 ∧ t.nodes = l := by
  have hg := may_gets h
  unfold getL finR at hg
  cases hr : runM t0 (treeL l) with
  | none => rw [hr] at hg; exact absurd (congrArg Prod.snd hg) (show (4 : Int) ≠ 0 by decide)
  | some y =>
    obtain ⟨t, b⟩ := y
    rw [hr] at hg
    simp only [finM] at hg
    by_cases h17 : t.pl = 17
    · rw [if_pos h17] at hg
      have hs := run_stuck _ t0 (treeL l) t b (Nat.le_refl _) hr
      have hb : b = [] := Classical.byContradiction fun hb => by
        obtain ⟨m, hm, _⟩ := hs.2 hb
        rw [h17] at hm
        cases hm
      exact ⟨t, by rw [hb], h17, congrArg Prod.fst hg⟩
    · rw [if_neg h17] at hg; exact absurd (congrArg Prod.snd hg) (show (5 : Int) ≠ 0 by decide)
/-- Cut anywhere more is needed. -/
theorem cut_gets {l : List Nd} (h : mayL l = true) {a b : List UInt8} (hab : treeL l = a ++ b) (hb : b ≠ []) : getL a = ([], 5) ∧ ∃ t c, runM t0 a = some (t, c) ∧ t.pl ≠ 17 := by
  obtain ⟨t, h1, h2, h3⟩ := may_runs h
  rw [hab, runM_app] at h1
  unfold getL finR
  cases hr : runM t0 a with
  | none => rw [hr] at h1; cases h1
  | some y =>
    obtain ⟨t', c⟩ := y
    have hn : t'.pl ≠ 17 := fun h17 => by
      have hne : c ++ b ≠ [] := fun e => hb (List.append_eq_nil_iff.1 e).2
      have h1' : runM t' (c ++ b) = some (t, []) := by rw [hr] at h1; exact h1
      rw [show runM t' (c ++ b) = none from runM_none hne (by rw [h17]; rfl)] at h1'
      cases h1'
    exact ⟨by simp [finM, hn], t', c, rfl, hn⟩
/-- With bytes behind it is none. -/
theorem more_gets {l : List Nd} (h : mayL l = true) {b : List UInt8} (hb : b ≠ []) : getL (treeL l ++ b) = ([], 4) := by
  obtain ⟨t, h1, h2, h3⟩ := may_runs h
  unfold getL finR
  rw [runM_app, h1]
  show finM (runM t ([] ++ b)) = _
  rw [show runM t ([] ++ b) = none from runM_none (by simpa using hb) (by rw [h2]; rfl)]
  rfl
end Go.Proofs.Ytglipljilcdboaa
namespace Go.Proofs.Ytglipljilcdboaa
open Go.RowKit Go.Shelf
set_option linter.unusedVariables false
set_option linter.unusedSimpArgs false
section
open E
theorem ti_bnd {o : Option (List UInt8)} {p b : List UInt8} {l : List Nd} (t : TI o p l b) : ∀ c ∈ l, c.path.length ≤ p.length + b.length ∧ c.data.length ≤ b.length := by
  have sl : ∀ s : List UInt8, s.length + 8 ≤ (strL s).length := fun s => by rw [strL_len]; omega
  induction t with
  | file p d h =>
    intro c hc
    obtain rfl := List.mem_singleton.1 hc
    have := sl d
    simp only [List.length_append]
    exact ⟨by omega, by omega⟩
  | exec p d h =>
    intro c hc
    obtain rfl := List.mem_singleton.1 hc
    have := sl d
    simp only [List.length_append]
    exact ⟨by omega, by omega⟩
  | link p d h =>
    intro c hc
    obtain rfl := List.mem_singleton.1 hc
    have := sl d
    simp only [List.length_append]
    exact ⟨by omega, by omega⟩
  | dir p r b h ih =>
    intro c hc
    simp only [List.length_append]
    rcases List.mem_cons.1 hc with rfl | hc
    · exact ⟨Nat.le_add_right _ _, Nat.zero_le _⟩
    · have := ih c hc
      exact ⟨by omega, by omega⟩
  | nil p last => intro c hc; cases hc
  | cons p last n l b r c h1 h2 h3 h4 h5 ih4 ih5 =>
    intro e he
    simp only [List.length_append]
    have hj : (joinL p n).length ≤ p.length + 1 + n.length := by
      unfold joinL
      split
      · omega
      · rw [List.length_append, List.length_cons]; omega
    have := sl n
    rcases List.mem_append.1 he with he | he
    · have := ih4 e he
      exact ⟨by omega, by omega⟩
    · have := ih5 e he
      exact ⟨by omega, by omega⟩
theorem costs_le (K : Nat) : ∀ l : List Nd, (∀ c ∈ l, 300 + c.path.length + c.data.length ≤ K) → costs l ≤ l.length * K
  | [], _ => Nat.zero_le _
  | c :: l, h => by
    rw [costs_cons, List.length_cons, Nat.succ_mul]
    have := h c (by simp)
    have := costs_le K l (fun d hd => h d (by simp [hd]))
    omega
/-- What packing wants of nodes. -/
def fitL (L : List Nd) : Prop := mayL L = true ∧ L.length ≤ 256 ∧ (∀ c ∈ L, c.path.length ≤ 1000000) ∧ (∀ c ∈ L, c.data.length ≤ 1000000) ∧ costs L ≤ 100000000000000
theorem fit_get {s : List UInt8} {L : List Nd} (h : getL s = (L, 0)) (hs : s.length ≤ 6000) : fitL L ∧ treeL L = s := by
  obtain ⟨h1, h2⟩ := get_packs s h
  obtain ⟨b, t, h3, h4⟩ := ti_of_may h1
  have hb : b.length ≤ 6000 := by
    have := congrArg List.length h3
    rw [h2, List.length_append] at this
    omega
  have hk := ti_bnd t
  have hk2 : ∀ c ∈ L, c.path.length ≤ 6000 ∧ c.data.length ≤ 6000 := fun c hc => by have := hk c hc; simp only [List.length_nil] at this; omega
  refine ⟨⟨h1, h4, fun c hc => by have := hk2 c hc; omega, fun c hc => by have := hk2 c hc; omega, ?_⟩, h2⟩
  have := costs_le 12300 L (fun c hc => by have := hk2 c hc; omega)
  have : L.length * 12300 ≤ 256 * 12300 := Nat.mul_le_mul_right _ h4
  omega
abbrev hPkL (r : Nat) (L : List Nd) : Hint := pr 18 (fun ρ => #[(TV.s (.lf (slN r L.length))).val ρ]) (.s (.agg [.one (.v (stv (treeL L))), .one (.v (.int .i64 0))])) [(r, rowN L L.length)]
theorem hPkL_ok (id r : Nat) {L : List Nd} (hL : fitL L) : HintOk Try.prog id (hPkL r L) := by
  obtain ⟨g1, g2, g3, g4, g5⟩ := hL
  refine pr_ok ent18 (v := .agg #[stv (treeL L), .int .i64 0]) (fun p hp => ?_) (fun _ => rfl) fun ρ w h => ?_
  · simp only [List.mem_cons, List.not_mem_nil, or_false] at hp
    rcases hp with rfl | rfl <;> rfl
  have h1 := h (r, rowN L L.length) (by simp)
  have z := rowN_z h1
  have e1 : (TV.s (.lf (slN r L.length))).val ρ = slV (ρ r).1 0 L.length (ρ r).3 := slN_val rfl z
  rw [e1]
  have hp : packV L = .agg #[stv (treeL L), .int .i64 0] := by
    unfold packV packL
    rw [g1]; rfl
  rw [← hp]
  cases L with
  | nil => simp [mayL] at g1
  | cons d r => exact pack_pos _ 0 _ d r (by simp at g2; omega) g3 g4 g5 w (nodes_of h1)
end
end Go.Proofs.Ytglipljilcdboaa
namespace Go.Proofs.Ytglipljilcdboaa
open Go.RowKit Go.Shelf
set_option linter.unusedVariables false
set_option linter.unusedSimpArgs false
section
open E
set_option maxRecDepth 100000 in
theorem repacks_any (s : List UInt8) (w : World) : Calls Try.prog 5 #[stv s] w fun e w' => e = .returned (.bool true) ∧ Below w.heap.size w w' := by
  refine At.calls (args := [.v (stv s)]) (rows := []) (gl := []) (wr := []) (ρ := fun _ => (⟨0, 0, 0⟩ : Blk)) Try.func5 rfl rfl (init_rw ⟨rfl, trivial⟩ rfl rfl rfl (fun p hp => by cases hp) (fun p hp => by cases hp) (fun p hp => by cases hp)) rfl ?_
  by_cases h6 : 6000 < s.length
  · exact At.fin rfl [(3000, hAw)] ⟨hAw_ok _, trivial⟩ [.y] (x := .v (.bool true)) (ob := [[decide ((s.length : Int) > 6000) = true], qL hAw].flatten) (by kernel_rfl) (all_flat ⟨⟨decide_eq_true (by omega), trivial⟩, all_qL _, trivial⟩) fun ρ' w' hf _ => ⟨rfl, hf.below⟩
  have h60 : decide ((s.length : Int) > 6000) = false := decide_eq_false (by omega)
  have hs : s.length ≤ 100000000000 := by omega
  rcases getL_cases s with ⟨L, hL, hn⟩ | ⟨e, hE, he⟩
  · obtain ⟨hfit, hT⟩ := fit_get hL (by omega)
    exact At.fin rfl [(4001, hP0 4001 s L), (5001, hEr 0), (7001, hPkL 4001 L), (2008007, .val (.v (.bool true))), (8010, hAw)] ⟨hP0_ok _ hs hL, hEr_ok _ _, hPkL_ok _ _ hfit, trivial, hAw_ok _, trivial⟩ [.n, .n] (x := .v (.bool true)) (ob := [[decide ((s.length : Int) > 6000) = false], qL (hP0 4001 s L), qL (hEr 0), [false = false], qL (hPkL 4001 L), [TV.v (.bool (treeL L == s)) = TV.v (.bool true)], qL hAw].flatten) (by kernel_rfl) (all_flat ⟨⟨h60, trivial⟩, all_qL _, all_qL _, ⟨rfl, trivial⟩, all_qL _, ⟨by rw [hT, beq_self_eq_true], trivial⟩, all_qL _, trivial⟩) fun ρ' w' hf _ => ⟨rfl, hf.below⟩
  · exact At.fin rfl [(4001, hP1 s e), (5001, hEr e), (6004, hAw)] ⟨hP1_ok _ hs hE he, hEr_ok _ _, hAw_ok _, trivial⟩ [.n, .y] (x := .v (.bool true)) (ob := [[decide ((s.length : Int) > 6000) = false], qL (hP1 s e), qL (hEr e), [(e != 0) = true], qL hAw].flatten) (by kernel_rfl) (all_flat ⟨⟨h60, trivial⟩, all_qL _, all_qL _, ⟨by simpa using he, trivial⟩, all_qL _, trivial⟩) fun ρ' w' hf _ => ⟨rfl, hf.below⟩
end
end Go.Proofs.Ytglipljilcdboaa
