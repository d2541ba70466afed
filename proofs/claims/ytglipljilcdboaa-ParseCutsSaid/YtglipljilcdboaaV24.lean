/- Several texts, one behind the other; each says by itself what it proves, and on what conditions. -/
import Derived.Test.YtglipljilcdboaaV23
/- What stands between two places where the document's reader begins and ends a node: the bytes of the nodes that it added; so what is read is packed to just those bytes, and what may be is read from its bytes. No condition but what each names. -/
namespace Go.Proofs.Ytglipljilcdboaa
set_option linter.unusedVariables false
set_option linter.unusedSimpArgs false
/-- A tree with its bytes: a node at a path; what stands in a directory behind a name. -/
inductive TI : Option (List UInt8) → List UInt8 → List Nd → List UInt8 → Prop
  | file (p d : List UInt8) (h : d.length ≤ 65536) : TI none p [⟨p, 1, d⟩] (strL tOpen ++ (strL tType ++ (strL tReg ++ (strL tCont ++ (strL d ++ strL tClose)))))
  | exec (p d : List UInt8) (h : d.length ≤ 65536) : TI none p [⟨p, 2, d⟩] (strL tOpen ++ (strL tType ++ (strL tReg ++ (strL tExec ++ (strL [] ++ (strL tCont ++ (strL d ++ strL tClose)))))))
  | link (p d : List UInt8) (h : mayDataL ⟨p, 3, d⟩ = true) : TI none p [⟨p, 3, d⟩] (strL tOpen ++ (strL tType ++ (strL tSym ++ (strL tTarg ++ (strL d ++ strL tClose)))))
  | dir (p : List UInt8) (r : List Nd) (b : List UInt8) (h : TI (some []) p r b) : TI none p (⟨p, 4, []⟩ :: r) (strL tOpen ++ (strL tType ++ (strL tDir ++ (b ++ strL tClose))))
  | nil (p last : List UInt8) : TI (some last) p [] []
  | cons (p last n : List UInt8) (l : List Nd) (b : List UInt8) (r : List Nd) (c : List UInt8) (h1 : mayNameL n = true) (h2 : ltL last n = true) (h3 : deepL (joinL p n) ≤ 64) (h4 : TI none (joinL p n) l b) (h5 : TI (some n) p r c) :
      TI (some last) p (l ++ r) (strL tEntry ++ (strL tOpen ++ (strL tName ++ (strL n ++ (strL tNode ++ (b ++ (strL tClose ++ c)))))))
theorem ti_head {o : Option (List UInt8)} {p b : List UInt8} {l : List Nd} (h : TI o p l b) : (o = none → ∃ d r, l = d :: r ∧ d.path = p) ∧ (o ≠ none → l = [] ∨ ∃ e r m, l = e :: r ∧ e.path = joinL p m ∧ m ≠ [] ∧ (47 : UInt8) ∉ m) := by
  induction h with
  | file p d h => exact ⟨fun _ => ⟨_, _, rfl, rfl⟩, fun h => absurd rfl h⟩
  | exec p d h => exact ⟨fun _ => ⟨_, _, rfl, rfl⟩, fun h => absurd rfl h⟩
  | link p d h => exact ⟨fun _ => ⟨_, _, rfl, rfl⟩, fun h => absurd rfl h⟩
  | dir p r b h ih => exact ⟨fun _ => ⟨_, _, rfl, rfl⟩, fun h => absurd rfl h⟩
  | nil p last => exact ⟨(fun h => by cases h), fun _ => .inl rfl⟩
  | cons p last n l b r c h1 h2 h3 h4 h5 ih4 ih5 =>
    refine ⟨(fun h => by cases h), fun _ => .inr ?_⟩
    obtain ⟨d, r1, rfl, hd⟩ := ih4.1 rfl
    have hn : n ≠ [] ∧ (47 : UInt8) ∉ n := by
      unfold mayNameL at h1
      simp at h1
      refine ⟨?_, h1.1.1.2⟩
      rintro rfl
      simp at h1
    exact ⟨d, r1 ++ r, n, rfl, hd, hn.1, hn.2⟩
theorem may_ne {n : List UInt8} (h1 : mayNameL n = true) : n ≠ [] ∧ (47 : UInt8) ∉ n := by
  unfold mayNameL at h1
  simp at h1
  refine ⟨?_, h1.1.1.2⟩
  rintro rfl
  simp at h1
theorem not_below_name {p : List UInt8} {e : Nd} (h : ¬ below p e.path) : nameL e.path p = [] := by
  apply Classical.byContradiction
  intro hn
  obtain ⟨h1, _⟩ := name_join hn
  exact h (by rw [h1]; exact join_below _ _)
def topH (p : List UInt8) (rest : List Nd) : Prop := ∀ e r2, rest = e :: r2 → ¬ below p e.path
/-- The document's bytes of nodes that are a tree are those; what is left is what stood behind. -/
theorem ti_byt {o : Option (List UInt8)} {p b : List UInt8} {l : List Nd} (h : TI o p l b) :
    (o = none → ∀ d r, l = d :: r → ∀ rest f, 2 * (r ++ rest).length + 2 ≤ f → topH p rest → bytU f d (r ++ rest) = (b, rest) ∧ restU f d (r ++ rest) = rest) ∧
    (∀ last, o = some last → ∀ rest f, 2 * (l ++ rest).length + 1 ≤ f → topH p rest → entU f p (l ++ rest) = (b, rest) ∧ loopU f p last (l ++ rest) = rest) := by
  induction h with
  | file p d h =>
    refine ⟨fun _ d' r e rest f hf ht => ?_, fun last h => by cases h⟩
    cases e
    obtain ⟨g, rfl⟩ : ∃ g, f = g + 1 := ⟨f - 1, by omega⟩
    rw [bytU_succ, restU_succ, if_pos rfl, if_neg (by simp)]
    exact ⟨by simp [strsL], rfl⟩
  | exec p d h =>
    refine ⟨fun _ d' r e rest f hf ht => ?_, fun last h => by cases h⟩
    cases e
    obtain ⟨g, rfl⟩ : ∃ g, f = g + 1 := ⟨f - 1, by omega⟩
    rw [bytU_succ, restU_succ, if_neg (by simp), if_pos rfl, if_neg (by simp)]
    exact ⟨by simp [strsL], rfl⟩
  | link p d h =>
    refine ⟨fun _ d' r e rest f hf ht => ?_, fun last h => by cases h⟩
    cases e
    obtain ⟨g, rfl⟩ : ∃ g, f = g + 1 := ⟨f - 1, by omega⟩
    rw [bytU_succ, restU_succ, if_neg (by simp), if_neg (by simp), if_pos rfl, if_neg (by simp)]
    exact ⟨by simp [strsL], rfl⟩
  | dir p r b h ih =>
    refine ⟨fun _ d' r' e rest f hf ht => ?_, fun last h => by cases h⟩
    cases e
    obtain ⟨g, rfl⟩ : ∃ g, f = g + 1 := ⟨f - 1, by omega⟩
    obtain ⟨h1, h2⟩ := ih.2 [] rfl rest g (by omega) ht
    rw [bytU_succ, restU_succ, if_neg (by simp), if_neg (by simp), if_neg (by simp), if_pos rfl]
    show (strsL [tOpen, tType, tDir] ++ ((entU g p (r ++ rest)).1 ++ strL tClose), (entU g p (r ++ rest)).2) = _ ∧ loopU g p [] (r ++ rest) = rest
    rw [h1, h2]
    exact ⟨by simp [strsL], rfl⟩
  | nil p last =>
    refine ⟨(fun h => by cases h), fun last' h rest f hf ht => ?_⟩
    cases h
    obtain ⟨g, rfl⟩ : ∃ g, f = g + 1 := ⟨f - 1, by omega⟩
    cases rest with
    | nil => exact ⟨entU_nil g p, loopU_nil g p last⟩
    | cons e r2 =>
      have hn := not_below_name (ht e r2 rfl)
      refine ⟨entU_stop g p e r2 hn, ?_⟩
      show loopU (g + 1) p last (e :: r2) = e :: r2
      rw [loopU_cons, if_pos (.inl hn)]
  | cons p last n l b r c h1 h2 h3 h4 h5 ih4 ih5 =>
    refine ⟨(fun h => by cases h), fun last' h rest f hf ht => ?_⟩
    cases h
    obtain ⟨g, rfl⟩ : ∃ g, f = g + 1 := ⟨f - 1, by omega⟩
    obtain ⟨d, r1, rfl, hd⟩ := (ti_head h4).1 rfl
    obtain ⟨hn, h47⟩ := may_ne h1
    have hname : nameL d.path p = n := by rw [hd]; exact name_of_join p n h47
    have htop : topH (joinL p n) (r ++ rest) := by
      intro e r2 he
      rcases (ti_head h5).2 (by simp) with rfl | ⟨e', r', m, rfl, hm1, hm2, hm3⟩
      · exact fun hb => ht e r2 he (below_join hb hn)
      · have e1 : e' = e := by cases he; rfl
        rw [← e1, hm1]
        exact join_not_below hn hm3
    have hlen : 2 * (r1 ++ (r ++ rest)).length + 2 ≤ g := by simp at hf ⊢; omega
    have hlen2 : 2 * (r ++ rest).length + 1 ≤ g := by simp at hf ⊢; omega
    obtain ⟨k1, k2⟩ := ih4.1 rfl d r1 rfl (r ++ rest) g hlen htop
    obtain ⟨k3, k4⟩ := ih5.2 n rfl rest g hlen2 ht
    have el : (d :: r1 ++ r) ++ rest = d :: (r1 ++ (r ++ rest)) := by simp
    rw [el, entU_cons g p d _ (by rw [hname]; exact hn), loopU_cons, hname, if_neg (by rintro (h | h); exact hn h; rw [h2] at h; cases h), k1, k2, k4]
    refine ⟨?_, rfl⟩
    simp only
    rw [k3]
    simp [strsL]
/-- What a node in a directory must have. -/
def okC (c : Nd) : Prop := mayNameL (cutL c.path).2 = true ∧ deepL c.path ≤ 64 ∧ mayDataL c = true
theorem ti_all {o : Option (List UInt8)} {p b : List UInt8} {l : List Nd} (h : TI o p l b) :
    (o = none → ∀ d r, l = d :: r → mayDataL d = true ∧ ∀ c ∈ r, okC c) ∧ (o ≠ none → ∀ c ∈ l, okC c) := by
  induction h with
  | file p d h => exact ⟨fun _ d' r e => (by cases e; exact ⟨by simp [mayDataL, h], by simp⟩), fun h => absurd rfl h⟩
  | exec p d h => exact ⟨fun _ d' r e => (by cases e; exact ⟨by simp [mayDataL, h], by simp⟩), fun h => absurd rfl h⟩
  | link p d h => exact ⟨fun _ d' r e => (by cases e; exact ⟨h, by simp⟩), fun h => absurd rfl h⟩
  | dir p r b h ih => exact ⟨fun _ d' r' e => (by cases e; exact ⟨by simp [mayDataL], ih.2 (by simp)⟩), fun h => absurd rfl h⟩
  | nil p last => exact ⟨(fun h => by cases h), fun _ => by simp⟩
  | cons p last n l b r c h1 h2 h3 h4 h5 ih4 ih5 =>
    refine ⟨(fun h => by cases h), fun _ e he => ?_⟩
    obtain ⟨d, r1, rfl, hd⟩ := (ti_head h4).1 rfl
    obtain ⟨k1, k2⟩ := ih4.1 rfl d r1 rfl
    rcases List.mem_append.1 he with he | he
    · rcases List.mem_cons.1 he with rfl | he
      · refine ⟨?_, by rw [hd]; exact h3, k1⟩
        rw [hd, cut_join p n (may_ne h1).2]
        exact h1
      · exact k2 e he
    · exact ih5.2 (by simp) e he
theorem ti_may {b : List UInt8} {l : List Nd} (h : TI none [] l b) (hl : l.length ≤ 256) : mayL l = true ∧ treeL l = strL tMagic ++ b := by
  obtain ⟨d, r, rfl, hd⟩ := (ti_head h).1 rfl
  obtain ⟨k1, k2⟩ := (ti_all h).1 rfl d r rfl
  obtain ⟨k3, k4⟩ := (ti_byt h).1 rfl d r rfl [] (fuelN r) (by simp [fuelN]) (fun e r2 he => by cases he)
  rw [List.append_nil] at k3 k4
  constructor
  · unfold mayL
    simp only [List.length_cons] at hl
    simp only [hd, k1, k4, Bool.and_eq_true, decide_eq_true_eq, List.all_eq_true, List.length_nil]
    exact ⟨⟨⟨⟨hl, trivial⟩, trivial⟩, fun c hc => ⟨⟨(k2 c hc).1, (k2 c hc).2.1⟩, (k2 c hc).2.2⟩⟩, trivial⟩
  · show strL tMagic ++ (bytU (fuelN r) d r).1 = _
    rw [k3]
/-- Nodes of which nothing is left are a tree with its bytes. -/
theorem ti_of : ∀ f, (∀ d r, 2 * r.length + 2 ≤ f → mayDataL d = true → (∀ c ∈ r, okC c) → ∃ l1 b, r = l1 ++ restU f d r ∧ TI none d.path (d :: l1) b) ∧
    (∀ p last r, 2 * r.length + 1 ≤ f → (∀ c ∈ r, okC c) → ∃ l1 b, r = l1 ++ loopU f p last r ∧ TI (some last) p l1 b)
  | 0 => ⟨fun d r h => by omega, fun p last r h => by omega⟩
  | f + 1 => by
    obtain ⟨h1, h2⟩ := ti_of f
    constructor
    · intro d r hf hd hr
      rw [restU_succ]
      obtain ⟨path, kind, data⟩ := d
      unfold mayDataL at hd
      simp only at hd
      by_cases k1 : kind = 1
      · subst k1
        rw [if_neg (by simp)]
        simp at hd
        exact ⟨[], _, rfl, TI.file path data hd⟩
      by_cases k2 : kind = 2
      · subst k2
        rw [if_neg (by simp)]
        simp at hd
        exact ⟨[], _, rfl, TI.exec path data hd⟩
      by_cases k3 : kind = 3
      · subst k3
        rw [if_neg (by simp)]
        exact ⟨[], _, rfl, TI.link path data (by unfold mayDataL; exact hd)⟩
      by_cases k4 : kind = 4
      · subst k4
        rw [if_pos rfl]
        simp at hd
        subst hd
        obtain ⟨l1, b, e, t⟩ := h2 path [] r (by omega) hr
        exact ⟨l1, _, e, TI.dir path l1 b t⟩
      · simp [k1, k2, k3, k4] at hd
    · intro p last r hf hr
      cases r with
      | nil => exact ⟨[], [], by rw [loopU_nil]; rfl, TI.nil p last⟩
      | cons c r =>
        rw [loopU_cons]
        by_cases hs : nameL c.path p = [] ∨ ltL last (nameL c.path p) = false
        · rw [if_pos hs]; exact ⟨[], [], rfl, TI.nil p last⟩
        · rw [if_neg hs]
          have hn : nameL c.path p ≠ [] := fun h => hs (.inl h)
          have hlt : ltL last (nameL c.path p) = true := by
            cases hh : ltL last (nameL c.path p) with
            | true => rfl
            | false => exact absurd (.inr hh) hs
          obtain ⟨hj, h47⟩ := name_join hn
          have hok := hr c (by simp)
          simp only [List.length_cons] at hf
          obtain ⟨l1, b, e1, t1⟩ := h1 c r (by omega) hok.2.2 (fun e he => hr e (by simp [he]))
          have hsub : ∀ e ∈ restU f c r, okC e := fun e he => hr e (by simp [rest_mem f c r e he])
          have hl := (rest_len f).1 c r
          obtain ⟨l2, b2, e2, t2⟩ := h2 p (nameL c.path p) (restU f c r) (by omega) hsub
          rw [hj] at t1
          refine ⟨(c :: l1) ++ l2, _, ?_, TI.cons p last (nameL c.path p) (c :: l1) b l2 b2 ?_ hlt ?_ t1 t2⟩
          · rw [List.append_assoc, ← e2, List.cons_append, ← e1]
          · have := hok.1
            rw [hj, cut_join p _ h47] at this
            exact this
          · rw [← hj]; exact hok.2.1
theorem ti_of_may {l : List Nd} (h : mayL l = true) : ∃ b, TI none [] l b ∧ treeL l = strL tMagic ++ b ∧ l.length ≤ 256 := by
  cases l with
  | nil => simp [mayL] at h
  | cons d r =>
    have h' := h
    unfold mayL at h
    simp only [Bool.and_eq_true, decide_eq_true_eq, List.all_eq_true] at h
    obtain ⟨⟨⟨⟨h1, h2⟩, h3⟩, h4⟩, h5⟩ := h
    obtain ⟨l1, b, e, t⟩ := (ti_of (fuelN r)).1 d r (by simp [fuelN]) h3 (fun c hc => ⟨(h4 c hc).1.1, (h4 c hc).1.2, (h4 c hc).2⟩)
    rw [List.length_eq_zero_iff.1 h5, List.append_nil] at e
    subst e
    rw [h2] at t
    exact ⟨b, t, (ti_may t h1).2, h1⟩
end Go.Proofs.Ytglipljilcdboaa
/- The bytes of a tree that may be are read as that tree; cut they want more; with bytes behind they say nothing. No condition but what each names. -/
namespace Go.Proofs.Ytglipljilcdboaa
set_option linter.unusedVariables false
set_option linter.unusedSimpArgs false
section
variable (S : List UInt8)
theorem text_fwd {m : Nat} {q : RS} {s x : List UInt8} (h0 : q.e = 0) (h : S.drop q.at' = strL s ++ x) (hm : s.length ≤ m) (hs : s.length < 18446744073709551616) : textD S m q = (s, onto q s) ∧ S.drop (onto q s).at' = x := by
  have hc : cutT m (S.drop q.at') = .ok s x := by rw [h]; exact cut_str x hm hs
  refine ⟨text_ok S h0 hc, ?_⟩
  have hl := cut_ok_len hc
  rw [hl.2.1, List.drop_drop]; rfl
theorem most_le' {l : List (List UInt8)} {s : List UInt8} (h : s ∈ l) : s.length ≤ mostD l := by
  unfold mostD
  have key : ∀ (l : List (List UInt8)) (m : Nat), m ≤ l.foldl (fun m w => max m w.length) m ∧ ∀ s ∈ l, s.length ≤ l.foldl (fun m w => max m w.length) m := by
    intro l
    induction l with
    | nil => intro m; exact ⟨Nat.le_refl _, fun s h => by cases h⟩
    | cons w l ih =>
      intro m
      obtain ⟨k1, k2⟩ := ih (max m w.length)
      refine ⟨by simp only [List.foldl_cons]; omega, fun s h => ?_⟩
      simp only [List.foldl_cons]
      rcases List.mem_cons.1 h with rfl | h
      · omega
      · exact k2 s h
  exact (key l 0).2 s h
theorem one_fwd {l : List (List UInt8)} {q : RS} {s x : List UInt8} (h0 : q.e = 0) (h : S.drop q.at' = strL s ++ x) (hm : s ∈ l) (hs : s.length < 18446744073709551616) : oneD S l q = (s, onto q s) ∧ S.drop (onto q s).at' = x := by
  obtain ⟨h1, h2⟩ := text_fwd S h0 h (most_le' hm) hs
  refine ⟨?_, h2⟩
  unfold oneD
  rw [h1, if_pos ⟨h0, hm⟩]
theorem onto_len {q : RS} {s x : List UInt8} (h : S.drop q.at' = strL s ++ x) : q.at' + 8 ≤ S.length ∧ q.at' < (onto q s).at' ∧ (onto q s).e = q.e ∧ (onto q s).l = q.l := by
  have := congrArg List.length h
  rw [List.length_drop, List.length_append, strL_len] at this
  exact ⟨by omega, by show q.at' < q.at' + _; omega, rfl, rfl⟩
def goes (q q' : RS) (l : List Nd) (rest : List UInt8) : Prop := q'.e = 0 ∧ q'.l = q.l ++ l ∧ S.drop q'.at' = rest ∧ q.at' ≤ q'.at'
/-- The name of any text has fewer bytes than a word tells. -/
theorem name_small {n : List UInt8} (h : mayNameL n = true) : n.length ≤ 255 := by
  unfold mayNameL at h
  simp at h
  omega
theorem link_small {p d : List UInt8} (h : mayDataL ⟨p, 3, d⟩ = true) : d.length ≤ 4096 := by
  unfold mayDataL at h
  simp at h
  omega
theorem head_fwd {q : RS} {s x : List UInt8} (h0 : q.e = 0) (h : S.drop q.at' = strL tOpen ++ (strL tType ++ (strL s ++ x))) (hs : s ∈ [tReg, tSym, tDir]) : headD S q = (s, onto (onto (onto q tOpen) tType) s) ∧ S.drop (onto (onto (onto q tOpen) tType) s).at' = x := by
  obtain ⟨a1, a2⟩ := one_fwd S (l := [tOpen]) h0 h (by simp) (by decide)
  obtain ⟨b1, b2⟩ := one_fwd S (l := [tType]) (q := onto q tOpen) h0 a2 (by simp) (by decide)
  obtain ⟨c1, c2⟩ := one_fwd S (l := [tReg, tSym, tDir]) (q := onto (onto q tOpen) tType) h0 b2 hs (by
    simp only [List.mem_cons, List.not_mem_nil, or_false] at hs
    rcases hs with rfl | rfl | rfl <;> decide)
  refine ⟨?_, c2⟩
  unfold headD
  rw [a1, b1, c1]
theorem file2_fwd {p d x : List UInt8} {k : Int} {q : RS} (h0 : q.e = 0) (h : S.drop q.at' = strL d ++ (strL tClose ++ x)) (hd : d.length ≤ 65536) : goes S q (file2D S p k q) [⟨p, k, d⟩] x := by
  obtain ⟨a1, a2⟩ := text_fwd S h0 h hd (by omega)
  obtain ⟨b1, b2⟩ := one_fwd S (l := [tClose]) (q := { onto q d with l := (onto q d).l ++ [⟨p, k, d⟩] }) h0 a2 (by simp) (by decide)
  unfold file2D
  rw [a1]
  simp only
  rw [b1]
  exact ⟨h0, rfl, b2, by show q.at' ≤ q.at' + _ + _; omega⟩
theorem node_fwd {o : Option (List UInt8)} {p b : List UInt8} {l : List Nd} (t : TI o p l b) :
    (o = none → ∀ (q : RS) (x : List UInt8) (f : Nat), q.e = 0 → S.drop q.at' = b ++ x → q.l.length + l.length ≤ 256 → 2 * (S.length - q.at') + 2 ≤ f → goes S q (nodeD S f p q) l x) ∧
    (∀ last, o = some last → ∀ (q : RS) (x : List UInt8) (f : Nat), q.e = 0 → S.drop q.at' = b ++ (strL tClose ++ x) → q.l.length + l.length ≤ 256 → 2 * (S.length - q.at') + 1 ≤ f → goes S q (dirD S f p last q) l x) := by
  induction t with
  | file p d h =>
    refine ⟨fun _ q x f h0 hS hl hf => ?_, fun last h => by cases h⟩
    obtain ⟨g, rfl⟩ : ∃ g, f = g + 1 := ⟨f - 1, by omega⟩
    simp only [List.append_assoc] at hS
    obtain ⟨a1, a2⟩ := head_fwd S h0 hS (by simp)
    rw [nodeD, a1]
    simp only
    unfold kindD
    rw [if_pos rfl]
    obtain ⟨q3, hq3⟩ : ∃ q3, q3 = onto (onto (onto q tOpen) tType) tReg := ⟨_, rfl⟩
    rw [← hq3] at a2 ⊢
    have e3 : q3.e = 0 := by rw [hq3]; exact h0
    have l3 : q3.l = q.l := by rw [hq3]; rfl
    have p3 : q.at' ≤ q3.at' := by rw [hq3]; show q.at' ≤ q.at' + _ + _ + _; omega
    obtain ⟨b1, b2⟩ := one_fwd S (l := [tCont, tExec]) e3 a2 (by simp) (by decide)
    unfold fileD
    rw [b1, if_neg (show ¬ tCont = tExec by decide)]
    have := file2_fwd S (p := p) (k := 1) (q := onto q3 tCont) (d := d) (x := x) e3 b2 h
    exact ⟨this.1, by rw [this.2.1]; show q3.l ++ _ = _; rw [l3], this.2.2.1, Nat.le_trans p3 (Nat.le_trans (by show q3.at' ≤ q3.at' + _; omega) this.2.2.2)⟩
  | exec p d h =>
    refine ⟨fun _ q x f h0 hS hl hf => ?_, fun last h => by cases h⟩
    obtain ⟨g, rfl⟩ : ∃ g, f = g + 1 := ⟨f - 1, by omega⟩
    simp only [List.append_assoc] at hS
    obtain ⟨a1, a2⟩ := head_fwd S h0 hS (by simp)
    rw [nodeD, a1]
    simp only
    unfold kindD
    rw [if_pos rfl]
    obtain ⟨q3, hq3⟩ : ∃ q3, q3 = onto (onto (onto q tOpen) tType) tReg := ⟨_, rfl⟩
    rw [← hq3] at a2 ⊢
    have e3 : q3.e = 0 := by rw [hq3]; exact h0
    have l3 : q3.l = q.l := by rw [hq3]; rfl
    have p3 : q.at' ≤ q3.at' := by rw [hq3]; show q.at' ≤ q.at' + _ + _ + _; omega
    obtain ⟨b1, b2⟩ := one_fwd S (l := [tCont, tExec]) e3 a2 (by simp) (by decide)
    obtain ⟨c1, c2⟩ := one_fwd S (l := [[]]) (q := onto q3 tExec) e3 b2 (by simp) (by decide)
    obtain ⟨d1, d2⟩ := one_fwd S (l := [tCont]) (q := onto (onto q3 tExec) []) e3 c2 (by simp) (by decide)
    unfold fileD
    rw [b1, if_pos rfl]
    simp only
    rw [c1]
    simp only
    rw [d1]
    have := file2_fwd S (p := p) (k := 2) (q := onto (onto (onto q3 tExec) []) tCont) (d := d) (x := x) e3 d2 h
    exact ⟨this.1, by rw [this.2.1]; show q3.l ++ _ = _; rw [l3], this.2.2.1, Nat.le_trans p3 (Nat.le_trans (by show q3.at' ≤ q3.at' + _ + _ + _; omega) this.2.2.2)⟩
  | link p d h =>
    refine ⟨fun _ q x f h0 hS hl hf => ?_, fun last h => by cases h⟩
    obtain ⟨g, rfl⟩ : ∃ g, f = g + 1 := ⟨f - 1, by omega⟩
    simp only [List.append_assoc] at hS
    obtain ⟨a1, a2⟩ := head_fwd S h0 hS (by simp)
    rw [nodeD, a1]
    simp only
    unfold kindD
    rw [if_neg (by decide), if_pos rfl]
    obtain ⟨q3, hq3⟩ : ∃ q3, q3 = onto (onto (onto q tOpen) tType) tSym := ⟨_, rfl⟩
    rw [← hq3] at a2 ⊢
    have e3 : q3.e = 0 := by rw [hq3]; exact h0
    have l3 : q3.l = q.l := by rw [hq3]; rfl
    have p3 : q.at' ≤ q3.at' := by rw [hq3]; show q.at' ≤ q.at' + _ + _ + _; omega
    obtain ⟨b1, b2⟩ := one_fwd S (l := [tTarg]) e3 a2 (by simp) (by decide)
    obtain ⟨c1, c2⟩ := text_fwd S (m := 4096) (q := onto q3 tTarg) e3 b2 (link_small h) (Nat.lt_of_le_of_lt (link_small h) (by decide))
    unfold linkD
    rw [b1]
    simp only
    rw [c1]
    simp only
    unfold link2D
    have w : wrongD (!(mayDataL ⟨p, 3, d⟩)) (onto (onto q3 tTarg) d) = onto (onto q3 tTarg) d := by unfold wrongD; rw [h, if_neg (by simp)]
    rw [w]
    obtain ⟨d1, d2⟩ := one_fwd S (l := [tClose]) (q := { onto (onto q3 tTarg) d with l := (onto (onto q3 tTarg) d).l ++ [⟨p, 3, d⟩] }) e3 c2 (by simp) (by decide)
    rw [d1]
    exact ⟨e3, by show q3.l ++ _ = _; rw [l3], d2, Nat.le_trans p3 (by show q3.at' ≤ q3.at' + _ + _ + _; omega)⟩
  | dir p r b h ih =>
    refine ⟨fun _ q x f h0 hS hl hf => ?_, fun last h => by cases h⟩
    obtain ⟨g, rfl⟩ : ∃ g, f = g + 1 := ⟨f - 1, by omega⟩
    simp only [List.append_assoc] at hS
    obtain ⟨a1, a2⟩ := head_fwd S h0 hS (by simp)
    rw [nodeD, a1]
    simp only
    unfold kindD
    rw [if_neg (by decide), if_neg (by decide), if_pos rfl]
    have p0 := (onto_len S hS).1
    obtain ⟨q3, hq3⟩ : ∃ q3, q3 = onto (onto (onto q tOpen) tType) tDir := ⟨_, rfl⟩
    rw [← hq3] at a2 ⊢
    have e3 : q3.e = 0 := by rw [hq3]; exact h0
    have l3 : q3.l = q.l := by rw [hq3]; rfl
    have p3 : q.at' < q3.at' := by rw [hq3]; show q.at' < q.at' + _ + _ + _; omega
    have := ih.2 [] rfl { q3 with l := q3.l ++ [⟨p, 4, []⟩] } x g e3 a2 (by show (q3.l ++ [_]).length + _ ≤ _; rw [l3]; simp at hl ⊢; omega) (by show 2 * (S.length - q3.at') + 1 ≤ g; omega)
    refine ⟨this.1, ?_, this.2.2.1, Nat.le_trans (Nat.le_of_lt p3) this.2.2.2⟩
    rw [this.2.1]
    show (q3.l ++ _) ++ r = _
    rw [l3]; simp
  | nil p last =>
    refine ⟨(fun h => by cases h), fun last' h q x f h0 hS hl hf => ?_⟩
    cases h
    obtain ⟨g, rfl⟩ : ∃ g, f = g + 1 := ⟨f - 1, by omega⟩
    rw [List.nil_append] at hS
    obtain ⟨a1, a2⟩ := one_fwd S (l := [tEntry, tClose]) h0 hS (by simp) (by decide)
    rw [dirD, if_neg (by simp [h0]), a1, if_pos (show tClose ≠ tEntry by decide)]
    exact ⟨h0, by show q.l = _; simp, a2, by show q.at' ≤ q.at' + _; omega⟩
  | cons p last n l b r c h1 h2 h3 h4 h5 ih4 ih5 =>
    refine ⟨(fun h => by cases h), fun last' h q x f h0 hS hl hf => ?_⟩
    cases h
    obtain ⟨g, rfl⟩ : ∃ g, f = g + 1 := ⟨f - 1, by omega⟩
    simp only [List.append_assoc] at hS
    have p0 := (onto_len S hS).1
    obtain ⟨a1, a2⟩ := one_fwd S (l := [tEntry, tClose]) h0 hS (by simp) (by decide)
    obtain ⟨b1, b2⟩ := one_fwd S (l := [tOpen]) (q := onto q tEntry) h0 a2 (by simp) (by decide)
    obtain ⟨c1, c2⟩ := one_fwd S (l := [tName]) (q := onto (onto q tEntry) tOpen) h0 b2 (by simp) (by decide)
    have hn := name_small h1
    obtain ⟨d1, d2⟩ := text_fwd S (m := 255) (q := onto (onto (onto q tEntry) tOpen) tName) h0 c2 hn (by omega)
    obtain ⟨q4, hq4⟩ : ∃ q4, q4 = onto (onto (onto (onto q tEntry) tOpen) tName) n := ⟨_, rfl⟩
    rw [← hq4] at d1 d2
    have e4 : q4.e = 0 := by rw [hq4]; exact h0
    have l4 : q4.l = q.l := by rw [hq4]; rfl
    have p4 : q.at' < q4.at' := by rw [hq4]; show q.at' < q.at' + _ + _ + _ + _; omega
    obtain ⟨k1, k2⟩ := one_fwd S (l := [tNode]) e4 d2 (by simp) (by decide)
    rw [dirD, if_neg (by simp [h0]), a1, if_neg (by simp)]
    simp only
    have en : nameD S (onto q tEntry) = (n, q4) := by unfold nameD; rw [b1]; simp only; rw [c1]; exact d1
    rw [en]
    simp only
    obtain ⟨d, r1, rfl, hd⟩ := (ti_head h4).1 rfl
    have hcount : q.l.length < 256 := by simp at hl; omega
    have hbad : badN p last n q4.l.length = false := by
      unfold badN
      rw [h1, h2, l4]
      simp only [Bool.not_true, Bool.false_or, Bool.or_eq_false_iff, decide_eq_false_iff_not]
      omega
    have ee : entD S p last n q4 = onto q4 tNode := by
      unfold entD
      have w : wrongD (badN p last n q4.l.length) q4 = q4 := by unfold wrongD; rw [hbad, if_neg (by simp)]
      rw [w, k1]
    rw [ee, if_pos (show (onto q4 tNode).e = 0 from e4)]
    have p5 := (onto_len S d2).1
    have hlen1 : (onto q4 tNode).l.length + (d :: r1).length ≤ 256 := by
      show q4.l.length + _ ≤ _
      rw [l4]; simp at hl ⊢; omega
    have p6 : q4.at' < (onto q4 tNode).at' := (onto_len S d2).2.1
    obtain ⟨m1, m2, m3, m4⟩ := ih4.1 rfl (onto q4 tNode) (strL tClose ++ (c ++ (strL tClose ++ x))) g e4 k2 hlen1 (by omega)
    obtain ⟨q6, hq6⟩ : ∃ q6, q6 = nodeD S g (joinL p n) (onto q4 tNode) := ⟨_, rfl⟩
    rw [← hq6] at m1 m2 m3 m4 ⊢
    obtain ⟨v1, v2⟩ := one_fwd S (l := [tClose]) m1 m3 (by simp) (by decide)
    rw [v1]
    simp only
    have l6 : q6.l = q.l ++ (d :: r1) := by rw [m2]; show q4.l ++ _ = _; rw [l4]
    have p7 := (onto_len S m3)
    have hlen2 : (onto q6 tClose).l.length + r.length ≤ 256 := by
      show q6.l.length + _ ≤ _
      rw [l6]; simp at hl ⊢; omega
    obtain ⟨w1, w2, w3, w4⟩ := ih5.2 n rfl (onto q6 tClose) x g m1 v2 hlen2 (by omega)
    refine ⟨w1, ?_, w3, by omega⟩
    rw [w2]
    show q6.l ++ r = _
    rw [l6, List.append_assoc]
end
/-- What may be is read from its bytes. -/
theorem may_gets {l : List Nd} (h : mayL l = true) : getL (treeL l) = (l, 0) := by
  obtain ⟨b, t, ht, hl⟩ := ti_of_may h
  rw [← get_eq (treeL l) (2 * (treeL l).length + 2) (Nat.le_refl _)]
  obtain ⟨S, hS⟩ : ∃ S, S = treeL l := ⟨_, rfl⟩
  rw [← hS] at ht ⊢
  obtain ⟨a1, a2⟩ := one_fwd S (l := [tMagic]) (q := ⟨0, [], 0⟩) (s := tMagic) (x := b) rfl (by rw [← ht]; rfl) (by simp) (by decide)
  have hb : S.drop (onto ⟨0, [], 0⟩ tMagic).at' = b ++ [] := by rw [List.append_nil]; exact a2
  obtain ⟨k1, k2, k3, k4⟩ := (node_fwd S t).1 rfl (onto ⟨0, [], 0⟩ tMagic) [] (2 * S.length + 2) rfl hb (by show 0 + _ ≤ _; omega) (by omega)
  have hend := List.drop_eq_nil_iff.1 k3
  have e : getD1 S (2 * S.length + 2) = nodeD S (2 * S.length + 2) [] (onto ⟨0, [], 0⟩ tMagic) := by
    unfold getD1
    simp only
    rw [a1, if_pos (show (onto (⟨0, [], 0⟩ : RS) tMagic).e = 0 from rfl)]
    simp only
    unfold wrongD
    rw [decide_eq_false (by omega), if_neg (by simp)]
  unfold getD
  rw [e, if_neg (by simp [k1]), k2]
  rfl
/-- What comes of the bytes of a tree, ahead of the end. -/
theorem may_runs {l : List Nd} (h : mayL l = true) : ∃ t, runM t0 (treeL l) = some (t, []) ∧ t.pl = 17 ∧ t.nodes = l := by
  have hg := may_gets h
  unfold getL finR at hg
  cases hr : runM t0 (treeL l) with
  | none => rw [hr] at hg; exact absurd (congrArg Prod.snd hg) (show (4 : Int) ≠ 0 by decide)
  | some y =>
    obtain ⟨t, b⟩ := y
    rw [hr] at hg
    simp only [finM] at hg
    by_cases h17 : t.pl = 17
    · rw [if_pos h17] at hg
      have hs := run_stuck _ t0 (treeL l) t b (Nat.le_refl _) hr
      have hb : b = [] := Classical.byContradiction fun hb => by
        obtain ⟨m, hm, _⟩ := hs.2 hb
        rw [h17] at hm
        cases hm
      exact ⟨t, by rw [hb], h17, congrArg Prod.fst hg⟩
    · rw [if_neg h17] at hg; exact absurd (congrArg Prod.snd hg) (show (5 : Int) ≠ 0 by decide)
/-- Cut anywhere more is needed. -/
theorem cut_gets {l : List Nd} (h : mayL l = true) {a b : List UInt8} (hab : treeL l = a ++ b) (hb : b ≠ []) : getL a = ([], 5) ∧ ∃ t c, runM t0 a = some (t, c) ∧ t.pl ≠ 17 := by
  obtain ⟨t, h1, h2, h3⟩ := may_runs h
  rw [hab, runM_app] at h1
  unfold getL finR
  cases hr : runM t0 a with
  | none => rw [hr] at h1; cases h1
  | some y =>
    obtain ⟨t', c⟩ := y
    have hn : t'.pl ≠ 17 := fun h17 => by
      have hne : c ++ b ≠ [] := fun e => hb (List.append_eq_nil_iff.1 e).2
      have h1' : runM t' (c ++ b) = some (t, []) := by rw [hr] at h1; exact h1
      rw [show runM t' (c ++ b) = none from runM_none hne (by rw [h17]; rfl)] at h1'
      cases h1'
    exact ⟨by simp [finM, hn], t', c, rfl, hn⟩
/-- With bytes behind it is none. -/
theorem more_gets {l : List Nd} (h : mayL l = true) {b : List UInt8} (hb : b ≠ []) : getL (treeL l ++ b) = ([], 4) := by
  obtain ⟨t, h1, h2, h3⟩ := may_runs h
  unfold getL finR
  rw [runM_app, h1]
  show finM (runM t ([] ++ b)) = _
  rw [show runM t ([] ++ b) = none from runM_none (by simpa using hb) (by rw [h2]; rfl)]
  rfl
end Go.Proofs.Ytglipljilcdboaa
/- How long the paths and the data of a tree are, by its bytes; the hint for its packing. No condition but what each names. -/
namespace Go.Proofs.Ytglipljilcdboaa
open Go.RowKit Go.Shelf
set_option linter.unusedVariables false
set_option linter.unusedSimpArgs false
section
open E
theorem costs_le (K : Nat) : ∀ l : List Nd, (∀ c ∈ l, 300 + c.path.length + c.data.length ≤ K) → costs l ≤ l.length * K
  | [], _ => Nat.zero_le _
  | c :: l, h => by
    rw [costs_cons, List.length_cons, Nat.succ_mul]
    have := h c (by simp)
    have := costs_le K l (fun d hd => h d (by simp [hd]))
    omega
/-- What packing wants of nodes. -/
def fitL (L : List Nd) : Prop := mayL L = true ∧ L.length ≤ 256 ∧ (∀ c ∈ L, c.path.length ≤ 1000000) ∧ (∀ c ∈ L, c.data.length ≤ 1000000) ∧ costs L ≤ 100000000000000
abbrev hPkL (r : Nat) (L : List Nd) : Hint := pr 18 (fun ρ => #[(TV.s (.lf (slN r L.length))).val ρ]) (.s (.agg [.one (.v (stv (treeL L))), .one (.v (.int .i64 0))])) [(r, rowN L L.length)]
theorem hPkL_ok (id r : Nat) {L : List Nd} (hL : fitL L) : HintOk Try.prog id (hPkL r L) := by
  obtain ⟨g1, g2, g3, g4, g5⟩ := hL
  refine pr_ok ent18 (v := .agg #[stv (treeL L), .int .i64 0]) (fun p hp => ?_) (fun _ => rfl) fun ρ w h => ?_
  · simp only [List.mem_cons, List.not_mem_nil, or_false] at hp
    rcases hp with rfl | rfl <;> rfl
  have h1 := h (r, rowN L L.length) (by simp)
  have z := rowN_z h1
  have e1 : (TV.s (.lf (slN r L.length))).val ρ = slV (ρ r).1 0 L.length (ρ r).3 := slN_val rfl z
  rw [e1]
  have hp : packV L = .agg #[stv (treeL L), .int .i64 0] := by
    unfold packV packL
    rw [g1]; rfl
  rw [← hp]
  cases L with
  | nil => simp [mayL] at g1
  | cons d r => exact pack_pos _ 0 _ d r (by simp at g2; omega) g3 g4 g5 w (nodes_of h1)
end
end Go.Proofs.Ytglipljilcdboaa
/- Of the laws: files behind a directory, nodes in a directory, by numbers, put behind a list of the call's own. Its conditions: lengths that fit. -/
namespace Go.Proofs.Ytglipljilcdboaa
open Go.RowKit Go.Shelf
set_option linter.unusedVariables false
set_option linter.unusedSimpArgs false
section
open E
def nsf (ns : List UInt8) (i : Nat) : UInt8 := ns.getD i 0
abbrev numRow (ns : List UInt8) : Row := ⟨[.fnc (fun i => [.int .u8 ((nsf ns i).toNat : Int)]) 1 ns.length], false, none⟩
abbrev nmRow : Row := ⟨[.fnc (fun i => [stv (nmL i)]) 1 6], true, some (9, 1)⟩
/-- Where texts lie: what a run knows of them. -/
def TxSrc (tv : TV) (rl : List (Nat × Row)) (l : List (List UInt8)) : Prop := ∀ (ρ : Env) (w : World), (∀ p ∈ rl, RowAt ρ p.1 p.2 w) → TxtV w (tv.val ρ) l
theorem txs_nil (a : Option Addr) (cap : Nat) : TxSrc (.v (.slice a 0 cap)) [] [] := fun ρ w _ => ⟨by simp, a, cap, rfl, fun h => absurd h (Nat.lt_irrefl _)⟩
theorem txs_row (r cap : Nat) (l : List (List UInt8)) (hl : l.length ≤ 9223372036854775807) : TxSrc (.s (.lf (.sl r 0 0 1 l.length (some cap)))) [(r, txtRow l)] l := fun ρ w h => by
  have h2 := h (r, txtRow l) (by simp)
  refine ⟨hl, _, cap, rfl, fun h0 => ⟨_, _, rfl, h2.1, fun i hi => ?_⟩⟩
  refine (h2.2.1 i (strV l[i]) ?_).1
  rw [lst_fnc, flat_get (f := fun i => [stv (txf l i)]) (k := 1) (by omega) l.length (fun _ _ => rfl) i (by omega), Nat.div_one, Nat.mod_one]
  simp [txf, hi, strV]
theorem ent45 : Enters Try.prog 27 := enters_of Try.func27 (by kernel_rfl) rfl
abbrev hText (tv : TV) (rl : List (Nat × Row)) (i : Nat) (s : List UInt8) : Hint := pr 27 (fun ρ => #[tv.val ρ, .int .i64 (i : Int)]) (.v (stv s)) rl
theorem hText_ok (id : Nat) {tv : TV} {rl : List (Nat × Row)} {l : List (List UInt8)} (hS : TxSrc tv rl l) (i : Nat) (hi : i ≤ 9223372036854775807) : HintOk Try.prog id (hText tv rl i (textL l i)) :=
  pr_ok ent45 (v := stv (textL l i)) rfl (fun _ => rfl) fun ρ w h => (text_one (hS ρ w h) i hi).mono (by rintro e w' ⟨rfl, hb⟩; first | exact ⟨rfl, hb⟩ | (subst hb; exact ⟨rfl, Below.refl _ _⟩))
theorem num_ok (ns : List UInt8) : pok (numRow ns).ps := pok1 fun i => ⟨rfl, fun v hv => by simp at hv; subst hv; rfl⟩
theorem txt_ok (l : List (List UInt8)) : pok (txtRow l).ps := pok1 fun i => ⟨rfl, fun v hv => by simp at hv; subst hv; rfl⟩
/-- What a call makes of a list of its own. -/
def LOut (w : World) (b0 : Nat) (L : List Nd) (n : Nat) (e : Ending) (w' : World) : Prop := ∃ B : Blk, e = .returned (.slice (some ⟨B.1, 0, none⟩) n B.3) ∧ B.2 = 0 ∧ Fr w [b0] w' ∧ (w.heap.size ≤ B.1 ∨ B.1 = b0) ∧ RowAt (fun _ => B) 0 (rowN L n) w'
theorem lout_fin {w w' : World} {ρ : Env} {r b0 n : Nat} {L : List Nd} (hf : Fr w [b0] w') (h : RowAt ρ r (rowN L n) w') (hb : w.heap.size ≤ (ρ r).1 ∨ (ρ r).1 ∈ [b0]) : LOut w b0 L n (.returned ((TV.s (.lf (.sl r 0 0 3 n none))).val ρ)) w' := by
  have h0 : (ρ r).2 = 0 := (h.2.2.1 55 3 rfl).1
  refine ⟨ρ r, ?_, h0, hf, ?_, rowAt_mv h rfl⟩
  · show Ending.returned (.slice (some ⟨(ρ r).1, (ρ r).2 + (0 + 0 * 3), none⟩) n ((ρ r).3 - 0)) = _
    rw [h0]; rfl
  · rcases hb with hb | hb
    · exact .inl hb
    · exact .inr (List.mem_singleton.1 hb)
/-! ### dir2 -/
def d2n (n k cnt : Nat) : Nat := min n (min (6 - k) (16 - cnt))
theorem d2_len (texts : List (List UInt8)) (p : List UInt8) : ∀ (ns : List UInt8) (k cnt : Nat), (dir2L texts p ns k cnt).length = d2n ns.length k cnt
  | [], k, cnt => by simp [dir2L, d2n]
  | a :: ns, k, cnt => by
    unfold dir2L
    by_cases h : k < 6 ∧ cnt < 16
    · rw [if_pos h, List.length_cons, d2_len texts p ns, List.length_cons]; unfold d2n; omega
    · rw [if_neg h, List.length_cons, List.length_nil]; unfold d2n; omega
theorem d2_get (texts : List (List UInt8)) (p : List UInt8) : ∀ (ns : List UInt8) (k cnt j : Nat), j < d2n ns.length k cnt → (dir2L texts p ns k cnt)[j]? = some ⟨joinL p (nmL (k + j)), 1, textL texts (nsf ns j).toNat⟩
  | [], k, cnt, j, h => by simp [d2n] at h
  | a :: ns, k, cnt, j, h => by
    have h6 : k < 6 ∧ cnt < 16 := by unfold d2n at h; omega
    unfold dir2L
    rw [if_pos h6]
    cases j with
    | zero => rfl
    | succ j =>
      rw [List.getElem?_cons_succ, d2_get texts p ns (k + 1) (cnt + 1) j (by rw [List.length_cons] at h; unfold d2n at h ⊢; omega)]
      rw [show k + 1 + j = k + (j + 1) by omega]
      rfl
theorem d2_step (texts : List (List UInt8)) (p : List UInt8) (ns : List UInt8) (k cnt j : Nat) (h : j < d2n ns.length k cnt) : (dir2L texts p ns k cnt).take (j + 1) = (dir2L texts p ns k cnt).take j ++ [⟨joinL p (nmL (k + j)), 1, textL texts (nsf ns j).toNat⟩] := by
  rw [List.take_add_one, d2_get texts p ns k cnt j h]
  rfl
theorem nsf_cut (N : List UInt8) (i0 n j : Nat) (hj : j < n) : nsf ((N.drop i0).take n) j = nsf N (i0 + j) := by
  unfold nsf
  rw [List.getD_eq_getElem?_getD, List.getD_eq_getElem?_getD, List.getElem?_take, if_pos hj, List.getElem?_drop]
theorem names_row : ∀ i, i < 6 → chunkF [stv [97], stv [98, 46, 99], stv [98, 105, 110], stv [108, 105, 98], stv [120, 32, 121], stv [122]] 1 6 i = [stv (nmL i)] := by
  intro i hi
  have : i = 0 ∨ i = 1 ∨ i = 2 ∨ i = 3 ∨ i = 4 ∨ i = 5 := by omega
  rcases this with rfl | rfl | rfl | rfl | rfl | rfl <;> rfl
abbrev tm2d1 (l : List Nd) (p : List UInt8) (i0 n c k : Nat) (tx : List (List UInt8)) (ta : Option Addr) (ct m j R : Nat) : List (Nat × TV) := [(0, .s (.lf (.sl R 0 0 3 (m + j) none))), (1, .v (stv p)), (2, .s (.lf (.sl 0 0 i0 1 n (some c)))), (3, (TV.s (.lf (.sl 1 0 0 1 tx.length (some ct))))), (4, .int .i64 k), (11, .s (.lf (.sl 2000 0 0 1 6 none))), (12, .int .i64 j)]
abbrev rows2d1 (N : List UInt8) (tx : List (List UInt8)) (L : List Nd) (m R : Nat) : List (Nat × Row) := [(0, numRow N), (1, txtRow tx), (R, rowN L m), (2000, nmRow)]
set_option maxRecDepth 100000 in
set_option maxHeartbeats 2000000 in
theorem dir2_run1 (N : List UInt8) (tx : List (List UInt8)) (ta : Option Addr) (ct : Nat) (hT : TxSrc (TV.s (.lf (.sl 1 0 0 1 tx.length (some ct)))) [(1, txtRow tx)] tx) (l : List Nd) (m : Nat) (hm : m = l.length) (hm2 : m ≤ 1000000) (p : List UInt8) (hp : p.length ≤ 1000000) (i0 n c k : Nat) (hi : i0 + n ≤ N.length) (hn : n ≤ 9223372036854775807) (hk : k ≤ 1000000)
    (ρ : Env) (w : World) (hr : ∀ q ∈ ([(0, numRow N), (1, txtRow tx), (2, rowN l m)] : List (Nat × Row)), RowAt ρ q.1 q.2 w) (hd : PreDs ρ [(0, numRow N), (1, txtRow tx), (2, rowN l m)]) :
    Calls Try.prog 40 #[(TV.s (.lf (.sl 2 0 0 3 m none))).val ρ, strV p, (TV.s (.lf (.sl 0 0 i0 1 n (some c)))).val ρ, (TV.s (.lf (.sl 1 0 0 1 tx.length (some ct)))).val ρ, .int .i64 k] w (LOut w (ρ 2).1 (l ++ dir2L tx p ((N.drop i0).take n) k m) (m + d2n n k m)) := by
  obtain ⟨ns, hns⟩ : ∃ ns, ns = (N.drop i0).take n := ⟨_, rfl⟩
  have hnl : ns.length = n := by rw [hns, List.length_take, List.length_drop]; omega
  rw [← hns]
  have hE : l ++ dir2L tx p ns k m = l ++ (dir2L tx p ns k m).take (d2n n k m) := by rw [List.take_of_length_le (by rw [d2_len, hnl]; exact Nat.le_refl _)]
  refine At.calls (args := [.s (.lf (.sl 2 0 0 3 m none)), .v (stv p), .s (.lf (.sl 0 0 i0 1 n (some c))), (TV.s (.lf (.sl 1 0 0 1 tx.length (some ct)))), .int .i64 k]) (rows := [(0, numRow N), (1, txtRow tx), (2, rowN l m)]) (gl := []) (wr := [(ρ 2).1]) (ρ := ρ) Try.func40 rfl rfl (init_rw ⟨trivial, rfl, trivial, trivial, rfl, trivial⟩ rfl rfl rfl (fun q hq => ⟨hr q hq, ?_⟩) (fun q hq hw => ?_) hd) rfl ?_
  · simp only [List.mem_cons, List.not_mem_nil, or_false] at hq
    rcases hq with rfl | rfl | rfl
    · exact num_ok N
    · exact txt_ok tx
    · exact rowN_ok l m
  · simp only [List.mem_cons, List.not_mem_nil, or_false] at hq
    rcases hq with rfl | rfl | rfl
    · cases hw
    · cases hw
    · simp
  have hloop : ∀ j : Nat, j ≤ d2n n k m → At Try.prog w ⟨[(ρ 2).1], ρ, []⟩ Try.f40.ntmps [] (lp Try.f40 0) (EndX Try.prog Try.f40 (LOut w (ρ 2).1 (l ++ dir2L tx p ns k m) (m + d2n n k m))) (tm2d1 l p i0 n c k tx ta ct m j 2904) (rows2d1 N tx (l ++ (dir2L tx p ns k m).take j) (m + j) 2904) := by
    refine At.loop (fun j : Nat => tm2d1 l p i0 n c k tx ta ct m j 2904) (fun j => rows2d1 N tx (l ++ (dir2L tx p ns k m).take j) (m + j) 2904) (fun j => j ≤ d2n n k m) (fun j => d2n n k m - j) fun j hj ih => ?_
    by_cases h : j < d2n n k m
    · have h1 : j < n ∧ k + j < 6 ∧ m + j < 16 := by unfold d2n at h; omega
      obtain ⟨h1, h2, h3⟩ := h1
      have hnj : (nsf N (addN i0 j)) = nsf ns j := by rw [addN_eq, hns, nsf_cut N i0 n j h1]
      have hb : (nsf N (addN i0 j)).toNat < 256 := (nsf N (addN i0 j)).toNat_lt
      have hwr : IntKind.i64.wrap ((nsf N (addN i0 j)).toNat : Int) = ((nsf N (addN i0 j)).toNat : Int) := by rw [IntKind.wrap_i64]; omega
      have hnm := nm_len (k + j)
      have hstep := d2_step tx p ns k m j (by rw [hnl]; exact h)
      have hjl : (l ++ (dir2L tx p ns k m).take j).length = m + j := by rw [List.length_append, List.length_take, d2_len, hnl, ← hm]; omega
      have hnext : At Try.prog w ⟨[(ρ 2).1], ρ, []⟩ Try.f40.ntmps [] (lp Try.f40 0) (EndX Try.prog Try.f40 (LOut w (ρ 2).1 (l ++ dir2L tx p ns k m) (m + d2n n k m))) (tm2d1 l p i0 n c k tx ta ct m (j + 1) 9003)
          [(0, numRow N), (1, txtRow tx), (9003, ⟨[.fnc (appF (ndc (l ++ (dir2L tx p ns k m).take j)) (m + j) fun q => chunkF [stv (joinL p (nmL (k + j))), .int .i64 1, stv (textL tx (nsf N (addN i0 j)).toNat)] 3 1 (addN 0 q)) 3 (m + j + 1)], true, some (55, 3)⟩), (2000, nmRow)] := by
        refine At.rows (rows2 := [(0, numRow N), (1, txtRow tx), (9003, rowN (l ++ (dir2L tx p ns k m).take (j + 1)) (m + j + 1)), (2000, nmRow)]) (rowsEq_same (rowsEq_same (rowsEq_fnc (fun i hi => ?_) (rowsEq_same trivial)))) rfl ?_
        · rw [hstep, ← List.append_assoc, hnj]
          exact row_step _ ⟨joinL p (nmL (k + j)), 1, textL tx (nsf ns j).toNat⟩ (m + j) hjl.symm i hi
        · exact At.ren [(2904, 9003)] (tm2d1 l p i0 n c k tx ta ct m (j + 1) 2904) (rows2d1 N tx (l ++ (dir2L tx p ns k m).take (j + 1)) (m + (j + 1)) 2904) rfl rfl rfl rfl rfl (ih (j + 1) (by omega) (by omega))
      by_cases hpe : p = []
      · have e1 : joinL p (nmL (k + j)) = nmL (k + j) := by unfold joinL; rw [if_pos hpe]
        rw [e1] at hnext
        refine At.run rfl [(2004003, .val (.v (.bool true))), (2004010, .val (.v (.bool true))), (2004015, .val (.v (.bool true))), (6012, hText (TV.s (.lf (.sl 1 0 0 1 tx.length (some ct)))) [(1, txtRow tx)] (nsf N (addN i0 j)).toNat (textL tx (nsf N (addN i0 j)).toNat))] ⟨trivial, trivial, trivial, hText_ok _ hT _ (by omega), trivial⟩ [.y, .n] (tm2 := tm2d1 l p i0 n c k tx ta ct m (j + 1) 9003)
          (rows2 := [(0, numRow N), (1, txtRow tx), (9003, ⟨[.fnc (appF (ndc (l ++ (dir2L tx p ns k m).take j)) (m + j) fun q => chunkF [stv (nmL (k + j)), .int .i64 1, stv (textL tx (nsf N (addN i0 j)).toNat)] 3 1 (addN 0 q)) 3 (m + j + 1)], true, some (55, 3)⟩), (2000, nmRow)]) (td := lp Try.f40 0)
          (ob := [[TV.v (.bool (decide ((j : Int) < (n : Int)))) = TV.v (.bool true), inI ((k : Int) + (j : Int)), TV.v (.bool (decide ((k : Int) + (j : Int) < ((6 : Nat) : Int)))) = TV.v (.bool true), TV.v (.bool (decide (((m + j : Nat) : Int) < 16))) = TV.v (.bool true), true = true, inI ((k : Int) + (j : Int)), 0 ≤ (k : Int) + (j : Int) ∧ (k : Int) + (j : Int) < ((6 : Nat) : Int), k + j < 6, 0 ≤ (j : Int) ∧ (j : Int) < (n : Int), addN i0 j < N.length, IntKind.i64.wrap ((nsf N (addN i0 j)).toNat : Int) = ((nsf N (addN i0 j)).toNat : Int)],
            qL (hText (TV.s (.lf (.sl 1 0 0 1 tx.length (some ct)))) [(1, txtRow tx)] (nsf N (addN i0 j)).toNat (textL tx (nsf N (addN i0 j)).toNat)), [(!(lb ⟨p.toArray⟩ == lb ⟨#[]⟩)) = false, m + j = m + j, m + j + 1 ≤ 9223372036854775807, (m + j + 1) * 40 ≤ 140737488355328, 1 ≤ 1, inI ((j : Int) + 1)]].flatten) (by kernel_rfl) ?_ rfl rfl (by intro h; cases h) hnext
        exact all_flat ⟨⟨by rw [decide_eq_true (by omega)], ⟨by omega, by omega⟩, by rw [decide_eq_true (by omega)], by rw [decide_eq_true (by omega)], rfl, ⟨by omega, by omega⟩, ⟨by omega, by omega⟩, h2, ⟨by omega, by omega⟩, by rw [addN_eq]; omega, hwr, trivial⟩, all_qL _, ⟨by rw [hpe]; rfl, rfl, by omega, by omega, by omega, ⟨by omega, by omega⟩, trivial⟩, trivial⟩
      · have e1 : joinL p (nmL (k + j)) = (p ++ [47]) ++ nmL (k + j) := by unfold joinL; rw [if_neg hpe]; simp
        rw [e1] at hnext
        have hpl : (lb ⟨p.toArray⟩).length = p.length := rfl
        refine At.run rfl [(2004003, .val (.v (.bool true))), (2004010, .val (.v (.bool true))), (2004015, .val (.v (.bool true))), (6012, hText (TV.s (.lf (.sl 1 0 0 1 tx.length (some ct)))) [(1, txtRow tx)] (nsf N (addN i0 j)).toNat (textL tx (nsf N (addN i0 j)).toNat))] ⟨trivial, trivial, trivial, hText_ok _ hT _ (by omega), trivial⟩ [.y, .y] (tm2 := tm2d1 l p i0 n c k tx ta ct m (j + 1) 9003)
          (rows2 := [(0, numRow N), (1, txtRow tx), (9003, ⟨[.fnc (appF (ndc (l ++ (dir2L tx p ns k m).take j)) (m + j) fun q => chunkF [stv ((p ++ [47]) ++ nmL (k + j)), .int .i64 1, stv (textL tx (nsf N (addN i0 j)).toNat)] 3 1 (addN 0 q)) 3 (m + j + 1)], true, some (55, 3)⟩), (2000, nmRow)]) (td := lp Try.f40 0)
          (ob := [[TV.v (.bool (decide ((j : Int) < (n : Int)))) = TV.v (.bool true), inI ((k : Int) + (j : Int)), TV.v (.bool (decide ((k : Int) + (j : Int) < ((6 : Nat) : Int)))) = TV.v (.bool true), TV.v (.bool (decide (((m + j : Nat) : Int) < 16))) = TV.v (.bool true), true = true, inI ((k : Int) + (j : Int)), 0 ≤ (k : Int) + (j : Int) ∧ (k : Int) + (j : Int) < ((6 : Nat) : Int), k + j < 6, 0 ≤ (j : Int) ∧ (j : Int) < (n : Int), addN i0 j < N.length, IntKind.i64.wrap ((nsf N (addN i0 j)).toNat : Int) = ((nsf N (addN i0 j)).toNat : Int)],
            qL (hText (TV.s (.lf (.sl 1 0 0 1 tx.length (some ct)))) [(1, txtRow tx)] (nsf N (addN i0 j)).toNat (textL tx (nsf N (addN i0 j)).toNat)), [(!(lb ⟨p.toArray⟩ == lb ⟨#[]⟩)) = true, ((lb ⟨p.toArray⟩).length : Int) + 1 ≤ 9223372036854775807, inI ((k : Int) + (j : Int)), 0 ≤ (k : Int) + (j : Int) ∧ (k : Int) + (j : Int) < ((6 : Nat) : Int), k + j < 6, (((p ++ [47]).length : Nat) : Int) + ((nmL (k + j)).length : Int) ≤ 9223372036854775807, m + j = m + j, m + j + 1 ≤ 9223372036854775807, (m + j + 1) * 40 ≤ 140737488355328, 1 ≤ 1, inI ((j : Int) + 1)]].flatten) (by kernel_rfl) ?_ rfl rfl (by intro h; cases h) hnext
        refine all_flat ⟨⟨by rw [decide_eq_true (by omega)], ⟨by omega, by omega⟩, by rw [decide_eq_true (by omega)], by rw [decide_eq_true (by omega)], rfl, ⟨by omega, by omega⟩, ⟨by omega, by omega⟩, h2, ⟨by omega, by omega⟩, by rw [addN_eq]; omega, hwr, trivial⟩, all_qL _, ⟨?_, by omega, ⟨by omega, by omega⟩, ⟨by omega, by omega⟩, h2, ?_, rfl, by omega, by omega, by omega, ⟨by omega, by omega⟩, trivial⟩, trivial⟩
        · cases p with
          | nil => exact absurd rfl hpe
          | cons a q => rfl
        · rw [List.length_append, List.length_cons, List.length_nil]; omega
    · obtain rfl : j = d2n n k m := by omega
      rw [← hE]
      have hfin : ∀ (ρ' : Env) (w' : World), Fr w [(ρ 2).1] w' → (∀ r, r < 1000 → ρ' r = ρ r) → (TV.s (.lf (.sl 2904 0 0 3 (m + d2n n k m) none))).ok → (∀ q ∈ ([(2904, rowN (l ++ dir2L tx p ns k m) (m + d2n n k m))] : List (Nat × Row)), RowAt ρ' q.1 q.2 w' ∧ pok q.2.ps ∧ (q.2.w = true → w.heap.size ≤ (ρ' q.1).1 ∨ (ρ' q.1).1 ∈ [(ρ 2).1])) → LOut w (ρ 2).1 (l ++ dir2L tx p ns k m) (m + d2n n k m) (.returned ((TV.s (.lf (.sl 2904 0 0 3 (m + d2n n k m) none))).val ρ')) w' := fun ρ' w' hf _ _ hq => by
        obtain ⟨g1, _, g3⟩ := hq _ (List.mem_singleton.2 rfl)
        exact lout_fin hf g1 (g3 rfl)
      by_cases h1 : d2n n k m < n
      · by_cases h2 : k + d2n n k m < 6
        · have h3 : ¬ m + d2n n k m < 16 := by unfold d2n at h1 h2 ⊢; omega
          exact At.finR rfl [(2004003, .val (.v (.bool true))), (2004010, .val (.v (.bool true))), (2004015, .val (.v (.bool false)))] ⟨trivial, trivial, trivial, trivial⟩ [.n] (rows2 := [(2904, rowN (l ++ dir2L tx p ns k m) (m + d2n n k m))]) (x := .s (.lf (.sl 2904 0 0 3 (m + d2n n k m) none)))
            (ob := [TV.v (.bool (decide ((d2n n k m : Int) < (n : Int)))) = TV.v (.bool true), inI ((k : Int) + (d2n n k m : Int)), TV.v (.bool (decide ((k : Int) + (d2n n k m : Int) < ((6 : Nat) : Int)))) = TV.v (.bool true), TV.v (.bool (decide (((m + d2n n k m : Nat) : Int) < 16))) = TV.v (.bool false), false = false]) (by kernel_rfl) ⟨by rw [decide_eq_true (by omega)], ⟨by omega, by omega⟩, by rw [decide_eq_true (by omega)], by rw [decide_eq_false (by omega)], rfl, trivial⟩ hfin
        · exact At.finR rfl [(2004003, .val (.v (.bool true))), (2004010, .val (.v (.bool false)))] ⟨trivial, trivial, trivial⟩ [.n] (rows2 := [(2904, rowN (l ++ dir2L tx p ns k m) (m + d2n n k m))]) (x := .s (.lf (.sl 2904 0 0 3 (m + d2n n k m) none)))
            (ob := [TV.v (.bool (decide ((d2n n k m : Int) < (n : Int)))) = TV.v (.bool true), inI ((k : Int) + (d2n n k m : Int)), TV.v (.bool (decide ((k : Int) + (d2n n k m : Int) < ((6 : Nat) : Int)))) = TV.v (.bool false), false = false]) (by kernel_rfl) ⟨by rw [decide_eq_true (by omega)], ⟨by unfold d2n; omega, by unfold d2n; omega⟩, by rw [decide_eq_false (by omega)], rfl, trivial⟩ hfin
      · exact At.finR rfl [(2004003, .val (.v (.bool false)))] ⟨trivial, trivial⟩ [.n] (rows2 := [(2904, rowN (l ++ dir2L tx p ns k m) (m + d2n n k m))]) (x := .s (.lf (.sl 2904 0 0 3 (m + d2n n k m) none)))
            (ob := [TV.v (.bool (decide ((d2n n k m : Int) < (n : Int)))) = TV.v (.bool false), false = false]) (by kernel_rfl) ⟨by rw [decide_eq_false (by omega)], rfl, trivial⟩ hfin
  have h0 := hloop 0 (Nat.zero_le _)
  rw [List.take_zero, List.append_nil] at h0
  refine At.run rfl [] trivial [] (tm2 := tm2d1 l p i0 n c k tx ta ct m 0 2) (rows2 := [(0, numRow N), (1, txtRow tx), (2, rowN l (m + 0)), (2000, ⟨[.fnc (chunkF [stv [97], stv [98, 46, 99], stv [98, 105, 110], stv [108, 105, 98], stv [120, 32, 121], stv [122]] 1 6) 1 6], true, some (9, 1)⟩)]) (ob := []) (td := lp Try.f40 0) (by kernel_rfl) trivial rfl rfl (by intro h; cases h) ?_
  refine At.rows (rows2 := [(0, numRow N), (1, txtRow tx), (2, rowN l (m + 0)), (2000, nmRow)]) (rowsEq_same (rowsEq_same (rowsEq_same (rowsEq_fnc names_row trivial)))) rfl ?_
  exact At.ren [(2904, 2)] (tm2d1 l p i0 n c k tx ta ct m 0 2904) (rows2d1 N tx l (m + 0) 2904) rfl rfl rfl rfl rfl h0
abbrev tm2d0 (l : List Nd) (p : List UInt8) (i0 n c k : Nat) (tx : List (List UInt8)) (ta : Option Addr) (ct m j R : Nat) : List (Nat × TV) := [(0, .s (.lf (.sl R 0 0 3 (m + j) none))), (1, .v (stv p)), (2, .s (.lf (.sl 0 0 i0 1 n (some c)))), (3, (TV.v (.slice ta 0 ct))), (4, .int .i64 k), (11, .s (.lf (.sl 2000 0 0 1 6 none))), (12, .int .i64 j)]
abbrev rows2d0 (N : List UInt8) (tx : List (List UInt8)) (L : List Nd) (m R : Nat) : List (Nat × Row) := [(0, numRow N), (R, rowN L m), (2000, nmRow)]
set_option maxRecDepth 100000 in
set_option maxHeartbeats 2000000 in
theorem dir2_run0 (N : List UInt8) (tx : List (List UInt8)) (ta : Option Addr) (ct : Nat) (hT : TxSrc (TV.v (.slice ta 0 ct)) [] tx) (l : List Nd) (m : Nat) (hm : m = l.length) (hm2 : m ≤ 1000000) (p : List UInt8) (hp : p.length ≤ 1000000) (i0 n c k : Nat) (hi : i0 + n ≤ N.length) (hn : n ≤ 9223372036854775807) (hk : k ≤ 1000000)
    (ρ : Env) (w : World) (hr : ∀ q ∈ ([(0, numRow N), (2, rowN l m)] : List (Nat × Row)), RowAt ρ q.1 q.2 w) (hd : PreDs ρ [(0, numRow N), (2, rowN l m)]) :
    Calls Try.prog 40 #[(TV.s (.lf (.sl 2 0 0 3 m none))).val ρ, strV p, (TV.s (.lf (.sl 0 0 i0 1 n (some c)))).val ρ, (TV.v (.slice ta 0 ct)).val ρ, .int .i64 k] w (LOut w (ρ 2).1 (l ++ dir2L tx p ((N.drop i0).take n) k m) (m + d2n n k m)) := by
  obtain ⟨ns, hns⟩ : ∃ ns, ns = (N.drop i0).take n := ⟨_, rfl⟩
  have hnl : ns.length = n := by rw [hns, List.length_take, List.length_drop]; omega
  rw [← hns]
  have hE : l ++ dir2L tx p ns k m = l ++ (dir2L tx p ns k m).take (d2n n k m) := by rw [List.take_of_length_le (by rw [d2_len, hnl]; exact Nat.le_refl _)]
  refine At.calls (args := [.s (.lf (.sl 2 0 0 3 m none)), .v (stv p), .s (.lf (.sl 0 0 i0 1 n (some c))), (TV.v (.slice ta 0 ct)), .int .i64 k]) (rows := [(0, numRow N), (2, rowN l m)]) (gl := []) (wr := [(ρ 2).1]) (ρ := ρ) Try.func40 rfl rfl (init_rw ⟨trivial, rfl, trivial, rfl, rfl, trivial⟩ rfl rfl rfl (fun q hq => ⟨hr q hq, ?_⟩) (fun q hq hw => ?_) hd) rfl ?_
  · simp only [List.mem_cons, List.not_mem_nil, or_false] at hq
    rcases hq with rfl | rfl
    · exact num_ok N
    
    · exact rowN_ok l m
  · simp only [List.mem_cons, List.not_mem_nil, or_false] at hq
    rcases hq with rfl | rfl
    · cases hw
    
    · simp
  have hloop : ∀ j : Nat, j ≤ d2n n k m → At Try.prog w ⟨[(ρ 2).1], ρ, []⟩ Try.f40.ntmps [] (lp Try.f40 0) (EndX Try.prog Try.f40 (LOut w (ρ 2).1 (l ++ dir2L tx p ns k m) (m + d2n n k m))) (tm2d0 l p i0 n c k tx ta ct m j 2904) (rows2d0 N tx (l ++ (dir2L tx p ns k m).take j) (m + j) 2904) := by
    refine At.loop (fun j : Nat => tm2d0 l p i0 n c k tx ta ct m j 2904) (fun j => rows2d0 N tx (l ++ (dir2L tx p ns k m).take j) (m + j) 2904) (fun j => j ≤ d2n n k m) (fun j => d2n n k m - j) fun j hj ih => ?_
    by_cases h : j < d2n n k m
    · have h1 : j < n ∧ k + j < 6 ∧ m + j < 16 := by unfold d2n at h; omega
      obtain ⟨h1, h2, h3⟩ := h1
      have hnj : (nsf N (addN i0 j)) = nsf ns j := by rw [addN_eq, hns, nsf_cut N i0 n j h1]
      have hb : (nsf N (addN i0 j)).toNat < 256 := (nsf N (addN i0 j)).toNat_lt
      have hwr : IntKind.i64.wrap ((nsf N (addN i0 j)).toNat : Int) = ((nsf N (addN i0 j)).toNat : Int) := by rw [IntKind.wrap_i64]; omega
      have hnm := nm_len (k + j)
      have hstep := d2_step tx p ns k m j (by rw [hnl]; exact h)
      have hjl : (l ++ (dir2L tx p ns k m).take j).length = m + j := by rw [List.length_append, List.length_take, d2_len, hnl, ← hm]; omega
      have hnext : At Try.prog w ⟨[(ρ 2).1], ρ, []⟩ Try.f40.ntmps [] (lp Try.f40 0) (EndX Try.prog Try.f40 (LOut w (ρ 2).1 (l ++ dir2L tx p ns k m) (m + d2n n k m))) (tm2d0 l p i0 n c k tx ta ct m (j + 1) 9003)
          [(0, numRow N), (9003, ⟨[.fnc (appF (ndc (l ++ (dir2L tx p ns k m).take j)) (m + j) fun q => chunkF [stv (joinL p (nmL (k + j))), .int .i64 1, stv (textL tx (nsf N (addN i0 j)).toNat)] 3 1 (addN 0 q)) 3 (m + j + 1)], true, some (55, 3)⟩), (2000, nmRow)] := by
        refine At.rows (rows2 := [(0, numRow N), (9003, rowN (l ++ (dir2L tx p ns k m).take (j + 1)) (m + j + 1)), (2000, nmRow)]) (rowsEq_same (rowsEq_fnc (fun i hi => ?_) (rowsEq_same trivial))) rfl ?_
        · rw [hstep, ← List.append_assoc, hnj]
          exact row_step _ ⟨joinL p (nmL (k + j)), 1, textL tx (nsf ns j).toNat⟩ (m + j) hjl.symm i hi
        · exact At.ren [(2904, 9003)] (tm2d0 l p i0 n c k tx ta ct m (j + 1) 2904) (rows2d0 N tx (l ++ (dir2L tx p ns k m).take (j + 1)) (m + (j + 1)) 2904) rfl rfl rfl rfl rfl (ih (j + 1) (by omega) (by omega))
      by_cases hpe : p = []
      · have e1 : joinL p (nmL (k + j)) = nmL (k + j) := by unfold joinL; rw [if_pos hpe]
        rw [e1] at hnext
        refine At.run rfl [(2004003, .val (.v (.bool true))), (2004010, .val (.v (.bool true))), (2004015, .val (.v (.bool true))), (6012, hText (TV.v (.slice ta 0 ct)) [] (nsf N (addN i0 j)).toNat (textL tx (nsf N (addN i0 j)).toNat))] ⟨trivial, trivial, trivial, hText_ok _ hT _ (by omega), trivial⟩ [.y, .n] (tm2 := tm2d0 l p i0 n c k tx ta ct m (j + 1) 9003)
          (rows2 := [(0, numRow N), (9003, ⟨[.fnc (appF (ndc (l ++ (dir2L tx p ns k m).take j)) (m + j) fun q => chunkF [stv (nmL (k + j)), .int .i64 1, stv (textL tx (nsf N (addN i0 j)).toNat)] 3 1 (addN 0 q)) 3 (m + j + 1)], true, some (55, 3)⟩), (2000, nmRow)]) (td := lp Try.f40 0)
          (ob := [[TV.v (.bool (decide ((j : Int) < (n : Int)))) = TV.v (.bool true), inI ((k : Int) + (j : Int)), TV.v (.bool (decide ((k : Int) + (j : Int) < ((6 : Nat) : Int)))) = TV.v (.bool true), TV.v (.bool (decide (((m + j : Nat) : Int) < 16))) = TV.v (.bool true), true = true, inI ((k : Int) + (j : Int)), 0 ≤ (k : Int) + (j : Int) ∧ (k : Int) + (j : Int) < ((6 : Nat) : Int), k + j < 6, 0 ≤ (j : Int) ∧ (j : Int) < (n : Int), addN i0 j < N.length, IntKind.i64.wrap ((nsf N (addN i0 j)).toNat : Int) = ((nsf N (addN i0 j)).toNat : Int)],
            qL (hText (TV.v (.slice ta 0 ct)) [] (nsf N (addN i0 j)).toNat (textL tx (nsf N (addN i0 j)).toNat)), [(!(lb ⟨p.toArray⟩ == lb ⟨#[]⟩)) = false, m + j = m + j, m + j + 1 ≤ 9223372036854775807, (m + j + 1) * 40 ≤ 140737488355328, 1 ≤ 1, inI ((j : Int) + 1)]].flatten) (by kernel_rfl) ?_ rfl rfl (by intro h; cases h) hnext
        exact all_flat ⟨⟨by rw [decide_eq_true (by omega)], ⟨by omega, by omega⟩, by rw [decide_eq_true (by omega)], by rw [decide_eq_true (by omega)], rfl, ⟨by omega, by omega⟩, ⟨by omega, by omega⟩, h2, ⟨by omega, by omega⟩, by rw [addN_eq]; omega, hwr, trivial⟩, all_qL _, ⟨by rw [hpe]; rfl, rfl, by omega, by omega, by omega, ⟨by omega, by omega⟩, trivial⟩, trivial⟩
      · have e1 : joinL p (nmL (k + j)) = (p ++ [47]) ++ nmL (k + j) := by unfold joinL; rw [if_neg hpe]; simp
        rw [e1] at hnext
        have hpl : (lb ⟨p.toArray⟩).length = p.length := rfl
        refine At.run rfl [(2004003, .val (.v (.bool true))), (2004010, .val (.v (.bool true))), (2004015, .val (.v (.bool true))), (6012, hText (TV.v (.slice ta 0 ct)) [] (nsf N (addN i0 j)).toNat (textL tx (nsf N (addN i0 j)).toNat))] ⟨trivial, trivial, trivial, hText_ok _ hT _ (by omega), trivial⟩ [.y, .y] (tm2 := tm2d0 l p i0 n c k tx ta ct m (j + 1) 9003)
          (rows2 := [(0, numRow N), (9003, ⟨[.fnc (appF (ndc (l ++ (dir2L tx p ns k m).take j)) (m + j) fun q => chunkF [stv ((p ++ [47]) ++ nmL (k + j)), .int .i64 1, stv (textL tx (nsf N (addN i0 j)).toNat)] 3 1 (addN 0 q)) 3 (m + j + 1)], true, some (55, 3)⟩), (2000, nmRow)]) (td := lp Try.f40 0)
          (ob := [[TV.v (.bool (decide ((j : Int) < (n : Int)))) = TV.v (.bool true), inI ((k : Int) + (j : Int)), TV.v (.bool (decide ((k : Int) + (j : Int) < ((6 : Nat) : Int)))) = TV.v (.bool true), TV.v (.bool (decide (((m + j : Nat) : Int) < 16))) = TV.v (.bool true), true = true, inI ((k : Int) + (j : Int)), 0 ≤ (k : Int) + (j : Int) ∧ (k : Int) + (j : Int) < ((6 : Nat) : Int), k + j < 6, 0 ≤ (j : Int) ∧ (j : Int) < (n : Int), addN i0 j < N.length, IntKind.i64.wrap ((nsf N (addN i0 j)).toNat : Int) = ((nsf N (addN i0 j)).toNat : Int)],
            qL (hText (TV.v (.slice ta 0 ct)) [] (nsf N (addN i0 j)).toNat (textL tx (nsf N (addN i0 j)).toNat)), [(!(lb ⟨p.toArray⟩ == lb ⟨#[]⟩)) = true, ((lb ⟨p.toArray⟩).length : Int) + 1 ≤ 9223372036854775807, inI ((k : Int) + (j : Int)), 0 ≤ (k : Int) + (j : Int) ∧ (k : Int) + (j : Int) < ((6 : Nat) : Int), k + j < 6, (((p ++ [47]).length : Nat) : Int) + ((nmL (k + j)).length : Int) ≤ 9223372036854775807, m + j = m + j, m + j + 1 ≤ 9223372036854775807, (m + j + 1) * 40 ≤ 140737488355328, 1 ≤ 1, inI ((j : Int) + 1)]].flatten) (by kernel_rfl) ?_ rfl rfl (by intro h; cases h) hnext
        refine all_flat ⟨⟨by rw [decide_eq_true (by omega)], ⟨by omega, by omega⟩, by rw [decide_eq_true (by omega)], by rw [decide_eq_true (by omega)], rfl, ⟨by omega, by omega⟩, ⟨by omega, by omega⟩, h2, ⟨by omega, by omega⟩, by rw [addN_eq]; omega, hwr, trivial⟩, all_qL _, ⟨?_, by omega, ⟨by omega, by omega⟩, ⟨by omega, by omega⟩, h2, ?_, rfl, by omega, by omega, by omega, ⟨by omega, by omega⟩, trivial⟩, trivial⟩
        · cases p with
          | nil => exact absurd rfl hpe
          | cons a q => rfl
        · rw [List.length_append, List.length_cons, List.length_nil]; omega
    · obtain rfl : j = d2n n k m := by omega
      rw [← hE]
      have hfin : ∀ (ρ' : Env) (w' : World), Fr w [(ρ 2).1] w' → (∀ r, r < 1000 → ρ' r = ρ r) → (TV.s (.lf (.sl 2904 0 0 3 (m + d2n n k m) none))).ok → (∀ q ∈ ([(2904, rowN (l ++ dir2L tx p ns k m) (m + d2n n k m))] : List (Nat × Row)), RowAt ρ' q.1 q.2 w' ∧ pok q.2.ps ∧ (q.2.w = true → w.heap.size ≤ (ρ' q.1).1 ∨ (ρ' q.1).1 ∈ [(ρ 2).1])) → LOut w (ρ 2).1 (l ++ dir2L tx p ns k m) (m + d2n n k m) (.returned ((TV.s (.lf (.sl 2904 0 0 3 (m + d2n n k m) none))).val ρ')) w' := fun ρ' w' hf _ _ hq => by
        obtain ⟨g1, _, g3⟩ := hq _ (List.mem_singleton.2 rfl)
        exact lout_fin hf g1 (g3 rfl)
      by_cases h1 : d2n n k m < n
      · by_cases h2 : k + d2n n k m < 6
        · have h3 : ¬ m + d2n n k m < 16 := by unfold d2n at h1 h2 ⊢; omega
          exact At.finR rfl [(2004003, .val (.v (.bool true))), (2004010, .val (.v (.bool true))), (2004015, .val (.v (.bool false)))] ⟨trivial, trivial, trivial, trivial⟩ [.n] (rows2 := [(2904, rowN (l ++ dir2L tx p ns k m) (m + d2n n k m))]) (x := .s (.lf (.sl 2904 0 0 3 (m + d2n n k m) none)))
            (ob := [TV.v (.bool (decide ((d2n n k m : Int) < (n : Int)))) = TV.v (.bool true), inI ((k : Int) + (d2n n k m : Int)), TV.v (.bool (decide ((k : Int) + (d2n n k m : Int) < ((6 : Nat) : Int)))) = TV.v (.bool true), TV.v (.bool (decide (((m + d2n n k m : Nat) : Int) < 16))) = TV.v (.bool false), false = false]) (by kernel_rfl) ⟨by rw [decide_eq_true (by omega)], ⟨by omega, by omega⟩, by rw [decide_eq_true (by omega)], by rw [decide_eq_false (by omega)], rfl, trivial⟩ hfin
        · exact At.finR rfl [(2004003, .val (.v (.bool true))), (2004010, .val (.v (.bool false)))] ⟨trivial, trivial, trivial⟩ [.n] (rows2 := [(2904, rowN (l ++ dir2L tx p ns k m) (m + d2n n k m))]) (x := .s (.lf (.sl 2904 0 0 3 (m + d2n n k m) none)))
            (ob := [TV.v (.bool (decide ((d2n n k m : Int) < (n : Int)))) = TV.v (.bool true), inI ((k : Int) + (d2n n k m : Int)), TV.v (.bool (decide ((k : Int) + (d2n n k m : Int) < ((6 : Nat) : Int)))) = TV.v (.bool false), false = false]) (by kernel_rfl) ⟨by rw [decide_eq_true (by omega)], ⟨by unfold d2n; omega, by unfold d2n; omega⟩, by rw [decide_eq_false (by omega)], rfl, trivial⟩ hfin
      · exact At.finR rfl [(2004003, .val (.v (.bool false)))] ⟨trivial, trivial⟩ [.n] (rows2 := [(2904, rowN (l ++ dir2L tx p ns k m) (m + d2n n k m))]) (x := .s (.lf (.sl 2904 0 0 3 (m + d2n n k m) none)))
            (ob := [TV.v (.bool (decide ((d2n n k m : Int) < (n : Int)))) = TV.v (.bool false), false = false]) (by kernel_rfl) ⟨by rw [decide_eq_false (by omega)], rfl, trivial⟩ hfin
  have h0 := hloop 0 (Nat.zero_le _)
  rw [List.take_zero, List.append_nil] at h0
  refine At.run rfl [] trivial [] (tm2 := tm2d0 l p i0 n c k tx ta ct m 0 2) (rows2 := [(0, numRow N), (2, rowN l (m + 0)), (2000, ⟨[.fnc (chunkF [stv [97], stv [98, 46, 99], stv [98, 105, 110], stv [108, 105, 98], stv [120, 32, 121], stv [122]] 1 6) 1 6], true, some (9, 1)⟩)]) (ob := []) (td := lp Try.f40 0) (by kernel_rfl) trivial rfl rfl (by intro h; cases h) ?_
  refine At.rows (rows2 := [(0, numRow N), (2, rowN l (m + 0)), (2000, nmRow)]) (rowsEq_same (rowsEq_same (rowsEq_fnc names_row trivial))) rfl ?_
  exact At.ren [(2904, 2)] (tm2d0 l p i0 n c k tx ta ct m 0 2904) (rows2d0 N tx l (m + 0) 2904) rfl rfl rfl rfl rfl h0
end
end Go.Proofs.Ytglipljilcdboaa
