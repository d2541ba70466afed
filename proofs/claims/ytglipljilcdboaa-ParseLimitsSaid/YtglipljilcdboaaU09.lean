/- Several texts, one behind the other; each says by itself what it proves, and on what conditions. -/
import Derived.Test.YtglipljilcdboaaU08
/- Trees made of numbers and texts: each may be. No condition but that the texts are not too long. -/
namespace Go.Proofs.Ytglipljilcdboaa
set_option linter.unusedSimpArgs false
set_option linter.unusedVariables false
def nmL (j : Nat) : List UInt8 := match j with
  | 0 => [97]
  | 1 => [98, 46, 99]
  | 2 => [98, 105, 110]
  | 3 => [108, 105, 98]
  | 4 => [120, 32, 121]
  | _ => [122]
theorem nm_47 (j : Nat) : 47 ∉ nmL j := by
  unfold nmL
  split <;> decide
theorem nm_ne (j : Nat) : nmL j ≠ [] := by
  unfold nmL
  split <;> decide
theorem nm_may (j : Nat) : mayNameL (nmL j) = true := by
  unfold nmL
  split <;> decide
theorem nm_lt {i j : Nat} (h : i < j) (hj : j < 6) : ltL (nmL i) (nmL j) = true := by
  have key : ∀ j, j < 6 → ∀ i, i < j → ltL (nmL i) (nmL j) = true := by decide
  exact key j hj i h
theorem nm_lt0 (j : Nat) : ltL [] (nmL j) = true := by
  unfold nmL
  split <;> rfl
/-- One of some texts. -/
def textL (l : List (List UInt8)) (i : Nat) : List UInt8 := if l = [] then [] else l.getD (i % l.length) []
def dataL (texts : List (List UInt8)) (kind : Nat) (a b c : UInt8) : List UInt8 :=
  if kind = 1 ∨ kind = 2 then textL texts c.toNat ++ [a, b] else if kind = 3 then [116, 111, 47] ++ nmL (c.toNat % 6) else []
/-- Files behind a directory. -/
def dir2L (texts : List (List UInt8)) (p : List UInt8) : List UInt8 → Nat → Nat → List Nd
  | [], _, _ => []
  | a :: ns, k, cnt => if k < 6 ∧ cnt < 16 then ⟨joinL p (nmL k), 1, textL texts a.toNat⟩ :: dir2L texts p ns (k + 1) (cnt + 1) else []
/-- Nodes in a directory, by three numbers each; so many levels may go on below. -/
def dirL (texts : List (List UInt8)) : Nat → Nat → List UInt8 → List UInt8 → Nat → Nat → List Nd
  | 0, _, _, _, _, _ => []
  | f + 1, dl, p, a :: b :: c :: ns, k, cnt =>
    if k < 6 ∧ cnt < 14 then
      if k + a.toNat % 3 < 6 then
        if 1 + b.toNat % 4 = 4 ∧ 0 < dl then
          ⟨joinL p (nmL (k + a.toNat % 3)), ((1 + b.toNat % 4 : Nat) : Int), dataL texts (1 + b.toNat % 4) a b c⟩ ::
            (dirL texts f (dl - 1) (joinL p (nmL (k + a.toNat % 3))) (ns.take (ns.length / 2)) 0 (cnt + 1) ++
              dir2L texts p (ns.drop (ns.length / 2)) (k + a.toNat % 3 + 1) (cnt + 1 + (dirL texts f (dl - 1) (joinL p (nmL (k + a.toNat % 3))) (ns.take (ns.length / 2)) 0 (cnt + 1)).length))
        else ⟨joinL p (nmL (k + a.toNat % 3)), ((1 + b.toNat % 4 : Nat) : Int), dataL texts (1 + b.toNat % 4) a b c⟩ :: dirL texts f dl p ns (k + a.toNat % 3 + 1) (cnt + 1)
      else []
    else []
  | _ + 1, _, _, _, _, _ => []
/-- What stands no more below a directory. -/
def away (p : List UInt8) (post : List Nd) : Prop := ∀ e r, post = e :: r → ¬ below p e.path
theorem away_name {p : List UInt8} {e : Nd} {r : List Nd} (h : away p (e :: r)) : nameL e.path p = [] := by
  by_cases hn : nameL e.path p = []
  · exact hn
  · exfalso
    exact h e r rfl (by rw [(name_join hn).1]; exact join_below _ _)
theorem loop_away {p last : List UInt8} {post : List Nd} (f : Nat) (h : away p post) : loopU (f + 1) p last post = post := by
  cases post with
  | nil => exact loopU_nil _ _ _
  | cons e r => rw [loopU_cons, if_pos (.inl (away_name h))]
theorem away_join {p n : List UInt8} {post : List Nd} (hn : n ≠ []) (h : away p post) : away (joinL p n) post := fun e r he hb => h e r he (below_join hb hn)
theorem dir2_loop (texts : List (List UInt8)) (p : List UInt8) (post : List Nd) (ha : away p post) : ∀ (ns : List UInt8) (k cnt f : Nat) (last : List UInt8), 2 * (dir2L texts p ns k cnt ++ post).length + 1 ≤ f → (∀ j, k ≤ j → j < 6 → ltL last (nmL j) = true) → loopU f p last (dir2L texts p ns k cnt ++ post) = post
  | [], k, cnt, f, last, hf, _ => by
    obtain ⟨g, rfl⟩ : ∃ g, f = g + 1 := ⟨f - 1, by omega⟩
    exact loop_away g ha
  | a :: ns, k, cnt, f, last, hf, hl => by
    obtain ⟨g, rfl⟩ : ∃ g, f = g + 1 := ⟨f - 1, by omega⟩
    rw [dir2L] at hf ⊢
    by_cases hk : k < 6 ∧ cnt < 16
    · rw [if_pos hk] at hf ⊢
      rw [List.cons_append] at hf ⊢
      simp only [List.length_cons] at hf
      have hname : nameL (joinL p (nmL k)) p = nmL k := name_of_join _ _ (nm_47 k)
      rw [loopU_cons]
      show (if nameL (joinL p (nmL k)) p = [] ∨ ltL last (nameL (joinL p (nmL k)) p) = false then _ else loopU g p (nameL (joinL p (nmL k)) p) (restU g _ _)) = post
      rw [hname, if_neg (by rw [hl k (Nat.le_refl _) hk.1]; intro h; exact h.elim (nm_ne k) (by decide))]
      obtain ⟨g2, rfl⟩ : ∃ g2, g = g2 + 1 := ⟨g - 1, by omega⟩
      rw [restU_succ, if_neg (show ¬ (1 : Int) = 4 by decide)]
      exact dir2_loop texts p post ha ns (k + 1) (cnt + 1) (g2 + 1) (nmL k) (by omega) (fun j hj hj6 => nm_lt (by omega) hj6)
    · rw [if_neg hk] at hf ⊢
      exact loop_away g ha
theorem dir2_head (texts : List (List UInt8)) (p : List UInt8) (post : List Nd) (ns : List UInt8) (k cnt : Nat) (n : List UInt8) (hn : n ≠ []) (ha : away p post) : away (joinL p n) (dir2L texts p ns k cnt ++ post) := by
  intro e r he hb
  cases ns with
  | nil => exact away_join hn ha e r he hb
  | cons a ns =>
    rw [dir2L] at he
    by_cases hk : k < 6 ∧ cnt < 16
    · rw [if_pos hk, List.cons_append] at he
      obtain ⟨h1, _⟩ := List.cons.inj he
      rw [← h1] at hb
      exact join_not_below hn (nm_47 k) hb
    · rw [if_neg hk] at he
      exact away_join hn ha e r he hb
theorem dir_head (texts : List (List UInt8)) (f dl : Nat) (p : List UInt8) (post : List Nd) (ns : List UInt8) (k cnt : Nat) (n : List UInt8) (hn : n ≠ []) (ha : away p post) : away (joinL p n) (dirL texts f dl p ns k cnt ++ post) := by
  intro e r he hb
  cases f with
  | zero => rw [dirL] at he; exact away_join hn ha e r he hb
  | succ f =>
    match ns, he with
    | [], he => rw [dirL] at he; exact away_join hn ha e r he hb; all_goals (intros; simp_all)
    | [_], he => rw [dirL] at he; exact away_join hn ha e r he hb; all_goals (intros; simp_all)
    | [_, _], he => rw [dirL] at he; exact away_join hn ha e r he hb; all_goals (intros; simp_all)
    | a :: b :: c :: ns, he =>
      rw [dirL] at he
      by_cases hk : k < 6 ∧ cnt < 14
      · rw [if_pos hk] at he
        by_cases hk2 : k + a.toNat % 3 < 6
        · rw [if_pos hk2] at he
          split at he
          all_goals
            rw [List.cons_append] at he
            obtain ⟨h1, _⟩ := List.cons.inj he
            rw [← h1] at hb
            exact join_not_below hn (nm_47 _) hb
        · rw [if_neg hk2] at he; exact away_join hn ha e r he hb
      · rw [if_neg hk] at he; exact away_join hn ha e r he hb
theorem dir_loop (texts : List (List UInt8)) : ∀ (F dl : Nat) (p : List UInt8) (post : List Nd) (ns : List UInt8) (k cnt f : Nat) (last : List UInt8), away p post → 2 * (dirL texts F dl p ns k cnt ++ post).length + 1 ≤ f → (∀ j, k ≤ j → j < 6 → ltL last (nmL j) = true) → loopU f p last (dirL texts F dl p ns k cnt ++ post) = post
  | 0, dl, p, post, ns, k, cnt, f, last, ha, hf, _ => by
    obtain ⟨g, rfl⟩ : ∃ g, f = g + 1 := ⟨f - 1, by omega⟩
    rw [dirL]
    exact loop_away g ha
  | F + 1, dl, p, post, [], k, cnt, f, last, ha, hf, hl => by
    obtain ⟨g, rfl⟩ : ∃ g, f = g + 1 := ⟨f - 1, by omega⟩
    rw [dirL]
    · exact loop_away g ha
    · intros; simp_all
  | F + 1, dl, p, post, [_], k, cnt, f, last, ha, hf, hl => by
    obtain ⟨g, rfl⟩ : ∃ g, f = g + 1 := ⟨f - 1, by omega⟩
    rw [dirL]
    · exact loop_away g ha
    · intros; simp_all
  | F + 1, dl, p, post, [_, _], k, cnt, f, last, ha, hf, hl => by
    obtain ⟨g, rfl⟩ : ∃ g, f = g + 1 := ⟨f - 1, by omega⟩
    rw [dirL]
    · exact loop_away g ha
    · intros; simp_all
  | F + 1, dl, p, post, a :: b :: c :: ns, k, cnt, f, last, ha, hf, hl => by
    obtain ⟨g, rfl⟩ : ∃ g, f = g + 1 := ⟨f - 1, by omega⟩
    rw [dirL] at hf ⊢
    by_cases hk : k < 6 ∧ cnt < 14
    · rw [if_pos hk] at hf ⊢
      by_cases hk2 : k + a.toNat % 3 < 6
      · rw [if_pos hk2] at hf ⊢
        obtain ⟨k1, hk1⟩ : ∃ k1, k1 = k + a.toNat % 3 := ⟨_, rfl⟩
        rw [← hk1] at hf hk2 ⊢
        have hname : nameL (joinL p (nmL k1)) p = nmL k1 := name_of_join _ _ (nm_47 k1)
        by_cases hd : 1 + b.toNat % 4 = 4 ∧ 0 < dl
        · rw [if_pos hd] at hf ⊢
          rw [List.cons_append, List.append_assoc] at hf ⊢
          simp only [List.length_cons] at hf
          rw [loopU_cons]
          show (if nameL (joinL p (nmL k1)) p = [] ∨ ltL last (nameL (joinL p (nmL k1)) p) = false then _ else loopU g p (nameL (joinL p (nmL k1)) p) (restU g _ _)) = post
          rw [hname, if_neg (by rw [hl k1 (by omega) hk2]; intro h; exact h.elim (nm_ne k1) (by decide))]
          obtain ⟨g2, rfl⟩ : ∃ g2, g = g2 + 1 := ⟨g - 1, by omega⟩
          rw [restU_succ, if_pos (show ((1 + b.toNat % 4 : Nat) : Int) = 4 by omega)]
          show loopU (g2 + 1) p (nmL k1) (loopU g2 (joinL p (nmL k1)) [] _) = post
          rw [dir_loop texts F (dl - 1) (joinL p (nmL k1)) _ _ 0 (cnt + 1) g2 [] (dir2_head texts p post _ _ _ _ (nm_ne k1) ha) (by omega) (fun j _ _ => nm_lt0 j)]
          exact dir2_loop texts p post ha _ _ _ (g2 + 1) (nmL k1) (by rw [List.length_append] at hf; omega) (fun j hj hj6 => nm_lt (by omega) hj6)
        · rw [if_neg hd] at hf ⊢
          rw [List.cons_append] at hf ⊢
          simp only [List.length_cons] at hf
          rw [loopU_cons]
          show (if nameL (joinL p (nmL k1)) p = [] ∨ ltL last (nameL (joinL p (nmL k1)) p) = false then _ else loopU g p (nameL (joinL p (nmL k1)) p) (restU g _ _)) = post
          rw [hname, if_neg (by rw [hl k1 (by omega) hk2]; intro h; exact h.elim (nm_ne k1) (by decide))]
          obtain ⟨g2, rfl⟩ : ∃ g2, g = g2 + 1 := ⟨g - 1, by omega⟩
          have hrest : ∀ (d : Nd), d.path = joinL p (nmL k1) → restU (g2 + 1) d (dirL texts F dl p ns (k1 + 1) (cnt + 1) ++ post) = dirL texts F dl p ns (k1 + 1) (cnt + 1) ++ post := by
            intro d hdp
            rw [restU_succ]
            split
            · obtain ⟨g3, rfl⟩ : ∃ g3, g2 = g3 + 1 := ⟨g2 - 1, by omega⟩
              rw [hdp]
              exact loop_away g3 (dir_head texts F dl p post ns (k1 + 1) (cnt + 1) _ (nm_ne k1) ha)
            · rfl
          rw [hrest _ rfl]
          exact dir_loop texts F dl p post ns (k1 + 1) (cnt + 1) (g2 + 1) (nmL k1) ha (by omega) (fun j hj hj6 => nm_lt (by omega) hj6)
      · rw [if_neg hk2] at hf ⊢
        exact loop_away g ha
    · rw [if_neg hk] at hf ⊢
      exact loop_away g ha
theorem tw_app (n : List UInt8) (h : 47 ∉ n) (t : List UInt8) : (n ++ 47 :: t).takeWhile (· != 47) = n := by
  induction n with
  | nil => rfl
  | cons a n ih =>
    have ha : a ≠ 47 := fun e => h (by simp [e])
    have hn : 47 ∉ n := fun e => h (List.mem_cons_of_mem _ e)
    rw [List.cons_append, List.takeWhile_cons, if_pos (by simpa using ha), ih hn]
theorem tw_all (n : List UInt8) (h : 47 ∉ n) : n.takeWhile (· != 47) = n := by
  induction n with
  | nil => rfl
  | cons a n ih =>
    have ha : a ≠ 47 := fun e => h (by simp [e])
    have hn : 47 ∉ n := fun e => h (List.mem_cons_of_mem _ e)
    simp [ha, ih hn]
theorem cut_join (p n : List UInt8) (hn : 47 ∉ n) : cutL (joinL p n) = (p, n) := by
  unfold cutL joinL
  by_cases hp : p = []
  · rw [if_pos hp, if_neg hn, hp]
  · rw [if_neg hp, if_pos (by simp)]
    have hr : (p ++ 47 :: n).reverse = n.reverse ++ 47 :: p.reverse := by simp
    rw [hr, tw_app _ (by simpa using hn), List.reverse_reverse]
    have hl : (p ++ 47 :: n).length - n.length - 1 = p.length := by rw [List.length_append, List.length_cons]; omega
    simp only [hl, List.take_left']
/-- How many names a directory's path has. -/
def depthL (p : List UInt8) : Nat := if p = [] then 0 else deepL p
theorem deep_join (p n : List UInt8) (hn : 47 ∉ n) : deepL (joinL p n) = depthL p + 1 := by
  have h0 : n.count 47 = 0 := List.count_eq_zero.2 hn
  unfold deepL joinL depthL
  by_cases hp : p = []
  · rw [if_pos hp, if_pos hp, h0]
  · rw [if_neg hp, if_neg hp, List.count_append, List.count_cons, h0]
    unfold deepL
    simp
    omega
theorem depth_join (p n : List UInt8) (hn : 47 ∉ n) (h : n ≠ []) : depthL (joinL p n) = depthL p + 1 := by
  have hne : joinL p n ≠ [] := by
    unfold joinL
    split
    · exact h
    · simp
  rw [← deep_join p n hn]
  unfold depthL
  rw [if_neg hne]
theorem text_len (l : List (List UInt8)) (h : ∀ t ∈ l, t.length ≤ 300) (i : Nat) : (textL l i).length ≤ 300 := by
  unfold textL
  split
  · simp
  · rename_i hne
    have hpos : 0 < l.length := List.length_pos_iff.2 hne
    have hi : i % l.length < l.length := Nat.mod_lt _ hpos
    rw [List.getD_eq_getElem?_getD, List.getElem?_eq_getElem hi]
    exact h _ (List.getElem_mem hi)
theorem nm_len (j : Nat) : (nmL j).length ≤ 3 := by
  unfold nmL
  split <;> decide
theorem nm_0 (j : Nat) : (nmL j).contains 0 = false := by
  unfold nmL
  split <;> decide
theorem data_may (texts : List (List UInt8)) (h : ∀ t ∈ texts, t.length ≤ 300) (path : List UInt8) (kd : Nat) (h1 : 1 ≤ kd) (h4 : kd ≤ 4) (a b c : UInt8) : mayDataL ⟨path, (kd : Int), dataL texts kd a b c⟩ = true := by
  unfold mayDataL dataL
  rcases (show kd = 1 ∨ kd = 2 ∨ kd = 3 ∨ kd = 4 by omega) with rfl | rfl | rfl | rfl
  · have := text_len texts h c.toNat
    simp
    omega
  · have := text_len texts h c.toNat
    simp
    omega
  · have h1 := nm_len (c.toNat % 6)
    have h2 := nm_0 (c.toNat % 6)
    have h3 : 0 ∉ nmL (c.toNat % 6) := by simpa using h2
    simp [h3]
    omega
  · simp
/-- What each node of a tree by numbers keeps. -/
def goodN (D : Nat) (c : Nd) : Prop := mayNameL (cutL c.path).2 = true ∧ deepL c.path ≤ D ∧ mayDataL c = true
theorem good_join (p : List UInt8) (j D : Nat) (c : Nd) (hp : c.path = joinL p (nmL j)) (hD : depthL p + 1 ≤ D) (hd : mayDataL c = true) : goodN D c := by
  refine ⟨?_, ?_, hd⟩
  · rw [hp, cut_join _ _ (nm_47 j)]; exact nm_may j
  · rw [hp, deep_join _ _ (nm_47 j)]; exact hD
theorem dir2_good (texts : List (List UInt8)) (h : ∀ t ∈ texts, t.length ≤ 300) (p : List UInt8) (D : Nat) (hD : depthL p + 1 ≤ D) : ∀ (ns : List UInt8) (k cnt : Nat), (∀ c ∈ dir2L texts p ns k cnt, goodN D c) ∧ (cnt ≤ 16 → cnt + (dir2L texts p ns k cnt).length ≤ 16)
  | [], k, cnt => ⟨fun c hc => (by rw [dir2L] at hc; cases hc), fun hc => by rw [dir2L]; exact hc⟩
  | a :: ns, k, cnt => by
    rw [dir2L]
    by_cases hk : k < 6 ∧ cnt < 16
    · rw [if_pos hk]
      obtain ⟨h1, h2⟩ := dir2_good texts h p D hD ns (k + 1) (cnt + 1)
      constructor
      · intro c hc
        rcases List.mem_cons.1 hc with rfl | hc
        · refine good_join p k D _ rfl hD ?_
          have := text_len texts h a.toNat
          unfold mayDataL
          simp
          omega
        · exact h1 c hc
      · intro hc
        have := h2 (by omega)
        rw [List.length_cons]
        omega
    · rw [if_neg hk]
      exact ⟨fun c hc => (by cases hc), fun hc => hc⟩
theorem dir_good (texts : List (List UInt8)) (h : ∀ t ∈ texts, t.length ≤ 300) : ∀ (F dl : Nat) (p : List UInt8) (D : Nat) (ns : List UInt8) (k cnt : Nat), depthL p + dl + 1 ≤ D → (∀ c ∈ dirL texts F dl p ns k cnt, goodN D c) ∧ (cnt ≤ 16 → cnt + (dirL texts F dl p ns k cnt).length ≤ 16)
  | 0, dl, p, D, ns, k, cnt, _ => ⟨fun c hc => (by rw [dirL] at hc; cases hc), fun hc => by rw [dirL]; exact hc⟩
  | F + 1, dl, p, D, [], k, cnt, _ => ⟨fun c hc => (by rw [dirL] at hc; cases hc; all_goals (intros; simp_all)), fun hc => (by rw [dirL]; exact hc; all_goals (intros; simp_all))⟩
  | F + 1, dl, p, D, [_], k, cnt, _ => ⟨fun c hc => (by rw [dirL] at hc; cases hc; all_goals (intros; simp_all)), fun hc => (by rw [dirL]; exact hc; all_goals (intros; simp_all))⟩
  | F + 1, dl, p, D, [_, _], k, cnt, _ => ⟨fun c hc => (by rw [dirL] at hc; cases hc; all_goals (intros; simp_all)), fun hc => (by rw [dirL]; exact hc; all_goals (intros; simp_all))⟩
  | F + 1, dl, p, D, a :: b :: c :: ns, k, cnt, hD => by
    rw [dirL]
    by_cases hk : k < 6 ∧ cnt < 14
    · rw [if_pos hk]
      by_cases hk2 : k + a.toNat % 3 < 6
      · rw [if_pos hk2]
        have hdata := data_may texts h (joinL p (nmL (k + a.toNat % 3))) (1 + b.toNat % 4) (by omega) (by omega) a b c
        by_cases hd : 1 + b.toNat % 4 = 4 ∧ 0 < dl
        · rw [if_pos hd]
          obtain ⟨h1, h2⟩ := dir_good texts h F (dl - 1) (joinL p (nmL (k + a.toNat % 3))) D (ns.take (ns.length / 2)) 0 (cnt + 1) (by rw [depth_join _ _ (nm_47 _) (nm_ne _)]; omega)
          obtain ⟨h3, h4⟩ := dir2_good texts h p D (by omega) (ns.drop (ns.length / 2)) (k + a.toNat % 3 + 1) (cnt + 1 + (dirL texts F (dl - 1) (joinL p (nmL (k + a.toNat % 3))) (ns.take (ns.length / 2)) 0 (cnt + 1)).length)
          constructor
          · intro e he
            rcases List.mem_cons.1 he with rfl | he
            · exact good_join p _ D _ rfl (by omega) hdata
            · rcases List.mem_append.1 he with he | he
              · exact h1 e he
              · exact h3 e he
          · intro hc
            have e2 := h2 (by omega)
            have e4 := h4 (by omega)
            rw [List.length_cons, List.length_append]
            omega
        · rw [if_neg hd]
          obtain ⟨h1, h2⟩ := dir_good texts h F dl p D ns (k + a.toNat % 3 + 1) (cnt + 1) hD
          constructor
          · intro e he
            rcases List.mem_cons.1 he with rfl | he
            · exact good_join p _ D _ rfl (by omega) hdata
            · exact h1 e he
          · intro hc
            have e2 := h2 (by omega)
            rw [List.length_cons]
            omega
      · rw [if_neg hk2]; exact ⟨fun c hc => (by cases hc), fun hc => hc⟩
    · rw [if_neg hk]; exact ⟨fun c hc => (by cases hc), fun hc => hc⟩
/-- A tree by numbers. -/
def madeL (texts : List (List UInt8)) (ns : List UInt8) : List Nd := match ns with
  | [] => [⟨[], 1, textL texts 0⟩]
  | a :: m =>
    if 4 < 1 + a.toNat % 5 ∨ 3 < m.length + 1 ∨ 1 + a.toNat % 5 = 4 then ⟨[], 4, []⟩ :: dirL texts (m.length + 2) 3 [] (a :: m) 0 1
    else if 1 + a.toNat % 5 = 3 then [⟨[], 3, [116, 111]⟩]
    else [⟨[], ((1 + a.toNat % 5 : Nat) : Int), 116 :: textL texts 0⟩]
theorem may_one (d : Nd) (h0 : d.path = []) (hd : mayDataL d = true) : mayL [d] = true := by
  have hr : restU (fuelN []) d [] = [] := by
    show restU 2 d [] = []
    rw [restU_succ]
    split
    · rw [loopU_nil]
    · rfl
  simp [mayL, h0, hd, hr]
theorem made_may (texts : List (List UInt8)) (h : ∀ t ∈ texts, t.length ≤ 300) (ns : List UInt8) : mayL (madeL texts ns) = true := by
  unfold madeL
  have ht := text_len texts h 0
  cases ns with
  | nil => exact may_one _ rfl (by unfold mayDataL; simp; omega)
  | cons a m =>
    show mayL (if _ then _ else _) = true
    by_cases h1 : 4 < 1 + a.toNat % 5 ∨ 3 < m.length + 1 ∨ 1 + a.toNat % 5 = 4
    · rw [if_pos h1]
      obtain ⟨hg, hc⟩ := dir_good texts h (m.length + 2) 3 [] 64 (a :: m) 0 1 (by decide)
      have hl := hc (by decide)
      have hrest : restU (fuelN (dirL texts (m.length + 2) 3 [] (a :: m) 0 1)) ⟨[], 4, []⟩ (dirL texts (m.length + 2) 3 [] (a :: m) 0 1) = [] := by
        unfold fuelN
        rw [restU_succ, if_pos rfl]
        have := dir_loop texts (m.length + 2) 3 [] [] (a :: m) 0 1 (2 * (dirL texts (m.length + 2) 3 [] (a :: m) 0 1).length + 1) [] (fun e r he => by cases he) (by rw [List.append_nil]; omega) (fun j _ _ => nm_lt0 j)
        rw [List.append_nil] at this
        exact this
      simp only [mayL, Bool.and_eq_true, decide_eq_true_eq, List.all_eq_true]
      refine ⟨⟨⟨⟨by omega, trivial⟩, by unfold mayDataL; simp⟩, fun c hc => ⟨⟨(hg c hc).1, (hg c hc).2.1⟩, (hg c hc).2.2⟩⟩, by rw [hrest]; rfl⟩
    · rw [if_neg h1]
      by_cases h3 : 1 + a.toNat % 5 = 3
      · rw [if_pos h3]
        exact may_one _ rfl (by unfold mayDataL; simp)
      · rw [if_neg h3]
        refine may_one _ rfl ?_
        unfold mayDataL
        rw [if_pos (show ((1 + a.toNat % 5 : Nat) : Int) = 1 ∨ ((1 + a.toNat % 5 : Nat) : Int) = 2 by omega)]
        simp
        omega
end Go.Proofs.Ytglipljilcdboaa
/- The document's reader, as it goes through texts: what it comes to is what the tree that takes texts comes to. No condition but what each names. -/
namespace Go.Proofs.Ytglipljilcdboaa
set_option linter.unusedVariables false
set_option linter.unusedSimpArgs false
/-- The document's reader: the place, the nodes, the error. -/
structure RS where
  at' : Nat
  l : List Nd
  e : Int
section
variable (S : List UInt8)
def wrongD (b : Bool) (q : RS) : RS := if b = true ∧ q.e = 0 then { q with e := 4 } else q
def textD (m : Nat) (q : RS) : List UInt8 × RS :=
  if q.e ≠ 0 then ([], q) else match cutT m (S.drop q.at') with
  | .more => ([], { q with e := 5 })
  | .form => ([], { q with e := 4 })
  | .ok s _ => (s, { q with at' := q.at' + (8 + padN s.length) })
def mostD (l : List (List UInt8)) : Nat := l.foldl (fun m w => max m w.length) 0
def oneD (l : List (List UInt8)) (q : RS) : List UInt8 × RS :=
  if (textD S (mostD l) q).2.e = 0 ∧ (textD S (mostD l) q).1 ∈ l then textD S (mostD l) q
  else ([], wrongD true (textD S (mostD l) q).2)
def badN (p last n : List UInt8) (k : Nat) : Bool := !(mayNameL n) || !(ltL last n) || decide (256 ≤ k) || decide (64 < deepL (joinL p n))
/-- Behind the text of data: a file. -/
def file2D (p : List UInt8) (k : Int) (q : RS) : RS := (oneD S [tClose] { (textD S 65536 q).2 with l := (textD S 65536 q).2.l ++ [⟨p, k, (textD S 65536 q).1⟩] }).2
def fileD (p : List UInt8) (q : RS) : RS :=
  if (oneD S [tCont, tExec] q).1 = tExec then file2D S p 2 (oneD S [tCont] (oneD S [[]] (oneD S [tCont, tExec] q).2).2).2
  else file2D S p 1 (oneD S [tCont, tExec] q).2
def link2D (p d : List UInt8) (q : RS) : RS := (oneD S [tClose] { (wrongD (!(mayDataL ⟨p, 3, d⟩)) q) with l := (wrongD (!(mayDataL ⟨p, 3, d⟩)) q).l ++ [⟨p, 3, d⟩] }).2
def linkD (p : List UInt8) (q : RS) : RS := link2D S p (textD S 4096 (oneD S [tTarg] q).2).1 (textD S 4096 (oneD S [tTarg] q).2).2
def kindD (p : List UInt8) (k : List UInt8) (q : RS) (g : RS → RS) : RS :=
  if k = tReg then fileD S p q else if k = tSym then linkD S p q
  else if k = tDir then g { q with l := q.l ++ [⟨p, 4, []⟩] } else (oneD S [tClose] { q with l := q.l ++ [⟨p, 4, []⟩] }).2
def headD (q : RS) : List UInt8 × RS := oneD S [tReg, tSym, tDir] (oneD S [tType] (oneD S [tOpen] q).2).2
/-- The name of an entry, and what stands ahead of it. -/
def nameD (q : RS) : List UInt8 × RS := textD S 255 (oneD S [tName] (oneD S [tOpen] q).2).2
def entD (p last : List UInt8) (n : List UInt8) (q : RS) : RS := (oneD S [tNode] (wrongD (badN p last n q.l.length) q)).2
mutual
def nodeD : Nat → List UInt8 → RS → RS
  | 0, _, q => q
  | f + 1, p, q => kindD S p (headD S q).1 (headD S q).2 (fun q3 => dirD f p [] q3)
def dirD : Nat → List UInt8 → List UInt8 → RS → RS
  | 0, _, _, q => q
  | f + 1, p, last, q =>
    if q.e ≠ 0 then q
    else if (oneD S [tEntry, tClose] q).1 ≠ tEntry then (oneD S [tEntry, tClose] q).2
    else
      let n := nameD S (oneD S [tEntry, tClose] q).2
      let q5 := entD S p last n.1 n.2
      let q6 := if q5.e = 0 then nodeD f (joinL p n.1) q5 else q5
      dirD f p n.1 (oneD S [tClose] q6).2
end
theorem n5 : (5 : Int) ≠ 0 := by decide
theorem n4 : (4 : Int) ≠ 0 := by decide
theorem text_err {m : Nat} {q : RS} (h : q.e ≠ 0) : textD S m q = ([], q) := by unfold textD; rw [if_pos h]
theorem wrong_err {b : Bool} {q : RS} (h : q.e ≠ 0) : wrongD b q = q := by unfold wrongD; rw [if_neg (by intro h2; exact h h2.2)]
theorem one_err {l : List (List UInt8)} {q : RS} (h : q.e ≠ 0) : oneD S l q = ([], q) := by
  unfold oneD
  rw [text_err S h, if_neg (by intro h2; exact h h2.1), wrong_err h]
theorem dir_err {f : Nat} {p last : List UInt8} {q : RS} (h : q.e ≠ 0) : dirD S f p last q = q := by
  cases f with
  | zero => rw [dirD]
  | succ f => rw [dirD, if_pos h]
theorem file2_err {p : List UInt8} {k : Int} {q : RS} (h : q.e ≠ 0) : (file2D S p k q).e = q.e := by
  unfold file2D
  rw [text_err S h, one_err S (by exact h)]
theorem file_err {p : List UInt8} {q : RS} (h : q.e ≠ 0) : (fileD S p q).e = q.e := by
  unfold fileD
  rw [one_err S h, if_neg (show ¬ ([] : List UInt8) = tExec by decide)]
  exact file2_err S h
theorem link_err {p : List UInt8} {q : RS} (h : q.e ≠ 0) : (linkD S p q).e = q.e := by
  unfold linkD link2D
  rw [one_err S h]
  simp only [text_err S h]
  rw [one_err S (by simp only [wrong_err h]; exact h)]
  simp only [wrong_err h]
theorem head_err {q : RS} (h : q.e ≠ 0) : headD S q = ([], q) := by
  unfold headD
  rw [one_err S h, one_err S h, one_err S h]
theorem kind_err {p : List UInt8} {q : RS} {g : RS → RS} (h : q.e ≠ 0) : (kindD S p [] q g).e = q.e := by
  unfold kindD
  rw [if_neg (by decide), if_neg (by decide), if_neg (by decide), one_err S (by exact h)]
/-- An error stays. -/
theorem node_err {f : Nat} {p : List UInt8} {q : RS} (h : q.e ≠ 0) : (nodeD S f p q).e = q.e := by
  cases f with
  | zero => rw [nodeD]
  | succ f =>
    rw [nodeD, head_err S h]
    exact kind_err S h
theorem name_err {q : RS} (h : q.e ≠ 0) : nameD S q = ([], q) := by
  unfold nameD
  rw [one_err S h, one_err S h, text_err S h]
theorem ent_err {p last n : List UInt8} {q : RS} (h : q.e ≠ 0) : entD S p last n q = q := by
  unfold entD
  rw [wrong_err h, one_err S h]
theorem text_more {m : Nat} {q : RS} (h0 : q.e = 0) (hc : cutT m (S.drop q.at') = .more) : textD S m q = ([], { q with e := 5 }) := by
  unfold textD; rw [if_neg (by intro h; exact h h0), hc]
theorem text_form {m : Nat} {q : RS} (h0 : q.e = 0) (hc : cutT m (S.drop q.at') = .form) : textD S m q = ([], { q with e := 4 }) := by
  unfold textD; rw [if_neg (by intro h; exact h h0), hc]
theorem text_ok {m : Nat} {q : RS} {s x : List UInt8} (h0 : q.e = 0) (hc : cutT m (S.drop q.at') = .ok s x) : textD S m q = (s, { q with at' := q.at' + (8 + padN s.length) }) := by
  unfold textD; rw [if_neg (by intro h; exact h h0), hc]
/-- What stands behind a text. -/
def onto (q : RS) (s : List UInt8) : RS := { q with at' := q.at' + (8 + padN s.length) }
/-- What one text comes to, at the document's and at the tree's. -/
theorem one_sim {l : List (List UInt8)} {q : RS} {t : TS} (h0 : q.e = 0) (h17 : t.pl ≠ 17) (hm : mostM t.pl = some (mostD l)) (hno : ∀ s, s ∉ l → takeM t s = none) :
    (∃ q', q'.e ≠ 0 ∧ oneD S l q = ([], q') ∧ finR t (S.drop q.at') = ([], q'.e)) ∨
    ∃ s, s ∈ l ∧ oneD S l q = (s, onto q s) ∧ S.drop q.at' = strL s ++ S.drop (onto q s).at' ∧ (onto q s).at' ≤ S.length ∧ ∀ t', takeM t s = some t' → finR t (S.drop q.at') = finR t' (S.drop (onto q s).at') := by
  unfold oneD
  cases hc : cutT (mostD l) (S.drop q.at') with
  | more =>
    rw [text_more S h0 hc, if_neg (by intro h; cases h.1)]
    exact .inl ⟨_, (by rw [wrong_err n5]; exact n5), rfl, by rw [wrong_err n5]; exact fin_more h17 hm hc⟩
  | form =>
    rw [text_form S h0 hc, if_neg (by intro h; cases h.1)]
    exact .inl ⟨_, (by rw [wrong_err n4]; exact n4), rfl, by rw [wrong_err n4]; exact fin_form hm hc⟩
  | ok s x =>
    have hl := cut_ok_len hc
    rw [text_ok S h0 hc]
    by_cases hs : s ∈ l
    · rw [if_pos ⟨h0, hs⟩]
      have hx : x = S.drop (onto q s).at' := by rw [hl.2.1, List.drop_drop]; rfl
      refine .inr ⟨s, hs, rfl, by rw [← hx]; exact cut_back hc, ?_, fun t' ht => by rw [← hx]; exact fin_ok hm hc ht⟩
      have := hl.2.2; rw [List.length_drop] at this; show q.at' + (8 + padN s.length) ≤ _; omega
    · rw [if_neg (fun h => hs h.2)]
      have e : wrongD true { q with at' := q.at' + (8 + padN s.length) } = { q with at' := q.at' + (8 + padN s.length), e := 4 } := by unfold wrongD; rw [if_pos ⟨rfl, h0⟩]
      exact .inl ⟨_, (by rw [e]; exact n4), rfl, by rw [e]; exact fin_no hm hc (hno s hs)⟩
theorem text_sim {m : Nat} {q : RS} {t : TS} (h0 : q.e = 0) (h17 : t.pl ≠ 17) (hm : mostM t.pl = some m) :
    (∃ q', q'.e ≠ 0 ∧ textD S m q = ([], q') ∧ finR t (S.drop q.at') = ([], q'.e)) ∨
    ∃ s, s.length ≤ m ∧ textD S m q = (s, onto q s) ∧ S.drop q.at' = strL s ++ S.drop (onto q s).at' ∧ (onto q s).at' ≤ S.length ∧ (∀ t', takeM t s = some t' → finR t (S.drop q.at') = finR t' (S.drop (onto q s).at')) ∧ (takeM t s = none → finR t (S.drop q.at') = ([], 4)) := by
  cases hc : cutT m (S.drop q.at') with
  | more => rw [text_more S h0 hc]; exact .inl ⟨_, n5, rfl, fin_more h17 hm hc⟩
  | form => rw [text_form S h0 hc]; exact .inl ⟨_, n4, rfl, fin_form hm hc⟩
  | ok s x =>
    have hl := cut_ok_len hc
    have hx : x = S.drop (onto q s).at' := by rw [hl.2.1, List.drop_drop]; rfl
    rw [text_ok S h0 hc]
    refine .inr ⟨s, hl.1, rfl, by rw [← hx]; exact cut_back hc, ?_, fun t' ht => (by rw [← hx]; exact fin_ok hm hc ht), fun ht => fin_no hm hc ht⟩
    have := hl.2.2; rw [List.length_drop] at this; show q.at' + (8 + padN s.length) ≤ _; omega
end
end Go.Proofs.Ytglipljilcdboaa
/- The document's reader and the tree that takes texts come to one. No condition but what each names. -/
namespace Go.Proofs.Ytglipljilcdboaa
set_option linter.unusedVariables false
set_option linter.unusedSimpArgs false
theorem take_none {t : TS} {s : List UInt8} (h14 : t.pl ≠ 14) (h9 : t.pl ≠ 9) (h7 : t.pl ≠ 7) (hs : ∀ w ∈ waysL t.pl, w.1 ≠ s) : takeM t s = none := by
  unfold takeM
  rw [if_neg h14, if_neg (by intro h; rcases h with h | h; exact h9 h; exact h7 h)]
  have : (waysL t.pl).find? (fun w => w.1 == s) = none := List.find?_eq_none.2 fun w hw h => hs w hw (by simpa using h)
  rw [this]
theorem take_one {p : Nat} {w : List UInt8 × Nat × Int} {t : TS} (hp : t.pl = p) (h14 : p ≠ 14) (h9 : p ≠ 9) (h7 : p ≠ 7) (hw : waysL p = [w]) : takeM t w.1 = some (followM t w) := by
  unfold takeM
  rw [hp, if_neg h14, if_neg (by intro h; rcases h with h | h; exact h9 h; exact h7 h), hw]
  simp
theorem setKind_app (l : List Nd) (c : Nd) (k : Int) : setKind (l ++ [c]) k = l ++ [{ c with kind := k }] := by simp [setKind]
theorem setData_app (l : List Nd) (c : Nd) (d : List UInt8) : setData (l ++ [c]) d = l ++ [{ c with data := d }] := by simp [setData]
section
variable (S : List UInt8)
/-- What is behind a step. -/
def StepO (t : TS) (q q' : RS) (t' : TS) : Prop := q'.e = 0 ∧ q.at' < q'.at' ∧ q'.at' ≤ S.length ∧ q'.l = q.l ∧ finR t (S.drop q.at') = finR t' (S.drop q'.at')
theorem StepO.trans {t t1 t2 : TS} {q q1 q2 : RS} (h : StepO S t q q1 t1) (k : StepO S t1 q1 q2 t2) : StepO S t q q2 t2 :=
  ⟨k.1, by have := h.2.1; have := k.2.1; omega, k.2.2.1, k.2.2.2.1.trans h.2.2.2.1, h.2.2.2.2.trans k.2.2.2.2⟩
/-- One word, the only one that may come. -/
theorem word_sim {w : List UInt8 × Nat × Int} {q : RS} {t : TS} {p : Nat} (h0 : q.e = 0) (hp : t.pl = p) (h14 : p ≠ 14) (h9 : p ≠ 9) (h7 : p ≠ 7) (h17 : p ≠ 17) (hw : waysL p = [w]) (hm : mostM p = some (mostD [w.1])) :
    (∃ q', q'.e ≠ 0 ∧ oneD S [w.1] q = ([], q') ∧ finR t (S.drop q.at') = ([], q'.e)) ∨ ∃ q', oneD S [w.1] q = (w.1, q') ∧ StepO S t q q' (followM t w) := by
  subst hp
  rcases one_sim S (l := [w.1]) (t := t) h0 h17 hm (fun s hs => take_none h14 h9 h7 (by rw [hw]; intro v hv; simp at hv; subst hv; intro e; exact hs (by simp [e]))) with h | ⟨s, hs, h1, _, h3, h4⟩
  · exact .inl h
  · simp only [List.mem_singleton] at hs
    subst hs
    exact .inr ⟨_, h1, h0, by show q.at' < q.at' + _; omega, h3, rfl, h4 _ (take_one rfl h14 h9 h7 hw)⟩
def Out (t : TS) (q q' : RS) (op : List (List UInt8 × List UInt8)) : Prop :=
  (q'.e ≠ 0 ∧ finR t (S.drop q.at') = ([], q'.e)) ∨ (q'.e = 0 ∧ q.at' < q'.at' ∧ q'.at' ≤ S.length ∧ q'.l.length ≤ 256 ∧ ∃ pth, finR t (S.drop q.at') = finR ⟨if op = [] then 17 else 16, pth, q'.l, op⟩ (S.drop q'.at'))
theorem Out.step {t t1 : TS} {q q1 q2 : RS} {op : List (List UInt8 × List UInt8)} (h : StepO S t q q1 t1) (k : Out S t1 q1 q2 op) : Out S t q q2 op := by
  rcases k with ⟨k1, k2⟩ | ⟨k1, k2, k3, k4, pth, k5⟩
  · exact .inl ⟨k1, h.2.2.2.2.trans k2⟩
  · exact .inr ⟨k1, by have := h.2.1; omega, k3, k4, pth, h.2.2.2.2.trans k5⟩
/-- The end of what is no directory, or of one. -/
theorem close_sim {q : RS} {t : TS} {pth : List UInt8} {op : List (List UInt8 × List UInt8)} {d : List UInt8 × List UInt8} (h0 : q.e = 0) (ht : t = ⟨10, pth, q.l, op ++ [d]⟩) (hl : q.l.length ≤ 256) : Out S t q (oneD S [tClose] q).2 op := by
  subst ht
  rcases word_sim S (w := (tClose, 16, 0)) (p := 10) (t := ⟨10, pth, q.l, op ++ [d]⟩) h0 rfl (by decide) (by decide) (by decide) (by decide) rfl rfl with ⟨q', h1, h2, h3⟩ | ⟨q', h2, h3⟩
  · rw [h2]; exact .inl ⟨h1, h3⟩
  · rw [h2]
    refine .inr ⟨h3.1, h3.2.1, h3.2.2.1, by rw [h3.2.2.2.1]; exact hl, pth, ?_⟩
    rw [h3.2.2.2.2, h3.2.2.2.1]
    simp [followM]
theorem file2_sim {q : RS} {pth p : List UInt8} {k : Int} {op : List (List UInt8 × List UInt8)} {d : List UInt8 × List UInt8} {t : TS} (h0 : q.e = 0) (ht : t = ⟨7, pth, q.l ++ [⟨p, k, []⟩], op ++ [d]⟩) (hl : q.l.length < 256) : Out S t q (file2D S p k q) op := by
  subst ht
  unfold file2D
  rcases text_sim S (m := 65536) (t := ⟨7, pth, q.l ++ [⟨p, k, []⟩], op ++ [d]⟩) h0 (by simp) rfl with ⟨q', h1, h2, h3⟩ | ⟨s, _, h2, _, h4, h5, _⟩
  · rw [h2, one_err S (by exact h1)]; exact .inl ⟨h1, h3⟩
  · rw [h2]
    have e : takeM ⟨7, pth, q.l ++ [⟨p, k, []⟩], op ++ [d]⟩ s = some ⟨10, pth, q.l ++ [⟨p, k, s⟩], op ++ [d]⟩ := by
      simp [takeM, holdM, setData_app]
    have g := h5 _ e
    rcases close_sim S (q := { onto q s with l := (onto q s).l ++ [⟨p, k, s⟩] }) (op := op) (d := d) h0 rfl (by simp [onto]; omega) with ⟨k1, k2⟩ | ⟨k1, k2, k3, k4, pt, k5⟩
    · exact .inl ⟨k1, g.trans k2⟩
    · exact .inr ⟨k1, Nat.lt_trans (show q.at' < (onto q s).at' by show q.at' < q.at' + _; omega) k2, k3, k4, pt, g.trans k5⟩
theorem file_sim {q : RS} {pth p : List UInt8} {op : List (List UInt8 × List UInt8)} {d : List UInt8 × List UInt8} {t : TS} (h0 : q.e = 0) (ht : t = ⟨4, pth, q.l ++ [⟨p, 1, []⟩], op ++ [d]⟩) (hl : q.l.length < 256) : Out S t q (fileD S p q) op := by
  subst ht
  unfold fileD
  rcases one_sim S (l := [tCont, tExec]) (t := ⟨4, pth, q.l ++ [⟨p, 1, []⟩], op ++ [d]⟩) h0 (by simp) rfl (fun s hs => take_none (by simp) (by simp) (by simp) (fun w hw e => by
    simp [waysL] at hw
    rcases hw with rfl | rfl
    · exact hs (by simp [← e])
    · exact hs (by simp [← e]))) with ⟨q', h1, h2, h3⟩ | ⟨s, hs, h2, _, h4, h5⟩
  · rw [h2, if_neg (show ¬ ([] : List UInt8) = tExec by decide)]
    exact .inl ⟨by rw [file2_err S h1]; exact h1, by rw [file2_err S h1]; exact h3⟩
  · rw [h2]
    have hst : ∀ t', takeM ⟨4, pth, q.l ++ [⟨p, 1, []⟩], op ++ [d]⟩ s = some t' → StepO S ⟨4, pth, q.l ++ [⟨p, 1, []⟩], op ++ [d]⟩ q (onto q s) t' := fun t' ht => ⟨h0, by show q.at' < q.at' + _; omega, h4, rfl, h5 t' ht⟩
    simp only [List.mem_cons, List.not_mem_nil, or_false] at hs
    rcases hs with rfl | rfl
    · rw [if_neg (show ¬ tCont = tExec by decide)]
      refine Out.step S (hst ⟨7, pth, q.l ++ [⟨p, 1, []⟩], op ++ [d]⟩ (by rfl)) (file2_sim S h0 rfl hl)
    · rw [if_pos rfl]
      refine Out.step S (hst ⟨5, pth, q.l ++ [⟨p, 2, []⟩], op ++ [d]⟩ (by simp [takeM, waysL, followM, setKind_app, tExec, tCont])) ?_
      rcases word_sim S (w := ([], 6, 0)) (p := 5) (q := onto q tExec) (t := ⟨5, pth, q.l ++ [⟨p, 2, []⟩], op ++ [d]⟩) h0 rfl (by decide) (by decide) (by decide) (by decide) rfl rfl with ⟨q', g1, g2, g3⟩ | ⟨q1, g2, g3⟩
      · rw [g2, one_err S g1]
        exact .inl ⟨by rw [file2_err S g1]; exact g1, by rw [file2_err S g1]; exact g3⟩
      · rw [g2]
        refine Out.step S g3 ?_
        rcases word_sim S (w := (tCont, 7, 0)) (p := 6) (q := q1) (t := followM ⟨5, pth, q.l ++ [⟨p, 2, []⟩], op ++ [d]⟩ ([], 6, 0)) g3.1 rfl (by decide) (by decide) (by decide) (by decide) rfl rfl with ⟨q', f1, f2, f3⟩ | ⟨q2, f2, f3⟩
        · rw [f2]
          exact .inl ⟨by rw [file2_err S f1]; exact f1, by rw [file2_err S f1]; exact f3⟩
        · rw [f2]
          refine Out.step S f3 (file2_sim S (pth := pth) (d := d) f3.1 ?_ ?_)
          · rw [f3.2.2.2.1, g3.2.2.2.1]; rfl
          · rw [f3.2.2.2.1, g3.2.2.2.1]; exact hl
theorem may_link (p s : List UInt8) (h : s.length ≤ 4096) : mayDataL ⟨p, 3, s⟩ = false ↔ (s = [] ∨ 0 ∈ s) := by
  unfold mayDataL
  cases s with
  | nil => simp
  | cons a l =>
    have h2 : l.length + 1 ≤ 4096 := by simpa using h
    simp [h2]
    exact Decidable.or_iff_not_imp_left.symm
theorem link_sim {q : RS} {pth p : List UInt8} {op : List (List UInt8 × List UInt8)} {d : List UInt8 × List UInt8} {t : TS} (h0 : q.e = 0) (ht : t = ⟨8, pth, q.l ++ [⟨p, 3, []⟩], op ++ [d]⟩) (hl : q.l.length < 256) : Out S t q (linkD S p q) op := by
  subst ht
  unfold linkD
  rcases word_sim S (w := (tTarg, 9, 0)) (p := 8) (q := q) (t := ⟨8, pth, q.l ++ [⟨p, 3, []⟩], op ++ [d]⟩) h0 rfl (by decide) (by decide) (by decide) (by decide) rfl rfl with ⟨q', f1, f2, f3⟩ | ⟨q1, f2, f3⟩
  · have := link_err S (p := p) (q := q') f1
    rw [f2]
    unfold linkD at this
    rw [one_err S f1] at this
    exact .inl ⟨by rw [this]; exact f1, by rw [this]; exact f3⟩
  · rw [f2]
    refine Out.step S f3 ?_
    have hq1 : q1.l = q.l := f3.2.2.2.1
    have ef : followM ⟨8, pth, q.l ++ [⟨p, 3, []⟩], op ++ [d]⟩ (tTarg, 9, 0) = ⟨9, pth, q.l ++ [⟨p, 3, []⟩], op ++ [d]⟩ := rfl
    rw [ef]
    unfold link2D
    rcases text_sim S (m := 4096) (q := q1) (t := ⟨9, pth, q.l ++ [⟨p, 3, []⟩], op ++ [d]⟩) f3.1 (by simp) rfl with ⟨q', h1, h2, h3⟩ | ⟨s, hsl, h2, _, h4, h5, h6⟩
    · rw [h2, wrong_err h1, one_err S (by exact h1)]; exact .inl ⟨h1, h3⟩
    · rw [h2]
      have hm := may_link p s hsl
      by_cases hb : mayDataL ⟨p, 3, s⟩ = false
      · have e : takeM ⟨9, pth, q.l ++ [⟨p, 3, []⟩], op ++ [d]⟩ s = none := by
          have := hm.1 hb
          simp [takeM, holdM, this]
        have ew : wrongD (!(mayDataL ⟨p, 3, s⟩)) (onto q1 s) = { onto q1 s with e := 4 } := by unfold wrongD; rw [hb, if_pos ⟨rfl, f3.1⟩]
        rw [ew, one_err S (by exact n4)]
        exact .inl ⟨n4, h6 e⟩
      · have hb' : mayDataL ⟨p, 3, s⟩ = true := by simpa using hb
        have e : takeM ⟨9, pth, q.l ++ [⟨p, 3, []⟩], op ++ [d]⟩ s = some ⟨10, pth, q.l ++ [⟨p, 3, s⟩], op ++ [d]⟩ := by
          have := mt hm.2 hb
          simp [takeM, holdM, this, setData_app]
        have ew : wrongD (!(mayDataL ⟨p, 3, s⟩)) (onto q1 s) = onto q1 s := by unfold wrongD; rw [hb', if_neg (by simp)]
        rw [ew]
        have g := h5 _ e
        rcases close_sim S (q := { onto q1 s with l := (onto q1 s).l ++ [⟨p, 3, s⟩] }) (t := ⟨10, pth, q.l ++ [⟨p, 3, s⟩], op ++ [d]⟩) (op := op) (d := d) (pth := pth) f3.1 (by show _ = TS.mk 10 pth (q1.l ++ _) _; rw [hq1]) (by simp [onto, hq1]; omega) with ⟨k1, k2⟩ | ⟨k1, k2, k3, k4, pt, k5⟩
        · exact .inl ⟨k1, g.trans k2⟩
        · exact .inr ⟨k1, Nat.lt_trans (show q1.at' < (onto q1 s).at' by show q1.at' < q1.at' + _; omega) k2, k3, k4, pt, g.trans k5⟩
/-- What a kind's word leads to. -/
def kindT (p pth : List UInt8) (l : List Nd) (op : List (List UInt8 × List UInt8)) (s : List UInt8) : TS :=
  ⟨if s = tReg then 4 else if s = tSym then 8 else 11, pth, l ++ [⟨p, if s = tReg then 1 else if s = tSym then 3 else 4, []⟩], op ++ [(p, [])]⟩
theorem head_sim {q : RS} {p : List UInt8} {op : List (List UInt8 × List UInt8)} {t : TS} (h0 : q.e = 0) (ht : t = ⟨1, p, q.l, op⟩) :
    (∃ q', q'.e ≠ 0 ∧ headD S q = ([], q') ∧ finR t (S.drop q.at') = ([], q'.e)) ∨ ∃ s q', (s = tReg ∨ s = tSym ∨ s = tDir) ∧ headD S q = (s, q') ∧ StepO S t q q' (kindT p p q.l op s) := by
  subst ht
  unfold headD
  rcases word_sim S (w := (tOpen, 2, 0)) (p := 1) (q := q) (t := ⟨1, p, q.l, op⟩) h0 rfl (by decide) (by decide) (by decide) (by decide) rfl rfl with ⟨q', f1, f2, f3⟩ | ⟨q1, f2, f3⟩
  · rw [f2, one_err S f1, one_err S f1]; exact .inl ⟨q', f1, rfl, f3⟩
  · rw [f2]
    rcases word_sim S (w := (tType, 3, 0)) (p := 2) (q := q1) (t := followM ⟨1, p, q.l, op⟩ (tOpen, 2, 0)) f3.1 rfl (by decide) (by decide) (by decide) (by decide) rfl rfl with ⟨q', g1, g2, g3⟩ | ⟨q2, g2, g3⟩
    · rw [g2, one_err S g1]; exact .inl ⟨q', g1, rfl, f3.2.2.2.2.trans g3⟩
    · rw [g2]
      have e : followM (followM ⟨1, p, q.l, op⟩ (tOpen, 2, 0)) (tType, 3, 0) = ⟨3, p, q.l ++ [⟨p, 0, []⟩], op ++ [(p, [])]⟩ := rfl
      rw [e] at g3
      have st := f3.trans S g3
      rcases one_sim S (l := [tReg, tSym, tDir]) (q := q2) (t := ⟨3, p, q.l ++ [⟨p, 0, []⟩], op ++ [(p, [])]⟩) g3.1 (by simp) rfl (fun s hs => take_none (by simp) (by simp) (by simp) (fun w hw e => by
        simp [waysL] at hw
        rcases hw with rfl | rfl | rfl
        · exact hs (by simp [← e])
        · exact hs (by simp [← e])
        · exact hs (by simp [← e]))) with ⟨q', h1, h2, h3⟩ | ⟨s, hs, h2, _, h4, h5⟩
      · rw [h2]; exact .inl ⟨q', h1, rfl, st.2.2.2.2.trans h3⟩
      · rw [h2]
        have hs2 : s = tReg ∨ s = tSym ∨ s = tDir := by simpa using hs
        refine .inr ⟨s, _, hs2, rfl, st.trans S ⟨g3.1, by show q2.at' < q2.at' + _; omega, h4, rfl, h5 _ ?_⟩⟩
        rcases hs2 with rfl | rfl | rfl
        · simp [takeM, waysL, followM, setKind_app, tReg, tSym, tDir, kindT]
        · simp [takeM, waysL, followM, setKind_app, tReg, tSym, tDir, kindT]
        · simp [takeM, waysL, followM, setKind_app, tReg, tSym, tDir, kindT]
theorem kind_sim {q : RS} {pth p s : List UInt8} {l : List Nd} {op : List (List UInt8 × List UInt8)} {g : RS → RS} (h0 : q.e = 0) (hs : s = tReg ∨ s = tSym ∨ s = tDir) (hq : q.l = l) (hl : q.l.length < 256)
    (hg : s = tDir → Out S ⟨11, pth, q.l ++ [⟨p, 4, []⟩], op ++ [(p, [])]⟩ { q with l := q.l ++ [⟨p, 4, []⟩] } (g { q with l := q.l ++ [⟨p, 4, []⟩] }) op) : Out S (kindT p pth l op s) q (kindD S p s q g) op := by
  subst hq
  unfold kindD kindT
  rcases hs with rfl | rfl | rfl
  · rw [if_pos rfl, if_pos rfl, if_pos rfl]
    exact file_sim S (d := (p, [])) h0 rfl hl
  · rw [if_neg (show ¬ tSym = tReg by decide), if_neg (show ¬ tSym = tReg by decide), if_neg (show ¬ tSym = tReg by decide), if_pos rfl, if_pos rfl, if_pos rfl]
    exact link_sim S (d := (p, [])) h0 rfl hl
  · rw [if_neg (show ¬ tDir = tReg by decide), if_neg (show ¬ tDir = tReg by decide), if_neg (show ¬ tDir = tReg by decide), if_neg (show ¬ tDir = tSym by decide), if_neg (show ¬ tDir = tSym by decide), if_neg (show ¬ tDir = tSym by decide), if_pos rfl]
    exact hg rfl
theorem bad_enter {pth p last n : List UInt8} {l : List Nd} {op : List (List UInt8 × List UInt8)} (hd : op.length = depthL p) (hl : l.length ≤ 256) :
    (badN p last n l.length = true → takeM ⟨14, pth, l, op ++ [(p, last)]⟩ n = none) ∧ (badN p last n l.length = false → takeM ⟨14, pth, l, op ++ [(p, last)]⟩ n = some ⟨15, joinL p n, l, op ++ [(p, n)]⟩ ∧ l.length < 256 ∧ n ≠ [] ∧ (47 : UInt8) ∉ n) := by
  have e : takeM ⟨14, pth, l, op ++ [(p, last)]⟩ n = if l.length = 256 ∨ 64 < op.length + 1 then none else if mayNameL n = false ∨ ltL last n = false then none else some ⟨15, joinL p n, l, op ++ [(p, n)]⟩ := by
    simp [takeM, enterM]
  have hn : mayNameL n = true → n ≠ [] ∧ (47 : UInt8) ∉ n := fun h => by
    unfold mayNameL at h
    simp at h
    refine ⟨fun h2 => ?_, h.1.1.2⟩
    rw [h2] at h
    simp at h
  rw [e]
  unfold badN
  constructor
  · intro h
    by_cases h1 : l.length = 256 ∨ 64 < op.length + 1
    · rw [if_pos h1]
    · rw [if_neg h1]
      by_cases h2 : mayNameL n = false ∨ ltL last n = false
      · rw [if_pos h2]
      · exfalso
        have h3 : mayNameL n = true ∧ ltL last n = true := by
          constructor
          · cases hm : mayNameL n with
            | true => rfl
            | false => exact absurd (.inl hm) h2
          · cases hm : ltL last n with
            | true => rfl
            | false => exact absurd (.inr hm) h2
        rw [h3.1, h3.2, deep_join p n (hn h3.1).2] at h
        simp at h
        omega
  · intro h
    simp at h
    obtain ⟨⟨⟨h1, h2⟩, h3⟩, h4⟩ := h
    have hk := hn h1
    rw [deep_join p n hk.2] at h4
    rw [if_neg (by omega), h1, h2, if_neg (by simp)]
    exact ⟨rfl, h3, hk.1, hk.2⟩
theorem node_dir_sim : ∀ f : Nat, (∀ (p : List UInt8) (q : RS) (op : List (List UInt8 × List UInt8)), q.e = 0 → q.l.length < 256 → op.length = depthL p → 2 * (S.length - q.at') + 2 ≤ f → q.at' ≤ S.length → Out S ⟨1, p, q.l, op⟩ q (nodeD S f p q) op) ∧
    (∀ (p last pth : List UInt8) (q : RS) (op : List (List UInt8 × List UInt8)), q.e = 0 → q.l.length ≤ 256 → op.length = depthL p → 2 * (S.length - q.at') + 1 ≤ f → q.at' ≤ S.length → Out S ⟨11, pth, q.l, op ++ [(p, last)]⟩ q (dirD S f p last q) op)
  | 0 => ⟨fun p q op _ _ _ h => by omega, fun p last pth q op _ _ _ h => by omega⟩
  | f + 1 => by
    obtain ⟨hN, hD⟩ := node_dir_sim f
    constructor
    · intro p q op h0 hl hd hf hle
      rw [nodeD]
      rcases head_sim S (p := p) (op := op) h0 rfl with ⟨q', h1, h2, h3⟩ | ⟨s, q1, hs, h2, h3⟩
      · rw [h2]
        exact .inl ⟨by rw [kind_err S h1]; exact h1, by rw [kind_err S h1]; exact h3⟩
      · rw [h2]
        have hq1 := h3.2.2.2.1
        refine Out.step S h3 (kind_sim S h3.1 hs hq1 (by rw [hq1]; exact hl) (fun _ => ?_))
        refine hD p [] p { q1 with l := q1.l ++ [⟨p, 4, []⟩] } op h3.1 (by simp [hq1]; omega) hd ?_ h3.2.2.1
        have := h3.2.1
        show 2 * (S.length - q1.at') + 1 ≤ f
        omega
    · intro p last pth q op h0 hl hd hf hle
      rw [dirD, if_neg (by simp [h0])]
      rcases one_sim S (l := [tEntry, tClose]) (q := q) (t := ⟨11, pth, q.l, op ++ [(p, last)]⟩) h0 (by simp) rfl (fun s hs => take_none (by simp) (by simp) (by simp) (fun w hw e => by
        simp [waysL] at hw
        rcases hw with rfl | rfl
        · exact hs (by simp [← e])
        · exact hs (by simp [← e]))) with ⟨q', h1, h2, h3⟩ | ⟨s, hs, h2, _, h4, h5⟩
      · rw [h2, if_pos (show ([] : List UInt8) ≠ tEntry by decide)]; exact .inl ⟨h1, h3⟩
      · rw [h2]
        have hst : ∀ t', takeM ⟨11, pth, q.l, op ++ [(p, last)]⟩ s = some t' → StepO S ⟨11, pth, q.l, op ++ [(p, last)]⟩ q (onto q s) t' := fun t' ht => ⟨h0, by show q.at' < q.at' + _; omega, h4, rfl, h5 t' ht⟩
        simp only [List.mem_cons, List.not_mem_nil, or_false] at hs
        rcases hs with rfl | rfl
        · rw [if_neg (by simp)]
          have s1 := hst ⟨12, pth, q.l, op ++ [(p, last)]⟩ (by rfl)
          obtain ⟨q1, hq1⟩ : ∃ q1, q1 = onto q tEntry := ⟨_, rfl⟩
          rw [← hq1] at s1 ⊢
          refine Out.step S s1 ?_
          have l1 := s1.2.2.2.1
          unfold nameD
          rcases word_sim S (w := (tOpen, 13, 0)) (p := 12) (q := q1) (t := ⟨12, pth, q.l, op ++ [(p, last)]⟩) s1.1 rfl (by decide) (by decide) (by decide) (by decide) rfl rfl with ⟨q', g1, g2, g3⟩ | ⟨q2, g2, g3⟩
          · rw [g2, one_err S g1, text_err S g1]
            simp only [ent_err S g1]
            rw [if_neg g1, one_err S g1, dir_err S g1]
            exact .inl ⟨g1, g3⟩
          · rw [g2]
            refine Out.step S g3 ?_
            have l2 := g3.2.2.2.1.trans l1
            rcases word_sim S (w := (tName, 14, 0)) (p := 13) (q := q2) (t := followM ⟨12, pth, q.l, op ++ [(p, last)]⟩ (tOpen, 13, 0)) g3.1 rfl (by decide) (by decide) (by decide) (by decide) rfl rfl with ⟨q', k1, k2, k3⟩ | ⟨q3, k2, k3⟩
            · rw [k2, text_err S k1]
              simp only [ent_err S k1]
              rw [if_neg k1, one_err S k1, dir_err S k1]
              exact .inl ⟨k1, k3⟩
            · rw [k2]
              refine Out.step S k3 ?_
              have l3 := k3.2.2.2.1.trans l2
              have e3 : followM (followM ⟨12, pth, q.l, op ++ [(p, last)]⟩ (tOpen, 13, 0)) (tName, 14, 0) = ⟨14, pth, q.l, op ++ [(p, last)]⟩ := rfl
              rw [e3]
              rcases text_sim S (m := 255) (q := q3) (t := ⟨14, pth, q.l, op ++ [(p, last)]⟩) k3.1 (by simp) rfl with ⟨q', m1, m2, m3⟩ | ⟨n, _, m2, _, m4, m5, m6⟩
              · rw [m2]
                simp only [ent_err S m1]
                rw [if_neg m1, one_err S m1, dir_err S m1]
                exact .inl ⟨m1, m3⟩
              · rw [m2]
                obtain ⟨q4, hq4⟩ : ∃ q4, q4 = onto q3 n := ⟨_, rfl⟩
                have a4 : q3.at' < q4.at' := by rw [hq4]; show q3.at' < q3.at' + _; omega
                rw [← hq4] at m4 m5 ⊢
                have z4 : q4.e = 0 := by rw [hq4]; exact k3.1
                have l4 : q4.l = q.l := by rw [hq4]; exact l3
                obtain ⟨b1, b2⟩ := bad_enter (pth := pth) (last := last) (n := n) (l := q.l) hd hl
                unfold entD
                simp only [l4]
                by_cases hb : badN p last n q.l.length = true
                · have ew : wrongD (badN p last n q.l.length) q4 = { q4 with e := 4 } := by unfold wrongD; rw [hb, if_pos ⟨rfl, z4⟩]
                  rw [ew, one_err S (by exact n4), if_neg (by exact n4), one_err S (by exact n4), dir_err S (by exact n4)]
                  exact .inl ⟨n4, m6 (b1 hb)⟩
                · have hb' : badN p last n q.l.length = false := by simpa using hb
                  have ew : wrongD (badN p last n q.l.length) q4 = q4 := by unfold wrongD; rw [hb', if_neg (by simp)]
                  rw [ew]
                  obtain ⟨b3, b4, b5, b6⟩ := b2 hb'
                  refine Out.step S (q1 := q4) ⟨z4, a4, m4, by rw [l4, l3], m5 _ b3⟩ ?_
                  rcases word_sim S (w := (tNode, 1, 0)) (p := 15) (q := q4) (t := ⟨15, joinL p n, q.l, op ++ [(p, n)]⟩) z4 rfl (by decide) (by decide) (by decide) (by decide) rfl rfl with ⟨q', v1, v2, v3⟩ | ⟨q5, v2, v3⟩
                  · rw [v2, if_neg v1, one_err S v1, dir_err S v1]
                    exact .inl ⟨v1, v3⟩
                  · rw [v2, if_pos v3.1]
                    refine Out.step S v3 ?_
                    have l5 := v3.2.2.2.1.trans l4
                    have e5 : followM ⟨15, joinL p n, q.l, op ++ [(p, n)]⟩ (tNode, 1, 0) = ⟨1, joinL p n, q5.l, op ++ [(p, n)]⟩ := by rw [l5]; rfl
                    rw [e5]
                    have hlt : q.at' < q5.at' := by
                      have := s1.2.1; have := g3.2.1; have := k3.2.1; have := v3.2.1
                      omega
                    rcases hN (joinL p n) q5 (op ++ [(p, n)]) v3.1 (by rw [l5]; exact b4) (by rw [depth_join p n b6 b5, List.length_append, hd]; rfl) (by have := v3.2.2.1; omega) v3.2.2.1 with ⟨x1, x2⟩ | ⟨x1, x2, x3, x4, pt, x5⟩
                    · rw [one_err S x1, dir_err S x1]
                      exact .inl ⟨x1, x2⟩
                    · obtain ⟨q6, hq6⟩ : ∃ q6, q6 = nodeD S f (joinL p n) q5 := ⟨_, rfl⟩
                      rw [← hq6] at x1 x2 x3 x4 x5 ⊢
                      rw [if_neg (by simp)] at x5
                      rcases word_sim S (w := (tClose, 11, 0)) (p := 16) (q := q6) (t := ⟨16, pt, q6.l, op ++ [(p, n)]⟩) x1 rfl (by decide) (by decide) (by decide) (by decide) rfl rfl with ⟨q', y1, y2, y3⟩ | ⟨q7, y2, y3⟩
                      · rw [y2, dir_err S y1]
                        exact .inl ⟨y1, x5.trans y3⟩
                      · rw [y2]
                        have l7 := y3.2.2.2.1
                        have e7 : followM ⟨16, pt, q6.l, op ++ [(p, n)]⟩ (tClose, 11, 0) = ⟨11, pt, q7.l, op ++ [(p, n)]⟩ := by rw [l7]; rfl
                        rw [e7] at y3
                        have hlt7 := y3.2.1
                        rcases hD p n pt q7 op y3.1 (by rw [l7]; exact x4) hd (by have := y3.2.2.1; omega) y3.2.2.1 with ⟨w1, w2⟩ | ⟨w1, w2, w3, w4, pw, w5⟩
                        · exact .inl ⟨w1, x5.trans (y3.2.2.2.2.trans w2)⟩
                        · exact .inr ⟨w1, Nat.lt_trans (Nat.lt_trans x2 hlt7) w2, w3, w4, pw, x5.trans (y3.2.2.2.2.trans w5)⟩
        · rw [if_pos (show tClose ≠ tEntry by decide)]
          refine .inr ⟨h0, by show q.at' < q.at' + _; omega, h4, hl, pth, h5 _ ?_⟩
          simp [takeM, waysL, followM, tEntry, tClose, onto]
/-- The document's Get. -/
def getD1 (f : Nat) : RS := 
  let q1 := (oneD S [tMagic] ⟨0, [], 0⟩).2
  let q2 := if q1.e = 0 then nodeD S f [] q1 else q1
  wrongD (decide (q2.at' < S.length)) q2
def getD (f : Nat) : List Nd × Int := if (getD1 S f).e ≠ 0 then ([], (getD1 S f).e) else ((getD1 S f).l, 0)
theorem get_eq (f : Nat) (hf : 2 * S.length + 2 ≤ f) : getD S f = getL S := by
  unfold getD getD1 getL
  rcases word_sim S (w := (tMagic, 1, 0)) (p := 0) (q := ⟨0, [], 0⟩) (t := t0) rfl rfl (by decide) (by decide) (by decide) (by decide) rfl rfl with ⟨q', v1, v2, v3⟩ | ⟨q1, v2, v3⟩
  · simp only [v2]
    rw [if_neg v1, wrong_err v1, if_pos v1]
    exact v3.symm
  · simp only [v2]
    rw [if_pos v3.1]
    have l1 := v3.2.2.2.1
    have e1 : followM t0 (tMagic, 1, 0) = ⟨1, [], q1.l, []⟩ := by rw [l1]; rfl
    rw [e1] at v3
    have z1 := v3.2.1
    rcases (node_dir_sim S f).1 [] q1 [] v3.1 (by rw [l1]; decide) rfl (by omega) v3.2.2.1 with ⟨x1, x2⟩ | ⟨x1, x2, x3, x4, pt, x5⟩
    · rw [wrong_err x1, if_pos x1]
      exact (v3.2.2.2.2.trans x2).symm
    · obtain ⟨q6, hq6⟩ : ∃ q6, q6 = nodeD S f [] q1 := ⟨_, rfl⟩
      rw [← hq6] at x1 x2 x3 x4 x5 ⊢
      have h9 := v3.2.2.2.2.trans x5
      rw [if_pos rfl, fin_end (TS.mk 17 pt q6.l []) _ rfl] at h9
      have h8 : finR t0 S = if S.drop q6.at' = [] then (q6.l, 0) else ([], 4) := h9
      rw [h8]
      by_cases hlt : q6.at' < S.length
      · have ew : wrongD (decide (q6.at' < S.length)) q6 = { q6 with e := 4 } := by unfold wrongD; rw [decide_eq_true hlt, if_pos ⟨rfl, x1⟩]
        rw [ew, if_pos (by exact n4), if_neg (by intro h; rw [List.drop_eq_nil_iff] at h; omega)]
      · have ew : wrongD (decide (q6.at' < S.length)) q6 = q6 := by unfold wrongD; rw [decide_eq_false hlt, if_neg (by simp)]
        rw [ew, if_neg (by simp [x1]), if_pos (List.drop_eq_nil_iff.2 (by omega))]
end
end Go.Proofs.Ytglipljilcdboaa
