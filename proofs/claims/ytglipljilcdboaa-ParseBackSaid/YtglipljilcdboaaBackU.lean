/- ParseBack for any slices. Its condition: numbers of at most 2^47. -/
import Derived.Test.YtglipljilcdboaaV28
import Derived.Laws.BitsAllLaws
namespace Go.Proofs.Ytglipljilcdboaa
set_option linter.unusedVariables false
set_option linter.unusedSimpArgs false
section
variable (S : List UInt8)
/-- One text was taken. -/
def Took (q : RS) (s : List UInt8) (q' : RS) : Prop := q.e = 0 ∧ q'.e = 0 ∧ q'.l = q.l ∧ S.drop q.at' = strL s ++ S.drop q'.at' ∧ q.at' < q'.at' ∧ q'.at' ≤ S.length
theorem text_inv {m : Nat} {q : RS} (h : (textD S m q).2.e = 0) : Took S q (textD S m q).1 (textD S m q).2 ∧ (textD S m q).1.length ≤ m := by
  have h0 : q.e = 0 := Classical.byContradiction fun h0 => by rw [text_err S h0] at h; exact h0 h
  cases hc : cutT m (S.drop q.at') with
  | more => rw [text_more S h0 hc] at h; exact absurd h n5
  | form => rw [text_form S h0 hc] at h; exact absurd h n4
  | ok s x =>
    have hl := cut_ok_len hc
    have h3 := hl.2.2
    rw [List.length_drop] at h3
    rw [text_ok S h0 hc]
    refine ⟨⟨h0, h0, rfl, ?_, by show q.at' < q.at' + _; omega, by show q.at' + _ ≤ _; omega⟩, hl.1⟩
    have hx : x = S.drop (q.at' + (8 + padN s.length)) := by rw [hl.2.1, List.drop_drop]
    show S.drop q.at' = strL s ++ S.drop (q.at' + (8 + padN s.length))
    rw [← hx]
    exact cut_back hc
theorem wrong_inv {b : Bool} {q : RS} (h : (wrongD b q).e = 0) : wrongD b q = q ∧ b = false := by
  unfold wrongD at h ⊢
  by_cases hb : b = true ∧ q.e = 0
  · rw [if_pos hb] at h; exact absurd h n4
  · rw [if_neg hb] at h ⊢
    refine ⟨rfl, ?_⟩
    cases b with
    | false => rfl
    | true => exact absurd ⟨rfl, h⟩ hb
theorem one_inv {l : List (List UInt8)} {q : RS} (h : (oneD S l q).2.e = 0) : Took S q (oneD S l q).1 (oneD S l q).2 ∧ (oneD S l q).1 ∈ l := by
  unfold oneD at h ⊢
  by_cases hb : (textD S (mostD l) q).2.e = 0 ∧ (textD S (mostD l) q).1 ∈ l
  · rw [if_pos hb] at h ⊢
    exact ⟨(text_inv S h).1, hb.2⟩
  · rw [if_neg hb] at h
    have := (wrong_inv h).2
    cases this
theorem one_inv1 {w : List UInt8} {q : RS} (h : (oneD S [w] q).2.e = 0) : Took S q w (oneD S [w] q).2 := by
  obtain ⟨h1, h2⟩ := one_inv S h
  rw [List.mem_singleton.1 h2] at h1
  exact h1
theorem one_no {l : List (List UInt8)} {q : RS} (h : (oneD S l q).2.e ≠ 0) : (oneD S l q).1 = [] := by
  unfold oneD at h ⊢
  by_cases hb : (textD S (mostD l) q).2.e = 0 ∧ (textD S (mostD l) q).1 ∈ l
  · rw [if_pos hb] at h; exact absurd hb.1 h
  · rw [if_neg hb]
/-- What is read, from a place, of a tree. -/
def Read (o : Option (List UInt8)) (p : List UInt8) (q q' : RS) (tail : List UInt8) : Prop := ∃ l b, TI o p l b ∧ q'.l = q.l ++ l ∧ S.drop q.at' = b ++ (tail ++ S.drop q'.at') ∧ q.at' ≤ q'.at' ∧ q'.at' ≤ S.length
theorem file2_inv {p : List UInt8} {k : Int} {q : RS} (h : (file2D S p k q).e = 0) : ∃ d, d.length ≤ 65536 ∧ q.e = 0 ∧ (file2D S p k q).l = q.l ++ [⟨p, k, d⟩] ∧ S.drop q.at' = strL d ++ (strL tClose ++ S.drop (file2D S p k q).at') ∧ q.at' ≤ (file2D S p k q).at' ∧ (file2D S p k q).at' ≤ S.length := by
  unfold file2D at h ⊢
  have h1 := one_inv1 S h
  obtain ⟨z0, z1, z2, z3, z4, z5⟩ := h1
  obtain ⟨⟨y0, y1, y2, y3, y4, y5⟩, y6⟩ := text_inv S (m := 65536) (q := q) z0
  refine ⟨_, y6, y0, ?_, ?_, Nat.le_trans (Nat.le_of_lt y4) (Nat.le_of_lt z4), z5⟩
  · rw [z2]; show (textD S 65536 q).2.l ++ _ = _; rw [y2]
  · rw [y3]; congr 1
theorem file_inv {p : List UInt8} {q q0 : RS} (h : (fileD S p q).e = 0) (hh : S.drop q0.at' = strL tOpen ++ (strL tType ++ (strL tReg ++ S.drop q.at'))) (hl : q.l = q0.l) (ha : q0.at' ≤ q.at') : Read S none p q0 (fileD S p q) [] := by
  unfold fileD at h ⊢
  by_cases hx : (oneD S [tCont, tExec] q).1 = tExec
  · rw [if_pos hx] at h ⊢
    obtain ⟨d, w1, w2, w3, w4, w5, w6⟩ := file2_inv S h
    have c3 := one_inv1 S w2
    have c2 := one_inv1 S c3.1
    obtain ⟨c1, _⟩ := one_inv S c2.1
    rw [hx] at c1
    refine ⟨[⟨p, 2, d⟩], _, TI.exec p d w1, ?_, ?_, ?_, w6⟩
    · rw [w3, c3.2.2.1, c2.2.2.1, c1.2.2.1, hl]
    · rw [hh, c1.2.2.2.1, c2.2.2.2.1, c3.2.2.2.1, w4]; simp only [List.append_assoc, List.nil_append]
    · have := c1.2.2.2.2.1; have := c2.2.2.2.2.1; have := c3.2.2.2.2.1; omega
  · rw [if_neg hx] at h ⊢
    obtain ⟨d, w1, w2, w3, w4, w5, w6⟩ := file2_inv S h
    obtain ⟨c1, c2⟩ := one_inv S w2
    simp only [List.mem_cons, List.not_mem_nil, or_false] at c2
    rw [c2.resolve_right hx] at c1
    refine ⟨[⟨p, 1, d⟩], _, TI.file p d w1, ?_, ?_, ?_, w6⟩
    · rw [w3, c1.2.2.1, hl]
    · rw [hh, c1.2.2.2.1, w4]; simp only [List.append_assoc, List.nil_append]
    · have := c1.2.2.2.2.1; omega
theorem link_inv {p : List UInt8} {q q0 : RS} (h : (linkD S p q).e = 0) (hh : S.drop q0.at' = strL tOpen ++ (strL tType ++ (strL tSym ++ S.drop q.at'))) (hl : q.l = q0.l) (ha : q0.at' ≤ q.at') : Read S none p q0 (linkD S p q) [] := by
  unfold linkD link2D at h ⊢
  have c3 := one_inv1 S h
  have c3e := c3.1
  have w := wrong_inv (b := !(mayDataL ⟨p, 3, (textD S 4096 (oneD S [tTarg] q).2).1⟩)) (q := (textD S 4096 (oneD S [tTarg] q).2).2) c3e
  have c2 := text_inv S (m := 4096) (q := (oneD S [tTarg] q).2) (by rw [← w.1]; exact c3e)
  have c1 := one_inv1 S c2.1.1
  have hd : mayDataL ⟨p, 3, (textD S 4096 (oneD S [tTarg] q).2).1⟩ = true := by simpa using w.2
  refine ⟨[⟨p, 3, (textD S 4096 (oneD S [tTarg] q).2).1⟩], _, TI.link p _ hd, ?_, ?_, ?_, c3.2.2.2.2.2⟩
  · rw [c3.2.2.1]
    show (wrongD _ _).l ++ _ = _
    rw [w.1, c2.1.2.2.1, c1.2.2.1, hl]
  · have k := c3.2.2.2.1
    simp only [w.1] at k ⊢
    rw [hh, c1.2.2.2.1, c2.1.2.2.2.1, k]; simp only [List.append_assoc, List.nil_append]
  · have k := c3.2.2.2.2.1
    simp only [w.1] at k ⊢
    have := c1.2.2.2.2.1; have := c2.1.2.2.2.2.1; omega
theorem node_inv : ∀ f : Nat, (∀ (p : List UInt8) (q : RS), 2 * (S.length - q.at') + 2 ≤ f → (nodeD S f p q).e = 0 → q.e = 0 ∧ Read S none p q (nodeD S f p q) []) ∧
    (∀ (p last : List UInt8) (q : RS), 2 * (S.length - q.at') + 1 ≤ f → (dirD S f p last q).e = 0 → q.e = 0 ∧ Read S (some last) p q (dirD S f p last q) (strL tClose))
  | 0 => ⟨fun p q h => by omega, fun p last q h => by omega⟩
  | f + 1 => by
    obtain ⟨hN, hD⟩ := node_inv f
    constructor
    · intro p q hf he
      have h0 : q.e = 0 := Classical.byContradiction fun h0 => by rw [node_err S h0] at he; exact h0 he
      refine ⟨h0, ?_⟩
      rw [nodeD] at he ⊢
      have hz : (headD S q).2.e = 0 := Classical.byContradiction fun hz => by
        have hs : (headD S q).1 = [] := one_no S hz
        rw [hs] at he
        rw [kind_err S hz] at he
        exact hz he
      obtain ⟨c3, c4⟩ := one_inv S hz
      have c2 := one_inv1 S c3.1
      have c1 := one_inv1 S c2.1
      have e3 : S.drop q.at' = strL tOpen ++ (strL tType ++ (strL (headD S q).1 ++ S.drop (headD S q).2.at')) := by rw [c1.2.2.2.1, c2.2.2.2.1]; exact congrArg _ (congrArg _ c3.2.2.2.1)
      have l3 : (headD S q).2.l = q.l := by
        have := c3.2.2.1
        rw [c2.2.2.1, c1.2.2.1] at this
        exact this
      have a3 : q.at' < (headD S q).2.at' := Nat.lt_trans c1.2.2.2.2.1 (Nat.lt_trans c2.2.2.2.2.1 c3.2.2.2.2.1)
      have b3 : (headD S q).2.at' ≤ S.length := c3.2.2.2.2.2
      have c4' : (headD S q).1 ∈ [tReg, tSym, tDir] := c4
      generalize headD S q = hq at he hz e3 l3 a3 b3 c4' ⊢
      obtain ⟨s, q1⟩ := hq
      simp only [List.mem_cons, List.not_mem_nil, or_false] at he hz e3 l3 a3 b3 c4' ⊢
      rcases c4' with rfl | rfl | rfl
      · unfold kindD at he ⊢
        rw [if_pos rfl] at he ⊢
        exact file_inv S he e3 l3 (Nat.le_of_lt a3)
      · unfold kindD at he ⊢
        rw [if_neg (by decide), if_pos rfl] at he ⊢
        exact link_inv S he e3 l3 (Nat.le_of_lt a3)
      · unfold kindD at he ⊢
        rw [if_neg (by decide), if_neg (by decide), if_pos rfl] at he ⊢
        obtain ⟨_, l, b, t, k1, k2, k3, k4⟩ := hD p [] { q1 with l := q1.l ++ [⟨p, 4, []⟩] } (by show 2 * (S.length - q1.at') + 1 ≤ f; omega) he
        refine ⟨⟨p, 4, []⟩ :: l, _, TI.dir p l b t, ?_, ?_, ?_, k4⟩
        · rw [k1]; show (q1.l ++ _) ++ l = _; rw [l3]; simp
        · have k2' : S.drop q1.at' = b ++ (strL tClose ++ S.drop (dirD S f p [] { q1 with l := q1.l ++ [⟨p, 4, []⟩] }).at') := k2
          rw [e3, k2']; simp only [List.append_assoc, List.nil_append]
        · have h8 : q1.at' ≤ (dirD S f p [] { q1 with l := q1.l ++ [⟨p, 4, []⟩] }).at' := k3
          exact Nat.le_trans (Nat.le_of_lt a3) h8
    · intro p last q hf he
      have h0 : q.e = 0 := Classical.byContradiction fun h0 => by rw [dir_err S h0] at he; exact h0 he
      refine ⟨h0, ?_⟩
      rw [dirD, if_neg (by simp [h0])] at he ⊢
      by_cases hx : (oneD S [tEntry, tClose] q).1 ≠ tEntry
      · rw [if_pos hx] at he ⊢
        obtain ⟨c1, c2⟩ := one_inv S he
        simp only [List.mem_cons, List.not_mem_nil, or_false] at c2
        rw [c2.resolve_left hx] at c1
        refine ⟨[], [], TI.nil p last, ?_, ?_, Nat.le_of_lt c1.2.2.2.2.1, c1.2.2.2.2.2⟩
        · rw [c1.2.2.1]; simp
        · rw [c1.2.2.2.1]; simp
      · rw [if_neg hx] at he ⊢
        simp only at he ⊢
        have hx' : (oneD S [tEntry, tClose] q).1 = tEntry := Classical.byContradiction hx
        obtain ⟨q1, hq1⟩ : ∃ q1, q1 = (oneD S [tEntry, tClose] q).2 := ⟨_, rfl⟩
        rw [← hq1] at he ⊢
        obtain ⟨n, q4, hq4⟩ : ∃ n q4, nameD S q1 = (n, q4) := ⟨_, _, rfl⟩
        simp only [hq4] at he ⊢
        obtain ⟨q5, hq5⟩ : ∃ q5, q5 = entD S p last n q4 := ⟨_, rfl⟩
        simp only [← hq5] at he ⊢
        obtain ⟨q6, hq6⟩ : ∃ q6, q6 = (if q5.e = 0 then nodeD S f (joinL p n) q5 else q5) := ⟨_, rfl⟩
        simp only [← hq6] at he ⊢
        have e7 : (oneD S [tClose] q6).2.e = 0 := Classical.byContradiction fun h => by rw [dir_err S h] at he; exact h he
        have c7 := one_inv1 S e7
        have e5 : q5.e = 0 := Classical.byContradiction fun h => by
          rw [if_neg h] at hq6
          rw [hq6] at c7
          exact h c7.1
        rw [if_pos e5] at hq6
        -- the entry
        have e5' : (oneD S [tNode] (wrongD (badN p last n q4.l.length) q4)).2.e = 0 := by rw [hq5] at e5; exact e5
        have c5 := one_inv1 S e5'
        have w5 := wrong_inv c5.1
        rw [w5.1] at c5
        have ee : entD S p last n q4 = (oneD S [tNode] q4).2 := by unfold entD; rw [w5.1]
        rw [ee] at hq5
        rw [← hq5] at c5
        -- its name
        have hn4 : (textD S 255 (oneD S [tName] (oneD S [tOpen] q1).2).2) = (n, q4) := hq4
        obtain ⟨c4, c4l⟩ := text_inv S (m := 255) (q := (oneD S [tName] (oneD S [tOpen] q1).2).2) (by rw [hn4]; exact c5.1)
        rw [hn4] at c4 c4l
        have c3 := one_inv1 S c4.1
        have c2 := one_inv1 S c3.1
        obtain ⟨c1, _⟩ := one_inv S (l := [tEntry, tClose]) (q := q) (by rw [← hq1]; exact c2.1)
        rw [hx', ← hq1] at c1
        have a1 := c1.2.2.2.2.1
        have a2 := c2.2.2.2.2.1
        have a3 := c3.2.2.2.2.1
        have a4 := c4.2.2.2.2.1
        have a5 := c5.2.2.2.2.1
        have b5 := c5.2.2.2.2.2
        have b7 := c7.2.2.2.2.2
        simp only at a4 a5
        have hnode := hN (joinL p n) q5 (by omega) (by rw [← hq6]; exact c7.1)
        rw [← hq6] at hnode
        obtain ⟨_, l6, b6, t6, k1, k2, k3, k4⟩ := hnode
        have a7 := c7.2.2.2.2.1
        obtain ⟨_, l8, b8, t8, j1, j2, j3, j4⟩ := hD p n (oneD S [tClose] q6).2 (by omega) he
        have hb := w5.2
        unfold badN at hb
        simp only [Bool.or_eq_false_iff, Bool.not_eq_false', decide_eq_false_iff_not] at hb
        obtain ⟨⟨⟨m1, m2⟩, m3⟩, m4⟩ := hb
        refine ⟨l6 ++ l8, _, TI.cons p last n l6 b6 l8 b8 m1 m2 (by omega) t6 t8, ?_, ?_, by omega, j4⟩
        · rw [j1, c7.2.2.1, k1, c5.2.2.1, c4.2.2.1, c3.2.2.1, c2.2.2.1, c1.2.2.1, List.append_assoc]
        · rw [c1.2.2.2.1, c2.2.2.2.1, c3.2.2.2.1, c4.2.2.2.1, c5.2.2.2.1, k2, c7.2.2.2.1, j2]
          simp only [List.append_assoc, List.nil_append]
/-- What is read is packed to just those bytes. -/
theorem get_packs {l : List Nd} (h : getL S = (l, 0)) : mayL l = true ∧ treeL l = S := by
  rw [← get_eq S (2 * S.length + 2) (Nat.le_refl _)] at h
  unfold getD at h
  by_cases he : (getD1 S (2 * S.length + 2)).e ≠ 0
  · rw [if_pos he] at h
    exact absurd (congrArg Prod.snd h) he
  · rw [if_neg he] at h
    have he' : (getD1 S (2 * S.length + 2)).e = 0 := Classical.byContradiction he
    have hl : (getD1 S (2 * S.length + 2)).l = l := congrArg Prod.fst h
    unfold getD1 at he' hl
    simp only at he' hl
    obtain ⟨q1, hq1⟩ : ∃ q1, q1 = (oneD S [tMagic] ⟨0, [], 0⟩).2 := ⟨_, rfl⟩
    rw [← hq1] at he' hl
    obtain ⟨q2, hq2⟩ : ∃ q2, q2 = (if q1.e = 0 then nodeD S (2 * S.length + 2) [] q1 else q1) := ⟨_, rfl⟩
    rw [← hq2] at he' hl
    have w := wrong_inv he'
    rw [w.1] at he' hl
    have e1 : q1.e = 0 := Classical.byContradiction fun h => by
      rw [if_neg h] at hq2
      rw [hq2] at he'
      exact h he'
    rw [if_pos e1] at hq2
    have c1 := one_inv1 S (w := tMagic) (q := ⟨0, [], 0⟩) (by rw [← hq1]; exact e1)
    rw [← hq1] at c1
    obtain ⟨_, l2, b, t, k1, k2, k3, k4⟩ := (node_inv S (2 * S.length + 2)).1 [] q1 (by omega) (by rw [← hq2]; exact he')
    rw [← hq2] at k1 k2 k3 k4
    have hl1 : q1.l = [] := c1.2.2.1
    have hb := (node_dir_b S (2 * S.length + 2)).1 [] q1 ⟨c1.2.2.2.2.2, by rw [hl1]; exact Nat.zero_le _⟩ (by rw [hl1]; decide)
    rw [← hq2] at hb
    rw [hl1, List.nil_append] at k1
    have e2 : l2 = l := k1.symm.trans hl
    subst e2
    have hend : q2.at' = S.length := by
      have := w.2
      simp only [decide_eq_false_iff_not] at this
      omega
    obtain ⟨m1, m2⟩ := ti_may t (by rw [← k1]; exact hb.2)
    refine ⟨m1, ?_⟩
    have c14 : S.drop 0 = strL tMagic ++ S.drop q1.at' := c1.2.2.2.1
    rw [List.drop_zero] at c14
    rw [m2]
    rw [hend, List.drop_length, List.append_nil] at k2
    rw [c14, k2]
    simp
end
end Go.Proofs.Ytglipljilcdboaa
namespace Go.Proofs.Ytglipljilcdboaa
open Go.RowKit Go.Shelf
set_option linter.unusedVariables false
set_option linter.unusedSimpArgs false
section
open E
theorem str_of_bytes (X : List UInt8) : ((List.range X.length).map fun q => ubyte (byteF X (addN 0 q))) = X := by
  apply List.ext_getElem
  · simp
  · intro i h1 h2
    simp only [List.getElem_map, List.getElem_range, byteF, ubyte, addN_eq, Nat.zero_add]
    rw [List.getD_eq_getElem?_getD, List.getElem?_eq_getElem h2]
    simp
theorem bytes_q (X : List UInt8) : ∀ q, q < X.length → ∃ d : UInt8, byteF X (addN 0 q) = [.int .u8 (d.toNat : Int)] := fun q _ => ⟨_, rfl⟩
theorem xor_u8 (a b : Nat) (ha : a < 256) (hb : b < 256) : bits .xor .u8 (a : Int) (b : Int) = ((a ^^^ b : Nat) : Int) := u8_xor_nat a b ha hb
/-- Bytes with one of them turned. -/
def turnL (S : List UInt8) (m by' : Nat) : List UInt8 := S.set m (S.getD m 0 ^^^ UInt8.ofNat by')
theorem turn_len (S : List UInt8) (m by' : Nat) : (turnL S m by').length = S.length := by unfold turnL; rw [List.length_set]
theorem turn_0 (S : List UInt8) (m : Nat) : turnL S m 0 = S := by
  unfold turnL
  rw [show UInt8.ofNat 0 = 0 from rfl, UInt8.xor_zero]
  by_cases h : m < S.length
  · rw [List.getD_eq_getElem?_getD, List.getElem?_eq_getElem h]; exact List.set_getElem_self h
  · rw [List.set_eq_of_length_le (by omega)]
theorem turn_ne {S : List UInt8} {m by' : Nat} (h : m < S.length) (hb : by' < 256) (h0 : by' ≠ 0) : turnL S m by' ≠ S := by
  intro he
  have h1 := congrArg (fun l => l.getD m 0) he
  unfold turnL at h1
  simp only [List.getD_eq_getElem?_getD, List.getElem?_set_self h, Option.getD_some] at h1
  have h2 : UInt8.ofNat by' = 0 := by
    have h3 := congrArg (fun x => (S[m]?.getD 0) ^^^ x) h1
    simp only [← UInt8.xor_assoc, UInt8.xor_self, UInt8.zero_xor] at h3
    exact h3
  have h4 := congrArg UInt8.toNat h2
  simp at h4
  omega
theorem turn_row (S : List UInt8) (m by' : Nat) (h : m < S.length) (hb : by' < 256) : ∀ i, i < S.length → updF (byteF S) (addN 0 (m : Int).toNat) ((byteF S (addN 0 (m : Int).toNat)).set 0 (.int .u8 (bits .xor .u8 (((S.getD (addN 0 (m : Int).toNat) 0).toNat : Nat) : Int) (by' : Int)))) i = byteF (turnL S m by') i := by
  intro i hi
  have em : addN 0 (m : Int).toNat = m := by rw [addN_eq, Nat.zero_add, Int.toNat_natCast]
  rw [em, xor_u8 _ _ (by have := (S.getD m 0).toNat_lt; omega) hb]
  unfold updF byteF turnL
  by_cases e : i = m
  · subst e
    simp only [Nat.beq_refl, cond_true, List.set_cons_zero, List.getD_eq_getElem?_getD, List.getElem?_set_self h, Option.getD_some]
    rw [UInt8.toNat_xor]
    simp
    rw [Nat.mod_eq_of_lt hb]
  · have : Nat.beq i m = false := by cases hh : Nat.beq i m with | false => rfl | true => exact absurd (Nat.eq_of_beq_eq_true hh) e
    rw [this]
    simp only [cond_false, List.getD_eq_getElem?_getD]
    rw [List.getElem?_set_ne (fun h => e h.symm)]
/-- A turned byte is another tree, if one. -/
theorem turn_other {L M : List Nd} {X : List UInt8} (hL : treeL L ≠ X) (hM : getL X = (M, 0)) : sameL M L = false := by
  cases h : sameL M L with
  | false => rfl
  | true =>
    have e := (same_iff M L).1 h
    exact absurd (by rw [← e]; exact (get_packs X hM).2) hL
abbrev hSmF (r1 r2 : Nat) (L M : List Nd) : Hint := pr 14 (fun ρ => #[(TV.s (.lf (slN r1 L.length))).val ρ, (TV.s (.lf (slN r2 M.length))).val ρ]) (.v (.bool false)) [(r1, rowN L L.length), (r2, rowN M M.length)]
theorem hSmF_ok (id r1 r2 : Nat) (L M : List Nd) (hL : L.length ≤ 100000) (hM : M.length ≤ 100000) (hf : sameL L M = false) : HintOk Try.prog id (hSmF r1 r2 L M) := by
  have h := hSm_ok id r1 r2 L M hL hM
  unfold hSm at h
  rw [hf] at h
  exact h
abbrev bkR (L : List Nd) (X : List UInt8) : List (Nat × Row) := [(4002, rowN L L.length), (11001, ⟨[.fnc (byteF X) 1 X.length], true, none⟩)]
abbrev bkT (L : List Nd) (n by' : Nat) : List (Nat × TV) := [(4, .int .u8 (by' : Int)), (11, .s (.lf (slN 4002 L.length))), (15, .v nilS), (16, .int .i64 5), (18, .int .i64 4), (19, .s (.lf (.sl 11001 0 0 1 n none)))]
set_option maxRecDepth 100000 in
theorem back_end (σ : Env) (w : World) (L : List Nd) (hf : fitL L) (X : List UInt8) (by' : Nat) (hb : by' < 256) (hX : X.length ≤ 10000000000) (h0 : by' = 0 → X = treeL L) (h1 : by' ≠ 0 → treeL L ≠ X) : At Try.prog w ⟨[], σ, []⟩ Try.f4.ntmps [] (rp Try.f4 12) (EndX Try.prog Try.f4 (BoolQ w true)) (bkT L X.length by') (bkR L X) := by
  have hs : X.length ≤ 100000000000 := by omega
  have hx : TV.v (.string ⟨((List.range X.length).map fun q => ubyte (byteF X (addN 0 q))).toArray⟩) = TV.v (stv X) := by rw [str_of_bytes]
  have hx2 : 0 + X.length ≤ X.length := by omega
  have hq := bytes_q X
  have hL := hf.2.1
  by_cases hby : by' = 0
  · have hg : getL X = (L, 0) := by rw [h0 hby]; exact may_gets hf.1
    subst hby
    exact At.fin rfl [(2013001, .val (.v (stv X))), (13002, hP0 13002 X L), (2014001, .val (.v (stv X))), (14002, hR0 14002 X L), (15001, hEr 5), (15010, hEr 4), (15017, hSmT 13002 14002 L), (15021, hEr 0), (2015028, .val (.v (.bool true))), (15042, hAw)] ⟨trivial, hP0_ok _ hs hg, trivial, hR0_ok _ hs hg, hEr_ok _ _, hEr_ok _ _, hSmT_ok _ _ _ _ (by omega), hEr_ok _ _, trivial, hAw_ok _, trivial⟩ [] (x := .v (.bool true)) (ob := [[TV.v (.string ⟨((List.range X.length).map fun q => ubyte (byteF X (addN 0 q))).toArray⟩) = TV.v (stv X), 0 + X.length ≤ X.length, ∀ q, q < X.length → ∃ d : UInt8, byteF X (addN 0 q) = [.int .u8 (d.toNat : Int)]], qL (hP0 13002 X L), [TV.v (.string ⟨((List.range X.length).map fun q => ubyte (byteF X (addN 0 q))).toArray⟩) = TV.v (stv X), 0 + X.length ≤ X.length, ∀ q, q < X.length → ∃ d : UInt8, byteF X (addN 0 q) = [.int .u8 (d.toNat : Int)]], qL (hR0 14002 X L), qL (hEr 5), qL (hEr 4), qL (hSmT 13002 14002 L), qL (hEr 0), [TV.v (.bool (((0 : Nat) : Int) == 0)) = TV.v (.bool true)], qL hAw].flatten) (by kernel_rfl) (all_flat ⟨⟨hx, hx2, hq, trivial⟩, all_qL _, ⟨hx, hx2, hq, trivial⟩, all_qL _, all_qL _, all_qL _, all_qL _, all_qL _, ⟨rfl, trivial⟩, all_qL _, trivial⟩) fun ρ' w' hf _ => ⟨rfl, hf.below⟩
  · have hbd : TV.v (.bool ((by' : Int) == 0)) = TV.v (.bool false) := by
      have : ((by' : Int) == 0) = false := by simpa using hby
      rw [this]
    have hne := h1 hby
    rcases getL_cases X with ⟨M, hM, hn⟩ | ⟨e, hE, he⟩
    · exact At.fin rfl [(2013001, .val (.v (stv X))), (13002, hP0 13002 X M), (2014001, .val (.v (stv X))), (14002, hR0 14002 X M), (15001, hEr 5), (15010, hEr 4), (15017, hSmT 13002 14002 M), (15021, hEr 0), (2015028, .val (.v (.bool false))), (15037, hSmF 13002 4002 M L), (15042, hAw)] ⟨trivial, hP0_ok _ hs hM, trivial, hR0_ok _ hs hM, hEr_ok _ _, hEr_ok _ _, hSmT_ok _ _ _ _ (by omega), hEr_ok _ _, trivial, hSmF_ok _ _ _ _ _ (by omega) (by omega) (turn_other hne hM), hAw_ok _, trivial⟩ [] (x := .v (.bool true)) (ob := [[TV.v (.string ⟨((List.range X.length).map fun q => ubyte (byteF X (addN 0 q))).toArray⟩) = TV.v (stv X), 0 + X.length ≤ X.length, ∀ q, q < X.length → ∃ d : UInt8, byteF X (addN 0 q) = [.int .u8 (d.toNat : Int)]], qL (hP0 13002 X M), [TV.v (.string ⟨((List.range X.length).map fun q => ubyte (byteF X (addN 0 q))).toArray⟩) = TV.v (stv X), 0 + X.length ≤ X.length, ∀ q, q < X.length → ∃ d : UInt8, byteF X (addN 0 q) = [.int .u8 (d.toNat : Int)]], qL (hR0 14002 X M), qL (hEr 5), qL (hEr 4), qL (hSmT 13002 14002 M), qL (hEr 0), [TV.v (.bool ((by' : Int) == 0)) = TV.v (.bool false)], qL (hSmF 13002 4002 M L), qL hAw].flatten) (by kernel_rfl) (all_flat ⟨⟨hx, hx2, hq, trivial⟩, all_qL _, ⟨hx, hx2, hq, trivial⟩, all_qL _, all_qL _, all_qL _, all_qL _, all_qL _, ⟨hbd, trivial⟩, all_qL _, all_qL _, trivial⟩) fun ρ' w' hf _ => ⟨rfl, hf.below⟩
    · exact At.fin rfl [(2013001, .val (.v (stv X))), (13002, hP1 X e), (2014001, .val (.v (stv X))), (14002, hR1 X e), (15001, hEr 5), (15010, hEr 4), (15017, hSm0), (15021, hEr e), (2015024, .val (.v (.bool true))), (2015028, .val (.v (.bool false))), (2015032, .val (.v (.bool true))), (15042, hAw)] ⟨trivial, hP1_ok _ hs hE he, trivial, hR1_ok _ hs hE he, hEr_ok _ _, hEr_ok _ _, hSm0_ok _, hEr_ok _ _, trivial, trivial, trivial, hAw_ok _, trivial⟩ [] (x := .v (.bool true)) (ob := [[TV.v (.string ⟨((List.range X.length).map fun q => ubyte (byteF X (addN 0 q))).toArray⟩) = TV.v (stv X), 0 + X.length ≤ X.length, ∀ q, q < X.length → ∃ d : UInt8, byteF X (addN 0 q) = [.int .u8 (d.toNat : Int)]], qL (hP1 X e), [TV.v (.string ⟨((List.range X.length).map fun q => ubyte (byteF X (addN 0 q))).toArray⟩) = TV.v (stv X), 0 + X.length ≤ X.length, ∀ q, q < X.length → ∃ d : UInt8, byteF X (addN 0 q) = [.int .u8 (d.toNat : Int)]], qL (hR1 X e), qL (hEr 5), qL (hEr 4), qL hSm0, qL (hEr e), [TV.v (.bool (e == e)) = TV.v (.bool true)], [TV.v (.bool ((by' : Int) == 0)) = TV.v (.bool false)], [TV.v (.bool (e != 0)) = TV.v (.bool true)], qL hAw].flatten) (by kernel_rfl) (all_flat ⟨⟨hx, hx2, hq, trivial⟩, all_qL _, ⟨hx, hx2, hq, trivial⟩, all_qL _, all_qL _, all_qL _, all_qL _, all_qL _, ⟨by rw [beq_self_eq_true], trivial⟩, ⟨hbd, trivial⟩, ⟨by rw [show (e != 0) = true by simpa using he], trivial⟩, all_qL _, trivial⟩) fun ρ' w' hf _ => ⟨rfl, hf.below⟩
set_option maxRecDepth 100000 in
theorem back_mid (σ : Env) (w : World) (L : List Nd) (hf : fitL L) (hS8 : (treeL L).length ≤ 10000000000) (at' by' : Nat) (ha : at' < 65536) (hb : by' < 256) : At Try.prog w ⟨[], σ, []⟩ Try.f4.ntmps [] (rp Try.f4 10) (EndX Try.prog Try.f4 (BoolQ w true)) [(3, .int .u16 (at' : Int)), (4, .int .u8 (by' : Int)), (12, .v (stv (treeL L))), (11, .s (.lf (slN 4002 L.length))), (15, .v nilS), (16, .int .i64 5), (18, .int .i64 4)] [(4002, rowN L L.length)] := by
  obtain ⟨S, hS⟩ : ∃ S, S = treeL L := ⟨_, rfl⟩
  rw [← hS] at hS8 ⊢
  have h0 : 0 < S.length := by rw [hS]; exact tree_pos hf.1
  obtain ⟨m, hm⟩ : ∃ m, m = at' % S.length := ⟨_, rfl⟩
  have hml : m < S.length := by rw [hm]; exact Nat.mod_lt _ h0
  have cv : IntKind.i64.wrap (at' : Int) = (at' : Int) := by rw [IntKind.wrap_i64]; omega
  have hmi : TV.int .i64 ((at' : Int) % (S.length : Int)) = TV.int .i64 (m : Int) := by rw [hm, Int.natCast_emod]
  have b1 : (0 : Int) ≤ (at' : Int) ∧ 0 < (S.length : Int) := ⟨by omega, by omega⟩
  have b2 : (0 : Int) ≤ (m : Int) ∧ (m : Int) < (S.length : Int) := ⟨by omega, by omega⟩
  have b3 : addN 0 (m : Int).toNat < S.length := by rw [addN_eq, Nat.zero_add, Int.toNat_natCast]; exact hml
  have hend := back_end σ w L hf (turnL S m by') by' hb (by rw [turn_len]; exact hS8) (fun h => by rw [h, turn_0, hS]) (fun h => by rw [← hS]; exact (turn_ne hml hb h).symm)
  rw [turn_len] at hend
  refine At.run rfl [(2012005, .val (.int .i64 (m : Int))), (2013000, .val (.tup []))] ⟨trivial, trivial, trivial⟩ [] (tm2 := bkT L S.length by') (rows2 := [(4002, rowN L L.length), (11001, ⟨[.fnc (updF (byteF S) (addN 0 (m : Int).toNat) ((byteF S (addN 0 (m : Int).toNat)).set 0 (.int .u8 (bits .xor .u8 (((S.getD (addN 0 (m : Int).toNat) 0).toNat : Nat) : Int) (by' : Int))))) 1 S.length], true, none⟩)]) (ob := [IntKind.i64.wrap (at' : Int) = (at' : Int), TV.int .i64 ((at' : Int) % (S.length : Int)) = TV.int .i64 (m : Int), 0 ≤ (at' : Int) ∧ 0 < (S.length : Int), 0 ≤ (m : Int) ∧ (m : Int) < (S.length : Int), addN 0 (m : Int).toNat < S.length, 0 ≤ (m : Int) ∧ (m : Int) < (S.length : Int), addN 0 (m : Int).toNat < S.length]) (td := rp Try.f4 12) (by kernel_rfl) ⟨cv, hmi, b1, b2, b3, b2, b3, trivial⟩ rfl rfl (by intro h; cases h) ?_
  refine At.rows (rows2 := [(4002, rowN L L.length), (11001, ⟨[.fnc (byteF (turnL S m by')) 1 S.length], true, none⟩)]) (rowsEq_same (rowsEq_fnc (turn_row S m by' hml hb) trivial)) rfl ?_
  have e : bkR L (turnL S m by') = [(4002, rowN L L.length), (11001, ⟨[.fnc (byteF (turnL S m by')) 1 S.length], true, none⟩)] := by unfold bkR; rw [turn_len]
  rw [e] at hend
  exact hend
set_option maxRecDepth 100000 in
theorem back_run11 (ns : List UInt8) (na : Option Addr) (c : Nat) (tx : List (List UInt8)) (ta : Option Addr) (ct : Nat) (cut at' by' : Nat) (hcut : cut < 65536) (ha : at' < 65536) (hb : by' < 256) (hn0 : 0 < ns.length) (hc : ns.length ≤ c) (hc2 : c ≤ 140737488355328) (htl : tx.length ≤ 9223372036854775807) (ρ : Env) (w : World)
    (hr : ∀ q ∈ ([(0, numRow ns), (1, txtRow tx)] : List (Nat × Row)), RowAt ρ q.1 q.2 w) : Calls Try.prog 4 #[(TV.s (.lf (.sl 0 0 0 1 ns.length (some c)))).val ρ, (txA tx ct).val ρ, .int .u16 (cut : Int), .int .u16 (at' : Int), .int .u8 (by' : Int)] w (BoolQ w true) := by
  have hfw : HintOk Try.prog 2001 (hFw (txA tx ct) [(1, txtRow tx)] (fewL tx)) := hFw1_ok _ tx ct htl
  refine At.calls (args := [(TV.s (.lf (.sl 0 0 0 1 ns.length (some c)))), (txA tx ct), .int .u16 (cut : Int), .int .u16 (at' : Int), .int .u8 (by' : Int)]) (rows := [(0, numRow ns), (1, txtRow tx)]) (gl := []) (wr := []) (ρ := ρ) Try.func4 rfl rfl (init_ro1 ⟨trivial, trivial, rfl, rfl, rfl, trivial⟩ rfl rfl ⟨⟨hr (0, numRow ns) (by simp), num_ok ns⟩, ⟨hr (1, txtRow tx) (by simp), txtRow_ok tx⟩, trivial⟩) rfl ?_
  cases hfew : fewL tx with
  | false =>
    rw [hfew] at hfw
    exact At.fin rfl [(2001, hFw (txA tx ct) [(1, txtRow tx)] false), (3000, hAw)] ⟨hfw, hAw_ok _, trivial⟩ [.y] (x := .v (.bool true)) (ob := [qL (hFw (txA tx ct) [(1, txtRow tx)] false), [true = true], qL hAw].flatten) (by kernel_rfl) (all_flat ⟨all_qL _, ⟨rfl, trivial⟩, all_qL _, trivial⟩) fun ρ' w' hf _ => ⟨rfl, hf.below⟩
  | true =>
    rw [hfew] at hfw
    have h300 := (few_all hfew).2
    have hT : TxSrc (txA tx ct) [(1, txtRow tx)] tx := txs_row 1 ct tx htl
    obtain ⟨L, hL⟩ : ∃ L, L = madeL tx ns := ⟨_, rfl⟩
    have hfit : fitL L := by rw [hL]; exact made_fit _ h300 _
    have hTr : HintOk Try.prog 4002 (hTree 4002 (TV.s (.lf (.sl 0 0 0 1 ns.length (some c)))) (txA tx ct) [(0, numRow ns), (1, txtRow tx)] L L.length) := by
      rw [hL]
      exact hTree_of fun ρ w hr => by have := tree_run1 ns tx none ct hT h300 ns.length c rfl hn0 hc hc2 ρ w hr; first | exact this | (simpa using this)
    obtain ⟨S, hS⟩ : ∃ S, S = treeL L := ⟨_, rfl⟩
    have hS0 : 0 < S.length := by rw [hS]; exact tree_pos hfit.1
    have hS8 : S.length ≤ 10000000000 := by rw [hS]; exact tree_long hfit
    obtain ⟨k, hk⟩ : ∃ k, k = cut % S.length := ⟨_, rfl⟩
    have hkl : k < S.length := by rw [hk]; exact Nat.mod_lt _ hS0
    have g0 : getL S = (L, 0) := by rw [hS]; exact may_gets hfit.1
    have g1 : getL (S.take k) = ([], 5) := (cut_gets hfit.1 (a := S.take k) (b := S.drop k) (by rw [← hS, List.take_append_drop]) (fun h => by have := congrArg List.length h; rw [List.length_drop] at this; simp at this; omega)).1
    have g2 : getL (S ++ [0]) = ([], 4) := by rw [hS]; exact more_gets hfit.1 (by simp)
    have cv : IntKind.i64.wrap (cut : Int) = (cut : Int) := by rw [IntKind.wrap_i64]; omega
    have hki : TV.int .i64 ((cut : Int) % (S.length : Int)) = TV.int .i64 (k : Int) := by rw [hk, Int.natCast_emod]
    have hPk := hPkL_ok 5001 4002 hfit
    have hmid := back_mid ρ w L hfit (by rw [← hS]; exact hS8) at' by' ha hb
    unfold hPkL at hPk
    rw [← hS] at hmid hPk
    refine At.run rfl [(2001, hFw (txA tx ct) [(1, txtRow tx)] true), (4002, hTree 4002 (TV.s (.lf (.sl 0 0 0 1 ns.length (some c)))) (txA tx ct) [(0, numRow ns), (1, txtRow tx)] L L.length), (5001, hPkS 4002 L S), (6001, hP0 6001 S L), (7001, hEr 0), (7006, hSmT 6001 4002 L), (2009005, .val (.int .i64 (k : Int))), (2009006, .val (.v (stv (S.take k)))), (9007, hP1 (S.take k) 5), (10002, hP1 (S ++ [0]) 4), (2011000, .val (.tup []))] ⟨hfw, hTr, hPk, hP0_ok _ (by omega) g0, hEr_ok _ _, hSmT_ok _ _ _ _ (by have := hfit.2.1; omega), trivial, trivial, hP1_ok _ (by rw [List.length_take]; omega) g1 (by decide), hP1_ok _ (by rw [List.length_append]; simp; omega) g2 (by decide), trivial, trivial⟩ [.n, .n] (tm2 := [(3, .int .u16 (at' : Int)), (4, .int .u8 (by' : Int)), (12, .v (stv S)), (11, .s (.lf (slN 4002 L.length))), (15, .v nilS), (16, .int .i64 5), (18, .int .i64 4)]) (rows2 := [(4002, rowN L L.length)]) (ob := [qL (hFw (txA tx ct) [(1, txtRow tx)] true), [false = false], qL (hTree 4002 (TV.s (.lf (.sl 0 0 0 1 ns.length (some c)))) (txA tx ct) [(0, numRow ns), (1, txtRow tx)] L L.length), qL (hPkS 4002 L S), qL (hP0 6001 S L), qL (hEr 0), qL (hSmT 6001 4002 L), [false = false, IntKind.i64.wrap (cut : Int) = (cut : Int), TV.int .i64 ((cut : Int) % (S.length : Int)) = TV.int .i64 (k : Int), 0 ≤ (cut : Int) ∧ 0 < (S.length : Int), TV.v (.string ⟨(S.take (k : Int).toNat).toArray⟩) = TV.v (stv (S.take k)), 0 ≤ (k : Int) ∧ (k : Int) ≤ (S.length : Int)], qL (hP1 (S.take k) 5), [(S.length : Int) + (([0] : List UInt8).length : Int) ≤ 9223372036854775807], qL (hP1 (S ++ [0]) 4)].flatten) (td := rp Try.f4 10) (by kernel_rfl) (all_flat ⟨all_qL _, ⟨rfl, trivial⟩, all_qL _, all_qL _, all_qL _, all_qL _, all_qL _, ⟨rfl, cv, hki, ⟨by omega, by omega⟩, rfl, ⟨by omega, by omega⟩, trivial⟩, all_qL _, ⟨by simp; omega, trivial⟩, all_qL _, trivial⟩) rfl rfl (by intro h; cases h) hmid
set_option maxRecDepth 100000 in
theorem back_run10 (ns : List UInt8) (na : Option Addr) (c : Nat) (tx : List (List UInt8)) (ta : Option Addr) (ct : Nat) (cut at' by' : Nat) (hcut : cut < 65536) (ha : at' < 65536) (hb : by' < 256) (hn0 : 0 < ns.length) (hc : ns.length ≤ c) (hc2 : c ≤ 140737488355328) (htl : tx.length ≤ 9223372036854775807) (htx : tx = []) (ρ : Env) (w : World)
    (hr : ∀ q ∈ ([(0, numRow ns)] : List (Nat × Row)), RowAt ρ q.1 q.2 w) : Calls Try.prog 4 #[(TV.s (.lf (.sl 0 0 0 1 ns.length (some c)))).val ρ, (TV.v (.slice ta 0 ct)).val ρ, .int .u16 (cut : Int), .int .u16 (at' : Int), .int .u8 (by' : Int)] w (BoolQ w true) := by
  subst htx
  have hfw : HintOk Try.prog 2001 (hFw (TV.v (.slice ta 0 ct)) [] (fewL [])) := hFw0_ok _ ta ct
  refine At.calls (args := [(TV.s (.lf (.sl 0 0 0 1 ns.length (some c)))), (TV.v (.slice ta 0 ct)), .int .u16 (cut : Int), .int .u16 (at' : Int), .int .u8 (by' : Int)]) (rows := [(0, numRow ns)]) (gl := []) (wr := []) (ρ := ρ) Try.func4 rfl rfl (init_ro1 ⟨trivial, rfl, rfl, rfl, rfl, trivial⟩ rfl rfl ⟨⟨hr (0, numRow ns) (by simp), num_ok ns⟩, trivial⟩) rfl ?_
  cases hfew : fewL [] with
  | false =>
    rw [hfew] at hfw
    exact At.fin rfl [(2001, hFw (TV.v (.slice ta 0 ct)) [] false), (3000, hAw)] ⟨hfw, hAw_ok _, trivial⟩ [.y] (x := .v (.bool true)) (ob := [qL (hFw (TV.v (.slice ta 0 ct)) [] false), [true = true], qL hAw].flatten) (by kernel_rfl) (all_flat ⟨all_qL _, ⟨rfl, trivial⟩, all_qL _, trivial⟩) fun ρ' w' hf _ => ⟨rfl, hf.below⟩
  | true =>
    rw [hfew] at hfw
    have h300 := (few_all hfew).2
    have hT : TxSrc (TV.v (.slice ta 0 ct)) [] [] := txs_nil ta ct
    obtain ⟨L, hL⟩ : ∃ L, L = madeL [] ns := ⟨_, rfl⟩
    have hfit : fitL L := by rw [hL]; exact made_fit _ h300 _
    have hTr : HintOk Try.prog 4002 (hTree 4002 (TV.s (.lf (.sl 0 0 0 1 ns.length (some c)))) (TV.v (.slice ta 0 ct)) [(0, numRow ns)] L L.length) := by
      rw [hL]
      exact hTree_of fun ρ w hr => by have := tree_run0 ns [] ta ct hT h300 ns.length c rfl hn0 hc hc2 ρ w hr; first | exact this | (simpa using this)
    obtain ⟨S, hS⟩ : ∃ S, S = treeL L := ⟨_, rfl⟩
    have hS0 : 0 < S.length := by rw [hS]; exact tree_pos hfit.1
    have hS8 : S.length ≤ 10000000000 := by rw [hS]; exact tree_long hfit
    obtain ⟨k, hk⟩ : ∃ k, k = cut % S.length := ⟨_, rfl⟩
    have hkl : k < S.length := by rw [hk]; exact Nat.mod_lt _ hS0
    have g0 : getL S = (L, 0) := by rw [hS]; exact may_gets hfit.1
    have g1 : getL (S.take k) = ([], 5) := (cut_gets hfit.1 (a := S.take k) (b := S.drop k) (by rw [← hS, List.take_append_drop]) (fun h => by have := congrArg List.length h; rw [List.length_drop] at this; simp at this; omega)).1
    have g2 : getL (S ++ [0]) = ([], 4) := by rw [hS]; exact more_gets hfit.1 (by simp)
    have cv : IntKind.i64.wrap (cut : Int) = (cut : Int) := by rw [IntKind.wrap_i64]; omega
    have hki : TV.int .i64 ((cut : Int) % (S.length : Int)) = TV.int .i64 (k : Int) := by rw [hk, Int.natCast_emod]
    have hPk := hPkL_ok 5001 4002 hfit
    have hmid := back_mid ρ w L hfit (by rw [← hS]; exact hS8) at' by' ha hb
    unfold hPkL at hPk
    rw [← hS] at hmid hPk
    refine At.run rfl [(2001, hFw (TV.v (.slice ta 0 ct)) [] true), (4002, hTree 4002 (TV.s (.lf (.sl 0 0 0 1 ns.length (some c)))) (TV.v (.slice ta 0 ct)) [(0, numRow ns)] L L.length), (5001, hPkS 4002 L S), (6001, hP0 6001 S L), (7001, hEr 0), (7006, hSmT 6001 4002 L), (2009005, .val (.int .i64 (k : Int))), (2009006, .val (.v (stv (S.take k)))), (9007, hP1 (S.take k) 5), (10002, hP1 (S ++ [0]) 4), (2011000, .val (.tup []))] ⟨hfw, hTr, hPk, hP0_ok _ (by omega) g0, hEr_ok _ _, hSmT_ok _ _ _ _ (by have := hfit.2.1; omega), trivial, trivial, hP1_ok _ (by rw [List.length_take]; omega) g1 (by decide), hP1_ok _ (by rw [List.length_append]; simp; omega) g2 (by decide), trivial, trivial⟩ [.n, .n] (tm2 := [(3, .int .u16 (at' : Int)), (4, .int .u8 (by' : Int)), (12, .v (stv S)), (11, .s (.lf (slN 4002 L.length))), (15, .v nilS), (16, .int .i64 5), (18, .int .i64 4)]) (rows2 := [(4002, rowN L L.length)]) (ob := [qL (hFw (TV.v (.slice ta 0 ct)) [] true), [false = false], qL (hTree 4002 (TV.s (.lf (.sl 0 0 0 1 ns.length (some c)))) (TV.v (.slice ta 0 ct)) [(0, numRow ns)] L L.length), qL (hPkS 4002 L S), qL (hP0 6001 S L), qL (hEr 0), qL (hSmT 6001 4002 L), [false = false, IntKind.i64.wrap (cut : Int) = (cut : Int), TV.int .i64 ((cut : Int) % (S.length : Int)) = TV.int .i64 (k : Int), 0 ≤ (cut : Int) ∧ 0 < (S.length : Int), TV.v (.string ⟨(S.take (k : Int).toNat).toArray⟩) = TV.v (stv (S.take k)), 0 ≤ (k : Int) ∧ (k : Int) ≤ (S.length : Int)], qL (hP1 (S.take k) 5), [(S.length : Int) + (([0] : List UInt8).length : Int) ≤ 9223372036854775807], qL (hP1 (S ++ [0]) 4)].flatten) (td := rp Try.f4 10) (by kernel_rfl) (all_flat ⟨all_qL _, ⟨rfl, trivial⟩, all_qL _, all_qL _, all_qL _, all_qL _, all_qL _, ⟨rfl, cv, hki, ⟨by omega, by omega⟩, rfl, ⟨by omega, by omega⟩, trivial⟩, all_qL _, ⟨by simp; omega, trivial⟩, all_qL _, trivial⟩) rfl rfl (by intro h; cases h) hmid
set_option maxRecDepth 100000 in
theorem back_run01 (ns : List UInt8) (na : Option Addr) (c : Nat) (tx : List (List UInt8)) (ta : Option Addr) (ct : Nat) (cut at' by' : Nat) (hcut : cut < 65536) (ha : at' < 65536) (hb : by' < 256) (htl : tx.length ≤ 9223372036854775807) (hns : ns = []) (ρ : Env) (w : World)
    (hr : ∀ q ∈ ([(1, txtRow tx)] : List (Nat × Row)), RowAt ρ q.1 q.2 w) : Calls Try.prog 4 #[(TV.v (.slice na 0 c)).val ρ, (txA tx ct).val ρ, .int .u16 (cut : Int), .int .u16 (at' : Int), .int .u8 (by' : Int)] w (BoolQ w true) := by
  subst hns
  have hfw : HintOk Try.prog 2001 (hFw (txA tx ct) [(1, txtRow tx)] (fewL tx)) := hFw1_ok _ tx ct htl
  refine At.calls (args := [(TV.v (.slice na 0 c)), (txA tx ct), .int .u16 (cut : Int), .int .u16 (at' : Int), .int .u8 (by' : Int)]) (rows := [(1, txtRow tx)]) (gl := []) (wr := []) (ρ := ρ) Try.func4 rfl rfl (init_ro1 ⟨rfl, trivial, rfl, rfl, rfl, trivial⟩ rfl rfl ⟨⟨hr (1, txtRow tx) (by simp), txtRow_ok tx⟩, trivial⟩) rfl ?_
  cases hfew : fewL tx with
  | false =>
    rw [hfew] at hfw
    exact At.fin rfl [(2001, hFw (txA tx ct) [(1, txtRow tx)] false), (3000, hAw)] ⟨hfw, hAw_ok _, trivial⟩ [.y] (x := .v (.bool true)) (ob := [qL (hFw (txA tx ct) [(1, txtRow tx)] false), [true = true], qL hAw].flatten) (by kernel_rfl) (all_flat ⟨all_qL _, ⟨rfl, trivial⟩, all_qL _, trivial⟩) fun ρ' w' hf _ => ⟨rfl, hf.below⟩
  | true =>
    rw [hfew] at hfw
    have h300 := (few_all hfew).2
    have hT : TxSrc (txA tx ct) [(1, txtRow tx)] tx := txs_row 1 ct tx htl
    obtain ⟨L, hL⟩ : ∃ L, L = madeL tx [] := ⟨_, rfl⟩
    have hfit : fitL L := by rw [hL]; exact made_fit _ h300 _
    have hTr : HintOk Try.prog 4002 (hTree 4002 (TV.v (.slice na 0 c)) (txA tx ct) [(1, txtRow tx)] L L.length) := by
      rw [hL]
      exact hTree_of fun ρ w hr => by have := tree_nil1 na c tx none ct hT ρ w hr; first | exact this | (simpa using this)
    obtain ⟨S, hS⟩ : ∃ S, S = treeL L := ⟨_, rfl⟩
    have hS0 : 0 < S.length := by rw [hS]; exact tree_pos hfit.1
    have hS8 : S.length ≤ 10000000000 := by rw [hS]; exact tree_long hfit
    obtain ⟨k, hk⟩ : ∃ k, k = cut % S.length := ⟨_, rfl⟩
    have hkl : k < S.length := by rw [hk]; exact Nat.mod_lt _ hS0
    have g0 : getL S = (L, 0) := by rw [hS]; exact may_gets hfit.1
    have g1 : getL (S.take k) = ([], 5) := (cut_gets hfit.1 (a := S.take k) (b := S.drop k) (by rw [← hS, List.take_append_drop]) (fun h => by have := congrArg List.length h; rw [List.length_drop] at this; simp at this; omega)).1
    have g2 : getL (S ++ [0]) = ([], 4) := by rw [hS]; exact more_gets hfit.1 (by simp)
    have cv : IntKind.i64.wrap (cut : Int) = (cut : Int) := by rw [IntKind.wrap_i64]; omega
    have hki : TV.int .i64 ((cut : Int) % (S.length : Int)) = TV.int .i64 (k : Int) := by rw [hk, Int.natCast_emod]
    have hPk := hPkL_ok 5001 4002 hfit
    have hmid := back_mid ρ w L hfit (by rw [← hS]; exact hS8) at' by' ha hb
    unfold hPkL at hPk
    rw [← hS] at hmid hPk
    refine At.run rfl [(2001, hFw (txA tx ct) [(1, txtRow tx)] true), (4002, hTree 4002 (TV.v (.slice na 0 c)) (txA tx ct) [(1, txtRow tx)] L L.length), (5001, hPkS 4002 L S), (6001, hP0 6001 S L), (7001, hEr 0), (7006, hSmT 6001 4002 L), (2009005, .val (.int .i64 (k : Int))), (2009006, .val (.v (stv (S.take k)))), (9007, hP1 (S.take k) 5), (10002, hP1 (S ++ [0]) 4), (2011000, .val (.tup []))] ⟨hfw, hTr, hPk, hP0_ok _ (by omega) g0, hEr_ok _ _, hSmT_ok _ _ _ _ (by have := hfit.2.1; omega), trivial, trivial, hP1_ok _ (by rw [List.length_take]; omega) g1 (by decide), hP1_ok _ (by rw [List.length_append]; simp; omega) g2 (by decide), trivial, trivial⟩ [.n, .n] (tm2 := [(3, .int .u16 (at' : Int)), (4, .int .u8 (by' : Int)), (12, .v (stv S)), (11, .s (.lf (slN 4002 L.length))), (15, .v nilS), (16, .int .i64 5), (18, .int .i64 4)]) (rows2 := [(4002, rowN L L.length)]) (ob := [qL (hFw (txA tx ct) [(1, txtRow tx)] true), [false = false], qL (hTree 4002 (TV.v (.slice na 0 c)) (txA tx ct) [(1, txtRow tx)] L L.length), qL (hPkS 4002 L S), qL (hP0 6001 S L), qL (hEr 0), qL (hSmT 6001 4002 L), [false = false, IntKind.i64.wrap (cut : Int) = (cut : Int), TV.int .i64 ((cut : Int) % (S.length : Int)) = TV.int .i64 (k : Int), 0 ≤ (cut : Int) ∧ 0 < (S.length : Int), TV.v (.string ⟨(S.take (k : Int).toNat).toArray⟩) = TV.v (stv (S.take k)), 0 ≤ (k : Int) ∧ (k : Int) ≤ (S.length : Int)], qL (hP1 (S.take k) 5), [(S.length : Int) + (([0] : List UInt8).length : Int) ≤ 9223372036854775807], qL (hP1 (S ++ [0]) 4)].flatten) (td := rp Try.f4 10) (by kernel_rfl) (all_flat ⟨all_qL _, ⟨rfl, trivial⟩, all_qL _, all_qL _, all_qL _, all_qL _, all_qL _, ⟨rfl, cv, hki, ⟨by omega, by omega⟩, rfl, ⟨by omega, by omega⟩, trivial⟩, all_qL _, ⟨by simp; omega, trivial⟩, all_qL _, trivial⟩) rfl rfl (by intro h; cases h) hmid
set_option maxRecDepth 100000 in
theorem back_run00 (ns : List UInt8) (na : Option Addr) (c : Nat) (tx : List (List UInt8)) (ta : Option Addr) (ct : Nat) (cut at' by' : Nat) (hcut : cut < 65536) (ha : at' < 65536) (hb : by' < 256) (htl : tx.length ≤ 9223372036854775807) (hns : ns = []) (htx : tx = []) (ρ : Env) (w : World)
    (hr : ∀ q ∈ ([] : List (Nat × Row)), RowAt ρ q.1 q.2 w) : Calls Try.prog 4 #[(TV.v (.slice na 0 c)).val ρ, (TV.v (.slice ta 0 ct)).val ρ, .int .u16 (cut : Int), .int .u16 (at' : Int), .int .u8 (by' : Int)] w (BoolQ w true) := by
  subst hns
  subst htx
  have hfw : HintOk Try.prog 2001 (hFw (TV.v (.slice ta 0 ct)) [] (fewL [])) := hFw0_ok _ ta ct
  refine At.calls (args := [(TV.v (.slice na 0 c)), (TV.v (.slice ta 0 ct)), .int .u16 (cut : Int), .int .u16 (at' : Int), .int .u8 (by' : Int)]) (rows := []) (gl := []) (wr := []) (ρ := ρ) Try.func4 rfl rfl (init_ro1 ⟨rfl, rfl, rfl, rfl, rfl, trivial⟩ rfl rfl trivial) rfl ?_
  cases hfew : fewL [] with
  | false =>
    rw [hfew] at hfw
    exact At.fin rfl [(2001, hFw (TV.v (.slice ta 0 ct)) [] false), (3000, hAw)] ⟨hfw, hAw_ok _, trivial⟩ [.y] (x := .v (.bool true)) (ob := [qL (hFw (TV.v (.slice ta 0 ct)) [] false), [true = true], qL hAw].flatten) (by kernel_rfl) (all_flat ⟨all_qL _, ⟨rfl, trivial⟩, all_qL _, trivial⟩) fun ρ' w' hf _ => ⟨rfl, hf.below⟩
  | true =>
    rw [hfew] at hfw
    have h300 := (few_all hfew).2
    have hT : TxSrc (TV.v (.slice ta 0 ct)) [] [] := txs_nil ta ct
    obtain ⟨L, hL⟩ : ∃ L, L = madeL [] [] := ⟨_, rfl⟩
    have hfit : fitL L := by rw [hL]; exact made_fit _ h300 _
    have hTr : HintOk Try.prog 4002 (hTree 4002 (TV.v (.slice na 0 c)) (TV.v (.slice ta 0 ct)) [] L L.length) := by
      rw [hL]
      exact hTree_of fun ρ w hr => by have := tree_nil0 na c [] ta ct hT ρ w hr; first | exact this | (simpa using this)
    obtain ⟨S, hS⟩ : ∃ S, S = treeL L := ⟨_, rfl⟩
    have hS0 : 0 < S.length := by rw [hS]; exact tree_pos hfit.1
    have hS8 : S.length ≤ 10000000000 := by rw [hS]; exact tree_long hfit
    obtain ⟨k, hk⟩ : ∃ k, k = cut % S.length := ⟨_, rfl⟩
    have hkl : k < S.length := by rw [hk]; exact Nat.mod_lt _ hS0
    have g0 : getL S = (L, 0) := by rw [hS]; exact may_gets hfit.1
    have g1 : getL (S.take k) = ([], 5) := (cut_gets hfit.1 (a := S.take k) (b := S.drop k) (by rw [← hS, List.take_append_drop]) (fun h => by have := congrArg List.length h; rw [List.length_drop] at this; simp at this; omega)).1
    have g2 : getL (S ++ [0]) = ([], 4) := by rw [hS]; exact more_gets hfit.1 (by simp)
    have cv : IntKind.i64.wrap (cut : Int) = (cut : Int) := by rw [IntKind.wrap_i64]; omega
    have hki : TV.int .i64 ((cut : Int) % (S.length : Int)) = TV.int .i64 (k : Int) := by rw [hk, Int.natCast_emod]
    have hPk := hPkL_ok 5001 4002 hfit
    have hmid := back_mid ρ w L hfit (by rw [← hS]; exact hS8) at' by' ha hb
    unfold hPkL at hPk
    rw [← hS] at hmid hPk
    refine At.run rfl [(2001, hFw (TV.v (.slice ta 0 ct)) [] true), (4002, hTree 4002 (TV.v (.slice na 0 c)) (TV.v (.slice ta 0 ct)) [] L L.length), (5001, hPkS 4002 L S), (6001, hP0 6001 S L), (7001, hEr 0), (7006, hSmT 6001 4002 L), (2009005, .val (.int .i64 (k : Int))), (2009006, .val (.v (stv (S.take k)))), (9007, hP1 (S.take k) 5), (10002, hP1 (S ++ [0]) 4), (2011000, .val (.tup []))] ⟨hfw, hTr, hPk, hP0_ok _ (by omega) g0, hEr_ok _ _, hSmT_ok _ _ _ _ (by have := hfit.2.1; omega), trivial, trivial, hP1_ok _ (by rw [List.length_take]; omega) g1 (by decide), hP1_ok _ (by rw [List.length_append]; simp; omega) g2 (by decide), trivial, trivial⟩ [.n, .n] (tm2 := [(3, .int .u16 (at' : Int)), (4, .int .u8 (by' : Int)), (12, .v (stv S)), (11, .s (.lf (slN 4002 L.length))), (15, .v nilS), (16, .int .i64 5), (18, .int .i64 4)]) (rows2 := [(4002, rowN L L.length)]) (ob := [qL (hFw (TV.v (.slice ta 0 ct)) [] true), [false = false], qL (hTree 4002 (TV.v (.slice na 0 c)) (TV.v (.slice ta 0 ct)) [] L L.length), qL (hPkS 4002 L S), qL (hP0 6001 S L), qL (hEr 0), qL (hSmT 6001 4002 L), [false = false, IntKind.i64.wrap (cut : Int) = (cut : Int), TV.int .i64 ((cut : Int) % (S.length : Int)) = TV.int .i64 (k : Int), 0 ≤ (cut : Int) ∧ 0 < (S.length : Int), TV.v (.string ⟨(S.take (k : Int).toNat).toArray⟩) = TV.v (stv (S.take k)), 0 ≤ (k : Int) ∧ (k : Int) ≤ (S.length : Int)], qL (hP1 (S.take k) 5), [(S.length : Int) + (([0] : List UInt8).length : Int) ≤ 9223372036854775807], qL (hP1 (S ++ [0]) 4)].flatten) (td := rp Try.f4 10) (by kernel_rfl) (all_flat ⟨all_qL _, ⟨rfl, trivial⟩, all_qL _, all_qL _, all_qL _, all_qL _, all_qL _, ⟨rfl, cv, hki, ⟨by omega, by omega⟩, rfl, ⟨by omega, by omega⟩, trivial⟩, all_qL _, ⟨by simp; omega, trivial⟩, all_qL _, trivial⟩) rfl rfl (by intro h; cases h) hmid
end
end Go.Proofs.Ytglipljilcdboaa
namespace Go.Proofs.Ytglipljilcdboaa
open Go.Deep Go.ChangeShapes Go.WideShapes Go.ChangeAt Go.RowKit
set_option linter.unusedVariables false
section
open E
theorem back_any (w : World) (pa : Option Addr) (len ca : Nat) (ns : List UInt8) (hN : NumIn (W := w) pa len ca ns) (hca : ca ≤ 140737488355328) (v : Value) (tx : List (List UInt8)) (hT : TxtV w v tx) (cut at' by' : Int) (hc : 0 ≤ cut ∧ cut < 65536) (ha : 0 ≤ at' ∧ at' < 65536) (hb : 0 ≤ by' ∧ by' < 256) : Calls Try.prog 4 #[.slice pa len ca, v, .int .u16 cut, .int .u16 at', .int .u8 by'] w (BoolQ w true) := by
  obtain ⟨cut, rfl⟩ := Int.eq_ofNat_of_zero_le hc.1
  obtain ⟨at', rfl⟩ := Int.eq_ofNat_of_zero_le ha.1
  obtain ⟨by', rfl⟩ := Int.eq_ofNat_of_zero_le hb.1
  have hc := hc.2
  have ha := ha.2
  have hb := hb.2
  obtain ⟨hl, hcc, hN⟩ := hN
  obtain ⟨htl, ta, ct, rfl, hT⟩ := hT
  subst hl
  rcases Nat.eq_zero_or_pos ns.length with e | e
  · have e1 : ns = [] := List.length_eq_zero_iff.1 e
    rcases Nat.eq_zero_or_pos tx.length with e2 | e2
    · have e3 : tx = [] := List.length_eq_zero_iff.1 e2
      subst e1 e3
      exact back_run00 [] pa ca [] ta ct cut at' by' (by omega) (by omega) (by omega) (by simp) rfl rfl (fun _ => ⟨0, 0, 0⟩) w (fun q hq => by cases hq)
    · obtain ⟨b, o, rfl, hx⟩ := hT e2
      subst e1
      exact back_run01 [] pa ca tx none ct cut at' by' (by omega) (by omega) (by omega) htl rfl (fun _ => ⟨b, o, 0⟩) w (fun q hq => by
        obtain rfl := List.mem_singleton.1 hq
        exact txt_row e2 hx _ 1 rfl)
  · obtain ⟨b, o, rfl, hb2, hx⟩ := hN e
    rcases Nat.eq_zero_or_pos tx.length with e2 | e2
    · have e3 : tx = [] := List.length_eq_zero_iff.1 e2
      subst e3
      exact back_run10 ns none ca [] ta ct cut at' by' (by omega) (by omega) (by omega) e hcc hca (by simp) rfl (fun _ => ⟨b, o, 0⟩) w (fun q hq => by
        obtain rfl := List.mem_singleton.1 hq
        exact num_row e hb2 hx _ 0 rfl)
    · obtain ⟨b2, o2, rfl, hx2⟩ := hT e2
      exact back_run11 ns none ca tx none ct cut at' by' (by omega) (by omega) (by omega) e hcc hca htl (fun i => if i = 0 then ⟨b, o, 0⟩ else ⟨b2, o2, 0⟩) w (fun q hq => by
        simp only [List.mem_cons, List.not_mem_nil, or_false] at hq
        rcases hq with rfl | rfl
        · exact num_row e hb2 hx _ 0 rfl
        · exact txt_row e2 hx2 _ 1 rfl)
end
end Go.Proofs.Ytglipljilcdboaa
