/- Several disks side by side, and a row of numbers beside them: what a call does to one it does to no other. Plain facts; no condition but that they lie apart. -/
import Derived.Test.YtpkhddnehhophaaFuseA
namespace Go.Proofs.Ytpkhddnehhophaa
open Go.RowKit
set_option linter.unusedVariables false

def Ap (b1 s1 : Nat) (l1 : Value) (b2 s2 : Nat) (l2 : Value) : Prop := ∀ k, Foot b1 s1 l1 k → ¬ Foot b2 s2 l2 k
theorem Ap.symm {b1 s1 : Nat} {l1 : Value} {b2 s2 : Nat} {l2 : Value} (h : Ap b1 s1 l1 b2 s2 l2) : Ap b2 s2 l2 b1 s1 l1 := fun k h2 h1 => h k h1 h2
theorem Rep.lt {w : World} {B b bs : Nat} {lv : Value} {D : DS} (h : Rep w B b bs lv D) : ∀ k, Foot b bs lv k → k < w.heap.size := by
  rintro k (rfl | rfl | hk)
  · exact (Array.getElem?_eq_some_iff.1 h.hd).1
  · obtain ⟨cur, hg, -⟩ := h.hs; exact (Array.getElem?_eq_some_iff.1 hg).1
  · exact (h.hl.lt k hk).2
theorem Ap.step {w : World} {B b1 s1 b2 s2 : Nat} {l1 l1' l2 : Value} {D : DS} (h : Ap b1 s1 l1 b2 s2 l2) (R : Rep w B b2 s2 l2 D) (hL : l1'.ownBlock = l1.ownBlock ∨ ∃ k, l1'.ownBlock = some k ∧ w.heap.size ≤ k) : Ap b1 s1 l1' b2 s2 l2 := by
  rintro k (hk | hk | hk) h2
  · exact h k (Or.inl hk) h2
  · exact h k (Or.inr (Or.inl hk)) h2
  · rcases hL with e | ⟨j, e, hj⟩
    · exact h k (Or.inr (Or.inr (by rw [← e]; exact hk))) h2
    · rw [e] at hk
      cases hk
      have := R.lt _ h2
      omega
theorem own_apart {w : World} {B b bs base n : Nat} {lv v : Value} {D : DS} {xs : List Value} (R : Rep w B b bs lv D) (h : w.ownsRow base 3 1 v n xs) : ∀ k, Foot b bs lv k → ¬ v.ownBlock = some k := by
  intro k hk hv
  rcases h.2 with ⟨rfl, -⟩ | ⟨g, cap, cur, rfl, -, hg, -⟩
  · simp [Value.ownBlock] at hv
  · simp [Value.ownBlock] at hv
    subst hv
    rcases hk with rfl | rfl | hk
    · rw [R.hd] at hg; simp at hg
    · obtain ⟨cur2, h2, -⟩ := R.hs; rw [h2] at hg; simp at hg
    · rcases R.hl.2 with ⟨rfl, -⟩ | ⟨g', cap', cur', rfl, -, hg', -⟩
      · simp [Value.ownBlock] at hk
      · simp [Value.ownBlock] at hk; subst hk; rw [hg'] at hg; simp at hg
theorem own_fr {w w' : World} {base n size : Nat} {e : TypeId} {v : Value} {xs : List Value} (h : w.ownsRow base e size v n xs) {S : Nat → Prop} (hf : Fr S w w') (hS : ∀ k, v.ownBlock = some k → ¬ S k) : w'.ownsRow base e size v n xs := by
  refine ⟨h.1, ?_⟩
  rcases h.2 with h1 | ⟨g, cap, cur, hv, hb, hgg, rest⟩
  · exact Or.inl h1
  · exact Or.inr ⟨g, cap, cur, hv, hb, (hf.block g (Array.getElem?_eq_some_iff.1 hgg).1 (hS g (by rw [hv]; rfl))).trans hgg, rest⟩

def lastOf (l : List (Nat × List UInt8)) (f : Nat → List UInt8) : Nat → List UInt8 := l.foldl (fun f x => upd f x.1 x.2) f
theorem lastOf_snoc (l : List (Nat × List UInt8)) (f : Nat → List UInt8) (i : Nat) (s : List UInt8) : lastOf (l ++ [(i, s)]) f = upd (lastOf l f) i s := by simp [lastOf]
theorem lastOf_none (l : List (Nat × List UInt8)) : ∀ (f : Nat → List UInt8) (i : Nat), (∀ x ∈ l, x.1 ≠ i) → lastOf l f i = f i := by
  induction l with
  | nil => intro f i _; rfl
  | cons x l ih =>
    intro f i h
    have h1 : lastOf (x :: l) f = lastOf l (upd f x.1 x.2) := rfl
    rw [h1, ih _ i (fun y hy => h y (List.mem_cons_of_mem _ hy))]
    unfold upd
    rw [if_neg (Ne.symm (h x List.mem_cons_self))]
theorem kept1_map (loose : List (Nat × List UInt8)) (kp : Nat → Bool) : ∀ (pre : List (Fin loose.length)) (firm : Nat → List UInt8), (∀ x ∈ pre, kp x.1 = true) → kept1 loose kp firm pre = lastOf (pre.map fun x => loose[x]) firm := by
  intro pre
  induction pre with
  | nil => intro firm _; rfl
  | cons x pre ih =>
    intro firm h
    have h1 : kept1 loose kp firm (x :: pre) = kept1 loose kp (if kp x.1 then upd firm loose[x].1 loose[x].2 else firm) pre := rfl
    rw [h1, if_pos (h x List.mem_cons_self), ih _ (fun y hy => h y (List.mem_cons_of_mem _ hy))]
    rfl
theorem kept1_every (loose : List (Nat × List UInt8)) (kp : Nat → Bool) (firm : Nat → List UInt8) (h : ∀ q, q < loose.length → kp q = true) : kept1 loose kp firm (List.finRange loose.length) = lastOf loose firm := by
  rw [kept1_map _ _ _ _ (fun x _ => h x.1 x.2)]
  congr 1
  apply List.ext_getElem
  · simp
  · intro i h1 h2
    simp

def zz : Nat → List UInt8 := fun _ => z64
def dup (m : Nat) : List Int := (List.range m).flatMap fun j : Nat => [(j : Int), (j : Int)]
theorem dup_succ (m : Nat) : dup (m + 1) = dup m ++ [(m : Int), (m : Int)] := by simp [dup, List.range_succ]
theorem dup_length (m : Nat) : (dup m).length = 2 * m := by
  induction m with
  | zero => rfl
  | succ m ih => rw [dup_succ, List.length_append, ih]; simp; omega
theorem marked_dup (m q : Nat) (h : q < m) : marked (dup m) q = true := by
  unfold marked dup
  rw [List.any_eq_true]
  exact ⟨(q : Int), List.mem_flatMap.2 ⟨q, List.mem_range.2 h, by simp⟩, by simp⟩

/-- What is known of each of the three disks behind j writes. -/
structure TD (D : DS) (j : Nat) : Prop where
  n : D.n = 32
  d : D.down = false
  f : D.fuse = -1
  l : D.loose.length = j
  fm : D.firm = zz
  nw : D.now = lastOf D.loose zz
theorem TD.zero : TD (DS.new 32) 0 := ⟨rfl, rfl, rfl, rfl, rfl, rfl⟩
theorem TD.write {D : DS} {j : Nat} (h : TD D j) (i : Nat) (s : List UInt8) : TD (D.write i s) (j + 1) :=
  ⟨h.n, h.d, by show (if 0 < D.fuse then _ else D.fuse) = _; rw [h.f]; rfl, by show (D.loose ++ [(i, s)]).length = _; rw [List.length_append, h.l]; rfl, h.fm, by show upd D.now i s = lastOf (D.loose ++ [(i, s)]) zz; rw [lastOf_snoc, h.nw]⟩
theorem TD.all {D : DS} {j : Nat} (h : TD D j) (i : Nat) : (D.crash (dup j)).now i = D.now i := by
  show (if ∃ x ∈ D.loose, x.1 = i then kept1 D.loose (marked (dup j)) D.firm (List.finRange D.loose.length) i else D.now i) = _
  split
  · rw [kept1_every _ _ _ (fun q hq => marked_dup j q (by rw [← h.l]; exact hq)), h.fm, h.nw]
  · rfl
theorem TD.none {D : DS} {j : Nat} (h : TD D j) (hj : j ≤ 40) (i : Nat) : (D.crash [-1, 1000]).now i = SE := by
  rw [SE_z64]
  show (if ∃ x ∈ D.loose, x.1 = i then kept1 D.loose (marked [-1, 1000]) D.firm (List.finRange D.loose.length) i else D.now i) = _
  split
  · rw [kept1_none, h.fm]; rfl
    intro x _ hx
    have := x.2
    have hl := h.l
    simp [marked] at hx
    omega
  · rename_i hx
    rw [h.nw, lastOf_none _ _ _ (fun x hx1 hx2 => hx ⟨x, hx1, hx2⟩)]
    rfl
theorem dup_at {w : World} {base : Nat} {v : Value} {m : Nat} (h : w.ownsRow base 3 1 v (2 * m) ((dup m).map (Value.int .i64))) :
    ∃ p c, v = .slice p (dup m).length c ∧ ∀ j (hj : j < (dup m).length), ∃ g off, p = some ⟨g, off, none⟩ ∧ w.cell? ⟨g, off + j, none⟩ = some (.int .i64 (dup m)[j]) := by
  rcases h.2 with ⟨rfl, h0⟩ | ⟨g, cap, cur, rfl, -, hg, hn, -, hc, htk⟩
  · exact ⟨none, 0, by rw [dup_length, h0], fun j hj => absurd hj (by rw [dup_length]; omega)⟩
  · refine ⟨some ⟨g, 0, none⟩, cap, by rw [dup_length], fun j hj => ⟨g, 0, rfl, ?_⟩⟩
    have hj' : j < 2 * m := by rwa [dup_length] at hj
    rw [Nat.zero_add, cell_of_row w g j cur _ _ hg]
    have h1 : ((dup m).map (Value.int .i64))[j]? = some (.int .i64 (dup m)[j]) := by
      rw [List.getElem?_map, List.getElem?_eq_getElem hj]; rfl
    rw [← htk, List.getElem?_take] at h1
    split at h1
    · simpa using h1
    · cases h1
end Go.Proofs.Ytpkhddnehhophaa
