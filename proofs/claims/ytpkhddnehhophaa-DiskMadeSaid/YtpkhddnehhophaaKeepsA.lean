/- What a disk is behind writes of which some are kept, and what a row of texts holds beside it. Plain facts; no condition. -/
import Derived.Test.YtpkhddnehhophaaTwoA
namespace Go.Proofs.Ytpkhddnehhophaa
open Go.RowKit
set_option linter.unusedVariables false

/-- The writes whose numbers are kept, one behind the other. -/
def keptZ (l : List (Nat × List UInt8)) (kp : Nat → Bool) (f : Nat → List UInt8) : Nat → List UInt8 := l.zipIdx.foldl (fun f p => if kp p.2 then upd f p.1.1 p.1.2 else f) f
theorem keptZ_snoc (l : List (Nat × List UInt8)) (kp : Nat → Bool) (f : Nat → List UInt8) (i : Nat) (s : List UInt8) : keptZ (l ++ [(i, s)]) kp f = if kp l.length then upd (keptZ l kp f) i s else keptZ l kp f := by
  simp [keptZ, List.zipIdx_append]
theorem kept1_Z_aux (loose : List (Nat × List UInt8)) (kp : Nat → Bool) : ∀ (pre : List (Fin loose.length)) (firm : Nat → List UInt8), kept1 loose kp firm pre = (pre.map fun x => (loose[x], x.1)).foldl (fun f p => if kp p.2 then upd f p.1.1 p.1.2 else f) firm := by
  intro pre
  induction pre with
  | nil => intro firm; rfl
  | cons x pre ih =>
    intro firm
    have h1 : kept1 loose kp firm (x :: pre) = kept1 loose kp (if kp x.1 then upd firm loose[x].1 loose[x].2 else firm) pre := rfl
    rw [h1, ih]
    rfl
theorem kept1_Z (loose : List (Nat × List UInt8)) (kp : Nat → Bool) (firm : Nat → List UInt8) : kept1 loose kp firm (List.finRange loose.length) = keptZ loose kp firm := by
  rw [kept1_Z_aux]
  unfold keptZ
  congr 1
  apply List.ext_getElem
  · simp
  · intro i h1 h2
    simp
theorem kept1_lost (loose : List (Nat × List UInt8)) (kp : Nat → Bool) (firm : Nat → List UInt8) (i : Nat) (h : ∀ x ∈ loose, x.1 ≠ i) : keptZ loose kp firm i = firm i := by
  rw [← kept1_Z]
  exact kept1_none _ _ _ _ _ (fun x _ _ => h _ (List.getElem_mem x.2))

/-- What is known of the disk behind j writes upon firm bytes F. -/
structure TF (D : DS) (j : Nat) (F : Nat → List UInt8) : Prop where
  n : D.n = 32
  d : D.down = false
  f : D.fuse = -1
  l : D.loose.length = j
  fm : D.firm = F
  nw : D.now = lastOf D.loose F
theorem TF.zero : TF (DS.new 32) 0 zz := ⟨rfl, rfl, rfl, rfl, rfl, rfl⟩
theorem TF.write {D : DS} {j : Nat} {F : Nat → List UInt8} (h : TF D j F) (i : Nat) (s : List UInt8) : TF (D.write i s) (j + 1) F :=
  ⟨h.n, h.d, by show (if 0 < D.fuse then _ else D.fuse) = _; rw [h.f]; rfl, by show (D.loose ++ [(i, s)]).length = _; rw [List.length_append, h.l]; rfl, h.fm, by show upd D.now i s = lastOf (D.loose ++ [(i, s)]) F; rw [lastOf_snoc, h.nw]⟩
theorem TF.flush {D : DS} {j : Nat} {F : Nat → List UInt8} (h : TF D j F) : TF D.flush 0 D.now := by
  refine ⟨h.n, h.d, h.f, rfl, ?_, rfl⟩
  funext i
  show (if ∃ x ∈ D.loose, x.1 = i then D.now i else D.firm i) = D.now i
  split
  · rfl
  · rename_i hx
    rw [h.nw, lastOf_none _ _ _ (fun x h1 h2 => hx ⟨x, h1, h2⟩), h.fm]
theorem TF.crash {D : DS} {j : Nat} {F : Nat → List UInt8} (h : TF D j F) (zs : List Int) : (D.crash zs).now = keptZ D.loose (marked zs) F := by
  funext i
  show (if ∃ x ∈ D.loose, x.1 = i then kept1 D.loose (marked zs) D.firm (List.finRange D.loose.length) i else D.now i) = _
  rw [kept1_Z, h.fm]
  split
  · rfl
  · rename_i hx
    rw [h.nw, lastOf_none _ _ _ (fun x h1 h2 => hx ⟨x, h1, h2⟩), kept1_lost _ _ _ _ (fun x h1 h2 => hx ⟨x, h1, h2⟩)]

/-- A row of 32 texts. -/
def Want (w : World) (g : Nat) (W : Nat → List UInt8) : Prop := ∃ cur, w.heap[g]? = some (.cells cur 9 (0, 0)) ∧ cur.size = 32 ∧ ∀ i, i < 32 → cur[i]? = some (.string ⟨(W i).toArray⟩)
theorem Want.kept {w w' : World} {g : Nat} {W : Nat → List UInt8} (h : Want w g W) {S : Nat → Prop} (hf : Fr S w w') (hS : ¬ S g) : Want w' g W := by
  obtain ⟨cur, hg, h1, h2⟩ := h
  exact ⟨cur, (hf.block g (Array.getElem?_eq_some_iff.1 hg).1 hS).trans hg, h1, h2⟩
theorem Want.cell {w : World} {g : Nat} {W : Nat → List UInt8} (h : Want w g W) (i : Nat) (hi : i < 32) : w.cell? ⟨g, i, none⟩ = some (.string ⟨(W i).toArray⟩) ∧ w.frozen? ⟨g, i, none⟩ = false := by
  obtain ⟨cur, hg, h1, h2⟩ := h
  exact ⟨by rw [cell_of_row w g i cur _ _ hg]; exact h2 i hi, frozen_of_row w g i cur 9 hg⟩
theorem Want.set {w : World} {g : Nat} {W : Nat → List UInt8} (h : Want w g W) (i : Nat) (hi : i < 32) (s : List UInt8) : Want (w.setCell ⟨g, i, none⟩ (.string ⟨s.toArray⟩)) g (upd W i s) := by
  obtain ⟨cur, hg, h1, h2⟩ := h
  refine ⟨_, heap_setCell_same w g i cur 9 _ hg, by rw [Array.size_setIfInBounds]; exact h1, fun k hk => ?_⟩
  rw [Array.getElem?_setIfInBounds]
  unfold upd
  by_cases e : i = k
  · subst e; rw [if_pos rfl, if_pos (by omega), if_pos rfl]
  · rw [if_neg e, if_neg (Ne.symm e)]; exact h2 k hk
theorem Want.congr {w : World} {g : Nat} {W V : Nat → List UInt8} (h : Want w g W) (hv : ∀ i, i < 32 → W i = V i) : Want w g V := by
  obtain ⟨cur, hg, h1, h2⟩ := h
  exact ⟨cur, hg, h1, fun i hi => by rw [h2 i hi, hv i hi]⟩
theorem want_apart {w : World} {B b bs g : Nat} {lv : Value} {D : DS} {W : Nat → List UInt8} (R : Rep w B b bs lv D) (h : Want w g W) : ¬ Foot b bs lv g := by
  obtain ⟨cur, hg, -⟩ := h
  rintro (rfl | rfl | hk)
  · rw [R.hd] at hg; simp at hg
  · obtain ⟨cur2, h2, -⟩ := R.hs; rw [h2] at hg; simp at hg
  · rcases R.hl.2 with ⟨rfl, -⟩ | ⟨g', cap', cur', rfl, -, hg', -⟩
    · simp [Value.ownBlock] at hk
    · simp [Value.ownBlock] at hk; subst hk; rw [hg'] at hg; simp at hg
theorem want_own {w : World} {base n g : Nat} {v : Value} {xs : List Value} {W : Nat → List UInt8} (h : Want w g W) (ho : w.ownsRow base 3 1 v n xs) : ¬ v.ownBlock = some g := by
  obtain ⟨cur, hg, -⟩ := h
  intro hv
  rcases ho.2 with ⟨rfl, -⟩ | ⟨g', cap, cur2, rfl, -, hg', -⟩
  · simp [Value.ownBlock] at hv
  · simp [Value.ownBlock] at hv; subst hv; rw [hg'] at hg; simp at hg
theorem Want.fr {w : World} {g i : Nat} {v : Value} : Fr (fun k => k = g) w (w.setCell ⟨g, i, none⟩ v) := (Fr.refl (fun k => k = g) w).setCell (p := ⟨g, i, none⟩) rfl v

theorem info9 : (Try.prog.info? 9).map (fun i => (i.zero, i.size, i.bytes)) = some (some (.string ByteArray.empty), 1, 16) := by kernel_rfl
/-- A new row of 32 texts of nothing. -/
def wblk : Obj := .cells (madeCells (Value.string ByteArray.empty).cells (32 * 1)) 9
theorem make32 {ρ : Operand → Value} {o : Oper} (w : World) (x y : Operand) (ho : o.op = .makeSlice 33 x y) (hx : ρ x = .int .i64 32) (hy : ρ y = .int .i64 32) :
    (execOp ρ o).run Try.prog w = .ok (.value (.slice (some ⟨w.heap.size, 0, none⟩) 32 32)) (w.alloc wblk) := by
  obtain ⟨i0, hi, hz0, hz1, hz2⟩ := info_parts info9
  exact exec_makeSlice (P := Try.prog) w 33 9 x y ho i0 _ 1 Try.underlying33 hi hz0 hz1 32 hx hy (by rw [hz2]; omega) (by omega)
theorem want_new (w : World) : Want (w.alloc wblk) w.heap.size (fun _ => []) :=
  ⟨_, heap_alloc_new w _, by rw [size_madeCells], fun i hi => (made_get (.string ByteArray.empty) (32 * 1) i rfl (by omega)).trans rfl⟩

/-- Numbers modulo 20, the first m of them. -/
def mods (C : Nat → Nat) (m : Nat) : List Int := (List.range m).map fun j : Nat => ((C j % 20 : Nat) : Int)
theorem mods_length (C : Nat → Nat) (m : Nat) : (mods C m).length = m := by simp [mods]
theorem mods_succ (C : Nat → Nat) (m : Nat) : mods C (m + 1) = mods C m ++ [((C m % 20 : Nat) : Int)] := by simp [mods, List.range_succ]
theorem mods_at {w : World} {base : Nat} {v : Value} {m : Nat} {C : Nat → Nat} (h : w.ownsRow base 3 1 v m ((mods C m).map (Value.int .i64))) :
    ∃ p c, v = .slice p (mods C m).length c ∧ ∀ j (hj : j < (mods C m).length), ∃ g off, p = some ⟨g, off, none⟩ ∧ w.cell? ⟨g, off + j, none⟩ = some (.int .i64 (mods C m)[j]) := by
  rcases h.2 with ⟨rfl, h0⟩ | ⟨g, cap, cur, rfl, -, hg, hn, -, hc, htk⟩
  · exact ⟨none, 0, by rw [mods_length, h0], fun j hj => absurd hj (by rw [mods_length]; omega)⟩
  · refine ⟨some ⟨g, 0, none⟩, cap, by rw [mods_length], fun j hj => ⟨g, 0, rfl, ?_⟩⟩
    have hj' : j < m := by rwa [mods_length] at hj
    rw [Nat.zero_add, cell_of_row w g j cur _ _ hg]
    have h1 : ((mods C m).map (Value.int .i64))[j]? = some (.int .i64 (mods C m)[j]) := by
      rw [List.getElem?_map, List.getElem?_eq_getElem hj]; rfl
    rw [← htk, List.getElem?_take] at h1
    split at h1
    · simpa using h1
    · cases h1
end Go.Proofs.Ytpkhddnehhophaa
