/- What Write of package disk does to a disk that lies in memory, where there is such a sector and a fuse that is not used up. -/
import Derived.Test.YtpkhddnehhophaaWrite
namespace Go.Proofs.Ytpkhddnehhophaa
open Go.RowKit
set_option linter.unusedVariables false

theorem info67 : (Try.prog.info? 67).map (fun i => (i.zero, i.size, i.bytes)) = some (some (.agg (wrow 0 z64).toArray), 65, 72) := by kernel_rfl

theorem lcells_snoc (l : List (Nat × List UInt8)) (i : Nat) (s : List UInt8) : lcells (l ++ [(i, s)]) = lcells l ++ wrow i s := by simp [lcells, wrow]

/-- Write where there is such a sector: the state behind it. -/
def DS.write (D : DS) (i : Nat) (s : List UInt8) : DS := { D with now := upd D.now i s, loose := D.loose ++ [(i, s)], fuse := if 0 < D.fuse then D.fuse - 1 else D.fuse }

theorem seg_of_row {w : World} {g : Nat} {cs : List Value} {t : TypeId} {fr : Nat × Nat} (hg : w.heap[g]? = some (.cells cs.toArray t fr)) (off : Nat) (l : List Value) (hl : ∀ j, j < l.length → l[j]? = cs[off + j]?) :
    ∀ j v, l[j]? = some v → w.cell? ⟨g, off + j, none⟩ = some v := by
  intro j v hv
  have hj : j < l.length := (List.getElem?_eq_some_iff.1 hv).1
  rw [cell_of_row w g _ _ t fr hg, List.getElem?_toArray, ← hl j hj, hv]

theorem write_ok {w : World} {B b bs : Nat} {lv : Value} {D : DS} (h : Rep w B b bs lv D) (hd : D.down = false) (hf : D.fuse ≠ 0) (i : Nat) (hi : i < D.n) (s : ByteArray) (hs : s.size = 64) (hm : D.loose.length < 1000000) (hB : B ≤ w.heap.size) :
    Calls Try.prog 15 #[.pointer (some ⟨b, 0, none⟩), .int .i64 i, .string s] w fun e w' => e = .returned (.int .i64 0) ∧
      ∃ lv', Rep w' B b bs lv' (D.write i s.data.toList) ∧ Fr (Foot b bs lv) w w' ∧ (lv'.ownBlock = lv.ownBlock ∨ ∃ k, lv'.ownBlock = some k ∧ w.heap.size ≤ k) := by
  obtain ⟨c0, c1, c2, c3⟩ := h.c
  rw [hd] at c3
  have hn := h.hn
  obtain ⟨hne1, hne2, hne3⟩ := h.ne
  obtain ⟨cur, hg, hS⟩ := h.hs
  have hcs := hS.size
  have hln := hS.ln i hi
  have hlf := hS.lf i hi
  have hs2 : s.data.toList.length = 64 := hs
  have hbN : b < w.heap.size := (Array.getElem?_eq_some_iff.1 h.hd).1
  have hbsN : bs < w.heap.size := (Array.getElem?_eq_some_iff.1 hg).1
  have hfm : D.fuse ≤ 9223372036854775807 := by
    have := h.hf
    simp [Lit.wf, IntKind.min, IntKind.max, IntKind.signed, IntKind.bits] at this
    omega
  -- the world behind the fuse
  obtain ⟨W0, hW0⟩ : ∃ W0, W0 = if 0 < D.fuse then w.setCell ⟨b, 2, none⟩ (.int .i64 (D.fuse - 1)) else w := ⟨_, rfl⟩
  have hsz0 : W0.heap.size = w.heap.size := by rw [hW0]; split <;> simp
  have hoth0 : ∀ k, k ≠ b → W0.heap[k]? = w.heap[k]? := by
    intro k hk; rw [hW0]; split
    · exact Below.heap_setCell _ _ _ _ hk
    · rfl
  have hhd0 : W0.heap[b]? = some (.cells #[.slice (some ⟨bs, 0, none⟩) D.n D.n, lv, .int .i64 (if 0 < D.fuse then D.fuse - 1 else D.fuse), .bool false] 62 (0, 0)) := by
    rw [hW0]; split
    · rw [heap_setCell_same w b 2 _ 62 _ h.hd, hd]; rfl
    · rw [h.hd, hd]
  have hfr0 : Fr (Foot b bs lv) w W0 := by
    rw [hW0]; split
    · exact (Fr.refl _ w).setCell (p := ⟨b, 2, none⟩) (Or.inl rfl) _
    · exact Fr.refl _ w
  have hfu : (D.fuse < 0 ∧ w = W0) ∨ (0 < D.fuse ∧ w.setCell ⟨b, 2, none⟩ (.int .i64 (D.fuse - 1)) = W0) := by
    by_cases h0 : 0 < D.fuse
    · right; rw [hW0, if_pos h0]; exact ⟨h0, rfl⟩
    · left; rw [hW0, if_neg h0]; exact ⟨by omega, rfl⟩
  have hl0 : W0.ownsRow B 67 65 lv D.loose.length (lcells D.loose) := by
    refine h.hl.kept (row := some b) ⟨hfr0.os, hfr0.tape, hfr0.output, by omega, fun k _ hk => hoth0 k (fun e => hk (by rw [e]))⟩ (Or.inr hne2)
  clear hW0
  obtain ⟨i67, hi67, hz67, hsz67, hby67⟩ := info_parts info67
  generalize hA : Obj.cells (wrow i s.data.toList).toArray 67 = A at *
  have hW1g : (W0.alloc A).drew.heap[W0.heap.size]? = some A := heap_alloc_new W0 A
  have hl2 : ((W0.alloc A).drew.alloc A).ownsRow B 67 65 lv D.loose.length (lcells D.loose) := ((hl0.alloc A).drew).alloc A
  have hW2n : ((W0.alloc A).drew.alloc A).heap[W0.heap.size + 1]? = some A := by
    have := heap_alloc_new (W0.alloc A).drew A
    rwa [show (W0.alloc A).drew.heap.size = W0.heap.size + 1 from by simp] at this
  have hW2old : ∀ k, k < W0.heap.size → ((W0.alloc A).drew.alloc A).heap[k]? = W0.heap[k]? := by
    intro k hk
    rw [Below.heap_alloc _ _ _ (by simp; omega)]
    exact Below.heap_alloc W0 A k hk
  have hW2g : ((W0.alloc A).drew.alloc A).heap[W0.heap.size]? = some A := by
    rw [Below.heap_alloc _ _ _ (by simp)]; exact hW1g
  obtain ⟨v', W3, happ, hown', hgrow, hat⟩ := exec_append_own (P := Try.prog) ((W0.alloc A).drew.alloc A) B 60 67 i67 _ 65 72 Try.underlying60 hi67 hz67 hsz67 hby67 rfl (by decide) lv D.loose.length (lcells D.loose) hl2
    ⟨W0.heap.size + 1, 0, none⟩ 1 1 (wrow i s.data.toList) (by rw [wrow_length, hs2]) (by
      intro j u hu
      rw [addr_add]
      subst hA
      exact seg_of_row hW2n 0 _ (fun j _ => by rw [Nat.zero_add]) j u hu) (wrow_one _ _) (by unfold maxLen; omega) (by omega) (by simp; omega)
  have hlvN : ∀ k, lv.ownBlock = some k → k < w.heap.size := fun k hk => (h.hl.lt k hk).2
  have hW3 : ∀ k, k < W0.heap.size + 2 → some k ≠ lv.ownBlock → W3.heap[k]? = ((W0.alloc A).drew.alloc A).heap[k]? := fun k hk hne => hgrow.block k (by simp; omega) hne
  have h3b : W3.heap[b]? = some (.cells #[.slice (some ⟨bs, 0, none⟩) D.n D.n, lv, .int .i64 (if 0 < D.fuse then D.fuse - 1 else D.fuse), .bool false] 62 (0, 0)) := by
    rw [hW3 b (by omega) (Ne.symm hne2), hW2old b (by omega), hhd0]
  have h3s : W3.heap[bs]? = some (.cells cur 69 (0, 0)) := by
    rw [hW3 bs (by omega) (Ne.symm hne3), hW2old bs (by omega), hoth0 bs hne1, hg]
  have h3n : W3.heap[W0.heap.size]? = some A := by
    rw [hW3 _ (by omega) (by intro e; have := hlvN _ e.symm; omega), hW2g]
  have hv' : ∃ p c, v' = .slice p (D.loose.length + 1) c := by
    rcases hown'.2 with ⟨_, h0⟩ | ⟨g', cap', cur', rfl, _⟩
    · omega
    · exact ⟨_, _, rfl⟩
  have hsz4 : i * 128 + 64 + (bv s.data.toList).length ≤ cur.size := by rw [bv_length, hs2, hcs]; omega
  have hvb : v'.ownBlock ≠ some b ∧ v'.ownBlock ≠ some bs := by
    rcases hat with e | e
    · rw [e]; exact ⟨hne2, hne3⟩
    · rw [e]; simp; omega
  have h4b : (W3.setCell ⟨b, 1, none⟩ v').drew.heap[b]? = some (.cells #[.slice (some ⟨bs, 0, none⟩) D.n D.n, v', .int .i64 (if 0 < D.fuse then D.fuse - 1 else D.fuse), .bool false] 62 (0, 0)) :=
    heap_setCell_same W3 b 1 _ 62 v' h3b
  have h4o : ∀ k, k ≠ b → (W3.setCell ⟨b, 1, none⟩ v').drew.heap[k]? = W3.heap[k]? := fun k hk => Below.heap_setCell W3 _ _ k hk
  have h4s : (W3.setCell ⟨b, 1, none⟩ v').drew.heap[bs]? = some (.cells cur 69 (0, 0)) := (h4o bs hne1).trans h3s
  refine write_walk (w := w) (W0 := W0) D.n i s D.fuse lv _ c0 c1 c2 c3 hi hn hs hfu (h.f 2) hfm ?_ ?_ ?_ ?_ v' W3 ?_ ?_ ?_ ?_ ?_ ?_ cur h4s hsz4 ?_
  · rw [hA]
    show (W0.alloc A).drew.cell? _ = _
    unfold World.cell?
    rw [show (W0.alloc A).drew.heap[b]? = W0.heap[b]? from Below.heap_alloc W0 A b (by omega), hhd0]
    rfl
  · subst hA
    exact seg_of_row hW1g 0 _ (fun j _ => by rw [Nat.zero_add])
  · subst hA
    exact seg_of_row hW2g 0 _ (fun j _ => by rw [Nat.zero_add])
  · rw [hA]
    show ((W0.alloc A).drew.alloc A).cell? _ = _
    unfold World.cell?
    rw [hW2old b (by omega), hhd0]
    rfl
  · rw [hA]
    intro ρ o s' x ho h1 h2
    exact happ ρ o s' x ho h1 (by rw [h2, show (W0.alloc A).drew.heap.size = W0.heap.size + 1 from by simp])
  · obtain ⟨p, c, rfl⟩ := hv'
    exact ⟨rfl, rfl⟩
  · show W3.cell? _ = _
    unfold World.cell?
    rw [h3b]
    rfl
  · show W3.frozen? _ = _
    unfold World.frozen?
    rw [h3b]
    rfl
  · show World.cell? _ _ = _
    unfold World.cell?
    rw [h4b]
    rfl
  · have h4n : (W3.setCell ⟨b, 1, none⟩ v').drew.heap[W0.heap.size]? = some A := (h4o _ (by omega)).trans h3n
    subst hA
    exact seg_of_row h4n 1 _ (fun j _ => by unfold wrow; rw [Nat.add_comm 1 j]; rfl)
  · refine ⟨v', ⟨h.hb, h.hbs, ?_, hn, ⟨_, setRow_heap _ bs _ _ 69 _ h4s, ?_⟩, ?_, ?_, ?_, ?_⟩, ?_, ?_⟩
    · rw [setRow_other _ _ _ _ (Ne.symm hne1), h4b]
      simp [DS.write, hd]
    · have hupd : Secs (splice cur (i * 128 + 64) (bv s.data.toList)) D.n (upd D.firm i (D.firm i)) (upd D.now i s.data.toList) := by
        refine hS.set (by rw [splice_size _ _ _ hsz4, hcs]) ?_ ?_ ?_ hlf hs2
        · intro j hj
          rw [splice_get _ _ _ hsz4, bv_length, hs2, if_neg (by omega)]
        · intro j hj
          rw [splice_get _ _ _ hsz4, bv_length, hs2, if_neg (by omega), hS.cf i hi j hj]
        · intro j hj
          rw [splice_get _ _ _ hsz4, bv_length, hs2, if_pos (by omega), bv_get, if_pos (by omega)]
          congr 2; omega
      have hid : upd D.firm i (D.firm i) = D.firm := by funext k; unfold upd; split; (rename_i e; rw [e]); rfl
      rw [hid] at hupd
      exact hupd
    · have h5 : (W3.setCell ⟨b, 1, none⟩ v').drew.ownsRow B 67 65 v' (D.loose.length + 1) (lcells D.loose ++ wrow i s.data.toList) :=
        hown'.kept (row := some b) ⟨rfl, rfl, rfl, by simp [World.setCell], fun k _ hk => h4o k (fun e => hk (by rw [e]))⟩ (Or.inr hvb.1)
      have h6 := h5.kept (w' := (W3.setCell ⟨b, 1, none⟩ v').drew.setRow bs (splice cur (i * 128 + 64) (bv s.data.toList))) (row := some bs) ⟨rfl, rfl, rfl, by simp, fun k _ hk => setRow_other _ _ _ _ (fun e => hk (by rw [e]))⟩ (Or.inr hvb.2)
      simp only [DS.write, lcells_snoc, List.length_append, List.length_singleton]
      exact h6
    · intro x hx
      simp only [DS.write, List.mem_append, List.mem_singleton] at hx
      rcases hx with hx | rfl
      · exact h.hx x hx
      · exact ⟨hi, hs2⟩
    · simp only [DS.write, List.length_append, List.length_singleton]; omega
    · simp only [DS.write]
      have := h.hf
      simp [Lit.wf, IntKind.min, IntKind.max, IntKind.signed, IntKind.bits] at this ⊢
      split <;> omega
    · have hg2 : Fr (Foot b bs lv) W0 W3 := by
        refine (((Fr.refl _ W0).alloc A).drew.alloc A).trans ⟨hgrow.os, hgrow.tape, hgrow.output, hgrow.size, fun k hk hS => hgrow.block k hk (fun e => hS (Or.inr (Or.inr e.symm)))⟩
      exact (((hfr0.trans hg2).setCell (p := ⟨b, 1, none⟩) (Or.inl rfl) _).drew).setRow (Or.inr (Or.inl rfl)) _
    · rcases hat with e | e
      · exact Or.inl e
      · right; exact ⟨_, e, by simp; omega⟩

end Go.Proofs.Ytpkhddnehhophaa
