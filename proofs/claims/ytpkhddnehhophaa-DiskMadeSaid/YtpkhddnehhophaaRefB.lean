/- The document's disk: Write and Fuse. No condition but what each law names. -/
import Derived.Test.YtpkhddnehhophaaRefA
import Derived.Deep.CutBlock
import Derived.Deep.DeepCutAuto
namespace Go.Proofs.Ytpkhddnehhophaa
open Go.RowKit
set_option linter.unusedVariables false

theorem RRep.setLeft {w : World} {B b g cap : Nat} {lv : Value} {R : RS} (h : RRep w B b g cap lv R) (n : Int) (h0 : -1 ≤ n) (h1 : n ≤ 9223372036854775807) :
    RRep (w.setCell ⟨b, 3, none⟩ (.int .i64 n)) B b g cap lv { R with left := n } := by
  have hne := h.ne
  have hF : Fr (fun k => k = b) w (w.setCell ⟨b, 3, none⟩ (.int .i64 n)) := Fr.setCell (S := fun k => k = b) (Fr.refl _ w) (p := ⟨b, 3, none⟩) rfl _
  exact ⟨h.hb, by rw [heap_setCell_same w b 3 _ 58 _ h.hd]; rfl, h.hn, own_fr h.hf hF (fun k hk e => hne.1 (by cases hk; exact e)), own_fr h.hl hF (fun k hk e => hne.2.1 (by rw [hk, e])), h.hx, h.hm, h0, h1⟩
theorem RRep.setDown {w : World} {B b g cap : Nat} {lv : Value} {R : RS} (h : RRep w B b g cap lv R) (d : Bool) :
    RRep (w.setCell ⟨b, 2, none⟩ (.bool d)) B b g cap lv { R with down := d } := by
  have hne := h.ne
  have hF : Fr (fun k => k = b) w (w.setCell ⟨b, 2, none⟩ (.bool d)) := Fr.setCell (S := fun k => k = b) (Fr.refl _ w) (p := ⟨b, 2, none⟩) rfl _
  exact ⟨h.hb, by rw [heap_setCell_same w b 2 _ 58 _ h.hd]; rfl, h.hn, own_fr h.hf hF (fun k hk e => hne.1 (by cases hk; exact e)), own_fr h.hl hF (fun k hk e => hne.2.1 (by rw [hk, e])), h.hx, h.hm, h.h0, h.h1⟩
theorem RRep.mkLoose {w : World} {B b g cap : Nat} {lv lv2 : Value} {R : RS} (hb : B ≤ b) (hd : w.heap[b]? = some (.cells #[.slice (some ⟨g, 0, none⟩) R.n cap, lv, .bool R.down, .int .i64 R.left] 58 (0, 0))) (hn : R.n ≤ 4096)
    (hf : w.ownsRow B 9 1 (.slice (some ⟨g, 0, none⟩) R.n cap) R.n (strs R.n R.firm)) (h0 : -1 ≤ R.left) (h1 : R.left ≤ 9223372036854775807)
    (l2 : List (Nat × List UInt8)) (ho : w.ownsRow B 77 2 lv2 l2.length (rcells l2)) (hx : ∀ x ∈ l2, x.1 < R.n) (hm : l2.length ≤ 1000000) :
    RRep (w.setCell ⟨b, 1, none⟩ lv2) B b g cap lv2 { R with loose := l2 } := by
  have hF : Fr (fun k => k = b) w (w.setCell ⟨b, 1, none⟩ lv2) := Fr.setCell (S := fun k => k = b) (Fr.refl _ w) (p := ⟨b, 1, none⟩) rfl _
  refine ⟨hb, by rw [heap_setCell_same w b 1 _ 58 _ hd]; rfl, hn, own_fr hf hF (fun k hk e => ?_), own_fr ho hF (fun k hk e => ?_), hx, hm, h0, h1⟩
  · subst e
    rcases hf.2 with ⟨hv, _⟩ | ⟨g2, c2, cur, hv, _, hg, _⟩
    · cases hv
    · cases hv; cases hk; rw [hd] at hg; simp at hg
  · subst e
    rcases ho.2 with ⟨rfl, -⟩ | ⟨g3, c3, cur3, rfl, -, hh, -⟩
    · simp [Value.ownBlock] at hk
    · simp [Value.ownBlock] at hk; subst hk; rw [hd] at hh; simp at hh

set_option maxHeartbeats 400000 in
theorem rwrite_down {w : World} {B b g cap : Nat} {lv : Value} {R : RS} (h : RRep w B b g cap lv R) (hd : R.down = true) (i : Int) (s : ByteArray) :
    Calls Try.prog 24 #[.pointer (some ⟨b, 0, none⟩), .int .i64 i, .string s] w fun e w' => e = .returned (.int .i64 7) ∧ w = w' := by
  obtain ⟨-, -, c2, -⟩ := h.c
  rw [hd] at c2
  clear h hd
  go_enter Try.func24, Try.ntmps24
  go_wp2
  go_ret
  exact ⟨rfl, rfl⟩

set_option maxHeartbeats 400000 in
theorem rwrite_arg {w : World} {B b g cap : Nat} {lv : Value} {R : RS} (h : RRep w B b g cap lv R) (hd : R.down = false) (i : Int) (s : ByteArray) (hi : decide (i < 0) = true ∨ (decide (i < 0) = false ∧ decide ((R.n : Int) ≤ i) = true) ∨ (decide (i < 0) = false ∧ decide ((R.n : Int) ≤ i) = false ∧ ((s.size : Int) != 64) = true)) :
    Calls Try.prog 24 #[.pointer (some ⟨b, 0, none⟩), .int .i64 i, .string s] w fun e w' => e = .returned (.int .i64 1) ∧ w = w' := by
  obtain ⟨c0, -, c2, -⟩ := h.c
  rw [hd] at c2
  clear h hd
  generalize R.n = n at *
  rcases hi with h1 | ⟨h1, h2⟩ | ⟨h1, h2, h3⟩
  all_goals
    go_enter Try.func24, Try.ntmps24
    go_wp2
    go_ret
    exact ⟨rfl, rfl⟩

set_option maxHeartbeats 400000 in
theorem rwrite_burnt {w : World} {B b g cap : Nat} {lv : Value} {R : RS} (h : RRep w B b g cap lv R) (hd : R.down = false) (hf : R.left = 0) (i : Nat) (hi : i < R.n) (s : ByteArray) (hs : s.size = 64) :
    Calls Try.prog 24 #[.pointer (some ⟨b, 0, none⟩), .int .i64 i, .string s] w fun e w' => e = .returned (.int .i64 7) ∧ (RRep w' B b g cap lv { R with down := true } ∧ Fr (RFoot b g lv) w w') := by
  obtain ⟨c0, -, c2, c3⟩ := h.c
  rw [hd] at c2
  rw [hf] at c3
  have f2 := h.f 2
  have hs1 : ((s.size : Int) != 64) = false := by simp; omega
  have d0 : decide ((i : Int) < 0) = false := by simp
  have d1 : decide ((R.n : Int) ≤ (i : Int)) = false := by simp; omega
  have hfin := Lib.hid (And.intro (h.setDown true) ((Fr.refl (RFoot b g lv) w).setCell (p := ⟨b, 2, none⟩) (Or.inl rfl) (.bool true)))
  clear h hd hf hs
  generalize R.n = n at *
  go_enter Try.func24, Try.ntmps24
  go_wp2
  go_ret
  exact ⟨rfl, hfin.out⟩

/-- One write less, if there is a fuse. -/
def lessLeft (l : Int) : Int := if 0 < l then l - 1 else -1
def RS.write (R : RS) (i : Nat) (s : List UInt8) : RS := { R with loose := R.loose ++ [(i, s)], left := lessLeft R.left }

theorem info77 : (Try.prog.info? 77).map (fun i => (i.zero, i.size, i.bytes)) = some (some (.agg #[.int .i64 0, .string ByteArray.empty]), 2, 24) := by kernel_rfl

set_option maxRecDepth 100000 in
set_option maxHeartbeats 1000000 in
theorem rwrite_ok {w : World} {B b g cap : Nat} {lv : Value} {R : RS} (h : RRep w B b g cap lv R) (hd : R.down = false) (hf : R.left ≠ 0) (i : Nat) (hi : i < R.n) (s : ByteArray) (hs : s.size = 64) (hm : R.loose.length < 1000000) (hB : B ≤ w.heap.size) :
    Calls Try.prog 24 #[.pointer (some ⟨b, 0, none⟩), .int .i64 i, .string s] w fun e w' => e = .returned (.int .i64 0) ∧
      ((∃ lv', RRep w' B b g cap lv' (R.write i s.data.toList)) ∧ Fr (RFoot b g lv) w w') := by
  obtain ⟨c0, -, c2, c3⟩ := h.c
  rw [hd] at c2
  have f3 := h.f 3
  have hn := h.hn
  have hl0 := h.h0
  have hl1 := h.h1
  have hs1 : ((s.size : Int) != 64) = false := by simp; omega
  have d0 : decide ((i : Int) < 0) = false := by simp
  have d1 : decide ((R.n : Int) ≤ (i : Int)) = false := by simp; omega
  have e0 : (R.left == 0) = false := by simpa using hf
  have hll : -1 ≤ lessLeft R.left ∧ lessLeft R.left ≤ 9223372036854775807 := by unfold lessLeft; split <;> omega
  -- behind the count
  have h1 := h.setLeft (lessLeft R.left) hll.1 hll.2
  obtain ⟨-, c1, -, -⟩ := h1.c
  have f1 := h1.f 1
  have hF1 : Fr (RFoot b g lv) w (w.setCell ⟨b, 3, none⟩ (.int .i64 (lessLeft R.left))) := (Fr.refl _ w).setCell (p := ⟨b, 3, none⟩) (Or.inl rfl) _
  obtain ⟨W1, hW1⟩ : ∃ W1, W1 = w.setCell ⟨b, 3, none⟩ (.int .i64 (lessLeft R.left)) := ⟨_, rfl⟩
  rw [← hW1] at h1 c1 f1 hF1
  obtain ⟨i3, hi3, hz3, hs3, hb3⟩ := info_parts info77
  have hsz77 : (Try.prog.info? 77).map (·.size) = some [Value.int .i64 (i : Int), .string s].length := by rw [hi3]; simp [hs3]
  have zero77 : ∀ W : World, (zeroValue 77).run Try.prog W = .ok (.agg #[.int .i64 0, .string ByteArray.empty]) W := fun W => by kernel_rfl
  have hBS := Lib.hid (fun (ρ : Operand → Value) (o : Oper) (ho : o.op = .buildSlice 56 1 #[(0, .tmp 51)]) (hx : ρ (.tmp 51) = .agg #[.int .i64 (i : Int), .string s]) => exec_buildSlice1 (P := Try.prog) W1 56 77 (.tmp 51) ho [.int .i64 (i : Int), .string s] hx Try.underlying56 hsz77 (by simp) _ (zero77 _))
  obtain ⟨v', W3, happ, hown', hgrow, hat⟩ := exec_append_own (P := Try.prog) (W1.alloc (.cells #[.int .i64 (i : Int), .string s] 77)) B 56 77 i3 _ 2 24 Try.underlying56 hi3 hz3 hs3 hb3 rfl (by decide) lv R.loose.length _ (h1.hl.alloc _) ⟨W1.heap.size, 0, none⟩ 1 1 [.int .i64 (i : Int), .string s] rfl (by
    intro j u hu
    rw [addr_add, cell_of_row _ W1.heap.size (0 + j) [Value.int .i64 (i : Int), .string s].toArray 77 (0, 0) (heap_alloc_new W1 _), Nat.zero_add, List.getElem?_toArray]
    exact hu) (by intro u hu; simp at hu; rcases hu with rfl | rfl <;> rfl) (by unfold maxLen; omega) (by omega) (by rw [hW1]; simp [World.setCell]; omega)
  -- the world behind the append
  have hF3 : Fr (fun k => lv.ownBlock = some k) W1 W3 := by
    refine ⟨hgrow.os, hgrow.tape, hgrow.output, Nat.le_trans (by simp) hgrow.size, fun j hj hS => ?_⟩
    rw [hgrow.block j (by simp; omega) (fun e => hS e.symm), Below.heap_alloc _ _ _ hj]
  have hne := h1.ne
  have hbN : b < W1.heap.size := (Array.getElem?_eq_some_iff.1 h1.hd).1
  have hd3 := (hF3.block b hbN hne.2.1).trans h1.hd
  have hf3 := own_fr h1.hf hF3 (fun k hk e => hne.2.2 (by cases hk; exact e))
  have hRW : RRep (W3.setCell ⟨b, 1, none⟩ v') B b g cap v' (R.write i s.data.toList) :=
    RRep.mkLoose (R := { R with left := lessLeft R.left }) h1.hb hd3 h1.hn hf3 hll.1 hll.2 (R.loose ++ [(i, s.data.toList)]) (by rw [rcells_snoc, List.length_append]; exact hown') (by intro x hx; rw [List.mem_append] at hx; rcases hx with hx | hx; exact h.hx x hx; simp at hx; subst hx; exact hi) (by rw [List.length_append]; simp; omega)
  have c3' : W3.cell? ⟨b, 1, none⟩ = some lv := by rw [cell_of_row _ _ _ _ _ _ hd3]; rfl
  have f3' : W3.frozen? ⟨b, 1, none⟩ = false := frozen_of_row _ _ _ _ _ hd3
  have hFr : Fr (RFoot b g lv) w (W3.setCell ⟨b, 1, none⟩ v') := ((hF1.trans (hF3.mono (fun k _ hk => Or.inr (Or.inr hk)))).setCell (p := ⟨b, 1, none⟩) (Or.inl rfl) _)
  have HFIN : Hid ((∃ lv', RRep (W3.setCell ⟨b, 1, none⟩ v') B b g cap lv' (R.write i s.data.toList)) ∧ Fr (RFoot b g lv) w (W3.setCell ⟨b, 1, none⟩ v')) := Lib.hid ⟨⟨v', hRW⟩, hFr⟩
  have hv1 : v'.oneCell' = true ∧ v'.cells = #[v'] := by
    rcases hown'.2 with ⟨rfl, -⟩ | ⟨g3, c3, cur3, rfl, -⟩ <;> exact ⟨rfl, rfl⟩
  have HV1 := Lib.hid hv1
  have HA := Lib.hid happ
  clear hRW hFr hv1 happ hown' hgrow hat hF3 hF1 hne hbN hd3 hf3 h1 h hll hi3 hz3 hs3 hb3 hsz77 zero77 hm
  have hST := Lib.hid (fun (ρ : Operand → Value) (o : Oper) (ho : o.op = .store 56 (.tmp 55) (.tmp 53)) (hx : ρ (.tmp 55) = .pointer (some ⟨b, 1, none⟩)) (hy : ρ (.tmp 53) = v') => exec_store_one (P := Try.prog) W3 56 (.tmp 55) (.tmp 53) ho ⟨b, 1, none⟩ hx v' hy HV1.out.1 HV1.out.2 lv c3' f3' (by kernel_rfl))
  clear c3' f3'
  generalize R.left = L at *
  generalize R.n = n at *
  by_cases hpos : 0 < L
  · have hlt : lessLeft L = L - 1 := if_pos hpos
    rw [hlt] at hW1
    have HW1 := Lib.hid hW1
    clear hW1
    have g1 : decide (-1 < L - 1) = true := by simp; omega
    have g2 : ¬ (L - 1 < -1) := by omega
    clear hlt
    go_enter Try.func24, Try.ntmps24
    go_upto_region 9 with (fail)
    rw [← HW1.out]
    go_wp2_with (first | (at_builtin; refine wpList_run rfl _ (HA.out _ _ (.tmp 48) (.tmp 52) rfl rfl rfl) ?_) | (refine wpList_run rfl _ (hBS.out _ _ rfl rfl) ?_) | (refine wpList_run0 rfl (hST.out _ _ rfl rfl rfl) ?_))
    go_ret
    exact ⟨rfl, HFIN.out⟩
  · obtain rfl : L = -1 := by omega
    rw [show lessLeft (-1) = -1 from rfl] at hW1
    have HW1 := Lib.hid hW1
    clear hW1
    clear hpos
    go_enter Try.func24, Try.ntmps24
    go_upto_region 9 with (fail)
    rw [← HW1.out]
    go_wp2_with (first | (at_builtin; refine wpList_run rfl _ (HA.out _ _ (.tmp 48) (.tmp 52) rfl rfl rfl) ?_) | (refine wpList_run rfl _ (hBS.out _ _ rfl rfl) ?_) | (refine wpList_run0 rfl (hST.out _ _ rfl rfl rfl) ?_))
    go_ret
    exact ⟨rfl, HFIN.out⟩

def RS.fuse (R : RS) (n : Int) : RS := { R with left := if n < -1 then -1 else n }
set_option maxHeartbeats 400000 in
theorem rfuse_ok {w : World} {B b g cap : Nat} {lv : Value} {R : RS} (h : RRep w B b g cap lv R) (n : Int) (hn : (Lit.int .i64 n).wf = true) :
    Calls Try.prog 26 #[.pointer (some ⟨b, 0, none⟩), .int .i64 n] w fun e w' => e = .returned (.tuple #[]) ∧ (RRep w' B b g cap lv (R.fuse n) ∧ Fr (RFoot b g lv) w w') := by
  simp [Lit.wf, IntKind.min, IntKind.max, IntKind.signed, IntKind.bits] at hn
  obtain ⟨-, -, -, c3⟩ := h.c
  have f3 := h.f 3
  by_cases hlt : n < -1
  · have hfin := Lib.hid (And.intro (h.setLeft (-1) (by omega) (by omega)) ((Fr.refl (RFoot b g lv) w).setCell (p := ⟨b, 3, none⟩) (Or.inl rfl) (.int .i64 (-1))))
    have hR : Hid (R.fuse n = { R with left := -1 }) := by unfold Hid RS.fuse; rw [if_pos hlt]
    rw [hR.out]
    clear h
    go_enter Try.func26, Try.ntmps26
    go_wp2
    go_end0
    exact ⟨rfl, hfin.out⟩
  · have hfin := Lib.hid (And.intro (h.setLeft n (by omega) (by omega)) ((Fr.refl (RFoot b g lv) w).setCell (p := ⟨b, 3, none⟩) (Or.inl rfl) (.int .i64 n)))
    have hR : Hid (R.fuse n = { R with left := n }) := by unfold Hid RS.fuse; rw [if_neg hlt]
    rw [hR.out]
    clear h
    go_enter Try.func26, Try.ntmps26
    go_wp2
    go_end0
    exact ⟨rfl, hfin.out⟩
end Go.Proofs.Ytpkhddnehhophaa
