/- The document's disk as it lies in memory: what it holds, what Read tells of it. No condition but what each law names. -/
import Derived.Test.YtpkhddnehhophaaKeepsA

namespace Go.Proofs.Ytpkhddnehhophaa
open Go.RowKit
set_option linter.unusedVariables false

/-- What the document's disk holds. -/
structure RS where
  n : Nat
  firm : Nat → List UInt8
  loose : List (Nat × List UInt8)
  down : Bool
  left : Int

def strs (n : Nat) (f : Nat → List UInt8) : List Value := (List.range n).map fun i => .string ⟨(f i).toArray⟩
theorem strs_length (n : Nat) (f : Nat → List UInt8) : (strs n f).length = n := by simp [strs]
theorem strs_get (n : Nat) (f : Nat → List UInt8) (i : Nat) (h : i < n) : (strs n f)[i]? = some (.string ⟨(f i).toArray⟩) := by
  unfold strs
  rw [List.getElem?_map, List.getElem?_range h]; rfl
theorem strs_succ (n : Nat) (f : Nat → List UInt8) : strs (n + 1) f = strs n f ++ [.string ⟨(f n).toArray⟩] := by simp [strs, List.range_succ]
theorem strs_upd (n : Nat) (f : Nat → List UInt8) (i : Nat) (s : List UInt8) (h : i < n) : (strs n f).set i (.string ⟨s.toArray⟩) = strs n (upd f i s) := by
  apply List.ext_getElem?
  intro j
  rw [List.getElem?_set]
  by_cases hj : j < n
  · rw [strs_get _ _ _ hj, strs_get _ _ _ hj, strs_length]
    unfold upd
    by_cases e : i = j
    · rw [if_pos e, if_pos h, if_pos e.symm]
    · rw [if_neg e, if_neg (fun e2 => e e2.symm)]
  · rw [List.getElem?_eq_none (l := strs n (upd f i s)) (by rw [strs_length]; omega), if_neg (by omega), List.getElem?_eq_none (by rw [strs_length]; omega)]
def rcells (l : List (Nat × List UInt8)) : List Value := l.flatMap fun x => [.int .i64 (x.1 : Int), .string ⟨x.2.toArray⟩]
theorem rcells_snoc (l : List (Nat × List UInt8)) (i : Nat) (s : List UInt8) : rcells (l ++ [(i, s)]) = rcells l ++ [.int .i64 (i : Int), .string ⟨s.toArray⟩] := by simp [rcells]
theorem rcells_get (l : List (Nat × List UInt8)) : ∀ (k : Nat) (hk : k < l.length), (rcells l)[k * 2]? = some (.int .i64 (l[k].1 : Int)) ∧ (rcells l)[k * 2 + 1]? = some (.string ⟨(l[k].2).toArray⟩) := by
  induction l with
  | nil => intro k hk; simp at hk
  | cons x l ih =>
    intro k hk
    have e : rcells (x :: l) = .int .i64 (x.1 : Int) :: .string ⟨x.2.toArray⟩ :: rcells l := rfl
    cases k with
    | zero => rw [e]; exact ⟨rfl, rfl⟩
    | succ k =>
      have h := ih k (by simpa using hk)
      rw [e, show (k + 1) * 2 = k * 2 + 1 + 1 by omega]
      exact h

/-- The document's disk lies at block b, its firm texts at g, its loose writes at lv; all of them at B or beyond. -/
structure RRep (w : World) (B b g cap : Nat) (lv : Value) (R : RS) : Prop where
  hb : B ≤ b
  hd : w.heap[b]? = some (.cells #[.slice (some ⟨g, 0, none⟩) R.n cap, lv, .bool R.down, .int .i64 R.left] 58 (0, 0))
  hn : R.n ≤ 4096
  hf : w.ownsRow B 9 1 (.slice (some ⟨g, 0, none⟩) R.n cap) R.n (strs R.n R.firm)
  hl : w.ownsRow B 77 2 lv R.loose.length (rcells R.loose)
  hx : ∀ x ∈ R.loose, x.1 < R.n
  hm : R.loose.length ≤ 1000000
  h0 : -1 ≤ R.left
  h1 : R.left ≤ 9223372036854775807

def RFoot (b g : Nat) (lv : Value) (k : Nat) : Prop := k = b ∨ k = g ∨ lv.ownBlock = some k

theorem RRep.c {w : World} {B b g cap : Nat} {lv : Value} {R : RS} (h : RRep w B b g cap lv R) :
    w.cell? ⟨b, 0, none⟩ = some (.slice (some ⟨g, 0, none⟩) R.n cap) ∧ w.cell? ⟨b, 1, none⟩ = some lv ∧ w.cell? ⟨b, 2, none⟩ = some (.bool R.down) ∧ w.cell? ⟨b, 3, none⟩ = some (.int .i64 R.left) := by
  refine ⟨?_, ?_, ?_, ?_⟩ <;> (rw [cell_of_row _ _ _ _ _ _ h.hd]; rfl)
theorem RRep.f {w : World} {B b g cap : Nat} {lv : Value} {R : RS} (h : RRep w B b g cap lv R) (k : Nat) : w.frozen? ⟨b, k, none⟩ = false := frozen_of_row _ _ _ _ _ h.hd
theorem RRep.sl {w : World} {B b g cap : Nat} {lv : Value} {R : RS} (h : RRep w B b g cap lv R) : ∃ p c, lv = .slice p R.loose.length c := by
  rcases h.hl.2 with ⟨rfl, h0⟩ | ⟨g, cap, cur, rfl, _⟩
  · rw [h0]; exact ⟨_, _, rfl⟩
  · exact ⟨_, _, rfl⟩
theorem RRep.at {w : World} {B b g cap : Nat} {lv : Value} {R : RS} (h : RRep w B b g cap lv R) (k : Nat) (hk : k < R.loose.length) : ∃ gl c, lv = .slice (some ⟨gl, 0, none⟩) R.loose.length c ∧ gl < w.heap.size ∧ B ≤ gl ∧
    w.cell? ⟨gl, k * 2, none⟩ = some (.int .i64 (R.loose[k].1 : Int)) ∧ w.cell? ⟨gl, k * 2 + 1, none⟩ = some (.string ⟨(R.loose[k].2).toArray⟩) := by
  have hl := h.hl
  rcases hl.2 with ⟨_, h0⟩ | ⟨gl, c, cur, hv, hB, hg, _⟩
  · omega
  · subst hv
    have h1 := rcells_get R.loose k hk
    refine ⟨gl, c, rfl, (Array.getElem?_eq_some_iff.1 hg).1, hB, ?_, ?_⟩
    · rw [hl.cellAt (k * 2) (by omega)]; exact h1.1
    · rw [hl.cellAt (k * 2 + 1) (by omega)]; exact h1.2
theorem RRep.firmAt {w : World} {B b g cap : Nat} {lv : Value} {R : RS} (h : RRep w B b g cap lv R) (i : Nat) (hi : i < R.n) : w.cell? ⟨g, i, none⟩ = some (.string ⟨(R.firm i).toArray⟩) := by
  rw [h.hf.cellAt i (by omega)]
  exact strs_get _ _ _ hi
theorem RRep.ne {w : World} {B b g cap : Nat} {lv : Value} {R : RS} (h : RRep w B b g cap lv R) : g ≠ b ∧ lv.ownBlock ≠ some b ∧ lv.ownBlock ≠ some g := by
  have hd := h.hd
  obtain ⟨hg, hgF⟩ : ∃ cur, w.heap[g]? = some (.cells cur 9) := by
    rcases h.hf.2 with ⟨hv, _⟩ | ⟨g2, c2, cur, hv, _, hg, _⟩
    · cases hv
    · cases hv; exact ⟨cur, hg⟩
  refine ⟨?_, ?_, ?_⟩
  · rintro rfl; rw [hd] at hgF; simp at hgF
  · intro e
    rcases h.hl.2 with ⟨rfl, -⟩ | ⟨g3, c3, cur3, rfl, -, hh, -⟩
    · simp [Value.ownBlock] at e
    · simp [Value.ownBlock] at e; subst e; rw [hd] at hh; simp at hh
  · intro e
    rcases h.hl.2 with ⟨rfl, -⟩ | ⟨g3, c3, cur3, rfl, -, hh, -⟩
    · simp [Value.ownBlock] at e
    · simp [Value.ownBlock] at e; subst e; rw [hgF] at hh; simp at hh
theorem RRep.lt {w : World} {B b g cap : Nat} {lv : Value} {R : RS} (h : RRep w B b g cap lv R) : ∀ k, RFoot b g lv k → k < w.heap.size ∧ B ≤ k := by
  rintro k (rfl | rfl | hk)
  · exact ⟨(Array.getElem?_eq_some_iff.1 h.hd).1, h.hb⟩
  · have := h.hf.lt k rfl; exact ⟨this.2, this.1⟩
  · have := h.hl.lt k hk; exact ⟨this.2, this.1⟩
theorem RRep.kept {w w' : World} {B b g cap : Nat} {lv : Value} {R : RS} (h : RRep w B b g cap lv R) {S : Nat → Prop} (hf : Fr S w w') (hS : ∀ k, RFoot b g lv k → ¬ S k) : RRep w' B b g cap lv R := by
  have hbN : b < w.heap.size := (Array.getElem?_eq_some_iff.1 h.hd).1
  exact ⟨h.hb, (hf.block b hbN (hS _ (Or.inl rfl))).trans h.hd, h.hn, own_fr h.hf hf (fun k hk => hS k (Or.inr (Or.inl (by cases hk; rfl)))), own_fr h.hl hf (fun k hk => hS k (Or.inr (Or.inr hk))), h.hx, h.hm, h.h0, h.h1⟩

theorem load54 (w : World) (g : Nat) (x y : Value) (c0 : w.cell? ⟨g, 0, none⟩ = some x) (c1 : w.cell? ⟨g, 1, none⟩ = some y) : (loadVar 54 ⟨g, 0, none⟩).run Try.prog w = .ok (.agg #[x, y]) w := by
  refine run_loadVar_seg w 54 g 0 [x, y] _ (fun j v hv => ?_) Try.underlying54 rfl (by kernel_rfl)
  rcases (show j = 0 ∨ j = 1 ∨ 2 ≤ j by omega) with rfl | rfl | h
  · simp at hv; subst hv; exact c0
  · simp at hv; subst hv; exact c1
  · rw [List.getElem?_eq_none (by simpa using h)] at hv; cases hv
theorem results_cell {fn : Func} {a : Tmp} {t : TypeId} (h : fn.results = #[.cell a t]) (tmps : Array Value) (P : Program) (w : World) (ad : Addr) (ha : tmps.getD a undef = .pointer (some ad)) (v : Value)
    (hl : (loadVar t ad).run P w = .ok v w) : (results fn tmps).run P w = .ok v w := by
  have ha2 : tmps[a]?.getD undef = .pointer (some ad) := by rw [← Array.getD_eq_getD_getElem?]; exact ha
  unfold results
  rw [h]
  simp [Array.mapM_eq_mapM_toList, ha2, asAddr, hl]
theorem text_row (w : World) (x y : Value) : (w.alloc (.cells #[x, y] 54)).cell? ⟨w.heap.size, 0, none⟩ = some x ∧ (w.alloc (.cells #[x, y] 54)).cell? ⟨w.heap.size, 1, none⟩ = some y := by
  refine ⟨?_, ?_⟩ <;> (rw [cell_of_row _ _ _ _ _ _ (heap_alloc_new w _)]; rfl)

set_option maxHeartbeats 400000 in
theorem rread_down {w : World} {B b g cap : Nat} {lv : Value} {R : RS} (h : RRep w B b g cap lv R) (hd : R.down = true) (i : Int) :
    Calls Try.prog 29 #[.pointer (some ⟨b, 0, none⟩), .int .i64 i] w fun e w' => e = .returned (.agg #[.string ⟨#[]⟩, .int .i64 7]) ∧ Fr (fun _ => False) w w' := by
  have h2 := h.kept ((Fr.refl (fun _ => False) w).alloc (.cells #[.string ⟨#[]⟩, .int .i64 0] 54)) (fun _ _ => id)
  have hF := Lib.hid ((Fr.refl (fun _ => False) w).alloc (.cells #[.string ⟨#[]⟩, .int .i64 7] 54))
  obtain ⟨-, -, c2, -⟩ := h2.c
  rw [hd] at c2
  clear h2 h
  go_enter Try.func29, Try.ntmps29
  go_wp2
  exact bodyPost_ret (v := .agg #[.string ⟨#[]⟩, .int .i64 7]) (results_cell rfl _ _ _ ⟨w.heap.size, 0, none⟩ rfl _ (load54 _ _ _ _ (text_row w _ _).1 (text_row w _ _).2)) rfl ⟨rfl, hF.out⟩

set_option maxHeartbeats 400000 in
theorem rread_arg {w : World} {B b g cap : Nat} {lv : Value} {R : RS} (h : RRep w B b g cap lv R) (hd : R.down = false) (i : Int) (hi : i < 0 ∨ (R.n : Int) ≤ i) :
    Calls Try.prog 29 #[.pointer (some ⟨b, 0, none⟩), .int .i64 i] w fun e w' => e = .returned (.agg #[.string ⟨#[]⟩, .int .i64 1]) ∧ Fr (fun _ => False) w w' := by
  have h2 := h.kept ((Fr.refl (fun _ => False) w).alloc (.cells #[.string ⟨#[]⟩, .int .i64 0] 54)) (fun _ _ => id)
  have hF := Lib.hid ((Fr.refl (fun _ => False) w).alloc (.cells #[.string ⟨#[]⟩, .int .i64 1] 54))
  obtain ⟨c0, -, c2, -⟩ := h2.c
  rw [hd] at c2
  have hn := h.hn
  clear h2 h
  by_cases hi0 : i < 0
  · have hd0 : decide (i < 0) = true := by simpa using hi0
    clear hi
    go_enter Try.func29, Try.ntmps29
    go_wp2
    exact bodyPost_ret (v := .agg #[.string ⟨#[]⟩, .int .i64 1]) (results_cell rfl _ _ _ ⟨w.heap.size, 0, none⟩ rfl _ (load54 _ _ _ _ (text_row w _ _).1 (text_row w _ _).2)) rfl ⟨rfl, hF.out⟩
  · have hd0 : decide (i < 0) = false := by simpa using hi0
    have hi1 : (R.n : Int) ≤ i := by omega
    have hd1 : decide ((R.n : Int) ≤ i) = true := by simpa using hi1
    clear hi
    go_enter Try.func29, Try.ntmps29
    go_wp2
    exact bodyPost_ret (v := .agg #[.string ⟨#[]⟩, .int .i64 1]) (results_cell rfl _ _ _ ⟨w.heap.size, 0, none⟩ rfl _ (load54 _ _ _ _ (text_row w _ _).1 (text_row w _ _).2)) rfl ⟨rfl, hF.out⟩

theorem lastOf_take (l : List (Nat × List UInt8)) (f : Nat → List UInt8) (k : Nat) (h : k < l.length) (i : Nat) : lastOf (l.take (k + 1)) f i = if l[k].1 = i then l[k].2 else lastOf (l.take k) f i := by
  rw [List.take_succ_eq_append_getElem h]
  have := lastOf_snoc (l.take k) f l[k].1 l[k].2
  rw [show (l[k].1, l[k].2) = l[k] from rfl] at this
  rw [this]
  unfold upd
  by_cases e : l[k].1 = i
  · rw [if_pos e, if_pos e.symm]
  · rw [if_neg e, if_neg (fun e2 => e e2.symm)]

set_option maxRecDepth 100000 in
set_option maxHeartbeats 1000000 in
theorem rread_ok {w : World} {B b g cap : Nat} {lv : Value} {R : RS} (h : RRep w B b g cap lv R) (hd : R.down = false) (i : Nat) (hi : i < R.n) :
    Calls Try.prog 29 #[.pointer (some ⟨b, 0, none⟩), .int .i64 i] w fun e w' => e = .returned (.agg #[.string ⟨(lastOf R.loose R.firm i).toArray⟩, .int .i64 0]) ∧ Fr (fun _ => False) w w' := by
  have h2 := h.kept ((Fr.refl (fun _ => False) w).alloc (.cells #[.string ⟨#[]⟩, .int .i64 0] 54)) (fun _ _ => id)
  have hF := Lib.hid ((Fr.refl (fun _ => False) w).alloc (.cells #[.string ⟨(lastOf R.loose R.firm i).toArray⟩, .int .i64 0] 54))
  obtain ⟨p, c, hlv⟩ := h2.sl
  obtain ⟨c0, c1, c2, -⟩ := h2.c
  rw [hd] at c2
  rw [hlv] at c1
  have cf := h2.firmAt i hi
  have hm := h2.hm
  have hn := h.hn
  have H2 := Lib.hid h2
  have HL := Lib.hid hlv
  clear h2 hlv h
  have hd0 : decide ((i : Int) < 0) = false := by simp
  have hd1 : decide ((R.n : Int) ≤ (i : Int)) = false := by simp; omega
  go_enter Try.func29, Try.ntmps29
  go_wp2
  go_loop [5, 6] (fun s q => ∃ k : Nat, ∃ l : List UInt8, k ≤ R.loose.length ∧ q = .int .i64 k ∧ s = .string ⟨l.toArray⟩ ∧ Hid (l = lastOf (R.loose.take k) R.firm i)) (fun _ q => R.loose.length - (intOf q).toNat)
  case atStart => exact ⟨0, R.firm i, Nat.zero_le _, rfl, rfl, Lib.hid rfl⟩
  case round =>
    obtain ⟨k, l, hk, rfl, rfl, hl⟩ := hrel
    by_cases hlt : k < R.loose.length
    · obtain ⟨gl, cl, hlv2, hgl, hBl, ca, cb⟩ := H2.out.at k hlt
      have hpe := HL.out.symm.trans hlv2
      simp only [Value.slice.injEq] at hpe
      obtain ⟨rfl, -, rfl⟩ := hpe
      have hs := lastOf_take R.loose R.firm k hlt i
      by_cases e : R.loose[k].1 = i
      · rw [if_pos e] at hs
        rw [e] at ca
        have HS := Lib.hid hs.symm
        clear hs e
        generalize (R.loose[k]).2 = l2 at *
        go_wp2
        go_round
        case rel => exact ⟨k + 1, l2, by omega, by go_num, rfl, HS⟩
        case measure => simp [intOf]; omega
      · rw [if_neg e] at hs
        have HS := Lib.hid (hl.out.trans hs.symm)
        have hne : ((R.loose[k].1 : Int) == (i : Int)) = false := by simp; omega
        clear hs e
        generalize (R.loose[k]).1 = a2 at *
        go_wp2
        go_round
        case rel => exact ⟨k + 1, l, by omega, by go_num, rfl, HS⟩
        case measure => simp [intOf]; omega
    · have hk2 : Hid (l = lastOf R.loose R.firm i) := by
        unfold Hid
        have := hl.out
        rwa [List.take_of_length_le (by omega)] at this
      rw [← hk2.out] at hF
      go_wp2
      refine bodyPost_ret (v := .agg #[.string ⟨l.toArray⟩, .int .i64 0]) (results_cell rfl _ _ _ ⟨w.heap.size, 0, none⟩ rfl _ (load54 _ _ _ _ (text_row w _ _).1 (text_row w _ _).2)) rfl ⟨?_, hF.out⟩
      rw [hk2.out]
end Go.Proofs.Ytpkhddnehhophaa
