/- Both disks side by side: what is asked of both is told alike. No condition but what each law names. -/
import Derived.Test.YtpkhddnehhophaaRefE
namespace Go.Proofs.Ytpkhddnehhophaa
open Go.RowKit
set_option linter.unusedVariables false

set_option maxHeartbeats 400000 in
theorem write_arg {w : World} {B b bs : Nat} {lv : Value} {D : DS} (h : Rep w B b bs lv D) (hd : D.down = false) (i : Int) (s : ByteArray) (hi : (i < 0 ∨ (D.n : Int) ≤ i) ∨ (0 ≤ i ∧ i < D.n ∧ ((s.size : Int) != 64) = true)) :
    Calls Try.prog 15 #[.pointer (some ⟨b, 0, none⟩), .int .i64 i, .string s] w fun e w' => e = .returned (.int .i64 1) ∧ w = w' := by
  obtain ⟨c0, -, -, c3⟩ := h.c
  rw [hd] at c3
  rcases hi with hi | ⟨h0, h1, h2⟩
  · have K := has_no b bs D.n D.n i w hi c0
    clear h hd hi
    go_enter Try.func15, Try.ntmps15
    go_wp2_with (go_at_call 30; refine K.mono ?_; clear K; rintro e w' ⟨rfl, rfl⟩)
    go_ret
    exact ⟨rfl, rfl⟩
  · have K := has_yes b bs D.n D.n i w h0 h1 c0
    clear h hd h0 h1
    go_enter Try.func15, Try.ntmps15
    go_wp2_with (go_at_call 30; refine K.mono ?_; clear K; rintro e w' ⟨rfl, rfl⟩)
    go_ret
    exact ⟨rfl, rfl⟩

/-- The document's disk and the program's hold the same. -/
structure Tie (D : DS) (R : RS) : Prop where
  n : D.n = R.n
  lo : D.loose = R.loose
  dn : D.down = R.down
  fi : D.firm = R.firm
  nw : D.now = lastOf D.loose D.firm
  le : R.left = if D.fuse < 0 then -1 else D.fuse

theorem Tie.new (n : Nat) : Tie (DS.new n) (RS.new n) := ⟨rfl, rfl, rfl, rfl, rfl, rfl⟩
theorem Tie.write {D : DS} {R : RS} (h : Tie D R) (hf : D.fuse ≠ 0) (i : Nat) (s : List UInt8) : Tie (D.write i s) (R.write i s) := by
  refine ⟨h.n, by show D.loose ++ _ = R.loose ++ _; rw [h.lo], h.dn, h.fi, ?_, ?_⟩
  · show upd D.now i s = lastOf (D.loose ++ [(i, s)]) D.firm
    rw [lastOf_snoc, h.nw]
  · show lessLeft R.left = if (if 0 < D.fuse then D.fuse - 1 else D.fuse) < 0 then -1 else if 0 < D.fuse then D.fuse - 1 else D.fuse
    rw [h.le]
    unfold lessLeft
    by_cases h1 : D.fuse < 0
    · rw [if_pos h1, if_neg (by omega), if_neg (show ¬ 0 < D.fuse by omega), if_pos h1]
    · rw [if_neg h1, if_pos (by omega), if_pos (show 0 < D.fuse by omega), if_neg (by omega)]
theorem Tie.down {D : DS} {R : RS} (h : Tie D R) (d : Bool) : Tie { D with down := d } { R with down := d } := ⟨h.n, h.lo, rfl, h.fi, h.nw, h.le⟩
theorem keptZ_all (l : List (Nat × List UInt8)) (f : Nat → List UInt8) : keptZ l (fun _ => true) f = lastOf l f := by
  rw [← kept1_Z]; exact kept1_every _ _ _ (fun _ _ => rfl)
theorem Tie.flush {D : DS} {R : RS} (h : Tie D R) : Tie D.flush (R.firmed fun _ => true) := by
  have e : D.flush.firm = lastOf D.loose D.firm := by
    funext i
    show (if ∃ x ∈ D.loose, x.1 = i then D.now i else D.firm i) = _
    rw [h.nw]
    split
    · rfl
    · rename_i hx
      rw [lastOf_none _ _ _ (fun x h1 h2 => hx ⟨x, h1, h2⟩)]
  refine ⟨h.n, rfl, h.dn, ?_, ?_, h.le⟩
  · rw [e]
    show _ = keptZ R.loose (fun _ => true) R.firm
    rw [keptZ_all, h.lo, h.fi]
  · show D.now = D.flush.firm
    rw [e, h.nw]
theorem Tie.fuse {D : DS} {R : RS} (h : Tie D R) (n : Int) : Tie { D with fuse := n } (R.fuse n) := by
  refine ⟨h.n, h.lo, h.dn, h.fi, h.nw, ?_⟩
  show (if n < -1 then -1 else n) = if n < 0 then -1 else n
  by_cases h1 : n < -1
  · rw [if_pos h1, if_pos (by omega)]
  · rw [if_neg h1]
    by_cases h2 : n < 0
    · rw [if_pos h2]; omega
    · rw [if_neg h2]
theorem Tie.crash {D : DS} {R : RS} (h : Tie D R) (zs : List Int) : Tie (D.crash zs) (R.crash zs) := by
  have e : (D.crash zs).firm = keptZ D.loose (marked zs) D.firm := kept1_Z _ _ _
  refine ⟨h.n, rfl, rfl, ?_, ?_, rfl⟩
  · rw [e]
    show _ = keptZ R.loose (marked zs) R.firm
    rw [h.lo, h.fi]
  · show (D.crash zs).now = (D.crash zs).firm
    rw [e]
    funext i
    show (if ∃ x ∈ D.loose, x.1 = i then kept1 D.loose (marked zs) D.firm (List.finRange D.loose.length) i else D.now i) = _
    rw [kept1_Z, h.nw]
    split
    · rfl
    · rename_i hx
      rw [lastOf_none _ _ _ (fun x h1 h2 => hx ⟨x, h1, h2⟩), kept1_lost _ _ _ _ (fun x h1 h2 => hx ⟨x, h1, h2⟩)]
theorem Tie.turn {D : DS} {R : RS} (h : Tie D R) (hl : D.loose = []) (i k v : Nat) : Tie { D with firm := upd D.firm i ((D.firm i).set k ((D.firm i).getD k 0 ^^^ UInt8.ofNat v)), now := upd D.now i ((D.firm i).set k ((D.firm i).getD k 0 ^^^ UInt8.ofNat v)) } (R.turn i k v) := by
  refine ⟨h.n, h.lo, h.dn, ?_, ?_, h.le⟩
  · show upd D.firm i _ = upd R.firm i (turned (R.firm i) k v)
    rw [h.fi]; rfl
  · show upd D.now i _ = lastOf D.loose (upd D.firm i _)
    rw [h.nw, hl]; rfl

/-- What a call of both may have changed: rows of the disks' own kinds, from block N on. -/
def Ch (N : Nat) (W : World) (k : Nat) : Prop := N ≤ k ∧ ∃ cs t fr, W.heap[k]? = some (.cells cs t fr) ∧ (t = 62 ∨ t = 69 ∨ t = 67 ∨ t = 58 ∨ t = 9 ∨ t = 77)
theorem Rep.ty {w : World} {B b bs : Nat} {lv : Value} {D : DS} (h : Rep w B b bs lv D) (k : Nat) (hk : Foot b bs lv k) : B ≤ k ∧ ∃ cs t fr, w.heap[k]? = some (.cells cs t fr) ∧ (t = 62 ∨ t = 69 ∨ t = 67) := by
  rcases hk with rfl | rfl | hk
  · exact ⟨h.hb, _, _, _, h.hd, Or.inl rfl⟩
  · obtain ⟨cur, hg, -⟩ := h.hs
    exact ⟨h.hbs, _, _, _, hg, Or.inr (Or.inl rfl)⟩
  · refine ⟨(h.hl.lt k hk).1, ?_⟩
    rcases h.hl.2 with ⟨rfl, -⟩ | ⟨g3, c3, cur3, rfl, -, hh, -⟩
    · simp [Value.ownBlock] at hk
    · simp [Value.ownBlock] at hk; subst hk; exact ⟨_, _, _, hh, Or.inr (Or.inr rfl)⟩
theorem RRep.ty {w : World} {B b g cap : Nat} {lv : Value} {R : RS} (h : RRep w B b g cap lv R) (k : Nat) (hk : RFoot b g lv k) : B ≤ k ∧ ∃ cs t fr, w.heap[k]? = some (.cells cs t fr) ∧ (t = 58 ∨ t = 9 ∨ t = 77) := by
  refine ⟨(h.lt k hk).2, ?_⟩
  rcases hk with rfl | rfl | hk
  · exact ⟨_, _, _, h.hd, Or.inl rfl⟩
  · rcases h.hf.2 with ⟨hv, _⟩ | ⟨g2, c2, cur, hv, _, hg, _⟩
    · cases hv
    · cases hv; exact ⟨_, _, _, hg, Or.inr (Or.inl rfl)⟩
  · rcases h.hl.2 with ⟨rfl, -⟩ | ⟨g3, c3, cur3, rfl, -, hh, -⟩
    · simp [Value.ownBlock] at hk
    · simp [Value.ownBlock] at hk; subst hk; exact ⟨_, _, _, hh, Or.inr (Or.inr rfl)⟩
theorem apartR {w : World} {B b bs : Nat} {lv : Value} {D : DS} {B2 rb rg rc : Nat} {rlv : Value} {R : RS} (h : Rep w B b bs lv D) (r : RRep w B2 rb rg rc rlv R) : ∀ k, Foot b bs lv k → ¬ RFoot rb rg rlv k := by
  intro k hk hr
  obtain ⟨-, cs, t, fr, h1, h2⟩ := h.ty k hk
  obtain ⟨-, cs', t', fr', h3, h4⟩ := r.ty k hr
  rw [h1] at h3
  simp only [Option.some.injEq, Obj.cells.injEq] at h3
  obtain ⟨-, rfl, -⟩ := h3
  rcases h2 with rfl | rfl | rfl <;> simp at h4
theorem Rep.ch {w : World} {B b bs : Nat} {lv : Value} {D : DS} (h : Rep w B b bs lv D) (k : Nat) (hk : Foot b bs lv k) : Ch B w k := by
  obtain ⟨h0, cs, t, fr, h1, h2⟩ := h.ty k hk
  exact ⟨h0, cs, t, fr, h1, by rcases h2 with rfl | rfl | rfl <;> simp⟩
theorem RRep.ch {w : World} {B b g cap : Nat} {lv : Value} {R : RS} (h : RRep w B b g cap lv R) (k : Nat) (hk : RFoot b g lv k) : Ch B w k := by
  obtain ⟨h0, cs, t, fr, h1, h2⟩ := h.ty k hk
  exact ⟨h0, cs, t, fr, h1, by rcases h2 with rfl | rfl | rfl <;> simp⟩
theorem Fr.chTrans {N : Nat} {W W1 W2 : World} (h : Fr (Ch N W) W W1) (k : Fr (Ch N W1) W1 W2) : Fr (Ch N W) W W2 := by
  refine ⟨k.os.trans h.os, k.tape.trans h.tape, k.output.trans h.output, Nat.le_trans h.size k.size, fun j hj hS => ?_⟩
  have e := h.block j hj hS
  refine (k.block j (Nat.lt_of_lt_of_le hj h.size) ?_).trans e
  rintro ⟨h0, cs, t, fr, h1, h2⟩
  exact hS ⟨h0, cs, t, fr, by rw [← e]; exact h1, h2⟩
theorem Fr.chNew {N : Nat} {W W1 : World} (h : Fr (Ch N W) W W1) : Fr (fun k => N ≤ k) W W1 := h.mono (fun _ _ hk => hk.1)

/-- Both disks, alike, with at most q loose writes. -/
def Two (N b rb q n : Nat) (w : World) : Prop := ∃ bs lv rg rc rlv D R, Rep w N b bs lv D ∧ RRep w N rb rg rc rlv R ∧ Tie D R ∧ D.n = n ∧ D.loose.length ≤ q
theorem Two.kept {N b rb q n : Nat} {w w' : World} (h : Two N b rb q n w) {S : Nat → Prop} (hf : Fr S w w') (hS : ∀ k, Ch N w k → ¬ S k) : Two N b rb q n w' := by
  obtain ⟨bs, lv, rg, rc, rlv, D, R, h1, h2, h3, h4, h5⟩ := h
  exact ⟨bs, lv, rg, rc, rlv, D, R, h1.kept hf (fun k hk => hS k (h1.ch k hk)), h2.kept hf (fun k hk => hS k (h2.ch k hk)), h3, h4, h5⟩
theorem Two.none {N b rb q n : Nat} {w w' : World} (h : Two N b rb q n w) (hf : Fr (fun _ => False) w w') : Two N b rb q n w' := h.kept hf (fun _ _ => id)
theorem Two.more {N b rb q q2 n : Nat} {w : World} (h : Two N b rb q n w) (hq : q ≤ q2) : Two N b rb q2 n w := by
  obtain ⟨bs, lv, rg, rc, rlv, D, R, h1, h2, h3, h4, h5⟩ := h
  exact ⟨bs, lv, rg, rc, rlv, D, R, h1, h2, h3, h4, by omega⟩

/-- A call of the program's disk, and the same of the document's behind it: they tell the same, and then both are alike. -/
def Both (N b rb q n : Nat) (f g : FuncId) (args : List Value) (W : World) (v : Value) : Prop := ∃ P1 : World → Prop,
  (Calls Try.prog f (.pointer (some ⟨b, 0, none⟩) :: args).toArray W fun e w' => e = .returned v ∧ P1 w' ∧ Fr (Ch N W) W w') ∧
  ∀ W1, P1 W1 → Calls Try.prog g (.pointer (some ⟨rb, 0, none⟩) :: args).toArray W1 fun e w' => e = .returned v ∧ Two N b rb q n w' ∧ Fr (Ch N W1) W1 w'

/-- Both steps, put together out of what each does. -/
theorem both_mk {N b rb q2 n : Nat} {f g : FuncId} {args : List Value} {W : World} {v : Value} {bs : Nat} {lv : Value} {rg rc : Nat} {rlv : Value} {D : DS} {R : RS}
    (h1 : Rep W N b bs lv D) (h2 : RRep W N rb rg rc rlv R) (D' : DS) (R' : RS) (ht : Tie D' R') (hn : D'.n = n) (hl : D'.loose.length ≤ q2)
    (hA : Calls Try.prog f (.pointer (some ⟨b, 0, none⟩) :: args).toArray W fun e w' => e = .returned v ∧ (∃ lv', Rep w' N b bs lv' D') ∧ Fr (Foot b bs lv) W w')
    (hB : ∀ W1, RRep W1 N rb rg rc rlv R → N ≤ W1.heap.size → Calls Try.prog g (.pointer (some ⟨rb, 0, none⟩) :: args).toArray W1 fun e w' => e = .returned v ∧ (∃ rlv', RRep w' N rb rg rc rlv' R') ∧ Fr (RFoot rb rg rlv) W1 w') :
    Both N b rb q2 n f g args W v := by
  refine ⟨fun w1 => (∃ lv', Rep w1 N b bs lv' D') ∧ RRep w1 N rb rg rc rlv R, hA.mono ?_, ?_⟩
  · rintro e w1 ⟨he, hr, hf⟩
    exact ⟨he, ⟨hr, h2.kept hf (fun k hk hk2 => apartR h1 h2 k hk2 hk)⟩, hf.mono (fun k _ hk => h1.ch k hk)⟩
  · rintro W1 ⟨⟨lv', hr⟩, hr2⟩
    have hsz : N ≤ W1.heap.size := by have := hr.hb; have := (Array.getElem?_eq_some_iff.1 hr.hd).1; omega
    refine (hB W1 hr2 hsz).mono ?_
    rintro e w2 ⟨he, ⟨rlv', hr3⟩, hf⟩
    exact ⟨he, ⟨bs, lv', rg, rc, rlv', D', R', hr.kept hf (fun k hk => apartR hr hr2 k hk), hr3, ht, hn, hl⟩, hf.mono (fun k _ hk => hr2.ch k hk)⟩
/-- .. where nothing is changed. -/
theorem both_same {N b rb q n : Nat} {f g : FuncId} {args : List Value} {W : World} {v : Value} (h : Two N b rb q n W)
    (hA : Calls Try.prog f (.pointer (some ⟨b, 0, none⟩) :: args).toArray W fun e w' => e = .returned v ∧ W = w')
    (hB : Calls Try.prog g (.pointer (some ⟨rb, 0, none⟩) :: args).toArray W fun e w' => e = .returned v ∧ W = w') : Both N b rb q n f g args W v := by
  refine ⟨fun w1 => W = w1, hA.mono ?_, ?_⟩
  · rintro e w1 ⟨he, rfl⟩
    exact ⟨he, rfl, Fr.refl _ _⟩
  · rintro W1 rfl
    refine hB.mono ?_
    rintro e w1 ⟨he, rfl⟩
    exact ⟨he, h, Fr.refl _ _⟩
end Go.Proofs.Ytpkhddnehhophaa
