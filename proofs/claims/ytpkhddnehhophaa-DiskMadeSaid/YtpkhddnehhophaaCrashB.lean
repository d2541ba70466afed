/- What Crash of package disk does to a disk that lies in memory; what Write does without a fuse's writes, and where the disk is down. -/
import Derived.Test.YtpkhddnehhophaaCrash
namespace Go.Proofs.Ytpkhddnehhophaa
open Go.RowKit
set_option linter.unusedVariables false

/-- Behind a Crash that keeps the numbers zs. -/
def DS.crash (D : DS) (zs : List Int) : DS :=
  { n := D.n, firm := kept1 D.loose (marked zs) D.firm (List.finRange D.loose.length), now := fun i => if ∃ x ∈ D.loose, x.1 = i then kept1 D.loose (marked zs) D.firm (List.finRange D.loose.length) i else D.now i, loose := [], fuse := -1, down := false }

theorem crash_ok {w : World} {B b bs : Nat} {lv : Value} {D : DS} (h : Rep w B b bs lv D) (p : Option Addr) (zs : List Int) (hzl : zs.length ≤ 9223372036854775807) (c : Nat)
    (hp : Hid (∀ j (h : j < zs.length), ∃ g off, p = some ⟨g, off, none⟩ ∧ w.cell? ⟨g, off + j, none⟩ = some (.int .i64 zs[j]))) :
    Calls Try.prog 18 #[.pointer (some ⟨b, 0, none⟩), .slice p zs.length c] w fun e w' => e = .returned (.tuple #[]) ∧ (Rep w' B b bs (.slice none 0 0) (D.crash zs) ∧ Fr (Foot b bs lv) w w') := by
  refine crash_walk h p zs hzl c hp _ ?_
  rintro W hf hb ⟨cur, hc, hS⟩
  rw [firmed_finRange] at hS
  exact ⟨⟨h.hb, h.hbs, hb, h.hn, ⟨cur, hc, hS⟩, World.ownsRow_nil _ _ _ _, by simp [DS.crash], by simp [DS.crash], by simp [DS.crash, Lit.wf, IntKind.min, IntKind.max, IntKind.signed, IntKind.bits]⟩, hf.mono (fun k _ hk => by rcases hk with rfl | rfl; exact Or.inr (Or.inl rfl); exact Or.inl rfl)⟩

theorem kept1_none (loose : List (Nat × List UInt8)) (kp : Nat → Bool) (i : Nat) : ∀ (pre : List (Fin loose.length)) (firm : Nat → List UInt8), (∀ x ∈ pre, kp x.1 = true → loose[x].1 ≠ i) → kept1 loose kp firm pre i = firm i := by
  intro pre
  induction pre with
  | nil => intro firm _; rfl
  | cons x pre ih =>
    intro firm hx
    have h1 : kept1 loose kp firm (x :: pre) = kept1 loose kp (if kp x.1 then upd firm loose[x].1 loose[x].2 else firm) pre := rfl
    rw [h1, ih _ (fun y hy => hx y (List.mem_cons_of_mem _ hy))]
    by_cases hk : kp x.1 = true
    · rw [if_pos hk]
      unfold upd
      rw [if_neg (Ne.symm (hx x List.mem_cons_self hk))]
    · rw [if_neg hk]

theorem kept1_one (loose : List (Nat × List UInt8)) (kp : Nat → Bool) (i : Nat) (s : List UInt8) : ∀ (pre : List (Fin loose.length)) (firm : Nat → List UInt8), (∀ x ∈ pre, kp x.1 = true → loose[x].1 = i → loose[x].2 = s) → (firm i = s ∨ ∃ x ∈ pre, kp x.1 = true ∧ loose[x].1 = i) → kept1 loose kp firm pre i = s := by
  intro pre
  induction pre with
  | nil =>
    intro firm _ h
    rcases h with h | ⟨x, hx, _⟩
    · exact h
    · cases hx
  | cons x pre ih =>
    intro firm hx h
    have h1 : kept1 loose kp firm (x :: pre) = kept1 loose kp (if kp x.1 then upd firm loose[x].1 loose[x].2 else firm) pre := rfl
    rw [h1]
    refine ih _ (fun y hy => hx y (List.mem_cons_of_mem _ hy)) ?_
    by_cases hk : kp x.1 = true ∧ loose[x].1 = i
    · left
      rw [if_pos hk.1]
      unfold upd
      rw [if_pos hk.2.symm]
      exact hx x List.mem_cons_self hk.1 hk.2
    · rcases h with h | ⟨y, hy, hy1, hy2⟩
      · left
        by_cases hk1 : kp x.1 = true
        · rw [if_pos hk1]
          unfold upd
          rw [if_neg (fun e => hk ⟨hk1, e.symm⟩)]
          exact h
        · rw [if_neg hk1]; exact h
      · right
        rcases List.mem_cons.1 hy with rfl | hy
        · exact (hk ⟨hy1, hy2⟩).elim
        · exact ⟨y, hy, hy1, hy2⟩

set_option maxHeartbeats 400000 in
theorem write_down {w : World} {B b bs : Nat} {lv : Value} {D : DS} (h : Rep w B b bs lv D) (hd : D.down = true) (i : Int) (s : ByteArray) :
    Calls Try.prog 15 #[.pointer (some ⟨b, 0, none⟩), .int .i64 i, .string s] w fun e w' => e = .returned (.int .i64 7) ∧ w = w' := by
  obtain ⟨-, -, -, c3⟩ := h.c
  rw [hd] at c3
  clear h hd
  go_enter Try.func15, Try.ntmps15
  go_wp2
  go_ret
  exact ⟨rfl, rfl⟩

set_option maxHeartbeats 400000 in
theorem write_burnt {w : World} {B b bs : Nat} {lv : Value} {D : DS} (h : Rep w B b bs lv D) (hd : D.down = false) (hf : D.fuse = 0) (i : Int) (h0 : 0 ≤ i) (h1 : i < D.n) (s : ByteArray) (hs : s.size = 64) :
    Calls Try.prog 15 #[.pointer (some ⟨b, 0, none⟩), .int .i64 i, .string s] w fun e w' => e = .returned (.int .i64 7) ∧ (Rep w' B b bs lv { D with down := true } ∧ Fr (Foot b bs lv) w w') := by
  obtain ⟨c0, -, c2, c3⟩ := h.c
  rw [hd] at c3
  rw [hf] at c2
  have f3 := h.f 3
  have K := has_yes b bs D.n D.n i w h0 h1 c0
  have hs1 : ((s.size : Int) != 64) = false := by simp; omega
  have hfin : Hid (Rep (w.setCell ⟨b, 3, none⟩ (.bool true)) B b bs lv { D with down := true } ∧ Fr (Foot b bs lv) w (w.setCell ⟨b, 3, none⟩ (.bool true))) := by
    have hne := h.ne
    obtain ⟨cur, hg, hS⟩ := h.hs
    refine ⟨⟨h.hb, h.hbs, ?_, h.hn, ⟨cur, (Below.heap_setCell w ⟨b, 3, none⟩ _ bs hne.1).trans hg, hS⟩, ?_, h.hx, h.hm, h.hf⟩, (Fr.refl _ w).setCell (p := ⟨b, 3, none⟩) (Or.inl rfl) _⟩
    · rw [heap_setCell_same w b 3 _ 62 _ h.hd]; rfl
    · exact h.hl.kept (row := some b) ⟨rfl, rfl, rfl, by simp [World.setCell], fun k _ hk => Below.heap_setCell _ _ _ _ (fun e => hk (by rw [e]))⟩ (Or.inr hne.2.1)
  clear h hd hf hs h0 h1
  go_enter Try.func15, Try.ntmps15
  go_wp2_with (go_at_call 30; refine K.mono ?_; clear K; rintro e w' ⟨rfl, rfl⟩)
  go_ret
  exact ⟨rfl, hfin.out⟩

theorem Rep.fuse {w : World} {B b bs : Nat} {lv : Value} {D : DS} (h : Rep w B b bs lv D) (n : Int) (hn : (Lit.int .i64 n).wf = true) : Rep (w.setCell ⟨b, 2, none⟩ (.int .i64 n)) B b bs lv { D with fuse := n } ∧ Fr (Foot b bs lv) w (w.setCell ⟨b, 2, none⟩ (.int .i64 n)) := by
  have hne := h.ne
  obtain ⟨cur, hg, hS⟩ := h.hs
  refine ⟨⟨h.hb, h.hbs, ?_, h.hn, ⟨cur, (Below.heap_setCell w ⟨b, 2, none⟩ _ bs hne.1).trans hg, hS⟩, ?_, h.hx, h.hm, hn⟩, (Fr.refl _ w).setCell (p := ⟨b, 2, none⟩) (Or.inl rfl) _⟩
  · rw [heap_setCell_same w b 2 _ 62 _ h.hd]; rfl
  · exact h.hl.kept (row := some b) ⟨rfl, rfl, rfl, by simp [World.setCell], fun k _ hk => Below.heap_setCell _ _ _ _ (fun e => hk (by rw [e]))⟩ (Or.inr hne.2.1)
end Go.Proofs.Ytpkhddnehhophaa
