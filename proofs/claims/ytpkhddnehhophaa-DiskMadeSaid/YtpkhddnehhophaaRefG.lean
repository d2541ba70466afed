/- What is asked of both disks, command by command. No condition but what each law names. -/
import Derived.Test.YtpkhddnehhophaaRefF
namespace Go.Proofs.Ytpkhddnehhophaa
open Go.RowKit
set_option linter.unusedVariables false

theorem write_both {N b rb q n : Nat} {W : World} (h : Two N b rb q n W) (hq : q < 1000000) (a : Int) (s : ByteArray) : ∃ ec : Int, Both N b rb (q + 1) n 15 24 [.int .i64 a, .string s] W (.int .i64 ec) := by
  have H := h.more (Nat.le_succ q)
  obtain ⟨bs, lv, rg, rc, rlv, D, R, h1, h2, h3, h4, h5⟩ := h
  have hN : N ≤ W.heap.size := by have := h1.hb; have := (Array.getElem?_eq_some_iff.1 h1.hd).1; omega
  cases hd : D.down with
  | true => exact ⟨7, both_same H (write_down h1 hd a s) (rwrite_down h2 (by rw [← h3.dn]; exact hd) a s)⟩
  | false =>
    have hd2 : R.down = false := by rw [← h3.dn]; exact hd
    have hn := h3.n
    by_cases g1 : a < 0
    · exact ⟨1, both_same H (write_arg h1 hd a s (Or.inl (Or.inl g1))) (rwrite_arg h2 hd2 a s (Or.inl (by simpa using g1)))⟩
    · by_cases g2 : (D.n : Int) ≤ a
      · exact ⟨1, both_same H (write_arg h1 hd a s (Or.inl (Or.inr g2))) (rwrite_arg h2 hd2 a s (Or.inr (Or.inl ⟨by simpa using g1, by rw [← hn]; simpa using g2⟩)))⟩
      · by_cases g3 : s.size = 64
        · obtain ⟨i, rfl⟩ := Int.eq_ofNat_of_zero_le (show 0 ≤ a by omega)
          have hi : i < D.n := by omega
          have hi2 : i < R.n := by omega
          by_cases g4 : D.fuse = 0
          · have g5 : R.left = 0 := by rw [h3.le, g4]; rfl
            refine ⟨7, both_mk h1 h2 { D with down := true } { R with down := true } (h3.down true) h4 (by show D.loose.length ≤ _; omega) ?_ ?_⟩
            · refine (write_burnt h1 hd g4 i (by omega) (by omega) s g3).mono ?_
              rintro e w' ⟨he, hr, hf⟩
              exact ⟨he, ⟨lv, hr⟩, hf⟩
            · intro W1 r1 hN1
              refine (rwrite_burnt r1 hd2 g5 i hi2 s g3).mono ?_
              rintro e w' ⟨he, hr, hf⟩
              exact ⟨he, ⟨rlv, hr⟩, hf⟩
          · have g5 : R.left ≠ 0 := by
              rw [h3.le]
              by_cases h0 : D.fuse < 0
              · rw [if_pos h0]; omega
              · rw [if_neg h0]; exact g4
            refine ⟨0, both_mk h1 h2 (D.write i s.data.toList) (R.write i s.data.toList) (h3.write g4 i _) h4 (by show (D.loose ++ [(i, _)]).length ≤ _; rw [List.length_append]; simp; omega) ?_ ?_⟩
            · refine (write_ok h1 hd g4 i hi s g3 (by omega) hN).mono ?_
              rintro e w' ⟨he, lv', hr, hf, -⟩
              exact ⟨he, ⟨lv', hr⟩, hf⟩
            · intro W1 r1 hN1
              refine (rwrite_ok r1 hd2 g5 i hi2 s g3 (by rw [← h3.lo]; omega) hN1).mono ?_
              rintro e w' ⟨he, ⟨rl, hr⟩, hf⟩
              exact ⟨he, ⟨rl, hr⟩, hf⟩
        · have e3 : ((s.size : Int) != 64) = true := by rw [bne_iff_ne]; omega
          exact ⟨1, both_same H (write_arg h1 hd a s (Or.inr ⟨by omega, by omega, e3⟩)) (rwrite_arg h2 hd2 a s (Or.inr (Or.inr ⟨by simpa using g1, by rw [← hn]; simpa using g2, e3⟩)))⟩

theorem flush_both {N b rb q n : Nat} {W : World} (h : Two N b rb q n W) : ∃ ec : Int, Both N b rb (q + 1) n 16 25 [] W (.int .i64 ec) := by
  have H := h.more (Nat.le_succ q)
  obtain ⟨bs, lv, rg, rc, rlv, D, R, h1, h2, h3, h4, h5⟩ := h
  cases hd : D.down with
  | true => exact ⟨7, both_same H (flush_down h1 hd) (rflush_down h2 (by rw [← h3.dn]; exact hd))⟩
  | false =>
    refine ⟨0, both_mk h1 h2 D.flush (R.firmed fun _ => true) h3.flush h4 (by show (0 : Nat) ≤ _; omega) ?_ ?_⟩
    · refine (flush_ok h1 hd).mono ?_
      rintro e w' ⟨he, hr, hf⟩
      exact ⟨he, ⟨_, hr⟩, hf⟩
    · intro W1 r1 hN1
      refine (rflush_ok r1 (by rw [← h3.dn]; exact hd)).mono ?_
      rintro e w' ⟨he, hr, hf⟩
      exact ⟨he, ⟨_, hr⟩, hf⟩

theorem fuse_both {N b rb q n : Nat} {W : World} (h : Two N b rb q n W) (m : Int) (hm : (Lit.int .i64 m).wf = true) : Both N b rb (q + 1) n 20 26 [.int .i64 m] W (.tuple #[]) := by
  obtain ⟨bs, lv, rg, rc, rlv, D, R, h1, h2, h3, h4, h5⟩ := h
  refine both_mk h1 h2 { D with fuse := m } (R.fuse m) (h3.fuse m) h4 (by show D.loose.length ≤ _; omega) ?_ ?_
  · refine (fuse_ok h1 m).mono ?_
    rintro e w' ⟨he, rfl⟩
    have := h1.fuse m hm
    exact ⟨he, ⟨_, this.1⟩, this.2⟩
  · intro W1 r1 hN1
    refine (rfuse_ok r1 m hm).mono ?_
    rintro e w' ⟨he, hr, hf⟩
    exact ⟨he, ⟨_, hr⟩, hf⟩

/-- A slice of whole numbers. -/
def NumsAt (w : World) (p : Option Addr) (zs : List Int) : Prop := ∀ j (h : j < zs.length), ∃ g off, p = some ⟨g, off, none⟩ ∧ w.cell? ⟨g, off + j, none⟩ = some (.int .i64 zs[j])
theorem NumsAt.below {N : Nat} {w w' : World} {p : Option Addr} {zs : List Int} (h : NumsAt w p zs) (hlt : ∀ x, p = some x → zs ≠ [] → x.block < N) (hN : N ≤ w.heap.size) (hf : Fr (fun k => N ≤ k) w w') : NumsAt w' p zs := by
  intro j hj
  obtain ⟨g, off, hp, hc⟩ := h j hj
  have hb : g < N := hlt _ hp (by intro e; rw [e] at hj; simp at hj)
  exact ⟨g, off, hp, (World.cell?_of_block (w := w) (a := ⟨g, off + j, none⟩) (hf.block g (by omega) (by omega))).trans hc⟩

/-- A crash of both; the numbers kept lie below both disks. -/
theorem crash_both {N b rb q n : Nat} {W : World} (h : Two N b rb q n W) (p : Option Addr) (zs : List Int) (hzl : zs.length ≤ 9223372036854775807) (c : Nat) (hp : NumsAt W p zs) (hlt : ∀ x, p = some x → zs ≠ [] → x.block < N) :
    Both N b rb (q + 1) n 18 27 [.slice p zs.length c] W (.tuple #[]) := by
  obtain ⟨bs, lv, rg, rc, rlv, D, R, h1, h2, h3, h4, h5⟩ := h
  have hN : N ≤ W.heap.size := by have := h1.hb; have := (Array.getElem?_eq_some_iff.1 h1.hd).1; omega
  have hA := crash_ok h1 p zs hzl c (Lib.hid hp)
  refine ⟨fun w1 => Rep w1 N b bs (.slice none 0 0) (D.crash zs) ∧ RRep w1 N rb rg rc rlv R ∧ NumsAt w1 p zs, hA.mono ?_, ?_⟩
  · rintro e w1 ⟨he, hr, hf⟩
    have hf2 : Fr (Ch N W) W w1 := hf.mono (fun k _ hk => h1.ch k hk)
    exact ⟨he, ⟨hr, h2.kept hf (fun k hk hk2 => apartR h1 h2 k hk2 hk), hp.below hlt hN hf2.chNew⟩, hf2⟩
  · rintro W1 ⟨hr, hr2, hp1⟩
    refine (rcrash_ok hr2 p zs hzl c (Lib.hid hp1)).mono ?_
    rintro e w2 ⟨he, hr3, hf⟩
    exact ⟨he, ⟨bs, _, rg, rc, _, _, _, hr.kept hf (fun k hk => apartR hr hr2 k hk), hr3, h3.crash zs, h4, by show (0 : Nat) ≤ _; omega⟩, hf.mono (fun k _ hk => hr2.ch k hk)⟩

theorem turn_both {N b rb q n : Nat} {W : World} (h : Two N b rb q n W) (i k v : Int) : ∃ ec : Int, Both N b rb (q + 1) n 21 28 [.int .i64 i, .int .i64 k, .int .i64 v] W (.int .i64 ec) := by
  have H := h.more (Nat.le_succ q)
  obtain ⟨bs, lv, rg, rc, rlv, D, R, h1, h2, h3, h4, h5⟩ := h
  have hn := h3.n
  by_cases g1 : i < 0
  · exact ⟨1, both_same H (turn_noSector h1 i k v (Or.inl g1)) (rturn_arg h2 i k v (Or.inl (by simpa using g1)))⟩
  · by_cases g2 : (D.n : Int) ≤ i
    · exact ⟨1, both_same H (turn_noSector h1 i k v (Or.inr g2)) (rturn_arg h2 i k v (Or.inr (Or.inl ⟨by simpa using g1, by rw [← hn]; simpa using g2⟩)))⟩
    · have d1 : decide (i < 0) = false := by simpa using g1
      have d2 : decide ((R.n : Int) ≤ i) = false := by rw [← hn]; simpa using g2
      by_cases g3 : k < 0
      · have d3 : decide (k < 0) = true := by simpa using g3
        exact ⟨1, both_same H (turn_badPlace h1 i k v (by omega) (by omega) (Or.inl d3)) (rturn_arg h2 i k v (Or.inr (Or.inr ⟨d1, d2, Or.inl d3⟩)))⟩
      · have d3 : decide (k < 0) = false := by simpa using g3
        by_cases g4 : 64 ≤ k
        · have d4 : decide (64 ≤ k) = true := by simpa using g4
          exact ⟨1, both_same H (turn_badPlace h1 i k v (by omega) (by omega) (Or.inr (Or.inl ⟨d3, d4⟩))) (rturn_arg h2 i k v (Or.inr (Or.inr ⟨d1, d2, Or.inr (Or.inl ⟨d3, d4⟩)⟩)))⟩
        · have d4 : decide (64 ≤ k) = false := by simpa using g4
          by_cases g5 : v < 1
          · have d5 : decide (v < 1) = true := by simpa using g5
            exact ⟨1, both_same H (turn_badPlace h1 i k v (by omega) (by omega) (Or.inr (Or.inr (Or.inl ⟨d3, d4, d5⟩)))) (rturn_arg h2 i k v (Or.inr (Or.inr ⟨d1, d2, Or.inr (Or.inr (Or.inl ⟨d3, d4, d5⟩))⟩)))⟩
          · have d5 : decide (v < 1) = false := by simpa using g5
            by_cases g6 : 255 < v
            · have d6 : decide (255 < v) = true := by simpa using g6
              exact ⟨1, both_same H (turn_badPlace h1 i k v (by omega) (by omega) (Or.inr (Or.inr (Or.inr ⟨d3, d4, d5, d6⟩)))) (rturn_arg h2 i k v (Or.inr (Or.inr ⟨d1, d2, Or.inr (Or.inr (Or.inr ⟨d3, d4, d5, d6⟩))⟩)))⟩
            · have d6 : decide (255 < v) = false := by simpa using g6
              by_cases g7 : 0 < D.loose.length
              · exact ⟨3, both_same H (turn_have h1 i k v (by omega) (by omega) d3 d4 d5 d6 g7) (rturn_have h2 i k v d1 d2 d3 d4 d5 d6 (by rw [← h3.lo]; exact g7))⟩
              · have hl : D.loose = [] := by
                  cases hh : D.loose with
                  | nil => rfl
                  | cons x l => rw [hh] at g7; simp at g7
                obtain ⟨I, rfl⟩ := Int.eq_ofNat_of_zero_le (show 0 ≤ i by omega)
                obtain ⟨K, rfl⟩ := Int.eq_ofNat_of_zero_le (show 0 ≤ k by omega)
                obtain ⟨V, rfl⟩ := Int.eq_ofNat_of_zero_le (show 0 ≤ v by omega)
                have hI : I < D.n := by omega
                have h64 : (R.firm I).length = 64 := by
                  rw [← h3.fi]
                  obtain ⟨cur, -, hS⟩ := h1.hs
                  exact hS.lf I hI
                refine ⟨0, both_mk h1 h2 _ (R.turn I K V) (h3.turn hl I K V) h4 (by show D.loose.length ≤ _; omega) ?_ ?_⟩
                · refine (turn_okI h1 hl I K V hI (by omega) (by omega) (by omega)).mono ?_
                  rintro e w' ⟨he, hr, hf⟩
                  exact ⟨he, ⟨_, hr⟩, hf⟩
                · intro W1 r1 hN1
                  refine (rturn_ok r1 (by rw [← h3.lo]; exact hl) I K V (by omega) h64 (by omega) (by omega) (by omega)).mono ?_
                  rintro e w' ⟨he, hr, hf⟩
                  exact ⟨he, ⟨_, hr⟩, hf⟩

/-- Reading of both tells the same; the program's disk changes nothing by it, the document's nothing that was there. -/
theorem read_both {N b rb q n : Nat} {W : World} (h : Two N b rb q n W) (i : Int) : ∃ (s : ByteArray) (ec : Int),
    (Calls Try.prog 19 #[.pointer (some ⟨b, 0, none⟩), .int .i64 i] W fun e w' => e = .returned (.tuple #[.string s, .int .i64 ec]) ∧ W = w') ∧
    (Calls Try.prog 29 #[.pointer (some ⟨rb, 0, none⟩), .int .i64 i] W fun e w' => e = .returned (.agg #[.string s, .int .i64 ec]) ∧ Fr (fun _ => False) W w') := by
  obtain ⟨bs, lv, rg, rc, rlv, D, R, h1, h2, h3, h4, h5⟩ := h
  have hn := h3.n
  cases hd : D.down with
  | true => exact ⟨⟨#[]⟩, 7, read_down h1 hd i, rread_down h2 (by rw [← h3.dn]; exact hd) i⟩
  | false =>
    have hd2 : R.down = false := by rw [← h3.dn]; exact hd
    by_cases g : i < 0 ∨ (D.n : Int) ≤ i
    · exact ⟨⟨#[]⟩, 1, read_arg h1 hd i g, rread_arg h2 hd2 i (by rw [← hn]; exact g)⟩
    · obtain ⟨I, rfl⟩ := Int.eq_ofNat_of_zero_le (show 0 ≤ i by omega)
      have := rread_ok h2 hd2 I (by omega)
      rw [← h3.lo, ← h3.fi, ← h3.nw] at this
      exact ⟨_, 0, read_ok h1 hd I (by omega), this⟩
theorem counts_both {N b rb q n : Nat} {W : World} (h : Two N b rb q n W) : ∃ (m : Nat) (p : Option Addr) (c : Nat), m ≤ 1000000 ∧ W.cell? ⟨rb, 1, none⟩ = some (.slice p m c) ∧
    (Calls Try.prog 17 #[.pointer (some ⟨b, 0, none⟩)] W fun e w' => e = .returned (.int .i64 m) ∧ W = w') ∧
    (Calls Try.prog 22 #[.pointer (some ⟨b, 0, none⟩)] W fun e w' => e = .returned (.int .i64 n) ∧ W = w') := by
  obtain ⟨bs, lv, rg, rc, rlv, D, R, h1, h2, h3, rfl, h5⟩ := h
  obtain ⟨p, c, hlv⟩ := h2.sl
  obtain ⟨-, c1, -, -⟩ := h2.c
  rw [hlv] at c1
  refine ⟨D.loose.length, p, c, h1.hm, ?_, loose_any h1, len_any h1⟩
  rw [c1, h3.lo]
end Go.Proofs.Ytpkhddnehhophaa
