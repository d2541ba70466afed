/- run of the law walked: whatever is asked of both disks is told alike. No condition but what the law names. -/
import Derived.Test.YtpkhddnehhophaaRefG
import Derived.Deep.RegionHeld3
import Derived.Deep.CutBlock
import Derived.Deep.DeepCutAuto

namespace Go.Proofs.Ytpkhddnehhophaa
open Go.RowKit
set_option linter.unusedVariables false

/-- One thing that is asked. -/
structure AskV where
  d : Int
  a : Int
  n : Int
  s : ByteArray
  p : Option Addr
  zs : List Int
  c : Nat
def AskV.cells (x : AskV) : List Value := [.int .i64 x.d, .int .i64 x.a, .int .i64 x.n, .string x.s, .slice x.p x.zs.length x.c]
structure AskV.Ok (x : AskV) : Prop where
  d : (Lit.int .i64 x.d).wf = true
  a : (Lit.int .i64 x.a).wf = true
  n : (Lit.int .i64 x.n).wf = true
  z : x.zs.length ≤ 9223372036854775807
  s : x.s.size ≤ 9223372036854775807
/-- A slice of what is asked lies below block N. -/
def AsksIn (w : World) (N : Nat) (pa : Option Addr) (len : Nat) (A : Nat → AskV) : Prop := ∀ i, i < len → (A i).Ok ∧ ∃ g off, pa = some ⟨g, off, none⟩ ∧ g < N ∧
  (∀ j v, (A i).cells[j]? = some v → w.cell? ⟨g, off + i * 5 + j, none⟩ = some v) ∧ NumsAt w (A i).p (A i).zs ∧ ∀ x, (A i).p = some x → (A i).zs ≠ [] → x.block < N
theorem AsksIn.kept {w w' : World} {N : Nat} {pa : Option Addr} {len : Nat} {A : Nat → AskV} (h : AsksIn w N pa len A) (hN : N ≤ w.heap.size) (hf : Fr (fun k => N ≤ k) w w') : AsksIn w' N pa len A := by
  intro i hi
  obtain ⟨h1, g, off, h2, h3, h4, h5, h6⟩ := h i hi
  exact ⟨h1, g, off, h2, h3, fun j v hv => (World.cell?_of_block (w := w) (a := ⟨g, off + i * 5 + j, none⟩) (hf.block g (by omega) (by omega))).trans (h4 j v hv), h5.below h6 hN hf, h6⟩

theorem RRep.lower {w : World} {B B2 b g cap : Nat} {lv : Value} {R : RS} (h : RRep w B b g cap lv R) (hB : B2 ≤ B) : RRep w B2 b g cap lv R := by
  refine ⟨Nat.le_trans hB h.hb, h.hd, h.hn, ?_, ?_, h.hx, h.hm, h.h0, h.h1⟩
  · refine ⟨h.hf.1, ?_⟩
    rcases h.hf.2 with h1 | ⟨g2, c2, cur, hv, hb, rest⟩
    · exact Or.inl h1
    · exact Or.inr ⟨g2, c2, cur, hv, Nat.le_trans hB hb, rest⟩
  · refine ⟨h.hl.1, ?_⟩
    rcases h.hl.2 with h1 | ⟨g2, c2, cur, hv, hb, rest⟩
    · exact Or.inl h1
    · exact Or.inr ⟨g2, c2, cur, hv, Nat.le_trans hB hb, rest⟩

set_option maxRecDepth 100000 in
theorem run_bad (n : Int) (h : n < 32 ∨ 4096 < n) (v : Value) (w : World) : Calls Try.prog 10 #[.int .i64 n, v] w fun e w' => e = .returned (.bool true) ∧ w = w' := by
  by_cases h1 : n < 32
  · have d1 : decide (n < 32) = true := by simpa using h1
    go_enter Try.func10, Try.ntmps10
    go_wp2_with (first | (go_at_call 12; refine (new_bad n h _).mono ?_; rintro e w' ⟨rfl, rfl⟩) | (go_at_call 13; refine (err_any _ _).mono ?_; rintro e w' ⟨rfl, rfl⟩))
    go_ret
    exact ⟨rfl, rfl⟩
  · have d1 : decide (n < 32) = false := by simpa using h1
    have d2 : decide (4096 < n) = true := by rcases h with h | h; exact absurd h h1; simpa using h
    go_enter Try.func10, Try.ntmps10
    go_wp2_with (first | (go_at_call 12; refine (new_bad n h _).mono ?_; rintro e w' ⟨rfl, rfl⟩) | (go_at_call 13; refine (err_any _ _).mono ?_; rintro e w' ⟨rfl, rfl⟩))
    go_ret
    exact ⟨rfl, rfl⟩

theorem zero50 (w : World) : (zeroValue 50).run Try.prog w = .ok (.agg #[.int .i64 0, .int .i64 0, .int .i64 0, .string ByteArray.empty, .slice none 0 0]) w := by kernel_rfl
theorem size50 : (Try.prog.info? 50).map (·.size) = some 5 := by kernel_rfl
theorem ask_one (x : AskV) : ∀ v ∈ x.cells, v.oneCell' = true := by
  intro v hv
  simp [AskV.cells] at hv
  rcases hv with rfl | rfl | rfl | rfl | rfl <;> rfl

theorem fr_undrew {N : Nat} {W w : World} (h : Fr (Ch N W.drew) W.drew w) : Fr (Ch N W) W w := ⟨h.os, h.tape, h.output, h.size, h.block⟩
set_option maxRecDepth 100000 in
set_option maxHeartbeats 40000000 in
theorem run_good (n : Nat) (h1 : 32 ≤ n) (h2 : n ≤ 4096) (pa : Option Addr) (len ca : Nat) (A : Nat → AskV) (hlen : len ≤ 1000) (w : World) (hA : Hid (AsksIn w w.heap.size pa len A)) :
    Calls Try.prog 10 #[.int .i64 n, .slice pa len ca] w fun e w' => e = .returned (.bool true) ∧ Fr (fun _ => False) w w' := by
  have d1 : decide ((n : Int) < 32) = false := by simp; omega
  have d2 : decide (4096 < (n : Int)) = false := by simp; omega
  go_enter Try.func10, Try.ntmps10
  go_wp2_with fail
  refine (new_ok n h1 h2 w w.heap.size (Nat.le_refl _)).mono ?_
  rintro e w1 ⟨b, bs, rfl, hb, hbs, R1, F1⟩
  have HR1 := Lib.hid R1
  have HF1 := Lib.hid F1
  clear R1 F1
  go_wp2_with fail
  refine (err_any 0 _).mono ?_
  rintro e w' ⟨rfl, rfl⟩
  go_wp2_with fail
  refine (rnew_ok n h1 h2 w1).mono ?_
  rintro e w2 ⟨rb, rg, rc, rfl, R2, F2⟩
  have T2 : Hid (Two w.heap.size b rb 0 n w2) := Lib.hid ⟨bs, _, rg, rc, _, _, _, HR1.out.kept F2 (fun _ _ => id), R2.lower HF1.out.size, Tie.new n, rfl, Nat.le_refl _⟩
  have N2 : Hid (Fr (fun k => w.heap.size ≤ k) w w2) := Lib.hid ((HF1.out.trans F2).mono (fun _ _ h => h.elim))
  clear R2 F2 HR1 HF1 hb hbs
  go_wp2_with fail
  go_loopw [8] (fun i wr => ∃ k : Nat, k ≤ len ∧ i = .int .i64 k ∧ Hid (Two w.heap.size b rb k n wr) ∧ Hid (Fr (fun k => w.heap.size ≤ k) w wr)) (fun i _ => len - (intOf i).toNat)
  case atStart => exact ⟨0, Nat.zero_le _, rfl, T2, N2⟩
  case round =>
    obtain ⟨k, hk, rfl, T, NF⟩ := hrel
    clear T2 N2
    by_cases hlt : k < len
    · obtain ⟨hok, g, off, rfl, hg, hcl, hnums, hnlt⟩ := (hA.out.kept (Nat.le_refl _) NF.out) k hlt
      generalize hx : A k = x at *
      have HCL := Lib.hid hcl
      have hszx : Hid ((Try.prog.info? 50).map (·.size) = some x.cells.length) := Lib.hid size50
      have hone := Lib.hid (ask_one x)
      have T3 : Hid (Two w.heap.size b rb k n (wr.alloc (.cells x.cells.toArray 50))) := Lib.hid (T.out.none ((Fr.refl _ _).alloc _))
      have N3 : Hid (Fr (fun k => w.heap.size ≤ k) w (wr.alloc (.cells x.cells.toArray 50))) := Lib.hid (NF.out.trans ((Fr.refl _ _).alloc _))
      have HNU := Lib.hid hnums
      have HNL := Lib.hid hnlt
      have HOK := Lib.hid hok
      have q : ∀ j v, x.cells[j]? = some v → (wr.alloc (.cells x.cells.toArray 50)).cell? ⟨wr.heap.size, j, none⟩ = some v := by
        intro j v hv
        rw [cell_of_row _ _ _ _ _ _ (heap_alloc_new wr _), List.getElem?_toArray]; exact hv
      have q0 := q 0 _ rfl
      have q1 := q 1 _ rfl
      have q2 := q 2 _ rfl
      have q3 := q 3 _ rfl
      have q4 := q 4 _ rfl
      have hm50 : Hid (∀ W, Fr (Ch w.heap.size (wr.alloc (.cells x.cells.toArray 50))) (wr.alloc (.cells x.cells.toArray 50)) W → ∀ j v, x.cells[j]? = some v → W.cell? ⟨wr.heap.size, j, none⟩ = some v) := by
        intro W hF j v hv
        rw [← q j v hv]
        refine World.cell?_of_block (a := ⟨wr.heap.size, j, none⟩) (hF.block wr.heap.size (by simp) ?_)
        rintro ⟨-, cs, t, fr, h5, h6⟩
        have h7 := heap_alloc_new wr (.cells x.cells.toArray 50)
        rw [h7] at h5
        simp only [Option.some.injEq, Obj.cells.injEq] at h5
        obtain ⟨-, rfl, -⟩ := h5
        simp at h6
      have NW : Hid (w.heap.size ≤ wr.heap.size) := Lib.hid NF.out.size
      clear hcl hnums hnlt hok hx T NF q
      generalize hW0 : wr.alloc (.cells x.cells.toArray 50) = W0 at *
      by_cases hd0 : x.d = 0
      · have t0 : (x.d == 0) = true := by simp [hd0]
        clear hd0
        obtain ⟨ec, P1, HA1, HB1⟩ := write_both (T3.out.none ((Fr.refl (fun _ => False) W0).drew)) (by omega) x.a x.s
        have HA1 := Lib.hid HA1
        have HB1 := Lib.hid HB1
        go_wp2_with (first | (refine wpList_load_seg rfl 50 (.tmp 52) rfl g (off + k * 5) rfl x.cells _ HCL.out Try.underlying50 rfl hszx.out ?_) | (refine wpList_run rfl _ (exec_alloc_agg _ 50 rfl _ (zero50 _)) ?_) | (refine wpList_run0 rfl (exec_store_new wr 50 (.tmp 9) (.tmp 53) rfl _ 50 rfl x.cells rfl rfl hone.out hszx.out) ?_))
        go_region_held3 (fun w' => w'.cell? ⟨wr.heap.size, 1, none⟩ = some (.int .i64 x.a) ∧ w'.cell? ⟨wr.heap.size, 3, none⟩ = some (.string x.s)) (first | exact ⟨q1, q3⟩ | exact ⟨hm50.out _ (fr_undrew hf1) 1 _ rfl, hm50.out _ (fr_undrew hf1) 3 _ rfl⟩ | exact ⟨hm50.out _ ((fr_undrew hf1).chTrans hf2) 1 _ rfl, hm50.out _ ((fr_undrew hf1).chTrans hf2) 3 _ rfl⟩) (first | (go_at_call 15; refine HA1.out.mono ?_; rintro e w1 ⟨rfl, hp1, hf1⟩) | (go_at_call 13; refine (err_any _ _).mono ?_; rintro e w' ⟨rfl, rfl⟩) | (go_at_call 24; refine (HB1.out _ hp1).mono ?_; rintro e w2 ⟨rfl, hT4, hf2⟩))
        have T4 : Hid (Two w.heap.size b rb (k + 1) n w2) := Lib.hid hT4
        have F4 : Hid (Fr (Ch w.heap.size W0) W0 w2) := Lib.hid ((fr_undrew hf1).chTrans hf2)
        rename_i hHeld
        clear hHeld hf1 hf2 hT4 hp1 HA1 HB1 T3 q0 q1 q2 q3 q4
        have z1 := hm50.out _ F4.out 1 _ rfl
        have NC : Hid (Fr (fun k => w.heap.size ≤ k) w w2) := Lib.hid (N3.out.trans F4.out.chNew)
        obtain ⟨sr, er, HRd, HRr⟩ := read_both T4.out x.a
        have HRd := Lib.hid HRd
        have HRr := Lib.hid HRr
        go_wp2_with fail
        refine HRd.out.mono ?_
        rintro e w' ⟨rfl, rfl⟩
        go_wp2_with fail
        refine HRr.out.mono ?_
        rintro e w5 ⟨rfl, hf5⟩
        have T6 : Hid (Two w.heap.size b rb (k + 1) n (w5.alloc (.cells #[.string sr, .int .i64 er] 54)).drew) := Lib.hid ((T4.out.none hf5).none (((Fr.refl _ _).alloc _).drew))
        have N6 : Hid (Fr (fun k => w.heap.size ≤ k) w (w5.alloc (.cells #[.string sr, .int .i64 er] 54)).drew) := Lib.hid (((NC.out.trans (hf5.mono (fun _ _ h => h.elim))).alloc _).drew)
        obtain ⟨m, pm, cm, hm6, c6, H17, H22⟩ := counts_both T6.out
        have H17 := Lib.hid H17
        have H22 := Lib.hid H22
        have y0 := (text_row w5 (.string sr) (.int .i64 er)).1
        have y1 := (text_row w5 (.string sr) (.int .i64 er)).2
        clear hf5 HRd HRr NC T4 F4 hm50
        go_wp2_with fail
        go_region_held3 (fun w' => w'.cell? ⟨w5.heap.size, 0, none⟩ = some (.string sr) ∧ w'.cell? ⟨w5.heap.size, 1, none⟩ = some (.int .i64 er) ∧ w'.cell? ⟨rb, 1, none⟩ = some (.slice pm m cm)) (exact ⟨y0, y1, c6⟩) (first | (go_at_call 13; refine (err_any _ _).mono ?_; rintro e w' ⟨rfl, rfl⟩) | (go_at_call 17; refine H17.out.mono ?_; rintro e w' ⟨rfl, rfl⟩) | (go_at_call 22; refine H22.out.mono ?_; rintro e w' ⟨rfl, rfl⟩))
        rename_i hHeld
        clear hHeld y0 y1 c6 H17 H22
        go_wp2_with fail
        go_roundw
        case rel => exact ⟨k + 1, by omega, by go_num, T6, N6⟩
        case measure => simp [intOf]; omega
      · have t0 : (x.d == 0) = false := by simpa using hd0
        clear hd0
        by_cases hd1 : x.d = 1
        · have t1 : (x.d == 1) = true := by simp [hd1]
          clear hd1
          obtain ⟨ec, P1, HA1, HB1⟩ := flush_both T3.out
          have HA1 := Lib.hid HA1
          have HB1 := Lib.hid HB1
          go_wp2_with (first | (refine wpList_load_seg rfl 50 (.tmp 52) rfl g (off + k * 5) rfl x.cells _ HCL.out Try.underlying50 rfl hszx.out ?_) | (refine wpList_run rfl _ (exec_alloc_agg _ 50 rfl _ (zero50 _)) ?_) | (refine wpList_run0 rfl (exec_store_new wr 50 (.tmp 9) (.tmp 53) rfl _ 50 rfl x.cells rfl rfl hone.out hszx.out) ?_))
          refine HA1.out.mono ?_
          rintro e w1 ⟨rfl, hp1, hf1⟩
          go_wp2_with fail
          refine (err_any _ _).mono ?_
          rintro e w' ⟨rfl, rfl⟩
          go_wp2_with fail
          refine (HB1.out _ hp1).mono ?_
          rintro e w2 ⟨rfl, hT4, hf2⟩
          have T4 : Hid (Two w.heap.size b rb (k + 1) n w2) := Lib.hid hT4
          have F4 : Hid (Fr (Ch w.heap.size W0) W0 w2) := Lib.hid (hf1.chTrans hf2)
          clear hf1 hf2 hT4 hp1 HA1 HB1 T3 q0 q1 q2 q3 q4
          have z1 := hm50.out _ F4.out 1 _ rfl
          have NC : Hid (Fr (fun k => w.heap.size ≤ k) w w2) := Lib.hid (N3.out.trans F4.out.chNew)
          obtain ⟨sr, er, HRd, HRr⟩ := read_both T4.out x.a
          have HRd := Lib.hid HRd
          have HRr := Lib.hid HRr
          go_wp2_with fail
          refine HRd.out.mono ?_
          rintro e w' ⟨rfl, rfl⟩
          go_wp2_with fail
          refine HRr.out.mono ?_
          rintro e w5 ⟨rfl, hf5⟩
          have T6 : Hid (Two w.heap.size b rb (k + 1) n (w5.alloc (.cells #[.string sr, .int .i64 er] 54)).drew) := Lib.hid ((T4.out.none hf5).none (((Fr.refl _ _).alloc _).drew))
          have N6 : Hid (Fr (fun k => w.heap.size ≤ k) w (w5.alloc (.cells #[.string sr, .int .i64 er] 54)).drew) := Lib.hid (((NC.out.trans (hf5.mono (fun _ _ h => h.elim))).alloc _).drew)
          obtain ⟨m, pm, cm, hm6, c6, H17, H22⟩ := counts_both T6.out
          have H17 := Lib.hid H17
          have H22 := Lib.hid H22
          have y0 := (text_row w5 (.string sr) (.int .i64 er)).1
          have y1 := (text_row w5 (.string sr) (.int .i64 er)).2
          clear hf5 HRd HRr NC T4 F4 hm50
          go_wp2_with fail
          go_region_held3 (fun w' => w'.cell? ⟨w5.heap.size, 0, none⟩ = some (.string sr) ∧ w'.cell? ⟨w5.heap.size, 1, none⟩ = some (.int .i64 er) ∧ w'.cell? ⟨rb, 1, none⟩ = some (.slice pm m cm)) (exact ⟨y0, y1, c6⟩) (first | (go_at_call 13; refine (err_any _ _).mono ?_; rintro e w' ⟨rfl, rfl⟩) | (go_at_call 17; refine H17.out.mono ?_; rintro e w' ⟨rfl, rfl⟩) | (go_at_call 22; refine H22.out.mono ?_; rintro e w' ⟨rfl, rfl⟩))
          rename_i hHeld
          clear hHeld y0 y1 c6 H17 H22
          go_wp2_with fail
          go_roundw
          case rel => exact ⟨k + 1, by omega, by go_num, T6, N6⟩
          case measure => simp [intOf]; omega
        · have t1 : (x.d == 1) = false := by simpa using hd1
          clear hd1
          by_cases hd2 : x.d = 2
          · have t2 : (x.d == 2) = true := by simp [hd2]
            clear hd2
            obtain ⟨P1, HA1, HB1⟩ := fuse_both T3.out x.n HOK.out.n
            have HA1 := Lib.hid HA1
            have HB1 := Lib.hid HB1
            go_wp2_with (first | (refine wpList_load_seg rfl 50 (.tmp 52) rfl g (off + k * 5) rfl x.cells _ HCL.out Try.underlying50 rfl hszx.out ?_) | (refine wpList_run rfl _ (exec_alloc_agg _ 50 rfl _ (zero50 _)) ?_) | (refine wpList_run0 rfl (exec_store_new wr 50 (.tmp 9) (.tmp 53) rfl _ 50 rfl x.cells rfl rfl hone.out hszx.out) ?_))
            refine HA1.out.mono ?_
            rintro e w1 ⟨rfl, hp1, hf1⟩
            have z2 := hm50.out _ hf1 2 _ rfl
            go_wp2_with fail
            refine (HB1.out _ hp1).mono ?_
            rintro e w2 ⟨rfl, hT4, hf2⟩
            clear z2
            have T4 : Hid (Two w.heap.size b rb (k + 1) n w2) := Lib.hid hT4
            have F4 : Hid (Fr (Ch w.heap.size W0) W0 w2) := Lib.hid (hf1.chTrans hf2)
            clear hf1 hf2 hT4 hp1 HA1 HB1 T3 q0 q1 q2 q3 q4
            have z1 := hm50.out _ F4.out 1 _ rfl
            have NC : Hid (Fr (fun k => w.heap.size ≤ k) w w2) := Lib.hid (N3.out.trans F4.out.chNew)
            obtain ⟨sr, er, HRd, HRr⟩ := read_both T4.out x.a
            have HRd := Lib.hid HRd
            have HRr := Lib.hid HRr
            go_wp2_with fail
            refine HRd.out.mono ?_
            rintro e w' ⟨rfl, rfl⟩
            go_wp2_with fail
            refine HRr.out.mono ?_
            rintro e w5 ⟨rfl, hf5⟩
            have T6 : Hid (Two w.heap.size b rb (k + 1) n (w5.alloc (.cells #[.string sr, .int .i64 er] 54)).drew) := Lib.hid ((T4.out.none hf5).none (((Fr.refl _ _).alloc _).drew))
            have N6 : Hid (Fr (fun k => w.heap.size ≤ k) w (w5.alloc (.cells #[.string sr, .int .i64 er] 54)).drew) := Lib.hid (((NC.out.trans (hf5.mono (fun _ _ h => h.elim))).alloc _).drew)
            obtain ⟨m, pm, cm, hm6, c6, H17, H22⟩ := counts_both T6.out
            have H17 := Lib.hid H17
            have H22 := Lib.hid H22
            have y0 := (text_row w5 (.string sr) (.int .i64 er)).1
            have y1 := (text_row w5 (.string sr) (.int .i64 er)).2
            clear hf5 HRd HRr NC T4 F4 hm50
            go_wp2_with fail
            go_region_held3 (fun w' => w'.cell? ⟨w5.heap.size, 0, none⟩ = some (.string sr) ∧ w'.cell? ⟨w5.heap.size, 1, none⟩ = some (.int .i64 er) ∧ w'.cell? ⟨rb, 1, none⟩ = some (.slice pm m cm)) (exact ⟨y0, y1, c6⟩) (first | (go_at_call 13; refine (err_any _ _).mono ?_; rintro e w' ⟨rfl, rfl⟩) | (go_at_call 17; refine H17.out.mono ?_; rintro e w' ⟨rfl, rfl⟩) | (go_at_call 22; refine H22.out.mono ?_; rintro e w' ⟨rfl, rfl⟩))
            rename_i hHeld
            clear hHeld y0 y1 c6 H17 H22
            go_wp2_with fail
            go_roundw
            case rel => exact ⟨k + 1, by omega, by go_num, T6, N6⟩
            case measure => simp [intOf]; omega
          · have t2 : (x.d == 2) = false := by simpa using hd2
            clear hd2
            by_cases hd3 : x.d = 3
            · have t3 : (x.d == 3) = true := by simp [hd3]
              clear hd3
              obtain ⟨P1, HA1, HB1⟩ := crash_both T3.out x.p x.zs HOK.out.z x.c (HNU.out.below HNL.out NW.out (by rw [← hW0]; exact (Fr.refl _ _).alloc _)) HNL.out
              have HA1 := Lib.hid HA1
              have HB1 := Lib.hid HB1
              go_wp2_with (first | (refine wpList_load_seg rfl 50 (.tmp 52) rfl g (off + k * 5) rfl x.cells _ HCL.out Try.underlying50 rfl hszx.out ?_) | (refine wpList_run rfl _ (exec_alloc_agg _ 50 rfl _ (zero50 _)) ?_) | (refine wpList_run0 rfl (exec_store_new wr 50 (.tmp 9) (.tmp 53) rfl _ 50 rfl x.cells rfl rfl hone.out hszx.out) ?_))
              refine HA1.out.mono ?_
              rintro e w1 ⟨rfl, hp1, hf1⟩
              have z4 := hm50.out _ hf1 4 _ rfl
              go_wp2_with fail
              refine (HB1.out _ hp1).mono ?_
              rintro e w2 ⟨rfl, hT4, hf2⟩
              clear z4
              have T4 : Hid (Two w.heap.size b rb (k + 1) n w2) := Lib.hid hT4
              have F4 : Hid (Fr (Ch w.heap.size W0) W0 w2) := Lib.hid (hf1.chTrans hf2)
              clear hf1 hf2 hT4 hp1 HA1 HB1 T3 q0 q1 q2 q3 q4
              have z1 := hm50.out _ F4.out 1 _ rfl
              have NC : Hid (Fr (fun k => w.heap.size ≤ k) w w2) := Lib.hid (N3.out.trans F4.out.chNew)
              obtain ⟨sr, er, HRd, HRr⟩ := read_both T4.out x.a
              have HRd := Lib.hid HRd
              have HRr := Lib.hid HRr
              go_wp2_with fail
              refine HRd.out.mono ?_
              rintro e w' ⟨rfl, rfl⟩
              go_wp2_with fail
              refine HRr.out.mono ?_
              rintro e w5 ⟨rfl, hf5⟩
              have T6 : Hid (Two w.heap.size b rb (k + 1) n (w5.alloc (.cells #[.string sr, .int .i64 er] 54)).drew) := Lib.hid ((T4.out.none hf5).none (((Fr.refl _ _).alloc _).drew))
              have N6 : Hid (Fr (fun k => w.heap.size ≤ k) w (w5.alloc (.cells #[.string sr, .int .i64 er] 54)).drew) := Lib.hid (((NC.out.trans (hf5.mono (fun _ _ h => h.elim))).alloc _).drew)
              obtain ⟨m, pm, cm, hm6, c6, H17, H22⟩ := counts_both T6.out
              have H17 := Lib.hid H17
              have H22 := Lib.hid H22
              have y0 := (text_row w5 (.string sr) (.int .i64 er)).1
              have y1 := (text_row w5 (.string sr) (.int .i64 er)).2
              clear hf5 HRd HRr NC T4 F4 hm50
              go_wp2_with fail
              go_region_held3 (fun w' => w'.cell? ⟨w5.heap.size, 0, none⟩ = some (.string sr) ∧ w'.cell? ⟨w5.heap.size, 1, none⟩ = some (.int .i64 er) ∧ w'.cell? ⟨rb, 1, none⟩ = some (.slice pm m cm)) (exact ⟨y0, y1, c6⟩) (first | (go_at_call 13; refine (err_any _ _).mono ?_; rintro e w' ⟨rfl, rfl⟩) | (go_at_call 17; refine H17.out.mono ?_; rintro e w' ⟨rfl, rfl⟩) | (go_at_call 22; refine H22.out.mono ?_; rintro e w' ⟨rfl, rfl⟩))
              rename_i hHeld
              clear hHeld y0 y1 c6 H17 H22
              go_wp2_with fail
              go_roundw
              case rel => exact ⟨k + 1, by omega, by go_num, T6, N6⟩
              case measure => simp [intOf]; omega
            · have t3 : (x.d == 3) = false := by simpa using hd3
              clear hd3
              by_cases hd4 : x.d = 4
              · have t4 : (x.d == 4) = true := by simp [hd4]
                clear hd4
                obtain ⟨ec, P1, HA1, HB1⟩ := turn_both (T3.out.none ((Fr.refl (fun _ => False) W0).drew)) x.a x.n x.n
                have HA1 := Lib.hid HA1
                have HB1 := Lib.hid HB1
                go_wp2_with (first | (refine wpList_load_seg rfl 50 (.tmp 52) rfl g (off + k * 5) rfl x.cells _ HCL.out Try.underlying50 rfl hszx.out ?_) | (refine wpList_run rfl _ (exec_alloc_agg _ 50 rfl _ (zero50 _)) ?_) | (refine wpList_run0 rfl (exec_store_new wr 50 (.tmp 9) (.tmp 53) rfl _ 50 rfl x.cells rfl rfl hone.out hszx.out) ?_))
                go_region_held3 (fun w' => w'.cell? ⟨wr.heap.size, 1, none⟩ = some (.int .i64 x.a) ∧ w'.cell? ⟨wr.heap.size, 2, none⟩ = some (.int .i64 x.n)) (first | exact ⟨q1, q2⟩ | exact ⟨hm50.out _ (fr_undrew hf1) 1 _ rfl, hm50.out _ (fr_undrew hf1) 2 _ rfl⟩ | exact ⟨hm50.out _ ((fr_undrew hf1).chTrans hf2) 1 _ rfl, hm50.out _ ((fr_undrew hf1).chTrans hf2) 2 _ rfl⟩) (first | (go_at_call 21; refine HA1.out.mono ?_; rintro e w1 ⟨rfl, hp1, hf1⟩) | (go_at_call 13; refine (err_any _ _).mono ?_; rintro e w' ⟨rfl, rfl⟩) | (go_at_call 28; refine (HB1.out _ hp1).mono ?_; rintro e w2 ⟨rfl, hT4, hf2⟩))
                have T4 : Hid (Two w.heap.size b rb (k + 1) n w2) := Lib.hid hT4
                have F4 : Hid (Fr (Ch w.heap.size W0) W0 w2) := Lib.hid ((fr_undrew hf1).chTrans hf2)
                rename_i hHeld
                clear hHeld hf1 hf2 hT4 hp1 HA1 HB1 T3 q0 q1 q2 q3 q4
                have z1 := hm50.out _ F4.out 1 _ rfl
                have NC : Hid (Fr (fun k => w.heap.size ≤ k) w w2) := Lib.hid (N3.out.trans F4.out.chNew)
                obtain ⟨sr, er, HRd, HRr⟩ := read_both T4.out x.a
                have HRd := Lib.hid HRd
                have HRr := Lib.hid HRr
                go_wp2_with fail
                refine HRd.out.mono ?_
                rintro e w' ⟨rfl, rfl⟩
                go_wp2_with fail
                refine HRr.out.mono ?_
                rintro e w5 ⟨rfl, hf5⟩
                have T6 : Hid (Two w.heap.size b rb (k + 1) n (w5.alloc (.cells #[.string sr, .int .i64 er] 54)).drew) := Lib.hid ((T4.out.none hf5).none (((Fr.refl _ _).alloc _).drew))
                have N6 : Hid (Fr (fun k => w.heap.size ≤ k) w (w5.alloc (.cells #[.string sr, .int .i64 er] 54)).drew) := Lib.hid (((NC.out.trans (hf5.mono (fun _ _ h => h.elim))).alloc _).drew)
                obtain ⟨m, pm, cm, hm6, c6, H17, H22⟩ := counts_both T6.out
                have H17 := Lib.hid H17
                have H22 := Lib.hid H22
                have y0 := (text_row w5 (.string sr) (.int .i64 er)).1
                have y1 := (text_row w5 (.string sr) (.int .i64 er)).2
                clear hf5 HRd HRr NC T4 F4 hm50
                go_wp2_with fail
                go_region_held3 (fun w' => w'.cell? ⟨w5.heap.size, 0, none⟩ = some (.string sr) ∧ w'.cell? ⟨w5.heap.size, 1, none⟩ = some (.int .i64 er) ∧ w'.cell? ⟨rb, 1, none⟩ = some (.slice pm m cm)) (exact ⟨y0, y1, c6⟩) (first | (go_at_call 13; refine (err_any _ _).mono ?_; rintro e w' ⟨rfl, rfl⟩) | (go_at_call 17; refine H17.out.mono ?_; rintro e w' ⟨rfl, rfl⟩) | (go_at_call 22; refine H22.out.mono ?_; rintro e w' ⟨rfl, rfl⟩))
                rename_i hHeld
                clear hHeld y0 y1 c6 H17 H22
                go_wp2_with fail
                go_roundw
                case rel => exact ⟨k + 1, by omega, by go_num, T6, N6⟩
                case measure => simp [intOf]; omega
              · have t4 : (x.d == 4) = false := by simpa using hd4
                clear hd4
                have T4 : Hid (Two w.heap.size b rb (k + 1) n W0) := Lib.hid (T3.out.more (Nat.le_succ k))
                have F4 : Hid (Fr (Ch w.heap.size W0) W0 W0) := Lib.hid (Fr.refl _ _)
                clear T3
                have z1 := hm50.out _ F4.out 1 _ rfl
                have NC : Hid (Fr (fun k => w.heap.size ≤ k) w W0) := Lib.hid (N3.out.trans F4.out.chNew)
                obtain ⟨sr, er, HRd, HRr⟩ := read_both T4.out x.a
                have HRd := Lib.hid HRd
                have HRr := Lib.hid HRr
                go_wp2_with (first | (refine wpList_load_seg rfl 50 (.tmp 52) rfl g (off + k * 5) rfl x.cells _ HCL.out Try.underlying50 rfl hszx.out ?_) | (refine wpList_run rfl _ (exec_alloc_agg _ 50 rfl _ (zero50 _)) ?_) | (refine wpList_run0 rfl (exec_store_new wr 50 (.tmp 9) (.tmp 53) rfl _ 50 rfl x.cells rfl rfl hone.out hszx.out) ?_))
                refine HRd.out.mono ?_
                rintro e w' ⟨rfl, rfl⟩
                go_wp2_with fail
                refine HRr.out.mono ?_
                rintro e w5 ⟨rfl, hf5⟩
                have T6 : Hid (Two w.heap.size b rb (k + 1) n (w5.alloc (.cells #[.string sr, .int .i64 er] 54)).drew) := Lib.hid ((T4.out.none hf5).none (((Fr.refl _ _).alloc _).drew))
                have N6 : Hid (Fr (fun k => w.heap.size ≤ k) w (w5.alloc (.cells #[.string sr, .int .i64 er] 54)).drew) := Lib.hid (((NC.out.trans (hf5.mono (fun _ _ h => h.elim))).alloc _).drew)
                obtain ⟨m, pm, cm, hm6, c6, H17, H22⟩ := counts_both T6.out
                have H17 := Lib.hid H17
                have H22 := Lib.hid H22
                have y0 := (text_row w5 (.string sr) (.int .i64 er)).1
                have y1 := (text_row w5 (.string sr) (.int .i64 er)).2
                clear hf5 HRd HRr NC T4 F4 hm50
                go_wp2_with fail
                go_region_held3 (fun w' => w'.cell? ⟨w5.heap.size, 0, none⟩ = some (.string sr) ∧ w'.cell? ⟨w5.heap.size, 1, none⟩ = some (.int .i64 er) ∧ w'.cell? ⟨rb, 1, none⟩ = some (.slice pm m cm)) (exact ⟨y0, y1, c6⟩) (first | (go_at_call 13; refine (err_any _ _).mono ?_; rintro e w' ⟨rfl, rfl⟩) | (go_at_call 17; refine H17.out.mono ?_; rintro e w' ⟨rfl, rfl⟩) | (go_at_call 22; refine H22.out.mono ?_; rintro e w' ⟨rfl, rfl⟩))
                rename_i hHeld
                clear hHeld y0 y1 c6 H17 H22
                go_wp2_with fail
                go_roundw
                case rel => exact ⟨k + 1, by omega, by go_num, T6, N6⟩
                case measure => simp [intOf]; omega
    · have hlt0 : ¬ ((k : Int) < (len : Int)) := by omega
      obtain ⟨wo, rfl⟩ : ∃ wo : World, wo = wr := ⟨_, rfl⟩
      clear hA
      go_wp2_with fail
      go_loopw [13] (fun i wr => ∃ r : Nat, r ≤ n ∧ i = .int .i64 r ∧ Hid (Two w.heap.size b rb k n wr) ∧ Hid (Fr (fun k => w.heap.size ≤ k) w wr)) (fun i _ => n - (intOf i).toNat)
      case atStart => exact ⟨0, Nat.zero_le _, rfl, T, NF⟩
      case round =>
        obtain ⟨r, hr, rfl, T4, NC⟩ := hrel
        clear T NF
        by_cases hrn : r < n
        · obtain ⟨sr, er, HRd, HRr⟩ := read_both T4.out (r : Int)
          have HRd := Lib.hid HRd
          have HRr := Lib.hid HRr
          go_wp2_with fail
          refine HRd.out.mono ?_
          rintro e w' ⟨rfl, rfl⟩
          go_wp2_with fail
          refine HRr.out.mono ?_
          rintro e w5 ⟨rfl, hf5⟩
          have T6 : Hid (Two w.heap.size b rb k n (w5.alloc (.cells #[.string sr, .int .i64 er] 54)).drew) := Lib.hid ((T4.out.none hf5).none (((Fr.refl _ _).alloc _).drew))
          have N6 : Hid (Fr (fun k => w.heap.size ≤ k) w (w5.alloc (.cells #[.string sr, .int .i64 er] 54)).drew) := Lib.hid (((NC.out.trans (hf5.mono (fun _ _ h => h.elim))).alloc _).drew)
          have y0 := (text_row w5 (.string sr) (.int .i64 er)).1
          have y1 := (text_row w5 (.string sr) (.int .i64 er)).2
          clear hf5 HRd HRr NC T4
          go_wp2_with fail
          go_region_held3 (fun w' => w'.cell? ⟨w5.heap.size, 0, none⟩ = some (.string sr) ∧ w'.cell? ⟨w5.heap.size, 1, none⟩ = some (.int .i64 er)) (exact ⟨y0, y1⟩) (first | (go_at_call 13; refine (err_any _ _).mono ?_; rintro e w' ⟨rfl, rfl⟩))
          rename_i hHeld
          clear hHeld y0 y1
          go_wp2_with fail
          go_roundw
          case rel => exact ⟨r + 1, by omega, by go_num, T6, N6⟩
          case measure => simp [intOf]; omega
        · have hend : Hid (Fr (fun _ => False) w wr) := Lib.hid (NC.out.mono (fun j hj h => by omega))
          go_wp2_with fail
          go_ret
          exact ⟨rfl, hend.out⟩

theorem run_ok (n : Int) (hn : (Lit.int .i64 n).wf = true) (pa : Option Addr) (len ca : Nat) (A : Nat → AskV) (hlen : len ≤ 1000) (w : World) (hA : AsksIn w w.heap.size pa len A) :
    Calls Try.prog 10 #[.int .i64 n, .slice pa len ca] w fun e w' => e = .returned (.bool true) ∧ Fr (fun _ => False) w w' := by
  by_cases h : n < 32 ∨ 4096 < n
  · refine (run_bad n h _ w).mono ?_
    rintro e w' ⟨he, rfl⟩
    exact ⟨he, Fr.refl _ _⟩
  · obtain ⟨m, rfl⟩ := Int.eq_ofNat_of_zero_le (show 0 ≤ n by omega)
    exact run_good m (by omega) (by omega) pa len ca A hlen w (Lib.hid hA)
end Go.Proofs.Ytpkhddnehhophaa
