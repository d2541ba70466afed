/- DiskAll walked: whatever size and whatever is asked, the law returns true; a slice of what is asked, as it came in, opened. No condition. -/
import Derived.Test.YtpkhddnehhophaaRefI
import Derived.Deep.Slices
import Derived.ProofKit
import Derived.OpenShut
import Derived.ChangeOld
namespace Go.Proofs.Ytpkhddnehhophaa
open Go.Deep Go.ChangeShapes Go.WideShapes Go.ChangeAt Go.RowKit
set_option linter.unusedVariables false

/-- A slice of what is asked, as it came in. -/
theorem asks_open {H : Type} {enc : TypeId × Value → H} {W : World} {fuel : Nat} {cs : List Value} {x : DataW H × List MemPlace} (h : DataW.trod enc Try.prog W 0 (fun _ => true) true fuel 22 cs = some x) :
    ∃ pa len ca A, cs = [.slice pa len ca] ∧ len ≤ 9223372036854775807 ∧ AsksIn W W.heap.size pa len A := by
  rcases open_slice Try.underlying22 h with ⟨rfl, -⟩ | ⟨a, len, cap, m, fu, D, Pl, rfl, -, hl, hm, hmm, -, hel⟩
  · exact ⟨none, 0, 0, fun _ => ⟨0, 0, 0, ⟨#[]⟩, none, [], 0⟩, rfl, by omega, fun i hi => absurd hi (by omega)⟩
  · have c50 : Try.prog.cellsOf 50 = 5 := by kernel_rfl
    have hlm : len ≤ m := by rw [hmm]; split <;> omega
    obtain ⟨g, off, spot⟩ := a
    have hsp : 0 < len → spot = none := by
      intro h0
      obtain ⟨cs', h1, h2⟩ := hel 0 (by omega)
      rw [c50] at h1
      obtain ⟨-, hlen, hcell⟩ := World.cells?_some h1
      have hc0 := hcell 0 (by omega)
      rw [List.getElem?_eq_getElem (by omega)] at hc0
      have := World.cell?_spot hc0
      simpa [Addr.add] using this
    have each : ∀ i, i < len → ∃ q : AskV, q.Ok ∧ ∃ g2 off2, some (⟨g, off, spot⟩ : Addr) = some (⟨g2, off2, none⟩ : Addr) ∧ g2 < W.heap.size ∧ (∀ j v, q.cells[j]? = some v → W.cell? ⟨g2, off2 + i * 5 + j, none⟩ = some v) ∧ NumsAt W q.p q.zs ∧ ∀ x, q.p = some x → q.zs ≠ [] → x.block < W.heap.size := by
      intro i hi
      obtain rfl := hsp (by omega)
      obtain ⟨cs', h1, h2⟩ := hel i (by omega)
      rw [c50] at h1
      obtain ⟨-, hlen, hcell⟩ := World.cells?_some h1
      obtain ⟨xs, k, -, -, -, hxl, hf⟩ := DataW.trod_struct Try.underlying50 h2
      have f0 : DataW.trod enc Try.prog W 0 (fun _ => true) true k 3 (List.take (Try.prog.cellsOf 3) (List.drop 0 cs')) = xs[0]? := hf 0 _ rfl
      have f1 : DataW.trod enc Try.prog W 0 (fun _ => true) true k 3 (List.take (Try.prog.cellsOf 3) (List.drop 1 cs')) = xs[1]? := hf 1 _ rfl
      have f2 : DataW.trod enc Try.prog W 0 (fun _ => true) true k 3 (List.take (Try.prog.cellsOf 3) (List.drop 2 cs')) = xs[2]? := hf 2 _ rfl
      have f3 : DataW.trod enc Try.prog W 0 (fun _ => true) true k 9 (List.take (Try.prog.cellsOf 9) (List.drop 3 cs')) = xs[3]? := hf 3 _ rfl
      have f4 : DataW.trod enc Try.prog W 0 (fun _ => true) true k 37 (List.take (Try.prog.cellsOf 37) (List.drop 4 cs')) = xs[4]? := hf 4 _ rfl
      match cs', hlen with
      | [v0, v1, v2, v3, v4], _ =>
        have c3 : Try.prog.cellsOf 3 = 1 := by kernel_rfl
        have c9 : Try.prog.cellsOf 9 = 1 := by kernel_rfl
        have c37 : Try.prog.cellsOf 37 = 1 := by kernel_rfl
        rw [c3] at f0 f1 f2
        rw [c9] at f3
        rw [c37] at f4
        simp only [List.drop_zero, List.drop_succ_cons, List.take_succ_cons, List.take_zero] at f0 f1 f2 f3 f4
        have g0 : ∃ y, DataW.trod enc Try.prog W 0 (fun _ => true) true k 3 [v0] = some y := ⟨_, f0.trans (List.getElem?_eq_getElem (by rw [hxl]; decide))⟩
        have g1 : ∃ y, DataW.trod enc Try.prog W 0 (fun _ => true) true k 3 [v1] = some y := ⟨_, f1.trans (List.getElem?_eq_getElem (by rw [hxl]; decide))⟩
        have g2 : ∃ y, DataW.trod enc Try.prog W 0 (fun _ => true) true k 3 [v2] = some y := ⟨_, f2.trans (List.getElem?_eq_getElem (by rw [hxl]; decide))⟩
        have g3 : ∃ y, DataW.trod enc Try.prog W 0 (fun _ => true) true k 9 [v3] = some y := ⟨_, f3.trans (List.getElem?_eq_getElem (by rw [hxl]; decide))⟩
        have g4 : ∃ y, DataW.trod enc Try.prog W 0 (fun _ => true) true k 37 [v4] = some y := ⟨_, f4.trans (List.getElem?_eq_getElem (by rw [hxl]; decide))⟩
        clear f0 f1 f2 f3 f4 hf
        obtain ⟨y0, g0⟩ := g0
        obtain ⟨y1, g1⟩ := g1
        obtain ⟨y2, g2⟩ := g2
        obtain ⟨y3, g3⟩ := g3
        obtain ⟨y4, g4⟩ := g4
        obtain ⟨n0, e0, -, o0⟩ := DataW.trod_int Try.underlying3 g0
        obtain ⟨n1, e1, -, o1⟩ := DataW.trod_int Try.underlying3 g1
        obtain ⟨n2, e2, -, o2⟩ := DataW.trod_int Try.underlying3 g2
        obtain ⟨s3, e3, -, o3⟩ := DataW.trod_string Try.underlying9 g3
        simp only [List.cons.injEq, and_true] at e0 e1 e2 e3
        subst e0 e1 e2 e3
        have hcell2 : ∀ j, j < 5 → W.cell? ⟨g, off + i * 5 + j, none⟩ = [Value.int .i64 n0, .int .i64 n1, .int .i64 n2, .string s3, v4][j]? := by
          intro j hj
          have := hcell j hj
          rw [addr_add, addr_add] at this
          exact this
        have hgN : g < W.heap.size := block_lt_of_cell (hcell2 0 (by omega))
        -- the numbers
        obtain ⟨p4, l4, k4, z4, e4, hz4, hnum, hlt4⟩ : ∃ p4 l4 k4 z4, v4 = .slice p4 l4 k4 ∧ l4 = z4.length ∧ NumsAt W p4 z4 ∧ l4 ≤ maxLen ∧ ∀ x, p4 = some x → z4 ≠ [] → x.block < W.heap.size := by
          rcases open_ints Try.underlying37 Try.underlying3 (by kernel_rfl) g4 with ⟨hcs, -⟩ | ⟨x, l, c, zs, hcs, -, hl2, hm2, hz, -, hcz, hwz⟩
          · simp only [List.cons.injEq, and_true] at hcs
            exact ⟨none, 0, 0, [], hcs, rfl, fun j hj => absurd hj (by simp), by unfold maxLen; omega, fun x hx => by cases hx⟩
          · simp only [List.cons.injEq, and_true] at hcs
            obtain ⟨gz, oz, sz⟩ := x
            have hzl : zs.length = c := by simpa using hz
            have htl : (zs.take l).length = l := by rw [List.length_take]; omega
            refine ⟨some ⟨gz, oz, sz⟩, l, c, zs.take l, hcs, htl.symm, ?_, by omega, ?_⟩
            · intro j hj
              rw [htl] at hj
              have h0 := hcz 0 (by omega)
              have hsz : sz = none := by have := World.cell?_spot h0; simpa [Addr.add] using this
              subst hsz
              refine ⟨gz, oz, rfl, ?_⟩
              have := hcz j (by omega)
              rw [addr_add] at this
              rw [this, List.getD_eq_getElem?_getD, List.getElem?_eq_getElem (by omega), List.getElem_take]
              rfl
            · intro x hx hne
              cases hx
              have hl0 : 0 < l := by
                rcases Nat.eq_zero_or_pos l with h0 | h0
                · subst h0; simp at hne
                · exact h0
              exact block_lt_of_cell (hcz 0 (by omega))
        subst e4
        subst hz4
        refine ⟨⟨n0, n1, n2, s3, p4, z4, k4⟩, ⟨o0, o1, o2, by have := hlt4.1; unfold maxLen at this; exact this, by unfold maxLen at o3; exact o3⟩, g, off, rfl, hgN, ?_, hnum, hlt4.2⟩
        intro j v hv
        have hj : j < 5 := by
          have := (List.getElem?_eq_some_iff.1 hv).1
          simpa [AskV.cells] using this
        rw [hcell2 j hj]
        exact hv
    haveI : Inhabited AskV := ⟨⟨0, 0, 0, ⟨#[]⟩, none, [], 0⟩⟩
    obtain ⟨A, hA⟩ := choose_lt each
    exact ⟨some ⟨g, off, spot⟩, len, cap, A, rfl, by unfold maxLen at hm; omega, fun i hi => hA i hi⟩

theorem all_law (n : Int) (hn : (Lit.int .i64 n).wf = true) (pa : Option Addr) (len ca : Nat) (hl : len ≤ 9223372036854775807) (A : Nat → AskV) (w : World) (hA : AsksIn w w.heap.size pa len A) :
    Calls Try.prog 3 #[.int .i64 n, .slice pa len ca] w fun e w' => e = .returned (.bool true) ∧ Fr (fun _ => False) w w' := by
  by_cases h1 : 60 < len
  · have d1 : decide (60 < (len : Int)) = true := by simp; omega
    clear hA
    go_enter Try.func3, Try.ntmps3
    go_wp2_with (go_at_call 9; refine (awake_ok _).mono ?_; rintro e w1 ⟨rfl, hb⟩)
    go_ret
    exact ⟨rfl, hb⟩
  · have d1 : decide (60 < (len : Int)) = false := by simp; omega
    by_cases h2 : 200 < n ∧ n ≤ 4096
    · obtain ⟨h2, h3⟩ := h2
      have d2 : decide (200 < n) = true := by simpa using h2
      have d3 : decide (n ≤ 4096) = true := by simpa using h3
      clear hA
      go_enter Try.func3, Try.ntmps3
      go_wp2_with (go_at_call 9; refine (awake_ok _).mono ?_; rintro e w1 ⟨rfl, hb⟩)
      go_ret
      exact ⟨rfl, hb⟩
    · have HR := Lib.hid (run_ok n hn pa len ca A (by omega) w hA)
      clear hA
      by_cases h3 : 200 < n
      · have d2 : decide (200 < n) = true := by simpa using h3
        have d3 : decide (n ≤ 4096) = false := by simp; omega
        go_enter Try.func3, Try.ntmps3
        go_wp2_with fail
        refine HR.out.mono ?_
        rintro e w1 ⟨rfl, hf1⟩
        go_wp2_with fail
        refine (awake_ok _).mono ?_
        rintro e w2 ⟨rfl, hf2⟩
        have HF := Lib.hid (hf1.trans hf2)
        go_wp2
        go_ret
        exact ⟨rfl, HF.out⟩
      · have d2 : decide (200 < n) = false := by simpa using h3
        go_enter Try.func3, Try.ntmps3
        go_wp2_with fail
        refine HR.out.mono ?_
        rintro e w1 ⟨rfl, hf1⟩
        go_wp2_with fail
        refine (awake_ok _).mono ?_
        rintro e w2 ⟨rfl, hf2⟩
        have HF := Lib.hid (hf1.trans hf2)
        go_wp2
        go_ret
        exact ⟨rfl, HF.out⟩
end Go.Proofs.Ytpkhddnehhophaa
