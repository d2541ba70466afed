/- The document's disk: NewDisk. No condition but the size that the law names. -/
import Derived.Test.YtpkhddnehhophaaRefD
import Derived.Deep.RegionLaw

namespace Go.Proofs.Ytpkhddnehhophaa
open Go.RowKit
set_option linter.unusedVariables false

theorem step_run {P : Program} {ops : Array Oper} {o : Oper} {a : Act} {w w2 : World} {K : Act → World → Prop} {Q : Exit → Act → World → Prop} (hg : o.guard = none) (v : Value)
    (hrun : (execOp a.eval o).run P w = .ok (.value v) w2) (h : K (a.put o.dst v) w2) : if Region.wanted o (yielded ops a.tmps) = true then Oper.wp P o a w K Q else K (a.put o.dst undef) w := by
  rw [if_pos (by simp [Region.wanted, hg])]
  unfold Oper.wp
  rw [hrun]
  exact h

def RS.new (n : Nat) : RS := { n := n, firm := fun _ => z64, loose := [], down := false, left := -1 }
theorem info9r : (Try.prog.info? 9).map (fun i => (i.zero, i.size, i.bytes)) = some (some (.string ByteArray.empty), 1, 16) := by kernel_rfl

set_option maxRecDepth 100000 in
set_option maxHeartbeats 2000000 in
theorem rnew_ok (n : Nat) (h1 : 32 ≤ n) (h2 : n ≤ 4096) (w : World) :
    Calls Try.prog 23 #[.int .i64 n] w fun e w' => ∃ b g cap, e = .returned (.pointer (some ⟨b, 0, none⟩)) ∧ RRep w' w.heap.size b g cap (.slice none 0 0) (RS.new n) ∧ Fr (fun _ => False) w w' := by
  go_enter Try.func23, Try.ntmps23
  go_wp2
  go_loopw [4] (fun i wr => ∃ k : Nat, ∃ fv : Value, k ≤ n ∧ i = .int .i64 k ∧ Hid (wr.heap[w.heap.size]? = some (.cells #[fv, .slice none 0 0, .bool false, .int .i64 (-1)] 58 (0, 0))) ∧ Hid (wr.ownsRow w.heap.size 9 1 fv k (strs k fun _ => z64)) ∧ Hid (Fr (fun _ => False) w wr)) (fun i _ => n - (intOf i).toNat)
  case atStart => exact ⟨0, _, Nat.zero_le _, rfl, Lib.hid (heap_alloc_new w _), Lib.hid (World.ownsRow_nil _ _ _ _), Lib.hid ((Fr.refl _ w).alloc _)⟩
  case round =>
    obtain ⟨k, fv, hk, rfl, hd, ho, hf⟩ := hrel
    by_cases hlt : k < n
    · obtain ⟨i3, hi3, hz3, hs3, hb3⟩ := info_parts info9r
      have hsz : w.heap.size < wr.heap.size := (Array.getElem?_eq_some_iff.1 hd.out).1
      have hod : ((wr.alloc zblk).alloc (.cells #[.string ⟨z64.toArray⟩] 9)).drew.ownsRow w.heap.size 9 1 fv k (strs k fun _ => z64) := own_fr ((ho.out.alloc _).alloc _) ((Fr.refl (fun _ => False) _).drew) (fun _ _ => id)
      have hnews : ∀ j u, [Value.string ⟨z64.toArray⟩][j]? = some u → ((wr.alloc zblk).alloc (.cells #[.string ⟨z64.toArray⟩] 9)).drew.cell? ((⟨wr.heap.size + 1, 0, none⟩ : Addr).add j) = some u := by
        intro j u hu
        have hg : ((wr.alloc zblk).alloc (.cells #[.string ⟨z64.toArray⟩] 9)).drew.heap[wr.heap.size + 1]? = some (.cells #[.string ⟨z64.toArray⟩] 9 (0, 0)) := by
          have := heap_alloc_new (wr.alloc zblk) (.cells #[.string ⟨z64.toArray⟩] 9)
          rw [World.size_alloc] at this
          exact this
        rw [addr_add, cell_of_row _ _ _ _ _ _ hg, Nat.zero_add]
        rw [← hu, show #[Value.string ⟨z64.toArray⟩] = [Value.string ⟨z64.toArray⟩].toArray from rfl, List.getElem?_toArray]
      obtain ⟨v', W3, happ, hown', hgrow, hat⟩ := exec_append_own (P := Try.prog) ((wr.alloc zblk).alloc (.cells #[.string ⟨z64.toArray⟩] 9)).drew w.heap.size 33 9 i3 _ 1 16 Try.underlying33 hi3 hz3 hs3 hb3 rfl (by decide) fv k _ hod ⟨wr.heap.size + 1, 0, none⟩ 1 1 [.string ⟨z64.toArray⟩] rfl hnews (by intro u hu; simp at hu; subst hu; rfl) (by unfold maxLen; omega) (by omega) (by simp; omega)
      have hfb : fv.ownBlock ≠ some w.heap.size := by
        intro e
        rcases ho.out.2 with ⟨rfl, -⟩ | ⟨g3, c3, cur3, rfl, -, hh, -⟩
        · simp [Value.ownBlock] at e
        · simp [Value.ownBlock] at e; subst e; rw [hd.out] at hh; simp at hh
      have hd3 : W3.heap[w.heap.size]? = some (.cells #[fv, .slice none 0 0, .bool false, .int .i64 (-1)] 58 (0, 0)) := by
        rw [hgrow.block w.heap.size (by simp; omega) (Ne.symm hfb)]
        exact (Below.heap_alloc _ _ _ (by simp; omega)).trans ((Below.heap_alloc _ _ _ hsz).trans hd.out)
      have c3 : W3.cell? ⟨w.heap.size, 0, none⟩ = some fv := by rw [cell_of_row _ _ _ _ _ _ hd3]; rfl
      have f3 : W3.frozen? ⟨w.heap.size, 0, none⟩ = false := frozen_of_row _ _ _ _ _ hd3
      have hvb : v'.ownBlock ≠ some w.heap.size := by
        intro e
        rcases hown'.2 with ⟨rfl, -⟩ | ⟨g3, c3, cur3, rfl, -, hh, -⟩
        · simp [Value.ownBlock] at e
        · simp [Value.ownBlock] at e; subst e; rw [hd3] at hh; simp at hh
      have hF4 : Fr (fun k => k = w.heap.size) W3 (W3.setCell ⟨w.heap.size, 0, none⟩ v') := Fr.setCell (S := fun k => k = w.heap.size) (Fr.refl _ _) (p := ⟨w.heap.size, 0, none⟩) rfl _
      have hd4 : Hid ((W3.setCell ⟨w.heap.size, 0, none⟩ v').heap[w.heap.size]? = some (.cells #[v', .slice none 0 0, .bool false, .int .i64 (-1)] 58 (0, 0))) := by
        unfold Hid; rw [heap_setCell_same W3 w.heap.size 0 _ 58 _ hd3]; rfl
      have ho4 : Hid ((W3.setCell ⟨w.heap.size, 0, none⟩ v').ownsRow w.heap.size 9 1 v' (k + 1) (strs (k + 1) fun _ => z64)) := by
        unfold Hid
        rw [strs_succ]
        exact own_fr hown' hF4 (fun j hj e => hvb (by rw [hj, e]))
      have hf4 : Hid (Fr (fun _ => False) w (W3.setCell ⟨w.heap.size, 0, none⟩ v')) := by
        have hff := hf.out
        refine ⟨hgrow.os.trans hff.os, hgrow.tape.trans hff.tape, hgrow.output.trans hff.output, ?_, fun j hj _ => ?_⟩
        · have := hgrow.size; have := hff.size; simp [World.setCell] at *; omega
        · rw [hF4.block j (by have := hgrow.size; have := hff.size; simp at *; omega) (fun e => by omega), hgrow.block j (by have := hff.size; simp; omega) (fun e => by have := (hod.lt j e.symm).1; omega)]
          exact (Below.heap_alloc _ _ _ (by have := hff.size; simp; omega)).trans ((Below.heap_alloc _ _ _ (by have := hff.size; omega)).trans (hff.block j hj id))
      obtain ⟨g3, cp3, rfl⟩ : ∃ g3 cp3, v' = .slice (some ⟨g3, 0, none⟩) (k + 1) cp3 := by
        rcases hown'.2 with ⟨-, h0⟩ | ⟨g3, c3, cur3, hv, -⟩
        · omega
        · exact ⟨g3, c3, hv⟩
      have q0 : wr.cell? ⟨w.heap.size, 0, none⟩ = some fv := by rw [cell_of_row _ _ _ _ _ _ hd.out]; rfl
      have q1 : (wr.alloc zblk).cell? ⟨w.heap.size, 0, none⟩ = some fv := (World.cell?_of_block (w := wr) (a := ⟨w.heap.size, 0, none⟩) (Below.heap_alloc _ _ _ hsz)).trans q0
      have q2 : ((wr.alloc zblk).alloc (.cells #[.string ⟨z64.toArray⟩] 9)).cell? ⟨w.heap.size, 0, none⟩ = some fv := (World.cell?_of_block (w := wr.alloc zblk) (a := ⟨w.heap.size, 0, none⟩) (Below.heap_alloc _ _ _ (by simp; omega))).trans q1
      have hmk : ∀ W : World, (Instr.makeSlice 25 (.int .i64 64) (.int .i64 64)).run Try.prog W = .ok (.slice (some ⟨W.heap.size, 0, none⟩) 64 64) (W.alloc zblk) := fun W => by kernel_rfl
      have hcv : ∀ W : World, W = wr ∨ W = wr.drew → (Go.convert 25 9 (.slice (some ⟨wr.heap.size, 0, none⟩) 64 64)).run Try.prog (W.alloc zblk) = .ok (.string ⟨z64.toArray⟩) (W.alloc zblk) := fun W hW => by
        have := run_convert_bytes_back (W.alloc zblk) 25 9 5 ⟨wr.heap.size, 0, none⟩ 64 z64 Try.underlying25 Try.underlying5 Try.underlying9 (by rcases hW with e | e; (rw [e]; exact zeros_row wr); (rw [e]; exact zeros_row wr.drew))
        exact this
      have hcv1 := hcv wr (Or.inl rfl)
      have hcv2 := hcv wr.drew (Or.inr rfl)
      have hcv3 : (Go.convert 25 9 (.slice (some ⟨wr.heap.size, 0, none⟩) 64 64)).run Try.prog (wr.alloc zblk).drew = .ok (.string ⟨z64.toArray⟩) (wr.alloc zblk).drew := hcv2
      have HA := Lib.hid happ
      clear hcv hod hnews happ hown' hgrow hat hd3 hF4 hi3 hz3 hs3 hb3 hvb hfb
      generalize zblk = zb at *
      generalize (⟨z64.toArray⟩ : ByteArray) = zs at *
      go_wp2
      go_region_law ((refine step_run rfl _ (HA.out _ _ (.tmp 16) (.tmp 19) rfl rfl rfl) ?_))
      all_goals
        clear q0 q1 q2 c3 f3
        go_wp2
        go_roundw
        case rel => exact ⟨k + 1, _, by omega, by go_num, hd4, ho4, hf4⟩
        case measure => simp [intOf]; omega
    · obtain rfl : k = n := by omega
      obtain ⟨g3, cp3, rfl⟩ : ∃ g3 cp3, fv = .slice (some ⟨g3, 0, none⟩) k cp3 := by
        rcases ho.out.2 with ⟨-, h0⟩ | ⟨g3, c3, cur3, hv, -⟩
        · omega
        · exact ⟨g3, c3, hv⟩
      have HFIN : Hid (∃ b g cap, Ending.returned (.pointer (some ⟨w.heap.size, 0, none⟩)) = .returned (.pointer (some ⟨b, 0, none⟩)) ∧ RRep wr w.heap.size b g cap (.slice none 0 0) (RS.new k) ∧ Fr (fun _ => False) w wr) :=
        Lib.hid ⟨w.heap.size, g3, cp3, rfl, ⟨Nat.le_refl _, hd.out, h2, ho.out, World.ownsRow_nil _ _ _ _, by simp [RS.new], by simp [RS.new], by simp [RS.new], by simp [RS.new]⟩, hf.out⟩
      clear hd ho hf
      go_wp2
      go_ret

      exact HFIN.out
end Go.Proofs.Ytpkhddnehhophaa
