/- Asks walked: what it makes of bytes is a slice of what is asked, in memory of its own. No condition but what the law names. -/
import Derived.Test.YtpkhddnehhophaaMadeA
import Derived.IntWalk
import Derived.Deep.CutBlock
import Derived.Deep.DeepCutAuto
import Derived.Deep.RegionHeld3
namespace Go.Proofs.Ytpkhddnehhophaa
open Go.RowKit
set_option linter.unusedVariables false

set_option maxRecDepth 100000 in
set_option maxHeartbeats 40000000 in
theorem asks_walk (pa : Option Addr) (len cap : Nat) (f : Nat → Nat) (hl : len ≤ 9223372036854775807) (hlc : len ≤ cap) (w : World) (hB : Hid (BytesAt w pa len f)) :
    Calls Try.prog 11 #[.slice pa len cap] w (AsksTold w) := by
  go_enter Try.func11, Try.ntmps11
  go_wp2
  go_loopw [3, 4] (fun v i wr => ∃ k I : Nat, ∃ A : Nat → AskV, k ≤ 50 ∧ I ≤ 150 ∧ i = .int .i64 I ∧ (∃ p c, v = .slice p k c) ∧ Hid (I = 3 * k) ∧ Hid (wr.ownsRow w.heap.size 50 5 v k ((List.range k).flatMap fun j => (A j).cells)) ∧ Hid (∀ j, j < k → (A j).Ok ∧ NumRow wr (A j)) ∧ Hid (Fr (fun k => w.heap.size ≤ k) w wr)) (fun _ i _ => 150 - (intOf i).toNat)
  case atStart => exact ⟨0, 0, fun _ => ⟨0, 0, 0, ⟨#[]⟩, none, [], 0⟩, Nat.zero_le _, Nat.zero_le _, rfl, ⟨none, 0, rfl⟩, Lib.hid rfl, Lib.hid (World.ownsRow_nil _ _ _ _), Lib.hid (fun j hj => absurd hj (by omega)), Lib.hid (Fr.refl _ _)⟩
  case round =>
    obtain ⟨k, I, A, hk, hI2, rfl, ⟨pl, cl, rfl⟩, hI, hown, hnum, NF⟩ := hrel
    by_cases hgo : I + 2 < len ∧ k < 50
    · obtain ⟨g1, g2⟩ := hgo
      obtain ⟨hf0, g, off, rfl, hc0⟩ := hB.out I (by omega)
      obtain ⟨hf1, g', off', he, hc1⟩ := hB.out (I + 1) (by omega)
      cases he
      obtain ⟨hf2, g', off', he, hc2⟩ := hB.out (I + 2) (by omega)
      cases he
      generalize f I = x0 at *
      generalize f (I + 1) = x1 at *
      generalize f (I + 2) = x2 at *
      have hgN : g < w.heap.size := block_lt_of_cell hc0
      have keep : ∀ W, Fr (fun k => wr.heap.size ≤ k) wr W → Fr (fun k => wr.heap.size ≤ k) wr W ∧ W.cell? ⟨g, off + I, none⟩ = some (.int .u8 x0) ∧ W.cell? ⟨g, off + (I + 1), none⟩ = some (.int .u8 x1) ∧ W.cell? ⟨g, off + (I + 2), none⟩ = some (.int .u8 x2) ∧ (Go.convert 25 9 (.slice (some ⟨g, off + I, none⟩) 3 (cap - I))).run Try.prog W = .ok (.string ⟨#[UInt8.ofNat x0, UInt8.ofNat x1, UInt8.ofNat x2]⟩) W := by
        intro W hF0
        have hF : Fr (fun k => w.heap.size ≤ k) w W := NF.out.trans (hF0.mono (fun j hj h => by have := NF.out.size; omega))
        have k0 := (World.cell?_of_block (w := w) (w' := W) (a := ⟨g, off + I, none⟩) (hF.block g hgN (by omega))).trans hc0
        have k1 := (World.cell?_of_block (w := w) (w' := W) (a := ⟨g, off + (I + 1), none⟩) (hF.block g hgN (by omega))).trans hc1
        have k2 := (World.cell?_of_block (w := w) (w' := W) (a := ⟨g, off + (I + 2), none⟩) (hF.block g hgN (by omega))).trans hc2
        exact ⟨hF0, k0, k1, k2, bytes_str W g (off + I) _ x0 x1 x2 hf0 hf1 hf2 k0 k1 k2⟩
      have HP := Lib.hid keep
      obtain ⟨-, q0, q1, q2, qs⟩ := keep wr (Fr.refl _ _)
      have hst : Hid ((⟨#[UInt8.ofNat x0, UInt8.ofNat x1, UInt8.ofNat x2]⟩ : ByteArray).size ≤ 9223372036854775807) := by show 3 ≤ 9223372036854775807; omega
      generalize hstr : (⟨#[UInt8.ofNat x0, UInt8.ofNat x1, UInt8.ofNat x2]⟩ : ByteArray) = st at *
      have i0 : (0 : Int) ≤ (I : Int) := by omega
      have i1 : IntKind.i64.wrap ((I : Int) + 1) = (I : Int) + 1 := IntWalk.i64_in _ (by omega)
      have i2 : IntKind.i64.wrap ((I : Int) + 2) = (I : Int) + 2 := IntWalk.i64_in _ (by omega)
      have i3 : IntKind.i64.wrap ((I : Int) + 3) = (I : Int) + 3 := IntWalk.i64_in _ (by omega)
      have j1 : ((I : Int) + 1).toNat = I + 1 := by omega
      have j2 : ((I : Int) + 2).toNat = I + 2 := by omega
      have j3 : ((I : Int) + 3).toNat = I + 3 := by omega
      have l0 : (I : Int) < (len : Int) := by omega
      have l1 : (I : Int) + 1 < (len : Int) := by omega
      have l2 : (I : Int) + 2 < (len : Int) := by omega
      have l3 : (I : Int) + 3 ≤ (cap : Int) := by omega
      have l4 : I ≤ I + 3 := by omega
      have l5 : I + 3 ≤ cap := by omega
      have e3 : I + 3 - I = 3 := by omega
      have hcI : ¬ cap = I := by omega
      have p1 : (0 : Int) ≤ (I : Int) + 1 := by omega
      have p2 : (0 : Int) ≤ (I : Int) + 2 := by omega
      have p3 : (0 : Int) ≤ (I : Int) + 3 := by omega
      clear hc0 hc1 hc2 keep
      have NB : Fr (fun k => wr.heap.size ≤ k) wr wr := Fr.refl _ _
      have hNW : wr.heap.size ≤ wr.heap.size := Nat.le_refl _
      have hlt2 : ∀ n : Nat, n < n + 1 := fun n => by omega
      obtain ⟨d0, hd0, hd0a⟩ : ∃ d : Nat, (x0 : Int).tmod 9 = (d : Int) ∧ d < 9 := ⟨x0 % 9, by rw [Int.tmod_eq_emod_of_nonneg (by omega)]; omega, by omega⟩
      obtain ⟨d1, hd1, hd1a⟩ : ∃ d : Nat, (x1 : Int).tmod 34 = (d : Int) ∧ d < 34 := ⟨x1 % 34, by rw [Int.tmod_eq_emod_of_nonneg (by omega)]; omega, by omega⟩
      obtain ⟨d2, hd2, hd2a⟩ : ∃ d : Nat, (x2 : Int).tmod 66 = (d : Int) ∧ d < 66 := ⟨x2 % 66, by rw [Int.tmod_eq_emod_of_nonneg (by omega)]; omega, by omega⟩
      have v0 : IntKind.i64.wrap (x0 : Int) = (x0 : Int) := IntWalk.i64_in _ (by omega)
      have v1 : IntKind.i64.wrap (x1 : Int) = (x1 : Int) := IntWalk.i64_in _ (by omega)
      have v2 : IntKind.i64.wrap (x2 : Int) = (x2 : Int) := IntWalk.i64_in _ (by omega)
      go_wp2
      go_region_held3 (fun w' => Fr (fun k => wr.heap.size ≤ k) wr w' ∧ w'.cell? ⟨g, off + I, none⟩ = some (.int .u8 x0) ∧ w'.cell? ⟨g, off + (I + 1), none⟩ = some (.int .u8 x1) ∧ w'.cell? ⟨g, off + (I + 2), none⟩ = some (.int .u8 x2) ∧ (Go.convert 25 9 (.slice (some ⟨g, off + I, none⟩) 3 (cap - I))).run Try.prog w' = .ok (.string st) w') (first | assumption | ((with_reducible refine HP.out _ ?_); repeat (first | exact NB | (with_reducible refine nf_drew ?_) | (with_reducible refine nf_alloc ?_ _) | (with_reducible refine nf_set ?_ hNW _ _) | (with_reducible refine nf_call ?_ hF14)))) (first | (go_at_call 14; refine (sector_walk _ hst.out _).mono ?_; rintro e w1 ⟨rfl, hF14⟩; have hcc := frcell hF14; have hff := frfrozen hF14))
      · have hS := ‹Fr _ _ _ ∧ _›
        have NZ := Lib.hid hS.1
        have hm : wr.heap.size ≤ w1.heap.size := hF14.size
        have hz := Lib.hid (heap_alloc_new w1 (.cells #[.int .i64 (d0 : Int), .int .i64 (d1 : Int), .int .i64 (d2 : Int), .string ⟨(pad st.data.toList).toArray⟩, .slice none 0 0] 50))
        clear hS q0 q1 q2 qs hcc hff hF14 i1 i2 i3 NB hNW
        go_upto_region 6 with (fail)
        generalize w1.alloc (.cells #[.int .i64 (d0 : Int), .int .i64 (d1 : Int), .int .i64 (d2 : Int), .string ⟨(pad st.data.toList).toArray⟩, .slice none 0 0] 50) = Wz at *
        generalize w1.heap.size = m at *
        have hz2 : Wz.heap[m]? = some (.cells #[.int .i64 (d0 : Int), .int .i64 (d1 : Int), .int .i64 (d2 : Int), .string ⟨(pad st.data.toList).toArray⟩, .slice none 0 0] 50 (0, 0)) := hz.out
        have hmz : m < Wz.heap.size := (Array.getElem?_eq_some_iff.1 hz2).1
        have z0 : Wz.cell? ⟨m, 0, none⟩ = some (.int .i64 (d0 : Int)) := by rw [cell_of_row _ _ _ _ _ _ hz2]; rfl
        have z4 : Wz.cell? ⟨m, 4, none⟩ = some (.slice none 0 0) := by rw [cell_of_row _ _ _ _ _ _ hz2]; rfl
        have zf0 : Wz.frozen? ⟨m, 0, none⟩ = false := frozen_of_row _ _ _ _ _ hz2
        have zf4 : Wz.frozen? ⟨m, 4, none⟩ = false := frozen_of_row _ _ _ _ _ hz2
        have hz3 := Lib.hid hz2
        by_cases e5 : d0 = 5
        · have t5 : ((d0 : Int) == 5) = true := by simp [e5]
          clear e5
          go_upto_region 14 with (fail)
          have hq : Hid ((Wz.setCell ⟨m, 0, none⟩ (.int .i64 0)).heap[m]? = some (.cells ((⟨0, d1, d2, ⟨(pad st.data.toList).toArray⟩, none, [], 0⟩ : AskV)).cells.toArray 50 (0, 0))) := Lib.hid (heap_setCell_same Wz m 0 _ 50 _ hz2)
          have NQ : Fr (fun k => wr.heap.size ≤ k) wr ((Wz.setCell ⟨m, 0, none⟩ (.int .i64 0))) := nf_set NZ.out hm 0 _
          have hok : ((⟨0, d1, d2, ⟨(pad st.data.toList).toArray⟩, none, [], 0⟩ : AskV)).Ok := ⟨by simp [Lit.wf, IntKind.min, IntKind.max, IntKind.signed, IntKind.bits] <;> omega, by simp [Lit.wf, IntKind.min, IntKind.max, IntKind.signed, IntKind.bits] <;> omega, by simp [Lit.wf, IntKind.min, IntKind.max, IntKind.signed, IntKind.bits] <;> omega, by simp, by show (pad st.data.toList).length ≤ _; rw [pad_length]; omega⟩
          have hnr : NumRow ((Wz.setCell ⟨m, 0, none⟩ (.int .i64 0))) ((⟨0, d1, d2, ⟨(pad st.data.toList).toArray⟩, none, [], 0⟩ : AskV)) := Or.inl ⟨rfl, rfl⟩
          obtain ⟨v', W3, happ, hv', hown', hnum', NF'⟩ := one_more (x := (⟨0, d1, d2, ⟨(pad st.data.toList).toArray⟩, none, [], 0⟩ : AskV)) g2 hown.out hnum.out NF.out NQ hok hnr
          have hcl : Hid (∀ j v, ((⟨0, d1, d2, ⟨(pad st.data.toList).toArray⟩, none, [], 0⟩ : AskV)).cells[j]? = some v → ((Wz.setCell ⟨m, 0, none⟩ (.int .i64 0))).cell? ⟨m, 0 + j, none⟩ = some v) := Lib.hid (fun j v hv => by rw [cell_of_row _ _ _ _ _ _ hq.out, Nat.zero_add, List.getElem?_toArray]; exact hv)
          generalize (Wz.setCell ⟨m, 0, none⟩ (.int .i64 0)) = Wq at *
          generalize (⟨0, d1, d2, ⟨(pad st.data.toList).toArray⟩, none, [], 0⟩ : AskV) = x at *
          have HBS := Lib.hid (fun (ρ : Operand → Value) (o : Oper) (ho : o.op = .buildSlice 22 1 #[(0, .tmp 81)]) (hx : ρ (.tmp 81) = .agg x.cells.toArray) => exec_buildSlice1 (P := Try.prog) Wq 22 50 (.tmp 81) ho x.cells hx Try.underlying22 size50 (by show 5 ≤ 16777216; omega) _ (zero50 _))
          have HA := Lib.hid happ
          have hsz50 : Hid ((Try.prog.info? 50).map (·.size) = some x.cells.length) := Lib.hid size50
          have R1 := Lib.hid hown'
          have R2 := Lib.hid hnum'
          have R3 := Lib.hid NF'
          clear happ hown' hnum' NF' hok hnr NQ hq hown hnum NF NZ HP hz
          go_wp2_with (first | (refine wpList_load_seg rfl 50 (.tmp 5) rfl m 0 rfl x.cells _ hcl.out Try.underlying50 rfl hsz50.out ?_) | (refine wpList_run rfl _ (HBS.out _ _ rfl rfl) ?_) | (at_builtin; refine wpList_run rfl _ (HA.out _ _ (.tmp 80) (.tmp 82) rfl rfl rfl) ?_))
          go_roundw
          case rel => exact ⟨k + 1, I + 3, _, by omega, by have := hI.out; omega, by go_num, hv', Lib.hid (by have := hI.out; omega), R1, R2, R3⟩
          case measure => simp [intOf]; have := hI.out; omega
        · have t5 : ((d0 : Int) == 5) = false := by simpa using (show ¬ (d0 : Int) = 5 by omega)
          clear e5
          by_cases e6 : d0 = 6
          · have t6 : ((d0 : Int) == 6) = true := by simp [e6]
            clear e6
            go_upto_region 14 with (fail)
            have hq : Hid ((Wz.setCell ⟨m, 0, none⟩ (.int .i64 0)).heap[m]? = some (.cells ((⟨0, d1, d2, ⟨(pad st.data.toList).toArray⟩, none, [], 0⟩ : AskV)).cells.toArray 50 (0, 0))) := Lib.hid (heap_setCell_same Wz m 0 _ 50 _ hz2)
            have NQ : Fr (fun k => wr.heap.size ≤ k) wr ((Wz.setCell ⟨m, 0, none⟩ (.int .i64 0))) := nf_set NZ.out hm 0 _
            have hok : ((⟨0, d1, d2, ⟨(pad st.data.toList).toArray⟩, none, [], 0⟩ : AskV)).Ok := ⟨by simp [Lit.wf, IntKind.min, IntKind.max, IntKind.signed, IntKind.bits] <;> omega, by simp [Lit.wf, IntKind.min, IntKind.max, IntKind.signed, IntKind.bits] <;> omega, by simp [Lit.wf, IntKind.min, IntKind.max, IntKind.signed, IntKind.bits] <;> omega, by simp, by show (pad st.data.toList).length ≤ _; rw [pad_length]; omega⟩
            have hnr : NumRow ((Wz.setCell ⟨m, 0, none⟩ (.int .i64 0))) ((⟨0, d1, d2, ⟨(pad st.data.toList).toArray⟩, none, [], 0⟩ : AskV)) := Or.inl ⟨rfl, rfl⟩
            obtain ⟨v', W3, happ, hv', hown', hnum', NF'⟩ := one_more (x := (⟨0, d1, d2, ⟨(pad st.data.toList).toArray⟩, none, [], 0⟩ : AskV)) g2 hown.out hnum.out NF.out NQ hok hnr
            have hcl : Hid (∀ j v, ((⟨0, d1, d2, ⟨(pad st.data.toList).toArray⟩, none, [], 0⟩ : AskV)).cells[j]? = some v → ((Wz.setCell ⟨m, 0, none⟩ (.int .i64 0))).cell? ⟨m, 0 + j, none⟩ = some v) := Lib.hid (fun j v hv => by rw [cell_of_row _ _ _ _ _ _ hq.out, Nat.zero_add, List.getElem?_toArray]; exact hv)
            generalize (Wz.setCell ⟨m, 0, none⟩ (.int .i64 0)) = Wq at *
            generalize (⟨0, d1, d2, ⟨(pad st.data.toList).toArray⟩, none, [], 0⟩ : AskV) = x at *
            have HBS := Lib.hid (fun (ρ : Operand → Value) (o : Oper) (ho : o.op = .buildSlice 22 1 #[(0, .tmp 81)]) (hx : ρ (.tmp 81) = .agg x.cells.toArray) => exec_buildSlice1 (P := Try.prog) Wq 22 50 (.tmp 81) ho x.cells hx Try.underlying22 size50 (by show 5 ≤ 16777216; omega) _ (zero50 _))
            have HA := Lib.hid happ
            have hsz50 : Hid ((Try.prog.info? 50).map (·.size) = some x.cells.length) := Lib.hid size50
            have R1 := Lib.hid hown'
            have R2 := Lib.hid hnum'
            have R3 := Lib.hid NF'
            clear happ hown' hnum' NF' hok hnr NQ hq hown hnum NF NZ HP hz
            go_wp2_with (first | (refine wpList_load_seg rfl 50 (.tmp 5) rfl m 0 rfl x.cells _ hcl.out Try.underlying50 rfl hsz50.out ?_) | (refine wpList_run rfl _ (HBS.out _ _ rfl rfl) ?_) | (at_builtin; refine wpList_run rfl _ (HA.out _ _ (.tmp 80) (.tmp 82) rfl rfl rfl) ?_))
            go_roundw
            case rel => exact ⟨k + 1, I + 3, _, by omega, by have := hI.out; omega, by go_num, hv', Lib.hid (by have := hI.out; omega), R1, R2, R3⟩
            case measure => simp [intOf]; have := hI.out; omega
          · have t6 : ((d0 : Int) == 6) = false := by simpa using (show ¬ (d0 : Int) = 6 by omega)
            clear e6
            by_cases e7 : d0 = 7
            · have t7 : ((d0 : Int) == 7) = true := by simp [e7]
              clear e7
              go_upto_region 14 with (fail)
              have hq : Hid ((Wz.setCell ⟨m, 0, none⟩ (.int .i64 0)).heap[m]? = some (.cells ((⟨0, d1, d2, ⟨(pad st.data.toList).toArray⟩, none, [], 0⟩ : AskV)).cells.toArray 50 (0, 0))) := Lib.hid (heap_setCell_same Wz m 0 _ 50 _ hz2)
              have NQ : Fr (fun k => wr.heap.size ≤ k) wr ((Wz.setCell ⟨m, 0, none⟩ (.int .i64 0))) := nf_set NZ.out hm 0 _
              have hok : ((⟨0, d1, d2, ⟨(pad st.data.toList).toArray⟩, none, [], 0⟩ : AskV)).Ok := ⟨by simp [Lit.wf, IntKind.min, IntKind.max, IntKind.signed, IntKind.bits] <;> omega, by simp [Lit.wf, IntKind.min, IntKind.max, IntKind.signed, IntKind.bits] <;> omega, by simp [Lit.wf, IntKind.min, IntKind.max, IntKind.signed, IntKind.bits] <;> omega, by simp, by show (pad st.data.toList).length ≤ _; rw [pad_length]; omega⟩
              have hnr : NumRow ((Wz.setCell ⟨m, 0, none⟩ (.int .i64 0))) ((⟨0, d1, d2, ⟨(pad st.data.toList).toArray⟩, none, [], 0⟩ : AskV)) := Or.inl ⟨rfl, rfl⟩
              obtain ⟨v', W3, happ, hv', hown', hnum', NF'⟩ := one_more (x := (⟨0, d1, d2, ⟨(pad st.data.toList).toArray⟩, none, [], 0⟩ : AskV)) g2 hown.out hnum.out NF.out NQ hok hnr
              have hcl : Hid (∀ j v, ((⟨0, d1, d2, ⟨(pad st.data.toList).toArray⟩, none, [], 0⟩ : AskV)).cells[j]? = some v → ((Wz.setCell ⟨m, 0, none⟩ (.int .i64 0))).cell? ⟨m, 0 + j, none⟩ = some v) := Lib.hid (fun j v hv => by rw [cell_of_row _ _ _ _ _ _ hq.out, Nat.zero_add, List.getElem?_toArray]; exact hv)
              generalize (Wz.setCell ⟨m, 0, none⟩ (.int .i64 0)) = Wq at *
              generalize (⟨0, d1, d2, ⟨(pad st.data.toList).toArray⟩, none, [], 0⟩ : AskV) = x at *
              have HBS := Lib.hid (fun (ρ : Operand → Value) (o : Oper) (ho : o.op = .buildSlice 22 1 #[(0, .tmp 81)]) (hx : ρ (.tmp 81) = .agg x.cells.toArray) => exec_buildSlice1 (P := Try.prog) Wq 22 50 (.tmp 81) ho x.cells hx Try.underlying22 size50 (by show 5 ≤ 16777216; omega) _ (zero50 _))
              have HA := Lib.hid happ
              have hsz50 : Hid ((Try.prog.info? 50).map (·.size) = some x.cells.length) := Lib.hid size50
              have R1 := Lib.hid hown'
              have R2 := Lib.hid hnum'
              have R3 := Lib.hid NF'
              clear happ hown' hnum' NF' hok hnr NQ hq hown hnum NF NZ HP hz
              go_wp2_with (first | (refine wpList_load_seg rfl 50 (.tmp 5) rfl m 0 rfl x.cells _ hcl.out Try.underlying50 rfl hsz50.out ?_) | (refine wpList_run rfl _ (HBS.out _ _ rfl rfl) ?_) | (at_builtin; refine wpList_run rfl _ (HA.out _ _ (.tmp 80) (.tmp 82) rfl rfl rfl) ?_))
              go_roundw
              case rel => exact ⟨k + 1, I + 3, _, by omega, by have := hI.out; omega, by go_num, hv', Lib.hid (by have := hI.out; omega), R1, R2, R3⟩
              case measure => simp [intOf]; have := hI.out; omega
            · have t7 : ((d0 : Int) == 7) = false := by simpa using (show ¬ (d0 : Int) = 7 by omega)
              clear e7
              by_cases e8 : d0 = 8
              · have t8 : ((d0 : Int) == 8) = true := by simp [e8]
                clear e8
                go_upto_region 14 with (fail)
                have hq : Hid ((Wz.setCell ⟨m, 0, none⟩ (.int .i64 0)).heap[m]? = some (.cells ((⟨0, d1, d2, ⟨(pad st.data.toList).toArray⟩, none, [], 0⟩ : AskV)).cells.toArray 50 (0, 0))) := Lib.hid (heap_setCell_same Wz m 0 _ 50 _ hz2)
                have NQ : Fr (fun k => wr.heap.size ≤ k) wr ((Wz.setCell ⟨m, 0, none⟩ (.int .i64 0))) := nf_set NZ.out hm 0 _
                have hok : ((⟨0, d1, d2, ⟨(pad st.data.toList).toArray⟩, none, [], 0⟩ : AskV)).Ok := ⟨by simp [Lit.wf, IntKind.min, IntKind.max, IntKind.signed, IntKind.bits] <;> omega, by simp [Lit.wf, IntKind.min, IntKind.max, IntKind.signed, IntKind.bits] <;> omega, by simp [Lit.wf, IntKind.min, IntKind.max, IntKind.signed, IntKind.bits] <;> omega, by simp, by show (pad st.data.toList).length ≤ _; rw [pad_length]; omega⟩
                have hnr : NumRow ((Wz.setCell ⟨m, 0, none⟩ (.int .i64 0))) ((⟨0, d1, d2, ⟨(pad st.data.toList).toArray⟩, none, [], 0⟩ : AskV)) := Or.inl ⟨rfl, rfl⟩
                obtain ⟨v', W3, happ, hv', hown', hnum', NF'⟩ := one_more (x := (⟨0, d1, d2, ⟨(pad st.data.toList).toArray⟩, none, [], 0⟩ : AskV)) g2 hown.out hnum.out NF.out NQ hok hnr
                have hcl : Hid (∀ j v, ((⟨0, d1, d2, ⟨(pad st.data.toList).toArray⟩, none, [], 0⟩ : AskV)).cells[j]? = some v → ((Wz.setCell ⟨m, 0, none⟩ (.int .i64 0))).cell? ⟨m, 0 + j, none⟩ = some v) := Lib.hid (fun j v hv => by rw [cell_of_row _ _ _ _ _ _ hq.out, Nat.zero_add, List.getElem?_toArray]; exact hv)
                generalize (Wz.setCell ⟨m, 0, none⟩ (.int .i64 0)) = Wq at *
                generalize (⟨0, d1, d2, ⟨(pad st.data.toList).toArray⟩, none, [], 0⟩ : AskV) = x at *
                have HBS := Lib.hid (fun (ρ : Operand → Value) (o : Oper) (ho : o.op = .buildSlice 22 1 #[(0, .tmp 81)]) (hx : ρ (.tmp 81) = .agg x.cells.toArray) => exec_buildSlice1 (P := Try.prog) Wq 22 50 (.tmp 81) ho x.cells hx Try.underlying22 size50 (by show 5 ≤ 16777216; omega) _ (zero50 _))
                have HA := Lib.hid happ
                have hsz50 : Hid ((Try.prog.info? 50).map (·.size) = some x.cells.length) := Lib.hid size50
                have R1 := Lib.hid hown'
                have R2 := Lib.hid hnum'
                have R3 := Lib.hid NF'
                clear happ hown' hnum' NF' hok hnr NQ hq hown hnum NF NZ HP hz
                go_wp2_with (first | (refine wpList_load_seg rfl 50 (.tmp 5) rfl m 0 rfl x.cells _ hcl.out Try.underlying50 rfl hsz50.out ?_) | (refine wpList_run rfl _ (HBS.out _ _ rfl rfl) ?_) | (at_builtin; refine wpList_run rfl _ (HA.out _ _ (.tmp 80) (.tmp 82) rfl rfl rfl) ?_))
                go_roundw
                case rel => exact ⟨k + 1, I + 3, _, by omega, by have := hI.out; omega, by go_num, hv', Lib.hid (by have := hI.out; omega), R1, R2, R3⟩
                case measure => simp [intOf]; have := hI.out; omega
              · have t8 : ((d0 : Int) == 8) = false := by simpa using (show ¬ (d0 : Int) = 8 by omega)
                clear e8
                by_cases e3d : d0 = 3
                · have t3 : ((d0 : Int) == 3) = true := by simp [e3d]
                  clear e3d
                  obtain ⟨-, c0', c1', c2', -⟩ := HP.out Wz NZ.out
                  obtain ⟨y1, hy1⟩ : ∃ y : Int, (x1 : Int).tmod 5 = y := ⟨_, rfl⟩
                  obtain ⟨y2, hy2⟩ : ∃ y : Int, (x2 : Int).tmod 7 = y := ⟨_, rfl⟩
                  obtain ⟨y3, hy3⟩ : ∃ y : Int, IntKind.i64.wrap ((x1 : Int).tdiv 32 - 1) = y := ⟨_, rfl⟩
                  have i1 : IntKind.i64.wrap ((I : Int) + 1) = (I : Int) + 1 := IntWalk.i64_in _ (by omega)
                  have i2 : IntKind.i64.wrap ((I : Int) + 2) = (I : Int) + 2 := IntWalk.i64_in _ (by omega)
                  have z4a : (Wz.alloc (.cells #[.int .i64 y1, .int .i64 y2, .int .i64 y3] 3)).cell? ⟨m, 4, none⟩ = some (.slice none 0 0) := (World.cell?_of_block (w := Wz) (a := ⟨m, 4, none⟩) (Below.heap_alloc _ _ _ hmz)).trans z4
                  have f4a : (Wz.alloc (.cells #[.int .i64 y1, .int .i64 y2, .int .i64 y3] 3)).frozen? ⟨m, 4, none⟩ = false := (World.frozen?_of_block (w := Wz) (a := ⟨m, 4, none⟩) (Below.heap_alloc _ _ _ hmz)).trans zf4
                  go_upto_region 13 with (fail)
                  go_region
                  go_upto_region 14 with (fail)
                  have hne : Wz.heap.size ≠ m := by omega
                  clear c0' c1' c2' i1 i2 z4a f4a
                  have hq : Hid (((Wz.setCell ⟨m, 4, none⟩ (.slice (some ⟨Wz.heap.size, 0, none⟩) 3 3)).alloc (.cells #[.int .i64 y1, .int .i64 y2, .int .i64 ((x1 : Int) / 32 - 1)] 3)).drew.heap[m]? = some (.cells ((⟨d0, d1, d2, ⟨(pad st.data.toList).toArray⟩, some ⟨Wz.heap.size, 0, none⟩, [y1, y2, (x1 : Int) / 32 - 1], 3⟩ : AskV)).cells.toArray 50 (0, 0))) := Lib.hid ((Below.heap_alloc (Wz.setCell ⟨m, 4, none⟩ (.slice (some ⟨Wz.heap.size, 0, none⟩) 3 3)) (.cells #[.int .i64 y1, .int .i64 y2, .int .i64 ((x1 : Int) / 32 - 1)] 3) m (by simp [World.setCell]; exact hmz)).trans (heap_setCell_same Wz m 4 _ 50 (.slice (some ⟨Wz.heap.size, 0, none⟩) 3 3) hz2))
                  have NQ : Fr (fun k => wr.heap.size ≤ k) wr (((Wz.setCell ⟨m, 4, none⟩ (.slice (some ⟨Wz.heap.size, 0, none⟩) 3 3)).alloc (.cells #[.int .i64 y1, .int .i64 y2, .int .i64 ((x1 : Int) / 32 - 1)] 3)).drew) := nf_drew (nf_alloc (nf_set NZ.out hm 4 _) _)
                  have hok : ((⟨d0, d1, d2, ⟨(pad st.data.toList).toArray⟩, some ⟨Wz.heap.size, 0, none⟩, [y1, y2, (x1 : Int) / 32 - 1], 3⟩ : AskV)).Ok := ⟨by simp [Lit.wf, IntKind.min, IntKind.max, IntKind.signed, IntKind.bits] <;> omega, by simp [Lit.wf, IntKind.min, IntKind.max, IntKind.signed, IntKind.bits] <;> omega, by simp [Lit.wf, IntKind.min, IntKind.max, IntKind.signed, IntKind.bits] <;> omega, by simp, by show (pad st.data.toList).length ≤ _; rw [pad_length]; omega⟩
                  have hnr : NumRow (((Wz.setCell ⟨m, 4, none⟩ (.slice (some ⟨Wz.heap.size, 0, none⟩) 3 3)).alloc (.cells #[.int .i64 y1, .int .i64 y2, .int .i64 ((x1 : Int) / 32 - 1)] 3)).drew) ((⟨d0, d1, d2, ⟨(pad st.data.toList).toArray⟩, some ⟨Wz.heap.size, 0, none⟩, [y1, y2, (x1 : Int) / 32 - 1], 3⟩ : AskV)) := Or.inr ⟨Wz.heap.size, rfl, by have h9 := heap_alloc_new (Wz.setCell ⟨m, 4, none⟩ (.slice (some ⟨Wz.heap.size, 0, none⟩) 3 3)) (.cells #[.int .i64 y1, .int .i64 y2, .int .i64 ((x1 : Int) / 32 - 1)] 3); rw [show (Wz.setCell ⟨m, 4, none⟩ (.slice (some ⟨Wz.heap.size, 0, none⟩) 3 3)).heap.size = Wz.heap.size by simp [World.setCell]] at h9; exact h9⟩
                  obtain ⟨v', W3, happ, hv', hown', hnum', NF'⟩ := one_more (x := (⟨d0, d1, d2, ⟨(pad st.data.toList).toArray⟩, some ⟨Wz.heap.size, 0, none⟩, [y1, y2, (x1 : Int) / 32 - 1], 3⟩ : AskV)) g2 hown.out hnum.out NF.out NQ hok hnr
                  have hcl : Hid (∀ j v, ((⟨d0, d1, d2, ⟨(pad st.data.toList).toArray⟩, some ⟨Wz.heap.size, 0, none⟩, [y1, y2, (x1 : Int) / 32 - 1], 3⟩ : AskV)).cells[j]? = some v → (((Wz.setCell ⟨m, 4, none⟩ (.slice (some ⟨Wz.heap.size, 0, none⟩) 3 3)).alloc (.cells #[.int .i64 y1, .int .i64 y2, .int .i64 ((x1 : Int) / 32 - 1)] 3)).drew).cell? ⟨m, 0 + j, none⟩ = some v) := Lib.hid (fun j v hv => by rw [cell_of_row _ _ _ _ _ _ hq.out, Nat.zero_add, List.getElem?_toArray]; exact hv)
                  generalize ((Wz.setCell ⟨m, 4, none⟩ (.slice (some ⟨Wz.heap.size, 0, none⟩) 3 3)).alloc (.cells #[.int .i64 y1, .int .i64 y2, .int .i64 ((x1 : Int) / 32 - 1)] 3)).drew = Wq at *
                  generalize (⟨d0, d1, d2, ⟨(pad st.data.toList).toArray⟩, some ⟨Wz.heap.size, 0, none⟩, [y1, y2, (x1 : Int) / 32 - 1], 3⟩ : AskV) = x at *
                  have HBS := Lib.hid (fun (ρ : Operand → Value) (o : Oper) (ho : o.op = .buildSlice 22 1 #[(0, .tmp 81)]) (hx : ρ (.tmp 81) = .agg x.cells.toArray) => exec_buildSlice1 (P := Try.prog) Wq 22 50 (.tmp 81) ho x.cells hx Try.underlying22 size50 (by show 5 ≤ 16777216; omega) _ (zero50 _))
                  have HA := Lib.hid happ
                  have hsz50 : Hid ((Try.prog.info? 50).map (·.size) = some x.cells.length) := Lib.hid size50
                  have R1 := Lib.hid hown'
                  have R2 := Lib.hid hnum'
                  have R3 := Lib.hid NF'
                  clear happ hown' hnum' NF' hok hnr NQ hq hown hnum NF NZ HP hz
                  go_wp2_with (first | (refine wpList_load_seg rfl 50 (.tmp 5) rfl m 0 rfl x.cells _ hcl.out Try.underlying50 rfl hsz50.out ?_) | (refine wpList_run rfl _ (HBS.out _ _ rfl rfl) ?_) | (at_builtin; refine wpList_run rfl _ (HA.out _ _ (.tmp 80) (.tmp 82) rfl rfl rfl) ?_))
                  go_roundw
                  case rel => exact ⟨k + 1, I + 3, _, by omega, by have := hI.out; omega, by go_num, hv', Lib.hid (by have := hI.out; omega), R1, R2, R3⟩
                  case measure => simp [intOf]; have := hI.out; omega
                · have t3 : ((d0 : Int) == 3) = false := by simpa using (show ¬ (d0 : Int) = 3 by omega)
                  clear e3d
                  go_upto_region 14 with (fail)
                  have hq : Hid (Wz.heap[m]? = some (.cells ((⟨d0, d1, d2, ⟨(pad st.data.toList).toArray⟩, none, [], 0⟩ : AskV)).cells.toArray 50 (0, 0))) := Lib.hid (hz2)
                  have NQ : Fr (fun k => wr.heap.size ≤ k) wr (Wz) := NZ.out
                  have hok : ((⟨d0, d1, d2, ⟨(pad st.data.toList).toArray⟩, none, [], 0⟩ : AskV)).Ok := ⟨by simp [Lit.wf, IntKind.min, IntKind.max, IntKind.signed, IntKind.bits] <;> omega, by simp [Lit.wf, IntKind.min, IntKind.max, IntKind.signed, IntKind.bits] <;> omega, by simp [Lit.wf, IntKind.min, IntKind.max, IntKind.signed, IntKind.bits] <;> omega, by simp, by show (pad st.data.toList).length ≤ _; rw [pad_length]; omega⟩
                  have hnr : NumRow (Wz) ((⟨d0, d1, d2, ⟨(pad st.data.toList).toArray⟩, none, [], 0⟩ : AskV)) := Or.inl ⟨rfl, rfl⟩
                  obtain ⟨v', W3, happ, hv', hown', hnum', NF'⟩ := one_more (x := (⟨d0, d1, d2, ⟨(pad st.data.toList).toArray⟩, none, [], 0⟩ : AskV)) g2 hown.out hnum.out NF.out NQ hok hnr
                  have hcl : Hid (∀ j v, ((⟨d0, d1, d2, ⟨(pad st.data.toList).toArray⟩, none, [], 0⟩ : AskV)).cells[j]? = some v → (Wz).cell? ⟨m, 0 + j, none⟩ = some v) := Lib.hid (fun j v hv => by rw [cell_of_row _ _ _ _ _ _ hq.out, Nat.zero_add, List.getElem?_toArray]; exact hv)
                  obtain ⟨Wq, rfl⟩ : ∃ Wq : World, Wq = Wz := ⟨_, rfl⟩
                  generalize (⟨d0, d1, d2, ⟨(pad st.data.toList).toArray⟩, none, [], 0⟩ : AskV) = x at *
                  have HBS := Lib.hid (fun (ρ : Operand → Value) (o : Oper) (ho : o.op = .buildSlice 22 1 #[(0, .tmp 81)]) (hx : ρ (.tmp 81) = .agg x.cells.toArray) => exec_buildSlice1 (P := Try.prog) Wq 22 50 (.tmp 81) ho x.cells hx Try.underlying22 size50 (by show 5 ≤ 16777216; omega) _ (zero50 _))
                  have HA := Lib.hid happ
                  have hsz50 : Hid ((Try.prog.info? 50).map (·.size) = some x.cells.length) := Lib.hid size50
                  have R1 := Lib.hid hown'
                  have R2 := Lib.hid hnum'
                  have R3 := Lib.hid NF'
                  clear happ hown' hnum' NF' hok hnr NQ hq hown hnum NF NZ HP hz
                  go_wp2_with (first | (refine wpList_load_seg rfl 50 (.tmp 5) rfl m 0 rfl x.cells _ hcl.out Try.underlying50 rfl hsz50.out ?_) | (refine wpList_run rfl _ (HBS.out _ _ rfl rfl) ?_) | (at_builtin; refine wpList_run rfl _ (HA.out _ _ (.tmp 80) (.tmp 82) rfl rfl rfl) ?_))
                  go_roundw
                  case rel => exact ⟨k + 1, I + 3, _, by omega, by have := hI.out; omega, by go_num, hv', Lib.hid (by have := hI.out; omega), R1, R2, R3⟩
                  case measure => simp [intOf]; have := hI.out; omega
      · have hS := ‹Fr _ _ _ ∧ _›
        have NZ := Lib.hid hS.1
        have hb0 : w1.heap[wr.heap.size]? = some (.cells #[.int .i64 0, .int .i64 0, .int .i64 0, .string ⟨#[]⟩, .slice none 0 0] 50 (0, 0)) := (hF14.block wr.heap.size (by show wr.heap.size < (wr.alloc _).heap.size; simp) id).trans (heap_alloc_new wr _)
        have hz := Lib.hid (heap_setCell_same _ wr.heap.size 4 _ 50 (.slice none 0 0) (heap_setCell_same _ wr.heap.size 3 _ 50 (.string ⟨(pad st.data.toList).toArray⟩) (heap_setCell_same _ wr.heap.size 2 _ 50 (.int .i64 (d2 : Int)) (heap_setCell_same _ wr.heap.size 1 _ 50 (.int .i64 (d1 : Int)) (heap_setCell_same w1 wr.heap.size 0 _ 50 (.int .i64 (d0 : Int)) hb0)))))
        clear hS q0 q1 q2 qs hcc hff hF14 i1 i2 i3 hb0 NB hNW
        go_upto_region 6 with (fail)
        generalize (((((w1.setCell ⟨wr.heap.size, 0, none⟩ (.int .i64 (d0 : Int))).setCell ⟨wr.heap.size, 1, none⟩ (.int .i64 (d1 : Int))).setCell ⟨wr.heap.size, 2, none⟩ (.int .i64 (d2 : Int))).setCell ⟨wr.heap.size, 3, none⟩ (.string ⟨(pad st.data.toList).toArray⟩)).setCell ⟨wr.heap.size, 4, none⟩ (.slice none 0 0)) = Wz at *
        obtain ⟨m, hmm⟩ : ∃ m, Hid (m = wr.heap.size) := ⟨_, Lib.hid rfl⟩
        rw [← hmm.out] at hz
        have hm : wr.heap.size ≤ m := by rw [hmm.out]; exact Nat.le_refl _
        rw [show (⟨wr.heap.size, 0, none⟩ : Addr) = ⟨m, 0, none⟩ by rw [hmm.out]]
        have hz2 : Wz.heap[m]? = some (.cells #[.int .i64 (d0 : Int), .int .i64 (d1 : Int), .int .i64 (d2 : Int), .string ⟨(pad st.data.toList).toArray⟩, .slice none 0 0] 50 (0, 0)) := hz.out
        have hmz : m < Wz.heap.size := (Array.getElem?_eq_some_iff.1 hz2).1
        have z0 : Wz.cell? ⟨m, 0, none⟩ = some (.int .i64 (d0 : Int)) := by rw [cell_of_row _ _ _ _ _ _ hz2]; rfl
        have z4 : Wz.cell? ⟨m, 4, none⟩ = some (.slice none 0 0) := by rw [cell_of_row _ _ _ _ _ _ hz2]; rfl
        have zf0 : Wz.frozen? ⟨m, 0, none⟩ = false := frozen_of_row _ _ _ _ _ hz2
        have zf4 : Wz.frozen? ⟨m, 4, none⟩ = false := frozen_of_row _ _ _ _ _ hz2
        have hz3 := Lib.hid hz2
        by_cases e5 : d0 = 5
        · have t5 : ((d0 : Int) == 5) = true := by simp [e5]
          clear e5
          go_upto_region 14 with (fail)
          have hq : Hid ((Wz.setCell ⟨m, 0, none⟩ (.int .i64 0)).heap[m]? = some (.cells ((⟨0, d1, d2, ⟨(pad st.data.toList).toArray⟩, none, [], 0⟩ : AskV)).cells.toArray 50 (0, 0))) := Lib.hid (heap_setCell_same Wz m 0 _ 50 _ hz2)
          have NQ : Fr (fun k => wr.heap.size ≤ k) wr ((Wz.setCell ⟨m, 0, none⟩ (.int .i64 0))) := nf_set NZ.out hm 0 _
          have hok : ((⟨0, d1, d2, ⟨(pad st.data.toList).toArray⟩, none, [], 0⟩ : AskV)).Ok := ⟨by simp [Lit.wf, IntKind.min, IntKind.max, IntKind.signed, IntKind.bits] <;> omega, by simp [Lit.wf, IntKind.min, IntKind.max, IntKind.signed, IntKind.bits] <;> omega, by simp [Lit.wf, IntKind.min, IntKind.max, IntKind.signed, IntKind.bits] <;> omega, by simp, by show (pad st.data.toList).length ≤ _; rw [pad_length]; omega⟩
          have hnr : NumRow ((Wz.setCell ⟨m, 0, none⟩ (.int .i64 0))) ((⟨0, d1, d2, ⟨(pad st.data.toList).toArray⟩, none, [], 0⟩ : AskV)) := Or.inl ⟨rfl, rfl⟩
          obtain ⟨v', W3, happ, hv', hown', hnum', NF'⟩ := one_more (x := (⟨0, d1, d2, ⟨(pad st.data.toList).toArray⟩, none, [], 0⟩ : AskV)) g2 hown.out hnum.out NF.out NQ hok hnr
          have hcl : Hid (∀ j v, ((⟨0, d1, d2, ⟨(pad st.data.toList).toArray⟩, none, [], 0⟩ : AskV)).cells[j]? = some v → ((Wz.setCell ⟨m, 0, none⟩ (.int .i64 0))).cell? ⟨m, 0 + j, none⟩ = some v) := Lib.hid (fun j v hv => by rw [cell_of_row _ _ _ _ _ _ hq.out, Nat.zero_add, List.getElem?_toArray]; exact hv)
          generalize (Wz.setCell ⟨m, 0, none⟩ (.int .i64 0)) = Wq at *
          generalize (⟨0, d1, d2, ⟨(pad st.data.toList).toArray⟩, none, [], 0⟩ : AskV) = x at *
          have HBS := Lib.hid (fun (ρ : Operand → Value) (o : Oper) (ho : o.op = .buildSlice 22 1 #[(0, .tmp 81)]) (hx : ρ (.tmp 81) = .agg x.cells.toArray) => exec_buildSlice1 (P := Try.prog) Wq 22 50 (.tmp 81) ho x.cells hx Try.underlying22 size50 (by show 5 ≤ 16777216; omega) _ (zero50 _))
          have HA := Lib.hid happ
          have hsz50 : Hid ((Try.prog.info? 50).map (·.size) = some x.cells.length) := Lib.hid size50
          have R1 := Lib.hid hown'
          have R2 := Lib.hid hnum'
          have R3 := Lib.hid NF'
          clear happ hown' hnum' NF' hok hnr NQ hq hown hnum NF NZ HP hz
          go_wp2_with (first | (refine wpList_load_seg rfl 50 (.tmp 5) rfl m 0 rfl x.cells _ hcl.out Try.underlying50 rfl hsz50.out ?_) | (refine wpList_run rfl _ (HBS.out _ _ rfl rfl) ?_) | (at_builtin; refine wpList_run rfl _ (HA.out _ _ (.tmp 80) (.tmp 82) rfl rfl rfl) ?_))
          go_roundw
          case rel => exact ⟨k + 1, I + 3, _, by omega, by have := hI.out; omega, by go_num, hv', Lib.hid (by have := hI.out; omega), R1, R2, R3⟩
          case measure => simp [intOf]; have := hI.out; omega
        · have t5 : ((d0 : Int) == 5) = false := by simpa using (show ¬ (d0 : Int) = 5 by omega)
          clear e5
          by_cases e6 : d0 = 6
          · have t6 : ((d0 : Int) == 6) = true := by simp [e6]
            clear e6
            go_upto_region 14 with (fail)
            have hq : Hid ((Wz.setCell ⟨m, 0, none⟩ (.int .i64 0)).heap[m]? = some (.cells ((⟨0, d1, d2, ⟨(pad st.data.toList).toArray⟩, none, [], 0⟩ : AskV)).cells.toArray 50 (0, 0))) := Lib.hid (heap_setCell_same Wz m 0 _ 50 _ hz2)
            have NQ : Fr (fun k => wr.heap.size ≤ k) wr ((Wz.setCell ⟨m, 0, none⟩ (.int .i64 0))) := nf_set NZ.out hm 0 _
            have hok : ((⟨0, d1, d2, ⟨(pad st.data.toList).toArray⟩, none, [], 0⟩ : AskV)).Ok := ⟨by simp [Lit.wf, IntKind.min, IntKind.max, IntKind.signed, IntKind.bits] <;> omega, by simp [Lit.wf, IntKind.min, IntKind.max, IntKind.signed, IntKind.bits] <;> omega, by simp [Lit.wf, IntKind.min, IntKind.max, IntKind.signed, IntKind.bits] <;> omega, by simp, by show (pad st.data.toList).length ≤ _; rw [pad_length]; omega⟩
            have hnr : NumRow ((Wz.setCell ⟨m, 0, none⟩ (.int .i64 0))) ((⟨0, d1, d2, ⟨(pad st.data.toList).toArray⟩, none, [], 0⟩ : AskV)) := Or.inl ⟨rfl, rfl⟩
            obtain ⟨v', W3, happ, hv', hown', hnum', NF'⟩ := one_more (x := (⟨0, d1, d2, ⟨(pad st.data.toList).toArray⟩, none, [], 0⟩ : AskV)) g2 hown.out hnum.out NF.out NQ hok hnr
            have hcl : Hid (∀ j v, ((⟨0, d1, d2, ⟨(pad st.data.toList).toArray⟩, none, [], 0⟩ : AskV)).cells[j]? = some v → ((Wz.setCell ⟨m, 0, none⟩ (.int .i64 0))).cell? ⟨m, 0 + j, none⟩ = some v) := Lib.hid (fun j v hv => by rw [cell_of_row _ _ _ _ _ _ hq.out, Nat.zero_add, List.getElem?_toArray]; exact hv)
            generalize (Wz.setCell ⟨m, 0, none⟩ (.int .i64 0)) = Wq at *
            generalize (⟨0, d1, d2, ⟨(pad st.data.toList).toArray⟩, none, [], 0⟩ : AskV) = x at *
            have HBS := Lib.hid (fun (ρ : Operand → Value) (o : Oper) (ho : o.op = .buildSlice 22 1 #[(0, .tmp 81)]) (hx : ρ (.tmp 81) = .agg x.cells.toArray) => exec_buildSlice1 (P := Try.prog) Wq 22 50 (.tmp 81) ho x.cells hx Try.underlying22 size50 (by show 5 ≤ 16777216; omega) _ (zero50 _))
            have HA := Lib.hid happ
            have hsz50 : Hid ((Try.prog.info? 50).map (·.size) = some x.cells.length) := Lib.hid size50
            have R1 := Lib.hid hown'
            have R2 := Lib.hid hnum'
            have R3 := Lib.hid NF'
            clear happ hown' hnum' NF' hok hnr NQ hq hown hnum NF NZ HP hz
            go_wp2_with (first | (refine wpList_load_seg rfl 50 (.tmp 5) rfl m 0 rfl x.cells _ hcl.out Try.underlying50 rfl hsz50.out ?_) | (refine wpList_run rfl _ (HBS.out _ _ rfl rfl) ?_) | (at_builtin; refine wpList_run rfl _ (HA.out _ _ (.tmp 80) (.tmp 82) rfl rfl rfl) ?_))
            go_roundw
            case rel => exact ⟨k + 1, I + 3, _, by omega, by have := hI.out; omega, by go_num, hv', Lib.hid (by have := hI.out; omega), R1, R2, R3⟩
            case measure => simp [intOf]; have := hI.out; omega
          · have t6 : ((d0 : Int) == 6) = false := by simpa using (show ¬ (d0 : Int) = 6 by omega)
            clear e6
            by_cases e7 : d0 = 7
            · have t7 : ((d0 : Int) == 7) = true := by simp [e7]
              clear e7
              go_upto_region 14 with (fail)
              have hq : Hid ((Wz.setCell ⟨m, 0, none⟩ (.int .i64 0)).heap[m]? = some (.cells ((⟨0, d1, d2, ⟨(pad st.data.toList).toArray⟩, none, [], 0⟩ : AskV)).cells.toArray 50 (0, 0))) := Lib.hid (heap_setCell_same Wz m 0 _ 50 _ hz2)
              have NQ : Fr (fun k => wr.heap.size ≤ k) wr ((Wz.setCell ⟨m, 0, none⟩ (.int .i64 0))) := nf_set NZ.out hm 0 _
              have hok : ((⟨0, d1, d2, ⟨(pad st.data.toList).toArray⟩, none, [], 0⟩ : AskV)).Ok := ⟨by simp [Lit.wf, IntKind.min, IntKind.max, IntKind.signed, IntKind.bits] <;> omega, by simp [Lit.wf, IntKind.min, IntKind.max, IntKind.signed, IntKind.bits] <;> omega, by simp [Lit.wf, IntKind.min, IntKind.max, IntKind.signed, IntKind.bits] <;> omega, by simp, by show (pad st.data.toList).length ≤ _; rw [pad_length]; omega⟩
              have hnr : NumRow ((Wz.setCell ⟨m, 0, none⟩ (.int .i64 0))) ((⟨0, d1, d2, ⟨(pad st.data.toList).toArray⟩, none, [], 0⟩ : AskV)) := Or.inl ⟨rfl, rfl⟩
              obtain ⟨v', W3, happ, hv', hown', hnum', NF'⟩ := one_more (x := (⟨0, d1, d2, ⟨(pad st.data.toList).toArray⟩, none, [], 0⟩ : AskV)) g2 hown.out hnum.out NF.out NQ hok hnr
              have hcl : Hid (∀ j v, ((⟨0, d1, d2, ⟨(pad st.data.toList).toArray⟩, none, [], 0⟩ : AskV)).cells[j]? = some v → ((Wz.setCell ⟨m, 0, none⟩ (.int .i64 0))).cell? ⟨m, 0 + j, none⟩ = some v) := Lib.hid (fun j v hv => by rw [cell_of_row _ _ _ _ _ _ hq.out, Nat.zero_add, List.getElem?_toArray]; exact hv)
              generalize (Wz.setCell ⟨m, 0, none⟩ (.int .i64 0)) = Wq at *
              generalize (⟨0, d1, d2, ⟨(pad st.data.toList).toArray⟩, none, [], 0⟩ : AskV) = x at *
              have HBS := Lib.hid (fun (ρ : Operand → Value) (o : Oper) (ho : o.op = .buildSlice 22 1 #[(0, .tmp 81)]) (hx : ρ (.tmp 81) = .agg x.cells.toArray) => exec_buildSlice1 (P := Try.prog) Wq 22 50 (.tmp 81) ho x.cells hx Try.underlying22 size50 (by show 5 ≤ 16777216; omega) _ (zero50 _))
              have HA := Lib.hid happ
              have hsz50 : Hid ((Try.prog.info? 50).map (·.size) = some x.cells.length) := Lib.hid size50
              have R1 := Lib.hid hown'
              have R2 := Lib.hid hnum'
              have R3 := Lib.hid NF'
              clear happ hown' hnum' NF' hok hnr NQ hq hown hnum NF NZ HP hz
              go_wp2_with (first | (refine wpList_load_seg rfl 50 (.tmp 5) rfl m 0 rfl x.cells _ hcl.out Try.underlying50 rfl hsz50.out ?_) | (refine wpList_run rfl _ (HBS.out _ _ rfl rfl) ?_) | (at_builtin; refine wpList_run rfl _ (HA.out _ _ (.tmp 80) (.tmp 82) rfl rfl rfl) ?_))
              go_roundw
              case rel => exact ⟨k + 1, I + 3, _, by omega, by have := hI.out; omega, by go_num, hv', Lib.hid (by have := hI.out; omega), R1, R2, R3⟩
              case measure => simp [intOf]; have := hI.out; omega
            · have t7 : ((d0 : Int) == 7) = false := by simpa using (show ¬ (d0 : Int) = 7 by omega)
              clear e7
              by_cases e8 : d0 = 8
              · have t8 : ((d0 : Int) == 8) = true := by simp [e8]
                clear e8
                go_upto_region 14 with (fail)
                have hq : Hid ((Wz.setCell ⟨m, 0, none⟩ (.int .i64 0)).heap[m]? = some (.cells ((⟨0, d1, d2, ⟨(pad st.data.toList).toArray⟩, none, [], 0⟩ : AskV)).cells.toArray 50 (0, 0))) := Lib.hid (heap_setCell_same Wz m 0 _ 50 _ hz2)
                have NQ : Fr (fun k => wr.heap.size ≤ k) wr ((Wz.setCell ⟨m, 0, none⟩ (.int .i64 0))) := nf_set NZ.out hm 0 _
                have hok : ((⟨0, d1, d2, ⟨(pad st.data.toList).toArray⟩, none, [], 0⟩ : AskV)).Ok := ⟨by simp [Lit.wf, IntKind.min, IntKind.max, IntKind.signed, IntKind.bits] <;> omega, by simp [Lit.wf, IntKind.min, IntKind.max, IntKind.signed, IntKind.bits] <;> omega, by simp [Lit.wf, IntKind.min, IntKind.max, IntKind.signed, IntKind.bits] <;> omega, by simp, by show (pad st.data.toList).length ≤ _; rw [pad_length]; omega⟩
                have hnr : NumRow ((Wz.setCell ⟨m, 0, none⟩ (.int .i64 0))) ((⟨0, d1, d2, ⟨(pad st.data.toList).toArray⟩, none, [], 0⟩ : AskV)) := Or.inl ⟨rfl, rfl⟩
                obtain ⟨v', W3, happ, hv', hown', hnum', NF'⟩ := one_more (x := (⟨0, d1, d2, ⟨(pad st.data.toList).toArray⟩, none, [], 0⟩ : AskV)) g2 hown.out hnum.out NF.out NQ hok hnr
                have hcl : Hid (∀ j v, ((⟨0, d1, d2, ⟨(pad st.data.toList).toArray⟩, none, [], 0⟩ : AskV)).cells[j]? = some v → ((Wz.setCell ⟨m, 0, none⟩ (.int .i64 0))).cell? ⟨m, 0 + j, none⟩ = some v) := Lib.hid (fun j v hv => by rw [cell_of_row _ _ _ _ _ _ hq.out, Nat.zero_add, List.getElem?_toArray]; exact hv)
                generalize (Wz.setCell ⟨m, 0, none⟩ (.int .i64 0)) = Wq at *
                generalize (⟨0, d1, d2, ⟨(pad st.data.toList).toArray⟩, none, [], 0⟩ : AskV) = x at *
                have HBS := Lib.hid (fun (ρ : Operand → Value) (o : Oper) (ho : o.op = .buildSlice 22 1 #[(0, .tmp 81)]) (hx : ρ (.tmp 81) = .agg x.cells.toArray) => exec_buildSlice1 (P := Try.prog) Wq 22 50 (.tmp 81) ho x.cells hx Try.underlying22 size50 (by show 5 ≤ 16777216; omega) _ (zero50 _))
                have HA := Lib.hid happ
                have hsz50 : Hid ((Try.prog.info? 50).map (·.size) = some x.cells.length) := Lib.hid size50
                have R1 := Lib.hid hown'
                have R2 := Lib.hid hnum'
                have R3 := Lib.hid NF'
                clear happ hown' hnum' NF' hok hnr NQ hq hown hnum NF NZ HP hz
                go_wp2_with (first | (refine wpList_load_seg rfl 50 (.tmp 5) rfl m 0 rfl x.cells _ hcl.out Try.underlying50 rfl hsz50.out ?_) | (refine wpList_run rfl _ (HBS.out _ _ rfl rfl) ?_) | (at_builtin; refine wpList_run rfl _ (HA.out _ _ (.tmp 80) (.tmp 82) rfl rfl rfl) ?_))
                go_roundw
                case rel => exact ⟨k + 1, I + 3, _, by omega, by have := hI.out; omega, by go_num, hv', Lib.hid (by have := hI.out; omega), R1, R2, R3⟩
                case measure => simp [intOf]; have := hI.out; omega
              · have t8 : ((d0 : Int) == 8) = false := by simpa using (show ¬ (d0 : Int) = 8 by omega)
                clear e8
                by_cases e3d : d0 = 3
                · have t3 : ((d0 : Int) == 3) = true := by simp [e3d]
                  clear e3d
                  obtain ⟨-, c0', c1', c2', -⟩ := HP.out Wz NZ.out
                  obtain ⟨y1, hy1⟩ : ∃ y : Int, (x1 : Int).tmod 5 = y := ⟨_, rfl⟩
                  obtain ⟨y2, hy2⟩ : ∃ y : Int, (x2 : Int).tmod 7 = y := ⟨_, rfl⟩
                  obtain ⟨y3, hy3⟩ : ∃ y : Int, IntKind.i64.wrap ((x1 : Int).tdiv 32 - 1) = y := ⟨_, rfl⟩
                  have i1 : IntKind.i64.wrap ((I : Int) + 1) = (I : Int) + 1 := IntWalk.i64_in _ (by omega)
                  have i2 : IntKind.i64.wrap ((I : Int) + 2) = (I : Int) + 2 := IntWalk.i64_in _ (by omega)
                  have z4a : (Wz.alloc (.cells #[.int .i64 y1, .int .i64 y2, .int .i64 y3] 3)).cell? ⟨m, 4, none⟩ = some (.slice none 0 0) := (World.cell?_of_block (w := Wz) (a := ⟨m, 4, none⟩) (Below.heap_alloc _ _ _ hmz)).trans z4
                  have f4a : (Wz.alloc (.cells #[.int .i64 y1, .int .i64 y2, .int .i64 y3] 3)).frozen? ⟨m, 4, none⟩ = false := (World.frozen?_of_block (w := Wz) (a := ⟨m, 4, none⟩) (Below.heap_alloc _ _ _ hmz)).trans zf4
                  go_upto_region 13 with (fail)
                  go_region
                  go_upto_region 14 with (fail)
                  have hne : Wz.heap.size ≠ m := by omega
                  clear c0' c1' c2' i1 i2 z4a f4a
                  have hq : Hid (((Wz.setCell ⟨m, 4, none⟩ (.slice (some ⟨Wz.heap.size, 0, none⟩) 3 3)).alloc (.cells #[.int .i64 y1, .int .i64 y2, .int .i64 ((x1 : Int) / 32 - 1)] 3)).drew.heap[m]? = some (.cells ((⟨d0, d1, d2, ⟨(pad st.data.toList).toArray⟩, some ⟨Wz.heap.size, 0, none⟩, [y1, y2, (x1 : Int) / 32 - 1], 3⟩ : AskV)).cells.toArray 50 (0, 0))) := Lib.hid ((Below.heap_alloc (Wz.setCell ⟨m, 4, none⟩ (.slice (some ⟨Wz.heap.size, 0, none⟩) 3 3)) (.cells #[.int .i64 y1, .int .i64 y2, .int .i64 ((x1 : Int) / 32 - 1)] 3) m (by simp [World.setCell]; exact hmz)).trans (heap_setCell_same Wz m 4 _ 50 (.slice (some ⟨Wz.heap.size, 0, none⟩) 3 3) hz2))
                  have NQ : Fr (fun k => wr.heap.size ≤ k) wr (((Wz.setCell ⟨m, 4, none⟩ (.slice (some ⟨Wz.heap.size, 0, none⟩) 3 3)).alloc (.cells #[.int .i64 y1, .int .i64 y2, .int .i64 ((x1 : Int) / 32 - 1)] 3)).drew) := nf_drew (nf_alloc (nf_set NZ.out hm 4 _) _)
                  have hok : ((⟨d0, d1, d2, ⟨(pad st.data.toList).toArray⟩, some ⟨Wz.heap.size, 0, none⟩, [y1, y2, (x1 : Int) / 32 - 1], 3⟩ : AskV)).Ok := ⟨by simp [Lit.wf, IntKind.min, IntKind.max, IntKind.signed, IntKind.bits] <;> omega, by simp [Lit.wf, IntKind.min, IntKind.max, IntKind.signed, IntKind.bits] <;> omega, by simp [Lit.wf, IntKind.min, IntKind.max, IntKind.signed, IntKind.bits] <;> omega, by simp, by show (pad st.data.toList).length ≤ _; rw [pad_length]; omega⟩
                  have hnr : NumRow (((Wz.setCell ⟨m, 4, none⟩ (.slice (some ⟨Wz.heap.size, 0, none⟩) 3 3)).alloc (.cells #[.int .i64 y1, .int .i64 y2, .int .i64 ((x1 : Int) / 32 - 1)] 3)).drew) ((⟨d0, d1, d2, ⟨(pad st.data.toList).toArray⟩, some ⟨Wz.heap.size, 0, none⟩, [y1, y2, (x1 : Int) / 32 - 1], 3⟩ : AskV)) := Or.inr ⟨Wz.heap.size, rfl, by have h9 := heap_alloc_new (Wz.setCell ⟨m, 4, none⟩ (.slice (some ⟨Wz.heap.size, 0, none⟩) 3 3)) (.cells #[.int .i64 y1, .int .i64 y2, .int .i64 ((x1 : Int) / 32 - 1)] 3); rw [show (Wz.setCell ⟨m, 4, none⟩ (.slice (some ⟨Wz.heap.size, 0, none⟩) 3 3)).heap.size = Wz.heap.size by simp [World.setCell]] at h9; exact h9⟩
                  obtain ⟨v', W3, happ, hv', hown', hnum', NF'⟩ := one_more (x := (⟨d0, d1, d2, ⟨(pad st.data.toList).toArray⟩, some ⟨Wz.heap.size, 0, none⟩, [y1, y2, (x1 : Int) / 32 - 1], 3⟩ : AskV)) g2 hown.out hnum.out NF.out NQ hok hnr
                  have hcl : Hid (∀ j v, ((⟨d0, d1, d2, ⟨(pad st.data.toList).toArray⟩, some ⟨Wz.heap.size, 0, none⟩, [y1, y2, (x1 : Int) / 32 - 1], 3⟩ : AskV)).cells[j]? = some v → (((Wz.setCell ⟨m, 4, none⟩ (.slice (some ⟨Wz.heap.size, 0, none⟩) 3 3)).alloc (.cells #[.int .i64 y1, .int .i64 y2, .int .i64 ((x1 : Int) / 32 - 1)] 3)).drew).cell? ⟨m, 0 + j, none⟩ = some v) := Lib.hid (fun j v hv => by rw [cell_of_row _ _ _ _ _ _ hq.out, Nat.zero_add, List.getElem?_toArray]; exact hv)
                  generalize ((Wz.setCell ⟨m, 4, none⟩ (.slice (some ⟨Wz.heap.size, 0, none⟩) 3 3)).alloc (.cells #[.int .i64 y1, .int .i64 y2, .int .i64 ((x1 : Int) / 32 - 1)] 3)).drew = Wq at *
                  generalize (⟨d0, d1, d2, ⟨(pad st.data.toList).toArray⟩, some ⟨Wz.heap.size, 0, none⟩, [y1, y2, (x1 : Int) / 32 - 1], 3⟩ : AskV) = x at *
                  have HBS := Lib.hid (fun (ρ : Operand → Value) (o : Oper) (ho : o.op = .buildSlice 22 1 #[(0, .tmp 81)]) (hx : ρ (.tmp 81) = .agg x.cells.toArray) => exec_buildSlice1 (P := Try.prog) Wq 22 50 (.tmp 81) ho x.cells hx Try.underlying22 size50 (by show 5 ≤ 16777216; omega) _ (zero50 _))
                  have HA := Lib.hid happ
                  have hsz50 : Hid ((Try.prog.info? 50).map (·.size) = some x.cells.length) := Lib.hid size50
                  have R1 := Lib.hid hown'
                  have R2 := Lib.hid hnum'
                  have R3 := Lib.hid NF'
                  clear happ hown' hnum' NF' hok hnr NQ hq hown hnum NF NZ HP hz
                  go_wp2_with (first | (refine wpList_load_seg rfl 50 (.tmp 5) rfl m 0 rfl x.cells _ hcl.out Try.underlying50 rfl hsz50.out ?_) | (refine wpList_run rfl _ (HBS.out _ _ rfl rfl) ?_) | (at_builtin; refine wpList_run rfl _ (HA.out _ _ (.tmp 80) (.tmp 82) rfl rfl rfl) ?_))
                  go_roundw
                  case rel => exact ⟨k + 1, I + 3, _, by omega, by have := hI.out; omega, by go_num, hv', Lib.hid (by have := hI.out; omega), R1, R2, R3⟩
                  case measure => simp [intOf]; have := hI.out; omega
                · have t3 : ((d0 : Int) == 3) = false := by simpa using (show ¬ (d0 : Int) = 3 by omega)
                  clear e3d
                  go_upto_region 14 with (fail)
                  have hq : Hid (Wz.heap[m]? = some (.cells ((⟨d0, d1, d2, ⟨(pad st.data.toList).toArray⟩, none, [], 0⟩ : AskV)).cells.toArray 50 (0, 0))) := Lib.hid (hz2)
                  have NQ : Fr (fun k => wr.heap.size ≤ k) wr (Wz) := NZ.out
                  have hok : ((⟨d0, d1, d2, ⟨(pad st.data.toList).toArray⟩, none, [], 0⟩ : AskV)).Ok := ⟨by simp [Lit.wf, IntKind.min, IntKind.max, IntKind.signed, IntKind.bits] <;> omega, by simp [Lit.wf, IntKind.min, IntKind.max, IntKind.signed, IntKind.bits] <;> omega, by simp [Lit.wf, IntKind.min, IntKind.max, IntKind.signed, IntKind.bits] <;> omega, by simp, by show (pad st.data.toList).length ≤ _; rw [pad_length]; omega⟩
                  have hnr : NumRow (Wz) ((⟨d0, d1, d2, ⟨(pad st.data.toList).toArray⟩, none, [], 0⟩ : AskV)) := Or.inl ⟨rfl, rfl⟩
                  obtain ⟨v', W3, happ, hv', hown', hnum', NF'⟩ := one_more (x := (⟨d0, d1, d2, ⟨(pad st.data.toList).toArray⟩, none, [], 0⟩ : AskV)) g2 hown.out hnum.out NF.out NQ hok hnr
                  have hcl : Hid (∀ j v, ((⟨d0, d1, d2, ⟨(pad st.data.toList).toArray⟩, none, [], 0⟩ : AskV)).cells[j]? = some v → (Wz).cell? ⟨m, 0 + j, none⟩ = some v) := Lib.hid (fun j v hv => by rw [cell_of_row _ _ _ _ _ _ hq.out, Nat.zero_add, List.getElem?_toArray]; exact hv)
                  obtain ⟨Wq, rfl⟩ : ∃ Wq : World, Wq = Wz := ⟨_, rfl⟩
                  generalize (⟨d0, d1, d2, ⟨(pad st.data.toList).toArray⟩, none, [], 0⟩ : AskV) = x at *
                  have HBS := Lib.hid (fun (ρ : Operand → Value) (o : Oper) (ho : o.op = .buildSlice 22 1 #[(0, .tmp 81)]) (hx : ρ (.tmp 81) = .agg x.cells.toArray) => exec_buildSlice1 (P := Try.prog) Wq 22 50 (.tmp 81) ho x.cells hx Try.underlying22 size50 (by show 5 ≤ 16777216; omega) _ (zero50 _))
                  have HA := Lib.hid happ
                  have hsz50 : Hid ((Try.prog.info? 50).map (·.size) = some x.cells.length) := Lib.hid size50
                  have R1 := Lib.hid hown'
                  have R2 := Lib.hid hnum'
                  have R3 := Lib.hid NF'
                  clear happ hown' hnum' NF' hok hnr NQ hq hown hnum NF NZ HP hz
                  go_wp2_with (first | (refine wpList_load_seg rfl 50 (.tmp 5) rfl m 0 rfl x.cells _ hcl.out Try.underlying50 rfl hsz50.out ?_) | (refine wpList_run rfl _ (HBS.out _ _ rfl rfl) ?_) | (at_builtin; refine wpList_run rfl _ (HA.out _ _ (.tmp 80) (.tmp 82) rfl rfl rfl) ?_))
                  go_roundw
                  case rel => exact ⟨k + 1, I + 3, _, by omega, by have := hI.out; omega, by go_num, hv', Lib.hid (by have := hI.out; omega), R1, R2, R3⟩
                  case measure => simp [intOf]; have := hI.out; omega
    · have hend : Hid (AsksIn wr wr.heap.size pl k A) := Lib.hid (asks_of_own hown.out hnum.out rfl)
      have hfr : Hid (Fr (fun _ => False) w wr) := Lib.hid (NF.out.mono (fun j hj h => by omega))
      clear hown hnum NF hB
      have hways : (len ≤ I + 2) ∨ (I + 2 < len ∧ 50 ≤ k) := by omega
      clear hgo
      rcases hways with h1 | ⟨h1, h2⟩
      · have t1 : decide ((I : Int) + 2 < (len : Int)) = false := by simp; omega
        go_wp2_with fail
        go_ret
        exact ⟨pl, k, cl, A, rfl, hk, hend.out, hfr.out⟩
      · have t1 : decide ((I : Int) + 2 < (len : Int)) = true := by simp; omega
        have t2 : decide ((k : Int) < 50) = false := by simp; omega
        go_wp2_with fail
        go_ret
        exact ⟨pl, k, cl, A, rfl, hk, hend.out, hfr.out⟩
end Go.Proofs.Ytpkhddnehhophaa
