/- What marks of package disk tells: of each number below n whether it is among the given ones. -/
import Derived.Test.YtpkhddnehhophaaFlush
namespace Go.Proofs.Ytpkhddnehhophaa
open Go.RowKit
set_option linter.unusedVariables false

section
variable {P : Program}
theorem exec_makeSlice {ρ : Operand → Value} {o : Oper} (w : World) (t e : TypeId) (x y : Operand) (ho : o.op = .makeSlice t x y) (i : TypeInfo) (z : Value) (size : Nat) (ht : P.underlying t = some (.slice e)) (hi : P.info? e = some i) (hz : i.zero = some z) (hsz : i.size = size)
    (n : Nat) (hx : ρ x = .int .i64 n) (hy : ρ y = .int .i64 n) (hbytes : i.bytes * n ≤ 281474976710656) (h63 : n ≤ 9223372036854775807) :
    (execOp ρ o).run P w = .ok (.value (.slice (some ⟨w.heap.size, 0, none⟩) n n)) (w.alloc (.cells (madeCells z.cells (n * size)) e)) := by
  subst hsz
  have hb2 : (i.bytes : Int) * (n : Int) ≤ 281474976710656 := by
    have h : ((i.bytes * n : Nat) : Int) ≤ 281474976710656 := Int.ofNat_le.2 hbytes
    rwa [Int.natCast_mul] at h
  have h := run_make (P := P) w t e i z ht hi hz .i64 .i64 n n (by omega) (by omega) hb2 (by omega)
  unfold execOp
  simp only [ho, hx, hy, Sem.run_bind, h, Result.andThen_ok, Int.toNat_natCast]
  rfl
end
theorem setCell_alloc_new (w : World) (c : Array Value) (t : TypeId) (j : Nat) (v : Value) : (w.alloc (.cells c t)).setCell ⟨w.heap.size, j, none⟩ v = w.alloc (.cells (c.setIfInBounds j v) t) := by
  rw [setCell_eq_setRow _ _ _ c t (0, 0) v (heap_alloc_new w _), setRow_alloc _ _ _ _ _ _ rfl]
theorem made_get (z : Value) (n j : Nat) (hz : z.cells = #[z]) (hj : j < n) : (madeCells z.cells n)[j]? = some z := by
  unfold madeCells
  rw [hz]
  simp [hj, Nat.mod_one]

/-- Which numbers below n are among zs. -/
def marked (zs : List Int) (j : Nat) : Bool := zs.any fun z => z == (j : Int)

theorem marked_snoc (zs : List Int) (z : Int) (j : Nat) : marked (zs ++ [z]) j = (marked zs j || (z == (j : Int))) := by simp [marked]

theorem info4 : (Try.prog.info? 4).map (fun i => (i.zero, i.size, i.bytes)) = some (some (.bool false), 1, 1) := by kernel_rfl

/-- A value reads as the numbers zs. -/
def IntsAt (w : World) (v : Value) (zs : List Int) : Prop :=
  (zs = [] ∧ ∃ p c, v = .slice p 0 c) ∨ ∃ g off cap, v = .slice (some ⟨g, off, none⟩) zs.length cap ∧ ∀ j (h : j < zs.length), w.cell? ⟨g, off + j, none⟩ = some (.int .i64 zs[j])

set_option maxHeartbeats 400000 in
theorem marks_walk (n : Nat) (hn : n ≤ 1000000) (p : Option Addr) (zs : List Int) (hzl : zs.length ≤ 9223372036854775807) (c : Nat) (w : World)
    (hp : Hid (∀ j (h : j < zs.length), ∃ g off, p = some ⟨g, off, none⟩ ∧ w.cell? ⟨g, off + j, none⟩ = some (.int .i64 zs[j]))) :
    Calls Try.prog 32 #[.slice p zs.length c, .int .i64 n] w fun e w' => e = .returned (.slice (some ⟨w.heap.size, 0, none⟩) n n) ∧ ∃ cur, w' = w.alloc (.cells cur 4) ∧ cur.size = n ∧ ∀ j, j < n → cur[j]? = some (.bool (marked zs j)) := by
  obtain ⟨i0, hi, hz0, hz1, hz2⟩ := info_parts info4
  have HM := Lib.hid (fun (ρ : Operand → Value) (o : Oper) (x y : Operand) (ho : o.op = .makeSlice 74 x y) (hx : ρ x = .int .i64 n) (hy : ρ y = .int .i64 n) => exec_makeSlice (P := Try.prog) w 74 4 x y ho i0 _ 1 Try.underlying74 hi hz0 hz1 n hx hy (by rw [hz2]; omega) (by omega))
  clear hi hz0 hz1 hz2
  go_enter Try.func32, Try.ntmps32
  go_wp2_with (refine wpList_run rfl _ (HM.out _ _ (.tmp 8) (.tmp 8) rfl rfl rfl) ?_)
  go_loopw [12] (fun i wr => ∃ k : Nat, ∃ cur, k ≤ zs.length ∧ i = .int .i64 k ∧ wr = w.alloc (.cells cur 4) ∧ cur.size = n ∧ ∀ j, j < n → cur[j]? = some (.bool (marked (zs.take k) j))) (fun i _ => zs.length - (intOf i).toNat)
  case atStart => exact ⟨0, _, Nat.zero_le _, rfl, rfl, (by rw [size_madeCells]), fun j hj => made_get (.bool false) n j rfl hj⟩
  case round =>
    obtain ⟨k, cur, hk, rfl, rfl, hcs, hcur⟩ := hrel
    have HC := Lib.hid hcur
    have HS := Lib.hid hcs
    clear hcur hcs HM
    by_cases hlt : k < zs.length
    · obtain ⟨g, off, hpe, hcell⟩ := hp.out k hlt
      subst hpe
      have hgN : g < w.heap.size := block_lt_of_cell hcell
      have hcell2 : (w.alloc (.cells cur 4)).cell? ⟨g, off + k, none⟩ = some (.int .i64 zs[k]) := (World.cell?_of_block (w := w) (a := ⟨g, off + k, none⟩) (Below.heap_alloc w _ g hgN)).trans hcell
      clear hcell
      have HT : Hid (zs.take (k + 1) = zs.take k ++ [zs[k]]) := by unfold Hid; rw [List.take_succ_eq_append_getElem hlt]
      generalize zs[k] = z at *
      by_cases hz : 0 ≤ z ∧ z < n
      · obtain ⟨hz1, hz2⟩ := hz
        obtain ⟨q, rfl⟩ := Int.eq_ofNat_of_zero_le hz1
        have hqn : q < n := by omega
        have hold : (w.alloc (.cells cur 4)).cell? ⟨w.heap.size, q, none⟩ = some (.bool (marked (zs.take k) q)) := by rw [cell_of_row _ w.heap.size q cur 4 (0, 0) (heap_alloc_new w _)]; exact HC.out q hqn
        go_wp2
        go_roundw
        case rel =>
          refine ⟨k + 1, _, by omega, by go_num, rfl, by rw [Array.size_setIfInBounds]; exact HS.out, fun j hj => ?_⟩
          rw [HT.out, Array.getElem?_setIfInBounds, marked_snoc]
          by_cases e : q = j
          · subst e
            rw [if_pos rfl, if_pos (by rw [HS.out]; exact hqn)]
            simp
          · rw [if_neg e, HC.out j hj]
            have : ((q : Int) == (j : Int)) = false := by simp; omega
            rw [this, Bool.or_false]
        case measure => simp [intOf]; omega
      · have hrel2 : Hid (∀ j, j < n → cur[j]? = some (.bool (marked (zs.take (k + 1)) j))) := by
          intro j hj
          rw [HT.out, marked_snoc, HC.out j hj]
          have : (z == (j : Int)) = false := by simp; omega
          rw [this, Bool.or_false]
        clear HC HT
        by_cases hz1 : 0 ≤ z
        · have hz2 : (n : Int) ≤ z := by omega
          clear hz
          go_wp2
          go_roundw
          case rel => exact ⟨k + 1, cur, by omega, by go_num, rfl, HS.out, hrel2.out⟩
          case measure => simp [intOf]; omega
        · clear hz
          go_wp2
          go_roundw
          case rel => exact ⟨k + 1, cur, by omega, by go_num, rfl, HS.out, hrel2.out⟩
          case measure => simp [intOf]; omega
    · obtain rfl : k = zs.length := by omega
      go_wp2
      go_ret
      refine ⟨rfl, cur, rfl, HS.out, ?_⟩
      have := HC.out
      rwa [List.take_length] at this
end Go.Proofs.Ytpkhddnehhophaa
