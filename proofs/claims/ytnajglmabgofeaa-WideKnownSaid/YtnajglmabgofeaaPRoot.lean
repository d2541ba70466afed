/- root of package wide: the bits behind the point of a root, found one by one, by whatever power it is handed. -/
import Derived.Test.YtnajglmabgofeaaPrime
namespace Go.Proofs.Ytnajglmabgofeaa
open Go.RowKit
set_option linter.unusedVariables false
set_option maxRecDepth 100000 in
theorem len64_max (w : World) : Calls Try.prog 32 #[.int .u64 18446744073709551615] w fun e w' => e = .returned (.int .i64 64) ∧ w = w' := by
  go_enter Try.func32, Try.ntmps32
  go_wp2
  go_ret
  exact ⟨ret_int (by decide +kernel), rfl⟩
theorem or_bits (f n : Nat) (hf : f < 18446744073709551616) (hn : n < 64) : bits .or .u64 (f : Int) ((2 ^ n : Nat) : Int) = ((f ||| 2 ^ n : Nat) : Int) ∧ f ||| 2 ^ n < 18446744073709551616 := by
  have h2 : 2 ^ n < 18446744073709551616 := Nat.lt_of_lt_of_le (Nat.pow_lt_pow_right (by decide) hn) (by decide)
  exact ⟨bits_or_u64_nat f (2 ^ n) hf h2, Nat.or_lt_two_pow (n := 64) hf h2⟩
/-- The bit that stands when n bits are left. -/
def bitAt (n : Nat) : Nat := 2 ^ n / 2
theorem bitAt_succ (n : Nat) : bitAt (n + 1) = 2 ^ n := by unfold bitAt; rw [Nat.pow_succ]; omega
theorem bitAt_half (n : Nat) : 2 ^ n / 2 = bitAt n := rfl
theorem bits_step (pw : Nat → Nat → Nat) (p w n f : Nat) : bitsTo pw p w (n + 1) f = bitsTo pw p w n (if pw w (f ||| 2 ^ n) < p then f ||| 2 ^ n else f) := rfl
theorem xor_max : bits .xor .u64 (18446744073709551615 : Int) 0 = 18446744073709551615 := by decide +kernel
def xAt (w : World) (g a b : Nat) : Prop := w.heap[g]? = some (.cells #[.int .u64 a, .int .u64 b] 49 (0, 0))
theorem xAt.c0 {w : World} {g a b : Nat} (h : xAt w g a b) : w.cell? ⟨g, 0, none⟩ = some (.int .u64 a) := by rw [cell_of_row w g 0 _ 49 (0, 0) h]; rfl
theorem xAt.c1 {w : World} {g a b : Nat} (h : xAt w g a b) : w.cell? ⟨g, 1, none⟩ = some (.int .u64 b) := by rw [cell_of_row w g 1 _ 49 (0, 0) h]; rfl
theorem xAt.free {w : World} {g a b : Nat} (h : xAt w g a b) (j : Nat) : w.frozen? ⟨g, j, none⟩ = false := by
  have h' : w.heap[g]? = some (.cells #[.int .u64 a, .int .u64 b] 49 (0, 0)) := h
  simp [World.frozen?, h']
theorem xAt.below {w w' : World} {B g a b : Nat} (h : xAt w g a b) (hb : Below B w w') (hB : g < B) : xAt w' g a b := by
  unfold xAt
  rw [hb.block g hB]; exact h
theorem xAt.lt {w : World} {g a b : Nat} (h : xAt w g a b) : g < w.heap.size := lt_of_block h
theorem xAt.set0 {w : World} {g a b : Nat} (h : xAt w g a b) (v : Nat) : xAt (w.setCell ⟨g, 0, none⟩ (.int .u64 v)) g v b := heap_setCell_same w g 0 _ 49 _ h
theorem xAt.set1 {w : World} {g a b : Nat} (h : xAt w g a b) (v : Nat) : xAt (w.setCell ⟨g, 1, none⟩ (.int .u64 v)) g a v := heap_setCell_same w g 1 _ 49 _ h
def cellN (w : World) (g : Nat) : Nat := (intOf ((w.cell? ⟨g, 0, none⟩).getD undef)).toNat
theorem cellN_x {w : World} {g a b : Nat} (h : xAt w g a b) : cellN w g = a := by unfold cellN; rw [h.c0]; simp [intOf]
set_option maxRecDepth 100000 in
set_option maxHeartbeats 2000000 in
theorem root_any (F : Nat) (pw : Nat → Nat → Nat) (EG : ∀ args w, (callFunc F args).run Try.prog w = .ok (.enter F args) w)
    (HPW : ∀ a f : Nat, a < 18446744073709551616 → f < 18446744073709551616 → ∀ w : World, Calls Try.prog F #[.agg #[.int .u64 a, .int .u64 f]] w fun e w' => e = .returned (.int .u64 (pw a f)) ∧ Below w.heap.size w w')
    (p : Nat) (hp : p < 18446744073709551616) (hok : wholeOk pw p = true) (w : World) :
    Calls Try.prog 24 #[.int .u64 p, .func (.func F) #[] #[]] w fun e w' => e = .returned (.int .u64 (rootN pw p)) ∧ Below w.heap.size w w' := by
  obtain ⟨wh, hwh⟩ : ∃ wh, Hid (wh = wholeN pw p) := ⟨_, Lib.hid rfl⟩
  obtain ⟨out, hout⟩ : ∃ out, Hid (out = rootN pw p) := ⟨_, Lib.hid rfl⟩
  have hbits : Hid (out = bitsTo pw p wh 64 0) := by unfold Hid; rw [hout.out, hwh.out]; unfold rootN; rw [force_eq]
  rw [← hout.out]
  have hw30 : wh < 30 := by
    have h := hok
    unfold wholeOk at h
    simp only [Bool.and_eq_true, decide_eq_true_eq] at h
    rw [hwh.out]; exact h.1.1
  have HW1 : Hid (∀ k, k < wh → pw (k + 1) 0 ≤ p) := by
    intro k hk
    have h := hok
    unfold wholeOk at h
    simp only [Bool.and_eq_true, decide_eq_true_eq] at h
    have h2 := List.all_eq_true.1 h.1.2 k (List.mem_range.2 (by rw [← hwh.out]; exact hk))
    simpa using h2
  have HW2 : Hid (p < pw (wh + 1) 0) := by
    have h := hok
    unfold wholeOk at h
    simp only [Bool.and_eq_true, decide_eq_true_eq] at h
    unfold Hid
    rw [hwh.out]; exact h.2
  have HP := Lib.hid HPW
  clear HPW hok hout
  go_enter Try.func24, Try.ntmps24
  go_wp2
  go_loopw [9] (fun _ wr => ∃ k : Nat, k ≤ wh ∧ xAt wr w.heap.size k 0 ∧ Below w.heap.size w wr) (fun _ wr => wh - cellN wr w.heap.size)
  case atStart => exact ⟨0, Nat.zero_le _, heap_alloc_new w _, (Below.refl _ w).alloc (Nat.le_refl _) _⟩
  case round =>
    obtain ⟨k, hk, hxa, hb⟩ := hrel
    have HX := Lib.hid hxa
    have HB := Lib.hid hb
    have c0 := hxa.c0
    have c1 := hxa.c1
    have hg := hxa.lt
    have hmr := Lib.hid (cellN_x hxa)
    clear hxa hb
    have hk30 : k ≤ 30 := by omega
    obtain ⟨v, hv⟩ : ∃ v, Hid (v = pw (k + 1) 0) := ⟨_, Lib.hid rfl⟩
    have HC := Lib.hid (HP.out (k + 1) 0 (by omega) (by omega))
    rw [← hv.out] at HC
    by_cases hlt : k < wh
    · have hle : v ≤ p := by rw [hv.out]; exact HW1.out k hlt
      clear hv
      go_wp2_with fail
      refine (HC.out _).mono ?_
      rintro e w2 ⟨rfl, hb2⟩
      have HX2 := Lib.hid (HX.out.below hb2 hg)
      have HB2 := Lib.hid (HB.out.trans (hb2.mono HB.out.size))
      have c02 := HX2.out.c0
      have f02 := HX2.out.free 0
      clear hb2 HX HB c0 c1
      have HX3 := Lib.hid (HX2.out.set0 (k + 1))
      have HB3 := Lib.hid (HB2.out.setCell (p := ⟨w.heap.size, 0, none⟩) (Nat.le_refl _) (.int .u64 ((k + 1 : Nat) : Int)))
      go_wp2
      go_roundw
      case rel => exact ⟨k + 1, by omega, HX3.out, HB3.out⟩
      case measure =>
        have hm : cellN (w2.setCell ⟨w.heap.size, 0, none⟩ (.int .u64 ((k : Int) + 1))) w.heap.size = k + 1 := cellN_x HX3.out
        rw [hm, hmr.out]
        omega
    · obtain rfl : k = wh := by omega
      have hle : ¬ v ≤ p := by have := HW2.out; rw [hv.out]; omega
      have hgt : p < v := by omega
      clear hv HW1 HW2
      go_wp2_with fail
      refine (HC.out _).mono ?_
      rintro e w2 ⟨rfl, hb2⟩
      have HX2 := Lib.hid (HX.out.below hb2 hg)
      have HB2 := Lib.hid (HB.out.trans (hb2.mono HB.out.size))
      clear hb2 HX HB c0 c1 hmr
      have hxm := xor_max
      go_wp2_with (go_at_call 32; refine (len64_max _).mono ?_; rintro e w' ⟨rfl, rfl⟩)
      have hx8 : bits BinOp.xor IntKind.u64 IntKind.u64.max (bits BinOp.xor IntKind.u64 IntKind.u64.max 0 / 2) = ((bitAt 64 : Nat) : Int) := by decide +kernel
      rw [hx8]
      clear hx8 hxm hle hgt HC
      go_loopw [6, 8] (fun fv bv wr => ∃ n f part : Nat, n ≤ 64 ∧ fv = .int .u64 f ∧ bv = .int .u64 (bitAt n) ∧ f < 18446744073709551616 ∧ Hid (bitsTo pw p k n f = out) ∧ xAt wr w.heap.size k part ∧ Below w.heap.size w wr) (fun _ bv _ => (intOf bv).toNat)
      case atStart => exact ⟨64, 0, 0, by omega, rfl, rfl, by omega, Lib.hid hbits.out.symm, HX2.out, HB2.out⟩
      case round =>
        clear HX2 HB2 hbits
        obtain ⟨n, f, part, hn, rfl, rfl, hf, hbt, hxa, hb⟩ := hrel
        have HX := Lib.hid hxa
        have HB := Lib.hid hb
        have hg := hxa.lt
        have f1 := hxa.free 1
        have c1 := hxa.c1
        clear hxa hb
        rcases Nat.eq_zero_or_pos n with rfl | hn0
        · have ho : f = out := hbt.out
          subst ho
          rw [show ((bitAt 0 : Nat) : Int) = (0 : Int) from rfl]
          clear hbt
          go_wp2
          go_ret
          exact ⟨rfl, HB.out⟩
        · obtain ⟨m, rfl⟩ : ∃ m, n = m + 1 := ⟨n - 1, by omega⟩
          obtain ⟨hor, hfb⟩ := or_bits f m hf (by omega)
          have hst := hbt.out
          rw [bits_step] at hst
          rw [bitAt_succ m]
          have hb0 : 0 < 2 ^ m := Nat.pos_of_ne_zero (by exact Nat.ne_of_gt (Nat.pow_pos (by decide)))
          have hhalf : ((2 ^ m : Nat) : Int) / 2 = ((bitAt m : Nat) : Int) := by unfold bitAt; omega
          have hdec : bitAt m < 2 ^ m := by unfold bitAt; omega
          have HDEC := Lib.hid hdec
          clear hbt hdec
          obtain ⟨fb, hfb0⟩ : ∃ fb, Hid (fb = f ||| 2 ^ m) := ⟨_, Lib.hid rfl⟩
          rw [← hfb0.out] at hor hfb hst
          generalize 2 ^ m = b at *
          have hbI : (0 : Int) < (b : Int) := by omega
          obtain ⟨v2, hv2⟩ : ∃ v2, Hid (v2 = pw k fb) := ⟨_, Lib.hid rfl⟩
          rw [← hv2.out] at hst
          have HC := Lib.hid (HP.out k fb (by omega) hfb)
          rw [← hv2.out] at HC
          clear hv2
          have hwi := wrap_id hfb
          have HOR := Lib.hid hor
          have HX3 := Lib.hid (HX.out.set1 fb)
          have HB3 := Lib.hid (HB.out.setCell (p := ⟨w.heap.size, 1, none⟩) (Nat.le_refl _) (.int .u64 (fb : Int)))
          obtain ⟨w3, hw3⟩ : ∃ w3, w3 = wr.setCell ⟨w.heap.size, 1, none⟩ (.int .u64 (fb : Int)) := ⟨_, rfl⟩
          rw [← hw3] at HX3 HB3
          have hg3 := HX3.out.lt
          have hseg : ∀ j v, [Value.int .u64 (k : Int), Value.int .u64 (fb : Int)][j]? = some v → w3.cell? ⟨w.heap.size, 0 + j, none⟩ = some v := by
            intro j v hv
            rw [cell_of_row w3 w.heap.size (0 + j) _ 49 (0, 0) HX3.out, Nat.zero_add]
            simpa using hv
          have HSEG := Lib.hid hseg
          clear hseg
          go_upto_region 10 with (fail)
          rw [← hw3]
          clear hw3 c1 f1 HX HB hor hwi
          go_wp2_with (refine wpList_load_seg rfl 49 (.tmp 5) rfl w.heap.size 0 rfl [.int .u64 (k : Int), .int .u64 (fb : Int)] _ HSEG.out Try.underlying49 rfl (by kernel_rfl) ?_)
          refine (HC.out _).mono ?_
          rintro e w4 ⟨rfl, hb4⟩
          have HX4 := Lib.hid (HX3.out.below hb4 hg3)
          have HB4 := Lib.hid (HB3.out.trans (hb4.mono HB3.out.size))
          clear hb4 HSEG HC
          obtain ⟨hor2, -⟩ : bits .or .u64 (f : Int) (b : Int) = (fb : Int) ∧ True := ⟨HOR.out, trivial⟩
          by_cases hlt2 : v2 < p
          · rw [if_pos hlt2] at hst
            have HST := Lib.hid hst
            clear hst
            go_wp2
            go_roundw
            case rel => exact ⟨m, fb, fb, by omega, rfl, rfl, hfb, HST, HX4.out, HB4.out⟩
            case measure => have := HDEC.out; simp [intOf]; omega
          · rw [if_neg hlt2] at hst
            have HST := Lib.hid hst
            clear hst
            go_wp2
            go_roundw
            case rel => exact ⟨m, f, fb, by omega, rfl, rfl, hf, HST, HX4.out, HB4.out⟩
            case measure => have := HDEC.out; simp [intOf]; omega
end Go.Proofs.Ytnajglmabgofeaa
