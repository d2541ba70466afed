/- The walk of DiskFuse: it returns true, and changes nothing that was there. -/
import Derived.Test.YtpkhddnehhophaaFuseA
namespace Go.Proofs.Ytpkhddnehhophaa
open Go.RowKit
set_option linter.unusedVariables false

theorem sector_SF (w : World) : Calls Try.prog 14 #[.string ⟨#[102, 105, 114, 109]⟩] w fun e w' => e = .returned (.string ⟨SF.toArray⟩) ∧ Fr (fun _ => False) w w' := sector_list [102, 105, 114, 109] (by decide) w
theorem sector_SE (w : World) : Calls Try.prog 14 #[.string ⟨#[]⟩] w fun e w' => e = .returned (.string ⟨SE.toArray⟩) ∧ Fr (fun _ => False) w w' := sector_list [] (by decide) w
theorem sector_s0 (w : World) : Calls Try.prog 14 #[.string ⟨#[0, 7]⟩] w fun e w' => e = .returned (.string ⟨(sj 0).toArray⟩) ∧ Fr (fun _ => False) w w' := sector_list [0, 7] (by decide) w
theorem conv_s0 (w : World) : (convert 25 9 (.slice (some ⟨w.heap.size, 0, none⟩) 2 2)).run Try.prog (w.alloc (.cells #[.int .u8 0, .int .u8 7] 5)) = .ok (.string ⟨#[0, 7]⟩) (w.alloc (.cells #[.int .u8 0, .int .u8 7] 5)) :=
  run_convert_bytes_back (P := Try.prog) (w.alloc (.cells #[.int .u8 0, .int .u8 7] 5)) 25 9 5 ⟨w.heap.size, 0, none⟩ 2 [0, 7] Try.underlying25 Try.underlying5 Try.underlying9 (by
    intro i hi
    rw [addr_add, Nat.zero_add, cell_of_row _ w.heap.size i _ 5 (0, 0) (heap_alloc_new w _)]
    have hi2 : i = 0 ∨ i = 1 := by simp at hi; omega
    rcases hi2 with rfl | rfl <;> rfl)
theorem info3 : (Try.prog.info? 3).map (fun i => (i.zero, i.size, i.bytes)) = some (some (.int .i64 0), 1, 8) := by kernel_rfl

set_option maxRecDepth 100000 in
set_option maxHeartbeats 4000000 in
theorem fuse_law (A0 A1 : Nat) (all : Bool) (hA0 : A0 ≤ 255) (hA1 : A1 ≤ 255) (w : World) :
    Calls Try.prog 6 #[.int .u8 A0, .int .u8 A1, .bool all] w fun e w' => e = .returned (.bool true) ∧ Fresh w.heap.size w w' := by
  obtain ⟨k, hk⟩ : ∃ k : Nat, (A0 : Int) % 30 = (k : Int) := ⟨A0 % 30, by omega⟩
  have hk2 : k < 30 := by omega
  go_enter Try.func6, Try.ntmps6
  go_wp2_with fail
  refine (new_ok 64 (by omega) (by omega) w w.heap.size (Nat.le_refl _)).mono ?_
  rintro e w1 ⟨b, bs, rfl, hb, hbs, R1, F1⟩
  have N1 : Fresh w.heap.size w w1 := (Fr.refl _ w).trans (F1.mono (fun _ _ h => h.elim))
  clear F1
  go_wp2_with fail
  refine (err_any 0 _).mono ?_
  rintro e w2 ⟨rfl, rfl⟩
  go_wp2_with fail
  refine (sector_list [102, 105, 114, 109] (by decide) _).mono ?_
  rintro e w2 ⟨rfl, F2⟩
  have R2 := R1.kept F2 (fun _ _ => id)
  have N2 := N1.none F2
  clear R1 N1 F2
  go_wp2_with fail
  have hw := write_ok R2 rfl (by decide) 63 (by show 63 < 64; omega) ⟨SF.toArray⟩ (pad_length _) (by decide) N2.size
  refine hw.mono ?_
  clear hw
  rintro e w3 ⟨rfl, lv, R3, F3, L3⟩
  have N3 := N2.foot F3 R2 (Nat.le_refl _)
  clear R2 N2 F3 L3
  go_wp2_with fail
  have hfl := flush_ok R3 rfl
  refine hfl.mono ?_
  clear hfl
  rintro e w4 ⟨rfl, R4, F4⟩
  have N4 := N3.foot F4 R3 (Nat.le_refl _)
  clear R3 N3 F4
  go_wp2_with fail
  refine (fuse_ok R4 (k : Int)).mono ?_
  rintro e w5 ⟨rfl, h5⟩
  obtain ⟨R5', F5'⟩ := R4.fuse (k : Int) (by simp [Lit.wf, IntKind.min, IntKind.max, IntKind.signed, IntKind.bits]; omega)
  rw [h5] at R5' F5'
  have R5 : Rep w5 w.heap.size b bs (.slice none 0 0) (Dk k 0) := R5'
  have N5 := N4.foot F5' R4 (Nat.le_refl _)
  clear R4 N4 R5' F5' h5
  go_wp2_with fail
  have hNw := N5.size
  go_loopw [10] (fun i wr => ∃ j : Nat, j ≤ k ∧ i = .int .i64 j ∧ ∃ lv, Rep wr w.heap.size b bs lv (Dk k j) ∧ Fresh w.heap.size w wr) (fun i _ => k - (intOf i).toNat)
  case atStart => exact ⟨0, Nat.zero_le _, rfl, _, R5, N5⟩
  case round =>
    clear R5 N5 hNw
    obtain ⟨j, hj, rfl, lv, RJ, NJ⟩ := hrel
    obtain ⟨q1, q2, q3, q4, q5, q6⟩ := Dk_facts k j hj
    by_cases hlt : j < k
    · clear q5 q6
      have hql : (Dk k j).loose.length = j := by rw [q4]; simp
      have HQ := Lib.hid q4
      have HQ3 := Lib.hid q3
      clear q3 q4
      obtain ⟨lj, hlj⟩ : ∃ lj : List UInt8, lj = [UInt8.ofNat j, 7] := ⟨_, rfl⟩
      have hcvt : (convert 25 9 (.slice (some ⟨wr.heap.size, 0, none⟩) 2 2)).run Try.prog (wr.alloc (.cells #[.int .u8 (j : Int), .int .u8 7] 5)) = .ok (.string ⟨lj.toArray⟩) (wr.alloc (.cells #[.int .u8 (j : Int), .int .u8 7] 5)) := by
        have h0 := run_convert_bytes_back (P := Try.prog) (wr.alloc (.cells #[.int .u8 (j : Int), .int .u8 7] 5)) 25 9 5 ⟨wr.heap.size, 0, none⟩ 2 lj Try.underlying25 Try.underlying5 Try.underlying9 (by
          intro i hi
          rw [addr_add, Nat.zero_add, cell_of_row _ wr.heap.size i _ 5 (0, 0) (heap_alloc_new wr _)]
          subst hlj
          have hi2 : i = 0 ∨ i = 1 := by simp at hi; omega
          rcases hi2 with rfl | rfl
          · simp
            omega
          · rfl)
        have hll : lj.length = 2 := by rw [hlj]; rfl
        rw [hll] at h0
        exact h0
      have HLJ := Lib.hid hlj
      clear hlj
      go_wp2_with fail
      clear hcvt
      refine (sector_list lj (by rw [HLJ.out]; simp) _).mono ?_
      rintro e w6 ⟨rfl, F6⟩
      have F6' : Fr (fun _ => False) wr w6 := ((Fr.refl _ wr).alloc _).trans F6
      have R6 := RJ.kept F6' (fun _ _ => id)
      have N6 := NJ.none F6'
      clear RJ NJ F6 F6'
      go_wp2_with fail
      have hsj : pad lj = sj j := by rw [HLJ.out]; rfl
      rw [hsj]
      clear hsj
      have hw := write_ok R6 q2 (by rw [HQ3.out]; omega) j (by rw [q1]; omega) ⟨(sj j).toArray⟩ (pad_length _) (by rw [hql]; omega) N6.size
      refine hw.mono ?_
      clear hw
      rintro e w7 ⟨rfl, lv7, R7, F7, L7⟩
      have N7 := N6.foot F7 R6 (Nat.le_refl _)
      have R7' : Rep w7 w.heap.size b bs lv7 (Dk k (j + 1)) := by rw [Dk_succ]; exact R7
      clear R6 N6 F7 L7 R7 q1 q2 hql
      go_wp2_with fail
      refine (err_any 0 _).mono ?_
      rintro e w8 ⟨rfl, rfl⟩
      go_wp2_with fail
      go_roundw
      case rel => exact ⟨j + 1, by omega, by go_num, _, R7', N7⟩
      case measure => simp [intOf]; omega
    · obtain rfl : j = k := by omega
      have hf0 : (Dk j j).fuse = 0 := by rw [q3]; omega
      have HQ := Lib.hid q4
      clear q3 q4 q5 q6 hj
      go_wp2_with fail
      refine (sector_list [110, 111] (by decide) _).mono ?_
      rintro e w6 ⟨rfl, F6⟩
      have R6 := RJ.kept F6 (fun _ _ => id)
      have N6 := NJ.none F6
      clear RJ NJ F6
      go_wp2_with fail
      refine (write_burnt R6 q2 hf0 40 (by omega) (by rw [q1]; omega) ⟨(pad [110, 111]).toArray⟩ (pad_length _)).mono ?_
      rintro e w7 ⟨rfl, R7, F7⟩
      have N7 := N6.foot F7 R6 (Nat.le_refl _)
      clear R6 N6 F7
      go_wp2_with fail
      refine (read_down R7 rfl 63).mono ?_
      rintro e w8 ⟨rfl, rfl⟩
      go_wp2_with fail
      refine (flush_down R7 rfl).mono ?_
      rintro e w8 ⟨rfl, rfl⟩
      go_wp2_with fail
      refine (sector_list [110, 111] (by decide) _).mono ?_
      rintro e w8 ⟨rfl, F8⟩
      have R8 := R7.kept F8 (fun _ _ => id)
      have N8 := N7.none F8
      clear R7 N7 F8
      go_wp2_with fail
      refine (write_down R8 rfl 41 _).mono ?_
      rintro e w9 ⟨rfl, rfl⟩
      clear hf0 q2 HQ hlt
      have hj30 := hk2
      cases all
      · go_wp2_with fail
        refine (crash_ok R8 none [] (by simp) 0 (fun q hq => absurd hq (by simp))).mono ?_
        rintro e w10 ⟨rfl, R10', F10⟩
        have N10 := N8.foot F10 R8 (Nat.le_refl _)
        clear R8 N8 F10
        have R10 : Rep w10 w.heap.size b bs (.slice none 0 0) (D5 j ([])) := R10'
        clear R10'
        have hn5 : (D5 j ([])).n = 64 := q1
        have hd5 : (D5 j ([])).down = false := rfl
        have hl5 : (D5 j ([])).loose = [] := rfl
        have hf5 : (D5 j ([])).fuse = -1 := rfl
        have v63 : (D5 j ([])).now 63 = SF := by rw [D5_plain j _ 63 (by omega), D2_now63]
        have v40 : (D5 j ([])).now 40 = SE := by rw [D5_plain j _ 40 (by omega), D2_now 40 (by omega)]
        have v0 : (D5 j []).now 0 = SE := by
          by_cases h0 : 0 < j
          · exact D5_nothing j h0
          · rw [D5_plain j _ 0 (by omega), D2_now 0 (by omega)]
        generalize D5 j ([]) = DD at *
        go_wp2_with fail
        have hr := read_ok R10 hd5 63 (by omega)
        rw [v63] at hr
        refine hr.mono ?_
        clear hr
        rintro e w11 ⟨rfl, rfl⟩
        go_wp2_with fail
        have hr := read_ok R10 hd5 0 (by omega)
        rw [v0] at hr
        refine hr.mono ?_
        clear hr
        rintro e w11 ⟨rfl, rfl⟩
        go_wp2_with fail
        have hr := read_ok R10 hd5 40 (by omega)
        rw [v40] at hr
        refine hr.mono ?_
        clear hr
        rintro e w11 ⟨rfl, rfl⟩
        clear v63 v40 v0
        go_wp2_with fail
        refine (sector_SE _).mono ?_
        rintro e w11 ⟨rfl, F11⟩
        have R11 := R10.kept F11 (fun _ _ => id)
        have N11 := N10.none F11
        clear R10 N10 F11
        go_wp2_with fail
        refine (err_any 7 _).mono ?_
        rintro e w40 ⟨rfl, rfl⟩
        go_wp2_with fail
        refine (err_any 7 _).mono ?_
        rintro e w40 ⟨rfl, rfl⟩
        go_wp2_with fail
        refine (err_any 7 _).mono ?_
        rintro e w40 ⟨rfl, rfl⟩
        go_wp2_with fail
        refine (err_any 7 _).mono ?_
        rintro e w40 ⟨rfl, rfl⟩
        go_wp2_with fail
        refine (sector_SF _).mono ?_
        rintro e w12 ⟨rfl, F12⟩
        have R12 := R11.kept F12 (fun _ _ => id)
        have N12 := N11.none F12
        clear R11 N11 F12
        go_wp2_with fail
        refine (err_any 0 _).mono ?_
        rintro e w40 ⟨rfl, rfl⟩
        go_wp2_with fail
        refine (sector_SE _).mono ?_
        rintro e w13 ⟨rfl, F13⟩
        have R13 := R12.kept F13 (fun _ _ => id)
        have N13 := N12.none F13
        clear R12 N12 F13
        go_wp2_with fail
        refine (sector_list [120] (by decide) _).mono ?_
        rintro e w14 ⟨rfl, F14⟩
        have R14 := R13.kept F14 (fun _ _ => id)
        have N14 := N13.none F14
        clear R13 N13 F14
        go_wp2_with fail
        have hw := write_ok R14 hd5 (by rw [hf5]; omega) 40 (by omega) ⟨(pad [120]).toArray⟩ (pad_length _) (by rw [hl5]; decide) N14.size
        refine hw.mono ?_
        clear hw
        rintro e w15 ⟨rfl, lv15, R15, F15, L15⟩
        have N15 := N14.foot F15 R14 (Nat.le_refl _)
        clear R14 N14 F15 L15 R15
        go_wp2_with fail
        refine (err_any 0 _).mono ?_
        rintro e w40 ⟨rfl, rfl⟩
        go_wp2_with fail
        refine (awake_ok _).mono ?_
        rintro e w16 ⟨rfl, F16⟩
        have N16 := N15.none F16
        clear N15 F16
        go_wp2_with fail
        go_ret
        exact ⟨rfl, N16⟩
      · obtain ⟨i3, hi3, hz3, hs3, hb3⟩ := info_parts info3
        go_wp2_with fail
        go_loopw [16, 17] (fun v i wr => ∃ q : Nat, q ≤ j + A1 ∧ i = .int .i64 q ∧ wr.ownsRow w8.heap.size 3 1 v q ((upTo q).map (Value.int .i64)) ∧ Fr (fun _ => False) w8 wr) (fun _ i _ => j + A1 - (intOf i).toNat)
        case atStart => exact ⟨0, Nat.zero_le _, rfl, World.ownsRow_nil _ _ _ _, Fr.refl _ _⟩
        case round =>
          obtain ⟨q, hq, rfl, hown, hfr⟩ := hrel
          by_cases hqm : q < j + A1
          · obtain ⟨v', W3, happ, hown', hgrow, hat⟩ := exec_append_own (P := Try.prog) (wr.alloc (.cells #[.int .i64 (q : Int)] 3)) w8.heap.size 37 3 i3 _ 1 8 Try.underlying37 hi3 hz3 hs3 hb3 rfl (by decide) _ q _ (hown.alloc _) ⟨wr.heap.size, 0, none⟩ 1 1 [.int .i64 (q : Int)] rfl (by
              intro i u hu
              rw [addr_add]
              exact seg_of_row (heap_alloc_new wr (.cells [Value.int .i64 (q : Int)].toArray 3)) 0 _ (fun i _ => by rw [Nat.zero_add]) i u hu) (by intro u hu; simp at hu; subst hu; rfl) (by unfold maxLen; omega) (by omega) (by have := hfr.size; simp; omega)
            have hfr2 : Fr (fun _ => False) w8 W3 := by
              refine ⟨hgrow.os.trans hfr.os, hgrow.tape.trans hfr.tape, hgrow.output.trans hfr.output, Nat.le_trans hfr.size (Nat.le_trans (by simp) hgrow.size), fun i hi hS => ?_⟩
              have hne : some i ≠ Value.ownBlock _ := fun e => by have := (hown.lt i e.symm).1; omega
              rw [hgrow.block i (by have := hfr.size; simp; omega) hne, Below.heap_alloc _ _ _ (by have := hfr.size; omega)]
              exact hfr.block i hi hS
            have HAPP := Lib.hid happ
            have hown2 : W3.ownsRow w8.heap.size 3 1 v' (q + 1) ((upTo (q + 1)).map (Value.int .i64)) := by rw [upTo_succ, List.map_append]; exact hown'
            have HO := Lib.hid hown2
            have HF := Lib.hid hfr2
            clear happ hown' hgrow hat hown hfr hown2 hfr2 hi3 hz3 hs3 hb3 R8 N8
            go_wp2_with (at_builtin; refine wpList_run rfl _ (HAPP.out _ _ (.tmp 84) (.tmp 86) rfl rfl rfl) ?_)
            go_roundw
            case rel => exact ⟨q + 1, by omega, by go_num, HO.out, HF.out⟩
            case measure => simp [intOf]; omega
          · obtain rfl : q = j + A1 := by omega
            obtain ⟨pp, cc, hv, hpp⟩ := ints_of_own hown
            subst hv
            have R9 := R8.kept hfr (fun _ _ => id)
            have N9 := N8.none hfr
            clear R8 N8 hfr hown hi3 hz3 hs3 hb3
            have HPP := Lib.hid hpp
            clear hpp
            go_wp2_with fail
            refine (crash_ok R9 pp (upTo (j + A1)) (by rw [upTo_length]; omega) cc HPP).mono ?_
            rintro e w10 ⟨rfl, R10', F10⟩
            have N10 := N9.foot F10 R9 (Nat.le_refl _)
            clear R9 N9 F10 HPP
            by_cases hj0 : 0 < j
            · have hdj : decide (0 < (j : Int)) = true := by simp; omega
              have R10 : Rep w10 w.heap.size b bs (.slice none 0 0) (D5 j (upTo (j + A1))) := R10'
              clear R10'
              have hn5 : (D5 j (upTo (j + A1))).n = 64 := q1
              have hd5 : (D5 j (upTo (j + A1))).down = false := rfl
              have hl5 : (D5 j (upTo (j + A1))).loose = [] := rfl
              have hf5 : (D5 j (upTo (j + A1))).fuse = -1 := rfl
              have v63 : (D5 j (upTo (j + A1))).now 63 = SF := by rw [D5_plain j _ 63 (by omega), D2_now63]
              have v40 : (D5 j (upTo (j + A1))).now 40 = SE := by rw [D5_plain j _ 40 (by omega), D2_now 40 (by omega)]
              have v0 : (D5 j (upTo (j + A1))).now 0 = sj 0 := D5_all j _ hj0 (by omega)
              generalize D5 j (upTo (j + A1)) = DD at *
              go_wp2_with fail
              have hr := read_ok R10 hd5 63 (by omega)
              rw [v63] at hr
              refine hr.mono ?_
              clear hr
              rintro e w11 ⟨rfl, rfl⟩
              go_wp2_with fail
              have hr := read_ok R10 hd5 0 (by omega)
              rw [v0] at hr
              refine hr.mono ?_
              clear hr
              rintro e w11 ⟨rfl, rfl⟩
              go_wp2_with fail
              have hr := read_ok R10 hd5 40 (by omega)
              rw [v40] at hr
              refine hr.mono ?_
              clear hr
              rintro e w11 ⟨rfl, rfl⟩
              clear v63 v40 v0
              go_wp2_with fail
              refine (sector_SE _).mono ?_
              rintro e w11 ⟨rfl, F11⟩
              have R11 := R10.kept F11 (fun _ _ => id)
              have N11 := N10.none F11
              clear R10 N10 F11
              have hcv := conv_s0 w11
              go_wp2_with fail
              clear hcv
              refine (sector_s0 _).mono ?_
              rintro e w11b ⟨rfl, F11b'⟩
              have F11b : Fr (fun _ => False) w11 w11b := ((Fr.refl _ w11).alloc _).trans F11b'
              have R11b := R11.kept F11b (fun _ _ => id)
              have N11b := N11.none F11b
              clear R11 N11 F11b F11b'
              go_wp2_with fail
              refine (err_any 7 _).mono ?_
              rintro e w40 ⟨rfl, rfl⟩
              go_wp2_with fail
              refine (err_any 7 _).mono ?_
              rintro e w40 ⟨rfl, rfl⟩
              go_wp2_with fail
              refine (err_any 7 _).mono ?_
              rintro e w40 ⟨rfl, rfl⟩
              go_wp2_with fail
              refine (err_any 7 _).mono ?_
              rintro e w40 ⟨rfl, rfl⟩
              go_wp2_with fail
              refine (sector_SF _).mono ?_
              rintro e w12 ⟨rfl, F12⟩
              have R12 := R11b.kept F12 (fun _ _ => id)
              have N12 := N11b.none F12
              clear R11b N11b F12
              go_wp2_with fail
              refine (err_any 0 _).mono ?_
              rintro e w40 ⟨rfl, rfl⟩
              go_wp2_with fail
              refine (sector_SE _).mono ?_
              rintro e w13 ⟨rfl, F13⟩
              have R13 := R12.kept F13 (fun _ _ => id)
              have N13 := N12.none F13
              clear R12 N12 F13
              go_wp2_with fail
              refine (sector_list [120] (by decide) _).mono ?_
              rintro e w14 ⟨rfl, F14⟩
              have R14 := R13.kept F14 (fun _ _ => id)
              have N14 := N13.none F14
              clear R13 N13 F14
              go_wp2_with fail
              have hw := write_ok R14 hd5 (by rw [hf5]; omega) 40 (by omega) ⟨(pad [120]).toArray⟩ (pad_length _) (by rw [hl5]; decide) N14.size
              refine hw.mono ?_
              clear hw
              rintro e w15 ⟨rfl, lv15, R15, F15, L15⟩
              have N15 := N14.foot F15 R14 (Nat.le_refl _)
              clear R14 N14 F15 L15 R15
              go_wp2_with fail
              refine (err_any 0 _).mono ?_
              rintro e w40 ⟨rfl, rfl⟩
              go_wp2_with fail
              refine (awake_ok _).mono ?_
              rintro e w16 ⟨rfl, F16⟩
              have N16 := N15.none F16
              clear N15 F16
              go_wp2_with fail
              go_ret
              exact ⟨rfl, N16⟩
            · have hdj : decide (0 < (j : Int)) = false := by simp; omega
              have R10 : Rep w10 w.heap.size b bs (.slice none 0 0) (D5 j (upTo (j + A1))) := R10'
              clear R10'
              have hn5 : (D5 j (upTo (j + A1))).n = 64 := q1
              have hd5 : (D5 j (upTo (j + A1))).down = false := rfl
              have hl5 : (D5 j (upTo (j + A1))).loose = [] := rfl
              have hf5 : (D5 j (upTo (j + A1))).fuse = -1 := rfl
              have v63 : (D5 j (upTo (j + A1))).now 63 = SF := by rw [D5_plain j _ 63 (by omega), D2_now63]
              have v40 : (D5 j (upTo (j + A1))).now 40 = SE := by rw [D5_plain j _ 40 (by omega), D2_now 40 (by omega)]
              have v0 : (D5 j (upTo (j + A1))).now 0 = SE := by rw [D5_plain j _ 0 (by omega), D2_now 0 (by omega)]
              generalize D5 j (upTo (j + A1)) = DD at *
              go_wp2_with fail
              have hr := read_ok R10 hd5 63 (by omega)
              rw [v63] at hr
              refine hr.mono ?_
              clear hr
              rintro e w11 ⟨rfl, rfl⟩
              go_wp2_with fail
              have hr := read_ok R10 hd5 0 (by omega)
              rw [v0] at hr
              refine hr.mono ?_
              clear hr
              rintro e w11 ⟨rfl, rfl⟩
              go_wp2_with fail
              have hr := read_ok R10 hd5 40 (by omega)
              rw [v40] at hr
              refine hr.mono ?_
              clear hr
              rintro e w11 ⟨rfl, rfl⟩
              clear v63 v40 v0
              go_wp2_with fail
              refine (sector_SE _).mono ?_
              rintro e w11 ⟨rfl, F11⟩
              have R11 := R10.kept F11 (fun _ _ => id)
              have N11 := N10.none F11
              clear R10 N10 F11
              go_wp2_with fail
              refine (err_any 7 _).mono ?_
              rintro e w40 ⟨rfl, rfl⟩
              go_wp2_with fail
              refine (err_any 7 _).mono ?_
              rintro e w40 ⟨rfl, rfl⟩
              go_wp2_with fail
              refine (err_any 7 _).mono ?_
              rintro e w40 ⟨rfl, rfl⟩
              go_wp2_with fail
              refine (err_any 7 _).mono ?_
              rintro e w40 ⟨rfl, rfl⟩
              go_wp2_with fail
              refine (sector_SF _).mono ?_
              rintro e w12 ⟨rfl, F12⟩
              have R12 := R11.kept F12 (fun _ _ => id)
              have N12 := N11.none F12
              clear R11 N11 F12
              go_wp2_with fail
              refine (err_any 0 _).mono ?_
              rintro e w40 ⟨rfl, rfl⟩
              go_wp2_with fail
              refine (sector_SE _).mono ?_
              rintro e w13 ⟨rfl, F13⟩
              have R13 := R12.kept F13 (fun _ _ => id)
              have N13 := N12.none F13
              clear R12 N12 F13
              go_wp2_with fail
              refine (sector_list [120] (by decide) _).mono ?_
              rintro e w14 ⟨rfl, F14⟩
              have R14 := R13.kept F14 (fun _ _ => id)
              have N14 := N13.none F14
              clear R13 N13 F14
              go_wp2_with fail
              have hw := write_ok R14 hd5 (by rw [hf5]; omega) 40 (by omega) ⟨(pad [120]).toArray⟩ (pad_length _) (by rw [hl5]; decide) N14.size
              refine hw.mono ?_
              clear hw
              rintro e w15 ⟨rfl, lv15, R15, F15, L15⟩
              have N15 := N14.foot F15 R14 (Nat.le_refl _)
              clear R14 N14 F15 L15 R15
              go_wp2_with fail
              refine (err_any 0 _).mono ?_
              rintro e w40 ⟨rfl, rfl⟩
              go_wp2_with fail
              refine (awake_ok _).mono ?_
              rintro e w16 ⟨rfl, F16⟩
              have N16 := N15.none F16
              clear N15 F16
              go_wp2_with fail
              go_ret
              exact ⟨rfl, N16⟩
end Go.Proofs.Ytpkhddnehhophaa
