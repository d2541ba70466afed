/- The walk of DiskTwo: it returns true, and changes nothing that was there. -/
import Derived.Test.YtpkhddnehhophaaTwoA
namespace Go.Proofs.Ytpkhddnehhophaa
open Go.RowKit
set_option linter.unusedVariables false

theorem info3t : (Try.prog.info? 3).map (fun i => (i.zero, i.size, i.bytes)) = some (some (.int .i64 0), 1, 8) := by kernel_rfl
theorem sector_SEt (w : World) : Calls Try.prog 14 #[.string ⟨#[]⟩] w fun e w' => e = .returned (.string ⟨SE.toArray⟩) ∧ Fr (fun _ => False) w w' := sector_list [] (by decide) w

theorem loose0 {w : World} {B b bs : Nat} {lv : Value} {D : DS} (h : Rep w B b bs lv D) (hl : D.loose = []) : Calls Try.prog 17 #[.pointer (some ⟨b, 0, none⟩)] w fun e w' => e = .returned (.int .i64 0) ∧ w = w' := by
  have h1 := loose_any h
  rw [hl] at h1
  exact h1

/-- Three disks side by side, alike. -/
structure Tri (w : World) (B ba sa : Nat) (la : Value) (bb sb : Nat) (lb : Value) (bc sc : Nat) (lc : Value) (D : DS) : Prop where
  a : Rep w B ba sa la D
  b : Rep w B bb sb lb D
  c : Rep w B bc sc lc D
  ab : Ap ba sa la bb sb lb
  ac : Ap ba sa la bc sc lc
  bc : Ap bb sb lb bc sc lc
theorem Tri.kept {w w' : World} {B ba sa : Nat} {la : Value} {bb sb : Nat} {lb : Value} {bc sc : Nat} {lc : Value} {D : DS} (h : Tri w B ba sa la bb sb lb bc sc lc D) {S : Nat → Prop} (hf : Fr S w w')
    (h1 : ∀ k, Foot ba sa la k → ¬ S k) (h2 : ∀ k, Foot bb sb lb k → ¬ S k) (h3 : ∀ k, Foot bc sc lc k → ¬ S k) : Tri w' B ba sa la bb sb lb bc sc lc D :=
  ⟨h.a.kept hf h1, h.b.kept hf h2, h.c.kept hf h3, h.ab, h.ac, h.bc⟩

set_option maxRecDepth 100000 in
set_option maxHeartbeats 4000000 in
theorem two_law (a : Option Addr) (len cap : Nat) (A : Nat → Nat) (hA : ∀ j, A j ≤ 255) (hlen : len ≤ 9223372036854775807) (w : World)
    (hns : Hid (∀ j, j < len → ∃ g off, a = some ⟨g, off, none⟩ ∧ w.cell? ⟨g, off + j, none⟩ = some (.int .u8 (A j)))) :
    Calls Try.prog 8 #[.slice a len cap] w fun e w' => e = .returned (.bool true) ∧ Fresh w.heap.size w w' := by
  go_enter Try.func8, Try.ntmps8
  go_wp2_with fail
  refine (new_ok 32 (by omega) (by omega) w w.heap.size (Nat.le_refl _)).mono ?_
  rintro e w1 ⟨ba, sa, rfl, hba, hsa, RA1, F1⟩
  have N1 : Fresh w.heap.size w w1 := (Fr.refl _ w).trans (F1.mono (fun _ _ h => h.elim))
  clear F1
  go_wp2_with fail
  refine (new_ok 32 (by omega) (by omega) w1 w.heap.size N1.size).mono ?_
  rintro e w2 ⟨bb, sb, rfl, hbb, hsb, RB2, F2⟩
  have N2 := N1.none F2
  have RA2 := RA1.kept F2 (fun _ _ => id)
  have hab : Ap ba sa (.slice none 0 0) bb sb (.slice none 0 0) := by
    intro k h1 h2
    have h3 := RA1.lt k h1
    rcases h2 with rfl | rfl | h2
    · omega
    · omega
    · simp [Value.ownBlock] at h2
  clear RA1 F2 N1
  go_wp2_with fail
  refine (new_ok 32 (by omega) (by omega) w2 w.heap.size N2.size).mono ?_
  rintro e w3 ⟨bc, sc, rfl, hbc, hsc, RC3, F3⟩
  have N3 := N2.none F3
  have hac : Ap ba sa (.slice none 0 0) bc sc (.slice none 0 0) := by
    intro k h1 h2
    have h3 := RA2.lt k h1
    rcases h2 with rfl | rfl | h2
    · omega
    · omega
    · simp [Value.ownBlock] at h2
  have hbc2 : Ap bb sb (.slice none 0 0) bc sc (.slice none 0 0) := by
    intro k h1 h2
    have h3 := RB2.lt k h1
    rcases h2 with rfl | rfl | h2
    · omega
    · omega
    · simp [Value.ownBlock] at h2
  have T3 : Tri w3 w.heap.size ba sa (.slice none 0 0) bb sb (.slice none 0 0) bc sc (.slice none 0 0) (DS.new 32) := ⟨RA2.kept F3 (fun _ _ => id), RB2.kept F3 (fun _ _ => id), RC3, hab, hac, hbc2⟩
  clear RA2 RB2 RC3 F3 N2 hab hac hbc2 hba hsa hbb hsb hbc hsc
  go_wp2_with fail
  refine (err_any 0 _).mono ?_
  rintro e w40 ⟨rfl, rfl⟩
  go_wp2_with fail
  refine (err_any 0 _).mono ?_
  rintro e w40 ⟨rfl, rfl⟩
  go_wp2_with fail
  refine (err_any 0 _).mono ?_
  rintro e w40 ⟨rfl, rfl⟩
  obtain ⟨i3, hi3, hz3, hs3, hb3⟩ := info_parts info3t
  have HI := Lib.hid hi3
  have HZ := Lib.hid hz3
  have HS3 := Lib.hid hs3
  have HB := Lib.hid hb3
  clear hi3 hz3 hs3 hb3
  go_wp2_with fail
  go_loopw [9, 10] (fun v i wr => ∃ j : Nat, j ≤ len ∧ j ≤ 40 ∧ i = .int .i64 j ∧ wr.ownsRow w.heap.size 3 1 v (2 * j) ((dup j).map (Value.int .i64)) ∧ Fresh w.heap.size w wr ∧ ∃ D la lb lc, TD D j ∧ Tri wr w.heap.size ba sa la bb sb lb bc sc lc D) (fun _ i _ => 40 - (intOf i).toNat)
  case atStart => exact ⟨0, Nat.zero_le _, Nat.zero_le _, rfl, World.ownsRow_nil _ _ _ _, N3, _, _, _, _, TD.zero, T3⟩
  case round =>
    clear T3 N3
    rename_i v _ _
    obtain ⟨j, hj, hj40, rfl, hown, NJ, D, la, lb, lc, hTD, T⟩ := hrel
    by_cases hlt : j < len
    · by_cases hlt2 : j < 40
      · obtain ⟨g, off, rfl, hcell0⟩ := hns.out j hlt
        have hgN : g < w.heap.size := block_lt_of_cell hcell0
        obtain ⟨x, hx⟩ : ∃ x : Nat, x = A j := ⟨_, rfl⟩
        have hx255 : x ≤ 255 := by rw [hx]; exact hA j
        rw [← hx] at hcell0
        clear hx
        have hcell : wr.cell? ⟨g, off + j, none⟩ = some (.int .u8 x) := (World.cell?_of_block (w := w) (a := ⟨g, off + j, none⟩) (NJ.block g hgN (by omega))).trans hcell0
        obtain ⟨q, hq⟩ : ∃ q : Nat, (x : Int) % 32 = (q : Int) := ⟨x % 32, by omega⟩
        have hq32 : q < 32 := by omega
        obtain ⟨lj, hlj⟩ : ∃ lj : List UInt8, lj = [UInt8.ofNat x, UInt8.ofNat j, 1] := ⟨_, rfl⟩
        have hcvt : (convert 25 9 (.slice (some ⟨wr.heap.size, 0, none⟩) 3 3)).run Try.prog (wr.alloc (.cells #[.int .u8 (x : Int), .int .u8 (j : Int), .int .u8 1] 5)) = .ok (.string ⟨lj.toArray⟩) (wr.alloc (.cells #[.int .u8 (x : Int), .int .u8 (j : Int), .int .u8 1] 5)) := by
          have h0 := run_convert_bytes_back (P := Try.prog) (wr.alloc (.cells #[.int .u8 (x : Int), .int .u8 (j : Int), .int .u8 1] 5)) 25 9 5 ⟨wr.heap.size, 0, none⟩ 3 lj Try.underlying25 Try.underlying5 Try.underlying9 (by
            intro i hi
            rw [addr_add, Nat.zero_add, cell_of_row _ wr.heap.size i _ 5 (0, 0) (heap_alloc_new wr _)]
            subst hlj
            have hi2 : i = 0 ∨ i = 1 ∨ i = 2 := by simp at hi; omega
            rcases hi2 with rfl | rfl | rfl
            · simp
              omega
            · simp
              omega
            · rfl)
          have hll : lj.length = 3 := by rw [hlj]; rfl
          rw [hll] at h0
          exact h0
        have hll : lj.length ≤ 1000000 := by rw [hlj]; simp
        clear hlj
        go_wp2_with fail
        clear hcvt
        refine (sector_list lj hll _).mono ?_
        rintro e w6 ⟨rfl, F6⟩
        -- ROUND2
        have F6' : Fr (fun _ => False) wr w6 := ((Fr.refl _ wr).alloc _).trans F6
        have T6 := T.kept F6' (fun _ _ => id) (fun _ _ => id) (fun _ _ => id)
        have O6 := own_fr hown F6' (fun _ _ => id)
        have N6 := NJ.none F6'
        clear T hown NJ F6 F6' hcell
        have hcell : w6.cell? ⟨g, off + j, none⟩ = some (.int .u8 x) := (World.cell?_of_block (w := w) (a := ⟨g, off + j, none⟩) (N6.block g hgN (by omega))).trans hcell0
        go_wp2_with fail
        clear hcell
        have hw := write_ok T6.a hTD.d (by rw [hTD.f]; omega) q (by rw [hTD.n]; exact hq32) ⟨(pad lj).toArray⟩ (pad_length _) (by rw [hTD.l]; omega) N6.size
        refine hw.mono ?_
        clear hw
        rintro e w7 ⟨rfl, la7, R7, F7, L7⟩
        have b7 := T6.b.kept F7 (fun k hk h => T6.ab k h hk)
        have c7 := T6.c.kept F7 (fun k hk h => T6.ac k h hk)
        have ab7 := T6.ab.step T6.b L7
        have ac7 := T6.ac.step T6.c L7
        have bc7 := T6.bc
        have O7 := own_fr O6 F7 (fun k hv hS => own_apart T6.a O6 k hS hv)
        have N7 := N6.foot F7 T6.a (Nat.le_refl _)
        clear T6 O6 N6 F7 L7
        have hcell : w7.cell? ⟨g, off + j, none⟩ = some (.int .u8 x) := (World.cell?_of_block (w := w) (a := ⟨g, off + j, none⟩) (N7.block g hgN (by omega))).trans hcell0
        go_wp2_with fail
        refine (err_any 0 _).mono ?_
        rintro e w40 ⟨rfl, rfl⟩
        go_wp2_with fail
        clear hcell
        have hw := write_ok b7 hTD.d (by rw [hTD.f]; omega) q (by rw [hTD.n]; exact hq32) ⟨(pad lj).toArray⟩ (pad_length _) (by rw [hTD.l]; omega) N7.size
        refine hw.mono ?_
        clear hw
        rintro e w8 ⟨rfl, lb8, R8, F8, L8⟩
        have a8 := R7.kept F8 (fun k hk h => ab7 k hk h)
        have c8 := c7.kept F8 (fun k hk h => bc7 k h hk)
        have ab8 := (ab7.symm.step R7 L8).symm
        have bc8 := bc7.step c7 L8
        have O8 := own_fr O7 F8 (fun k hv hS => own_apart b7 O7 k hS hv)
        have N8 := N7.foot F8 b7 (Nat.le_refl _)
        clear R7 b7 c7 ab7 bc7 O7 N7 F8 L8
        have hcell : w8.cell? ⟨g, off + j, none⟩ = some (.int .u8 x) := (World.cell?_of_block (w := w) (a := ⟨g, off + j, none⟩) (N8.block g hgN (by omega))).trans hcell0
        go_wp2_with fail
        refine (err_any 0 _).mono ?_
        rintro e w40 ⟨rfl, rfl⟩
        go_wp2_with fail
        clear hcell
        have hw := write_ok c8 hTD.d (by rw [hTD.f]; omega) q (by rw [hTD.n]; exact hq32) ⟨(pad lj).toArray⟩ (pad_length _) (by rw [hTD.l]; omega) N8.size
        refine hw.mono ?_
        clear hw
        rintro e w9 ⟨rfl, lc9, R9, F9, L9⟩
        have a9 := a8.kept F9 (fun k hk h => ac7 k hk h)
        have b9 := R8.kept F9 (fun k hk h => bc8 k hk h)
        have ac9 := (ac7.symm.step a8 L9).symm
        have bc9 := (bc8.symm.step R8 L9).symm
        have O9 := own_fr O8 F9 (fun k hv hS => own_apart c8 O8 k hS hv)
        have N9 := N8.foot F9 c8 (Nat.le_refl _)
        clear a8 R8 c8 ac7 bc8 O8 N8 F9 L9
        go_wp2_with fail
        refine (err_any 0 _).mono ?_
        rintro e w40 ⟨rfl, rfl⟩
        obtain ⟨v', W3, happ, hown', hgrow, hat⟩ := exec_append_own (P := Try.prog) (w9.alloc (.cells #[.int .i64 (j : Int), .int .i64 (j : Int)] 3)) w.heap.size 37 3 i3 _ 1 8 Try.underlying37 HI.out HZ.out HS3.out HB.out rfl (by decide) _ (2 * j) _ (O9.alloc _) ⟨w9.heap.size, 0, none⟩ 2 2 [.int .i64 (j : Int), .int .i64 (j : Int)] rfl (by
          intro i u hu
          rw [addr_add]
          exact seg_of_row (heap_alloc_new w9 (.cells [Value.int .i64 (j : Int), Value.int .i64 (j : Int)].toArray 3)) 0 _ (fun i _ => by rw [Nat.zero_add]) i u hu) (by intro u hu; simp at hu; subst hu; rfl) (by unfold maxLen; omega) (by omega) (by have := N9.size; simp; omega)
        have hfr : ∀ k, k < w9.heap.size → some k ≠ Value.ownBlock _ → W3.heap[k]? = w9.heap[k]? := fun k hk hne => (hgrow.block k (by simp; omega) hne).trans (Below.heap_alloc w9 _ k hk)
        have FF : Fr (fun k => Value.ownBlock _ = some k) w9 W3 := ⟨hgrow.os, hgrow.tape, hgrow.output, Nat.le_trans (by simp) hgrow.size, fun k hk hS => hfr k hk (fun e => hS e.symm)⟩
        have T10 : Tri W3 w.heap.size ba sa la7 bb sb lb8 bc sc lc9 (D.write q (pad lj)) := ⟨a9.kept FF (own_apart a9 O9), b9.kept FF (own_apart b9 O9), R9.kept FF (own_apart R9 O9), ab8, ac9, bc9⟩
        have N10 : Fresh w.heap.size w W3 := N9.trans (FF.mono (fun k hk h => (O9.lt k h).1))
        have O10 : W3.ownsRow w.heap.size 3 1 v' (2 * (j + 1)) ((dup (j + 1)).map (Value.int .i64)) := by rw [dup_succ, List.map_append]; exact hown'
        have TD10 := hTD.write q (pad lj)
        have HAPP := Lib.hid happ
        clear happ hown' hgrow hat hfr FF a9 b9 R9 ab8 ac9 bc9 O9 N9 HI HZ HS3 HB hTD
        have HT := Lib.hid (And.intro TD10 T10)
        clear TD10 T10
        go_wp2_with (at_builtin; refine wpList_run rfl _ (HAPP.out _ _ (.tmp 108) (.tmp 111) rfl rfl rfl) ?_)
        go_roundw
        case rel => exact ⟨j + 1, by omega, by omega, by go_num, O10, N10, _, _, _, _, HT.out.1, HT.out.2⟩
        case measure => simp [intOf]; omega
      · have hdd : decide ((j : Int) < 40) = false := by simp; omega
        go_wp2_with fail
        refine (flush_ok T.a hTD.d).mono ?_
        rintro e w4 ⟨rfl, RA, F4⟩
        have RB := T.b.kept F4 (fun k hk h => T.ab k h hk)
        have RC := T.c.kept F4 (fun k hk h => T.ac k h hk)
        have O4 := own_fr hown F4 (fun k hv hS => own_apart T.a hown k hS hv)
        have N4 := NJ.foot F4 T.a (Nat.le_refl _)
        have hab : Ap ba sa (.slice none 0 0) bb sb lb := fun k hk => T.ab k (by rcases hk with h | h | h; exact Or.inl h; exact Or.inr (Or.inl h); simp [Value.ownBlock] at h)
        have hac : Ap ba sa (.slice none 0 0) bc sc lc := fun k hk => T.ac k (by rcases hk with h | h | h; exact Or.inl h; exact Or.inr (Or.inl h); simp [Value.ownBlock] at h)
        have hbc := T.bc
        clear T hown NJ F4
        obtain ⟨pp, cc, hv, hpp⟩ := dup_at O4
        subst hv
        have HPP := Lib.hid hpp
        clear hpp O4
        go_wp2_with fail
        refine (crash_ok RB pp (dup j) (by rw [dup_length]; omega) cc HPP).mono ?_
        rintro e w5 ⟨rfl, RB5, F5⟩
        have RA5 := RA.kept F5 (fun k hk h => hab k hk h)
        have RC5 := RC.kept F5 (fun k hk h => hbc k h hk)
        have N5 := N4.foot F5 RB (Nat.le_refl _)
        have hbc' : Ap bb sb (.slice none 0 0) bc sc lc := fun k hk => hbc k (by rcases hk with h | h | h; exact Or.inl h; exact Or.inr (Or.inl h); simp [Value.ownBlock] at h)
        clear RA RB RC F5 N4 HPP hab hbc
        go_wp2_with fail
        have F5b : Fr (fun _ => False) w5 (w5.alloc (.cells #[.int .i64 (-1), .int .i64 1000] 3)) := (Fr.refl _ w5).alloc _
        have RC5b := RC5.kept F5b (fun _ _ => id)
        refine (crash_ok RC5b (some ⟨w5.heap.size, 0, none⟩) [-1, 1000] (by simp) 2 (fun i hi => ⟨w5.heap.size, 0, rfl, by
          rw [Nat.zero_add, cell_of_row _ w5.heap.size i _ 3 (0, 0) (heap_alloc_new w5 _)]
          have hi2 : i = 0 ∨ i = 1 := by simp at hi; omega
          rcases hi2 with rfl | rfl <;> rfl⟩)).mono ?_
        rintro e w6 ⟨rfl, RC6, F6⟩
        have RA6 := (RA5.kept F5b (fun _ _ => id)).kept F6 (fun k hk h => hac k hk h)
        have RB6 := (RB5.kept F5b (fun _ _ => id)).kept F6 (fun k hk h => hbc' k hk h)
        have N6 := (N5.none F5b).foot F6 RC5b (Nat.le_refl _)
        clear RA5 RB5 RC5 RC5b F5b F6 N5 hac hbc'
        have va : ∀ i, D.flush.now i = D.now i := fun i => rfl
        have vb : ∀ i, (D.crash (dup j)).now i = D.now i := fun i => hTD.all i
        have vc : ∀ i, (D.crash [-1, 1000]).now i = SE := fun i => hTD.none hj40 i
        have na : D.flush.n = 32 := hTD.n
        have nb : (D.crash (dup j)).n = 32 := hTD.n
        have nc : (D.crash [-1, 1000]).n = 32 := hTD.n
        have da : D.flush.down = false := hTD.d
        have db : (D.crash (dup j)).down = false := rfl
        have dc : (D.crash [-1, 1000]).down = false := rfl
        have la0 : D.flush.loose = [] := rfl
        have lb0 : (D.crash (dup j)).loose = [] := rfl
        have lc0 : (D.crash [-1, 1000]).loose = [] := rfl
        generalize D.flush = Da at *
        generalize D.crash (dup j) = Db at *
        generalize D.crash [-1, 1000] = Dc at *
        have HVA := Lib.hid va
        have HVB := Lib.hid vb
        have HVC := Lib.hid vc
        clear va vb vc hTD
        go_wp2_with fail
        go_loopw [12] (fun i wr => ∃ r : Nat, r ≤ 32 ∧ i = .int .i64 r ∧ Rep wr w.heap.size ba sa (.slice none 0 0) Da ∧ Rep wr w.heap.size bb sb (.slice none 0 0) Db ∧ Rep wr w.heap.size bc sc (.slice none 0 0) Dc ∧ Fresh w.heap.size w wr) (fun i _ => 32 - (intOf i).toNat)
        case atStart => exact ⟨0, Nat.zero_le _, rfl, RA6, RB6, RC6, N6⟩
        case round =>
          clear RA6 RB6 RC6 N6
          obtain ⟨r, hr, rfl, RA7, RB7, RC7, N7⟩ := hrel
          by_cases hr32 : r < 32
          · go_wp2_with fail
            have h1 := read_ok RA7 da r (by rw [na]; exact hr32)
            rw [HVA.out] at h1
            refine h1.mono ?_
            clear h1
            rintro e w41 ⟨rfl, rfl⟩
            go_wp2_with fail
            have h1 := read_ok RB7 db r (by rw [nb]; exact hr32)
            rw [HVB.out] at h1
            refine h1.mono ?_
            clear h1
            rintro e w41 ⟨rfl, rfl⟩
            go_wp2_with fail
            have h1 := read_ok RC7 dc r (by rw [nc]; exact hr32)
            rw [HVC.out] at h1
            refine h1.mono ?_
            clear h1
            rintro e w41 ⟨rfl, rfl⟩
            go_wp2_with fail
            refine (sector_SEt _).mono ?_
            rintro e w8 ⟨rfl, F8⟩
            have RA8 := RA7.kept F8 (fun _ _ => id)
            have RB8 := RB7.kept F8 (fun _ _ => id)
            have RC8 := RC7.kept F8 (fun _ _ => id)
            have N8 := N7.none F8
            clear RA7 RB7 RC7 N7 F8
            go_wp2_with fail
            go_roundw
            case rel => exact ⟨r + 1, by omega, by go_num, RA8, RB8, RC8, N8⟩
            case measure => simp [intOf]; omega
          · have hdr : decide ((r : Int) < 32) = false := by simp; omega
            go_wp2_with fail
            refine (loose0 RA7 la0).mono ?_
            rintro e w41 ⟨rfl, rfl⟩
            go_wp2_with fail
            refine (loose0 RB7 lb0).mono ?_
            rintro e w41 ⟨rfl, rfl⟩
            go_wp2_with fail
            refine (loose0 RC7 lc0).mono ?_
            rintro e w41 ⟨rfl, rfl⟩
            go_wp2_with fail
            refine (awake_ok _).mono ?_
            rintro e w9 ⟨rfl, F9⟩
            have N9 := N7.none F9
            clear N7 F9
            go_wp2_with fail
            go_ret
            exact ⟨rfl, N9⟩
    · have hdd : decide ((j : Int) < (len : Int)) = false := by simp; omega
      go_wp2_with fail
      refine (flush_ok T.a hTD.d).mono ?_
      rintro e w4 ⟨rfl, RA, F4⟩
      have RB := T.b.kept F4 (fun k hk h => T.ab k h hk)
      have RC := T.c.kept F4 (fun k hk h => T.ac k h hk)
      have O4 := own_fr hown F4 (fun k hv hS => own_apart T.a hown k hS hv)
      have N4 := NJ.foot F4 T.a (Nat.le_refl _)
      have hab : Ap ba sa (.slice none 0 0) bb sb lb := fun k hk => T.ab k (by rcases hk with h | h | h; exact Or.inl h; exact Or.inr (Or.inl h); simp [Value.ownBlock] at h)
      have hac : Ap ba sa (.slice none 0 0) bc sc lc := fun k hk => T.ac k (by rcases hk with h | h | h; exact Or.inl h; exact Or.inr (Or.inl h); simp [Value.ownBlock] at h)
      have hbc := T.bc
      clear T hown NJ F4
      obtain ⟨pp, cc, hv, hpp⟩ := dup_at O4
      subst hv
      have HPP := Lib.hid hpp
      clear hpp O4
      go_wp2_with fail
      refine (crash_ok RB pp (dup j) (by rw [dup_length]; omega) cc HPP).mono ?_
      rintro e w5 ⟨rfl, RB5, F5⟩
      have RA5 := RA.kept F5 (fun k hk h => hab k hk h)
      have RC5 := RC.kept F5 (fun k hk h => hbc k h hk)
      have N5 := N4.foot F5 RB (Nat.le_refl _)
      have hbc' : Ap bb sb (.slice none 0 0) bc sc lc := fun k hk => hbc k (by rcases hk with h | h | h; exact Or.inl h; exact Or.inr (Or.inl h); simp [Value.ownBlock] at h)
      clear RA RB RC F5 N4 HPP hab hbc
      go_wp2_with fail
      have F5b : Fr (fun _ => False) w5 (w5.alloc (.cells #[.int .i64 (-1), .int .i64 1000] 3)) := (Fr.refl _ w5).alloc _
      have RC5b := RC5.kept F5b (fun _ _ => id)
      refine (crash_ok RC5b (some ⟨w5.heap.size, 0, none⟩) [-1, 1000] (by simp) 2 (fun i hi => ⟨w5.heap.size, 0, rfl, by
        rw [Nat.zero_add, cell_of_row _ w5.heap.size i _ 3 (0, 0) (heap_alloc_new w5 _)]
        have hi2 : i = 0 ∨ i = 1 := by simp at hi; omega
        rcases hi2 with rfl | rfl <;> rfl⟩)).mono ?_
      rintro e w6 ⟨rfl, RC6, F6⟩
      have RA6 := (RA5.kept F5b (fun _ _ => id)).kept F6 (fun k hk h => hac k hk h)
      have RB6 := (RB5.kept F5b (fun _ _ => id)).kept F6 (fun k hk h => hbc' k hk h)
      have N6 := (N5.none F5b).foot F6 RC5b (Nat.le_refl _)
      clear RA5 RB5 RC5 RC5b F5b F6 N5 hac hbc'
      have va : ∀ i, D.flush.now i = D.now i := fun i => rfl
      have vb : ∀ i, (D.crash (dup j)).now i = D.now i := fun i => hTD.all i
      have vc : ∀ i, (D.crash [-1, 1000]).now i = SE := fun i => hTD.none hj40 i
      have na : D.flush.n = 32 := hTD.n
      have nb : (D.crash (dup j)).n = 32 := hTD.n
      have nc : (D.crash [-1, 1000]).n = 32 := hTD.n
      have da : D.flush.down = false := hTD.d
      have db : (D.crash (dup j)).down = false := rfl
      have dc : (D.crash [-1, 1000]).down = false := rfl
      have la0 : D.flush.loose = [] := rfl
      have lb0 : (D.crash (dup j)).loose = [] := rfl
      have lc0 : (D.crash [-1, 1000]).loose = [] := rfl
      generalize D.flush = Da at *
      generalize D.crash (dup j) = Db at *
      generalize D.crash [-1, 1000] = Dc at *
      have HVA := Lib.hid va
      have HVB := Lib.hid vb
      have HVC := Lib.hid vc
      clear va vb vc hTD
      go_wp2_with fail
      go_loopw [12] (fun i wr => ∃ r : Nat, r ≤ 32 ∧ i = .int .i64 r ∧ Rep wr w.heap.size ba sa (.slice none 0 0) Da ∧ Rep wr w.heap.size bb sb (.slice none 0 0) Db ∧ Rep wr w.heap.size bc sc (.slice none 0 0) Dc ∧ Fresh w.heap.size w wr) (fun i _ => 32 - (intOf i).toNat)
      case atStart => exact ⟨0, Nat.zero_le _, rfl, RA6, RB6, RC6, N6⟩
      case round =>
        clear RA6 RB6 RC6 N6
        obtain ⟨r, hr, rfl, RA7, RB7, RC7, N7⟩ := hrel
        by_cases hr32 : r < 32
        · go_wp2_with fail
          have h1 := read_ok RA7 da r (by rw [na]; exact hr32)
          rw [HVA.out] at h1
          refine h1.mono ?_
          clear h1
          rintro e w41 ⟨rfl, rfl⟩
          go_wp2_with fail
          have h1 := read_ok RB7 db r (by rw [nb]; exact hr32)
          rw [HVB.out] at h1
          refine h1.mono ?_
          clear h1
          rintro e w41 ⟨rfl, rfl⟩
          go_wp2_with fail
          have h1 := read_ok RC7 dc r (by rw [nc]; exact hr32)
          rw [HVC.out] at h1
          refine h1.mono ?_
          clear h1
          rintro e w41 ⟨rfl, rfl⟩
          go_wp2_with fail
          refine (sector_SEt _).mono ?_
          rintro e w8 ⟨rfl, F8⟩
          have RA8 := RA7.kept F8 (fun _ _ => id)
          have RB8 := RB7.kept F8 (fun _ _ => id)
          have RC8 := RC7.kept F8 (fun _ _ => id)
          have N8 := N7.none F8
          clear RA7 RB7 RC7 N7 F8
          go_wp2_with fail
          go_roundw
          case rel => exact ⟨r + 1, by omega, by go_num, RA8, RB8, RC8, N8⟩
          case measure => simp [intOf]; omega
        · have hdr : decide ((r : Int) < 32) = false := by simp; omega
          go_wp2_with fail
          refine (loose0 RA7 la0).mono ?_
          rintro e w41 ⟨rfl, rfl⟩
          go_wp2_with fail
          refine (loose0 RB7 lb0).mono ?_
          rintro e w41 ⟨rfl, rfl⟩
          go_wp2_with fail
          refine (loose0 RC7 lc0).mono ?_
          rintro e w41 ⟨rfl, rfl⟩
          go_wp2_with fail
          refine (awake_ok _).mono ?_
          rintro e w9 ⟨rfl, F9⟩
          have N9 := N7.none F9
          clear N7 F9
          go_wp2_with fail
          go_ret
          exact ⟨rfl, N9⟩
end Go.Proofs.Ytpkhddnehhophaa
