/- The walk of DiskKeeps: it returns true, and changes nothing that was there. -/
import Derived.Test.YtpkhddnehhophaaKeepsA
import Derived.Deep.CutBlock
import Derived.Deep.DeepCutAuto
namespace Go.Proofs.Ytpkhddnehhophaa
open Go.RowKit
set_option linter.unusedVariables false

theorem info3k : (Try.prog.info? 3).map (fun i => (i.zero, i.size, i.bytes)) = some (some (.int .i64 0), 1, 8) := by kernel_rfl
theorem sector_SEk (w : World) : Calls Try.prog 14 #[.string ⟨#[]⟩] w fun e w' => e = .returned (.string ⟨SE.toArray⟩) ∧ Fr (fun _ => False) w w' := sector_list [] (by decide) w

/-- A slice of bytes that came in. -/
def BytesIn (w : World) (a : Option Addr) (len : Nat) (A : Nat → Nat) : Prop := ∀ j, j < len → A j ≤ 255 ∧ ∃ g off, a = some ⟨g, off, none⟩ ∧ w.cell? ⟨g, off + j, none⟩ = some (.int .u8 (A j))
theorem BytesIn.get {w wr : World} {a : Option Addr} {len : Nat} {A : Nat → Nat} (h : BytesIn w a len A) (hf : Fresh w.heap.size w wr) (j : Nat) (hj : j < len) : ∃ g off x, a = some ⟨g, off, none⟩ ∧ x = A j ∧ x ≤ 255 ∧ g < w.heap.size ∧ w.cell? ⟨g, off + j, none⟩ = some (.int .u8 x) ∧ wr.cell? ⟨g, off + j, none⟩ = some (.int .u8 x) := by
  obtain ⟨h1, g, off, rfl, hc⟩ := h j hj
  have hg := block_lt_of_cell hc
  exact ⟨g, off, A j, rfl, rfl, h1, hg, hc, (World.cell?_of_block (w := w) (a := ⟨g, off + j, none⟩) (hf.block g hg (by show ¬ w.heap.size ≤ g; have : g < w.heap.size := hg; omega))).trans hc⟩

theorem loose0k {w : World} {B b bs : Nat} {lv : Value} {D : DS} (h : Rep w B b bs lv D) (hl : D.loose = []) : Calls Try.prog 17 #[.pointer (some ⟨b, 0, none⟩)] w fun e w' => e = .returned (.int .i64 0) ∧ w = w' := by
  have h1 := loose_any h
  rw [hl] at h1
  exact h1
theorem mods_shape {w : World} {base : Nat} {v : Value} {m : Nat} {C : Nat → Nat} (h : w.ownsRow base 3 1 v m ((mods C m).map (Value.int .i64))) : ∃ p c, v = .slice p m c := by
  obtain ⟨p, c, hv, -⟩ := mods_at h
  rw [mods_length] at hv
  exact ⟨p, c, hv⟩
theorem mods_cells {w : World} {base : Nat} {p : Option Addr} {m c : Nat} {C : Nat → Nat} (h : w.ownsRow base 3 1 (.slice p m c) m ((mods C m).map (Value.int .i64))) :
    ∀ j (hj : j < (mods C m).length), ∃ g off, p = some ⟨g, off, none⟩ ∧ w.cell? ⟨g, off + j, none⟩ = some (.int .i64 (mods C m)[j]) := by
  obtain ⟨p', c', hv, hp⟩ := mods_at h
  injection hv with e1 e2 e3
  subst e1
  exact hp
theorem mods_get {w : World} {base : Nat} {p : Option Addr} {m c : Nat} {C : Nat → Nat} (h : w.ownsRow base 3 1 (.slice p m c) m ((mods C m).map (Value.int .i64))) (k : Nat) (hk : k < m) :
    ∃ g off z, p = some ⟨g, off, none⟩ ∧ z = C k % 20 ∧ w.cell? ⟨g, off + k, none⟩ = some (.int .i64 ((z : Nat) : Int)) := by
  obtain ⟨g, off, e, hc⟩ := mods_cells h k (by rw [mods_length]; exact hk)
  refine ⟨g, off, _, e, rfl, ?_⟩
  rw [hc]
  simp [mods]
theorem marked_zero (C : Nat → Nat) (j : Nat) : marked (mods C 0) j = false := rfl
theorem marked_succ (C : Nat → Nat) (k j z : Nat) (hz : z = C k % 20) : marked (mods C (k + 1)) j = (marked (mods C k) j || decide (z = j)) := by
  rw [mods_succ, marked_snoc, ← hz]
  congr 1
  rw [Bool.eq_iff_iff]
  simp
  omega
theorem upd_upd (f : Nat → List UInt8) (i : Nat) (s : List UInt8) : upd (upd f i s) i s = upd f i s := by
  funext k
  unfold upd
  split <;> rfl

set_option maxRecDepth 100000 in
set_option maxHeartbeats 4000000 in
theorem keeps_law (a1 a2 a3 : Option Addr) (n1 n2 n3 p1 p2 p3 : Nat) (A1 A2 A3 : Nat → Nat) (hn1 : n1 ≤ 9223372036854775807) (hn2 : n2 ≤ 9223372036854775807) (hn3 : n3 ≤ 9223372036854775807) (w : World)
    (h1 : Hid (BytesIn w a1 n1 A1)) (h2 : Hid (BytesIn w a2 n2 A2)) (h3 : Hid (BytesIn w a3 n3 A3)) :
    Calls Try.prog 5 #[.slice a1 n1 p1, .slice a2 n2 p2, .slice a3 n3 p3] w fun e w' => e = .returned (.bool true) ∧ Fresh w.heap.size w w' := by
  go_enter Try.func5, Try.ntmps5
  go_wp2_with fail
  refine (new_ok 32 (by omega) (by omega) w w.heap.size (Nat.le_refl _)).mono ?_
  rintro e w1 ⟨b, bs, rfl, hb, hbs, R1, F1⟩
  have N1 : Fresh w.heap.size w w1 := (Fr.refl _ w).trans (F1.mono (fun _ _ h => h.elim))
  clear F1
  go_wp2_with fail
  refine (err_any 0 _).mono ?_
  rintro e w40 ⟨rfl, rfl⟩
  have tok : True := trivial
  go_wp2_with (have _t := tok; refine wpList_run rfl _ (make32 w1 (.const (.int .i64 32)) (.const (.int .i64 32)) rfl rfl rfl) ?_; clear tok)
  obtain ⟨g, hgw⟩ : ∃ g, g = w1.heap.size := ⟨_, rfl⟩
  obtain ⟨w2, hw2⟩ : ∃ w2, w2 = w1.alloc wblk := ⟨_, rfl⟩
  have W2 : Want w2 g (fun q => if q < 0 then SE else []) := by rw [hw2, hgw]; exact (want_new w1).congr (fun i _ => by rw [if_neg (by omega)])
  have R2 : Rep w2 w.heap.size b bs (.slice none 0 0) (DS.new 32) := by rw [hw2]; exact R1.frame_new _
  have N2 : Fresh w.heap.size w w2 := by rw [hw2]; exact N1.alloc _
  have hgN : w.heap.size ≤ g := by rw [hgw]; exact N1.size
  rw [← hw2, ← hgw]
  clear hw2 hgw R1 N1
  go_loopw [10] (fun i wr => ∃ j : Nat, j ≤ 32 ∧ i = .int .i64 j ∧ Rep wr w.heap.size b bs (.slice none 0 0) (DS.new 32) ∧ Want wr g (fun q => if q < j then SE else []) ∧ Fresh w.heap.size w wr) (fun i _ => 32 - (intOf i).toNat)
  case atStart => exact ⟨0, Nat.zero_le _, rfl, R2, W2, N2⟩
  case round =>
    clear R2 W2 N2
    obtain ⟨j, hj, rfl, RJ, WJ, NJ⟩ := hrel
    by_cases hlt : j < 32
    · go_wp2_with fail
      refine (sector_SEk _).mono ?_
      rintro e w6 ⟨rfl, F6⟩
      have R6 := RJ.kept F6 (fun _ _ => id)
      have W6 := WJ.kept F6 id
      have N6 := NJ.none F6
      clear RJ WJ NJ F6
      obtain ⟨c1, c2⟩ := W6.cell j hlt
      have HR := Lib.hid (R6.kept (Want.fr (g := g) (i := j) (v := .string ⟨SE.toArray⟩)) (fun k hk e => want_apart R6 W6 (e ▸ hk)))
      have HW := Lib.hid ((W6.set j hlt SE).congr (V := fun q => if q < j + 1 then SE else []) (fun i hi => by
        unfold upd
        by_cases e : i = j
        · rw [if_pos e, if_pos (by omega)]
        · rw [if_neg e]
          show (if i < j then SE else []) = if i < j + 1 then SE else []
          by_cases e2 : i < j
          · rw [if_pos e2, if_pos (by omega)]
          · rw [if_neg e2, if_neg (by omega)]))
      have HN := Lib.hid (N6.trans ((Want.fr (w := w6) (g := g) (i := j) (v := .string ⟨SE.toArray⟩)).mono (fun k _ e => e ▸ hgN)))
      clear R6 W6 N6
      go_wp2_with fail
      go_roundw
      case rel => exact ⟨j + 1, by omega, by go_num, HR.out, HW.out, HN.out⟩
      case measure => simp [intOf]; omega
    · obtain rfl : j = 32 := by omega
      have WK : Want wr g (DS.new 32).now := WJ.congr (fun i hi => by rw [if_pos hi, SE_z64]; rfl)
      clear WJ hlt hj
      rw [show ((32 : Nat) : Int) = (32 : Int) from rfl]
      go_upto_block 2 with fail
      go_cut [] (fun wx => Fresh w.heap.size w wx ∧ ∃ D lv j, TF D j zz ∧ j ≤ 40 ∧ Rep wx w.heap.size b bs lv D ∧ Want wx g D.now)
      case first =>
        go_wp2_with fail
        go_loopw [11] (fun i wr => ∃ j : Nat, j ≤ n1 ∧ j ≤ 40 ∧ i = .int .i64 j ∧ Fresh w.heap.size w wr ∧ ∃ D lv, TF D j zz ∧ Rep wr w.heap.size b bs lv D ∧ Want wr g D.now) (fun i _ => 40 - (intOf i).toNat)
        case atStart => exact ⟨0, Nat.zero_le _, Nat.zero_le _, rfl, NJ, _, _, TF.zero, RJ, WK⟩
        case round =>
          clear RJ NJ WK
          obtain ⟨j, hj, hj40, rfl, NJ, D, lv, hTF, RJ, WJ⟩ := hrel
          by_cases hlt : j < n1
          · by_cases hlt2 : j < 40
            · obtain ⟨g1, off, x, rfl, -, hx255, hgN1, hcell0, hcell⟩ := h1.out.get NJ j hlt
              obtain ⟨q, hq⟩ : ∃ q : Nat, (x : Int) % 32 = (q : Int) := ⟨x % 32, by omega⟩
              have hq32 : q < 32 := by omega
              obtain ⟨lj, hlj⟩ : ∃ lj : List UInt8, lj = [UInt8.ofNat x, UInt8.ofNat j] := ⟨_, rfl⟩
              have hcvt : (convert 25 9 (.slice (some ⟨wr.heap.size, 0, none⟩) 2 2)).run Try.prog (wr.alloc (.cells #[.int .u8 (x : Int), .int .u8 (j : Int)] 5)) = .ok (.string ⟨lj.toArray⟩) (wr.alloc (.cells #[.int .u8 (x : Int), .int .u8 (j : Int)] 5)) := by
                have h0 := run_convert_bytes_back (P := Try.prog) (wr.alloc (.cells #[.int .u8 (x : Int), .int .u8 (j : Int)] 5)) 25 9 5 ⟨wr.heap.size, 0, none⟩ 2 lj Try.underlying25 Try.underlying5 Try.underlying9 (by
                  intro i hi
                  rw [addr_add, Nat.zero_add, cell_of_row _ wr.heap.size i _ 5 (0, 0) (heap_alloc_new wr _)]
                  subst hlj
                  have hi2 : i = 0 ∨ i = 1 := by simp at hi; omega
                  rcases hi2 with rfl | rfl
                  · simp
                    omega
                  · simp
                    omega)
                have hll : lj.length = 2 := by rw [hlj]; rfl
                rw [hll] at h0
                exact h0
              have hll : lj.length ≤ 1000000 := by rw [hlj]; simp
              clear hlj
              go_wp2_with fail
              clear hcvt
              refine (sector_list lj hll _).mono ?_
              rintro e w6 ⟨rfl, F6⟩
              have F6' : Fr (fun _ => False) wr w6 := ((Fr.refl _ wr).alloc _).trans F6
              have R6 := RJ.kept F6' (fun _ _ => id)
              have W6 := WJ.kept F6' id
              have N6 := NJ.none F6'
              clear RJ WJ NJ F6 F6' hcell
              have hcell : w6.cell? ⟨g1, off + j, none⟩ = some (.int .u8 x) := (World.cell?_of_block (w := w) (a := ⟨g1, off + j, none⟩) (N6.block g1 hgN1 (by omega))).trans hcell0
              go_wp2_with fail
              clear hcell
              have hw := write_ok R6 hTF.d (by rw [hTF.f]; omega) q (by rw [hTF.n]; exact hq32) ⟨(pad lj).toArray⟩ (pad_length _) (by rw [hTF.l]; omega) N6.size
              refine hw.mono ?_
              clear hw
              rintro e w7 ⟨rfl, lv7, R7, F7, L7⟩
              have W7 := W6.kept F7 (want_apart R6 W6)
              have N7 := N6.foot F7 R6 (Nat.le_refl _)
              clear R6 W6 N6 F7 L7
              have hcell : w7.cell? ⟨g1, off + j, none⟩ = some (.int .u8 x) := (World.cell?_of_block (w := w) (a := ⟨g1, off + j, none⟩) (N7.block g1 hgN1 (by omega))).trans hcell0
              obtain ⟨c1, c2⟩ := W7.cell q hq32
              have HR := Lib.hid (R7.kept (Want.fr (g := g) (i := q) (v := .string ⟨(pad lj).toArray⟩)) (fun k hk e => want_apart R7 W7 (e ▸ hk)))
              have HW := Lib.hid (W7.set q hq32 (pad lj))
              have HN := Lib.hid (N7.trans ((Want.fr (w := w7) (g := g) (i := q) (v := .string ⟨(pad lj).toArray⟩)).mono (fun k _ e => e ▸ hgN)))
              have HT := Lib.hid (hTF.write q (pad lj))
              clear R7 W7 N7 hTF
              go_wp2_with fail
              go_roundw
              case rel =>
                exact ⟨j + 1, by omega, by omega, by go_num, HN.out, _, _, HT.out, HR.out, HW.out⟩
              case measure => simp [intOf]; omega
            · have hdd : decide ((j : Int) < 40) = false := by simp; omega
              go_wp2_with fail
              go_meet
              exact ⟨NJ, D, lv, j, hTF, hj40, RJ, WJ⟩
          · have hdd : decide ((j : Int) < (n1 : Int)) = false := by simp; omega
            go_wp2_with fail
            go_meet
            exact ⟨NJ, D, lv, j, hTF, hj40, RJ, WJ⟩
      case rest =>
        clear RJ NJ WK
        obtain ⟨NJ, D, lv, j0, hTF, hj40, RJ, WJ⟩ := hcut
        go_wp2_with fail
        refine (flush_ok RJ hTF.d).mono ?_
        rintro e w4 ⟨rfl, R4, F4⟩
        have W4 := WJ.kept F4 (want_apart RJ WJ)
        have N4 := NJ.foot F4 RJ (Nat.le_refl _)
        have TF4 := hTF.flush
        have V4 : Want w4 g D.flush.now := W4
        obtain ⟨F, hF⟩ : ∃ F, F = D.now := ⟨_, rfl⟩
        have TF5 : TF D.flush 0 F := by rw [hF]; exact TF4
        clear hF TF4 W4 RJ NJ WJ F4 hTF hj40
        generalize D.flush = D4 at *
        obtain ⟨i3, hi3, hz3, hs3, hb3⟩ := info_parts info3k
        have HI := Lib.hid hi3
        have HZ := Lib.hid hz3
        have HS3 := Lib.hid hs3
        have HB := Lib.hid hb3
        clear hi3 hz3 hs3 hb3
        go_upto_block 4 with fail
        go_cut [13] (fun v wx => ∃ m, m ≤ 20 ∧ wx.ownsRow w.heap.size 3 1 v m ((mods A3 m).map (Value.int .i64)) ∧ Fresh w.heap.size w wx ∧ Rep wx w.heap.size b bs (.slice none 0 0) D4 ∧ Want wx g D4.now)
        case first =>
          go_wp2_with fail
          go_loopw [13, 14] (fun v i wr => ∃ j : Nat, j ≤ n3 ∧ j ≤ 20 ∧ i = .int .i64 j ∧ wr.ownsRow w.heap.size 3 1 v j ((mods A3 j).map (Value.int .i64)) ∧ Fresh w.heap.size w wr ∧ Rep wr w.heap.size b bs (.slice none 0 0) D4 ∧ Want wr g D4.now) (fun _ i _ => 20 - (intOf i).toNat)
          case atStart => exact ⟨0, Nat.zero_le _, Nat.zero_le _, rfl, World.ownsRow_nil _ _ _ _, N4, R4, V4⟩
          case round =>
            clear N4 R4 V4
            rename_i v _ _
            obtain ⟨j, hj, hj20, rfl, hown, NJ, RJ, WJ⟩ := hrel
            by_cases hlt : j < n3
            · by_cases hlt2 : j < 20
              · obtain ⟨g1, off, x, rfl, hx, hx255, hgN1, hcell0, hcell⟩ := h3.out.get NJ j hlt
                obtain ⟨q, hq, hq2⟩ : ∃ q : Nat, (x : Int) % 20 = (q : Int) ∧ q = x % 20 := ⟨x % 20, by omega, rfl⟩
                have HX := Lib.hid hx
                have HQ := Lib.hid hq2
                clear hx hq2
                obtain ⟨v', W3, happ, hown', hgrow, hat⟩ := exec_append_own (P := Try.prog) (wr.alloc (.cells #[.int .i64 (q : Int)] 3)) w.heap.size 37 3 i3 _ 1 8 Try.underlying37 HI.out HZ.out HS3.out HB.out rfl (by decide) _ j _ (hown.alloc _) ⟨wr.heap.size, 0, none⟩ 1 1 [.int .i64 (q : Int)] rfl (by
                  intro i u hu
                  rw [addr_add]
                  exact seg_of_row (heap_alloc_new wr (.cells [Value.int .i64 (q : Int)].toArray 3)) 0 _ (fun i _ => by rw [Nat.zero_add]) i u hu) (by intro u hu; simp at hu; subst hu; rfl) (by unfold maxLen; omega) (by omega) (by have := NJ.size; simp; omega)
                have hfr : ∀ k, k < wr.heap.size → some k ≠ Value.ownBlock _ → W3.heap[k]? = wr.heap[k]? := fun k hk hne => (hgrow.block k (by simp; omega) hne).trans (Below.heap_alloc wr _ k hk)
                have FF : Fr (fun k => Value.ownBlock _ = some k) wr W3 := ⟨hgrow.os, hgrow.tape, hgrow.output, Nat.le_trans (by simp) hgrow.size, fun k hk hS => hfr k hk (fun e => hS e.symm)⟩
                have R10 := RJ.kept FF (own_apart RJ hown)
                have W10 := WJ.kept FF (want_own WJ hown)
                have N10 : Fresh w.heap.size w W3 := NJ.trans (FF.mono (fun k hk h => (hown.lt k h).1))
                have O10 : W3.ownsRow w.heap.size 3 1 v' (j + 1) ((mods A3 (j + 1)).map (Value.int .i64)) := by rw [mods_succ, List.map_append, ← HX.out, ← HQ.out]; exact hown'
                have HAPP := Lib.hid happ
                clear happ hown' hgrow hat hfr FF hown RJ WJ NJ
                go_wp2_with (at_builtin; refine wpList_run rfl _ (HAPP.out _ _ (.tmp 91) (.tmp 98) rfl rfl rfl) ?_)
                go_roundw
                case rel => exact ⟨j + 1, by omega, by omega, by go_num, O10, N10, R10, W10⟩
                case measure => simp [intOf]; omega
              · have hdd : decide ((j : Int) < 20) = false := by simp; omega
                go_wp2_with fail
                go_meet
                exact ⟨j, hj20, hown, NJ, RJ, WJ⟩
            · have hdd : decide ((j : Int) < (n3 : Int)) = false := by simp; omega
              go_wp2_with fail
              go_meet
              exact ⟨j, hj20, hown, NJ, RJ, WJ⟩
        case rest =>
          clear N4 R4 V4
          obtain ⟨m, hm20, hown, NJ, RJ, WJ⟩ := hcut
          have WK := WJ.congr (V := keptZ D4.loose (marked (mods A3 m)) F) (fun i _ => by rw [TF5.nw, List.eq_nil_of_length_eq_zero TF5.l]; rfl)
          clear WJ
          obtain ⟨p, c, hv⟩ := mods_shape hown
          subst hv
          go_upto_block 6 with fail
          go_cut [] (fun wx => ∃ D lv j, TF D j F ∧ j ≤ 20 ∧ j ≤ n2 ∧ (n2 ≤ j ∨ 20 ≤ j) ∧ wx.ownsRow w.heap.size 3 1 (.slice p m c) m ((mods A3 m).map (Value.int .i64)) ∧ Fresh w.heap.size w wx ∧ Rep wx w.heap.size b bs lv D ∧ Want wx g (keptZ D.loose (marked (mods A3 m)) F))
          case first =>
            go_wp2_with fail
            go_loopw [15] (fun i wr => ∃ j : Nat, j ≤ n2 ∧ j ≤ 20 ∧ i = .int .i64 j ∧ wr.ownsRow w.heap.size 3 1 (.slice p m c) m ((mods A3 m).map (Value.int .i64)) ∧ Fresh w.heap.size w wr ∧ ∃ D lv, TF D j F ∧ Rep wr w.heap.size b bs lv D ∧ Want wr g (keptZ D.loose (marked (mods A3 m)) F)) (fun i _ => 20 - (intOf i).toNat)
            case atStart => exact ⟨0, Nat.zero_le _, Nat.zero_le _, rfl, hown, NJ, _, _, TF5, RJ, WK⟩
            case round =>
              clear hown NJ RJ WK TF5
              obtain ⟨j, hj, hj20, rfl, hown, NJ, D, lv, hTF, RJ, WJ⟩ := hrel
              by_cases hlt : j < n2
              · by_cases hlt2 : j < 20
                · obtain ⟨g1, off, x, rfl, -, hx255, hgN1, hcell0, hcell⟩ := h2.out.get NJ j hlt
                  obtain ⟨q, hq⟩ : ∃ q : Nat, (x : Int) % 32 = (q : Int) := ⟨x % 32, by omega⟩
                  have hq32 : q < 32 := by omega
                  obtain ⟨lj, hlj⟩ : ∃ lj : List UInt8, lj = [1, UInt8.ofNat x, UInt8.ofNat j] := ⟨_, rfl⟩
                  have hcvt : (convert 25 9 (.slice (some ⟨wr.heap.size, 0, none⟩) 3 3)).run Try.prog (wr.alloc (.cells #[.int .u8 1, .int .u8 (x : Int), .int .u8 (j : Int)] 5)) = .ok (.string ⟨lj.toArray⟩) (wr.alloc (.cells #[.int .u8 1, .int .u8 (x : Int), .int .u8 (j : Int)] 5)) := by
                    have h0 := run_convert_bytes_back (P := Try.prog) (wr.alloc (.cells #[.int .u8 1, .int .u8 (x : Int), .int .u8 (j : Int)] 5)) 25 9 5 ⟨wr.heap.size, 0, none⟩ 3 lj Try.underlying25 Try.underlying5 Try.underlying9 (by
                      intro i hi
                      rw [addr_add, Nat.zero_add, cell_of_row _ wr.heap.size i _ 5 (0, 0) (heap_alloc_new wr _)]
                      subst hlj
                      have hi2 : i = 0 ∨ i = 1 ∨ i = 2 := by simp at hi; omega
                      rcases hi2 with rfl | rfl | rfl
                      · rfl
                      · simp
                        omega
                      · simp
                        omega)
                    have hll : lj.length = 3 := by rw [hlj]; rfl
                    rw [hll] at h0
                    exact h0
                  have hll : lj.length ≤ 1000000 := by rw [hlj]; simp
                  clear hlj
                  go_wp2_with fail
                  clear hcvt
                  refine (sector_list lj hll _).mono ?_
                  rintro e w6 ⟨rfl, F6⟩
                  have F6' : Fr (fun _ => False) wr w6 := ((Fr.refl _ wr).alloc _).trans F6
                  have R6 := RJ.kept F6' (fun _ _ => id)
                  have W6 := WJ.kept F6' id
                  have O6 := own_fr hown F6' (fun _ _ => id)
                  have N6 := NJ.none F6'
                  clear RJ WJ NJ F6 F6' hcell hown
                  have hcell : w6.cell? ⟨g1, off + j, none⟩ = some (.int .u8 x) := (World.cell?_of_block (w := w) (a := ⟨g1, off + j, none⟩) (N6.block g1 hgN1 (by omega))).trans hcell0
                  go_wp2_with fail
                  clear hcell
                  have hw := write_ok R6 hTF.d (by rw [hTF.f]; omega) q (by rw [hTF.n]; exact hq32) ⟨(pad lj).toArray⟩ (pad_length _) (by rw [hTF.l]; omega) N6.size
                  refine hw.mono ?_
                  clear hw
                  rintro e w7 ⟨rfl, lv7, R7, F7, L7⟩
                  have W7 := W6.kept F7 (want_apart R6 W6)
                  have O7 := own_fr O6 F7 (fun k hv hS => own_apart R6 O6 k hS hv)
                  have N7 := N6.foot F7 R6 (Nat.le_refl _)
                  have TF7 := hTF.write q (pad lj)
                  have HK := Lib.hid (keptZ_snoc D.loose (marked (mods A3 m)) F q (pad lj))
                  have HL := Lib.hid hTF.l
                  have HWL : Hid ((D.write q (pad lj)).loose = D.loose ++ [(q, pad lj)]) := Lib.hid rfl
                  clear R6 W6 N6 O6 F7 L7 hTF
                  obtain ⟨WF, hWF⟩ : ∃ WF, WF = keptZ D.loose (marked (mods A3 m)) F := ⟨_, rfl⟩
                  rw [← hWF] at W7
                  have HWF := Lib.hid hWF
                  clear hWF
                  obtain ⟨D', hD'⟩ : ∃ D', D' = D.write q (pad lj) := ⟨_, rfl⟩
                  rw [← hD'] at TF7 R7 HWL
                  clear hD'
                  go_wp2_with fail
                  go_loopw [17] (fun i wr => ∃ k : Nat, k ≤ m ∧ i = .int .i64 k ∧ wr.ownsRow w.heap.size 3 1 (.slice p m c) m ((mods A3 m).map (Value.int .i64)) ∧ Fresh w.heap.size w wr ∧ Rep wr w.heap.size b bs lv7 D' ∧ Want wr g (if marked (mods A3 k) j then upd WF q (pad lj) else WF)) (fun i _ => m - (intOf i).toNat)
                  case atStart => exact ⟨0, Nat.zero_le _, rfl, O7, N7, R7, by rw [marked_zero]; exact W7⟩
                  case round =>
                    clear O7 N7 R7 W7
                    obtain ⟨k, hk, rfl, O8, N8, R8, W8⟩ := hrel
                    by_cases hkm : k < m
                    · obtain ⟨g3, off3, z, rfl, hz, hcz⟩ := mods_get O8 k hkm
                      have HMS := Lib.hid (marked_succ A3 k j z hz)
                      have hz20 : z < 20 := by omega
                      clear hz
                      by_cases e : z = j
                      · subst e
                        have hcell : wr.cell? ⟨g1, off + z, none⟩ = some (.int .u8 x) := (World.cell?_of_block (w := w) (a := ⟨g1, off + z, none⟩) (N8.block g1 hgN1 (by omega))).trans hcell0
                        obtain ⟨old, c1⟩ : ∃ old, wr.cell? ⟨g, q, none⟩ = some old := ⟨_, (W8.cell q hq32).1⟩
                        have c2 := (W8.cell q hq32).2
                        have HR := Lib.hid (R8.kept (Want.fr (g := g) (i := q) (v := .string ⟨(pad lj).toArray⟩)) (fun k hk e => want_apart R8 W8 (e ▸ hk)))
                        have HO := Lib.hid (own_fr O8 (Want.fr (g := g) (i := q) (v := .string ⟨(pad lj).toArray⟩)) (fun k hv hS => want_own W8 O8 (hS ▸ hv)))
                        have HN := Lib.hid (N8.trans ((Want.fr (w := wr) (g := g) (i := q) (v := .string ⟨(pad lj).toArray⟩)).mono (fun k _ e => e ▸ hgN)))
                        have HW := Lib.hid ((W8.set q hq32 (pad lj)).congr (V := if marked (mods A3 (k + 1)) z then upd WF q (pad lj) else WF) (fun i _ => by
                          rw [HMS.out, show decide (z = z) = true from by simp, Bool.or_true, if_pos rfl]
                          split
                          · rw [upd_upd]
                          · rfl))
                        clear R8 O8 N8 W8
                        go_wp2_with fail
                        go_roundw
                        case rel => exact ⟨k + 1, by omega, by go_num, HO.out, HN.out, HR.out, HW.out⟩
                        case measure => simp [intOf]; omega
                      · have hb : ((z : Int) == (j : Int)) = false := by simp; omega
                        go_wp2_with fail
                        go_roundw
                        case rel => exact ⟨k + 1, by omega, by go_num, O8, N8, R8, by rw [HMS.out, show decide (z = j) = false from by simp [e], Bool.or_false]; exact W8⟩
                        case measure => simp [intOf]; omega
                    · obtain rfl : k = m := by omega
                      have W9 : Want wr g (keptZ D'.loose (marked (mods A3 k)) F) := by rw [HWL.out, HK.out, HL.out, ← HWF.out]; exact W8
                      clear W8
                      go_wp2_with fail
                      go_roundw
                      case rel => exact ⟨j + 1, by omega, by omega, by go_num, O8, N8, _, _, TF7, R8, W9⟩
                      case measure => simp [intOf]; omega
                · have hdd : decide ((j : Int) < 20) = false := by simp; omega
                  go_wp2_with fail
                  go_meet
                  exact ⟨D, lv, j, hTF, hj20, hj, by omega, hown, NJ, RJ, WJ⟩
              · have hdd : decide ((j : Int) < (n2 : Int)) = false := by simp; omega
                go_wp2_with fail
                go_meet
                exact ⟨D, lv, j, hTF, hj20, hj, by omega, hown, NJ, RJ, WJ⟩
          case rest =>
            clear hown NJ RJ WK TF5
            obtain ⟨D, lv, j, hTF, hj20, hj, hend, hown, NJ, RJ, WJ⟩ := hcut
            have hl := loose_any RJ
            rw [hTF.l] at hl
            go_wp2_with fail
            refine hl.mono ?_
            clear hl
            rintro e w41 ⟨rfl, rfl⟩
            go_wp2_with fail
            have hc := crash_ok RJ p (mods A3 m) (by rw [mods_length]; omega) c (Lib.hid (mods_cells hown))
            have e1 : (Value.slice p (mods A3 m).length c) = .slice p m c := by rw [mods_length]
            rw [e1] at hc
            refine hc.mono ?_
            clear hc e1
            rintro e w5 ⟨rfl, R5, F5⟩
            have W5 := WJ.kept F5 (want_apart RJ WJ)
            have N5 := NJ.foot F5 RJ (Nat.le_refl _)
            rw [← hTF.crash (mods A3 m)] at W5
            have d5 : (D.crash (mods A3 m)).down = false := rfl
            have n5 : (D.crash (mods A3 m)).n = 32 := hTF.n
            have l5 : (D.crash (mods A3 m)).loose = [] := rfl
            clear RJ WJ NJ hown F5 hTF
            generalize D.crash (mods A3 m) = D5 at *
            have HN5 := Lib.hid n5
            have HD5 := Lib.hid d5
            have HL5 := Lib.hid l5
            clear n5 d5 l5
            go_wp2_with fail
            go_loopw [19] (fun i wr => ∃ r : Nat, r ≤ 32 ∧ i = .int .i64 r ∧ Rep wr w.heap.size b bs (.slice none 0 0) D5 ∧ Want wr g D5.now ∧ Fresh w.heap.size w wr) (fun i _ => 32 - (intOf i).toNat)
            case atStart => exact ⟨0, Nat.zero_le _, rfl, R5, W5, N5⟩
            case round =>
              clear R5 W5 N5
              obtain ⟨r, hr, rfl, R7, W7, N7⟩ := hrel
              by_cases hr32 : r < 32
              · obtain ⟨c1, c2⟩ := W7.cell r hr32
                have h1 := read_ok R7 HD5.out r (by rw [HN5.out]; exact hr32)
                obtain ⟨t, ht⟩ : ∃ t, t = D5.now r := ⟨_, rfl⟩
                rw [← ht] at h1 c1
                clear ht c2
                go_wp2_with fail
                refine h1.mono ?_
                clear h1
                rintro e w41 ⟨rfl, rfl⟩
                go_wp2_with fail
                refine (err_any 0 _).mono ?_
                rintro e w41 ⟨rfl, rfl⟩
                go_wp2_with fail
                go_roundw
                case rel => exact ⟨r + 1, by omega, by go_num, R7, W7, N7⟩
                case measure => simp [intOf]; omega
              · have hdr : decide ((r : Int) < 32) = false := by simp; omega
                go_wp2_with fail
                all_goals
                  refine (loose0k R7 HL5.out).mono ?_
                  rintro e w41 ⟨rfl, rfl⟩
                  go_wp2_with fail
                  refine (awake_ok _).mono ?_
                  rintro e w9 ⟨rfl, F9⟩
                  have N9 := N7.none F9
                  clear N7 F9
                  go_wp2_with fail
                  go_ret
                  exact ⟨rfl, N9⟩
end Go.Proofs.Ytpkhddnehhophaa
