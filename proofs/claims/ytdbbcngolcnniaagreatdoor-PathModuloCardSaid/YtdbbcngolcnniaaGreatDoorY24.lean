/- root of the document's package, bit by bit, at one of its two powers. -/
import Derived.Test.YtdbbcngolcnniaaGreatDoorY23
namespace Go.Proofs.YtdbbcngolcnniaaGreatDoor.S3
set_option linter.unusedSimpArgs false
open Go.RowKit
set_option linter.unusedVariables false
set_option maxRecDepth 100000 in
set_option maxHeartbeats 4000000 in
theorem root_walk_true (a : N4) (ha : a.ok) (w : World) :
  Calls Tryz.prog 50 #[.agg (l4 a).toArray, .int .i64 3] w fun e w' => e = .returned (.agg (l4 (rootL a true)).toArray) ∧ Below w.heap.size w w' := by
 have EG27 : Hid (∀ args w, (callFunc 76 args).run Tryz.prog w = .ok (.enter 76 args) w) := Lib.hid (enters_of Tryz.func76 (by kernel_rfl) rfl)
 have EG26 : Hid (∀ args w, (callFunc 75 args).run Tryz.prog w = .ok (.enter 75 args) w) := Lib.hid (enters_of Tryz.func75 (by kernel_rfl) rfl)
 have EG28 : Hid (∀ args w, (callFunc 77 args).run Tryz.prog w = .ok (.enter 77 args) w) := Lib.hid (enters_of Tryz.func77 (by kernel_rfl) rfl)
 obtain ⟨out, hout⟩ : ∃ out, Hid (out = rTo a true 70 r0) := ⟨_, Lib.hid rfl⟩
 have HOUT : Hid (rootL a true = out.x) := by unfold Hid; rw [hout.out]; rfl
 rw [HOUT.out]
 go_enter Tryz.func50, Tryz.ntmps50
 go_wp2_with (first | (refine wpList_run rfl _ (exec_alloc_agg _ 75 rfl _ (zero47' _)) ?_) | (refine wpList_run rfl _ (exec_build1 _ 75 0 (.const (.int .u64 1)) rfl _ rfl _ (build_one _)) ?_) | (refine wpList_run0 rfl (exec_store_new _ 75 (.tmp 8) (.tmp 14) rfl _ 75 rfl (l4 one4) rfl (by rw [l4_len, List.size_toArray, l4_len]) (l4_one _) (l4_size _)) ?_))
 have hsix : ∀ w6 : World, w6 = (((((w.alloc (.cells (l4 a).toArray 75)).alloc (.cells (l4 o4).toArray 75)).alloc (.cells (l4 o4).toArray 75)).alloc (.cells (l4 o4).toArray 75)).alloc (.cells (l4 o4).toArray 75)).alloc (.cells (l4 one4).toArray 75) →
   Six w.heap.size w w6 w.heap.size (w.heap.size + 1) (w.heap.size + 1 + 1) (w.heap.size + 1 + 1 + 1) (w.heap.size + 1 + 1 + 1 + 1) (w.heap.size + 1 + 1 + 1 + 1 + 1) a r0 := by
  rintro w6 rfl
  have hs : ∀ (W : World) (o : Obj), (W.alloc o).heap.size = W.heap.size + 1 := fun W o => World.size_alloc _ _
  refine ⟨(((((RowL.new w 75 (l4 a)).alloc _).alloc _).alloc _).alloc _).alloc _, ?_, ?_, ?_, ?_, ?_, ?_⟩
  ·have h := RowL.new (w.alloc (.cells (l4 a).toArray 75)) 75 (l4 o4)
   rw [World.size_alloc] at h
   exact (((h.alloc _).alloc _).alloc _).alloc _
  ·have h := RowL.new ((w.alloc (.cells (l4 a).toArray 75)).alloc (.cells (l4 o4).toArray 75)) 75 (l4 o4)
   rw [World.size_alloc, World.size_alloc] at h
   exact ((h.alloc _).alloc _).alloc _
  ·have h := RowL.new (((w.alloc (.cells (l4 a).toArray 75)).alloc (.cells (l4 o4).toArray 75)).alloc (.cells (l4 o4).toArray 75)) 75 (l4 o4)
   rw [World.size_alloc, World.size_alloc, World.size_alloc] at h
   exact (h.alloc _).alloc _
  ·have h := RowL.new ((((w.alloc (.cells (l4 a).toArray 75)).alloc (.cells (l4 o4).toArray 75)).alloc (.cells (l4 o4).toArray 75)).alloc (.cells (l4 o4).toArray 75)) 75 (l4 o4)
   rw [World.size_alloc, World.size_alloc, World.size_alloc, World.size_alloc] at h
   exact h.alloc _
  ·have h := RowL.new (((((w.alloc (.cells (l4 a).toArray 75)).alloc (.cells (l4 o4).toArray 75)).alloc (.cells (l4 o4).toArray 75)).alloc (.cells (l4 o4).toArray 75)).alloc (.cells (l4 o4).toArray 75)) 75 (l4 one4)
   rw [World.size_alloc, World.size_alloc, World.size_alloc, World.size_alloc, World.size_alloc] at h
   exact h
  ·exact ((((((Below.refl _ w).alloc (Nat.le_refl _) _).alloc (by simp) _).alloc (by simp <;> omega) _).alloc (by simp <;> omega) _).alloc (by simp <;> omega) _).alloc (by simp <;> omega) _
 have hsix2 := hsix _ rfl
 obtain ⟨w6, hw6⟩ : ∃ w6, w6 = (((((w.alloc (.cells (l4 a).toArray 75)).alloc (.cells (l4 o4).toArray 75)).alloc (.cells (l4 o4).toArray 75)).alloc (.cells (l4 o4).toArray 75)).alloc (.cells (l4 o4).toArray 75)).alloc (.cells (l4 one4).toArray 75) := ⟨_, rfl⟩
 rw [← hw6] at hsix2 ⊢
 clear hsix hw6
 obtain ⟨ga, hga⟩ : ∃ ga, ga = w.heap.size := ⟨_, rfl⟩
 obtain ⟨gr, hgr⟩ : ∃ gr, gr = w.heap.size + 1 := ⟨_, rfl⟩
 obtain ⟨gx, hgx⟩ : ∃ gx, gx = w.heap.size + 1 + 1 := ⟨_, rfl⟩
 obtain ⟨gs, hgs⟩ : ∃ gs, gs = w.heap.size + 1 + 1 + 1 := ⟨_, rfl⟩
 obtain ⟨gc, hgc⟩ : ∃ gc, gc = w.heap.size + 1 + 1 + 1 + 1 := ⟨_, rfl⟩
 obtain ⟨g1, hg1⟩ : ∃ g1, g1 = w.heap.size + 1 + 1 + 1 + 1 + 1 := ⟨_, rfl⟩
 have HSX : Hid (Six w.heap.size w w6 ga gr gx gs gc g1 a r0) := by unfold Hid; rw [hga, hgr, hgx, hgs, hgc, hg1]; exact hsix2
 clear hsix2
 rw [← hg1, ← hgc, ← hgs, ← hgx, ← hgr]
 have HORD : Hid (w.heap.size ≤ ga ∧ ga < gr ∧ gr < gx ∧ gx < gs ∧ gs < gc ∧ gc < g1) := by unfold Hid; omega
 rw [show Value.pointer (some { block := w.heap.size, off := 0 }) = Value.pointer (some { block := ga, off := 0 }) by rw [hga]]
 clear hga hgr hgx hgs hgc hg1
 go_loopw [9, 10, 11, 12, 13] (fun i s c k p wr => ∃ (n : Nat) (r : R3), n ≤ 70 ∧ i = .int .i64 ((n : Int) - 1) ∧ rTo a true n r = out ∧ r.x.ok ∧ r.s.ok ∧ r.c.ok ∧ Six w.heap.size w wr ga gr gx gs gc g1 a r) (fun i _ _ _ _ _ => (1 + intOf i).toNat)
 case atStart => exact ⟨70, r0, by omega, rfl, hout.out.symm, by unfold N4.ok r0; simp, by unfold N4.ok r0; simp, by unfold N4.ok r0; simp, HSX.out⟩
 case round =>
  clear HSX
  obtain ⟨n, r, hn, rfl, hr, hx, hs, hc, hsix⟩ := hrel
  have HSX := Lib.hid hsix
  have HR := Lib.hid hr
  have HX := Lib.hid hx
  have HSo := Lib.hid hs
  have HCo := Lib.hid hc
  clear hsix hr hx hs hc
  cases n with
  | zero =>
   have hro : r = out := HR.out
   subst hro
   rw [show (((0 : Nat) : Int) - 1) = (-1 : Int) from rfl]
   have hbel : Below w.heap.size w (wr.setRow gr (l4 r.x).toArray) := HSX.out.2.2.2.2.2.2.trans ⟨rfl, rfl, rfl, by simp, fun k hk => setRow_other _ _ _ _ (by have := HORD.out; omega)⟩
   have HBL := Lib.hid hbel
   clear hbel
   go_wp2_with (first | (refine wpList_load_seg rfl 75 (.tmp 5) rfl gx 0 rfl (l4 r.x) _ HSX.out.2.2.1.seg Tryz.underlying75 rfl (l4_size _) ?_) | (refine wpList_store_seg rfl 75 (.tmp 4) (.tmp 71) rfl gr 0 rfl (l4 r.x) rfl _ 75 HSX.out.2.1 (l4_fit _ _) (l4_one _) (l4_size _) ?_))
   rw [l4_splice]
   have hld := run_loadVar_seg (P := Tryz.prog) (wr.setRow gr (l4 r.x).toArray) 75 gr 0 (l4 r.x) _ (HSX.out.2.1.setRow (l4 r.x)).seg Tryz.underlying75 rfl (l4_size _)
   generalize wr.setRow gr (l4 r.x).toArray = W2 at *
   exact bodyPost_ret (v := .agg (l4 r.x).toArray) (results_cell rfl _ _ _ ⟨gr, 0, none⟩ rfl _ hld) rfl ⟨rfl, HBL.out⟩
  | succ k =>
   have e1 : (((k + 1 : Nat) : Int) - 1) = (k : Int) := by omega
   rw [e1]
   have hk69 : k < 70 := by omega
   have HKEEP : Hid (∀ wa wb, (Six w.heap.size w wa ga gr gx gs gc g1 a r ∧ g1 < wa.heap.size) → Below wa.heap.size wa wb → (Six w.heap.size w wb ga gr gx gs gc g1 a r ∧ g1 < wb.heap.size)) := fun wa wb h hb => ⟨h.1.below (by have := HORD.out; have := h.2; omega) hb, Nat.lt_of_lt_of_le h.2 hb.size⟩
   have HU1 := Lib.hid (up_at r.x HX.out (k + 1) ((k : Int) + 1) (by omega) (by omega))
   have HU2 := Lib.hid (up_at one4 one_ok (2 * k) (2 * (k : Int)) (by omega) (by omega))
   have HSM : Hid (∀ w, Calls Tryz.prog 75 #[.agg (l4 r.s).toArray, .agg (l4 (upL r.x (k + 1))).toArray, .agg (l4 (upL one4 (2 * k))).toArray] w fun e w' => e = .returned (.agg (l4 (sqL r k)).toArray) ∧ Below w.heap.size w w') := Lib.hid (sum3_any r.s (upL r.x (k + 1)) (upL one4 (2 * k)) HSo.out (upL_ok _ HX.out _) (upL_ok _ one_ok _))
   have HPOST : Hid (∀ (W : World) (g10 : Nat), (Six w.heap.size w W ga gr gx gs gc g1 a r ∧ g1 < W.heap.size) → RowL W g10 75 (l4 o4) → g1 < g10 → (Six w.heap.size w (W.setRow g10 (l4 (sqL r k)).toArray) ga gr gx gs gc g1 a r ∧ g1 < g10 ∧ RowL (W.setRow g10 (l4 (sqL r k)).toArray) g10 75 (l4 (sqL r k)))) := by
    intro W g10 h hz hg
    have ho := HORD.out
    exact ⟨h.1.setRow g10 _ (by omega) (by omega) (by omega) (by omega) (by omega) (by omega) (by omega), hg, hz.setRow _⟩
   have HS0 : Hid (Six w.heap.size w wr.drew ga gr gx gs gc g1 a r ∧ g1 < wr.drew.heap.size) := ⟨⟨HSX.out.1, HSX.out.2.1, HSX.out.2.2.1, HSX.out.2.2.2.1, HSX.out.2.2.2.2.1, HSX.out.2.2.2.2.2.1, HSX.out.2.2.2.2.2.2.drew⟩, HSX.out.2.2.2.2.2.1.lt⟩
   go_upto_region 6 with (fail)
   go_cut [10] (fun s wx => ∃ g10, s = .pointer (some ⟨g10, 0, none⟩) ∧ Six w.heap.size w wx ga gr gx gs gc g1 a r ∧ g1 < g10 ∧ RowL wx g10 75 (l4 (sqL r k)))
   case first =>
    refine wp_region_any (by kernel_rfl) ?_
    change wpAny _ _ _ _ _ _ _ (World.drew _)
    refine any_of_F (S := fun x => Six w.heap.size w x ga gr gx gs gc g1 a r ∧ g1 < x.heap.size) (f := 11) _ _ _ _ ?_
    refine AnyF.take 2 (some 21) (.move (.tmp 9)) (.int .i64 k) rfl (by kernel_rfl) (by kernel_rfl) (by kernel_rfl) (fun _ _ _ h => h) rfl (by kernel_rfl) (fun o ho w hw => exec_move (.tmp 9) ho _ rfl w) HS0.out ?_
    simp only [Act.put, sT, sS, sZ]
    refine AnyF.take 3 (some 22) (.binOp .add 3 (.tmp 21) (.const (.int .i64 1)) 3) (.int .i64 ((k : Int) + 1)) rfl (by kernel_rfl) (by kernel_rfl) (by kernel_rfl) (fun _ _ _ h => h) rfl (by kernel_rfl) (fun o ho w hw => exec_addk (.tmp 21) ho rfl k (by omega) rfl w) HS0.out ?_
    simp only [Act.put, sT, sS, sZ]
    refine AnyF.take 6 (some 25) (.move (.tmp 9)) (.int .i64 k) rfl (by kernel_rfl) (by kernel_rfl) (by kernel_rfl) (fun _ _ _ h => h) rfl (by kernel_rfl) (fun o ho w hw => exec_move (.tmp 9) ho _ rfl w) HS0.out ?_
    simp only [Act.put, sT, sS, sZ]
    refine AnyF.take 7 (some 26) (.binOp .mul 3 (.const (.int .i64 2)) (.tmp 25) 3) (.int .i64 (2 * (k : Int))) rfl (by kernel_rfl) (by kernel_rfl) (by kernel_rfl) (fun _ _ _ h => h) rfl (by kernel_rfl) (fun o ho w hw => exec_mul2 (.tmp 25) ho rfl k (by omega) rfl w) HS0.out ?_
    simp only [Act.put, sT, sS, sZ]
    refine AnyF.take 0 (some 19) (.load 75 (.tmp 6)) (.agg (l4 r.s).toArray) rfl (by kernel_rfl) (by kernel_rfl) (by kernel_rfl) (fun _ _ _ h => h) rfl (by kernel_rfl) (fun o ho w hw => exec_load_seg _ 75 (.tmp 6) ho gs 0 rfl (l4 r.s) _ (hw.1.2.2.2.1).seg Tryz.underlying75 rfl (l4_size _)) HS0.out ?_
    simp only [Act.put, sT, sS, sZ]
    refine AnyF.take 1 (some 20) (.load 75 (.tmp 5)) (.agg (l4 r.x).toArray) rfl (by kernel_rfl) (by kernel_rfl) (by kernel_rfl) (fun _ _ _ h => h) rfl (by kernel_rfl) (fun o ho w hw => exec_load_seg _ 75 (.tmp 5) ho gx 0 rfl (l4 r.x) _ (hw.1.2.2.1).seg Tryz.underlying75 rfl (l4_size _)) HS0.out ?_
    simp only [Act.put, sT, sS, sZ]
    refine AnyF.take 5 (some 24) (.load 75 (.tmp 8)) (.agg (l4 one4).toArray) rfl (by kernel_rfl) (by kernel_rfl) (by kernel_rfl) (fun _ _ _ h => h) rfl (by kernel_rfl) (fun o ho w hw => exec_load_seg _ 75 (.tmp 8) ho g1 0 rfl (l4 one4) _ (hw.1.2.2.2.2.2.1).seg Tryz.underlying75 rfl (l4_size _)) HS0.out ?_
    simp only [Act.put, sT, sS, sZ]
    refine AnyF.ready (rs := [4, 10]) (by kernel_rfl) (by simp) (ReadyF.call (some 23) 76 #[.tmp 20, .tmp 22] #[75, 3] rfl #[.agg (l4 r.x).toArray, .int .i64 ((k : Int) + 1)] (by simp [Act.eval]) EG27.out _ (HU1.out _) ?_ (fun c w' h => by cases h.1) (fun w' h => by cases h.1) (ReadyF.op (some 10) (.alloc 75) rfl _ (fun o ho => exec_alloc_agg wr.drew 75 ho _ (zero47' _)) (HKEEP.out _ _ HS0.out ((Below.refl _ _).alloc (Nat.le_refl _) _)) ?_ ReadyF.nil))
    ·rintro v wc1 ⟨he, hb⟩
     cases he
     have HS2 := Lib.hid (HKEEP.out _ _ HS0.out hb)
     refine ⟨HS2.out, ?_⟩
     clear hb
     simp only [Act.put, sT, sS, sZ]
     refine AnyF.ready (rs := [8, 10]) (by kernel_rfl) (by simp) (ReadyF.call (some 27) 76 #[.tmp 24, .tmp 26] #[75, 3] rfl #[.agg (l4 one4).toArray, .int .i64 (2 * (k : Int))] (by simp [Act.eval]) EG27.out _ (HU2.out _) ?_ (fun c w' h => by cases h.1) (fun w' h => by cases h.1) (ReadyF.op (some 10) (.alloc 75) rfl _ (fun o ho => exec_alloc_agg wc1 75 ho _ (zero47' _)) (HKEEP.out _ _ HS2.out ((Below.refl _ _).alloc (Nat.le_refl _) _)) ?_ ReadyF.nil))
     ·rintro v wc3 ⟨he, hb⟩
      cases he
      have HS4 := Lib.hid (HKEEP.out _ _ HS2.out hb)
      refine ⟨HS4.out, ?_⟩
      clear hb
      simp only [Act.put, sT, sS, sZ]
      refine AnyF.ready (rs := [9, 10]) (by kernel_rfl) (by simp) (ReadyF.call (some 28) 75 #[.tmp 19, .tmp 23, .tmp 27] #[75, 75, 75] rfl #[.agg (l4 r.s).toArray, .agg (l4 (upL r.x (k + 1))).toArray, .agg (l4 (upL one4 (2 * k))).toArray] (by simp [Act.eval]) EG26.out _ (HSM.out _) ?_ (fun c w' h => by cases h.1) (fun w' h => by cases h.1) (ReadyF.op (some 10) (.alloc 75) rfl _ (fun o ho => exec_alloc_agg wc3 75 ho _ (zero47' _)) (HKEEP.out _ _ HS4.out ((Below.refl _ _).alloc (Nat.le_refl _) _)) ?_ ReadyF.nil))
      ·rintro v wc5 ⟨he, hb⟩
       cases he
       have HS6 := Lib.hid (HKEEP.out _ _ HS4.out hb)
       refine ⟨HS6.out, ?_⟩
       clear hb
       simp only [Act.put, sT, sS, sZ]
       refine AnyF.ready (rs := [10]) (by kernel_rfl) (by simp) (ReadyF.op (some 10) (.alloc 75) rfl _ (fun o ho => exec_alloc_agg wc5 75 ho _ (zero47' _)) (HKEEP.out _ _ HS6.out ((Below.refl _ _).alloc (Nat.le_refl _) _)) ?_ ReadyF.nil)
       have HS7 := Lib.hid (HKEEP.out _ _ HS6.out ((Below.refl _ wc5).alloc (Nat.le_refl _) (.cells (l4 o4).toArray 75)))
       have Z8 := Lib.hid (RowL.new wc5 75 (l4 o4))
       obtain ⟨g10, hg⟩ : ∃ g10, g10 = wc5.heap.size := ⟨_, rfl⟩
       have hg10 : g1 < g10 := by rw [hg]; exact HS6.out.2
       obtain ⟨wa9, hw⟩ : ∃ wa9, wa9 = wc5.alloc (.cells (l4 o4).toArray 75) := ⟨_, rfl⟩
       simp only [Act.put, sT, sS, sZ]
       rw [← hw, ← hg]
       rw [← hw] at HS7 Z8
       rw [← hg] at Z8
       clear hw hg
       refine AnyF.ready (rs := [11]) (by kernel_rfl) (by simp) (ReadyF.last (.store 75 (.tmp 10) (.tmp 28)) rfl (fun o ho => exec_store_seg wa9 75 (.tmp 10) (.tmp 28) ho g10 0 rfl (l4 (sqL r k)) rfl _ 75 Z8.out (l4_fit _ _) (l4_one _) (l4_size _)) ?_ ReadyF.nil)
       refine any_doneF (by kernel_rfl) ?_ _
       rw [l4_splice]
       have HFIN := Lib.hid (HPOST.out wa9 g10 HS7.out Z8.out hg10)
       go_wp2_with fail
       go_meet
       exact ⟨g10, rfl, HFIN.out⟩
      ·have HS10 := Lib.hid (HKEEP.out _ _ HS4.out ((Below.refl _ wc3).alloc (Nat.le_refl _) (.cells (l4 o4).toArray 75)))
       have Z11 := Lib.hid (RowL.new wc3 75 (l4 o4))
       obtain ⟨g10, hg⟩ : ∃ g10, g10 = wc3.heap.size := ⟨_, rfl⟩
       have hg10 : g1 < g10 := by rw [hg]; exact HS4.out.2
       obtain ⟨wa12, hw⟩ : ∃ wa12, wa12 = wc3.alloc (.cells (l4 o4).toArray 75) := ⟨_, rfl⟩
       simp only [Act.put, sT, sS, sZ]
       rw [← hw, ← hg]
       rw [← hw] at HS10 Z11
       rw [← hg] at Z11
       clear hw hg
       refine AnyF.ready (rs := [9]) (by kernel_rfl) (by simp) (ReadyF.call (some 28) 75 #[.tmp 19, .tmp 23, .tmp 27] #[75, 75, 75] rfl #[.agg (l4 r.s).toArray, .agg (l4 (upL r.x (k + 1))).toArray, .agg (l4 (upL one4 (2 * k))).toArray] (by simp [Act.eval]) EG26.out _ (HSM.out _) ?_ (fun c w' h => by cases h.1) (fun w' h => by cases h.1) ReadyF.nil)
       rintro v wc13 ⟨he, hb⟩
       cases he
       have HS14 := Lib.hid (HKEEP.out _ _ HS10.out hb)
       have Z15 := Lib.hid (Z11.out.below hb)
       refine ⟨HS14.out, ?_⟩
       clear hb
       simp only [Act.put, sT, sS, sZ]
       refine AnyF.ready (rs := [11]) (by kernel_rfl) (by simp) (ReadyF.last (.store 75 (.tmp 10) (.tmp 28)) rfl (fun o ho => exec_store_seg wc13 75 (.tmp 10) (.tmp 28) ho g10 0 rfl (l4 (sqL r k)) rfl _ 75 Z15.out (l4_fit _ _) (l4_one _) (l4_size _)) ?_ ReadyF.nil)
       refine any_doneF (by kernel_rfl) ?_ _
       rw [l4_splice]
       have HFIN := Lib.hid (HPOST.out wc13 g10 HS14.out Z15.out hg10)
       go_wp2_with fail
       go_meet
       exact ⟨g10, rfl, HFIN.out⟩
     ·have HS16 := Lib.hid (HKEEP.out _ _ HS2.out ((Below.refl _ wc1).alloc (Nat.le_refl _) (.cells (l4 o4).toArray 75)))
      have Z17 := Lib.hid (RowL.new wc1 75 (l4 o4))
      obtain ⟨g10, hg⟩ : ∃ g10, g10 = wc1.heap.size := ⟨_, rfl⟩
      have hg10 : g1 < g10 := by rw [hg]; exact HS2.out.2
      obtain ⟨wa18, hw⟩ : ∃ wa18, wa18 = wc1.alloc (.cells (l4 o4).toArray 75) := ⟨_, rfl⟩
      simp only [Act.put, sT, sS, sZ]
      rw [← hw, ← hg]
      rw [← hw] at HS16 Z17
      rw [← hg] at Z17
      clear hw hg
      refine AnyF.ready (rs := [8]) (by kernel_rfl) (by simp) (ReadyF.call (some 27) 76 #[.tmp 24, .tmp 26] #[75, 3] rfl #[.agg (l4 one4).toArray, .int .i64 (2 * (k : Int))] (by simp [Act.eval]) EG27.out _ (HU2.out _) ?_ (fun c w' h => by cases h.1) (fun w' h => by cases h.1) ReadyF.nil)
      rintro v wc19 ⟨he, hb⟩
      cases he
      have HS20 := Lib.hid (HKEEP.out _ _ HS16.out hb)
      have Z21 := Lib.hid (Z17.out.below hb)
      refine ⟨HS20.out, ?_⟩
      clear hb
      simp only [Act.put, sT, sS, sZ]
      refine AnyF.ready (rs := [9]) (by kernel_rfl) (by simp) (ReadyF.call (some 28) 75 #[.tmp 19, .tmp 23, .tmp 27] #[75, 75, 75] rfl #[.agg (l4 r.s).toArray, .agg (l4 (upL r.x (k + 1))).toArray, .agg (l4 (upL one4 (2 * k))).toArray] (by simp [Act.eval]) EG26.out _ (HSM.out _) ?_ (fun c w' h => by cases h.1) (fun w' h => by cases h.1) ReadyF.nil)
      rintro v wc22 ⟨he, hb⟩
      cases he
      have HS23 := Lib.hid (HKEEP.out _ _ HS20.out hb)
      have Z24 := Lib.hid (Z21.out.below hb)
      refine ⟨HS23.out, ?_⟩
      clear hb
      simp only [Act.put, sT, sS, sZ]
      refine AnyF.ready (rs := [11]) (by kernel_rfl) (by simp) (ReadyF.last (.store 75 (.tmp 10) (.tmp 28)) rfl (fun o ho => exec_store_seg wc22 75 (.tmp 10) (.tmp 28) ho g10 0 rfl (l4 (sqL r k)) rfl _ 75 Z24.out (l4_fit _ _) (l4_one _) (l4_size _)) ?_ ReadyF.nil)
      refine any_doneF (by kernel_rfl) ?_ _
      rw [l4_splice]
      have HFIN := Lib.hid (HPOST.out wc22 g10 HS23.out Z24.out hg10)
      go_wp2_with fail
      go_meet
      exact ⟨g10, rfl, HFIN.out⟩
    ·have HS25 := Lib.hid (HKEEP.out _ _ HS0.out ((Below.refl _ wr.drew).alloc (Nat.le_refl _) (.cells (l4 o4).toArray 75)))
     have Z26 := Lib.hid (RowL.new wr.drew 75 (l4 o4))
     obtain ⟨g10, hg⟩ : ∃ g10, g10 = wr.drew.heap.size := ⟨_, rfl⟩
     have hg10 : g1 < g10 := by rw [hg]; exact HS0.out.2
     obtain ⟨wa27, hw⟩ : ∃ wa27, wa27 = wr.drew.alloc (.cells (l4 o4).toArray 75) := ⟨_, rfl⟩
     simp only [Act.put, sT, sS, sZ]
     rw [← hw, ← hg]
     rw [← hw] at HS25 Z26
     rw [← hg] at Z26
     clear hw hg
     refine AnyF.ready (rs := [4]) (by kernel_rfl) (by simp) (ReadyF.call (some 23) 76 #[.tmp 20, .tmp 22] #[75, 3] rfl #[.agg (l4 r.x).toArray, .int .i64 ((k : Int) + 1)] (by simp [Act.eval]) EG27.out _ (HU1.out _) ?_ (fun c w' h => by cases h.1) (fun w' h => by cases h.1) ReadyF.nil)
     rintro v wc28 ⟨he, hb⟩
     cases he
     have HS29 := Lib.hid (HKEEP.out _ _ HS25.out hb)
     have Z30 := Lib.hid (Z26.out.below hb)
     refine ⟨HS29.out, ?_⟩
     clear hb
     simp only [Act.put, sT, sS, sZ]
     refine AnyF.ready (rs := [8]) (by kernel_rfl) (by simp) (ReadyF.call (some 27) 76 #[.tmp 24, .tmp 26] #[75, 3] rfl #[.agg (l4 one4).toArray, .int .i64 (2 * (k : Int))] (by simp [Act.eval]) EG27.out _ (HU2.out _) ?_ (fun c w' h => by cases h.1) (fun w' h => by cases h.1) ReadyF.nil)
     rintro v wc31 ⟨he, hb⟩
     cases he
     have HS32 := Lib.hid (HKEEP.out _ _ HS29.out hb)
     have Z33 := Lib.hid (Z30.out.below hb)
     refine ⟨HS32.out, ?_⟩
     clear hb
     simp only [Act.put, sT, sS, sZ]
     refine AnyF.ready (rs := [9]) (by kernel_rfl) (by simp) (ReadyF.call (some 28) 75 #[.tmp 19, .tmp 23, .tmp 27] #[75, 75, 75] rfl #[.agg (l4 r.s).toArray, .agg (l4 (upL r.x (k + 1))).toArray, .agg (l4 (upL one4 (2 * k))).toArray] (by simp [Act.eval]) EG26.out _ (HSM.out _) ?_ (fun c w' h => by cases h.1) (fun w' h => by cases h.1) ReadyF.nil)
     rintro v wc34 ⟨he, hb⟩
     cases he
     have HS35 := Lib.hid (HKEEP.out _ _ HS32.out hb)
     have Z36 := Lib.hid (Z33.out.below hb)
     refine ⟨HS35.out, ?_⟩
     clear hb
     simp only [Act.put, sT, sS, sZ]
     refine AnyF.ready (rs := [11]) (by kernel_rfl) (by simp) (ReadyF.last (.store 75 (.tmp 10) (.tmp 28)) rfl (fun o ho => exec_store_seg wc34 75 (.tmp 10) (.tmp 28) ho g10 0 rfl (l4 (sqL r k)) rfl _ 75 Z36.out (l4_fit _ _) (l4_one _) (l4_size _)) ?_ ReadyF.nil)
     refine any_doneF (by kernel_rfl) ?_ _
     rw [l4_splice]
     have HFIN := Lib.hid (HPOST.out wc34 g10 HS35.out Z36.out hg10)
     go_wp2_with fail
     go_meet
     exact ⟨g10, rfl, HFIN.out⟩
   case rest =>
    obtain ⟨g10, rfl, hsix, hg10, hrow⟩ := hcut
    have HSX := Lib.hid hsix
    have HROW := Lib.hid hrow
    have HG10 := Lib.hid hg10
    clear hsix hrow hg10 HU1 HU2 HSM HPOST HS0 HKEEP
    go_wp2_with (first | (refine wpList_load_seg rfl 75 (.tmp 7) rfl gc 0 rfl (l4 r.c) _ HSX.out.2.2.2.2.1.seg Tryz.underlying75 rfl (l4_size _) ?_) | (refine wpList_run rfl _ (exec_alloc_agg _ 75 rfl _ (zero47' _)) ?_) | (refine wpList_run0 rfl (exec_store_new _ 75 (.tmp 11) (.tmp 29) rfl _ 75 rfl (l4 r.c) rfl (by rw [l4_len, List.size_toArray, l4_len]) (l4_one _) (l4_size _)) ?_))
    have HCIT := Lib.hid (cIt_ok r k HCo.out)
    obtain ⟨g11, hg11⟩ : ∃ g11, g11 = wc.heap.size := ⟨_, rfl⟩
    obtain ⟨w7, hw7⟩ : ∃ w7, w7 = wc.alloc (.cells (l4 r.c).toArray 75) := ⟨_, rfl⟩
    have hb7 : Below wc.heap.size wc w7 := by rw [hw7]; exact (Below.refl _ _).alloc (Nat.le_refl _) _
    have HORD2 : Hid (g10 < g11 ∧ g1 < g10) := by unfold Hid; rw [hg11]; exact ⟨HROW.out.lt, HG10.out⟩
    have HT0 : Hid (Six w.heap.size w w7 ga gr gx gs gc g1 a r ∧ RowL w7 g10 75 (l4 (sqL r k)) ∧ RowL w7 g11 75 (l4 (cIt r k 0)) ∧ g11 < w7.heap.size) := by
     unfold Hid
     refine ⟨HSX.out.below (by have := HORD.out; have := HSX.out.2.2.2.2.2.1.lt; omega) hb7, HROW.out.below hb7, ?_, ?_⟩
     ·rw [hg11, hw7]; exact RowL.new wc 75 (l4 r.c)
     ·rw [hg11, hw7]; simp
    rw [← hw7, ← hg11]
    clear hw7 hg11 hb7 HSX HROW HG10
    have HKEEP : Hid (∀ q wa wb, (Six w.heap.size w wa ga gr gx gs gc g1 a r ∧ RowL wa g10 75 (l4 (sqL r k)) ∧ RowL wa g11 75 (l4 (cIt r k q)) ∧ g11 < wa.heap.size) → Below wa.heap.size wa wb → (Six w.heap.size w wb ga gr gx gs gc g1 a r ∧ RowL wb g10 75 (l4 (sqL r k)) ∧ RowL wb g11 75 (l4 (cIt r k q)) ∧ g11 < wb.heap.size)) := fun q wa wb h hb => ⟨h.1.below (by have := HORD.out; have := HORD2.out; have := h.2.2.2; omega) hb, h.2.1.below hb, h.2.2.1.below hb, Nat.lt_of_lt_of_le h.2.2.2 hb.size⟩
    have HU3 := Lib.hid (up_at r.s HSo.out k (k : Int) rfl (by omega))
    have HU4 := Lib.hid (up_at r.x HX.out (2 * k) (2 * (k : Int)) (by omega) (by omega))
    go_loopw [12] (fun j wr2 => ∃ q : Nat, q ≤ 3 ∧ j = .int .i64 q ∧ (Six w.heap.size w wr2 ga gr gx gs gc g1 a r ∧ RowL wr2 g10 75 (l4 (sqL r k)) ∧ RowL wr2 g11 75 (l4 (cIt r k q)) ∧ g11 < wr2.heap.size)) (fun j _ => 3 - (intOf j).toNat)
    case atStart => exact ⟨0, by omega, rfl, HT0.out⟩
    case round =>
     clear HT0
     obtain ⟨q, hq, rfl, ht⟩ := hrel
     have HT := Lib.hid ht
     clear ht
     by_cases hq3 : q < 3
     ·have HSM : Hid (∀ w, Calls Tryz.prog 75 #[.agg (l4 (cIt r k q)).toArray, .agg (l4 (upL r.s k)).toArray, .agg (l4 (upL r.x (2 * k))).toArray] w fun e w' => e = .returned (.agg (l4 (cIt r k (q + 1))).toArray) ∧ Below w.heap.size w w') := Lib.hid (sum3_any (cIt r k q) (upL r.s k) (upL r.x (2 * k)) (HCIT.out q) (upL_ok _ HSo.out _) (upL_ok _ HX.out _))
      have HS0 : Hid (Six w.heap.size w wr.drew ga gr gx gs gc g1 a r ∧ RowL wr.drew g10 75 (l4 (sqL r k)) ∧ RowL wr.drew g11 75 (l4 (cIt r k q)) ∧ g11 < wr.drew.heap.size) := ⟨⟨HT.out.1.1, HT.out.1.2.1, HT.out.1.2.2.1, HT.out.1.2.2.2.1, HT.out.1.2.2.2.2.1, HT.out.1.2.2.2.2.2.1, HT.out.1.2.2.2.2.2.2.drew⟩, HT.out.2.1, HT.out.2.2.1, HT.out.2.2.2⟩
      have HPOST : Hid (∀ W : World, (Six w.heap.size w W ga gr gx gs gc g1 a r ∧ RowL W g10 75 (l4 (sqL r k)) ∧ RowL W g11 75 (l4 (cIt r k q)) ∧ g11 < W.heap.size) → (Six w.heap.size w (W.setRow g11 (l4 (cIt r k (q + 1))).toArray) ga gr gx gs gc g1 a r ∧ RowL (W.setRow g11 (l4 (cIt r k (q + 1))).toArray) g10 75 (l4 (sqL r k)) ∧ RowL (W.setRow g11 (l4 (cIt r k (q + 1))).toArray) g11 75 (l4 (cIt r k (q + 1))) ∧ g11 < (W.setRow g11 (l4 (cIt r k (q + 1))).toArray).heap.size)) := by
       intro W h
       have ho := HORD.out
       have ho2 := HORD2.out
       exact ⟨h.1.setRow g11 _ (by omega) (by omega) (by omega) (by omega) (by omega) (by omega) (by omega), h.2.1.setRow_ne (by omega) _, h.2.2.1.setRow _, by simpa using h.2.2.2⟩
      go_wp2_with fail
      refine wp_region_any (by kernel_rfl) ?_
      change wpAny _ _ _ _ _ _ _ (World.drew _)
      refine any_of_F (S := fun x => Six w.heap.size w x ga gr gx gs gc g1 a r ∧ RowL x g10 75 (l4 (sqL r k)) ∧ RowL x g11 75 (l4 (cIt r k q)) ∧ g11 < x.heap.size) (f := 9) _ _ _ _ ?_
      refine AnyF.take 2 (some 36) (.move (.tmp 9)) (.int .i64 k) rfl (by kernel_rfl) (by kernel_rfl) (by kernel_rfl) (fun _ _ _ h => h) rfl (by kernel_rfl) (fun o ho w hw => exec_move (.tmp 9) ho _ rfl w) HS0.out ?_
      simp only [Act.put, sT, sS, sZ]
      refine AnyF.take 5 (some 39) (.move (.tmp 9)) (.int .i64 k) rfl (by kernel_rfl) (by kernel_rfl) (by kernel_rfl) (fun _ _ _ h => h) rfl (by kernel_rfl) (fun o ho w hw => exec_move (.tmp 9) ho _ rfl w) HS0.out ?_
      simp only [Act.put, sT, sS, sZ]
      refine AnyF.take 6 (some 40) (.binOp .mul 3 (.const (.int .i64 2)) (.tmp 39) 3) (.int .i64 (2 * (k : Int))) rfl (by kernel_rfl) (by kernel_rfl) (by kernel_rfl) (fun _ _ _ h => h) rfl (by kernel_rfl) (fun o ho w hw => exec_mul2 (.tmp 39) ho rfl k (by omega) rfl w) HS0.out ?_
      simp only [Act.put, sT, sS, sZ]
      refine AnyF.take 0 (some 34) (.load 75 (.tmp 11)) (.agg (l4 (cIt r k q)).toArray) rfl (by kernel_rfl) (by kernel_rfl) (by kernel_rfl) (fun _ _ _ h => h) rfl (by kernel_rfl) (fun o ho w hw => exec_load_seg _ 75 (.tmp 11) ho g11 0 rfl (l4 (cIt r k q)) _ (hw.2.2.1).seg Tryz.underlying75 rfl (l4_size _)) HS0.out ?_
      simp only [Act.put, sT, sS, sZ]
      refine AnyF.take 1 (some 35) (.load 75 (.tmp 6)) (.agg (l4 r.s).toArray) rfl (by kernel_rfl) (by kernel_rfl) (by kernel_rfl) (fun _ _ _ h => h) rfl (by kernel_rfl) (fun o ho w hw => exec_load_seg _ 75 (.tmp 6) ho gs 0 rfl (l4 r.s) _ (hw.1.2.2.2.1).seg Tryz.underlying75 rfl (l4_size _)) HS0.out ?_
      simp only [Act.put, sT, sS, sZ]
      refine AnyF.take 4 (some 38) (.load 75 (.tmp 5)) (.agg (l4 r.x).toArray) rfl (by kernel_rfl) (by kernel_rfl) (by kernel_rfl) (fun _ _ _ h => h) rfl (by kernel_rfl) (fun o ho w hw => exec_load_seg _ 75 (.tmp 5) ho gx 0 rfl (l4 r.x) _ (hw.1.2.2.1).seg Tryz.underlying75 rfl (l4_size _)) HS0.out ?_
      simp only [Act.put, sT, sS, sZ]
      refine AnyF.ready (rs := [3]) (by kernel_rfl) (by simp) (ReadyF.call (some 37) 76 #[.tmp 35, .tmp 36] #[75, 3] rfl #[.agg (l4 r.s).toArray, .int .i64 (k : Int)] (by simp [Act.eval]) EG27.out _ (HU3.out _) ?_ (fun c w' h => by cases h.1) (fun w' h => by cases h.1) ReadyF.nil)
      rintro v wc37 ⟨he, hb⟩
      cases he
      have HS38 := Lib.hid (HKEEP.out q _ _ HS0.out hb)
      refine ⟨HS38.out, ?_⟩
      clear hb
      simp only [Act.put, sT, sS, sZ]
      refine AnyF.ready (rs := [7]) (by kernel_rfl) (by simp) (ReadyF.call (some 41) 76 #[.tmp 38, .tmp 40] #[75, 3] rfl #[.agg (l4 r.x).toArray, .int .i64 (2 * (k : Int))] (by simp [Act.eval]) EG27.out _ (HU4.out _) ?_ (fun c w' h => by cases h.1) (fun w' h => by cases h.1) ReadyF.nil)
      rintro v wc39 ⟨he, hb⟩
      cases he
      have HS40 := Lib.hid (HKEEP.out q _ _ HS38.out hb)
      refine ⟨HS40.out, ?_⟩
      clear hb
      simp only [Act.put, sT, sS, sZ]
      refine AnyF.ready (rs := [8]) (by kernel_rfl) (by simp) (ReadyF.call (some 42) 75 #[.tmp 34, .tmp 37, .tmp 41] #[75, 75, 75] rfl #[.agg (l4 (cIt r k q)).toArray, .agg (l4 (upL r.s k)).toArray, .agg (l4 (upL r.x (2 * k))).toArray] (by simp [Act.eval]) EG26.out _ (HSM.out _) ?_ (fun c w' h => by cases h.1) (fun w' h => by cases h.1) ReadyF.nil)
      rintro v wc41 ⟨he, hb⟩
      cases he
      have HS42 := Lib.hid (HKEEP.out q _ _ HS40.out hb)
      refine ⟨HS42.out, ?_⟩
      clear hb
      simp only [Act.put, sT, sS, sZ]
      refine AnyF.ready (rs := [9]) (by kernel_rfl) (by simp) (ReadyF.last (.store 75 (.tmp 11) (.tmp 42)) rfl (fun o ho => exec_store_seg wc41 75 (.tmp 11) (.tmp 42) ho g11 0 rfl (l4 (cIt r k (q + 1))) rfl _ 75 HS42.out.2.2.1 (l4_fit _ _) (l4_one _) (l4_size _)) ?_ ReadyF.nil)
      refine any_doneF (by kernel_rfl) ?_ _
      rw [l4_splice]
      have HFIN := Lib.hid (HPOST.out wc41 HS42.out)
      go_wp2_with fail
      go_roundw
      case rel => exact ⟨q + 1, by omega, by go_num, HFIN.out⟩
      case measure => simp [intOf]; omega
     ·obtain rfl : q = 3 := by omega
      have HAD : Hid (∀ w, Calls Tryz.prog 77 #[.agg (l4 (cIt r k 3)).toArray, .agg (l4 (upL one4 (3 * k))).toArray] w fun e w' => e = .returned (.tuple #[.agg (l4 (cuL r k)).toArray, .int .u64 (cA (at4 (cIt r k 3)) (at4 (upL one4 (3 * k))) 4)]) ∧ Below w.heap.size w w') := Lib.hid (add_any (cIt r k 3) (upL one4 (3 * k)) (HCIT.out 3) (upL_ok _ one_ok _))
      have HU5 := Lib.hid (up_at one4 one_ok (3 * k) (3 * (k : Int)) (by omega) (by omega))
      obtain ⟨cy, hcy⟩ : ∃ cy : Int, Hid (cy = (cA (at4 (cIt r k 3)) (at4 (upL one4 (3 * k))) 4 : Int)) := ⟨_, Lib.hid rfl⟩
      rw [← hcy.out] at HAD
      have HS0 : Hid (Six w.heap.size w wr.drew ga gr gx gs gc g1 a r ∧ RowL wr.drew g10 75 (l4 (sqL r k)) ∧ RowL wr.drew g11 75 (l4 (cIt r k 3)) ∧ g11 < wr.drew.heap.size) := ⟨⟨HT.out.1.1, HT.out.1.2.1, HT.out.1.2.2.1, HT.out.1.2.2.2.1, HT.out.1.2.2.2.2.1, HT.out.1.2.2.2.2.2.1, HT.out.1.2.2.2.2.2.2.drew⟩, HT.out.2.1, HT.out.2.2.1, HT.out.2.2.2⟩
      have HPOST : Hid (∀ W : World, (Six w.heap.size w W ga gr gx gs gc g1 a r ∧ RowL W g10 75 (l4 (sqL r k)) ∧ RowL W g11 75 (l4 (cIt r k 3)) ∧ g11 < W.heap.size) → (Six w.heap.size w (W.setRow g11 (l4 (cuL r k)).toArray) ga gr gx gs gc g1 a r ∧ RowL (W.setRow g11 (l4 (cuL r k)).toArray) g10 75 (l4 (sqL r k)) ∧ RowL (W.setRow g11 (l4 (cuL r k)).toArray) g11 75 (l4 (cuL r k)) ∧ g11 < (W.setRow g11 (l4 (cuL r k)).toArray).heap.size)) := by
       intro W h
       have ho := HORD.out
       have ho2 := HORD2.out
       exact ⟨h.1.setRow g11 _ (by omega) (by omega) (by omega) (by omega) (by omega) (by omega) (by omega), h.2.1.setRow_ne (by omega) _, h.2.2.1.setRow _, by simpa using h.2.2.2⟩
      rw [show ((3 : Nat) : Int) = (3 : Int) from rfl]
      go_wp2_with fail
      refine wp_region_any (by kernel_rfl) ?_
      change wpAny _ _ _ _ _ _ _ (World.drew _)
      refine any_of_F (S := fun x => Six w.heap.size w x ga gr gx gs gc g1 a r ∧ RowL x g10 75 (l4 (sqL r k)) ∧ RowL x g11 75 (l4 (cIt r k 3)) ∧ g11 < x.heap.size) (f := 9) _ _ _ _ ?_
      refine AnyF.take 2 (some 46) (.move (.tmp 9)) (.int .i64 k) rfl (by kernel_rfl) (by kernel_rfl) (by kernel_rfl) (fun _ _ _ h => h) rfl (by kernel_rfl) (fun o ho w hw => exec_move (.tmp 9) ho _ rfl w) HS0.out ?_
      simp only [Act.put, sT, sS, sZ]
      refine AnyF.take 3 (some 47) (.binOp .mul 3 (.const (.int .i64 3)) (.tmp 46) 3) (.int .i64 (3 * (k : Int))) rfl (by kernel_rfl) (by kernel_rfl) (by kernel_rfl) (fun _ _ _ h => h) rfl (by kernel_rfl) (fun o ho w hw => exec_mul3 (.tmp 46) ho rfl k (by omega) rfl w) HS0.out ?_
      simp only [Act.put, sT, sS, sZ]
      refine AnyF.take 0 (some 44) (.load 75 (.tmp 11)) (.agg (l4 (cIt r k 3)).toArray) rfl (by kernel_rfl) (by kernel_rfl) (by kernel_rfl) (fun _ _ _ h => h) rfl (by kernel_rfl) (fun o ho w hw => exec_load_seg _ 75 (.tmp 11) ho g11 0 rfl (l4 (cIt r k 3)) _ (hw.2.2.1).seg Tryz.underlying75 rfl (l4_size _)) HS0.out ?_
      simp only [Act.put, sT, sS, sZ]
      refine AnyF.take 1 (some 45) (.load 75 (.tmp 8)) (.agg (l4 one4).toArray) rfl (by kernel_rfl) (by kernel_rfl) (by kernel_rfl) (fun _ _ _ h => h) rfl (by kernel_rfl) (fun o ho w hw => exec_load_seg _ 75 (.tmp 8) ho g1 0 rfl (l4 one4) _ (hw.1.2.2.2.2.2.1).seg Tryz.underlying75 rfl (l4_size _)) HS0.out ?_
      simp only [Act.put, sT, sS, sZ]
      refine AnyF.ready (rs := [4]) (by kernel_rfl) (by simp) (ReadyF.call (some 48) 76 #[.tmp 45, .tmp 47] #[75, 3] rfl #[.agg (l4 one4).toArray, .int .i64 (3 * (k : Int))] (by simp [Act.eval]) EG27.out _ (HU5.out _) ?_ (fun c w' h => by cases h.1) (fun w' h => by cases h.1) ReadyF.nil)
      rintro v wc43 ⟨he, hb⟩
      cases he
      have HS44 := Lib.hid (HKEEP.out 3 _ _ HS0.out hb)
      refine ⟨HS44.out, ?_⟩
      clear hb
      simp only [Act.put, sT, sS, sZ]
      refine AnyF.ready (rs := [5]) (by kernel_rfl) (by simp) (ReadyF.call (some 49) 77 #[.tmp 44, .tmp 48] #[75, 75] rfl #[.agg (l4 (cIt r k 3)).toArray, .agg (l4 (upL one4 (3 * k))).toArray] (by simp [Act.eval]) EG28.out _ (HAD.out _) ?_ (fun c w' h => by cases h.1) (fun w' h => by cases h.1) ReadyF.nil)
      rintro v wc45 ⟨he, hb⟩
      cases he
      have HS46 := Lib.hid (HKEEP.out 3 _ _ HS44.out hb)
      refine ⟨HS46.out, ?_⟩
      clear hb
      simp only [Act.put, sT, sS, sZ]
      refine AnyF.take 6 (some 43) (.move (.tmp 49)) (.tuple #[.agg (l4 (cuL r k)).toArray, .int .u64 cy]) rfl (by kernel_rfl) (by kernel_rfl) (by kernel_rfl) (fun _ _ _ h => h) rfl (by kernel_rfl) (fun o ho w hw => exec_move (.tmp 49) ho _ rfl w) HS46.out ?_
      simp only [Act.put, sT, sS, sZ]
      refine AnyF.take 7 (some 50) (.extract (.tmp 43) 0) (.agg (l4 (cuL r k)).toArray) rfl (by kernel_rfl) (by kernel_rfl) (by kernel_rfl) (fun _ _ _ h => h) rfl (by kernel_rfl) (fun o ho w hw => exec_extract0 (.tmp 43) ho _ _ rfl w) HS46.out ?_
      simp only [Act.put, sT, sS, sZ]
      refine AnyF.take0 8 100 (some 51) (.extract (.tmp 43) 1) (.int .u64 cy) rfl (by kernel_rfl) (by kernel_rfl) (by kernel_rfl) (fun _ _ _ h => h) rfl rfl (fun o ho w => exec_extract1 (.tmp 43) ho _ _ rfl w) HS46.out ?_
      simp only [Act.put, sT, sS, sZ]
      refine AnyF.ready (rs := [9]) (by kernel_rfl) (by simp) (ReadyF.last (.store 75 (.tmp 11) (.tmp 50)) rfl (fun o ho => exec_store_seg wc45 75 (.tmp 11) (.tmp 50) ho g11 0 rfl (l4 (cuL r k)) rfl _ 75 HS46.out.2.2.1 (l4_fit _ _) (l4_one _) (l4_size _)) ?_ ReadyF.nil)
      refine any_doneF (by kernel_rfl) ?_ _
      rw [l4_splice]
      have HFIN := Lib.hid (HPOST.out wc45 HS46.out)
      have HF := HFIN.out
      obtain ⟨w8, hw8⟩ : ∃ w8, w8 = wc45.setRow g11 (l4 (cuL r k)).toArray := ⟨_, rfl⟩
      rw [← hw8] at HF ⊢
      have H8 := Lib.hid HF
      clear HF hw8 HFIN HPOST HAD HU5 HS0 hcy
      go_upto_region 16 with (first | (refine wpList_load_seg rfl 75 (.tmp 10) rfl g10 0 rfl (l4 (sqL r k)) _ H8.out.2.1.seg Tryz.underlying75 rfl (l4_size _) ?_) | (refine wpList_run rfl _ (exec_alloc_agg _ 75 rfl _ (zero47' _)) ?_) | (refine wpList_run0 rfl (exec_store_new _ 75 (.tmp 13) (.tmp 52) rfl _ 75 rfl (l4 (sqL r k)) rfl (by rw [l4_len, List.size_toArray, l4_len]) (l4_one _) (l4_size _)) ?_) | (refine wpList_load_seg rfl 75 (.tmp 11) rfl g11 0 rfl (l4 (cuL r k)) _ (RowL.alloc H8.out.2.2.1 _).seg Tryz.underlying75 rfl (l4_size _) ?_) | (refine wpList_store_seg rfl 75 (.tmp 13) (.tmp 55) rfl w8.heap.size 0 rfl (l4 (cuL r k)) rfl _ 75 (RowL.new w8 75 (l4 (sqL r k))) (l4_fit _ _) (l4_one _) (l4_size _) ?_))
      rw [l4_splice]
      have HORD3 : Hid (g11 < w8.heap.size) := H8.out.2.2.2
      have H9 : Hid (Six w.heap.size w ((w8.alloc (Obj.cells (l4 (sqL r k)).toArray 75)).setRow w8.heap.size (l4 (cuL r k)).toArray) ga gr gx gs gc g1 a r ∧ RowL ((w8.alloc (Obj.cells (l4 (sqL r k)).toArray 75)).setRow w8.heap.size (l4 (cuL r k)).toArray) g10 75 (l4 (sqL r k)) ∧ RowL ((w8.alloc (Obj.cells (l4 (sqL r k)).toArray 75)).setRow w8.heap.size (l4 (cuL r k)).toArray) g11 75 (l4 (cuL r k)) ∧ RowL ((w8.alloc (Obj.cells (l4 (sqL r k)).toArray 75)).setRow w8.heap.size (l4 (cuL r k)).toArray) w8.heap.size 75 (l4 (cuL r k))) := by
       unfold Hid
       have ho := HORD.out
       have ho2 := HORD2.out
       have ho3 := HORD3.out
       have hb : Below w8.heap.size w8 ((w8.alloc (Obj.cells (l4 (sqL r k)).toArray 75)).setRow w8.heap.size (l4 (cuL r k)).toArray) := ((Below.refl _ w8).alloc (Nat.le_refl _) _).trans ⟨rfl, rfl, rfl, by simp, fun k hk => setRow_other _ _ _ _ (by omega)⟩
       exact ⟨H8.out.1.below (by omega) hb, H8.out.2.1.below hb, H8.out.2.2.1.below hb, RowL.setRow (RowL.new w8 75 (l4 (sqL r k))) _⟩
      obtain ⟨g13, hg13⟩ : ∃ g13, g13 = w8.heap.size := ⟨_, rfl⟩
      obtain ⟨w9, hw9⟩ : ∃ w9, w9 = ((w8.alloc (Obj.cells (l4 (sqL r k)).toArray 75)).setRow w8.heap.size (l4 (cuL r k)).toArray) := ⟨_, rfl⟩
      rw [← hw9] at H9 ⊢
      rw [← hg13] at HORD3 H9 ⊢
      clear hw9 hg13 H8 HKEEP HU3 HU4 HT hq3 hq
      have HLS : Hid (∀ w, Calls Tryz.prog 78 #[.agg (l4 a).toArray, .agg (l4 (cuL r k)).toArray] w fun e w' => e = .returned (.bool (lessL a (cuL r k))) ∧ Below w.heap.size w w') := Lib.hid (less_any a (cuL r k))
      have HR2 : Hid (rTo a true k (if lessL a (cuL r k) then r else ⟨setBit r.x k, sqL r k, cuL r k⟩) = out) := HR.out
      go_wp2_with (first | (refine wpList_load_seg rfl 75 (.tmp 2) rfl ga 0 rfl (l4 a) _ H9.out.1.1.seg Tryz.underlying75 rfl (l4_size _) ?_) | (refine wpList_load_seg rfl 75 (.tmp 13) rfl g13 0 rfl (l4 (cuL r k)) _ H9.out.2.2.2.seg Tryz.underlying75 rfl (l4_size _) ?_))
      refine (HLS.out _).mono ?_
      rintro e w10 ⟨rfl, hb10⟩
      have H10 : Hid (Six w.heap.size w w10 ga gr gx gs gc g1 a r ∧ RowL w10 g10 75 (l4 (sqL r k)) ∧ RowL w10 g11 75 (l4 (cuL r k))) := by
       unfold Hid
       have ho := HORD.out
       have ho2 := HORD2.out
       have ho3 := H9.out.2.2.1.lt
       exact ⟨H9.out.1.below (by omega) hb10, H9.out.2.1.below hb10, H9.out.2.2.1.below hb10⟩
      clear hb10 H9 HLS HR
      cases hle : lessL a (cuL r k) with
      | true =>
       have HR3 : Hid (rTo a true k r = out) := by have h := HR2.out; rw [hle] at h; exact h
       clear hle HR2
       go_wp2_with fail
       go_roundw
       case rel => exact ⟨k, r, by omega, rfl, HR3.out, HX.out, HSo.out, HCo.out, H10.out.1⟩
       case measure => simp [intOf]; omega
      | false =>
       have HR3 : Hid (rTo a true k ⟨setBit r.x k, sqL r k, cuL r k⟩ = out) := by have h := HR2.out; rw [hle] at h; exact h
       clear hle HR2
       have hup := setBit_upd r.x k (by omega)
       obtain ⟨q2, hq0⟩ : ∃ q2, Hid (q2 = k / 64) := ⟨_, Lib.hid rfl⟩
       obtain ⟨b, hb0⟩ : ∃ b, Hid (b = k % 64) := ⟨_, Lib.hid rfl⟩
       have hq1 : (k : Int) / 64 = (q2 : Int) := by rw [hq0.out]; omega
       have hb1 : (k : Int) % 64 = (b : Int) := by rw [hb0.out]; omega
       have hq4 : q2 < 4 := by rw [hq0.out]; omega
       have hq4' : (q2 : Int) < 4 := by omega
       have hb64 : b < 64 := by rw [hb0.out]; omega
       rw [← hq0.out, ← hb0.out] at hup
       have HUP := Lib.hid hup
       clear hup
       have hrow : Row w10 gx 75 .u64 4 (at4 r.x) := H10.out.1.2.2.1
       have cq : w10.cell? ⟨gx, q2, none⟩ = some (.int .u64 (at4 r.x q2)) := hrow.cell q2 hq4
       have fq : w10.frozen? ⟨gx, q2, none⟩ = false := hrow.free q2
       clear hrow
       have hor := or_two (at4 r.x q2) b (at4_lt HX.out q2) hb64
       have hsh := shl_one b hb64
       rw [Int.one_mul] at hsh
       obtain ⟨p, hp0⟩ : ∃ p, Hid (p = 2 ^ b) := ⟨_, Lib.hid rfl⟩
       rw [← hp0.out] at hor hsh HUP
       obtain ⟨o, ho0⟩ : ∃ o, Hid (o = (at4 r.x q2 ||| p)) := ⟨_, Lib.hid rfl⟩
       rw [← ho0.out] at hor HUP
       have HXO := Lib.hid (setBit_ok r.x HX.out k)
       have HSQ := Lib.hid (sumL_ok r.s (upL r.x (k + 1)) (upL one4 (2 * k)))
       have HCQ := Lib.hid (addL_ok (cuStep r k (cuStep r k (cuStep r k r.c))) (upL one4 (3 * k)))
       have H11 : Hid (Six w.heap.size w (w10.setCell ⟨gx, q2, none⟩ (.int .u64 o)).drew ga gr gx gs gc g1 a ⟨setBit r.x k, r.s, r.c⟩ ∧ RowL (w10.setCell ⟨gx, q2, none⟩ (.int .u64 o)).drew g10 75 (l4 (sqL r k)) ∧ RowL (w10.setCell ⟨gx, q2, none⟩ (.int .u64 o)).drew g11 75 (l4 (cuL r k))) := by
        unfold Hid
        have ho := HORD.out
        have ho2 := HORD2.out
        have h := H10.out.1.setX q2 o (setBit r.x k) HUP.out (by omega) (by omega) (by omega) (by omega) (by omega) (by omega)
        exact ⟨⟨h.1, h.2.1, h.2.2.1, h.2.2.2.1, h.2.2.2.2.1, h.2.2.2.2.2.1, h.2.2.2.2.2.2.drew⟩, H10.out.2.1.cellset _ _ _ (by omega), H10.out.2.2.cellset _ _ _ (by omega)⟩
       clear H10 HUP
       generalize at4 r.x q2 = vx at *
       go_wp2_with fail
       go_region
       all_goals
        go_upto_region 18 with (fail)
        obtain ⟨w12, hw12⟩ : ∃ w12, w12 = (w10.setCell ⟨gx, q2, none⟩ (.int .u64 o)).drew := ⟨_, rfl⟩
        have H12 : Hid (Six w.heap.size w w12 ga gr gx gs gc g1 a ⟨setBit r.x k, r.s, r.c⟩ ∧ RowL w12 g10 75 (l4 (sqL r k)) ∧ RowL w12 g11 75 (l4 (cuL r k))) := by rw [hw12]; exact H11.out
        rw [← hw12]
        clear hw12 H11 hor hsh cq fq ho0 hp0 hq0 hb0 hq1 hb1 hq4 hq4' hb64
        have H13 : Hid (Six w.heap.size w (w12.setRow gs (l4 (sqL r k)).toArray) ga gr gx gs gc g1 a ⟨setBit r.x k, sqL r k, r.c⟩ ∧ RowL (w12.setRow gs (l4 (sqL r k)).toArray) g11 75 (l4 (cuL r k))) := by
         unfold Hid
         have ho := HORD.out
         have ho2 := HORD2.out
         exact ⟨H12.out.1.setS (sqL r k) (by omega) (by omega) (by omega) (by omega) (by omega) (by omega), H12.out.2.2.setRow_ne (by omega) _⟩
        go_upto_region 19 with (first | (refine wpList_load_seg rfl 75 (.tmp 10) rfl g10 0 rfl (l4 (sqL r k)) _ H12.out.2.1.seg Tryz.underlying75 rfl (l4_size _) ?_) | (refine wpList_store_seg rfl 75 (.tmp 6) (.tmp 69) rfl gs 0 rfl (l4 (sqL r k)) rfl _ 75 H12.out.1.2.2.2.1 (l4_fit _ _) (l4_one _) (l4_size _) ?_))
        rw [l4_splice]
        obtain ⟨w13, hw13⟩ : ∃ w13, w13 = w12.setRow gs (l4 (sqL r k)).toArray := ⟨_, rfl⟩
        rw [← hw13] at H13 ⊢
        clear hw13 H12
        have H14 : Hid (Six w.heap.size w (w13.setRow gc (l4 (cuL r k)).toArray) ga gr gx gs gc g1 a ⟨setBit r.x k, sqL r k, cuL r k⟩) := by
         unfold Hid
         have ho := HORD.out
         exact H13.out.1.setC (cuL r k) (by omega) (by omega) (by omega) (by omega) (by omega) (by omega)
        go_wp2_with (first | (refine wpList_load_seg rfl 75 (.tmp 11) rfl g11 0 rfl (l4 (cuL r k)) _ H13.out.2.seg Tryz.underlying75 rfl (l4_size _) ?_) | (refine wpList_store_seg rfl 75 (.tmp 7) (.tmp 70) rfl gc 0 rfl (l4 (cuL r k)) rfl _ 75 H13.out.1.2.2.2.2.1 (l4_fit _ _) (l4_one _) (l4_size _) ?_))
        rw [l4_splice]
        go_roundw
        case rel => exact ⟨k, ⟨setBit r.x k, sqL r k, cuL r k⟩, by omega, rfl, HR3.out, HXO.out, HSQ.out, HCQ.out, H14.out⟩
        case measure => simp [intOf]; omega
end Go.Proofs.YtdbbcngolcnniaaGreatDoor.S3
