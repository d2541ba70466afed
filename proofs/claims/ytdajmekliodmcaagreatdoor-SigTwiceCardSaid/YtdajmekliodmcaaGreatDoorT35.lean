/- Several texts, one behind the other; each says by itself what it proves, and on what conditions. -/
import Derived.Test.YtdajmekliodmcaaGreatDoorT26
import Derived.Test.YtdajmekliodmcaaGreatDoorT34
import Derived.WalkKit
import Derived.ProofKit
import Derived.OpenShut
import Derived.ShutString
import Derived.ChangeOld
import Derived.Below
import Derived.LaidMore
import Derived.Lay
import Derived.Stop.Joined
import Derived.SevenTiedAt
import Derived.Test.YtdajmekliodmcaaGreatDoorTie
import Derived.Test.YtdajmekliodmcaaGreatDoorCards
/- The law SigForms walked: it returns true, and no memory that was there is changed. No condition but that the texts may lie in memory. -/
namespace Go.Proofs.YtdajmekliodmcaaGreatDoor
open Go.RowKit Go.Shelf
open R
set_option linter.unusedVariables false
set_option linter.unusedSimpArgs false
set_option maxRecDepth 100000 in
set_option maxHeartbeats 1000000 in
theorem seedW_any (s : ByteArray) (hs : s.size ≤ 9223372036854775807) (w : World) : Calls Tryz.prog 16 #[.string s] w fun e w' => e = .returned (.string ⟨(seedL s.data.toList).toArray⟩) ∧ Below w.heap.size w w' := by
  obtain ⟨t, ht⟩ : ∃ t : ByteArray, Hid (t = ⟨(seedL s.data.toList).toArray⟩) := ⟨_, Lib.hid rfl⟩
  rw [← ht.out]
  have hsl : s.data.toList.length = s.size := rfl
  have hmk := make32
  have hr0 : Row8 (w.alloc (.cells (bRow (List.replicate 32 0)) 5)) w.heap.size (seedAt s.data.toList 0) := World.alloc_heap_new w _
  have hb0 : Below w.heap.size w (w.alloc (.cells (bRow (List.replicate 32 0)) 5)) := (Below.refl _ w).alloc (Nat.le_refl _) _
  generalize bRow (List.replicate 32 0) = Z at *
  have HR0 := Lib.hid hr0
  have HB0 := Lib.hid hb0
  clear hr0 hb0
  go_enter Tryz.func16, Tryz.ntmps16
  go_wp2
  clear hmk
  generalize w.alloc (.cells Z 5) = w0 at *
  obtain ⟨g, hg⟩ : ∃ g, Hid (g = w.heap.size) := ⟨_, Lib.hid rfl⟩
  rw [← hg.out] at HR0 ⊢
  go_loopw [4] (fun i wr => ∃ k : Nat, k ≤ 32 ∧ k ≤ s.size ∧ i = .int .i64 k ∧ Row8 wr g (seedAt s.data.toList k) ∧ Below w.heap.size w wr) (fun i _ => 32 - (intOf i).toNat)
  case atStart => exact ⟨0, by omega, by omega, rfl, HR0.out, HB0.out⟩
  case round =>
    clear HR0 HB0
    obtain ⟨k, hk, hks, rfl, hrow, hbel⟩ := hrel
    have HROW := Lib.hid hrow
    have HBEL := Lib.hid hbel
    clear hrow hbel
    by_cases h32 : k < 32
    · have h32I : (k : Int) < 32 := by omega
      by_cases hlt : k < s.size
      · have hltI : (k : Int) < (s.size : Int) := by omega
        have hl := seedAt_len s.data.toList k hk hks
        obtain ⟨v, hcell⟩ : ∃ v, wr.cell? ⟨g, k, none⟩ = some v := ⟨_, HROW.out.cell k (by omega)⟩
        have hfree := HROW.out.free k
        have hset : Hid (Row8 (wr.setCell ⟨g, k, none⟩ (.int .u8 (s[k].toNat : Int))) g (seedAt s.data.toList (k + 1))) := by
          have h := HROW.out.set k s[k]
          have e : (seedAt s.data.toList k).set k s[k] = seedAt s.data.toList (k + 1) := seedAt_step s.data.toList k h32 hlt
          rw [e] at h
          exact Lib.hid h
        have hbel2 : Hid (Below w.heap.size w (wr.setCell ⟨g, k, none⟩ (.int .u8 (s[k].toNat : Int)))) := Lib.hid (HBEL.out.setCell (p := ⟨g, k, none⟩) (by rw [hg.out]; exact Nat.le_refl _) _)
        clear hl
        go_wp2
        go_roundw
        case rel => exact ⟨k + 1, by omega, by omega, by first | rfl | simp | go_num, hset.out, hbel2.out⟩
        case measure => simp [intOf]; omega
      · have hltI : ¬ (k : Int) < (s.size : Int) := by omega
        have hfin : Hid (t = ⟨(seedAt s.data.toList k).toArray⟩) := by
          unfold Hid
          rw [ht.out]
          unfold seedL
          rw [hsl, show min 32 s.size = k by omega]
        have hcv := HROW.out.str (cap := 32) (seedAt_len s.data.toList k hk hks)
        rw [← hfin.out] at hcv
        go_wp2
        go_ret
        exact ⟨rfl, HBEL.out⟩
    · have h32I : ¬ (k : Int) < 32 := by omega
      have hfin : Hid (t = ⟨(seedAt s.data.toList k).toArray⟩) := by
        unfold Hid
        rw [ht.out]
        unfold seedL
        rw [hsl, show min 32 s.size = k by omega]
      have hcv := HROW.out.str (cap := 32) (seedAt_len s.data.toList k hk hks)
      rw [← hfin.out] at hcv
      go_wp2
      go_ret
      exact ⟨rfl, HBEL.out⟩
end Go.Proofs.YtdajmekliodmcaaGreatDoor
/- SigTwice's walk. -/
namespace Go.Proofs.YtdajmekliodmcaaGreatDoor.P8
open Go.RowKit Go.Shelf
set_option linter.unusedVariables false
set_option linter.unusedSimpArgs false
theorem results_tmp {fn : Func} {a : Tmp} (h : fn.results = #[.tmp a]) (tmps : Array Value) (P : Program) (w : World) : (results fn tmps).run P w = .ok (tmps.getD a undef) w := by
  unfold results
  rw [h]
  simp [Array.mapM_eq_mapM_toList]
set_option maxRecDepth 100000 in
set_option maxHeartbeats 2000000 in
theorem twice_big (s m : ByteArray) (n : Nat) (h2 : m.size ≤ 9223372036854775807) (hbig : 200 < m.size) (w : World) :
    Calls Tryz.prog 7 #[.string s, .string m, .int .u8 (n : Int)] w fun e w' => e = .returned (.bool true) ∧ Below w.heap.size w w' := by
  have i1 : (m.size : Int) > 200 := by omega
  go_enter Tryz.func7, Tryz.ntmps7
  go_wp2_with (go_at_call 9; refine (awake_any _).mono ?_; rintro e w1 ⟨rfl, hb1⟩)
  go_ret
  exact ⟨rfl, hb1⟩
set_option maxRecDepth 100000 in
set_option maxHeartbeats 4000000 in
theorem twice_small (s m : ByteArray) (n : Nat) (hn : n < 256) (h1 : s.size ≤ 9223372036854775807) (h2 : m.size ≤ 200) (w : World) (hG9 : Glob9 w) :
    Calls Tryz.prog 7 #[.string s, .string m, .int .u8 (n : Int)] w fun e w' => e = .returned (.bool true) ∧ Below w.heap.size w w' := by
  have i1 : ¬ ((m.size : Int) > 200) := by omega
  obtain ⟨K, hK⟩ : ∃ K : ByteArray, Hid (K = ⟨(seedL s.data.toList).toArray⟩) := ⟨_, Lib.hid rfl⟩
  have K32 : K.size = 32 := by rw [hK.out]; exact seedL_len _
  obtain ⟨k, hk⟩ : ∃ k : Nat, k = n % 32 := ⟨_, rfl⟩
  have k32 : k < 32 := by omega
  have hnk : (n : Int) % 32 = (k : Int) := by omega
  have hnt : (n : Int).tmod 32 = (k : Int) := by rw [Int.tmod_eq_emod_of_nonneg (by omega)]; exact hnk
  clear hk
  obtain ⟨P, hP⟩ : ∃ P : ByteArray, Hid (P = ⟨(pubL K.data.toList).toArray⟩) := ⟨_, Lib.hid rfl⟩
  have P32 : P.size = 32 := by rw [hP.out]; exact pubL_len _
  obtain ⟨G, hGe⟩ : ∃ G : ByteArray, Hid (G = ⟨(headL K.data.toList m.data.toList).toArray⟩ ++ ⟨(tailL K.data.toList m.data.toList).toArray⟩) := ⟨_, Lib.hid rfl⟩
  have G64 : G.size = 64 := by
    have a1 : (⟨(headL K.data.toList m.data.toList).toArray⟩ : ByteArray).size = 32 := headL_len _ _
    have a2 : (⟨(tailL K.data.toList m.data.toList).toArray⟩ : ByteArray).size = 32 := tailL_len _ _
    rw [hGe.out, ByteArray.size_append, a1, a2]
  have HS : Hid (∀ w, _) := Lib.hid (fun w => seedW_any s h1 w)
  rw [← hK.out] at HS
  have HP : Hid (∀ w, Glob9 w → _) := Lib.hid (fun w (hw : Glob9 w) => public_yes K K32 w hw.2.1)
  rw [← hP.out] at HP
  have HN : Hid (∀ w, Glob9 w → _) := Lib.hid (fun w (hw : Glob9 w) => sign_yes K m K32 (by omega) w hw.2.1 hw.2.2)
  rw [← hGe.out] at HN
  have X1 : (K.extract 0 k).size = k := by rw [ByteArray.size_extract]; omega
  have X2 : (K ++ { data := #[120] }).size = 33 := by rw [ByteArray.size_append, K32]; rfl
  have HX1 : Hid (∀ w, _) := Lib.hid (fun w => public_no (K.extract 0 k) (by omega) (by omega) w)
  have HX2 : Hid (∀ w, _) := Lib.hid (fun w => sign_no (K.extract 0 k) m (by omega) (by omega) w)
  obtain ⟨Y, hYe⟩ : ∃ Y, Y = K ++ ({ data := #[120] } : ByteArray) := ⟨_, rfl⟩
  rw [← hYe] at X2
  have HY1 : Hid (∀ w, _) := Lib.hid (fun w => public_no Y (by omega) (by omega) w)
  rw [hYe] at HY1 X2
  have HA : Hid (∀ w, _) := Lib.hid (fun w => awake_any w)
  have HG := Lib.hid hG9
  clear hG9 hK hP hGe hYe
  go_enter Tryz.func7, Tryz.ntmps7
  go_wp2_with fail
  refine (HS.out _).mono ?_
  rintro e w2 ⟨rfl, hb⟩
  have B1 := hb
  clear hb
  go_wp2_with fail
  refine (HP.out _ (HG.out.below B1)).mono ?_
  rintro e w2 ⟨rfl, hb⟩
  have B2 := B1.trans (hb.mono B1.size)
  clear hb B1
  have B1 := B2
  clear B2
  go_wp2_with fail
  refine (HP.out _ (HG.out.below B1)).mono ?_
  rintro e w2 ⟨rfl, hb⟩
  have B2 := B1.trans (hb.mono B1.size)
  clear hb B1
  have B1 := B2
  clear B2
  go_wp2_with fail
  refine (HN.out _ (HG.out.below B1)).mono ?_
  rintro e w2 ⟨rfl, hb⟩
  have B2 := B1.trans (hb.mono B1.size)
  clear hb B1
  have B1 := B2
  clear B2
  go_wp2_with fail
  refine (HN.out _ (HG.out.below B1)).mono ?_
  rintro e w2 ⟨rfl, hb⟩
  have B2 := B1.trans (hb.mono B1.size)
  clear hb B1
  have B1 := B2
  clear B2
  go_wp2_with fail
  with_reducible refine (HX1.out _).mono ?_
  rintro e w2 ⟨rfl, hb⟩
  have B2 := B1.trans (hb.mono B1.size)
  clear hb B1
  have B1 := B2
  clear B2
  go_wp2_with fail
  with_reducible refine (HX2.out _).mono ?_
  rintro e w2 ⟨rfl, hb⟩
  have B2 := B1.trans (hb.mono B1.size)
  clear hb B1
  have B1 := B2
  clear B2
  go_wp2_with fail
  with_reducible refine (HY1.out _).mono ?_
  rintro e w2 ⟨rfl, hb⟩
  have B2 := B1.trans (hb.mono B1.size)
  clear hb B1
  have B1 := B2
  clear B2
  have HE : (({ data := #[] } : ByteArray) ++ ({ data := #[] } : ByteArray)) = ({ data := #[] } : ByteArray) := by decide
  go_wp2_with fail
  with_reducible refine (HA.out _).mono ?_
  rintro e w2 ⟨rfl, hb⟩
  have B2 := B1.trans (hb.mono B1.size)
  clear hb B1
  have B1 := B2
  clear B2
  go_wp2_with fail
  exact ⟨rfl, _, results_tmp rfl _ _ _, rfl, B1⟩
theorem twice_any (s m : ByteArray) (n : Nat) (hn : n < 256) (h1 : s.size ≤ 9223372036854775807) (h2 : m.size ≤ 9223372036854775807) (w : World) (hG9 : Glob9 w) :
    Calls Tryz.prog 7 #[.string s, .string m, .int .u8 (n : Int)] w fun e w' => e = .returned (.bool true) ∧ Below w.heap.size w w' := by
  by_cases h : 200 < m.size
  · exact twice_big s m n h2 h w
  · exact twice_small s m n hn h1 (by omega) w hG9
end Go.Proofs.YtdajmekliodmcaaGreatDoor.P8
/- SigTwice: whatever texts and number are handed in, the law returns true and leaves them as they were; the tables that its row lists are tied to their text. No condition. -/
namespace Go.Proofs.YtdajmekliodmcaaGreatDoor
set_option linter.unusedSimpArgs false
open Go.ChangeShapes Go.WideShapes Go.ChangeAt Go.RowKit
open Go.ChangeMaps (open_string shut_string)
set_option linter.unusedVariables false

theorem sw_own : ownKnob Tryz.prog.godebug = none := by kernel_rfl
theorem sw_w (s0 : ByteArray) (w0 : s0.size ≤ maxLen) (s1 : ByteArray) (w1 : s1.size ≤ maxLen) (a2 : Int) (w2 : (Lit.int .u8 a2).wf = true) (w : World) (hG : P8.Glob9 w) :
    Calls Tryz.prog 7 #[.string s0, .string s1, .int .u8 a2] w fun e w' => e = .returned (.bool true) ∧ Below w.heap.size w w' := by
  unfold maxLen at w0 w1
  simp [Lit.wf, IntKind.min, IntKind.max, IntKind.signed, IntKind.bits] at w2
  obtain ⟨n, rfl⟩ := Int.eq_ofNat_of_zero_le w2.1
  exact P8.twice_any s0 s1 n (by omega) (by omega) (by omega) w hG

set_option maxRecDepth 100000 in
theorem sw_lifted (os : Os) (started : os.Started) (H : Type) (enc : TypeId × Value → H) :
    ReturnsInHanded {} Tryz.checked os 7 .any (fun w args => (Rows.sigTwiceSpec.pre enc Tryz.prog Tryz.f7 [] false w args ∧ laidMetH Tryz.prog P8.laid9 w) ∧ sizedMet enc Tryz.prog Tryz.f7 (OpenSpec.ofChange Rows.sigTwiceSpec) false w args)
      (Rows.sigTwiceSpec.post enc Tryz.prog Tryz.f7 false true false false) := by
  refine returnsInHanded_of_change_and (C := Tryz.checked) (X := fun w _ => laidMetH Tryz.prog P8.laid9 w) (fun _ _ _ hh h => h.of_heap hh) sw_own started (by kernel_rfl) Tryz.func7
    (ChangeSpec.witness_shaped (enc := enc) (C := Tryz.checked) (os := os) (X := fun w _ => laidMetH Tryz.prog P8.laid9 w) false (World.laidAll Tryz.prog os P8.laid9) #[.string ByteArray.empty, .string ByteArray.empty, .int .u8 0] 8 (World.laidAll_os _ _ _)
      (World.shaped_of_ZipB (by kernel_rfl) (by kernel_rfl)) (by kernel_rfl) (by kernel_rfl) (by kernel_rfl)
      (by rw [MakeChecks.laidMetH_plain _ _ _ (by kernel_rfl)]; exact laidMet_laidAll _ (by kernel_rfl) (by kernel_rfl))) ?_
  intro W base args ds gs before hval0 hW _ _ hL _
  have hval : ∀ (j : Nat) t v, Tryz.f7.params[j]? = some t → args[j]? = some v → Value.okWide Tryz.prog W .any base t v := hval0
  have hW' := hW
  obtain ⟨p, q, hA0, hV, rfl, hfz, hnd⟩ := hW
  have hA : DataW.TrodAll enc Tryz.prog W 0 (fun _ => true) true Tryz.f7.params.toList args.toList ds p := hA0
  have hG := P8.glob_of_laid9 hL
  rw [Tryz.params7] at hA hval
  obtain ⟨v0, vs0, d0, ds0, p0, q0, hargs, rfl, rfl, h0, r0⟩ := trodAll_cons hA
  obtain ⟨v1, vs1, d1, ds1, p1, q1, rfl, rfl, rfl, h1, r1⟩ := trodAll_cons r0
  obtain ⟨v2, vs2, d2, ds2, p2, q2, rfl, rfl, rfl, h2, r2⟩ := trodAll_cons r1
  obtain ⟨rfl, rfl, rfl⟩ := trodAll_nil r2
  obtain rfl : args = #[v0, v1, v2] := by cases args; simp_all
  obtain ⟨rfl, rfl⟩ := trodVars_none hV
  obtain ⟨s0, rfl, rfl, rfl, w0⟩ := open_string Tryz.underlying9 (hval 0 9 v0 rfl rfl) h0
  obtain ⟨s1, rfl, rfl, rfl, w1⟩ := open_string Tryz.underlying9 (hval 1 9 v1 rfl rfl) h1
  obtain ⟨a2, rfl, rfl, rfl, w2⟩ := open_int Tryz.underlying5 (hval 2 5 v2 rfl rfl) h2
  clear hA0 hval0
  simp only [List.append_nil] at hW'
  refine (sw_w s0 w0 s1 w1 a2 w2 W hG ).mono fun e W' ⟨he, bel⟩ => ?_
  subst he
  exact ⟨_, rfl, _, _, _, [], [], [], hW', trodAll_mk1 (shut_bool Tryz.underlying4 _), (trodAll_cons_mk (shut_string Tryz.underlying9 w0) (trodAll_cons_mk (shut_string Tryz.underlying9 w1) (trodAll_cons_mk (shut_int Tryz.underlying5 w2) trodAll_mk0))), rfl, bel.frame _, fun h => by cases h⟩

theorem sw_over : Rows.sigTwiceRow.holds Tryz.pinned (OpenSpec.ofChange Rows.sigTwiceSpec) :=
  OpenClaim.holds_of_wide 7 Tryz.f7 rfl rfl rfl rfl rfl rfl rfl ⟨rfl, rfl, rfl, rfl, rfl⟩ rfl rfl rfl rfl rfl (by kernel_rfl) Tryz.func7 (by kernel_rfl)
    (of_decide_eq_true (by kernel_rfl)) (by unfold Func.isWrapper; first | (rw [if_pos (by decide +kernel)]; kernel_rfl) | (rw [if_neg (by decide +kernel)]; exact ⟨rfl, rfl⟩))
    (fun os started H enc _ => sw_lifted os started H enc)

theorem sigTwice_holds : Rows.SigTwiceCardSaid :=
  Claim7.holds_tied_plain_at .later [] [.data, .data, .data, .data, .data, .pinned] true (true, "db9fbd989c338cb534daea8328743bcf7cc6422696dc04a12fd2eede3d4d1520") false
    sw_over (fun _ h => by cases h) (by kernel_rfl) (fun _ h => by cases h) sigTwice_row_tie rfl ⟨rfl, rfl⟩ (by kernel_rfl) rfl
    (fun f fn hf hfn => by
      obtain rfl : f = 7 := Option.some.inj ((show Tryz.prog.funcNamed Rows.sigTwiceRow.func = some 7 by kernel_rfl).symm.trans hf) |>.symm
      obtain rfl : fn = Tryz.f7 := (Option.some.inj (Tryz.func7.symm.trans hfn)).symm
      exact ⟨by kernel_rfl, fun j t ht => by
        rw [Tryz.params7] at ht
        have hm : t ∈ [9, 9, 5] := by simpa using Array.mem_of_getElem? ht
        have hall : ([9, 9, 5].all fun u => !Tryz.prog.wantsStandIn u) = true := by kernel_rfl
        exact (show Tryz.prog.wantsStandIn t = false by simpa using List.all_eq_true.1 hall t hm)⟩)
    (by kernel_rfl)
end Go.Proofs.YtdajmekliodmcaaGreatDoor
