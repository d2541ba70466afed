/- Text of package sig and of the document, Seed of the laws. No condition but that a length fits. -/
import Derived.Test.YtdajmekliodmcaaGreatDoorMayR
import Derived.Test.YtdajmekliodmcaaGreatDoorB64
import Derived.Test.YtdajmekliodmcaaGreatDoorRB64
namespace Go.Proofs.YtdajmekliodmcaaGreatDoor
open Go.RowKit Go.Shelf
set_option linter.unusedVariables false
set_option linter.unusedSimpArgs false
theorem b64_len (l : List UInt8) : (b64 l).length = (l.length + 2) / 3 * 4 := by
  induction l using b64.induct with
  | case1 a b c l ih => simp only [b64, List.length_cons]; omega
  | case2 a b => simp [b64]
  | case3 a => simp [b64]
  | case4 => rfl
theorem textL_len (n g : List UInt8) : (textL n g).length ≤ 153 := by
  by_cases h : mayL n = true ∧ g.length = 64
  · rw [text_may h.1 h.2]
    have := (may_len h.1).2
    have h2 := b64_len g
    simp only [List.length_append, List.length_cons, h2, h.2]
    omega
  · rw [text_none h]; simp
def strL (l : List UInt8) : ByteArray := ⟨l.toArray⟩
theorem strL_toList (l : List UInt8) : (strL l).data.toList = l := rfl
set_option maxRecDepth 100000 in
set_option maxHeartbeats 1000000 in
theorem text_any (n g : ByteArray) (hg : g.size ≤ 549755813888) (w : World) : Calls Tryz.prog 27 #[.string n, .string g] w fun e w' => e = .returned (.string ⟨(textL n.data.toList g.data.toList).toArray⟩) ∧ Below w.heap.size w w' := by
  obtain ⟨t, ht⟩ : ∃ t : ByteArray, Hid (t = ⟨(textL n.data.toList g.data.toList).toArray⟩) := ⟨_, Lib.hid rfl⟩
  rw [← ht.out]
  have hsl : g.data.toList.length = g.size := rfl
  have HM := Lib.hid (may_any n)
  obtain ⟨b, hb⟩ : ∃ b, Hid (b = mayL n.data.toList) := ⟨_, Lib.hid rfl⟩
  rw [← hb.out] at HM
  cases b with
  | false =>
    have hfin : Hid (t = ⟨#[]⟩) := by
      unfold Hid
      rw [ht.out, text_none (fun h => by rw [← hb.out] at h; cases h.1)]
    go_enter Tryz.func27, Tryz.ntmps27
    go_wp2_with (go_at_call 25; refine (HM.out _).mono ?_; rintro e w1 ⟨rfl, rfl⟩)
    go_ret
    exact ⟨by rw [hfin.out]; rfl, Below.refl _ _⟩
  | true =>
    by_cases h64 : g.size = 64
    · have hI : (g.size : Int) = 64 := by omega
      obtain ⟨u, hu⟩ : ∃ u : ByteArray, Hid (u = ⟨(b64 g.data.toList).toArray⟩) := ⟨_, Lib.hid rfl⟩
      have hul : u.size ≤ 88 := by
        rw [hu.out]
        show (b64 g.data.toList).length ≤ 88
        rw [b64_len, hsl, h64]
        decide
      have hnl := (may_len hb.out.symm).2
      have hns : n.size ≤ 64 := hnl
      have HB := Lib.hid (fun w => base64_any g w hg)
      rw [← hu.out] at HB
      have hfin : Hid ((n ++ ⟨#[58]⟩) ++ u = t) := by
        unfold Hid
        rw [ht.out, text_may hb.out.symm h64, hu.out]
        apply ByteArray.ext
        apply Array.toList_inj.1
        simp
      clear ht hu hnl
      go_enter Tryz.func27, Tryz.ntmps27
      go_wp2_with (first
        | (go_at_call 25; refine (HM.out _).mono ?_; rintro e w1 ⟨rfl, rfl⟩)
        | (go_at_call 60; refine (HB.out _).mono ?_; rintro e w1 ⟨rfl, hb1⟩))
      go_ret
      exact ⟨by rw [hfin.out]; rfl, hb1⟩
    · have hI : ¬ (g.size : Int) = 64 := by omega
      have hfin : Hid (t = ⟨#[]⟩) := by
        unfold Hid
        rw [ht.out, text_none (fun h => h64 h.2)]
      go_enter Tryz.func27, Tryz.ntmps27
      go_wp2_with (go_at_call 25; refine (HM.out _).mono ?_; rintro e w1 ⟨rfl, rfl⟩)
      go_ret
      exact ⟨by rw [hfin.out]; rfl, Below.refl _ _⟩
set_option maxRecDepth 100000 in
set_option maxHeartbeats 1000000 in
theorem textSig_any (n g : ByteArray) (hn : n.size ≤ 549755813888) (hg : g.size ≤ 1000) (w : World) : Calls Tryz.prog 28 #[.string n, .string g] w fun e w' => e = .returned (.string ⟨(textL n.data.toList g.data.toList).toArray⟩) ∧ Below w.heap.size w w' := by
  obtain ⟨t, ht⟩ : ∃ t : ByteArray, Hid (t = ⟨(textL n.data.toList g.data.toList).toArray⟩) := ⟨_, Lib.hid rfl⟩
  rw [← ht.out]
  have hsl : g.data.toList.length = g.size := rfl
  have HM := Lib.hid (mayKey_any n hn)
  obtain ⟨b, hb⟩ : ∃ b, Hid (b = mayL n.data.toList) := ⟨_, Lib.hid rfl⟩
  rw [← hb.out] at HM
  cases b with
  | false =>
    have hfin : Hid (t = ⟨#[]⟩) := by
      unfold Hid
      rw [ht.out, text_none (fun h => by rw [← hb.out] at h; cases h.1)]
    go_enter Tryz.func28, Tryz.ntmps28
    go_wp2_with (go_at_call 26; refine (HM.out _).mono ?_; rintro e w1 ⟨rfl, rfl⟩)
    go_ret
    exact ⟨by rw [hfin.out]; rfl, Below.refl _ _⟩
  | true =>
    by_cases h64 : g.size = 64
    · have hI : (g.size : Int) = 64 := by omega
      obtain ⟨u, hu⟩ : ∃ u : ByteArray, Hid (u = ⟨(b64 g.data.toList).toArray⟩) := ⟨_, Lib.hid rfl⟩
      have hul : u.size ≤ 88 := by
        rw [hu.out]
        show (b64 g.data.toList).length ≤ 88
        rw [b64_len, hsl, h64]
        decide
      have hnl := (may_len hb.out.symm).2
      have hns : n.size ≤ 64 := hnl
      have HB := Lib.hid (fun w => R.rb64_any g hg w)
      rw [← hu.out] at HB
      have hfin : Hid ((n ++ ⟨#[58]⟩) ++ u = t) := by
        unfold Hid
        rw [ht.out, text_may hb.out.symm h64, hu.out]
        apply ByteArray.ext
        apply Array.toList_inj.1
        simp
      clear ht hu hnl
      go_enter Tryz.func28, Tryz.ntmps28
      go_wp2_with (first
        | (go_at_call 26; refine (HM.out _).mono ?_; rintro e w1 ⟨rfl, rfl⟩)
        | (go_at_call 29; refine (HB.out _).mono ?_; rintro e w1 ⟨rfl, hb1⟩))
      go_ret
      exact ⟨by rw [hfin.out]; rfl, hb1⟩
    · have hI : ¬ (g.size : Int) = 64 := by omega
      have hfin : Hid (t = ⟨#[]⟩) := by
        unfold Hid
        rw [ht.out, text_none (fun h => h64 h.2)]
      go_enter Tryz.func28, Tryz.ntmps28
      go_wp2_with (go_at_call 26; refine (HM.out _).mono ?_; rintro e w1 ⟨rfl, rfl⟩)
      go_ret
      exact ⟨by rw [hfin.out]; rfl, Below.refl _ _⟩
end Go.Proofs.YtdajmekliodmcaaGreatDoor
