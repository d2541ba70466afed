/- Package codec's GetBase32: it tells the arithmetic's bytes, or that there are none. Its condition: a length that fits. -/
import Derived.Test.YtkkdcecnegdipaaDoorB32
namespace Go.Proofs.YtkkdcecnegdipaaDoor
open Go.RowKit Go.Shelf
set_option linter.unusedVariables false

/-- What letters say: n bytes, n any number. -/
def get32I (s : List UInt8) (n : Int) : Option (List UInt8) := if 0 ≤ n then get32 s n.toNat else none
theorem get32I_out (s : List UInt8) (n : Int) (h : n < 0 ∨ 64 < n) : get32I s n = none := by
  unfold get32I
  by_cases h0 : 0 ≤ n
  · rw [if_pos h0]
    unfold get32
    rw [if_neg]
    rintro ⟨h1, -⟩
    omega
  · rw [if_neg h0]
theorem rd32_le (s : List UInt8) (n : Nat) : (rd32 s n).length ≤ n := by
  unfold rd32
  rw [List.length_map, List.length_take]
  omega
theorem rd32_lt (s : List UInt8) (n : Nat) : ∀ x ∈ (nb s).reverse.map (numAt by32B), x < 256 := by
  intro x hx
  obtain ⟨y, -, rfl⟩ := List.mem_map.1 hx
  exact by32_all _

set_option maxHeartbeats 1000000 in
theorem getBase32_in (s : ByteArray) (m : Nat) (hm : m ≤ 64) (w : World) (hs : s.size ≤ 549755813888) :
    Calls Tryd.prog 8 #[.string s, .int .i64 (m : Int)] w fun e w2 => e = .returned (told (get32 s.data.toList m)) ∧ Below w.heap.size w w2 := by
  obtain ⟨X, hX⟩ : ∃ X, X = rd32 s.data.toList m := ⟨_, rfl⟩
  have hres : ((loAll 5 8 ((natsOf s).reverse.map (numAt by32B))).take m).map UInt8.ofNat = X := by rw [hX, rd32, natsOf_nb]
  have hXl : X.length ≤ m := by rw [hX]; exact rd32_le _ _
  have hof : ∀ b : List UInt8, b.length = m → b32 b = s.data.toList → X = b := fun b hb he => by rw [hX, ← he, ← hb, rd32_b32]
  have HR := Lib.hid hres
  have HX := base32_any ⟨X.toArray⟩
  have hXs : (⟨X.toArray⟩ : ByteArray).size = X.length := by show X.toArray.size = _; simp
  have hXle : (⟨X.toArray⟩ : ByteArray).size ≤ 549755813888 := by omega
  have HXL := Lib.hid hXle
  have hmn : ¬ ((m : Int) < 0) := by omega
  have hm64 : ¬ ((m : Int) > 64) := by omega
  clear hX hres hXle
  by_cases hlen : X.length = m
  · have hq : ((X.length : Int) = (m : Int)) := by omega
    by_cases hc : b32 X = s.data.toList
    · have hso : (b32 X == s.toList) = true := by rw [toList_data, hc]; simp
      have hT := only_any ⟨X.toArray⟩ true
      have HF : Hid (get32 s.data.toList m = some X) := (get32_iff _ _ _).2 ⟨hm, hlen, hc⟩
      clear hc hof hlen
      go_enter Tryd.func8, Tryd.ntmps8
      go_wp2_with (first
        | (go_at_call 27; refine (backward_mk s w (by omega)).mono ?_; rintro e w1 ⟨⟨v1, rfl, h1⟩, b1⟩)
        | (go_at_call 23; refine (numbers_mk by32B v1 _ w1 h1 by32_all).mono ?_; rintro e w2 ⟨⟨v2, rfl, h2⟩, b2⟩)
        | (go_at_call 26; refine (lowest_mk 5 8 (by decide) (by decide) (by decide) (by decide) v2 _ w2 h2).mono ?_; rintro e w3 ⟨⟨v3, rfl, h3⟩, b3⟩)
        | (go_at_call 21; refine (first_res m v3 _ w3 h3 (by omega) _ HR.out).mono ?_; rintro e w4 ⟨rfl, b4⟩)
        | (go_at_call 15; refine (HX w4 HXL.out).mono ?_; rintro e w5 ⟨rfl, b5⟩)
        | (go_at_call 25; refine (hT w5).mono ?_; rintro e w6 ⟨rfl, rfl⟩))
      go_ret2
      exact ⟨by rw [HF.out]; rfl, below_then (below_then (below_then (below_then b1 b2) b3) b4) b5⟩
    · have hso : (b32 X == s.toList) = false := by rw [toList_data]; simpa using hc
      have hT := only_any ⟨X.toArray⟩ false
      have HF : Hid (get32 s.data.toList m = none) := by unfold Hid; rw [get32_of s.data.toList m hm X hlen hof, if_neg hc]
      clear hc hof hlen
      go_enter Tryd.func8, Tryd.ntmps8
      go_wp2_with (first
        | (go_at_call 27; refine (backward_mk s w (by omega)).mono ?_; rintro e w1 ⟨⟨v1, rfl, h1⟩, b1⟩)
        | (go_at_call 23; refine (numbers_mk by32B v1 _ w1 h1 by32_all).mono ?_; rintro e w2 ⟨⟨v2, rfl, h2⟩, b2⟩)
        | (go_at_call 26; refine (lowest_mk 5 8 (by decide) (by decide) (by decide) (by decide) v2 _ w2 h2).mono ?_; rintro e w3 ⟨⟨v3, rfl, h3⟩, b3⟩)
        | (go_at_call 21; refine (first_res m v3 _ w3 h3 (by omega) _ HR.out).mono ?_; rintro e w4 ⟨rfl, b4⟩)
        | (go_at_call 15; refine (HX w4 HXL.out).mono ?_; rintro e w5 ⟨rfl, b5⟩)
        | (go_at_call 25; refine (hT w5).mono ?_; rintro e w6 ⟨rfl, rfl⟩))
      go_ret2
      exact ⟨by rw [HF.out]; rfl, below_then (below_then (below_then (below_then b1 b2) b3) b4) b5⟩
  · have hq : ¬ ((X.length : Int) = (m : Int)) := by omega
    have hT := only_any ⟨X.toArray⟩ false
    have HF : Hid (get32 s.data.toList m = none) := by
      unfold Hid
      cases hg : get32 s.data.toList m with
      | none => rfl
      | some b =>
        obtain ⟨-, h2, h3⟩ := get32_some hg
        exact absurd (by rw [hof b h2 h3]; exact h2) hlen
    clear hof hlen
    go_enter Tryd.func8, Tryd.ntmps8
    go_wp2_with (first
      | (go_at_call 27; refine (backward_mk s w (by omega)).mono ?_; rintro e w1 ⟨⟨v1, rfl, h1⟩, b1⟩)
      | (go_at_call 23; refine (numbers_mk by32B v1 _ w1 h1 by32_all).mono ?_; rintro e w2 ⟨⟨v2, rfl, h2⟩, b2⟩)
      | (go_at_call 26; refine (lowest_mk 5 8 (by decide) (by decide) (by decide) (by decide) v2 _ w2 h2).mono ?_; rintro e w3 ⟨⟨v3, rfl, h3⟩, b3⟩)
      | (go_at_call 21; refine (first_res m v3 _ w3 h3 (by omega) _ HR.out).mono ?_; rintro e w4 ⟨rfl, b4⟩)
      | (go_at_call 25; refine (hT w4).mono ?_; rintro e w6 ⟨rfl, rfl⟩))
    go_ret2
    exact ⟨by rw [HF.out]; rfl, below_then (below_then (below_then b1 b2) b3) b4⟩

theorem getBase32_any (s : ByteArray) (n : Int) (w : World) (hs : s.size ≤ 549755813888) :
    Calls Tryd.prog 8 #[.string s, .int .i64 n] w fun e w2 => e = .returned (told (get32I s.data.toList n)) ∧ Below w.heap.size w w2 := by
  by_cases hr : 0 ≤ n ∧ n ≤ 64
  · obtain ⟨m, rfl⟩ : ∃ m : Nat, n = (m : Int) := ⟨n.toNat, by omega⟩
    have h := getBase32_in s m (by omega) w hs
    have e : get32I s.data.toList (m : Int) = get32 s.data.toList m := by unfold get32I; rw [if_pos (by omega)]; simp
    rw [e]
    exact h
  · have e := Lib.hid (get32I_out s.data.toList n (by omega))
    by_cases h1 : n < 0
    · clear hr
      go_enter Tryd.func8, Tryd.ntmps8
      go_wp2
      go_ret2
      exact ⟨by rw [e.out]; rfl, Below.refl _ _⟩
    · have h2 : n > 64 := by omega
      clear hr
      go_enter Tryd.func8, Tryd.ntmps8
      go_wp2
      go_ret2
      exact ⟨by rw [e.out]; rfl, Below.refl _ _⟩
end Go.Proofs.YtkkdcecnegdipaaDoor
