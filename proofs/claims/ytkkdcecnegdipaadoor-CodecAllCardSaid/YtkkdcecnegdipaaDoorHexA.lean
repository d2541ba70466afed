/- Package codec's Hex: it tells the arithmetic's letters. Its condition: a length that fits. -/
import Derived.Test.YtkkdcecnegdipaaDoorLow
namespace Go.Proofs.YtkkdcecnegdipaaDoor
open Go.RowKit Go.Shelf
set_option linter.unusedVariables false

def by16B : ByteArray := ⟨#[48, 49, 50, 51, 52, 53, 54, 55, 56, 57, 97, 98, 99, 100, 101, 102]⟩
theorem by16_set : ∀ y, y < 16 → UInt8.ofNat (setAt by16B y) = hexd y := by decide +kernel
theorem by16_size : by16B.size = 16 := by decide +kernel
theorem natsOf_nb (s : ByteArray) : natsOf s = nb s.data.toList := rfl
theorem nib_hex : ∀ l : List UInt8, ((nib l).map (setAt by16B)).map UInt8.ofNat = hex l
  | [] => rfl
  | c :: l => by
    have hc := c.toNat_lt
    show UInt8.ofNat (setAt by16B (c.toNat / 16)) :: UInt8.ofNat (setAt by16B (c.toNat % 16)) :: ((nib l).map (setAt by16B)).map UInt8.ofNat = hexd (c.toNat / 16) :: hexd (c.toNat % 16) :: hex l
    rw [by16_set _ (by omega), by16_set _ (by omega), nib_hex l]

set_option maxHeartbeats 1000000 in
theorem hex_any (s : ByteArray) (w : World) (hs : s.size ≤ 549755813888) :
    Calls Tryd.prog 13 #[.string s] w fun e w2 => e = .returned (.string ⟨(hex s.data.toList).toArray⟩) ∧ Below w.heap.size w w2 := by
  obtain ⟨N, hN⟩ : ∃ N, N = 2 * s.size := ⟨_, rfl⟩
  have hmul : IntKind.i64.wrap (2 * (s.size : Int)) = (N : Int) := by rw [IntKind.wrap_i64]; omega
  have hNle : N ≤ 1099511627776 := by omega
  have hres : (((hiAll 8 4 (natsOf s)).map (setAt by16B)).take N).map UInt8.ofNat = hex s.data.toList := by
    rw [natsOf_nb, all84, List.take_of_length_le (by rw [List.length_map, nib_length, hN]; simp), nib_hex]
  have HR := Lib.hid hres
  clear hN hres
  have h16 : ∀ y ∈ hiAll 8 4 (natsOf s), y < by16B.size := by rw [natsOf_nb, all84, by16_size]; exact nib_lt _
  have H16 := Lib.hid h16
  clear h16
  go_enter Tryd.func13, Tryd.ntmps13
  go_wp2_with (first
    | (go_at_call 24; refine (forward_mk s w (by omega)).mono ?_; rintro e w1 ⟨⟨v1, rfl, h1⟩, b1⟩)
    | (go_at_call 22; refine (highest_mk 8 4 (by decide) (by decide) (by decide) (by decide) v1 _ w1 h1).mono ?_; rintro e w2 ⟨⟨v2, rfl, h2⟩, b2⟩)
    | (go_at_call 32; refine (letters_mk by16B v2 _ w2 h2 H16.out).mono ?_; rintro e w3 ⟨⟨v3, rfl, h3⟩, b3⟩)
    | (go_at_call 21; refine (first_res N v3 _ w3 h3 hNle _ HR.out).mono ?_; rintro e w4 ⟨rfl, b4⟩))
  go_ret
  exact ⟨rfl, below_then (below_then (below_then b1 b2) b3) b4⟩

theorem only_any (s : ByteArray) (so : Bool) (w : World) :
    Calls Tryd.prog 25 #[.string s, .bool so] w fun e w2 => e = .returned (.tuple #[.string (if so then s else ⟨#[]⟩), .bool so]) ∧ w2 = w := by
  cases so
  · go_enter Tryd.func25, Tryd.ntmps25
    go_wp2
    go_ret2
    exact ⟨rfl, rfl⟩
  · go_enter Tryd.func25, Tryd.ntmps25
    go_wp2
    go_ret2
    exact ⟨rfl, rfl⟩

theorem numAt16 : ∀ d, d < 16 → numAt by16B (hexd d).toNat = d := by decide +kernel
theorem by16_all : ∀ c, (Lib.indexByte by16B.data.toList c).toNat < 256 := by
  have h : ∀ n, n < 256 → (Lib.indexByte by16B.data.toList (UInt8.ofNat n)).toNat < 256 := by decide +kernel
  intro c
  have := h c.toNat c.toNat_lt
  simpa using this
theorem unhex_nums : ∀ l : List UInt8, (nb (hex l)).map (numAt by16B) = nib l
  | [] => rfl
  | c :: l => by
    have hc := c.toNat_lt
    show numAt by16B (hexd (c.toNat / 16)).toNat :: numAt by16B (hexd (c.toNat % 16)).toNat :: (nb (hex l)).map (numAt by16B) = c.toNat / 16 :: c.toNat % 16 :: nib l
    rw [numAt16 _ (by omega), numAt16 _ (by omega), unhex_nums l]
/-- What is read of letters, whether or not they say anything. -/
def rd16 (s : List UInt8) : List UInt8 := ((hiAll 4 8 ((nb s).map (numAt by16B))).take (s.length / 2)).map UInt8.ofNat
theorem map_ofNat_nb : ∀ l : List UInt8, (nb l).map UInt8.ofNat = l
  | [] => rfl
  | c :: l => by
    show UInt8.ofNat c.toNat :: (nb l).map UInt8.ofNat = c :: l
    rw [map_ofNat_nb l]; simp
theorem rd16_hex (b : List UInt8) : rd16 (hex b) = b := by
  unfold rd16
  rw [unhex_nums, all48, List.take_of_length_le (by rw [hex_length]; simp [nb]), map_ofNat_nb]
theorem rd16_length (s : List UInt8) : (rd16 s).length ≤ s.length := by
  unfold rd16
  rw [List.length_map, List.length_take]
  omega
theorem toList_data (s : ByteArray) : s.toList = s.data.toList := ByteArray.toList_eq s
/-- What two results are, where an option is told. -/
def told (o : Option (List UInt8)) : Value := match o with
  | some l => .tuple #[.string ⟨l.toArray⟩, .bool true]
  | none => .tuple #[.string ⟨#[]⟩, .bool false]
theorem ba_eq (l m : List UInt8) : ((⟨l.toArray⟩ : ByteArray) = ⟨m.toArray⟩) ↔ l = m := by
  constructor
  · intro h
    have : l.toArray = m.toArray := by injection h
    simpa using this
  · rintro rfl; rfl

set_option maxHeartbeats 1000000 in
theorem getHex_any (s : ByteArray) (w : World) (hs : s.size ≤ 549755813888) :
    Calls Tryd.prog 7 #[.string s] w fun e w2 => e = .returned (told (getHex s.data.toList)) ∧ Below w.heap.size w w2 := by
  obtain ⟨N, hN⟩ : ∃ N, N = s.size / 2 := ⟨_, rfl⟩
  have hquo : (s.size : Int) / 2 = (N : Int) := by omega
  have hNle : N ≤ 1099511627776 := by omega
  obtain ⟨X, hX⟩ : ∃ X, X = rd16 s.data.toList := ⟨_, rfl⟩
  have hlen : s.data.toList.length = s.size := by simp
  have hres : ((hiAll 4 8 ((natsOf s).map (numAt by16B))).take N).map UInt8.ofNat = X := by rw [hX, rd16, hlen, ← hN, natsOf_nb]
  have hXl : X.length ≤ s.size := by rw [hX, ← hlen]; exact rd16_length _
  have hget : getHex s.data.toList = if hex X = s.data.toList then some X else none := getHex_of s.data.toList X (fun b hb => by rw [hX, ← hb, rd16_hex])
  have HR := Lib.hid hres
  have HG := Lib.hid hget
  have HX := hex_any ⟨X.toArray⟩
  clear hN hres hX hget
  by_cases hc : hex X = s.data.toList
  · have hso : (hex X == s.toList) = true := by rw [toList_data, hc]; simp
    have hT := only_any ⟨X.toArray⟩ true
    have HF : Hid (getHex s.data.toList = some X) := by unfold Hid; rw [HG.out, if_pos hc]
    clear hc
    go_enter Tryd.func7, Tryd.ntmps7
    go_wp2_with (first
      | (go_at_call 24; refine (forward_mk s w (by omega)).mono ?_; rintro e w1 ⟨⟨v1, rfl, h1⟩, b1⟩)
      | (go_at_call 23; refine (numbers_mk by16B v1 _ w1 h1 by16_all).mono ?_; rintro e w2 ⟨⟨v2, rfl, h2⟩, b2⟩)
      | (go_at_call 22; refine (highest_mk 4 8 (by decide) (by decide) (by decide) (by decide) v2 _ w2 h2).mono ?_; rintro e w3 ⟨⟨v3, rfl, h3⟩, b3⟩)
      | (go_at_call 21; refine (first_res N v3 _ w3 h3 hNle _ HR.out).mono ?_; rintro e w4 ⟨rfl, b4⟩)
      | (go_at_call 13; refine (HX w4 (by show X.toArray.size ≤ _; simp; omega)).mono ?_; rintro e w5 ⟨rfl, b5⟩)
      | (go_at_call 25; refine (hT w5).mono ?_; rintro e w6 ⟨rfl, rfl⟩))
    go_ret2
    exact ⟨by rw [HF.out]; rfl, below_then (below_then (below_then (below_then b1 b2) b3) b4) b5⟩
  · have hso : (hex X == s.toList) = false := by rw [toList_data]; simpa using hc
    have hT := only_any ⟨X.toArray⟩ false
    have HF : Hid (getHex s.data.toList = none) := by unfold Hid; rw [HG.out, if_neg hc]
    clear hc
    go_enter Tryd.func7, Tryd.ntmps7
    go_wp2_with (first
      | (go_at_call 24; refine (forward_mk s w (by omega)).mono ?_; rintro e w1 ⟨⟨v1, rfl, h1⟩, b1⟩)
      | (go_at_call 23; refine (numbers_mk by16B v1 _ w1 h1 by16_all).mono ?_; rintro e w2 ⟨⟨v2, rfl, h2⟩, b2⟩)
      | (go_at_call 22; refine (highest_mk 4 8 (by decide) (by decide) (by decide) (by decide) v2 _ w2 h2).mono ?_; rintro e w3 ⟨⟨v3, rfl, h3⟩, b3⟩)
      | (go_at_call 21; refine (first_res N v3 _ w3 h3 hNle _ HR.out).mono ?_; rintro e w4 ⟨rfl, b4⟩)
      | (go_at_call 13; refine (HX w4 (by show X.toArray.size ≤ _; simp; omega)).mono ?_; rintro e w5 ⟨rfl, b5⟩)
      | (go_at_call 25; refine (hT w5).mono ?_; rintro e w6 ⟨rfl, rfl⟩))
    go_ret2
    exact ⟨by rw [HF.out]; rfl, below_then (below_then (below_then (below_then b1 b2) b3) b4) b5⟩
end Go.Proofs.YtkkdcecnegdipaaDoor
