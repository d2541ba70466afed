/- Package codec's Base32 and GetBase32: they tell the arithmetic's letters, and bytes. Their condition: a length that fits. -/
import Derived.Test.YtkkdcecnegdipaaDoorHexA
namespace Go.Proofs.YtkkdcecnegdipaaDoor
open Go.RowKit Go.Shelf
set_option linter.unusedVariables false

def by32B : ByteArray := ⟨#[48, 49, 50, 51, 52, 53, 54, 55, 56, 57, 97, 98, 99, 100, 102, 103, 104, 105, 106, 107, 108, 109, 110, 112, 113, 114, 115, 118, 119, 120, 121, 122]⟩
theorem by32_set : ∀ y, y < 32 → UInt8.ofNat (setAt by32B y) = lett y := by decide +kernel
theorem by32_size : by32B.size = 32 := by decide +kernel
theorem numAt32 : ∀ d, d < 32 → numAt by32B (lett d).toNat = d := by decide +kernel
theorem by32_all0 : ∀ n, n < 256 → (Lib.indexByte by32B.data.toList (UInt8.ofNat n)).toNat < 32 := by decide +kernel
theorem by32_all32 (c : UInt8) : (Lib.indexByte by32B.data.toList c).toNat < 32 := by
  have := by32_all0 c.toNat c.toNat_lt
  simpa using this
theorem by32_all (c : UInt8) : (Lib.indexByte by32B.data.toList c).toNat < 256 := by have := by32_all32 c; omega
theorem nb_lt (l : List UInt8) : ∀ x ∈ nb l, x < 2 ^ 8 := by
  intro x hx
  obtain ⟨c, -, rfl⟩ := List.mem_map.1 hx
  exact c.toNat_lt
theorem nb_length (l : List UInt8) : (nb l).length = l.length := by simp [nb]
theorem lo85 (l : List UInt8) : dv 5 (loAll 8 5 (nb l)) = num l ∧ (loAll 8 5 (nb l)).length = many32 l.length ∧ ∀ x ∈ loAll 8 5 (nb l), x < 32 := by
  obtain ⟨h1, h2, h3⟩ := lo_all 8 5 (by decide) (by decide) (by decide) (nb l) (nb_lt l)
  rw [nb_length] at h2
  exact ⟨h1.trans (dv_num l), h2, h3⟩
theorem map_letters (ds : List Nat) (h : ∀ x ∈ ds, x < 32) : (ds.map (setAt by32B)).map UInt8.ofNat = ds.map lett := by
  rw [List.map_map]
  apply List.map_congr_left
  intro x hx
  exact by32_set x (h x hx)
/-- The letters, those of the first byte first. -/
def lets (l : List UInt8) : List UInt8 := (loAll 8 5 (nb l)).map lett
theorem lets_length (l : List UInt8) : (lets l).length = many32 l.length := by unfold lets; rw [List.length_map, (lo85 l).2.1]
theorem lets_rev (l : List UInt8) : (lets l).reverse = b32 l := by
  unfold lets b32
  rw [dv_enc _ (lo85 l).2.2, (lo85 l).1, (lo85 l).2.1]
/-- What n bytes are read of letters, whether or not they say anything. -/
def rd32 (s : List UInt8) (n : Nat) : List UInt8 := ((loAll 5 8 ((nb s).reverse.map (numAt by32B))).take n).map UInt8.ofNat
theorem rd32_b32 (b : List UInt8) : rd32 (b32 b) b.length = b := by
  have e1 : (nb (b32 b)).reverse = nb (lets b) := by rw [← lets_rev]; simp [nb]
  have e2 : (nb (lets b)).map (numAt by32B) = loAll 8 5 (nb b) := by
    unfold lets nb
    rw [List.map_map, List.map_map]
    have : ∀ ds : List Nat, (∀ x ∈ ds, x < 32) → ds.map (numAt by32B ∘ UInt8.toNat ∘ lett) = ds := by
      intro ds
      induction ds with
      | nil => intro _; rfl
      | cons d ds ih =>
        intro h
        show numAt by32B (lett d).toNat :: _ = _
        rw [numAt32 d (h d (by simp)), ih (fun x hx => h x (by simp [hx]))]
    exact this _ (lo85 b).2.2
  unfold rd32
  rw [e1, e2]
  obtain ⟨h1, h2, h3⟩ := lo_all 5 8 (by decide) (by decide) (by decide) (loAll 8 5 (nb b)) (lo85 b).2.2
  rw [dv_bytes b.length _ h3 (by rw [h2, (lo85 b).2.1]; unfold many32; omega), h1, (lo85 b).1, bytesOf_num]

set_option maxHeartbeats 1000000 in
theorem base32_any (s : ByteArray) (w : World) (hs : s.size ≤ 549755813888) :
    Calls Tryd.prog 15 #[.string s] w fun e w2 => e = .returned (.string ⟨(b32 s.data.toList).toArray⟩) ∧ Below w.heap.size w w2 := by
  obtain ⟨A, hA⟩ : ∃ A, A = 8 * s.size := ⟨_, rfl⟩
  obtain ⟨C, hC⟩ : ∃ C, C = A + 4 := ⟨_, rfl⟩
  obtain ⟨N, hN⟩ : ∃ N, N = C / 5 := ⟨_, rfl⟩
  have h8 : IntKind.i64.wrap (8 * (s.size : Int)) = (A : Int) := by rw [IntKind.wrap_i64]; omega
  have h4 : IntKind.i64.wrap ((A : Int) + 4) = (C : Int) := by rw [IntKind.wrap_i64]; omega
  have h5 : (C : Int) / 5 = (N : Int) := by omega
  have hNle : N ≤ 1099511627776 := by omega
  have hNm : many32 s.data.toList.length = N := by rw [hN, hC, hA]; unfold many32; simp
  have hres : (((loAll 8 5 (natsOf s)).map (setAt by32B)).take N).map UInt8.ofNat = lets s.data.toList := by
    rw [natsOf_nb, List.take_of_length_le (by rw [List.length_map, (lo85 _).2.1, hNm]; exact Nat.le_refl _), map_letters _ (lo85 _).2.2]; rfl
  have h32 : ∀ y ∈ loAll 8 5 (natsOf s), y < by32B.size := by rw [natsOf_nb, by32_size]; exact (lo85 _).2.2
  obtain ⟨L, hL⟩ : ∃ L, L = lets s.data.toList := ⟨_, rfl⟩
  rw [← hL] at hres
  have hLl : L.length = N := by rw [hL, lets_length, hNm]
  have hres2 : (((natsOf ⟨L.toArray⟩).reverse).take N).map UInt8.ofNat = b32 s.data.toList := by
    have e : natsOf ⟨L.toArray⟩ = nb L := by simp [natsOf, nb]
    rw [e, List.take_of_length_le (by rw [List.length_reverse, nb_length, hLl]; exact Nat.le_refl _), ← lets_rev, ← hL, List.map_reverse, map_ofNat_nb]
  have hLs : (⟨L.toArray⟩ : ByteArray).size ≤ 9223372036854775807 := by show L.toArray.size ≤ _; simp; omega
  have HR := Lib.hid hres
  have HR2 := Lib.hid hres2
  have H32 := Lib.hid h32
  have HLS := Lib.hid hLs
  clear hA hC hN hNm hres hres2 h32 hL hLl hLs
  go_enter Tryd.func15, Tryd.ntmps15
  go_wp2_with (first
    | (go_at_call 24; refine (forward_mk s w (by omega)).mono ?_; rintro e w1 ⟨⟨v1, rfl, h1⟩, b1⟩)
    | (go_at_call 26; refine (lowest_mk 8 5 (by decide) (by decide) (by decide) (by decide) v1 _ w1 h1).mono ?_; rintro e w2 ⟨⟨v2, rfl, h2⟩, b2⟩)
    | (go_at_call 32; refine (letters_mk by32B v2 _ w2 h2 H32.out).mono ?_; rintro e w3 ⟨⟨v3, rfl, h3⟩, b3⟩)
    | (go_at_call 21; refine (first_res N v3 _ w3 h3 hNle _ HR.out).mono ?_; clear h3; rintro e w4 ⟨rfl, b4⟩)
    | (go_at_call 27; refine (backward_mk ⟨L.toArray⟩ w4 HLS.out).mono ?_; rintro e w5 ⟨⟨v5, rfl, h6⟩, b5⟩)
    | (go_at_call 21; refine (first_res N v5 _ w5 h6 hNle _ HR2.out).mono ?_; rintro e w6 ⟨rfl, b6⟩))
  go_ret
  exact ⟨rfl, below_then (below_then (below_then (below_then (below_then b1 b2) b3) b4) b5) b6⟩
end Go.Proofs.YtkkdcecnegdipaaDoor
