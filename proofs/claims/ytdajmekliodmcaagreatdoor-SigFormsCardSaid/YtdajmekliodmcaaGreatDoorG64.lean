/- Package codec's GetBase64: it tells the bytes whose letters they are, or that there are none. Its condition: a length that fits. -/
import Derived.Test.YtdajmekliodmcaaGreatDoorB64
import Derived.Test.YtdajmekliodmcaaGreatDoorShelf
import Derived.Lib.TrimByte
namespace Go.Proofs.YtdajmekliodmcaaGreatDoor
open Go.RowKit Go.Shelf
set_option linter.unusedVariables false

theorem six_ne : ∀ d, d < 64 → six d ≠ 61 := by decide +kernel
theorem numAt64 : ∀ d, d < 64 → numAt by64B (six d).toNat = d := by decide +kernel
theorem by64_all : ∀ c, (Lib.indexByte by64B.data.toList c).toNat < 256 := by
  have h : ∀ n, n < 256 → (Lib.indexByte by64B.data.toList (UInt8.ofNat n)).toNat < 256 := by decide +kernel
  intro c
  have := h c.toNat c.toNat_lt
  simpa using this
theorem trim_split (ds : List Nat) (h : ∀ x ∈ ds, x < 64) (m : Nat) : Lib.trimRightB (ds.map six ++ List.replicate m 61) 61 = ds.map six := by
  rw [Lib.trimRightB_take _ _ ds.length (by simp) ?_ ?_, List.take_left' (by simp)]
  · intro j b hj hb
    rw [List.getElem?_append_right (by simpa using hj)] at hb
    exact List.eq_of_mem_replicate (List.mem_of_getElem? hb)
  · intro b hk hb
    rw [List.getElem?_append_left (by simp; omega)] at hb
    obtain ⟨d, hd, rfl⟩ := List.mem_map.1 (List.mem_of_getElem? hb)
    exact six_ne d (h d hd)
theorem nums64 : ∀ ds : List Nat, (∀ x ∈ ds, x < 64) → (nb (ds.map six)).map (numAt by64B) = ds
  | [], _ => rfl
  | d :: ds, h => by
    show numAt by64B (six d).toNat :: (nb (ds.map six)).map (numAt by64B) = d :: ds
    rw [numAt64 d (h d (by simp)), nums64 ds (fun x hx => h x (by simp [hx]))]
/-- What is read of letters, whether or not they say anything. -/
def rd64 (s : List UInt8) : List UInt8 := ((hiAll 6 8 ((nb (Lib.trimRightB s 61)).map (numAt by64B))).take (6 * (Lib.trimRightB s 61).length / 8)).map UInt8.ofNat
theorem rd64_b64 (b : List UInt8) : rd64 (b64 b) = b := by
  unfold rd64
  rw [b64_split, trim_split _ (sx_lt b), nums64 _ (sx_lt b), List.length_map, (all68 b).2, (all68 b).1, map_ofNat_nb]
theorem trim_le (s : List UInt8) (c : UInt8) : (Lib.trimRightB s c).length ≤ s.length := by
  unfold Lib.trimRightB
  rw [List.length_reverse]
  have := (List.dropWhile_sublist (p := (· == c)) (l := s.reverse)).length_le
  simpa using this
theorem rd64_length (s : List UInt8) : (rd64 s).length ≤ s.length := by
  have := trim_le s 61
  unfold rd64
  rw [List.length_map, List.length_take]
  omega

set_option maxHeartbeats 1000000 in
theorem getBase64_any (s : ByteArray) (w : World) (hs : s.size ≤ 549755813888) :
    Calls Tryz.prog 56 #[.string s] w fun e w2 => e = .returned (told (get64 s.data.toList)) ∧ Below w.heap.size w w2 := by
  obtain ⟨L, hL⟩ : ∃ L, L = Lib.trimRightB s.data.toList 61 := ⟨_, rfl⟩
  have hlen : s.data.toList.length = s.size := by simp
  have hLl : L.length ≤ s.size := by rw [hL, ← hlen]; exact trim_le _ _
  obtain ⟨T, hT⟩ : ∃ T, T = L.length := ⟨_, rfl⟩
  obtain ⟨M, hM⟩ : ∃ M, M = 6 * T := ⟨_, rfl⟩
  obtain ⟨N, hN⟩ : ∃ N, N = M / 8 := ⟨_, rfl⟩
  have hmul : IntKind.i64.wrap (6 * (L.length : Int)) = (M : Int) := by rw [IntKind.wrap_i64]; omega
  have hquo : (M : Int) / 8 = (N : Int) := by omega
  have hNle : N ≤ 1099511627776 := by omega
  obtain ⟨X, hX⟩ : ∃ X, X = rd64 s.data.toList := ⟨_, rfl⟩
  have hres : ((hiAll 6 8 ((natsOf ⟨L.toArray⟩).map (numAt by64B))).take N).map UInt8.ofNat = X := by rw [hX, rd64, ← hL, ← hT, ← hM, ← hN, natsOf_nb]
  have hXl : X.length ≤ s.size := by rw [hX, ← hlen]; exact rd64_length _
  have hget : get64 s.data.toList = if b64 X = s.data.toList then some X else none := get64_of s.data.toList X (fun b hb => by rw [hX, ← hb, rd64_b64])
  have htr : ∀ w, Calls Tryz.prog 102 #[.string s, .string ⟨#[61]⟩] w fun e w' => e = .returned (.string ⟨L.toArray⟩) ∧ w' = w := fun w => by
    rw [hL]; exact strings_TrimRight_one s 61 (by decide) w (by omega)
  have hLs : (⟨L.toArray⟩ : ByteArray).size ≤ 549755813888 := by show L.toArray.size ≤ _; simp; omega
  have HR := Lib.hid hres
  have HG := Lib.hid hget
  have HX := base64_any ⟨X.toArray⟩
  clear hN hM hT hres hX hget hL
  by_cases hc : b64 X = s.data.toList
  · have hso : (b64 X == s.toList) = true := by rw [toList_data, hc]; simp
    have hT := only_any ⟨X.toArray⟩ true
    have HF : Hid (get64 s.data.toList = some X) := by unfold Hid; rw [HG.out, if_pos hc]
    clear hc
    go_enter Tryz.func56, Tryz.ntmps56
    go_wp2_with (first
      | (go_at_call 102; refine (htr w).mono ?_; rintro e w0 ⟨rfl, rfl⟩)
      | (go_at_call 106; refine (forward_mk ⟨L.toArray⟩ _ (by omega)).mono ?_; rintro e w1 ⟨⟨v1, rfl, h1⟩, b1⟩)
      | (go_at_call 105; refine (numbers_mk by64B v1 _ w1 h1 by64_all).mono ?_; rintro e w2 ⟨⟨v2, rfl, h2⟩, b2⟩)
      | (go_at_call 104; refine (highest_mk 6 8 (by decide) (by decide) (by decide) (by decide) v2 _ w2 h2).mono ?_; rintro e w3 ⟨⟨v3, rfl, h3⟩, b3⟩)
      | (go_at_call 103; refine (first_res N v3 _ w3 h3 hNle _ HR.out).mono ?_; rintro e w4 ⟨rfl, b4⟩)
      | (go_at_call 60; refine (HX w4 (by show X.toArray.size ≤ _; simp; omega)).mono ?_; rintro e w5 ⟨rfl, b5⟩)
      | (go_at_call 107; refine (hT w5).mono ?_; rintro e w6 ⟨rfl, rfl⟩))
    go_ret2
    exact ⟨by rw [HF.out]; rfl, below_then (below_then (below_then (below_then b1 b2) b3) b4) b5⟩
  · have hso : (b64 X == s.toList) = false := by rw [toList_data]; simpa using hc
    have hT := only_any ⟨X.toArray⟩ false
    have HF : Hid (get64 s.data.toList = none) := by unfold Hid; rw [HG.out, if_neg hc]
    clear hc
    go_enter Tryz.func56, Tryz.ntmps56
    go_wp2_with (first
      | (go_at_call 102; refine (htr w).mono ?_; rintro e w0 ⟨rfl, rfl⟩)
      | (go_at_call 106; refine (forward_mk ⟨L.toArray⟩ _ (by omega)).mono ?_; rintro e w1 ⟨⟨v1, rfl, h1⟩, b1⟩)
      | (go_at_call 105; refine (numbers_mk by64B v1 _ w1 h1 by64_all).mono ?_; rintro e w2 ⟨⟨v2, rfl, h2⟩, b2⟩)
      | (go_at_call 104; refine (highest_mk 6 8 (by decide) (by decide) (by decide) (by decide) v2 _ w2 h2).mono ?_; rintro e w3 ⟨⟨v3, rfl, h3⟩, b3⟩)
      | (go_at_call 103; refine (first_res N v3 _ w3 h3 hNle _ HR.out).mono ?_; rintro e w4 ⟨rfl, b4⟩)
      | (go_at_call 60; refine (HX w4 (by show X.toArray.size ≤ _; simp; omega)).mono ?_; rintro e w5 ⟨rfl, b5⟩)
      | (go_at_call 107; refine (hT w5).mono ?_; rintro e w6 ⟨rfl, rfl⟩))
    go_ret2
    exact ⟨by rw [HF.out]; rfl, below_then (below_then (below_then (below_then b1 b2) b3) b4) b5⟩
end Go.Proofs.YtdajmekliodmcaaGreatDoor
