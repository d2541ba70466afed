/- Several texts, one behind the other; each says by itself what it proves, and on what conditions. -/
import Derived.Test.YtdbbcngolcnniaaGreatDoorY13
import Derived.Test.YtdbbcngolcnniaaGreatDoorProg
/- Package codec's Base32 and GetBase32: they tell the arithmetic's letters, and bytes. Their condition: a length that fits. -/
namespace Go.Proofs.YtdbbcngolcnniaaGreatDoor
set_option linter.unusedSimpArgs false
open Go.RowKit Go.Shelf
set_option linter.unusedVariables false
def by32B : ByteArray := ⟨#[48, 49, 50, 51, 52, 53, 54, 55, 56, 57, 97, 98, 99, 100, 102, 103, 104, 105, 106, 107, 108, 109, 110, 112, 113, 114, 115, 118, 119, 120, 121, 122]⟩
theorem by32_set : ∀ y, y < 32 → UInt8.ofNat (setAt by32B y) = lett y := by decide +kernel
theorem by32_size : by32B.size = 32 := by decide +kernel
theorem numAt32 : ∀ d, d < 32 → numAt by32B (lett d).toNat = d := by decide +kernel
theorem by32_all0 : ∀ n, n < 256 → (Lib.indexByte by32B.data.toList (UInt8.ofNat n)).toNat < 32 := by decide +kernel
theorem by32_all32 (c : UInt8) : (Lib.indexByte by32B.data.toList c).toNat < 32 := by
 have := by32_all0 c.toNat c.toNat_lt
 simpa using this
theorem by32_all (c : UInt8) : (Lib.indexByte by32B.data.toList c).toNat < 256 := by have := by32_all32 c; omega
theorem nb_lt (l : List UInt8) : ∀ x ∈ nb l, x < 2 ^ 8 := by
 intro x hx
 obtain ⟨c, -, rfl⟩ := List.mem_map.1 hx
 exact c.toNat_lt
theorem nb_length (l : List UInt8) : (nb l).length = l.length := by simp [nb]
theorem lo85 (l : List UInt8) : dv 5 (loAll 8 5 (nb l)) = num l ∧ (loAll 8 5 (nb l)).length = many32 l.length ∧ ∀ x ∈ loAll 8 5 (nb l), x < 32 := by
 obtain ⟨h1, h2, h3⟩ := lo_all 8 5 (by decide) (by decide) (by decide) (nb l) (nb_lt l)
 rw [nb_length] at h2
 exact ⟨h1.trans (dv_num l), h2, h3⟩
theorem map_letters (ds : List Nat) (h : ∀ x ∈ ds, x < 32) : (ds.map (setAt by32B)).map UInt8.ofNat = ds.map lett := by
 rw [List.map_map]
 apply List.map_congr_left
 intro x hx
 exact by32_set x (h x hx)
def lets (l : List UInt8) : List UInt8 := (loAll 8 5 (nb l)).map lett
theorem lets_length (l : List UInt8) : (lets l).length = many32 l.length := by unfold lets; rw [List.length_map, (lo85 l).2.1]
theorem lets_rev (l : List UInt8) : (lets l).reverse = b32 l := by
 unfold lets b32
 rw [dv_enc _ (lo85 l).2.2, (lo85 l).1, (lo85 l).2.1]
def rd32 (s : List UInt8) (n : Nat) : List UInt8 := ((loAll 5 8 ((nb s).reverse.map (numAt by32B))).take n).map UInt8.ofNat
theorem rd32_b32 (b : List UInt8) : rd32 (b32 b) b.length = b := by
 have e1 : (nb (b32 b)).reverse = nb (lets b) := by rw [← lets_rev]; simp [nb]
 have e2 : (nb (lets b)).map (numAt by32B) = loAll 8 5 (nb b) := by
  unfold lets nb
  rw [List.map_map, List.map_map]
  have : ∀ ds : List Nat, (∀ x ∈ ds, x < 32) → ds.map (numAt by32B ∘ UInt8.toNat ∘ lett) = ds := by
   intro ds
   induction ds with
   | nil => intro _; rfl
   | cons d ds ih =>
    intro h
    show numAt by32B (lett d).toNat :: _ = _
    rw [numAt32 d (h d (by simp)), ih (fun x hx => h x (by simp [hx]))]
  exact this _ (lo85 b).2.2
 unfold rd32
 rw [e1, e2]
 obtain ⟨h1, h2, h3⟩ := lo_all 5 8 (by decide) (by decide) (by decide) (loAll 8 5 (nb b)) (lo85 b).2.2
 rw [dv_bytes b.length _ h3 (by rw [h2, (lo85 b).2.1]; unfold many32; omega), h1, (lo85 b).1, bytesOf_num]
set_option maxHeartbeats 1000000 in
theorem base32_any (s : ByteArray) (w : World) (hs : s.size ≤ 549755813888) :
  Calls Tryz.prog 33 #[.string s] w fun e w2 => e = .returned (.string ⟨(b32 s.data.toList).toArray⟩) ∧ Below w.heap.size w w2 := by
 obtain ⟨A, hA⟩ : ∃ A, A = 8 * s.size := ⟨_, rfl⟩
 obtain ⟨C, hC⟩ : ∃ C, C = A + 4 := ⟨_, rfl⟩
 obtain ⟨N, hN⟩ : ∃ N, N = C / 5 := ⟨_, rfl⟩
 have h8 : IntKind.i64.wrap (8 * (s.size : Int)) = (A : Int) := by rw [IntKind.wrap_i64]; omega
 have h4 : IntKind.i64.wrap ((A : Int) + 4) = (C : Int) := by rw [IntKind.wrap_i64]; omega
 have h5 : (C : Int) / 5 = (N : Int) := by omega
 have hNle : N ≤ 1099511627776 := by omega
 have hNm : many32 s.data.toList.length = N := by rw [hN, hC, hA]; unfold many32; simp
 have hres : (((loAll 8 5 (natsOf s)).map (setAt by32B)).take N).map UInt8.ofNat = lets s.data.toList := by
  rw [natsOf_nb, List.take_of_length_le (by rw [List.length_map, (lo85 _).2.1, hNm]; exact Nat.le_refl _), map_letters _ (lo85 _).2.2]; rfl
 have h32 : ∀ y ∈ loAll 8 5 (natsOf s), y < by32B.size := by rw [natsOf_nb, by32_size]; exact (lo85 _).2.2
 obtain ⟨L, hL⟩ : ∃ L, L = lets s.data.toList := ⟨_, rfl⟩
 rw [← hL] at hres
 have hLl : L.length = N := by rw [hL, lets_length, hNm]
 have hres2 : (((natsOf ⟨L.toArray⟩).reverse).take N).map UInt8.ofNat = b32 s.data.toList := by
  have e : natsOf ⟨L.toArray⟩ = nb L := by simp [natsOf, nb]
  rw [e, List.take_of_length_le (by rw [List.length_reverse, nb_length, hLl]; exact Nat.le_refl _), ← lets_rev, ← hL, List.map_reverse, map_ofNat_nb]
 have hLs : (⟨L.toArray⟩ : ByteArray).size ≤ 9223372036854775807 := by show L.toArray.size ≤ _; simp; omega
 have HR := Lib.hid hres
 have HR2 := Lib.hid hres2
 have H32 := Lib.hid h32
 have HLS := Lib.hid hLs
 clear hA hC hN hNm hres hres2 h32 hL hLl hLs
 go_enter Tryz.func33, Tryz.ntmps33
 go_wp2_with (first
  | (go_at_call 61; refine (forward_mk s w (by omega)).mono ?_; rintro e w1 ⟨⟨v1, rfl, h1⟩, b1⟩)
  | (go_at_call 62; refine (lowest_mk 8 5 (by decide) (by decide) (by decide) (by decide) v1 _ w1 h1).mono ?_; rintro e w2 ⟨⟨v2, rfl, h2⟩, b2⟩)
  | (go_at_call 59; refine (letters_mk by32B v2 _ w2 h2 H32.out).mono ?_; rintro e w3 ⟨⟨v3, rfl, h3⟩, b3⟩)
  | (go_at_call 58; refine (first_res N v3 _ w3 h3 hNle _ HR.out).mono ?_; clear h3; rintro e w4 ⟨rfl, b4⟩)
  | (go_at_call 63; refine (backward_mk ⟨L.toArray⟩ w4 HLS.out).mono ?_; rintro e w5 ⟨⟨v5, rfl, h6⟩, b5⟩)
  | (go_at_call 58; refine (first_res N v5 _ w5 h6 hNle _ HR2.out).mono ?_; rintro e w6 ⟨rfl, b6⟩))
 go_ret
 exact ⟨rfl, below_then (below_then (below_then (below_then (below_then b1 b2) b3) b4) b5) b6⟩
end Go.Proofs.YtdbbcngolcnniaaGreatDoor
/- Package codec's GetBase32: it tells the arithmetic's bytes, or that there are none. Its condition: a length that fits. -/
namespace Go.Proofs.YtdbbcngolcnniaaGreatDoor
set_option linter.unusedSimpArgs false
open Go.RowKit Go.Shelf
set_option linter.unusedVariables false
def get32I (s : List UInt8) (n : Int) : Option (List UInt8) := if 0 ≤ n then get32 s n.toNat else none
theorem get32I_out (s : List UInt8) (n : Int) (h : n < 0 ∨ 64 < n) : get32I s n = none := by
 unfold get32I
 by_cases h0 : 0 ≤ n
 ·rw [if_pos h0]
  unfold get32
  rw [if_neg]
  rintro ⟨h1, -⟩
  omega
 ·rw [if_neg h0]
theorem rd32_le (s : List UInt8) (n : Nat) : (rd32 s n).length ≤ n := by
 unfold rd32
 rw [List.length_map, List.length_take]
 omega
set_option maxHeartbeats 1000000 in
theorem getBase32_in (s : ByteArray) (m : Nat) (hm : m ≤ 64) (w : World) (hs : s.size ≤ 549755813888) :
  Calls Tryz.prog 35 #[.string s, .int .i64 (m : Int)] w fun e w2 => e = .returned (told (get32 s.data.toList m)) ∧ Below w.heap.size w w2 := by
 obtain ⟨X, hX⟩ : ∃ X, X = rd32 s.data.toList m := ⟨_, rfl⟩
 have hres : ((loAll 5 8 ((natsOf s).reverse.map (numAt by32B))).take m).map UInt8.ofNat = X := by rw [hX, rd32, natsOf_nb]
 have hXl : X.length ≤ m := by rw [hX]; exact rd32_le _ _
 have hof : ∀ b : List UInt8, b.length = m → b32 b = s.data.toList → X = b := fun b hb he => by rw [hX, ← he, ← hb, rd32_b32]
 have HR := Lib.hid hres
 have HX := base32_any ⟨X.toArray⟩
 have hXs : (⟨X.toArray⟩ : ByteArray).size = X.length := by show X.toArray.size = _; simp
 have hXle : (⟨X.toArray⟩ : ByteArray).size ≤ 549755813888 := by omega
 have HXL := Lib.hid hXle
 have hmn : ¬ ((m : Int) < 0) := by omega
 have hm64 : ¬ ((m : Int) > 64) := by omega
 clear hX hres hXle
 by_cases hlen : X.length = m
 ·have hq : ((X.length : Int) = (m : Int)) := by omega
  by_cases hc : b32 X = s.data.toList
  ·have hso : (b32 X == s.toList) = true := by rw [toList_data, hc]; simp
   have hT := only_any ⟨X.toArray⟩ true
   have HF : Hid (get32 s.data.toList m = some X) := (get32_iff _ _ _).2 ⟨hm, hlen, hc⟩
   clear hc hof hlen
   go_enter Tryz.func35, Tryz.ntmps35
   go_wp2_with (first
    | (go_at_call 63; refine (backward_mk s w (by omega)).mono ?_; rintro e w1 ⟨⟨v1, rfl, h1⟩, b1⟩)
    | (go_at_call 64; refine (numbers_mk by32B v1 _ w1 h1 by32_all).mono ?_; rintro e w2 ⟨⟨v2, rfl, h2⟩, b2⟩)
    | (go_at_call 62; refine (lowest_mk 5 8 (by decide) (by decide) (by decide) (by decide) v2 _ w2 h2).mono ?_; rintro e w3 ⟨⟨v3, rfl, h3⟩, b3⟩)
    | (go_at_call 58; refine (first_res m v3 _ w3 h3 (by omega) _ HR.out).mono ?_; rintro e w4 ⟨rfl, b4⟩)
    | (go_at_call 33; refine (HX w4 HXL.out).mono ?_; rintro e w5 ⟨rfl, b5⟩)
    | (go_at_call 65; refine (hT w5).mono ?_; rintro e w6 ⟨rfl, rfl⟩))
   go_ret2
   exact ⟨by rw [HF.out]; rfl, below_then (below_then (below_then (below_then b1 b2) b3) b4) b5⟩
  ·have hso : (b32 X == s.toList) = false := by rw [toList_data]; simpa using hc
   have hT := only_any ⟨X.toArray⟩ false
   have HF : Hid (get32 s.data.toList m = none) := by unfold Hid; rw [get32_of s.data.toList m hm X hlen hof, if_neg hc]
   clear hc hof hlen
   go_enter Tryz.func35, Tryz.ntmps35
   go_wp2_with (first
    | (go_at_call 63; refine (backward_mk s w (by omega)).mono ?_; rintro e w1 ⟨⟨v1, rfl, h1⟩, b1⟩)
    | (go_at_call 64; refine (numbers_mk by32B v1 _ w1 h1 by32_all).mono ?_; rintro e w2 ⟨⟨v2, rfl, h2⟩, b2⟩)
    | (go_at_call 62; refine (lowest_mk 5 8 (by decide) (by decide) (by decide) (by decide) v2 _ w2 h2).mono ?_; rintro e w3 ⟨⟨v3, rfl, h3⟩, b3⟩)
    | (go_at_call 58; refine (first_res m v3 _ w3 h3 (by omega) _ HR.out).mono ?_; rintro e w4 ⟨rfl, b4⟩)
    | (go_at_call 33; refine (HX w4 HXL.out).mono ?_; rintro e w5 ⟨rfl, b5⟩)
    | (go_at_call 65; refine (hT w5).mono ?_; rintro e w6 ⟨rfl, rfl⟩))
   go_ret2
   exact ⟨by rw [HF.out]; rfl, below_then (below_then (below_then (below_then b1 b2) b3) b4) b5⟩
 ·have hq : ¬ ((X.length : Int) = (m : Int)) := by omega
  have hT := only_any ⟨X.toArray⟩ false
  have HF : Hid (get32 s.data.toList m = none) := by
   unfold Hid
   cases hg : get32 s.data.toList m with
   | none => rfl
   | some b =>
    obtain ⟨-, h2, h3⟩ := get32_some hg
    exact absurd (by rw [hof b h2 h3]; exact h2) hlen
  clear hof hlen
  go_enter Tryz.func35, Tryz.ntmps35
  go_wp2_with (first
   | (go_at_call 63; refine (backward_mk s w (by omega)).mono ?_; rintro e w1 ⟨⟨v1, rfl, h1⟩, b1⟩)
   | (go_at_call 64; refine (numbers_mk by32B v1 _ w1 h1 by32_all).mono ?_; rintro e w2 ⟨⟨v2, rfl, h2⟩, b2⟩)
   | (go_at_call 62; refine (lowest_mk 5 8 (by decide) (by decide) (by decide) (by decide) v2 _ w2 h2).mono ?_; rintro e w3 ⟨⟨v3, rfl, h3⟩, b3⟩)
   | (go_at_call 58; refine (first_res m v3 _ w3 h3 (by omega) _ HR.out).mono ?_; rintro e w4 ⟨rfl, b4⟩)
   | (go_at_call 65; refine (hT w4).mono ?_; rintro e w6 ⟨rfl, rfl⟩))
  go_ret2
  exact ⟨by rw [HF.out]; rfl, below_then (below_then (below_then b1 b2) b3) b4⟩
theorem getBase32_any (s : ByteArray) (n : Int) (w : World) (hs : s.size ≤ 549755813888) :
  Calls Tryz.prog 35 #[.string s, .int .i64 n] w fun e w2 => e = .returned (told (get32I s.data.toList n)) ∧ Below w.heap.size w w2 := by
 by_cases hr : 0 ≤ n ∧ n ≤ 64
 ·obtain ⟨m, rfl⟩ : ∃ m : Nat, n = (m : Int) := ⟨n.toNat, by omega⟩
  have h := getBase32_in s m (by omega) w hs
  have e : get32I s.data.toList (m : Int) = get32 s.data.toList m := by unfold get32I; rw [if_pos (by omega)]; simp
  rw [e]
  exact h
 ·have e := Lib.hid (get32I_out s.data.toList n (by omega))
  by_cases h1 : n < 0
  ·clear hr
   go_enter Tryz.func35, Tryz.ntmps35
   go_wp2
   go_ret2
   exact ⟨by rw [e.out]; rfl, Below.refl _ _⟩
  ·have h2 : n > 64 := by omega
   clear hr
   go_enter Tryz.func35, Tryz.ntmps35
   go_wp2
   go_ret2
   exact ⟨by rw [e.out]; rfl, Below.refl _ _⟩
end Go.Proofs.YtdbbcngolcnniaaGreatDoor
/- Letters of names: the program's fits, all, MayName. Its condition: lengths that fit. -/
namespace Go.Proofs.YtdbbcngolcnniaaGreatDoor
open Go Go.RowKit
set_option linter.unusedVariables false
set_option linter.unusedSimpArgs false
section
open E
theorem tv_b {a b : Bool} (h : a = b) : TV.v (.bool a) = TV.v (.bool b) := by rw [h]
theorem w64 {n : Int} (h : inI n) : IntKind.i64.wrap n = n := IntWalk.i64_in n h
def fitN (n : Nat) : Bool := (n == 43 || n == 45 || n == 46 || n == 95 || n == 63 || n == 61) || (decide (97 ≤ n) && decide (n ≤ 122)) || (decide (65 ≤ n) && decide (n ≤ 90)) || (decide (48 ≤ n) && decide (n ≤ 57))
abbrev fitB (c : UInt8) : Bool := fitN c.toNat
theorem ent56 : Enters Tryz.prog 56 := enters_of Tryz.func56 (by kernel_rfl) rfl
theorem ent55 : Enters Tryz.prog 55 := enters_of Tryz.func55 (by kernel_rfl) rfl
theorem ent29 : Enters Tryz.prog 29 := enters_of Tryz.func29 (by kernel_rfl) rfl
theorem fit_eq {n k : Nat} (h : n = k) (hk : fitN k = true) : fitN n = true := by rw [h]; exact hk
set_option maxRecDepth 100000 in
theorem fits_any (n : Nat) (hn : n < 256) (w : World) : Calls Tryz.prog 56 #[.int .u8 (n : Int)] w (BoolQ w (fitN n)) := by
 refine At.calls (args := [.int .u8 (n : Int)]) (rows := []) (gl := []) (wr := []) (ρ := fun _ => (⟨0, 0, 0⟩ : Blk)) Tryz.func56 rfl rfl (init_rw ⟨rfl, trivial⟩ rfl rfl rfl (fun p hp => by cases hp) (fun p hp => by cases hp) (fun p hp => by cases hp)) rfl ?_
 by_cases e0 : n = 43
 ·rw [fit_eq e0 (by decide)]
  exact At.fin rfl [(2003001, .val (.v (.bool true)))] ⟨trivial, trivial⟩ [.d, .d] (x := .v (.bool true)) (ob := [TV.v (.bool ((n : Int) == 43)) = TV.v (.bool true)]) (by kernel_rfl) ⟨tv_b (by simp; omega), trivial⟩ fun ρ' w' hf _ => ⟨rfl, hf.below⟩
 by_cases e1 : n = 45
 ·rw [fit_eq e1 (by decide)]
  exact At.fin rfl [(2003001, .val (.v (.bool false))), (2004001, .val (.v (.bool true)))] ⟨trivial, trivial, trivial⟩ [.d, .d, .d] (x := .v (.bool true)) (ob := [TV.v (.bool ((n : Int) == 43)) = TV.v (.bool false), TV.v (.bool ((n : Int) == 45)) = TV.v (.bool true)]) (by kernel_rfl) ⟨tv_b (by simp; omega), tv_b (by simp; omega), trivial⟩ fun ρ' w' hf _ => ⟨rfl, hf.below⟩
 by_cases e2 : n = 46
 ·rw [fit_eq e2 (by decide)]
  exact At.fin rfl [(2003001, .val (.v (.bool false))), (2004001, .val (.v (.bool false))), (2005001, .val (.v (.bool true)))] ⟨trivial, trivial, trivial, trivial⟩ [.d, .d, .d, .d] (x := .v (.bool true)) (ob := [TV.v (.bool ((n : Int) == 43)) = TV.v (.bool false), TV.v (.bool ((n : Int) == 45)) = TV.v (.bool false), TV.v (.bool ((n : Int) == 46)) = TV.v (.bool true)]) (by kernel_rfl) ⟨tv_b (by simp; omega), tv_b (by simp; omega), tv_b (by simp; omega), trivial⟩ fun ρ' w' hf _ => ⟨rfl, hf.below⟩
 by_cases e3 : n = 95
 ·rw [fit_eq e3 (by decide)]
  exact At.fin rfl [(2003001, .val (.v (.bool false))), (2004001, .val (.v (.bool false))), (2005001, .val (.v (.bool false))), (2006001, .val (.v (.bool true)))] ⟨trivial, trivial, trivial, trivial, trivial⟩ [.d, .d, .d, .d, .d] (x := .v (.bool true)) (ob := [TV.v (.bool ((n : Int) == 43)) = TV.v (.bool false), TV.v (.bool ((n : Int) == 45)) = TV.v (.bool false), TV.v (.bool ((n : Int) == 46)) = TV.v (.bool false), TV.v (.bool ((n : Int) == 95)) = TV.v (.bool true)]) (by kernel_rfl) ⟨tv_b (by simp; omega), tv_b (by simp; omega), tv_b (by simp; omega), tv_b (by simp; omega), trivial⟩ fun ρ' w' hf _ => ⟨rfl, hf.below⟩
 by_cases e4 : n = 63
 ·rw [fit_eq e4 (by decide)]
  exact At.fin rfl [(2003001, .val (.v (.bool false))), (2004001, .val (.v (.bool false))), (2005001, .val (.v (.bool false))), (2006001, .val (.v (.bool false))), (2007001, .val (.v (.bool true)))] ⟨trivial, trivial, trivial, trivial, trivial, trivial⟩ [.d, .d, .d, .d, .d, .d] (x := .v (.bool true)) (ob := [TV.v (.bool ((n : Int) == 43)) = TV.v (.bool false), TV.v (.bool ((n : Int) == 45)) = TV.v (.bool false), TV.v (.bool ((n : Int) == 46)) = TV.v (.bool false), TV.v (.bool ((n : Int) == 95)) = TV.v (.bool false), TV.v (.bool ((n : Int) == 63)) = TV.v (.bool true)]) (by kernel_rfl) ⟨tv_b (by simp; omega), tv_b (by simp; omega), tv_b (by simp; omega), tv_b (by simp; omega), tv_b (by simp; omega), trivial⟩ fun ρ' w' hf _ => ⟨rfl, hf.below⟩
 by_cases e5 : n = 61
 ·rw [fit_eq e5 (by decide)]
  exact At.fin rfl [(2003001, .val (.v (.bool false))), (2004001, .val (.v (.bool false))), (2005001, .val (.v (.bool false))), (2006001, .val (.v (.bool false))), (2007001, .val (.v (.bool false))), (2008001, .val (.v (.bool true)))] ⟨trivial, trivial, trivial, trivial, trivial, trivial, trivial⟩ [.d, .d, .d, .d, .d, .d] (x := .v (.bool true)) (ob := [TV.v (.bool ((n : Int) == 43)) = TV.v (.bool false), TV.v (.bool ((n : Int) == 45)) = TV.v (.bool false), TV.v (.bool ((n : Int) == 46)) = TV.v (.bool false), TV.v (.bool ((n : Int) == 95)) = TV.v (.bool false), TV.v (.bool ((n : Int) == 63)) = TV.v (.bool false), TV.v (.bool ((n : Int) == 61)) = TV.v (.bool true)]) (by kernel_rfl) ⟨tv_b (by simp; omega), tv_b (by simp; omega), tv_b (by simp; omega), tv_b (by simp; omega), tv_b (by simp; omega), tv_b (by simp; omega), trivial⟩ fun ρ' w' hf _ => ⟨rfl, hf.below⟩
 by_cases c0 : 97 ≤ n ∧ n ≤ 122
 ·have hr : fitN n = true := by
   unfold fitN
   simp [*]
   try omega
  rw [hr]
  exact At.fin rfl [(2003001, .val (.v (.bool false))), (2004001, .val (.v (.bool false))), (2005001, .val (.v (.bool false))), (2006001, .val (.v (.bool false))), (2007001, .val (.v (.bool false))), (2008001, .val (.v (.bool false))), (2010001, .val (.v (.bool true))), (2010004, .val (.v (.bool true)))] ⟨trivial, trivial, trivial, trivial, trivial, trivial, trivial, trivial, trivial⟩ [.d, .d, .d, .d, .d, .d] (x := .v (.bool true)) (ob := [TV.v (.bool ((n : Int) == 43)) = TV.v (.bool false), TV.v (.bool ((n : Int) == 45)) = TV.v (.bool false), TV.v (.bool ((n : Int) == 46)) = TV.v (.bool false), TV.v (.bool ((n : Int) == 95)) = TV.v (.bool false), TV.v (.bool ((n : Int) == 63)) = TV.v (.bool false), TV.v (.bool ((n : Int) == 61)) = TV.v (.bool false), TV.v (.bool (decide (97 ≤ (n : Int)))) = TV.v (.bool true), TV.v (.bool (decide ((n : Int) ≤ 122))) = TV.v (.bool true)]) (by kernel_rfl) ⟨tv_b (by simp; omega), tv_b (by simp; omega), tv_b (by simp; omega), tv_b (by simp; omega), tv_b (by simp; omega), tv_b (by simp; omega), tv_b (decide_eq_true (by omega)), tv_b (decide_eq_true (by omega)), trivial⟩ fun ρ' w' hf _ => ⟨rfl, hf.below⟩
 by_cases c1 : 122 < n
 ·have hr : fitN n = false := by
   unfold fitN
   simp [*]
   try omega
  rw [hr]
  exact At.fin rfl [(2003001, .val (.v (.bool false))), (2004001, .val (.v (.bool false))), (2005001, .val (.v (.bool false))), (2006001, .val (.v (.bool false))), (2007001, .val (.v (.bool false))), (2008001, .val (.v (.bool false))), (2010001, .val (.v (.bool true))), (2010004, .val (.v (.bool false))), (2010008, .val (.v (.bool true))), (2010011, .val (.v (.bool false))), (2010016, .val (.v (.bool true))), (2010019, .val (.v (.bool false)))] ⟨trivial, trivial, trivial, trivial, trivial, trivial, trivial, trivial, trivial, trivial, trivial, trivial, trivial⟩ [.d, .d, .d, .d, .d, .d] (x := .v (.bool false)) (ob := [TV.v (.bool ((n : Int) == 43)) = TV.v (.bool false), TV.v (.bool ((n : Int) == 45)) = TV.v (.bool false), TV.v (.bool ((n : Int) == 46)) = TV.v (.bool false), TV.v (.bool ((n : Int) == 95)) = TV.v (.bool false), TV.v (.bool ((n : Int) == 63)) = TV.v (.bool false), TV.v (.bool ((n : Int) == 61)) = TV.v (.bool false), TV.v (.bool (decide (97 ≤ (n : Int)))) = TV.v (.bool true), TV.v (.bool (decide ((n : Int) ≤ 122))) = TV.v (.bool false), TV.v (.bool (decide (65 ≤ (n : Int)))) = TV.v (.bool true), TV.v (.bool (decide ((n : Int) ≤ 90))) = TV.v (.bool false), TV.v (.bool (decide (48 ≤ (n : Int)))) = TV.v (.bool true), TV.v (.bool (decide ((n : Int) ≤ 57))) = TV.v (.bool false)]) (by kernel_rfl) ⟨tv_b (by simp; omega), tv_b (by simp; omega), tv_b (by simp; omega), tv_b (by simp; omega), tv_b (by simp; omega), tv_b (by simp; omega), tv_b (decide_eq_true (by omega)), tv_b (decide_eq_false (by omega)), tv_b (decide_eq_true (by omega)), tv_b (decide_eq_false (by omega)), tv_b (decide_eq_true (by omega)), tv_b (decide_eq_false (by omega)), trivial⟩ fun ρ' w' hf _ => ⟨rfl, hf.below⟩
 by_cases c2 : 65 ≤ n ∧ n ≤ 90
 ·have hr : fitN n = true := by
   unfold fitN
   simp [*]
   try omega
  rw [hr]
  exact At.fin rfl [(2003001, .val (.v (.bool false))), (2004001, .val (.v (.bool false))), (2005001, .val (.v (.bool false))), (2006001, .val (.v (.bool false))), (2007001, .val (.v (.bool false))), (2008001, .val (.v (.bool false))), (2010001, .val (.v (.bool false))), (2010008, .val (.v (.bool true))), (2010011, .val (.v (.bool true)))] ⟨trivial, trivial, trivial, trivial, trivial, trivial, trivial, trivial, trivial, trivial⟩ [.d, .d, .d, .d, .d, .d] (x := .v (.bool true)) (ob := [TV.v (.bool ((n : Int) == 43)) = TV.v (.bool false), TV.v (.bool ((n : Int) == 45)) = TV.v (.bool false), TV.v (.bool ((n : Int) == 46)) = TV.v (.bool false), TV.v (.bool ((n : Int) == 95)) = TV.v (.bool false), TV.v (.bool ((n : Int) == 63)) = TV.v (.bool false), TV.v (.bool ((n : Int) == 61)) = TV.v (.bool false), TV.v (.bool (decide (97 ≤ (n : Int)))) = TV.v (.bool false), TV.v (.bool (decide (65 ≤ (n : Int)))) = TV.v (.bool true), TV.v (.bool (decide ((n : Int) ≤ 90))) = TV.v (.bool true)]) (by kernel_rfl) ⟨tv_b (by simp; omega), tv_b (by simp; omega), tv_b (by simp; omega), tv_b (by simp; omega), tv_b (by simp; omega), tv_b (by simp; omega), tv_b (decide_eq_false (by omega)), tv_b (decide_eq_true (by omega)), tv_b (decide_eq_true (by omega)), trivial⟩ fun ρ' w' hf _ => ⟨rfl, hf.below⟩
 by_cases c3 : 90 < n
 ·have hr : fitN n = false := by
   unfold fitN
   simp [*]
   try omega
  rw [hr]
  exact At.fin rfl [(2003001, .val (.v (.bool false))), (2004001, .val (.v (.bool false))), (2005001, .val (.v (.bool false))), (2006001, .val (.v (.bool false))), (2007001, .val (.v (.bool false))), (2008001, .val (.v (.bool false))), (2010001, .val (.v (.bool false))), (2010008, .val (.v (.bool true))), (2010011, .val (.v (.bool false))), (2010016, .val (.v (.bool true))), (2010019, .val (.v (.bool false)))] ⟨trivial, trivial, trivial, trivial, trivial, trivial, trivial, trivial, trivial, trivial, trivial, trivial⟩ [.d, .d, .d, .d, .d, .d] (x := .v (.bool false)) (ob := [TV.v (.bool ((n : Int) == 43)) = TV.v (.bool false), TV.v (.bool ((n : Int) == 45)) = TV.v (.bool false), TV.v (.bool ((n : Int) == 46)) = TV.v (.bool false), TV.v (.bool ((n : Int) == 95)) = TV.v (.bool false), TV.v (.bool ((n : Int) == 63)) = TV.v (.bool false), TV.v (.bool ((n : Int) == 61)) = TV.v (.bool false), TV.v (.bool (decide (97 ≤ (n : Int)))) = TV.v (.bool false), TV.v (.bool (decide (65 ≤ (n : Int)))) = TV.v (.bool true), TV.v (.bool (decide ((n : Int) ≤ 90))) = TV.v (.bool false), TV.v (.bool (decide (48 ≤ (n : Int)))) = TV.v (.bool true), TV.v (.bool (decide ((n : Int) ≤ 57))) = TV.v (.bool false)]) (by kernel_rfl) ⟨tv_b (by simp; omega), tv_b (by simp; omega), tv_b (by simp; omega), tv_b (by simp; omega), tv_b (by simp; omega), tv_b (by simp; omega), tv_b (decide_eq_false (by omega)), tv_b (decide_eq_true (by omega)), tv_b (decide_eq_false (by omega)), tv_b (decide_eq_true (by omega)), tv_b (decide_eq_false (by omega)), trivial⟩ fun ρ' w' hf _ => ⟨rfl, hf.below⟩
 by_cases c4 : 48 ≤ n ∧ n ≤ 57
 ·have hr : fitN n = true := by
   unfold fitN
   simp [*]
   try omega
  rw [hr]
  exact At.fin rfl [(2003001, .val (.v (.bool false))), (2004001, .val (.v (.bool false))), (2005001, .val (.v (.bool false))), (2006001, .val (.v (.bool false))), (2007001, .val (.v (.bool false))), (2008001, .val (.v (.bool false))), (2010001, .val (.v (.bool false))), (2010008, .val (.v (.bool false))), (2010016, .val (.v (.bool true))), (2010019, .val (.v (.bool true)))] ⟨trivial, trivial, trivial, trivial, trivial, trivial, trivial, trivial, trivial, trivial, trivial⟩ [.d, .d, .d, .d, .d, .d] (x := .v (.bool true)) (ob := [TV.v (.bool ((n : Int) == 43)) = TV.v (.bool false), TV.v (.bool ((n : Int) == 45)) = TV.v (.bool false), TV.v (.bool ((n : Int) == 46)) = TV.v (.bool false), TV.v (.bool ((n : Int) == 95)) = TV.v (.bool false), TV.v (.bool ((n : Int) == 63)) = TV.v (.bool false), TV.v (.bool ((n : Int) == 61)) = TV.v (.bool false), TV.v (.bool (decide (97 ≤ (n : Int)))) = TV.v (.bool false), TV.v (.bool (decide (65 ≤ (n : Int)))) = TV.v (.bool false), TV.v (.bool (decide (48 ≤ (n : Int)))) = TV.v (.bool true), TV.v (.bool (decide ((n : Int) ≤ 57))) = TV.v (.bool true)]) (by kernel_rfl) ⟨tv_b (by simp; omega), tv_b (by simp; omega), tv_b (by simp; omega), tv_b (by simp; omega), tv_b (by simp; omega), tv_b (by simp; omega), tv_b (decide_eq_false (by omega)), tv_b (decide_eq_false (by omega)), tv_b (decide_eq_true (by omega)), tv_b (decide_eq_true (by omega)), trivial⟩ fun ρ' w' hf _ => ⟨rfl, hf.below⟩
 by_cases c5 : 57 < n
 ·have hr : fitN n = false := by
   unfold fitN
   simp [*]
   try omega
  rw [hr]
  exact At.fin rfl [(2003001, .val (.v (.bool false))), (2004001, .val (.v (.bool false))), (2005001, .val (.v (.bool false))), (2006001, .val (.v (.bool false))), (2007001, .val (.v (.bool false))), (2008001, .val (.v (.bool false))), (2010001, .val (.v (.bool false))), (2010008, .val (.v (.bool false))), (2010016, .val (.v (.bool true))), (2010019, .val (.v (.bool false)))] ⟨trivial, trivial, trivial, trivial, trivial, trivial, trivial, trivial, trivial, trivial, trivial⟩ [.d, .d, .d, .d, .d, .d] (x := .v (.bool false)) (ob := [TV.v (.bool ((n : Int) == 43)) = TV.v (.bool false), TV.v (.bool ((n : Int) == 45)) = TV.v (.bool false), TV.v (.bool ((n : Int) == 46)) = TV.v (.bool false), TV.v (.bool ((n : Int) == 95)) = TV.v (.bool false), TV.v (.bool ((n : Int) == 63)) = TV.v (.bool false), TV.v (.bool ((n : Int) == 61)) = TV.v (.bool false), TV.v (.bool (decide (97 ≤ (n : Int)))) = TV.v (.bool false), TV.v (.bool (decide (65 ≤ (n : Int)))) = TV.v (.bool false), TV.v (.bool (decide (48 ≤ (n : Int)))) = TV.v (.bool true), TV.v (.bool (decide ((n : Int) ≤ 57))) = TV.v (.bool false)]) (by kernel_rfl) ⟨tv_b (by simp; omega), tv_b (by simp; omega), tv_b (by simp; omega), tv_b (by simp; omega), tv_b (by simp; omega), tv_b (by simp; omega), tv_b (decide_eq_false (by omega)), tv_b (decide_eq_false (by omega)), tv_b (decide_eq_true (by omega)), tv_b (decide_eq_false (by omega)), trivial⟩ fun ρ' w' hf _ => ⟨rfl, hf.below⟩
 have hr : fitN n = false := by
  unfold fitN
  simp [*]
  try omega
 rw [hr]
 exact At.fin rfl [(2003001, .val (.v (.bool false))), (2004001, .val (.v (.bool false))), (2005001, .val (.v (.bool false))), (2006001, .val (.v (.bool false))), (2007001, .val (.v (.bool false))), (2008001, .val (.v (.bool false))), (2010001, .val (.v (.bool false))), (2010008, .val (.v (.bool false))), (2010016, .val (.v (.bool false)))] ⟨trivial, trivial, trivial, trivial, trivial, trivial, trivial, trivial, trivial, trivial⟩ [.d, .d, .d, .d, .d, .d] (x := .v (.bool false)) (ob := [TV.v (.bool ((n : Int) == 43)) = TV.v (.bool false), TV.v (.bool ((n : Int) == 45)) = TV.v (.bool false), TV.v (.bool ((n : Int) == 46)) = TV.v (.bool false), TV.v (.bool ((n : Int) == 95)) = TV.v (.bool false), TV.v (.bool ((n : Int) == 63)) = TV.v (.bool false), TV.v (.bool ((n : Int) == 61)) = TV.v (.bool false), TV.v (.bool (decide (97 ≤ (n : Int)))) = TV.v (.bool false), TV.v (.bool (decide (65 ≤ (n : Int)))) = TV.v (.bool false), TV.v (.bool (decide (48 ≤ (n : Int)))) = TV.v (.bool false)]) (by kernel_rfl) ⟨tv_b (by simp; omega), tv_b (by simp; omega), tv_b (by simp; omega), tv_b (by simp; omega), tv_b (by simp; omega), tv_b (by simp; omega), tv_b (decide_eq_false (by omega)), tv_b (decide_eq_false (by omega)), tv_b (decide_eq_false (by omega)), trivial⟩ fun ρ' w' hf _ => ⟨rfl, hf.below⟩
abbrev hFi (n : Nat) : Hint := pc 56 #[.int .u8 (n : Int)] (.v (.bool (fitN n)))
theorem hFi_ok (id n : Nat) (hn : n < 256) : HintOk Tryz.prog id (hFi n) := pc_ok ent56 (v := .bool (fitN n)) rfl (fun _ => rfl) fun w => fits_any n hn w
end
end Go.Proofs.YtdbbcngolcnniaaGreatDoor
/- Names: the program's all, MayName. Its condition: lengths that fit. -/
namespace Go.Proofs.YtdbbcngolcnniaaGreatDoor
open Go Go.RowKit
set_option linter.unusedVariables false
set_option linter.unusedSimpArgs false
section
open E
def nmP (s : List UInt8) : Bool := decide (1 ≤ s.length) && decide (s.length ≤ 211) && !((s.getD 0 0).toNat == 46) && s.all fitB
abbrev fV : Value := .func (.func 56) #[] #[]
set_option maxRecDepth 100000 in
theorem all_any (s : List UInt8) (hs : s.length ≤ 1000000000) (w : World) : Calls Tryz.prog 55 #[stv s, fV] w (BoolQ w (s.all fitB)) := by
  refine At.calls (args := [.v (stv s), .v fV]) (rows := []) (gl := []) (wr := []) (ρ := fun _ => (⟨0, 0, 0⟩ : Blk)) Tryz.func55 rfl rfl (init_rw ⟨rfl, rfl, trivial⟩ rfl rfl rfl (fun p hp => by cases hp) (fun p hp => by cases hp) (fun p hp => by cases hp)) rfl ?_
  have hloop : ∀ i : Nat, (i ≤ s.length ∧ (s.take i).all fitB = true) → At Tryz.prog w nB Tryz.f55.ntmps [] (lp Tryz.f55 0) (EndX Tryz.prog Tryz.f55 (BoolQ w (s.all fitB))) [(0, .v (stv s)), (1, .v fV), (7, .int .i64 (s.length : Int)), (8, .int .i64 (i : Int))] [] := by
    refine At.loop (fun i : Nat => [(0, .v (stv s)), (1, .v fV), (7, .int .i64 (s.length : Int)), (8, .int .i64 (i : Int))]) (fun _ => []) (fun i => i ≤ s.length ∧ (s.take i).all fitB = true) (fun i => s.length - i) fun i hI ih => ?_
    obtain ⟨hi, hA⟩ := hI
    by_cases h : i < s.length
    · obtain ⟨c, hc⟩ : ∃ c, c = (s.getD i 0).toNat := ⟨_, rfl⟩
      have hc2 : c < 256 := by rw [hc]; exact UInt8.toNat_lt _
      have hv : TV.int .u8 (((s.getD (i : Int).toNat 0).toNat : Nat) : Int) = TV.int .u8 (c : Int) := tv_int (by rw [hc, Int.toNat_natCast])
      have hsi : s.getD i 0 = s[i] := by rw [List.getD_eq_getElem?_getD, List.getElem?_eq_getElem h]; rfl
      have hk := hFi_ok 5004 c hc2
      cases hf : fitN c with
      | true =>
        have h9 := ih (i + 1) ⟨h, by rw [List.take_add_one, List.getElem?_eq_getElem h, List.all_append, hA]; show (true && (fitB s[i] && true)) = true; rw [← hsi]; unfold fitB; rw [← hc, hf]; rfl⟩ (by show s.length - (i + 1) < s.length - i; omega)
        exact At.run rfl [(2005003, .val (.int .u8 (c : Int))), (5004, hFi c)] ⟨trivial, hk, trivial⟩ [.y, .n] (tm2 := [(0, .v (stv s)), (1, .v fV), (7, .int .i64 (s.length : Int)), (8, .int .i64 ((i + 1 : Nat) : Int))]) (rows2 := []) (ob := [[decide ((i : Int) < (s.length : Int)) = true, TV.int .u8 (((s.getD (i : Int).toNat 0).toNat : Nat) : Int) = TV.int .u8 (c : Int), 0 ≤ (i : Int) ∧ (i : Int) < (s.length : Int)], qL (hFi c), [(!fitN c) = false, inI ((i : Int) + 1)]].flatten) (td := lp Tryz.f55 0) (by kernel_rfl) (all_flat ⟨⟨decide_eq_true (by omega), hv, ⟨by omega, by omega⟩, trivial⟩, all_qL _, ⟨by rw [hf]; rfl, ⟨by omega, by omega⟩, trivial⟩, trivial⟩) rfl rfl (by intro h; cases h) h9
      | false =>
        have hr : s.all fitB = false := by
          rw [List.all_eq_false]
          exact ⟨s[i], List.getElem_mem h, by rw [← hsi]; unfold fitB; rw [← hc, hf]; simp⟩
        rw [hr]
        exact At.fin rfl [(2005003, .val (.int .u8 (c : Int))), (5004, hFi c)] ⟨trivial, hk, trivial⟩ [.y, .y] (x := .v (.bool false)) (ob := [[decide ((i : Int) < (s.length : Int)) = true, TV.int .u8 (((s.getD (i : Int).toNat 0).toNat : Nat) : Int) = TV.int .u8 (c : Int), 0 ≤ (i : Int) ∧ (i : Int) < (s.length : Int)], qL (hFi c), [(!fitN c) = true]].flatten) (by kernel_rfl) (all_flat ⟨⟨decide_eq_true (by omega), hv, ⟨by omega, by omega⟩, trivial⟩, all_qL _, ⟨by rw [hf]; rfl, trivial⟩, trivial⟩) fun ρ' w' hf _ => ⟨rfl, hf.below⟩
    · obtain rfl : i = s.length := by omega
      rw [List.take_length] at hA
      rw [hA]
      exact At.fin rfl [] trivial [.n] (x := .v (.bool true)) (ob := [decide ((s.length : Int) < (s.length : Int)) = false]) (by kernel_rfl) ⟨decide_eq_false (by omega), trivial⟩ fun ρ' w' hf _ => ⟨rfl, hf.below⟩
  exact At.run rfl [] trivial [] (tm2 := [(0, .v (stv s)), (1, .v fV), (7, .int .i64 (s.length : Int)), (8, .int .i64 ((0 : Nat) : Int))]) (rows2 := []) (ob := []) (td := lp Tryz.f55 0) (by kernel_rfl) trivial rfl rfl (by intro h; cases h) (hloop 0 ⟨Nat.zero_le _, rfl⟩)
abbrev hAl (s : List UInt8) : Hint := pc 55 #[stv s, fV] (.v (.bool (s.all fitB)))
theorem hAl_ok (id : Nat) (s : List UInt8) (hs : s.length ≤ 1000000000) : HintOk Tryz.prog id (hAl s) := pc_ok ent55 (v := .bool (s.all fitB)) rfl (fun _ => rfl) fun w => all_any s hs w
set_option maxRecDepth 100000 in
theorem mayname_any (s : List UInt8) (hs : s.length ≤ 1000000000) (w : World) : Calls Tryz.prog 29 #[stv s] w (BoolQ w (nmP s)) := by
  refine At.calls (args := [.v (stv s)]) (rows := []) (gl := []) (wr := []) (ρ := fun _ => (⟨0, 0, 0⟩ : Blk)) Tryz.func29 rfl rfl (init_rw ⟨rfl, trivial⟩ rfl rfl rfl (fun p hp => by cases hp) (fun p hp => by cases hp) (fun p hp => by cases hp)) rfl ?_
  by_cases h0 : s = []
  · have hr : nmP s = false := by rw [h0]; rfl
    rw [hr]
    exact At.fin rfl [(2002001, .val (.v (.bool false)))] ⟨trivial, trivial⟩ [] (x := .v (.bool false)) (ob := [TV.v (.bool (!(s == []))) = TV.v (.bool false)]) (by kernel_rfl) ⟨tv_b (by simp [h0]), trivial⟩ fun ρ' w' hf _ => ⟨rfl, hf.below⟩
  have hpos : 1 ≤ s.length := List.length_pos_iff.2 h0
  by_cases h1 : ¬ s.length ≤ 211
  · have hr : nmP s = false := by unfold nmP; rw [decide_eq_false h1]; simp
    rw [hr]
    exact At.fin rfl [(2002001, .val (.v (.bool true))), (2002005, .val (.v (.bool false)))] ⟨trivial, trivial, trivial⟩ [] (x := .v (.bool false)) (ob := [TV.v (.bool (!(s == []))) = TV.v (.bool true), TV.v (.bool (decide ((s.length : Int) ≤ 211))) = TV.v (.bool false)]) (by kernel_rfl) ⟨tv_b (by simp [h0]), tv_b (decide_eq_false (by omega)), trivial⟩ fun ρ' w' hf _ => ⟨rfl, hf.below⟩
  have h1 : s.length ≤ 211 := by omega
  obtain ⟨c, hc⟩ : ∃ c, c = (s.getD 0 0).toNat := ⟨_, rfl⟩
  have hv : TV.int .u8 (((s.getD (Int.toNat 0) 0).toNat : Nat) : Int) = TV.int .u8 (c : Int) := tv_int (by rw [hc]; rfl)
  have hd : nmP s = ((!(c == 46)) && s.all fitB) := by unfold nmP; rw [decide_eq_true hpos, decide_eq_true h1, ← hc]; simp
  by_cases h2 : c = 46
  · have hr : nmP s = false := by rw [hd, h2]; rfl
    rw [hr]
    exact At.fin rfl [(2002001, .val (.v (.bool true))), (2002005, .val (.v (.bool true))), (2002009, .val (.int .u8 (c : Int))), (2002010, .val (.v (.bool false)))] ⟨trivial, trivial, trivial, trivial, trivial⟩ [] (x := .v (.bool false)) (ob := [TV.v (.bool (!(s == []))) = TV.v (.bool true), TV.v (.bool (decide ((s.length : Int) ≤ 211))) = TV.v (.bool true), TV.int .u8 (((s.getD (Int.toNat 0) 0).toNat : Nat) : Int) = TV.int .u8 (c : Int), 0 ≤ (0 : Int) ∧ (0 : Int) < (s.length : Int), TV.v (.bool ((c : Int) != 46)) = TV.v (.bool false)]) (by kernel_rfl) ⟨tv_b (by simp [h0]), tv_b (decide_eq_true (by omega)), hv, ⟨by decide, by omega⟩, tv_b (by rw [h2]; rfl), trivial⟩ fun ρ' w' hf _ => ⟨rfl, hf.below⟩
  have hr : nmP s = s.all fitB := by rw [hd]; simp [h2]
  rw [hr]
  exact At.fin rfl [(2002001, .val (.v (.bool true))), (2002005, .val (.v (.bool true))), (2002009, .val (.int .u8 (c : Int))), (2002010, .val (.v (.bool true))), (2014, hAl s)] ⟨trivial, trivial, trivial, trivial, hAl_ok _ _ hs, trivial⟩ [] (x := .v (.bool (s.all fitB))) (ob := [[TV.v (.bool (!(s == []))) = TV.v (.bool true), TV.v (.bool (decide ((s.length : Int) ≤ 211))) = TV.v (.bool true), TV.int .u8 (((s.getD (Int.toNat 0) 0).toNat : Nat) : Int) = TV.int .u8 (c : Int), 0 ≤ (0 : Int) ∧ (0 : Int) < (s.length : Int), TV.v (.bool ((c : Int) != 46)) = TV.v (.bool true)], qL (hAl s)].flatten) (by kernel_rfl) (all_flat ⟨⟨tv_b (by simp [h0]), tv_b (decide_eq_true (by omega)), hv, ⟨by decide, by omega⟩, tv_b (by simp; omega), trivial⟩, all_qL _, trivial⟩) fun ρ' w' hf _ => ⟨rfl, hf.below⟩
abbrev hMn (s : List UInt8) (b : Bool) : Hint := pc 29 #[stv s] (.v (.bool b))
theorem hMn_ok (id : Nat) (s : List UInt8) (b : Bool) (hs : s.length ≤ 1000000000) (h : nmP s = b) : HintOk Tryz.prog id (hMn s b) := pc_ok ent29 (v := .bool b) rfl (fun _ => rfl) fun w => by rw [← h]; exact mayname_any s hs w
end
end Go.Proofs.YtdbbcngolcnniaaGreatDoor
/- The document on parts: has, Letters, MayPart, stands; the statements' Part. Its condition: lengths that fit. -/
namespace Go.Proofs.YtdbbcngolcnniaaGreatDoor
open Go.RowKit Go.Shelf
set_option linter.unusedVariables false
set_option linter.unusedSimpArgs false
section
open E
theorem ent47 : Enters Tryz.prog 47 := enters_of Tryz.func47 (by kernel_rfl) rfl
theorem ent14 : Enters Tryz.prog 14 := enters_of Tryz.func14 (by kernel_rfl) rfl
theorem ent23 : Enters Tryz.prog 23 := enters_of Tryz.func23 (by kernel_rfl) rfl
theorem ent5 : Enters Tryz.prog 5 := enters_of Tryz.func5 (by kernel_rfl) rfl
theorem getD_nat (s : List UInt8) (i : Nat) (h : i < s.length) : s.getD ((i : Nat) : Int).toNat 0 = s[i] := by
 rw [Int.toNat_natCast, List.getD_eq_getElem?_getD, List.getElem?_eq_getElem h]; rfl
set_option maxRecDepth 100000 in
theorem has_any (s : List UInt8) (c : UInt8) (hs : s.length ≤ 9223372036854775806) (w : World) : Calls Tryz.prog 47 #[stv s, .int .u8 (c.toNat : Int)] w (BoolQ w (s.contains c)) := by
 refine At.calls (args := [.v (stv s), .int .u8 (c.toNat : Int)]) (rows := []) (gl := []) (wr := []) (ρ := fun _ => (⟨0, 0, 0⟩ : Blk)) Tryz.func47 rfl rfl (init_rw ⟨rfl, rfl, trivial⟩ rfl rfl rfl (fun p hp => by cases hp) (fun p hp => by cases hp) (fun p hp => by cases hp)) rfl ?_
 have hloop : ∀ i : Nat, (i ≤ s.length ∧ s.contains c = (s.drop i).contains c) → At Tryz.prog w nB Tryz.f47.ntmps [] (lp Tryz.f47 0) (EndX Tryz.prog Tryz.f47 (BoolQ w (s.contains c))) [(0, .v (stv s)), (1, .int .u8 (c.toNat : Int)), (5, .int .i64 (i : Int))] [] := by
  refine At.loop (fun i : Nat => [(0, .v (stv s)), (1, .int .u8 (c.toNat : Int)), (5, .int .i64 (i : Int))]) (fun _ => []) (fun i => i ≤ s.length ∧ s.contains c = (s.drop i).contains c) (fun i => s.length - i) fun i ⟨hi, hc⟩ ih => ?_
  by_cases h : i < s.length
  ·have hd : s.drop i = s[i] :: s.drop (i + 1) := (List.drop_eq_getElem_cons h)
   have hb : (((s.getD (i : Int).toNat 0).toNat : Int) == (c.toNat : Int)) = (s[i] == c) := by
    rw [getD_nat s i h]
    by_cases e : s[i] = c
    ·rw [e]; simp
    ·have : s[i].toNat ≠ c.toNat := fun h => e (UInt8.toNat_inj.1 h)
     have h1 : (s[i] == c) = false := by simpa using e
     rw [h1]
     simp only [beq_eq_false_iff_ne, ne_eq]
     omega
   by_cases e : s[i] = c
   ·have hm : s.contains c = true := by rw [hc, hd, List.contains_cons, e]; simp
    rw [hm]
    exact At.fin rfl [] trivial [.y, .y] (x := .v (.bool true)) (ob := [decide ((i : Int) < (s.length : Int)) = true, 0 ≤ (i : Int) ∧ (i : Int) < (s.length : Int), (((s.getD (i : Int).toNat 0).toNat : Int) == (c.toNat : Int)) = true]) (by kernel_rfl) ⟨decide_eq_true (by omega), ⟨by omega, by omega⟩, by rw [hb, e]; simp, trivial⟩ fun ρ' w' hf _ => ⟨rfl, hf.below⟩
   ·have h1 : (s[i] == c) = false := by simpa using e
    have h2 : (c == s[i]) = false := by simpa using fun h => e h.symm
    refine At.run rfl [] trivial [.y, .n] (tm2 := [(0, .v (stv s)), (1, .int .u8 (c.toNat : Int)), (5, .int .i64 ((i + 1 : Nat) : Int))]) (rows2 := []) (ob := [decide ((i : Int) < (s.length : Int)) = true, 0 ≤ (i : Int) ∧ (i : Int) < (s.length : Int), (((s.getD (i : Int).toNat 0).toNat : Int) == (c.toNat : Int)) = false, inI ((i : Int) + 1)]) (td := lp Tryz.f47 0) (by kernel_rfl) ⟨decide_eq_true (by omega), ⟨by omega, by omega⟩, by rw [hb, h1], ⟨by omega, by omega⟩, trivial⟩ rfl rfl (by intro h; cases h) (ih (i + 1) ⟨h, ?_⟩ (by omega))
    rw [hc, hd, List.contains_cons, h2, Bool.false_or]
  ·have hm : s.contains c = false := by rw [hc, List.drop_eq_nil_of_le (by omega)]; rfl
   rw [hm]
   exact At.fin rfl [] trivial [.n] (x := .v (.bool false)) (ob := [decide ((i : Int) < (s.length : Int)) = false]) (by kernel_rfl) ⟨decide_eq_false (by omega), trivial⟩ fun ρ' w' hf _ => ⟨rfl, hf.below⟩
 exact At.run rfl [] trivial [] (tm2 := [(0, .v (stv s)), (1, .int .u8 (c.toNat : Int)), (5, .int .i64 ((0 : Nat) : Int))]) (rows2 := []) (ob := []) (td := lp Tryz.f47 0) (by kernel_rfl) trivial rfl rfl (by intro h; cases h) (hloop 0 ⟨Nat.zero_le _, rfl⟩)
abbrev hHs (l : List UInt8) (c : UInt8) (b : Bool) : Hint := pc 47 #[stv l, .int .u8 (c.toNat : Int)] (.v (.bool b))
theorem hHs_ok (id : Nat) (l : List UInt8) (c : UInt8) (b : Bool) (hl : l.length ≤ 9223372036854775806) (h : l.contains c = b) : HintOk Tryz.prog id (hHs l c b) := pc_ok ent47 (v := .bool b) rfl (fun _ => rfl) fun w => by rw [← h]; exact has_any l c hl w
abbrev hLe : Hint := pc 14 #[] (.v (stv letL))
set_option maxRecDepth 100000 in
theorem hLe_ok (id : Nat) : HintOk Tryz.prog id hLe := pc_ok ent14 (v := stv letL) rfl (fun _ => rfl) fun w => by
 refine At.calls (args := []) (rows := []) (gl := []) (wr := []) (ρ := fun _ => (⟨0, 0, 0⟩ : Blk)) Tryz.func14 rfl rfl (init_rw trivial rfl rfl rfl (fun p hp => by cases hp) (fun p hp => by cases hp) (fun p hp => by cases hp)) rfl ?_
 exact At.fin rfl [] trivial [] (x := .v (stv letL)) (ob := []) (by kernel_rfl) trivial fun ρ' w' hf _ => ⟨rfl, hf.below⟩
set_option maxRecDepth 100000 in
theorem mayp_any (s : List UInt8) (hs : s.length ≤ 9223372036854775806) (w : World) : Calls Tryz.prog 23 #[stv s] w (BoolQ w (mayP s)) := by
 refine At.calls (args := [.v (stv s)]) (rows := []) (gl := []) (wr := []) (ρ := fun _ => (⟨0, 0, 0⟩ : Blk)) Tryz.func23 rfl rfl (init_rw ⟨rfl, trivial⟩ rfl rfl rfl (fun p hp => by cases hp) (fun p hp => by cases hp) (fun p hp => by cases hp)) rfl ?_
 have hloop : ∀ i : Nat, (i ≤ s.length ∧ ∀ j (h : j < s.length), j < i → letL.contains s[j] = true) → At Tryz.prog w nB Tryz.f23.ntmps [] (lp Tryz.f23 0) (EndX Tryz.prog Tryz.f23 (BoolQ w (mayP s))) [(0, .v (stv s)), (3, .int .i64 (i : Int))] [] := by
  refine At.loop (fun i : Nat => [(0, .v (stv s)), (3, .int .i64 (i : Int))]) (fun _ => []) (fun i => i ≤ s.length ∧ ∀ j (h : j < s.length), j < i → letL.contains s[j] = true) (fun i => s.length - i) fun i ⟨hi, hc⟩ ih => ?_
  by_cases h : i < s.length
  ·have hv : TV.int .u8 (((s.getD (i : Int).toNat 0).toNat : Nat) : Int) = TV.int .u8 ((s[i].toNat : Nat) : Int) := by rw [getD_nat s i h]
   cases e : letL.contains s[i] with
   | false =>
    have hm : mayP s = false := by
     cases hm : mayP s with
     | false => rfl
     | true =>
      unfold mayP at hm
      rw [Bool.and_eq_true, List.all_eq_true] at hm
      rw [hm.2 _ (List.getElem_mem h)] at e
      cases e
    rw [hm]
    exact At.fin rfl [(5000, hLe), (2005003, .val (.int .u8 (s[i].toNat : Int))), (5004, hHs letL s[i] false)] ⟨hLe_ok _, trivial, hHs_ok _ _ _ _ (by decide) e, trivial⟩ [.y, .y] (x := .v (.bool false)) (ob := [[decide ((i : Int) < (s.length : Int)) = true], qL hLe, [TV.int .u8 (((s.getD (i : Int).toNat 0).toNat : Nat) : Int) = TV.int .u8 ((s[i].toNat : Nat) : Int), 0 ≤ (i : Int) ∧ (i : Int) < (s.length : Int)], qL (hHs letL s[i] false), [true = true]].flatten) (by kernel_rfl) (all_flat ⟨⟨decide_eq_true (by omega), trivial⟩, all_qL _, ⟨hv, ⟨by omega, by omega⟩, trivial⟩, all_qL _, ⟨rfl, trivial⟩, trivial⟩) fun ρ' w' hf _ => ⟨rfl, hf.below⟩
   | true =>
    exact At.run rfl [(5000, hLe), (2005003, .val (.int .u8 (s[i].toNat : Int))), (5004, hHs letL s[i] true)] ⟨hLe_ok _, trivial, hHs_ok _ _ _ _ (by decide) e, trivial⟩ [.y, .n] (tm2 := [(0, .v (stv s)), (3, .int .i64 ((i + 1 : Nat) : Int))]) (rows2 := []) (ob := [[decide ((i : Int) < (s.length : Int)) = true], qL hLe, [TV.int .u8 (((s.getD (i : Int).toNat 0).toNat : Nat) : Int) = TV.int .u8 ((s[i].toNat : Nat) : Int), 0 ≤ (i : Int) ∧ (i : Int) < (s.length : Int)], qL (hHs letL s[i] true), [false = false, inI ((i : Int) + 1)]].flatten) (td := lp Tryz.f23 0) (by kernel_rfl) (all_flat ⟨⟨decide_eq_true (by omega), trivial⟩, all_qL _, ⟨hv, ⟨by omega, by omega⟩, trivial⟩, all_qL _, ⟨rfl, ⟨by omega, by omega⟩, trivial⟩, trivial⟩) rfl rfl (by intro h; cases h) (ih (i + 1) ⟨h, fun j hj1 hj2 => (by
     by_cases e2 : j = i
     ·subst e2; exact e
     ·exact hc j hj1 (by omega))⟩ (by omega))
  ·have hall : (s.all fun c => letL.contains c) = true := List.all_eq_true.2 fun c hcm => by
    obtain ⟨j, hj, rfl⟩ := List.mem_iff_getElem.1 hcm
    exact hc j hj (by omega)
   have hm : mayP s = ((s.length : Int) == 32) := by
    unfold mayP
    rw [hall, Bool.and_true]
    by_cases h32 : s.length = 32
    ·rw [h32]; rfl
    ·rw [decide_eq_false h32]
     symm
     simp only [beq_eq_false_iff_ne, ne_eq]
     omega
   rw [hm]
   exact At.fin rfl [] trivial [.n] (x := .v (.bool ((s.length : Int) == 32))) (ob := [decide ((i : Int) < (s.length : Int)) = false]) (by kernel_rfl) ⟨decide_eq_false (by omega), trivial⟩ fun ρ' w' hf _ => ⟨rfl, hf.below⟩
 exact At.run rfl [] trivial [] (tm2 := [(0, .v (stv s)), (3, .int .i64 ((0 : Nat) : Int))]) (rows2 := []) (ob := []) (td := lp Tryz.f23 0) (by kernel_rfl) trivial rfl rfl (by intro h; cases h) (hloop 0 ⟨Nat.zero_le _, fun j _ hj => absurd hj (Nat.not_lt_zero _)⟩)
abbrev hMp (s : List UInt8) (b : Bool) : Hint := pc 23 #[stv s] (.v (.bool b))
theorem hMp_ok (id : Nat) (s : List UInt8) (b : Bool) (hs : s.length ≤ 9223372036854775806) (h : mayP s = b) : HintOk Tryz.prog id (hMp s b) := pc_ok ent23 (v := .bool b) rfl (fun _ => rfl) fun w => by rw [← h]; exact mayp_any s hs w
def partL (n : Nat) : List UInt8 := (List.range 32).map fun i => letL.getD ((n + i * (n % 5)) % 32) 0
theorem partL_len (n : Nat) : (partL n).length = 32 := by simp [partL]
theorem letL_all : ∀ d, d < 32 → letL.contains (letL.getD d 0) = true := by decide +kernel
theorem part_may (n : Nat) : mayP (partL n) = true := by
 unfold mayP
 rw [Bool.and_eq_true, List.all_eq_true]
 refine ⟨decide_eq_true (partL_len n), fun c hc => ?_⟩
 obtain ⟨i, _, rfl⟩ := List.mem_map.1 hc
 exact letL_all _ (Nat.mod_lt _ (by decide))
theorem let_one : ∀ m, m < 32 → (letL.drop m).take 1 = [letL.getD m 0] := by decide +kernel
set_option maxRecDepth 100000 in
theorem part_any (n : Nat) (hn : n < 256) (w : World) : Calls Tryz.prog 5 #[.int .u8 (n : Int)] w fun e w' => e = .returned (stv (partL n)) ∧ Below w.heap.size w w' := by
 refine At.calls (args := [.int .u8 (n : Int)]) (rows := []) (gl := []) (wr := []) (ρ := fun _ => (⟨0, 0, 0⟩ : Blk)) Tryz.func5 rfl rfl (init_rw ⟨rfl, trivial⟩ rfl rfl rfl (fun p hp => by cases hp) (fun p hp => by cases hp) (fun p hp => by cases hp)) rfl ?_
 have hloop : ∀ i : Nat, i ≤ 32 → At Tryz.prog w nB Tryz.f5.ntmps [] (lp Tryz.f5 0) (EndX Tryz.prog Tryz.f5 fun e w' => e = .returned (stv (partL n)) ∧ Below w.heap.size w w') [(0, .int .u8 (n : Int)), (3, .v (stv ((partL n).take i))), (4, .int .i64 (i : Int))] [] := by
  refine At.loop (fun i : Nat => [(0, .int .u8 (n : Int)), (3, .v (stv ((partL n).take i))), (4, .int .i64 (i : Int))]) (fun _ => []) (fun i => i ≤ 32) (fun i => 32 - i) fun i hi ih => ?_
  by_cases h : i < 32
  ·obtain ⟨q, hq⟩ : ∃ q, q = n % 5 := ⟨_, rfl⟩
   have hq5 : q < 5 := by omega
   have hqi : (n : Int) % 5 = (q : Int) := by omega
   obtain ⟨t, ht⟩ : ∃ t, t = i * q := ⟨_, rfl⟩
   have ht2 : t ≤ 32 * 4 := by rw [ht]; exact Nat.mul_le_mul (by omega) (by omega)
   have hti : (i : Int) * ((n : Int) % 5) = (t : Int) := by rw [hqi, ht, Int.natCast_mul]
   obtain ⟨m, hm⟩ : ∃ m, m = (n + t) % 32 := ⟨_, rfl⟩
   have hm32 : m < 32 := by omega
   obtain ⟨c, hc⟩ : ∃ c, c = letL.getD m 0 := ⟨_, rfl⟩
   have hll : (letL.length : Int) = 32 := by decide
   have htk : (partL n).take i ++ [c] = (partL n).take (i + 1) := by
    rw [List.take_add_one]
    congr 1
    unfold partL
    rw [List.getElem?_map, List.getElem?_range (by omega)]
    simp only [Option.map_some, Option.toList_some]
    rw [hc, hm, ht, hq]
   have hl1 : ((partL n).take i).length = i := by rw [List.length_take, partL_len]; omega
   have h9 := ih (i + 1) (by omega) (by omega)
   rw [← htk] at h9
   have hs1 : TV.v (.string ⟨((letL.drop (m : Int).toNat).take (Int.toNat 1)).toArray⟩) = TV.v (stv [c]) := by
    refine tv_str ?_
    rw [Int.toNat_natCast, hc]
    exact let_one m hm32
   have hdl : (((letL.drop (m : Int).toNat).length : Nat) : Int) = 32 - m := by rw [Int.toNat_natCast, List.length_drop]; omega
   exact At.run rfl [(6001, hLe), (2006010, .val (.int .i64 (m : Int))), (2006012, .val (.v (stv [c])))] ⟨hLe_ok _, trivial, trivial, trivial⟩ [.y] (tm2 := [(0, .int .u8 (n : Int)), (3, .v (stv ((partL n).take i ++ [c]))), (4, .int .i64 ((i + 1 : Nat) : Int))]) (rows2 := []) (ob := [[decide ((i : Int) < 32) = true], qL hLe, [IntKind.i64.wrap (n : Int) = (n : Int), 0 ≤ (n : Int) ∧ (0 : Int) < 5, IntKind.i64.wrap ((n : Int) % 5) = (n : Int) % 5, inI ((i : Int) * ((n : Int) % 5)), inI ((n : Int) + (i : Int) * ((n : Int) % 5)), TV.int .i64 (((n : Int) + (i : Int) * ((n : Int) % 5)) % 32) = TV.int .i64 (m : Int), 0 ≤ (n : Int) + (i : Int) * ((n : Int) % 5) ∧ (0 : Int) < 32, 0 ≤ (m : Int) ∧ (m : Int) ≤ (letL.length : Int), TV.v (.string ⟨((letL.drop (m : Int).toNat).take (Int.toNat 1)).toArray⟩) = TV.v (stv [c]), 0 ≤ (1 : Int) ∧ (1 : Int) ≤ (((letL.drop (m : Int).toNat).length : Nat) : Int), (((partL n).take i).length : Int) + (([c] : List UInt8).length : Int) ≤ 9223372036854775807, inI ((i : Int) + 1)]].flatten) (td := lp Tryz.f5 0) (by kernel_rfl) (all_flat ⟨⟨decide_eq_true (by omega), trivial⟩, all_qL _, ⟨by rw [IntKind.wrap_i64]; omega, ⟨by omega, by omega⟩, by rw [IntKind.wrap_i64]; omega, by rw [hti]; exact ⟨by omega, by omega⟩, by rw [hti]; exact ⟨by omega, by omega⟩, by rw [hti]; exact tv_int (by omega), by rw [hti]; exact ⟨by omega, by omega⟩, ⟨by omega, by omega⟩, hs1, ⟨by omega, by omega⟩, by rw [hl1]; simp; omega, ⟨by omega, by omega⟩, trivial⟩, trivial⟩) rfl rfl (by intro h; cases h) h9
  ·obtain rfl : i = 32 := by omega
   rw [List.take_of_length_le (by rw [partL_len]; exact Nat.le_refl _)]
   exact At.fin rfl [] trivial [.n] (x := .v (stv (partL n))) (ob := [decide (((32 : Nat) : Int) < 32) = false]) (by kernel_rfl) ⟨by decide, trivial⟩ fun ρ' w' hf _ => ⟨rfl, hf.below⟩
 exact At.run rfl [] trivial [] (tm2 := [(0, .int .u8 (n : Int)), (3, .v (stv ((partL n).take 0))), (4, .int .i64 ((0 : Nat) : Int))]) (rows2 := []) (ob := []) (td := lp Tryz.f5 0) (by kernel_rfl) trivial rfl rfl (by intro h; cases h) (hloop 0 (by decide))
abbrev hPt (n : Nat) : Hint := pc 5 #[.int .u8 (n : Int)] (.v (stv (partL n)))
theorem hPt_ok (id n : Nat) (hn : n < 256) : HintOk Tryz.prog id (hPt n) := pc_ok ent5 (v := stv (partL n)) rfl (fun _ => rfl) fun w => part_any n hn w
end
end Go.Proofs.YtdbbcngolcnniaaGreatDoor
/- The program's May and windows. Its condition: lengths that fit. -/
namespace Go.Proofs.YtdbbcngolcnniaaGreatDoor
open Go.RowKit Go.Shelf
set_option linter.unusedVariables false
set_option linter.unusedSimpArgs false
section
open E
theorem ent35 : Enters Tryz.prog 35 := enters_of Tryz.func35 (by kernel_rfl) rfl
theorem ent15 : Enters Tryz.prog 15 := enters_of Tryz.func15 (by kernel_rfl) rfl
theorem ent34 : Enters Tryz.prog 34 := enters_of Tryz.func34 (by kernel_rfl) rfl
abbrev hG (s : List UInt8) (t : List UInt8) (b : Bool) : Hint := pc 35 #[stv s, .int .i64 20] (.tup [.lf (.v (stv t)), .lf (.v (.bool b))])
theorem hG_ok (id : Nat) (s : List UInt8) (hs : s.length ≤ 1000000000) : ∃ t, HintOk Tryz.prog id (hG s t (mayP s)) := by
  have h : ∀ w, Calls Tryz.prog 35 #[stv s, .int .i64 20] w fun e w2 => e = .returned (told (get32 s 20)) ∧ Below w.heap.size w w2 := fun w => getBase32_any ⟨s.toArray⟩ 20 w (by show s.toArray.size ≤ _; simp; omega)
  have hm := may_get s
  cases hg : get32 s 20 with
  | none =>
    rw [hg] at hm h
    refine ⟨[], ?_⟩
    rw [← hm]
    exact pc_ok ent35 (by intro x hx; simp at hx; rcases hx with rfl | rfl <;> rfl) (fun _ => rfl) h
  | some t =>
    rw [hg] at hm h
    refine ⟨t, ?_⟩
    rw [← hm]
    exact pc_ok ent35 (by intro x hx; simp at hx; rcases hx with rfl | rfl <;> rfl) (fun _ => rfl) h
theorem may_any (s : List UInt8) (hs : s.length ≤ 1000000000) (w : World) : Calls Tryz.prog 15 #[stv s] w (BoolQ w (mayP s)) := by
  refine At.calls (args := [.v (stv s)]) (rows := []) (gl := []) (wr := []) (ρ := fun _ => (⟨0, 0, 0⟩ : Blk)) Tryz.func15 rfl rfl (init_rw ⟨rfl, trivial⟩ rfl rfl rfl (fun p hp => by cases hp) (fun p hp => by cases hp) (fun p hp => by cases hp)) rfl ?_
  obtain ⟨t, ht⟩ := hG_ok 2001 s hs
  exact At.fin rfl [(2001, hG s t (mayP s))] ⟨ht, trivial⟩ [] (x := .v (.bool (mayP s))) (ob := qL (hG s t (mayP s))) (by kernel_rfl) (all_qL _) fun ρ' w' hf _ => ⟨rfl, hf.below⟩
abbrev hMy (s : List UInt8) (b : Bool) : Hint := pc 15 #[stv s] (.v (.bool b))
theorem hMy_ok (id : Nat) (s : List UInt8) (b : Bool) (hs : s.length ≤ 1000000000) (h : mayP s = b) : HintOk Tryz.prog id (hMy s b) := pc_ok ent15 (v := .bool b) rfl (fun _ => rfl) fun w => by rw [← h]; exact may_any s hs w
end
end Go.Proofs.YtdbbcngolcnniaaGreatDoor
