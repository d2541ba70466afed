/- Package codec's Base64: it tells the arithmetic's letters. Its condition: a length that fits. -/
import Derived.Test.YtdajmekliodmcaaGreatDoorG32
namespace Go.Proofs.YtdajmekliodmcaaGreatDoor
open Go.RowKit Go.Shelf
set_option linter.unusedVariables false

def by64B : ByteArray := ⟨#[65, 66, 67, 68, 69, 70, 71, 72, 73, 74, 75, 76, 77, 78, 79, 80, 81, 82, 83, 84, 85, 86, 87, 88, 89, 90, 97, 98, 99, 100, 101, 102, 103, 104, 105, 106, 107, 108, 109, 110, 111, 112, 113, 114, 115, 116, 117, 118, 119, 120, 121, 122, 48, 49, 50, 51, 52, 53, 54, 55, 56, 57, 43, 47]⟩
theorem by64_set : ∀ y, y < 64 → UInt8.ofNat (setAt by64B y) = six y := by decide +kernel
theorem by64_size : by64B.size = 64 := by decide +kernel
theorem map_six (ds : List Nat) (h : ∀ x ∈ ds, x < 64) : (ds.map (setAt by64B)).map UInt8.ofNat = ds.map six := by
  rw [List.map_map]
  apply List.map_congr_left
  intro x hx
  exact by64_set x (h x hx)
theorem sx_length (l : List UInt8) : (sx l).length ≤ (l.length + 2) / 3 * 4 := by
  induction l using sx.induct with
  | case1 a b c l ih => simp only [sx, List.length_cons]; omega
  | case2 a b => simp [sx]
  | case3 a => simp [sx]
  | case4 => simp [sx]
theorem b64_split (l : List UInt8) : b64 l = (sx l).map six ++ List.replicate ((l.length + 2) / 3 * 4 - (sx l).length) 61 := by
  induction l using sx.induct with
  | case1 a b c l ih =>
    have hl := sx_length l
    simp only [sx, b64, List.map_cons, List.cons_append, List.length_cons]
    rw [ih]
    have e : (l.length + 2) / 3 * 4 - (sx l).length = (l.length + 1 + 1 + 1 + 2) / 3 * 4 - ((sx l).length + 1 + 1 + 1 + 1) := by omega
    rw [e]
  | case2 a b => simp [sx, b64]
  | case3 a => simp [sx, b64]
  | case4 => rfl
theorem rep_one (n : Nat) : Lib.repeatL [61] n = List.replicate n 61 := by
  induction n with
  | zero => rfl
  | succ n ih => rw [List.replicate_succ, ← ih]; rfl

theorem cat_bytes (l : List UInt8) (m : Array UInt8) : ((⟨l.toArray⟩ : ByteArray) ++ ⟨m⟩) = ⟨(l ++ m.toList).toArray⟩ := by
  apply ByteArray.ext
  simp

set_option maxHeartbeats 1000000 in
theorem base64_any (s : ByteArray) (w : World) (hs : s.size ≤ 549755813888) :
    Calls Tryz.prog 60 #[.string s] w fun e w2 => e = .returned (.string ⟨(b64 s.data.toList).toArray⟩) ∧ Below w.heap.size w w2 := by
  obtain ⟨A, hA⟩ : ∃ A, A = s.size + 2 := ⟨_, rfl⟩
  obtain ⟨C, hC⟩ : ∃ C, C = A / 3 := ⟨_, rfl⟩
  obtain ⟨N, hN⟩ : ∃ N, N = C * 4 := ⟨_, rfl⟩
  have h8 : IntKind.i64.wrap ((s.size : Int) + 2) = (A : Int) := by rw [IntKind.wrap_i64]; omega
  have h4 : (A : Int) / 3 = (C : Int) := by omega
  have h5 : IntKind.i64.wrap ((C : Int) * 4) = (N : Int) := by rw [IntKind.wrap_i64]; omega
  have hNle : N ≤ 1099511627776 := by omega
  have hAb : A ≤ 549755813890 := by omega
  have hCb : C ≤ 549755813890 := by omega
  have hNm : (s.data.toList.length + 2) / 3 * 4 = N := by rw [hN, hC, hA]; simp
  obtain ⟨L, hL⟩ : ∃ L, L = (sx s.data.toList).map six := ⟨_, rfl⟩
  have hsl : (sx s.data.toList).length ≤ N := by rw [← hNm]; exact sx_length _
  have hLl : L.length ≤ N := by rw [hL, List.length_map]; exact hsl
  obtain ⟨D, hD⟩ : ∃ D, D = N - L.length := ⟨_, rfl⟩
  have hsub : IntKind.i64.wrap ((N : Int) - (L.length : Int)) = (D : Int) := by rw [IntKind.wrap_i64]; omega
  have hres : (((hiAll 8 6 (natsOf s)).map (setAt by64B)).take N).map UInt8.ofNat = L := by
    rw [natsOf_nb, all86, List.take_of_length_le (by rw [List.length_map]; exact hsl), map_six _ (sx_lt _), hL]
  have h64 : ∀ y ∈ hiAll 8 6 (natsOf s), y < by64B.size := by rw [natsOf_nb, by64_size, all86]; exact sx_lt _
  have hb : b64 s.data.toList = L ++ List.replicate D 61 := by rw [b64_split, hNm, ← hL, hD, hL, List.length_map]
  have hrep : ∀ w, Calls Tryz.prog 110 #[.string ⟨#[61]⟩, .int .i64 (D : Int)] w fun e w' => e = .returned (.string ⟨(List.replicate D 61).toArray⟩) ∧ Below w.heap.size w w' := fun w => by
    have := strings_Repeat ⟨#[61]⟩ D w (by omega) (by show 1 * D ≤ _; omega)
    rwa [show (⟨#[61]⟩ : ByteArray).data.toList = [61] from rfl, rep_one] at this
  have hLD : ¬ 9223372036854775807 < L.length + D := by omega
  have HR := Lib.hid hres
  have H64 := Lib.hid h64
  have HB := Lib.hid hb
  clear hA hC hN hNm hres h64 hL hb hD hsl hLl
  go_enter Tryz.func60, Tryz.ntmps60
  go_wp2_with (first
    | (go_at_call 106; refine (forward_mk s w (by omega)).mono ?_; rintro e w1 ⟨⟨v1, rfl, h1⟩, b1⟩)
    | (go_at_call 104; refine (highest_mk 8 6 (by decide) (by decide) (by decide) (by decide) v1 _ w1 h1).mono ?_; rintro e w2 ⟨⟨v2, rfl, h2⟩, b2⟩)
    | (go_at_call 109; refine (letters_mk by64B v2 _ w2 h2 H64.out).mono ?_; rintro e w3 ⟨⟨v3, rfl, h3⟩, b3⟩)
    | (go_at_call 103; refine (first_res N v3 _ w3 h3 hNle _ HR.out).mono ?_; rintro e w4 ⟨rfl, b4⟩)
    | (go_at_call 110; refine (hrep w4).mono ?_; rintro e w5 ⟨rfl, b5⟩))
  go_ret
  refine ⟨?_, below_then (below_then (below_then (below_then b1 b2) b3) b4) b5⟩
  rw [HB.out]
  show Ending.returned (.string ((⟨L.toArray⟩ : ByteArray) ++ ⟨Array.replicate D 61⟩)) = _
  rw [show ((⟨L.toArray⟩ : ByteArray) ++ ⟨Array.replicate D 61⟩) = ⟨(L ++ List.replicate D 61).toArray⟩ by rw [cat_bytes]; simp]
end Go.Proofs.YtdajmekliodmcaaGreatDoor
