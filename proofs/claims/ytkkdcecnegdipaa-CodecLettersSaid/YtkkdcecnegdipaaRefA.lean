/- The law CodecRefuses: what it asks is so, whatever it is given. -/
import Derived.Test.YtkkdcecnegdipaaAwake
namespace Go.Proofs.Ytkkdcecnegdipaa
open Go.RowKit Go.Shelf
set_option linter.unusedVariables false

def noneV : Value := .tuple #[.string ⟨#[]⟩, .bool false]
theorem hexd_not : ∀ d, d < 16 → hexd d ≠ 65 ∧ hexd d ≠ 103 := by decide +kernel
theorem hex_mem : ∀ (b : List UInt8) (x : UInt8), x ∈ hex b → ∃ d, d < 16 ∧ x = hexd d
  | [], _, h => by cases h
  | c :: b, x, h => by
    have hc := c.toNat_lt
    rcases List.mem_cons.1 h with rfl | h
    · exact ⟨_, by omega, rfl⟩
    · rcases List.mem_cons.1 h with rfl | h
      · exact ⟨_, by omega, rfl⟩
      · exact hex_mem b x h
theorem getHex_none (s : List UInt8) (h : ∀ b, hex b ≠ s) : getHex s = none := by
  cases hg : getHex s with
  | none => rfl
  | some b => exact absurd ((getHex_iff s b).1 hg) (h b)
theorem get32_none (s : List UInt8) (n : Nat) (h : s.length ≠ many32 n) : get32 s n = none := by
  cases hg : get32 s n with
  | none => rfl
  | some b =>
    obtain ⟨-, h2, h3⟩ := get32_some hg
    rw [← h3, b32_length, h2] at h
    exact absurd rfl h
theorem app_data (l : List UInt8) (m : Array UInt8) : ((⟨l.toArray⟩ : ByteArray) ++ ⟨m⟩).data.toList = l ++ m.toList := by rw [cat_bytes]
theorem app_size (l : List UInt8) (m : Array UInt8) : ((⟨l.toArray⟩ : ByteArray) ++ ⟨m⟩).size = l.length + m.size := by
  rw [cat_bytes]; show ((l ++ m.toList).toArray).size = _; simp

set_option maxHeartbeats 1000000 in
set_option maxRecDepth 100000 in
theorem refuses_law (s : ByteArray) (n : Int) (w : World) : Calls Try.prog 4 #[.string s, .int .i64 n] w fun e w2 => e = .returned (.bool true) ∧ Below w.heap.size w w2 := by
  by_cases h60 : s.size > 60
  · have hg : (s.size : Int) > 60 := by omega
    go_enter Try.func4, Try.ntmps4
    go_wp2_with (go_at_call 6; refine (awake_ok w).mono ?_; rintro e w1 ⟨rfl, b1⟩)
    go_ret
    exact ⟨rfl, b1⟩
  · have hg : ¬ ((s.size : Int) > 60) := by omega
    obtain ⟨H, hH⟩ : ∃ H, H = hex s.data.toList := ⟨_, rfl⟩
    obtain ⟨L, hL⟩ : ∃ L, L = b32 s.data.toList := ⟨_, rfl⟩
    have hHl : H.length = 2 * s.size := by rw [hH, hex_length]; simp
    have hLl : L.length = many32 s.size := by rw [hL, b32_length]; simp
    have hLn : L.length ≤ 100 := by rw [hLl]; unfold many32; omega
    have CH : ∀ w, Calls Try.prog 9 #[.string s] w fun e w2 => e = .returned (.string ⟨H.toArray⟩) ∧ Below w.heap.size w w2 := fun w => by rw [hH]; exact hex_any s w (by omega)
    have CL : ∀ w, Calls Try.prog 11 #[.string s] w fun e w2 => e = .returned (.string ⟨L.toArray⟩) ∧ Below w.heap.size w w2 := fun w => by rw [hL]; exact base32_any s w (by omega)
    have no : ∀ m : Array UInt8, m.size ≤ 2 → (∀ b, hex b ≠ H ++ m.toList) → ∀ w, Calls Try.prog 8 #[.string ((⟨H.toArray⟩ : ByteArray) ++ ⟨m⟩)] w fun e w2 => e = .returned noneV ∧ Below w.heap.size w w2 := fun m hm h w => by
      have := getHex_any ((⟨H.toArray⟩ : ByteArray) ++ ⟨m⟩) w (by rw [app_size]; omega)
      rw [app_data, getHex_none _ h] at this
      exact this
    have N1 := no #[65] (by decide) (fun b e => by
      have h1 := hex_length b
      rw [e, List.length_append, hHl] at h1
      simp at h1
      omega)
    have N2 := no #[65, 70] (by decide) (fun b e => by
      obtain ⟨d, hd, h2⟩ := hex_mem b 65 (by rw [e]; simp)
      exact (hexd_not d hd).1 h2.symm)
    have N3 := no #[103, 48] (by decide) (fun b e => by
      obtain ⟨d, hd, h2⟩ := hex_mem b 103 (by rw [e]; simp)
      exact (hexd_not d hd).2 h2.symm)
    have N4 : ∀ w, Calls Try.prog 10 #[.string ((⟨L.toArray⟩ : ByteArray) ++ ⟨#[101]⟩), .int .i64 (s.size : Int)] w fun e w2 => e = .returned noneV ∧ Below w.heap.size w w2 := fun w => by
      have := getBase32_in ((⟨L.toArray⟩ : ByteArray) ++ ⟨#[101]⟩) s.size (by omega) w (by rw [app_size]; simp; omega)
      rw [app_data, get32_none _ _ (by rw [List.length_append, hLl]; simp)] at this
      exact this
    have N5 : ∀ w, Calls Try.prog 10 #[.string ⟨#[101, 48]⟩, .int .i64 1] w fun e w2 => e = .returned noneV ∧ Below w.heap.size w w2 := fun w => by
      have := getBase32_in ⟨#[101, 48]⟩ 1 (by decide) w (by decide)
      rwa [show get32 (⟨#[101, 48]⟩ : ByteArray).data.toList 1 = none by decide +kernel] at this
    have N6 : ∀ (q : Int), q ≤ -1 → ∀ w, Calls Try.prog 10 #[.string ⟨#[]⟩, .int .i64 q] w fun e w2 => e = .returned noneV ∧ Below w.heap.size w w2 := fun q hq w => by
      have := getBase32_any ⟨#[]⟩ q w (by decide)
      rwa [get32I_out _ _ (.inl (by omega))] at this
    have N7 : ∀ w, Calls Try.prog 10 #[.string ⟨#[122, 48]⟩, .int .i64 1] w fun e w2 => e = .returned noneV ∧ Below w.heap.size w w2 := fun w => by
      have := getBase32_in ⟨#[122, 48]⟩ 1 (by decide) w (by decide)
      rwa [show get32 (⟨#[122, 48]⟩ : ByteArray).data.toList 1 = none by decide +kernel] at this
    have N8 : ∀ w, Calls Try.prog 10 #[.string ⟨#[55, 122]⟩, .int .i64 1] w fun e w2 => e = .returned (.tuple #[.string ⟨#[255]⟩, .bool true]) ∧ Below w.heap.size w w2 := fun w => by
      have := getBase32_in ⟨#[55, 122]⟩ 1 (by decide) w (by decide)
      rwa [show get32 (⟨#[55, 122]⟩ : ByteArray).data.toList 1 = some [255] by decide +kernel] at this
    have l1 : ¬ 9223372036854775807 < H.length + 1 := by omega
    have l2 : ¬ 9223372036854775807 < H.length + 2 := by omega
    have l3 : ¬ 9223372036854775807 < L.length + 1 := by omega
    clear no hH hL hHl hLl
    unfold noneV at *
    have b : Below w.heap.size w w := Below.refl _ w
    replace N6 := N6 (min n (-1)) (by omega)
    go_enter Try.func4, Try.ntmps4
    go_wp2_with (first
      | (go_at_call 9; refine (CH _).mono ?_; rintro e w1 ⟨rfl, b1⟩; replace b := below_then b b1; clear b1)
      | (go_at_call 8; refine (N1 _).mono ?_; clear N1; rintro e w2 ⟨rfl, b1⟩; replace b := below_then b b1; clear b1)
      | (go_at_call 8; refine (N2 _).mono ?_; clear N2; rintro e w2 ⟨rfl, b1⟩; replace b := below_then b b1; clear b1)
      | (go_at_call 8; refine (N3 _).mono ?_; clear N3; rintro e w2 ⟨rfl, b1⟩; replace b := below_then b b1; clear b1)
      | (go_at_call 11; refine (CL _).mono ?_; rintro e w1 ⟨rfl, b1⟩; replace b := below_then b b1; clear b1)
      | (go_at_call 10; refine (N4 _).mono ?_; clear N4; rintro e w2 ⟨rfl, b1⟩; replace b := below_then b b1; clear b1)
      | (go_at_call 10; refine (N5 _).mono ?_; clear N5; rintro e w2 ⟨rfl, b1⟩; replace b := below_then b b1; clear b1)
      | (go_at_call 10; refine (N6 _).mono ?_; clear N6; rintro e w2 ⟨rfl, b1⟩; replace b := below_then b b1; clear b1)
      | (go_at_call 10; refine (N7 _).mono ?_; clear N7; rintro e w2 ⟨rfl, b1⟩; replace b := below_then b b1; clear b1)
      | (go_at_call 10; refine (N8 _).mono ?_; clear N8; rintro e w2 ⟨rfl, b1⟩; replace b := below_then b b1; clear b1)
      | (go_at_call 6; refine (awake_ok _).mono ?_; rintro e w2 ⟨rfl, b1⟩; replace b := below_then b b1; clear b1))
    go_ret
    exact ⟨rfl, b⟩
end Go.Proofs.Ytkkdcecnegdipaa
