/- What comes behind n bytes so that they end with a block: tail of package sha, up to a million bytes. -/
import Derived.Test.YtjkbbndiickcnaaDoorTold
namespace Go.Proofs.YtjkbbndiickcnaaDoor
open Go.RowKit
set_option linter.unusedVariables false
def lenOf : Value → Nat
  | .slice _ n _ => n
  | _ => 0
theorem fill_lt (n : Nat) : fill n < 64 := Nat.mod_lt _ (by decide)
theorem fill_end (n : Nat) : (n + 1 + fill n) % 64 = 56 := by unfold fill; omega
theorem fill_not (n k : Nat) (h : k < fill n) : (n + 1 + k) % 64 ≠ 56 := by unfold fill at h; omega
def zs (k : Nat) : List UInt8 := 128 :: List.replicate k 0
theorem zs_succ (k : Nat) : zs (k + 1) = zs k ++ [0] := by unfold zs; rw [List.replicate_succ', List.cons_append]
theorem be8_get (N k : Nat) (hk : k < 8) : (be8 N).take (k + 1) = (be8 N).take k ++ [UInt8.ofNat (N / 2 ^ (8 * (7 - k)))] := by
  rcases (show k = 0 ∨ k = 1 ∨ k = 2 ∨ k = 3 ∨ k = 4 ∨ k = 5 ∨ k = 6 ∨ k = 7 by omega) with rfl | rfl | rfl | rfl | rfl | rfl | rfl | rfl
  all_goals simp [be8]
theorem one_of (N : Nat) : bytesV [UInt8.ofNat N] = [.int .u8 ((N : Int) % 256)] := by
  unfold bytesV
  simp only [List.map_cons, List.map_nil]
  rw [UInt8.toNat_ofNat']
  rfl
theorem one_of2 (n e : Nat) : bytesV [UInt8.ofNat (8 * n / 2 ^ e)] = [.int .u8 (8 * (n : Int) / 2 ^ e % 256)] := by
  rw [one_of, show 8 * (n : Int) = ((8 * n : Nat) : Int) by omega, shr_cast]
theorem tailN_eq (n : Nat) : zs (fill n) ++ be8 (8 * n) = tailN n := rfl
set_option maxRecDepth 100000 in
set_option maxHeartbeats 1000000 in
theorem tail_any (n : Nat) (hn : n ≤ 1000000) (w : World) :
    Calls Tryd.prog 24 #[.int .i64 n] w fun e w' => e = .returned (.string ⟨(tailN n).toArray⟩) ∧ Below w.heap.size w w' := by
  obtain ⟨tl, htl⟩ : ∃ tl, Hid (tl = tailN n) := ⟨_, Lib.hid rfl⟩
  rw [← htl.out]
  obtain ⟨F, hF⟩ : ∃ F, Hid (F = fill n) := ⟨_, Lib.hid rfl⟩
  have hF64 : F < 64 := by rw [hF.out]; exact fill_lt n
  go_enter Tryd.func24, Tryd.ntmps24
  go_wp2
  go_loopw [3] (fun v wr => ∃ k g cap : Nat, k ≤ F ∧ v = .slice (some ⟨g, 0, none⟩) (k + 1) cap ∧ wr.ownsRow w.heap.size 5 1 v (k + 1) (bytesV (zs k)) ∧ Below w.heap.size w wr) (fun v _ => F + 1 - lenOf v)
  case atStart =>
    refine ⟨0, _, _, by omega, rfl, ⟨rfl, Or.inr ⟨_, _, _, rfl, Nat.le_refl _, heap_alloc_new w _, by omega, by unfold maxLen; omega, rfl, rfl⟩⟩, (Below.refl _ w).alloc (Nat.le_refl _) _⟩
  case round =>
    obtain ⟨k, g, cap, hk, rfl, hown, hb⟩ := hrel
    by_cases hlt : k < F
    · have hne := fill_not n k (by rw [← hF.out]; exact hlt)
      have h1 : ((n : Int) + (k + 1)) % 64 ≠ 56 := by omega
      have h2 : (((n : Int) + (k + 1)) % 64 != 56) = true := by rw [bne_iff_ne]; exact h1
      obtain ⟨v', W3, happ, hown', hb', hz'⟩ := bytes_app hown hb hb.size [0] 1 rfl _ rfl (by omega)
      rw [← zs_succ] at hown'
      have HAPP := Lib.hid happ
      have HO := Lib.hid hown'
      have HF := Lib.hid hb'
      clear happ hown' hb' hown hb hz' hne h1
      go_wp2_with (at_builtin; refine wpList_run rfl _ (HAPP.out _ _ (.tmp 13) (.tmp 14) rfl rfl rfl) ?_)
      rcases HO.out.2 with ⟨_, h0⟩ | ⟨g2, cap2, cur2, rfl, _⟩
      · omega
      · go_roundw
        case rel => exact ⟨k + 1, g2, cap2, by omega, rfl, HO.out, HF.out⟩
        case measure => simp [lenOf]; omega
    · obtain rfl : k = F := by omega
      have hne := fill_end n
      rw [← hF.out] at hne
      have h2 : (((n : Int) + (k + 1)) % 64 != 56) = false := by rw [bne_eq_false_iff_eq]; omega
      have HO := Lib.hid hown
      have HB := Lib.hid hb
      clear hown hb hne
      go_wp2
      obtain ⟨wo, rfl⟩ : ∃ wo : World, wo = wr := ⟨_, rfl⟩
      go_loopw [3, 5] (fun v i wr => ∃ q g cap : Nat, q ≤ 8 ∧ i = .int .i64 (7 - (q : Int)) ∧ v = .slice (some ⟨g, 0, none⟩) (k + 1 + q) cap ∧ wr.ownsRow w.heap.size 5 1 v (k + 1 + q) (bytesV (zs k ++ (be8 (8 * n)).take q)) ∧ Below w.heap.size w wr) (fun _ i _ => (1 + intOf i).toNat)
      case atStart => exact ⟨0, g, cap, by omega, rfl, rfl, by rw [List.take_zero, List.append_nil]; exact HO.out, HB.out⟩
      case round =>
        clear HO HB
        obtain ⟨q, g, cap, hq, rfl, rfl, hown, hb⟩ := hrel
        by_cases hlt2 : q < 8
        · obtain ⟨v', W3, happ, hown', hb', hz'⟩ := bytes_app hown hb hb.size [UInt8.ofNat (8 * n / 2 ^ (8 * (7 - q)))] 1 rfl _ (congrArg List.toArray (one_of2 n (8 * (7 - q))).symm) (by omega)
          rw [List.append_assoc, ← be8_get (8 * n) q hlt2] at hown'
          have HAPP := Lib.hid happ
          have HO := Lib.hid hown'
          have HF := Lib.hid hb'
          clear happ hown' hb' hown hb hz'
          go_wp2_with (at_builtin; refine wpList_run rfl _ (HAPP.out _ _ (.tmp 23) (.tmp 29) rfl rfl rfl) ?_)
          rcases HO.out.2 with ⟨_, h0⟩ | ⟨g2, cap2, cur2, rfl, _⟩
          · omega
          · go_roundw
            case rel => exact ⟨q + 1, g2, cap2, by omega, congrArg (Value.int IntKind.i64) (by omega), rfl, HO.out, HF.out⟩
            case measure => simp [intOf]; omega
        · obtain rfl : q = 8 := by omega
          obtain ⟨g2, cap2, he, hcv⟩ := bytes_str hown (by omega)
          obtain ⟨rfl, rfl⟩ : g2 = g ∧ cap2 = cap := by
            injection he with h1 _ h3
            injection h1 with h1
            injection h1 with h1
            exact ⟨h1.symm, h3.symm⟩
          have htl2 : zs k ++ (be8 (8 * n)).take 8 = tl := by rw [htl.out, hF.out, ← tailN_eq]; rfl
          rw [htl2] at hcv
          have HB := Lib.hid hb
          clear hown hb htl2 he
          go_wp2
          go_ret
          exact ⟨rfl, HB.out⟩
end Go.Proofs.YtjkbbndiickcnaaDoor
