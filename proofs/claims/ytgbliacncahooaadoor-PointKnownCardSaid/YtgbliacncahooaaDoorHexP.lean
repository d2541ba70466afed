/- Hex of the document's package: the letters of bytes. One byte or more, up to a thousand. -/
import Derived.Test.YtgbliacncahooaaDoorGKer
import Derived.Deep.RegionLaw
import Derived.BigRegion
namespace Go.Proofs.YtgbliacncahooaaDoor
open Go.RowKit
set_option linter.unusedVariables false
def hexd (n : Nat) : UInt8 := if n < 10 then UInt8.ofNat (48 + n) else UInt8.ofNat (87 + n)
def hex : List UInt8 → List UInt8
  | [] => []
  | c :: l => hexd (c.toNat / 16) :: hexd (c.toNat % 16) :: hex l
theorem step_run {P : Program} {ops : Array Oper} {o : Oper} {a : Act} {w w2 : World} {K : Act → World → Prop} {Q : Exit → Act → World → Prop} (hg : o.guard = none) (v : Value)
    (hrun : (execOp a.eval o).run P w = .ok (.value v) w2) (h : K (a.put o.dst v) w2) : (if Region.wanted o (yielded ops a.tmps) = true then o.wp P a w K Q else K (a.put o.dst undef) w) := by
  rw [if_pos (by simp [Region.wanted, hg])]
  unfold Oper.wp
  rw [hrun]
  exact h
def hexs : ByteArray := ⟨#[48, 49, 50, 51, 52, 53, 54, 55, 56, 57, 97, 98, 99, 100, 101, 102]⟩
theorem take_snoc (s : ByteArray) (k : Nat) (h : k < s.size) : s.data.toList.take (k + 1) = s.data.toList.take k ++ [s[k]] := by
  rw [List.take_succ_eq_append_getElem (by simpa using h)]; rfl
theorem hex_append : ∀ l m : List UInt8, hex (l ++ m) = hex l ++ hex m
  | [], _ => rfl
  | c :: l, m => by show _ :: _ :: hex (l ++ m) = _; rw [hex_append l m]; rfl
theorem hexs_get (q : Nat) (hq : q < 16) : ∀ h, (hexs[q]'h) = hexd q := by
  rcases (show q = 0 ∨ q = 1 ∨ q = 2 ∨ q = 3 ∨ q = 4 ∨ q = 5 ∨ q = 6 ∨ q = 7 ∨ q = 8 ∨ q = 9 ∨ q = 10 ∨ q = 11 ∨ q = 12 ∨ q = 13 ∨ q = 14 ∨ q = 15 by omega) with rfl | rfl | rfl | rfl | rfl | rfl | rfl | rfl | rfl | rfl | rfl | rfl | rfl | rfl | rfl | rfl <;> exact fun _ => rfl
theorem hexs_get2 (c : Nat) (hc : c < 256) : ∀ h, (hexs[((c : Int) / 16).toNat]'h) = hexd (c / 16) := by
  have e : ((c : Int) / 16).toNat = c / 16 := by omega
  rw [e]
  exact hexs_get (c / 16) (by omega)
theorem u8_and15 (c : Nat) (hc : c < 256) : bits .and .u8 (c : Int) 15 = ((c % 16 : Nat) : Int) := by
  have h : ∀ c : Nat, c < 256 → bits .and .u8 (c : Int) 15 = ((c % 16 : Nat) : Int) := by decide +kernel
  exact h c hc
set_option maxRecDepth 100000 in
set_option maxHeartbeats 1000000 in
theorem hex_any (s : ByteArray) (hs : s.size ≤ 1000) (hpos : 0 < s.size) (w : World) :
    Calls Tryd.prog 27 #[.string s] w fun e w' => e = .returned (.string ⟨(hex s.data.toList).toArray⟩) ∧ Below w.heap.size w w' := by
  obtain ⟨tl, htl⟩ : ∃ tl, Hid (tl = hex s.data.toList) := ⟨_, Lib.hid rfl⟩
  rw [← htl.out]
  go_enter Tryd.func27, Tryd.ntmps27
  go_wp2
  rw [show ({ data := #[48, 49, 50, 51, 52, 53, 54, 55, 56, 57, 97, 98, 99, 100, 101, 102] } : ByteArray) = hexs from rfl]
  go_loopw [4, 5] (fun v i wr => ∃ k : Nat, k ≤ s.size ∧ i = .int .i64 k ∧ wr.ownsRow w.heap.size 5 1 v (2 * k) (bytesV (hex (s.data.toList.take k))) ∧ Below w.heap.size w wr) (fun _ i _ => s.size - (intOf i).toNat)
  case atStart => exact ⟨0, Nat.zero_le _, rfl, World.ownsRow_nil _ _ _ _, Below.refl _ _⟩
  case round =>
    obtain ⟨k, hk, rfl, hown, hb⟩ := hrel
    by_cases hlt : k < s.size
    · have hsn := take_snoc s k hlt
      have HX := Lib.hid (show hex (s.data.toList.take (k + 1)) = hex (s.data.toList.take k) ++ [hexd (s[k].toNat / 16), hexd (s[k].toNat % 16)] by rw [hsn, hex_append]; rfl)
      have hc : s[k].toNat < 256 := UInt8.toNat_lt _
      have hand := u8_and15 s[k].toNat hc
      have hz16 : hexs.size = 16 := rfl
      have g1 := hexs_get2 s[k].toNat hc
      have i1 : (0 : Int) ≤ (s[k].toNat : Int) / 16 := by omega
      have i2 : (s[k].toNat : Int) / 16 < 16 := by omega
      obtain ⟨m, hm⟩ : ∃ m, m = s[k].toNat % 16 := ⟨_, rfl⟩
      rw [← hm] at hand HX
      have i3 : (m : Int) < 16 := by omega
      have g2 := hexs_get m (by omega)
      clear hsn hm
      generalize hexd (s[k].toNat / 16) = d1 at *
      generalize hexd m = d2 at *
      obtain ⟨v', W3, happ, hown', hb', hz'⟩ := bytes_app (wr := wr.drew) hown hb.drew hb.size [d1, d2] 2 rfl _ rfl (by omega)
      have HAPP := Lib.hid happ
      have HO := Lib.hid hown'
      have HF := Lib.hid hb'
      clear happ hown' hb' hown hb hz'
      go_wp2
      go_region_law ((refine step_run rfl _ (HAPP.out _ _ (.tmp 12) (.tmp 25) rfl rfl rfl) ?_))
      all_goals
        go_wp2
        go_roundw
        case rel => exact ⟨k + 1, by omega, by go_num, by rw [HX.out, show 2 * (k + 1) = 2 * k + 2 by omega]; exact HO.out, HF.out⟩
        case measure => simp [intOf]; omega
    · have hk2 : k = s.size := by omega
      subst hk2
      have hall : hex (s.data.toList.take s.size) = tl := by rw [htl.out, List.take_of_length_le (by exact Nat.le_refl _)]
      rw [hall] at hown
      have HB := Lib.hid hb
      obtain ⟨g, cap, rfl, hcv⟩ := bytes_str hown (by omega)
      clear hown hb hall hpos
      go_wp2
      go_ret
      exact ⟨rfl, HB.out⟩
end Go.Proofs.YtgbliacncahooaaDoor
