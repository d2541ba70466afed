/- From of package point, whole: the point whose bytes a text is, or none. No condition but that the numbers stand in memory. -/
import Derived.Test.YtgbliacncahooaaDoorGFromE
import Derived.Test.YtgbliacncahooaaDoorGFromP
namespace Go.Proofs.YtgbliacncahooaaDoor
open Go.RowKit Go.Shelf
set_option linter.unusedVariables false
set_option linter.unusedSimpArgs false
theorem fromR_a (s : ByteArray) (h : s.size ≠ 32) : FromR s (fromP s) := by
  have e : fromP s = ((0, 0), false) := by unfold fromP; rw [if_neg h]
  rw [e]
  exact fromR_of (fun w _ _ => from_a s h w)
theorem fromR_b (m : List UInt8) (b c : UInt8) (hm : m.length = 31) (hc : c.toNat = b.toNat % 128) (han : bits .andNot .u8 (b.toNat : Int) 128 = (c.toNat : Int)) (y : Nat) (hy : y = leVal m + c.toNat * 256 ^ 31) : FromR ⟨(m ++ [b]).toArray⟩ (decQ y (b.toNat / 128)) := by
  have hb256 := b.toNat_lt
  refine decQ_cases (FromR ⟨(m ++ [b]).toArray⟩) y (b.toNat / 128) (by omega) ?_ ?_ ?_ ?_ ?_
  · intro h1
    by_cases hq : b.toNat < 128
    · exact fromR_of (fun w hT hG => from_b0 m b c hm hc han y hy h1 hq w hT hG)
    · exact fromR_of (fun w hT hG => from_b1 m b c hm hc han y hy h1 hq w hT hG)
  · intro h1 h2
    by_cases hq : b.toNat < 128
    · exact fromR_of (fun w hT hG => from_c0 m b c hm hc han y hy h1 h2 hq w hT hG)
    · exact fromR_of (fun w hT hG => from_c1 m b c hm hc han y hy h1 h2 hq w hT hG)
  · intro h1 h2 h3
    exact fromR_of (fun w hT hG => from_d0 m b c hm hc han y hy h1 h2 (by omega) w hT hG)
  · intro h1 h2 h3 h4
    exact fromR_of (fun w hT hG => from_d1 m b c hm hc han y hy h1 h2 h4 (by omega) w hT hG)
  · intro h1 h2 h3 h4
    exact fromR_of (fun w hT hG => from_e1 m b c hm hc han y hy h1 h2 h4 (by omega) w hT hG)
theorem fromR_any (s : ByteArray) : FromR s (fromP s) := by
  by_cases h : s.size = 32
  · obtain ⟨m, b, hs, hm, hv⟩ := text_top s h
    obtain ⟨c, han, hc⟩ := andnot_b b
    rw [fromP_parts h hm hv hc, hs]
    exact fromR_b m b c hm hc han _ rfl
  · exact fromR_a s h
theorem from_pt (s : ByteArray) (w : World) (hT0 : GlobT w) (hG0 : Glob w) :
    Calls Tryd.prog 11 #[.string s] w fun e w' => e = .returned (.tuple #[.agg (ptV (fromP s).1), .bool (fromP s).2]) ∧ Below w.heap.size w w' := fromR_any s w hT0 hG0
end Go.Proofs.YtgbliacncahooaaDoor
