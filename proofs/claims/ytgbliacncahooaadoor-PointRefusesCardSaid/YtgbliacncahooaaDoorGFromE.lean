/- From of package point, of texts that say a point but for a nought with a sign. No condition but what each names. -/
import Derived.Test.YtgbliacncahooaaDoorGFrA
import Derived.Test.YtgbliacncahooaaDoorGFromD
namespace Go.Proofs.YtgbliacncahooaaDoor
open Go.RowKit Go.Shelf
set_option linter.unusedVariables false
set_option linter.unusedSimpArgs false
def FromR (s : ByteArray) (d : (Nat × Nat) × Bool) : Prop := ∀ w, GlobT w → Glob w → Calls Tryd.prog 11 #[.string s] w fun e w' => e = .returned (.tuple #[.agg (ptV d.1), .bool d.2]) ∧ Below w.heap.size w w'
theorem fromR_of {s : ByteArray} {x y : Nat} {v : Bool} (h : ∀ w, GlobT w → Glob w → Calls Tryd.prog 11 #[.string s] w fun e w' => e = .returned (.tuple #[.agg (num x ++ num y), .bool v]) ∧ Below w.heap.size w w') : FromR s ((x, y), v) := h
theorem fromR_e (m : List UInt8) (b c : UInt8) (hm : m.length = 31) (hc : c.toNat = b.toNat % 128) (han : bits .andNot .u8 (b.toNat : Int) 128 = (c.toNat : Int)) (y : Nat) (hy : y = leVal m + c.toNat * 256 ^ 31) (hr : (rootF (fromU y)).2 = true) (hp : y < pp) : FromR ⟨(m ++ [b]).toArray⟩ (decQ y (b.toNat / 128)) := by
  have hb256 := b.toNat_lt
  refine decQ_cases (FromR ⟨(m ++ [b]).toArray⟩) y (b.toNat / 128) (by omega) ?_ ?_ ?_ ?_ ?_
  · intro h1
    exact absurd hp h1
  · intro h1 h2
    rw [hr] at h2
    cases h2
  · intro h1 h2 h3
    exact fromR_of (fun w hT hG => from_d0 m b c hm hc han y hy h1 h2 (by omega) w hT hG)
  · intro h1 h2 h3 h4
    exact fromR_of (fun w hT hG => from_d1 m b c hm hc han y hy h1 h2 h4 (by omega) w hT hG)
  · intro h1 h2 h3 h4
    exact fromR_of (fun w hT hG => from_e1 m b c hm hc han y hy h1 h2 h4 (by omega) w hT hG)
/-- Of a text whose Y has an X. -/
theorem from_has (s : ByteArray) (h : s.size = 32) (hp : leVal s.data.toList % hb < pp) (hr : (rootF (fromU (leVal s.data.toList % hb))).2 = true) : FromR s (fromP s) := by
  obtain ⟨m, b, hs, hm, hv⟩ := text_top s h
  obtain ⟨c, han, hc⟩ := andnot_b b
  rw [hv, split_mod _ _ (leVal_31 m hm), ← hc] at hp hr
  rw [fromP_parts h hm hv hc, hs]
  exact fromR_e m b c hm hc han _ rfl hr hp
end Go.Proofs.YtgbliacncahooaaDoor
