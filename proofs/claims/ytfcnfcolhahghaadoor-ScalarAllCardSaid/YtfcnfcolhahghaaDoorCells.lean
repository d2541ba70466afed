/- What several texts share: a result that is a cell, cells beside one that is stored. -/
import Derived.Test.YtfcnfcolhahghaaDoorMem
import Derived.RegionTactic
import Derived.Deep.RegionWith
import Derived.Deep.RegionHeld3
namespace Go.Proofs.YtfcnfcolhahghaaDoor
open Go.RowKit
set_option linter.unusedVariables false
theorem results_cell {fn : Func} {a : Tmp} {t : TypeId} (h : fn.results = #[.cell a t]) (tmps : Array Value) (P : Program) (w : World) (ad : Addr) (ha : tmps.getD a undef = .pointer (some ad)) (v : Value)
    (hl : (loadVar t ad).run P w = .ok v w) : (results fn tmps).run P w = .ok v w := by
  have ha2 : tmps[a]?.getD undef = .pointer (some ad) := by rw [← Array.getD_eq_getD_getElem?]; exact ha
  unfold results
  rw [h]
  simp [Array.mapM_eq_mapM_toList, ha2, asAddr, hl]
theorem cell_set_ne {w : World} {g j k : Nat} {v x : Value} (hj : j ≠ k) (h : w.cell? ⟨g, j, none⟩ = some x) : (w.setCell ⟨g, k, none⟩ v).cell? ⟨g, j, none⟩ = some x := by
  rw [← h]
  refine World.cell?_setCell_other (a := ⟨g, k, none⟩) (h := by intro e; injection e with _ e2 _; exact hj e2.symm) (w := w) (v := v)
theorem or_join (i a b : Nat) (hb : b < 2 ^ i) : a * 2 ^ i ||| b = a * 2 ^ i + b := by
  rw [Nat.mul_comm, Nat.two_pow_add_eq_or_of_lt hb]

end Go.Proofs.YtfcnfcolhahghaaDoor
