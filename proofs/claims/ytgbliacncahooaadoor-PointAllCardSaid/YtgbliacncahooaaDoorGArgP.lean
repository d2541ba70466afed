/- A point as an argument: how it reads. No condition. -/
import Derived.Test.YtgbliacncahooaaDoorGKer
import Derived.ChangeArms
namespace Go.Proofs.YtgbliacncahooaaDoor
open Go.ChangeShapes Go.WideShapes Go.ChangeAt Go.RowKit
set_option linter.unusedVariables false
theorem num_of_trod {H : Type} {enc : TypeId × Value → H} {W : World} {sp : Nat → Bool} {held : Bool} {b2 m : Nat} {cs : List Value} {z : DataW H × List MemPlace} (hl : cs.length = 4) (hf : DataW.trod enc Tryd.prog W b2 sp held m 24 cs = some z) :
    ∃ N : Nat, N < 115792089237316195423570985008687907853269984665640564039457584007913129639936 ∧ cs.toArray = num N := by
  match cs, hl with
  | [c0, c1, c2, c3], _ =>
    obtain ⟨y0, y1, y2, y3, m, hx, hy0, hy1, hy2, hy3⟩ := trod_array4 Tryd.underlying24 cells22' hf
    obtain ⟨x0, e0, rfl, w0⟩ := DataW.trod_int Tryd.underlying22 hy0
    obtain ⟨x1, e1, rfl, w1⟩ := DataW.trod_int Tryd.underlying22 hy1
    obtain ⟨x2, e2, rfl, w2⟩ := DataW.trod_int Tryd.underlying22 hy2
    obtain ⟨x3, e3, rfl, w3⟩ := DataW.trod_int Tryd.underlying22 hy3
    simp at e0 e1 e2 e3
    subst e0 e1 e2 e3
    obtain ⟨n0, rfl, l0⟩ := word_of w0
    obtain ⟨n1, rfl, l1⟩ := word_of w1
    obtain ⟨n2, rfl, l2⟩ := word_of w2
    obtain ⟨n3, rfl, l3⟩ := word_of w3
    have hlt : ∀ j, four n0 n1 n2 n3 j < 18446744073709551616 := by
      intro j
      unfold four
      split <;> first | assumption | decide
    refine ⟨valN (four n0 n1 n2 n3), ?_, ?_⟩
    · show n0 + n1 * 18446744073709551616 + n2 * 340282366920938463463374607431768211456 + n3 * 6277101735386680763835789423207666416102355444464034512896 < _
      omega
    · rw [num_val _ hlt]
      rfl
theorem cells26' : Tryd.prog.cellsOf 26 = 8 := by kernel_rfl
theorem open_pt {H : Type} {enc : TypeId × Value → H} {W : World} {base : Nat} {sp : Nat → Bool} {held : Bool} {v : Value} {d : DataW H} {p : List MemPlace} {b2 : Nat} (hv : Value.okWide Tryd.prog W .any base 26 v) (h : DataW.Trod enc Tryd.prog W b2 sp held 26 v d p) :
    ∃ x y : Nat, (x < 115792089237316195423570985008687907853269984665640564039457584007913129639936 ∧ y < 115792089237316195423570985008687907853269984665640564039457584007913129639936) ∧ v = .agg (num x ++ num y) := by
  obtain ⟨cs, rfl, hsz⟩ : ∃ cs : Array Value, v = .agg cs ∧ cs.size = Tryd.prog.cellsOf 26 := by
    simp only [Value.okWide, Tryd.underlying26] at hv
    obtain ⟨cs, h1, h2, _⟩ := hv
    exact ⟨cs, h1, h2⟩
  rw [cells26'] at hsz
  obtain ⟨fuel, hf⟩ := h
  obtain ⟨xs, n, rfl, hx, hlen, hn, hel⟩ := DataW.trod_struct Tryd.underlying26 hf
  have h0 := hel 0 _ rfl
  have h1 := hel 1 _ rfl
  have hn2 : xs.length = 2 := hn
  have hcl : cs.toList.length = 8 := by simpa using hsz
  have h0' : DataW.trod enc Tryd.prog W b2 sp held n 24 (cs.toList.take (Tryd.prog.cellsOf 24)) = xs[0]? := h0
  have h1' : DataW.trod enc Tryd.prog W b2 sp held n 24 ((cs.toList.drop 4).take (Tryd.prog.cellsOf 24)) = xs[1]? := h1
  rw [cells24', List.getElem?_eq_getElem (by omega)] at h0' h1'
  obtain ⟨x, hx1, ex⟩ := num_of_trod (by rw [List.length_take]; omega) h0'
  obtain ⟨y, hy1, ey⟩ := num_of_trod (by rw [List.length_take, List.length_drop]; omega) h1'
  refine ⟨x, y, ⟨hx1, hy1⟩, ?_⟩
  rw [← ex, ← ey, List.append_toArray, List.take_of_length_le (l := cs.toList.drop 4) (by rw [List.length_drop]; omega), List.take_append_drop]
end Go.Proofs.YtgbliacncahooaaDoor
