/- ScanAll's law over any values: slices of texts, as they came in, opened. No condition. -/
import Derived.Test.YtlofoeapfmcolaaX23
import Derived.Deep.Slices
import Derived.ProofKit
import Derived.OpenShut
import Derived.ChangeOld
import Derived.SizedLaws
import Derived.ChangeSlices
namespace Go.Proofs.Ytlofoeapfmcolaa
open Go.Deep Go.ChangeShapes Go.WideShapes Go.ChangeAt Go.RowKit
set_option linter.unusedVariables false
/-- Texts in memory. -/
def TxtV (W : World) (v : Value) (l : List (List UInt8)) : Prop := l.length ≤ 9223372036854775807 ∧ ∃ a cap, v = .slice a l.length cap ∧ (0 < l.length → ∃ b o, a = some ⟨b, o, none⟩ ∧ b < W.heap.size ∧ ∀ i (h : i < l.length), W.cell? ⟨b, o + i, none⟩ = some (stv l[i]))
theorem in_weights {H : Type} {P : Program} {e : TypeId} : ∀ {l : List (DataW H)} {d : DataW H}, d ∈ l → ∀ n ∈ d.weights P e, n ∈ DataW.weightsAll P e l
  | [], d, h, n, hn => by cases h
  | x :: l, d, h, n, hn => by
    rw [DataW.weightsAll]
    rcases List.mem_cons.1 h with rfl | h
    · exact List.mem_append.2 (.inl hn)
    · exact List.mem_append.2 (.inr (in_weights h n hn))
set_option maxRecDepth 100000 in
theorem texts_open {H : Type} {enc : TypeId × Value → H} {W : World} {fuel : Nat} {cs : List Value} {x : DataW H × List MemPlace} (h : DataW.trod enc Try.prog W 0 (fun _ => true) true fuel 22 cs = some x) :
    ∃ pa len ca l, cs = [.slice pa len ca] ∧ TxtV W (.slice pa len ca) l ∧ len ≤ ca ∧ ca ≤ 9223372036854775807 ∧ l.length = len ∧ ∀ c ∈ l, c.length ∈ x.1.weights Try.prog 22 := by
  rcases open_slice1 Try.underlying22 (by kernel_rfl) h with ⟨rfl, -⟩ | ⟨a, len, cap, m, fu, V, D, Pl, rfl, -, hl, hm, hmm, hx, hel⟩
  · exact ⟨none, 0, 0, [], rfl, ⟨by simp, none, 0, rfl, fun h => absurd h (Nat.lt_irrefl _)⟩, by omega, by omega, rfl, fun c hc => by cases hc⟩
  · have hlm : len ≤ m := by rw [hmm]; split <;> omega
    unfold maxLen at hm
    obtain ⟨g, off, spot⟩ := a
    have hsp : 0 < len → spot = none := fun h0 => by
      have := World.cell?_spot (hel 0 (by omega)).1
      simpa [Addr.add] using this
    have each : ∀ i, i < len → ∃ s : List UInt8, W.cell? ⟨g, off + i, none⟩ = some (stv s) ∧ D i = .lit (.string s) ∧ s.length ≤ 9223372036854775807 := by
      intro i hi
      obtain rfl := hsp (by omega)
      obtain ⟨h1, h2⟩ := hel i (by omega)
      obtain ⟨s0, e0, e1, o0⟩ := DataW.trod_string Try.underlying9 h2
      simp only [List.cons.injEq, and_true] at e0
      rw [e0, addr_add0] at h1
      unfold maxLen at o0
      exact ⟨s0.data.toList, h1, congrArg Prod.fst e1, by rw [Array.length_toList]; show s0.size ≤ _; omega⟩
    obtain ⟨A, hA⟩ := choose_lt each
    have hlen : ((List.range len).map A).length = len := by simp
    refine ⟨some ⟨g, off, spot⟩, len, cap, (List.range len).map A, rfl, ⟨by rw [hlen]; omega, _, cap, by rw [hlen], fun h0 => ?_⟩, hl, by omega, hlen, fun c hc => ?_⟩
    · rw [hlen] at h0
      obtain rfl := hsp h0
      refine ⟨g, off, rfl, block_lt_of_cell (hA 0 h0).1, fun i hi => ?_⟩
      rw [hlen] at hi
      rw [List.getElem_map, List.getElem_range]
      exact (hA i hi).1
    · obtain ⟨i, hi, rfl⟩ := List.mem_map.1 hc
      have hi2 := List.mem_range.1 hi
      rw [hx]
      simp only [DataW.weights, Try.underlying22]
      refine List.mem_cons_of_mem _ (List.mem_append.2 (.inl (in_weights (d := D i) (List.mem_map.2 ⟨i, hi, rfl⟩) _ ?_)))
      rw [(hA i hi2).2.1]
      simp [DataW.weights]
section
open E
theorem tx_row {W : World} {b o c : Nat} {ps : List (List UInt8)} (h0 : 0 < ps.length) (hb : b < W.heap.size) (h : ∀ i (h : i < ps.length), W.cell? ⟨b, o + i, none⟩ = some (stv ps[i])) (ρ : Env) (r : Nat) (hρ : ρ r = ⟨b, o, c⟩) : RowAt ρ r (strR ps) W := by
  unfold RowAt
  rw [hρ]
  refine ⟨hb, fun j v hv => ⟨?_, fun hw => by cases hw⟩, (fun e k hc => by cases hc), cells_of_cell1 (h 0 h0)⟩
  have hj : j < ps.length := by
    have := (List.getElem?_eq_some_iff.1 hv).1
    rw [lst_fnc, flat_len (k := 1) ps.length (fun _ _ => rfl)] at this
    omega
  rw [lst_fnc, flat_get (f := strF ps) (k := 1) (by omega) ps.length (fun _ _ => rfl) j (by omega), Nat.div_one, Nat.mod_one] at hv
  cases hv
  rw [h j hj, List.getD_eq_getElem?_getD, List.getElem?_eq_getElem hj]; rfl
/-- The law. -/
theorem all_any (W : World) (s o p : ByteArray) (v : Value) (ps : List (List UInt8)) (h : TxtV W v ps) : Calls Try.prog 3 #[.string s, v, .string o, .string p] W (FrQ W) := by
  obtain ⟨hl, a, ca, rfl, hr⟩ := h
  rcases Nat.eq_zero_or_pos ps.length with e | e
  · rw [e]
    exact all_nil s.data.toList o.data.toList p.data.toList a ca W
  · obtain ⟨g, of, rfl, hb, hx⟩ := hr e
    exact all_pos s.data.toList o.data.toList p.data.toList ps W (fun _ => ⟨g, of, ca⟩) (tx_row (c := ca) e hb hx _ 1 rfl)
end
end Go.Proofs.Ytlofoeapfmcolaa
