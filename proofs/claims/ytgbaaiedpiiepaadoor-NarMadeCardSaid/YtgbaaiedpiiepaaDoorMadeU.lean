/- NarMade for any slices: numbers as they came in, opened; the law over values. Its condition: numbers of at most 2^47. -/
import Derived.Test.YtgbaaiedpiiepaaDoorV24
import Derived.Deep.Slices
import Derived.ProofKit
import Derived.OpenShut
import Derived.ChangeOld
import Derived.SizedLaws
import Derived.ChangeSlices
namespace Go.Proofs.YtgbaaiedpiiepaaDoor
open Go.Deep Go.ChangeShapes Go.WideShapes Go.ChangeAt Go.RowKit
set_option linter.unusedVariables false
theorem strV_of (s : ByteArray) : Value.string s = strV s.data.toList := rfl
theorem addr_add {g o i : Nat} : (⟨g, o, none⟩ : Addr).add i = ⟨g, o + i, none⟩ := by unfold Addr.add; split <;> simp_all
set_option maxRecDepth 100000 in
theorem nodes_open {H : Type} {enc : TypeId × Value → H} {W : World} {fuel : Nat} {cs : List Value} {x : DataW H × List MemPlace} (h : DataW.trod enc Tryd.prog W 0 (fun _ => true) true fuel 22 cs = some x) :
    ∃ pa len ca l, cs = [.slice pa len ca] ∧ NdV W (.slice pa len ca) l ∧ l.length ≤ 9223372036854775807 ∧ (∀ c ∈ l, c.path.length ≤ 9223372036854775807) ∧ ∀ c ∈ l, c.data.length ≤ 9223372036854775807 := by
  rcases open_slice Tryd.underlying22 h with ⟨rfl, -⟩ | ⟨a, len, cap, m, fu, D, Pl, rfl, -, hl, hm, hmm, -, hel⟩
  · exact ⟨none, 0, 0, [], rfl, ⟨none, 0, rfl, Nat.le_refl _, by omega, fun h => absurd h (Nat.lt_irrefl _)⟩, by simp, (fun c hc => by cases hc), fun c hc => by cases hc⟩
  · have c42 : Tryd.prog.cellsOf 42 = 3 := by kernel_rfl
    have hlm : len ≤ m := by rw [hmm]; split <;> omega
    unfold maxLen at hm
    obtain ⟨g, off, spot⟩ := a
    have hsp : 0 < len → spot = none := by
      intro h0
      obtain ⟨cs', h1, h2⟩ := hel 0 (by omega)
      rw [c42] at h1
      obtain ⟨-, hlen, hcell⟩ := World.cells?_some h1
      have hc0 := hcell 0 (by omega)
      rw [List.getElem?_eq_getElem (by omega)] at hc0
      have := World.cell?_spot hc0
      simpa [Addr.add] using this
    have each : ∀ i, i < len → ∃ d : Nd, W.cell? ⟨g, off + i * 3, none⟩ = some (strV d.path) ∧ W.cell? ⟨g, off + i * 3 + 1, none⟩ = some (.int .i64 d.kind) ∧ W.cell? ⟨g, off + i * 3 + 2, none⟩ = some (strV d.data) ∧ d.path.length ≤ 9223372036854775807 ∧ d.data.length ≤ 9223372036854775807 := by
      intro i hi
      obtain rfl := hsp (by omega)
      obtain ⟨cs', h1, h2⟩ := hel i (by omega)
      rw [c42] at h1
      obtain ⟨-, hlen, hcell⟩ := World.cells?_some h1
      obtain ⟨xs, k, -, -, -, hxl, hf⟩ := DataW.trod_struct Tryd.underlying42 h2
      have f0 : DataW.trod enc Tryd.prog W 0 (fun _ => true) true k 9 (List.take (Tryd.prog.cellsOf 9) (List.drop 0 cs')) = xs[0]? := hf 0 _ rfl
      have f1 : DataW.trod enc Tryd.prog W 0 (fun _ => true) true k 3 (List.take (Tryd.prog.cellsOf 3) (List.drop 1 cs')) = xs[1]? := hf 1 _ rfl
      have f2 : DataW.trod enc Tryd.prog W 0 (fun _ => true) true k 9 (List.take (Tryd.prog.cellsOf 9) (List.drop 2 cs')) = xs[2]? := hf 2 _ rfl
      match cs', hlen with
      | [v0, v1, v2], _ =>
        have c3 : Tryd.prog.cellsOf 3 = 1 := by kernel_rfl
        have c9 : Tryd.prog.cellsOf 9 = 1 := by kernel_rfl
        rw [c3] at f1
        rw [c9] at f0 f2
        simp only [List.drop_zero, List.drop_succ_cons, List.take_succ_cons, List.take_zero] at f0 f1 f2
        have g0 : ∃ y, DataW.trod enc Tryd.prog W 0 (fun _ => true) true k 9 [v0] = some y := ⟨_, f0.trans (List.getElem?_eq_getElem (by rw [hxl]; decide))⟩
        have g1 : ∃ y, DataW.trod enc Tryd.prog W 0 (fun _ => true) true k 3 [v1] = some y := ⟨_, f1.trans (List.getElem?_eq_getElem (by rw [hxl]; decide))⟩
        have g2 : ∃ y, DataW.trod enc Tryd.prog W 0 (fun _ => true) true k 9 [v2] = some y := ⟨_, f2.trans (List.getElem?_eq_getElem (by rw [hxl]; decide))⟩
        clear f0 f1 f2 hf
        obtain ⟨y0, g0⟩ := g0
        obtain ⟨y1, g1⟩ := g1
        obtain ⟨y2, g2⟩ := g2
        obtain ⟨s0, e0, -, o0⟩ := DataW.trod_string Tryd.underlying9 g0
        obtain ⟨n1, e1, -, o1⟩ := DataW.trod_int Tryd.underlying3 g1
        obtain ⟨s2, e2, -, o2⟩ := DataW.trod_string Tryd.underlying9 g2
        simp only [List.cons.injEq, and_true] at e0 e1 e2
        subst e0 e1 e2
        have hcell2 : ∀ j, j < 3 → W.cell? ⟨g, off + i * 3 + j, none⟩ = [Value.string s0, .int .i64 n1, .string s2][j]? := by
          intro j hj
          have := hcell j hj
          rw [addr_add, addr_add] at this
          exact this
        unfold maxLen at o0 o2
        refine ⟨⟨s0.data.toList, n1, s2.data.toList⟩, hcell2 0 (by omega), hcell2 1 (by omega), hcell2 2 (by omega), ?_, ?_⟩
        · show s0.data.toList.length ≤ _
          rw [Array.length_toList]; show s0.size ≤ _; omega
        · show s2.data.toList.length ≤ _
          rw [Array.length_toList]; show s2.size ≤ _; omega
    haveI : Inhabited Nd := ⟨⟨[], 0, []⟩⟩
    obtain ⟨A, hA⟩ := choose_lt each
    have hlen : ((List.range len).map A).length = len := by simp
    have hmem : ∀ c ∈ (List.range len).map A, ∃ i, i < len ∧ A i = c := fun c hc => by
      obtain ⟨i, hi, e⟩ := List.mem_map.1 hc
      exact ⟨i, List.mem_range.1 hi, e⟩
    refine ⟨some ⟨g, off, spot⟩, len, cap, (List.range len).map A, rfl, ⟨_, cap, by rw [hlen], by rw [hlen]; exact hl, by omega, fun h0 => ?_⟩, by rw [hlen]; omega, fun c hc => ?_, fun c hc => ?_⟩
    · rw [hlen] at h0
      obtain rfl := hsp h0
      refine ⟨g, off, rfl, block_lt_of_cell (hA 0 h0).1, fun i hi => ?_⟩
      rw [hlen] at hi
      rw [List.getElem_map, List.getElem_range]
      exact ⟨(hA i hi).1, (hA i hi).2.1, (hA i hi).2.2.1⟩
    · obtain ⟨i, hi, rfl⟩ := hmem c hc
      exact (hA i hi).2.2.2.1
    · obtain ⟨i, hi, rfl⟩ := hmem c hc
      exact (hA i hi).2.2.2.2
set_option maxRecDepth 100000 in
theorem texts_open {H : Type} {enc : TypeId × Value → H} {W : World} {fuel : Nat} {cs : List Value} {x : DataW H × List MemPlace} (h : DataW.trod enc Tryd.prog W 0 (fun _ => true) true fuel 38 cs = some x) :
    ∃ pa len ca l, cs = [.slice pa len ca] ∧ TxtV W (.slice pa len ca) l ∧ len ≤ ca ∧ ca ≤ 9223372036854775807 ∧ l.length = len ∧ ∀ c ∈ l, c.length ≤ 9223372036854775807 := by
  rcases open_slice1 Tryd.underlying38 (by kernel_rfl) h with ⟨rfl, -⟩ | ⟨a, len, cap, m, fu, V, D, Pl, rfl, -, hl, hm, hmm, -, hel⟩
  · exact ⟨none, 0, 0, [], rfl, ⟨by simp, none, 0, rfl, fun h => absurd h (Nat.lt_irrefl _)⟩, by omega, by omega, rfl, fun c hc => by cases hc⟩
  · have hlm : len ≤ m := by rw [hmm]; split <;> omega
    unfold maxLen at hm
    obtain ⟨g, off, spot⟩ := a
    have hsp : 0 < len → spot = none := fun h0 => by
      have := World.cell?_spot (hel 0 (by omega)).1
      simpa [Addr.add] using this
    have each : ∀ i, i < len → ∃ s : List UInt8, W.cell? ⟨g, off + i, none⟩ = some (strV s) ∧ s.length ≤ 9223372036854775807 := by
      intro i hi
      obtain rfl := hsp (by omega)
      obtain ⟨h1, h2⟩ := hel i (by omega)
      obtain ⟨s0, e0, -, o0⟩ := DataW.trod_string Tryd.underlying9 h2
      simp only [List.cons.injEq, and_true] at e0
      rw [e0, addr_add] at h1
      unfold maxLen at o0
      exact ⟨s0.data.toList, h1, by rw [Array.length_toList]; show s0.size ≤ _; omega⟩
    obtain ⟨A, hA⟩ := choose_lt each
    have hlen : ((List.range len).map A).length = len := by simp
    refine ⟨some ⟨g, off, spot⟩, len, cap, (List.range len).map A, rfl, ⟨by rw [hlen]; omega, _, cap, by rw [hlen], fun h0 => ?_⟩, hl, by omega, hlen, fun c hc => ?_⟩
    · rw [hlen] at h0
      obtain rfl := hsp h0
      refine ⟨g, off, rfl, block_lt_of_cell (hA 0 h0).1, fun i hi => ?_⟩
      rw [hlen] at hi
      rw [List.getElem_map, List.getElem_range]
      exact (hA i hi).1
    · obtain ⟨i, hi, rfl⟩ := List.mem_map.1 hc
      exact (hA i (List.mem_range.1 hi)).2
end Go.Proofs.YtgbaaiedpiiepaaDoor
namespace Go.Proofs.YtgbaaiedpiiepaaDoor
open Go.Deep Go.ChangeShapes Go.WideShapes Go.ChangeAt Go.RowKit
set_option linter.unusedVariables false
/-- Numbers in memory. -/
def NumIn (W : World) (pa : Option Addr) (len ca : Nat) (ns : List UInt8) : Prop := ns.length = len ∧ len ≤ ca ∧ (0 < len → ∃ b o, pa = some ⟨b, o, none⟩ ∧ b < W.heap.size ∧ ∀ i (h : i < ns.length), W.cell? ⟨b, o + i, none⟩ = some (.int .u8 (ns[i].toNat : Int)))
set_option maxRecDepth 100000 in
theorem nums_open {H : Type} {enc : TypeId × Value → H} {W : World} {fuel : Nat} {cs : List Value} {x : DataW H × List MemPlace} (h : DataW.trod enc Tryd.prog W 0 (fun _ => true) true fuel 37 cs = some x) :
    ∃ pa len ca ns, cs = [.slice pa len ca] ∧ NumIn W pa len ca ns ∧ (ca = 0 ∨ ∃ el sp, x.1 = .slice el sp ∧ el.length + sp.length = ca) := by
  rcases open_ints Tryd.underlying37 Tryd.underlying5 (by kernel_rfl) h with ⟨hcs, _⟩ | ⟨a, len, cap, zs, hcs, _, hl, hm, hz, hx, hcell, hwz⟩
  · exact ⟨none, 0, 0, [], hcs, ⟨rfl, Nat.le_refl _, fun h => absurd h (Nat.lt_irrefl _)⟩, .inl rfl⟩
  · have hz2 : zs.length = cap := by simpa using hz
    have hns : ((zs.take len).map fun z => UInt8.ofNat z.toNat).length = len := by rw [List.length_map, List.length_take]; omega
    refine ⟨some a, len, cap, (zs.take len).map fun z => UInt8.ofNat z.toNat, hcs, ⟨hns, hl, fun h0 => ?_⟩, .inr ⟨_, _, congrArg Prod.fst hx, ?_⟩⟩
    · obtain ⟨g, off, spot⟩ := a
      have hsp : spot = none := by
        have := World.cell?_spot (hcell 0 (by omega))
        simpa [Addr.add] using this
      subst hsp
      refine ⟨g, off, rfl, block_lt_of_cell (hcell 0 (by omega)), fun i hi => ?_⟩
      rw [hns] at hi
      have hc := hcell i (by omega)
      rw [addr_add] at hc
      have hget : zs.getD i 0 = zs[i]'(by omega) := by rw [List.getD_eq_getElem?_getD, List.getElem?_eq_getElem (by omega)]; rfl
      have hw := hwz (zs[i]'(by omega)) (List.getElem_mem _)
      simp [Lit.wf, IntKind.min, IntKind.max, IntKind.signed, IntKind.bits] at hw
      rw [hc, hget, List.getElem_map, List.getElem_take]
      congr 2
      obtain ⟨k, hk⟩ := Int.eq_ofNat_of_zero_le hw.1
      rw [hk] at hw ⊢
      simp
      omega
    · simp [lits]; omega
section
open E
theorem num_row {W : World} {b o : Nat} {ns : List UInt8} (h0 : 0 < ns.length) (hb : b < W.heap.size) (h : ∀ i (h : i < ns.length), W.cell? ⟨b, o + i, none⟩ = some (.int .u8 (ns[i].toNat : Int))) (ρ : Env) (r : Nat) (hρ : ρ r = ⟨b, o, 0⟩) : RowAt ρ r (numRow ns) W := by
  unfold RowAt
  rw [hρ]
  refine ⟨hb, fun j v hv => ⟨?_, fun hw => by cases hw⟩, (fun e k hc => by cases hc), cells_of_cell (h 0 h0)⟩
  have hj : j < ns.length := by
    have := (List.getElem?_eq_some_iff.1 hv).1
    rw [lst_fnc, flat_len (k := 1) ns.length (fun _ _ => rfl)] at this
    omega
  rw [lst_fnc, flat_get (f := fun i => [.int .u8 ((nsf ns i).toNat : Int)]) (k := 1) (by omega) ns.length (fun _ _ => rfl) j (by omega), Nat.div_one, Nat.mod_one] at hv
  cases hv
  rw [h j hj]
  simp [nsf, hj]
theorem txt_row {W : World} {b o : Nat} {tx : List (List UInt8)} (h0 : 0 < tx.length) (h : Txts W b o tx) (ρ : Env) (r : Nat) (hρ : ρ r = ⟨b, o, 0⟩) : RowAt ρ r (txtRow tx) W := by
  unfold RowAt
  rw [hρ]
  refine ⟨h.1, fun j v hv => ⟨?_, fun hw => by cases hw⟩, (fun e k hc => by cases hc), cells_of_cell (h.2 0 h0)⟩
  have hj : j < tx.length := by
    have := (List.getElem?_eq_some_iff.1 hv).1
    rw [lst_fnc, flat_len (k := 1) tx.length (fun _ _ => rfl)] at this
    omega
  rw [lst_fnc, flat_get (f := fun i => [stv (txf tx i)]) (k := 1) (by omega) tx.length (fun _ _ => rfl) j (by omega), Nat.div_one, Nat.mod_one] at hv
  cases hv
  show W.cell? ⟨b, o + j, none⟩ = _
  rw [h.2 j hj]
  simp [txf, hj]
theorem made_any (w : World) (pa : Option Addr) (len ca : Nat) (ns : List UInt8) (hN : NumIn (W := w) pa len ca ns) (hca : ca ≤ 140737488355328) (v : Value) (tx : List (List UInt8)) (hT : TxtV w v tx) : Calls Tryd.prog 4 #[.slice pa len ca, v] w (AllQ w) := by
  obtain ⟨hl, hc, hN⟩ := hN
  obtain ⟨htl, ta, ct, rfl, hT⟩ := hT
  subst hl
  rcases Nat.eq_zero_or_pos ns.length with e | e
  · have e1 : ns = [] := List.length_eq_zero_iff.1 e
    rcases Nat.eq_zero_or_pos tx.length with e2 | e2
    · have e3 : tx = [] := List.length_eq_zero_iff.1 e2
      subst e1 e3
      exact made_run00 [] pa ca [] ta ct (txs_nil ta ct) rfl rfl (by simp) (fun _ => ⟨0, 0, 0⟩) w (fun q hq => by cases hq)
    · obtain ⟨b, o, rfl, hx⟩ := hT e2
      subst e1
      exact made_run01 [] pa ca tx none ct (txs_row 1 ct tx htl) rfl htl (fun _ => ⟨b, o, 0⟩) w (fun q hq => by
        obtain rfl := List.mem_singleton.1 hq
        exact txt_row e2 hx _ 1 rfl)
  · obtain ⟨b, o, rfl, hb, hx⟩ := hN e
    rcases Nat.eq_zero_or_pos tx.length with e2 | e2
    · have e3 : tx = [] := List.length_eq_zero_iff.1 e2
      subst e3
      exact made_run10 ns none ca [] ta ct (txs_nil ta ct) e hc hca rfl (by simp) (fun _ => ⟨b, o, 0⟩) w (fun q hq => by
        obtain rfl := List.mem_singleton.1 hq
        exact num_row e hb hx _ 0 rfl)
    · obtain ⟨b2, o2, rfl, hx2⟩ := hT e2
      exact made_run11 ns none ca tx none ct (txs_row 1 ct tx htl) e hc hca htl (fun i => if i = 0 then ⟨b, o, 0⟩ else ⟨b2, o2, 0⟩) w (fun q hq => by
        simp only [List.mem_cons, List.not_mem_nil, or_false] at hq
        rcases hq with rfl | rfl
        · exact num_row e hb hx _ 0 rfl
        · exact txt_row e2 hx2 _ 1 rfl)
end
end Go.Proofs.YtgbaaiedpiiepaaDoor
