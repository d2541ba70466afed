/- NarTwo over any values that its arguments may be. Its condition: numbers of at most 2^47. -/
import Derived.Test.YtgbaaiedpiiepaaDoorV24
import Derived.Deep.Slices
import Derived.ProofKit
import Derived.OpenShut
import Derived.ChangeOld
import Derived.SizedLaws
import Derived.ChangeSlices
namespace Go.Proofs.YtgbaaiedpiiepaaDoor
open Go.Deep Go.ChangeShapes Go.WideShapes Go.ChangeAt Go.RowKit
set_option linter.unusedVariables false
theorem strV_of (s : ByteArray) : Value.string s = strV s.data.toList := rfl
theorem addr_add {g o i : Nat} : (⟨g, o, none⟩ : Addr).add i = ⟨g, o + i, none⟩ := by unfold Addr.add; split <;> simp_all
set_option maxRecDepth 100000 in
theorem nodes_open {H : Type} {enc : TypeId × Value → H} {W : World} {fuel : Nat} {cs : List Value} {x : DataW H × List MemPlace} (h : DataW.trod enc Tryd.prog W 0 (fun _ => true) true fuel 22 cs = some x) :
    ∃ pa len ca l, cs = [.slice pa len ca] ∧ NdV W (.slice pa len ca) l ∧ l.length ≤ 9223372036854775807 ∧ (∀ c ∈ l, c.path.length ≤ 9223372036854775807) ∧ ∀ c ∈ l, c.data.length ≤ 9223372036854775807 := by
  rcases open_slice Tryd.underlying22 h with ⟨rfl, -⟩ | ⟨a, len, cap, m, fu, D, Pl, rfl, -, hl, hm, hmm, -, hel⟩
  · exact ⟨none, 0, 0, [], rfl, ⟨none, 0, rfl, Nat.le_refl _, by omega, fun h => absurd h (Nat.lt_irrefl _)⟩, by simp, (fun c hc => by cases hc), fun c hc => by cases hc⟩
  · have c42 : Tryd.prog.cellsOf 42 = 3 := by kernel_rfl
    have hlm : len ≤ m := by rw [hmm]; split <;> omega
    unfold maxLen at hm
    obtain ⟨g, off, spot⟩ := a
    have hsp : 0 < len → spot = none := by
      intro h0
      obtain ⟨cs', h1, h2⟩ := hel 0 (by omega)
      rw [c42] at h1
      obtain ⟨-, hlen, hcell⟩ := World.cells?_some h1
      have hc0 := hcell 0 (by omega)
      rw [List.getElem?_eq_getElem (by omega)] at hc0
      have := World.cell?_spot hc0
      simpa [Addr.add] using this
    have each : ∀ i, i < len → ∃ d : Nd, W.cell? ⟨g, off + i * 3, none⟩ = some (strV d.path) ∧ W.cell? ⟨g, off + i * 3 + 1, none⟩ = some (.int .i64 d.kind) ∧ W.cell? ⟨g, off + i * 3 + 2, none⟩ = some (strV d.data) ∧ d.path.length ≤ 9223372036854775807 ∧ d.data.length ≤ 9223372036854775807 := by
      intro i hi
      obtain rfl := hsp (by omega)
      obtain ⟨cs', h1, h2⟩ := hel i (by omega)
      rw [c42] at h1
      obtain ⟨-, hlen, hcell⟩ := World.cells?_some h1
      obtain ⟨xs, k, -, -, -, hxl, hf⟩ := DataW.trod_struct Tryd.underlying42 h2
      have f0 : DataW.trod enc Tryd.prog W 0 (fun _ => true) true k 9 (List.take (Tryd.prog.cellsOf 9) (List.drop 0 cs')) = xs[0]? := hf 0 _ rfl
      have f1 : DataW.trod enc Tryd.prog W 0 (fun _ => true) true k 3 (List.take (Tryd.prog.cellsOf 3) (List.drop 1 cs')) = xs[1]? := hf 1 _ rfl
      have f2 : DataW.trod enc Tryd.prog W 0 (fun _ => true) true k 9 (List.take (Tryd.prog.cellsOf 9) (List.drop 2 cs')) = xs[2]? := hf 2 _ rfl
      match cs', hlen with
      | [v0, v1, v2], _ =>
        have c3 : Tryd.prog.cellsOf 3 = 1 := by kernel_rfl
        have c9 : Tryd.prog.cellsOf 9 = 1 := by kernel_rfl
        rw [c3] at f1
        rw [c9] at f0 f2
        simp only [List.drop_zero, List.drop_succ_cons, List.take_succ_cons, List.take_zero] at f0 f1 f2
        have g0 : ∃ y, DataW.trod enc Tryd.prog W 0 (fun _ => true) true k 9 [v0] = some y := ⟨_, f0.trans (List.getElem?_eq_getElem (by rw [hxl]; decide))⟩
        have g1 : ∃ y, DataW.trod enc Tryd.prog W 0 (fun _ => true) true k 3 [v1] = some y := ⟨_, f1.trans (List.getElem?_eq_getElem (by rw [hxl]; decide))⟩
        have g2 : ∃ y, DataW.trod enc Tryd.prog W 0 (fun _ => true) true k 9 [v2] = some y := ⟨_, f2.trans (List.getElem?_eq_getElem (by rw [hxl]; decide))⟩
        clear f0 f1 f2 hf
        obtain ⟨y0, g0⟩ := g0
        obtain ⟨y1, g1⟩ := g1
        obtain ⟨y2, g2⟩ := g2
        obtain ⟨s0, e0, -, o0⟩ := DataW.trod_string Tryd.underlying9 g0
        obtain ⟨n1, e1, -, o1⟩ := DataW.trod_int Tryd.underlying3 g1
        obtain ⟨s2, e2, -, o2⟩ := DataW.trod_string Tryd.underlying9 g2
        simp only [List.cons.injEq, and_true] at e0 e1 e2
        subst e0 e1 e2
        have hcell2 : ∀ j, j < 3 → W.cell? ⟨g, off + i * 3 + j, none⟩ = [Value.string s0, .int .i64 n1, .string s2][j]? := by
          intro j hj
          have := hcell j hj
          rw [addr_add, addr_add] at this
          exact this
        unfold maxLen at o0 o2
        refine ⟨⟨s0.data.toList, n1, s2.data.toList⟩, hcell2 0 (by omega), hcell2 1 (by omega), hcell2 2 (by omega), ?_, ?_⟩
        · show s0.data.toList.length ≤ _
          rw [Array.length_toList]; show s0.size ≤ _; omega
        · show s2.data.toList.length ≤ _
          rw [Array.length_toList]; show s2.size ≤ _; omega
    haveI : Inhabited Nd := ⟨⟨[], 0, []⟩⟩
    obtain ⟨A, hA⟩ := choose_lt each
    have hlen : ((List.range len).map A).length = len := by simp
    have hmem : ∀ c ∈ (List.range len).map A, ∃ i, i < len ∧ A i = c := fun c hc => by
      obtain ⟨i, hi, e⟩ := List.mem_map.1 hc
      exact ⟨i, List.mem_range.1 hi, e⟩
    refine ⟨some ⟨g, off, spot⟩, len, cap, (List.range len).map A, rfl, ⟨_, cap, by rw [hlen], by rw [hlen]; exact hl, by omega, fun h0 => ?_⟩, by rw [hlen]; omega, fun c hc => ?_, fun c hc => ?_⟩
    · rw [hlen] at h0
      obtain rfl := hsp h0
      refine ⟨g, off, rfl, block_lt_of_cell (hA 0 h0).1, fun i hi => ?_⟩
      rw [hlen] at hi
      rw [List.getElem_map, List.getElem_range]
      exact ⟨(hA i hi).1, (hA i hi).2.1, (hA i hi).2.2.1⟩
    · obtain ⟨i, hi, rfl⟩ := hmem c hc
      exact (hA i hi).2.2.2.1
    · obtain ⟨i, hi, rfl⟩ := hmem c hc
      exact (hA i hi).2.2.2.2
set_option maxRecDepth 100000 in
theorem texts_open {H : Type} {enc : TypeId × Value → H} {W : World} {fuel : Nat} {cs : List Value} {x : DataW H × List MemPlace} (h : DataW.trod enc Tryd.prog W 0 (fun _ => true) true fuel 38 cs = some x) :
    ∃ pa len ca l, cs = [.slice pa len ca] ∧ TxtV W (.slice pa len ca) l ∧ len ≤ ca ∧ ca ≤ 9223372036854775807 ∧ l.length = len ∧ ∀ c ∈ l, c.length ≤ 9223372036854775807 := by
  rcases open_slice1 Tryd.underlying38 (by kernel_rfl) h with ⟨rfl, -⟩ | ⟨a, len, cap, m, fu, V, D, Pl, rfl, -, hl, hm, hmm, -, hel⟩
  · exact ⟨none, 0, 0, [], rfl, ⟨by simp, none, 0, rfl, fun h => absurd h (Nat.lt_irrefl _)⟩, by omega, by omega, rfl, fun c hc => by cases hc⟩
  · have hlm : len ≤ m := by rw [hmm]; split <;> omega
    unfold maxLen at hm
    obtain ⟨g, off, spot⟩ := a
    have hsp : 0 < len → spot = none := fun h0 => by
      have := World.cell?_spot (hel 0 (by omega)).1
      simpa [Addr.add] using this
    have each : ∀ i, i < len → ∃ s : List UInt8, W.cell? ⟨g, off + i, none⟩ = some (strV s) ∧ s.length ≤ 9223372036854775807 := by
      intro i hi
      obtain rfl := hsp (by omega)
      obtain ⟨h1, h2⟩ := hel i (by omega)
      obtain ⟨s0, e0, -, o0⟩ := DataW.trod_string Tryd.underlying9 h2
      simp only [List.cons.injEq, and_true] at e0
      rw [e0, addr_add] at h1
      unfold maxLen at o0
      exact ⟨s0.data.toList, h1, by rw [Array.length_toList]; show s0.size ≤ _; omega⟩
    obtain ⟨A, hA⟩ := choose_lt each
    have hlen : ((List.range len).map A).length = len := by simp
    refine ⟨some ⟨g, off, spot⟩, len, cap, (List.range len).map A, rfl, ⟨by rw [hlen]; omega, _, cap, by rw [hlen], fun h0 => ?_⟩, hl, by omega, hlen, fun c hc => ?_⟩
    · rw [hlen] at h0
      obtain rfl := hsp h0
      refine ⟨g, off, rfl, block_lt_of_cell (hA 0 h0).1, fun i hi => ?_⟩
      rw [hlen] at hi
      rw [List.getElem_map, List.getElem_range]
      exact (hA i hi).1
    · obtain ⟨i, hi, rfl⟩ := List.mem_map.1 hc
      exact (hA i (List.mem_range.1 hi)).2
end Go.Proofs.YtgbaaiedpiiepaaDoor
namespace Go.Proofs.YtgbaaiedpiiepaaDoor
open Go.Deep Go.ChangeShapes Go.WideShapes Go.ChangeAt Go.RowKit
set_option linter.unusedVariables false
/-- Numbers in memory. -/
def NumIn (W : World) (pa : Option Addr) (len ca : Nat) (ns : List UInt8) : Prop := ns.length = len ∧ len ≤ ca ∧ (0 < len → ∃ b o, pa = some ⟨b, o, none⟩ ∧ b < W.heap.size ∧ ∀ i (h : i < ns.length), W.cell? ⟨b, o + i, none⟩ = some (.int .u8 (ns[i].toNat : Int)))
set_option maxRecDepth 100000 in
theorem nums_open {H : Type} {enc : TypeId × Value → H} {W : World} {fuel : Nat} {cs : List Value} {x : DataW H × List MemPlace} (h : DataW.trod enc Tryd.prog W 0 (fun _ => true) true fuel 37 cs = some x) :
    ∃ pa len ca ns, cs = [.slice pa len ca] ∧ NumIn W pa len ca ns ∧ (ca = 0 ∨ ∃ el sp, x.1 = .slice el sp ∧ el.length + sp.length = ca) := by
  rcases open_ints Tryd.underlying37 Tryd.underlying5 (by kernel_rfl) h with ⟨hcs, _⟩ | ⟨a, len, cap, zs, hcs, _, hl, hm, hz, hx, hcell, hwz⟩
  · exact ⟨none, 0, 0, [], hcs, ⟨rfl, Nat.le_refl _, fun h => absurd h (Nat.lt_irrefl _)⟩, .inl rfl⟩
  · have hz2 : zs.length = cap := by simpa using hz
    have hns : ((zs.take len).map fun z => UInt8.ofNat z.toNat).length = len := by rw [List.length_map, List.length_take]; omega
    refine ⟨some a, len, cap, (zs.take len).map fun z => UInt8.ofNat z.toNat, hcs, ⟨hns, hl, fun h0 => ?_⟩, .inr ⟨_, _, congrArg Prod.fst hx, ?_⟩⟩
    · obtain ⟨g, off, spot⟩ := a
      have hsp : spot = none := by
        have := World.cell?_spot (hcell 0 (by omega))
        simpa [Addr.add] using this
      subst hsp
      refine ⟨g, off, rfl, block_lt_of_cell (hcell 0 (by omega)), fun i hi => ?_⟩
      rw [hns] at hi
      have hc := hcell i (by omega)
      rw [addr_add] at hc
      have hget : zs.getD i 0 = zs[i]'(by omega) := by rw [List.getD_eq_getElem?_getD, List.getElem?_eq_getElem (by omega)]; rfl
      have hw := hwz (zs[i]'(by omega)) (List.getElem_mem _)
      simp [Lit.wf, IntKind.min, IntKind.max, IntKind.signed, IntKind.bits] at hw
      rw [hc, hget, List.getElem_map, List.getElem_take]
      congr 2
      obtain ⟨k, hk⟩ := Int.eq_ofNat_of_zero_le hw.1
      rw [hk] at hw ⊢
      simp
      omega
    · simp [lits]; omega
section
open E
theorem num_row {W : World} {b o : Nat} {ns : List UInt8} (h0 : 0 < ns.length) (hb : b < W.heap.size) (h : ∀ i (h : i < ns.length), W.cell? ⟨b, o + i, none⟩ = some (.int .u8 (ns[i].toNat : Int))) (ρ : Env) (r : Nat) (hρ : ρ r = ⟨b, o, 0⟩) : RowAt ρ r (numRow ns) W := by
  unfold RowAt
  rw [hρ]
  refine ⟨hb, fun j v hv => ⟨?_, fun hw => by cases hw⟩, (fun e k hc => by cases hc), cells_of_cell (h 0 h0)⟩
  have hj : j < ns.length := by
    have := (List.getElem?_eq_some_iff.1 hv).1
    rw [lst_fnc, flat_len (k := 1) ns.length (fun _ _ => rfl)] at this
    omega
  rw [lst_fnc, flat_get (f := fun i => [.int .u8 ((nsf ns i).toNat : Int)]) (k := 1) (by omega) ns.length (fun _ _ => rfl) j (by omega), Nat.div_one, Nat.mod_one] at hv
  cases hv
  rw [h j hj]
  simp [nsf, hj]
theorem txt_row {W : World} {b o : Nat} {tx : List (List UInt8)} (h0 : 0 < tx.length) (h : Txts W b o tx) (ρ : Env) (r : Nat) (hρ : ρ r = ⟨b, o, 0⟩) : RowAt ρ r (txtRow tx) W := by
  unfold RowAt
  rw [hρ]
  refine ⟨h.1, fun j v hv => ⟨?_, fun hw => by cases hw⟩, (fun e k hc => by cases hc), cells_of_cell (h.2 0 h0)⟩
  have hj : j < tx.length := by
    have := (List.getElem?_eq_some_iff.1 hv).1
    rw [lst_fnc, flat_len (k := 1) tx.length (fun _ _ => rfl)] at this
    omega
  rw [lst_fnc, flat_get (f := fun i => [stv (txf tx i)]) (k := 1) (by omega) tx.length (fun _ _ => rfl) j (by omega), Nat.div_one, Nat.mod_one] at hv
  cases hv
  show W.cell? ⟨b, o + j, none⟩ = _
  rw [h.2 j hj]
  simp [txf, hj]
theorem made_any (w : World) (pa : Option Addr) (len ca : Nat) (ns : List UInt8) (hN : NumIn (W := w) pa len ca ns) (hca : ca ≤ 140737488355328) (v : Value) (tx : List (List UInt8)) (hT : TxtV w v tx) : Calls Tryd.prog 4 #[.slice pa len ca, v] w (AllQ w) := by
  obtain ⟨hl, hc, hN⟩ := hN
  obtain ⟨htl, ta, ct, rfl, hT⟩ := hT
  subst hl
  rcases Nat.eq_zero_or_pos ns.length with e | e
  · have e1 : ns = [] := List.length_eq_zero_iff.1 e
    rcases Nat.eq_zero_or_pos tx.length with e2 | e2
    · have e3 : tx = [] := List.length_eq_zero_iff.1 e2
      subst e1 e3
      exact made_run00 [] pa ca [] ta ct (txs_nil ta ct) rfl rfl (by simp) (fun _ => ⟨0, 0, 0⟩) w (fun q hq => by cases hq)
    · obtain ⟨b, o, rfl, hx⟩ := hT e2
      subst e1
      exact made_run01 [] pa ca tx none ct (txs_row 1 ct tx htl) rfl htl (fun _ => ⟨b, o, 0⟩) w (fun q hq => by
        obtain rfl := List.mem_singleton.1 hq
        exact txt_row e2 hx _ 1 rfl)
  · obtain ⟨b, o, rfl, hb, hx⟩ := hN e
    rcases Nat.eq_zero_or_pos tx.length with e2 | e2
    · have e3 : tx = [] := List.length_eq_zero_iff.1 e2
      subst e3
      exact made_run10 ns none ca [] ta ct (txs_nil ta ct) e hc hca rfl (by simp) (fun _ => ⟨b, o, 0⟩) w (fun q hq => by
        obtain rfl := List.mem_singleton.1 hq
        exact num_row e hb hx _ 0 rfl)
    · obtain ⟨b2, o2, rfl, hx2⟩ := hT e2
      exact made_run11 ns none ca tx none ct (txs_row 1 ct tx htl) e hc hca htl (fun i => if i = 0 then ⟨b, o, 0⟩ else ⟨b2, o2, 0⟩) w (fun q hq => by
        simp only [List.mem_cons, List.not_mem_nil, or_false] at hq
        rcases hq with rfl | rfl
        · exact num_row e hb hx _ 0 rfl
        · exact txt_row e2 hx2 _ 1 rfl)
end
end Go.Proofs.YtgbaaiedpiiepaaDoor
namespace Go.Proofs.YtgbaaiedpiiepaaDoor
open Go.RowKit Go.Shelf
set_option linter.unusedVariables false
set_option linter.unusedSimpArgs false
theorem may_kind {l : List Nd} (h : mayL l = true) : ∀ c ∈ l, 0 ≤ c.kind := by
  have hk : ∀ c : Nd, mayDataL c = true → 0 ≤ c.kind := fun c hc => by
    unfold mayDataL at hc
    split at hc
    · omega
    · split at hc
      · omega
      · split at hc
        · omega
        · cases hc
  cases l with
  | nil => intro c hc; cases hc
  | cons d r =>
    unfold mayL at h
    simp only [Bool.and_eq_true, decide_eq_true_eq, List.all_eq_true] at h
    obtain ⟨⟨⟨⟨h1, h2⟩, h3⟩, h4⟩, h5⟩ := h
    intro c hc
    rcases List.mem_cons.1 hc with rfl | hc
    · exact hk _ h3
    · exact hk _ (h4 c hc).2
theorem made_path (tx : List (List UInt8)) (ns : List UInt8) : ∀ c ∈ madeL tx ns, c.path.length ≤ 100 := by
  cases ns with
  | nil => intro c hc; simp [madeL] at hc; subst hc; simp
  | cons a m =>
    intro c hc
    unfold madeL at hc
    simp only at hc
    split at hc
    · rcases List.mem_cons.1 hc with rfl | hc
      · simp
      · have := dir_path tx _ _ _ _ _ _ c hc
        simp at this
        omega
    · split at hc
      · simp at hc; subst hc; simp
      · simp at hc; subst hc; simp
theorem two_eq {l m : List Nd} (hl : mayL l = true) (hm : mayL m = true) (hpl : ∀ c ∈ l, c.path.length ≤ 10000) (hpm : ∀ c ∈ m, c.path.length ≤ 10000) : ((packS l == packS m) == sameL l m) = true := by
  have e1 : packS l = treeL l := by unfold packS; rw [hl]; rfl
  have e2 : packS m = treeL m := by unfold packS; rw [hm]; rfl
  rw [e1, e2]
  by_cases h : l = m
  · subst h
    rw [(same_iff l l).2 rfl, beq_self_eq_true]; rfl
  · have h1 : sameL l m = false := by
      cases hs : sameL l m with
      | false => rfl
      | true => exact absurd ((same_iff l m).1 hs) h
    have h2 : (treeL l == treeL m) = false := by
      cases hs : (treeL l == treeL m) with
      | false => rfl
      | true => exact absurd (pack_inj hl hm (fun c hc => by have := hpl c hc; omega) (fun c hc => by have := hpm c hc; omega) (by simpa using hs)) h
    rw [h1, h2]; rfl
section
open E
abbrev twS (r n : Nat) (c : Option Nat) : TV := .s (.lf (.sl r 0 0 3 n c))
abbrev fRow (f : Nat → List Value) (m : Nat) : Row := ⟨[.fnc f 3 m], true, some (42, 3)⟩
theorem src_pre (r : Nat) (f : Nat → List Value) (m n : Nat) (c : Option Nat) (L2 : List Nd) (hn : n = L2.length) (h0 : 0 < n) (hnm : n ≤ m) (hc : ∀ cc, c = some cc → n ≤ cc ∧ cc ≤ 9223372036854775807) (hf : ∀ i (hi : i < L2.length), f i = [stv L2[i].path, .int .i64 L2[i].kind, stv L2[i].data]) (hlen : ∀ i, i < m → (f i).length = 3) : NdSrc (twS r n c) [(r, fRow f m)] L2 := fun ρ w h => by
  have h2 := h (r, fRow f m) (by simp)
  subst hn
  obtain ⟨_, _, h3, _⟩ := id h2
  obtain ⟨q1, q2, q3, _⟩ := h3 42 3 rfl
  have e : lst ρ (fRow f m).ps = (List.range m).flatMap f := by simp [lst, Pc.arrV]
  have hln := flat_len (f := f) (k := 3) m hlen
  rw [e, hln] at q3
  have q4 : m ≤ (ρ r).3 := Nat.le_of_mul_le_mul_right q3 (by decide)
  refine ⟨_, _, rfl, ?_, ?_, fun _ => ⟨_, _, rfl, row_nodes h2 hnm hlen (fun i hi => hf i hi)⟩⟩
  · cases c with
    | none => show L2.length ≤ (ρ r).3 - 0; omega
    | some cc => exact (hc cc rfl).1
  · cases c with
    | none => show (ρ r).3 - 0 ≤ _; unfold maxLen at q2; omega
    | some cc => exact (hc cc rfl).2
set_option maxRecDepth 100000 in
theorem two_tail (L L2 : List Nd) (M n2 m2 : Nat) (c2 : Option Nat) (f2 : Nat → List Value) (hS : NdSrc (twS 9002 M none) [(9002, rowN L M)] L) (hS2 : NdSrc (twS 10002 n2 c2) [(10002, fRow f2 m2)] L2) (hmay : mayL L = true) (l1 : L.length ≤ 1000) (l2 : L2.length ≤ 1000) (lp : ∀ c ∈ L, c.path.length ≤ 10000) (lp2 : ∀ c ∈ L2, c.path.length ≤ 10000) (ld : ∀ c ∈ L, c.data.length ≤ 100000) (ld2 : ∀ c ∈ L2, c.data.length ≤ 100000) (w : World) (ρ : Env) :
    At Tryd.prog w ⟨[], ρ, []⟩ Tryd.f5.ntmps [] (rp Tryd.f5 20) (EndX Tryd.prog Tryd.f5 (AllQ w)) [(10, (twS 9002 M none)), (11, (twS 10002 n2 c2))] [(9002, rowN L M), (10002, fRow f2 m2)] := by
  have hE : packE L = 0 := by unfold packE; rw [hmay]; rfl
  have kP := hP_ok 21001 hS (by omega) lp ld
  have kP2 := hP_ok 22001 hS2 (by omega) lp2 ld2
  have kS := (hSm_ok 25009 hS hS2 (by omega) (by omega)).1
  have kSS := (hSm_ok 25015 hS hS (by omega) (by omega)).1
  rw [(same_iff L L).2 rfl] at kSS
  rw [hE] at kP
  cases hm2 : mayL L2 with
  | true =>
    have hE2 : packE L2 = 0 := by unfold packE; rw [hm2]; rfl
    rw [hE2] at kP2
    exact At.fin rfl [(21001, hP (twS 9002 M none) [(9002, rowN L M)] (packS L) 0), (22001, hP (twS 10002 n2 c2) [(10002, fRow f2 m2)] (packS L2) 0), (23001, hErr 0), (25001, hErr 0), (25009, hSm 23 (twS 9002 M none) (twS 10002 n2 c2) [(9002, rowN L M)] [(10002, fRow f2 m2)] (sameL L L2)), (25015, hSm 23 (twS 9002 M none) (twS 9002 M none) [(9002, rowN L M)] [(9002, rowN L M)] true), (25018, hAwake), (2025010, .val (.v (.bool true)))] ⟨kP, kP2, hErr_ok _ _, hErr_ok _ _, kS, kSS, hAwake_ok _, trivial, trivial⟩ [.n] (x := .v (.bool true)) (ob := [qL (hP (twS 9002 M none) [(9002, rowN L M)] (packS L) 0), qL (hP (twS 10002 n2 c2) [(10002, fRow f2 m2)] (packS L2) 0), qL (hErr 0), [false = false], qL (hErr 0), qL (hSm 23 (twS 9002 M none) (twS 10002 n2 c2) [(9002, rowN L M)] [(10002, fRow f2 m2)] (sameL L L2)), [TV.v (.bool ((packS L == packS L2) == sameL L L2)) = TV.v (.bool true)], qL (hSm 23 (twS 9002 M none) (twS 9002 M none) [(9002, rowN L M)] [(9002, rowN L M)] true), qL (hAwake)].flatten) (by kernel_rfl)
      (all_flat ⟨all_qL _, all_qL _, all_qL _, ⟨rfl, trivial⟩, all_qL _, all_qL _, ⟨by rw [two_eq hmay hm2 lp lp2], trivial⟩, all_qL _, all_qL _, trivial⟩) fun ρ w' hf _ => ⟨rfl, hf.below⟩
  | false =>
    have hE2 : packE L2 = 1 := by unfold packE; rw [hm2]; rfl
    rw [hE2] at kP2
    exact At.fin rfl [(21001, hP (twS 9002 M none) [(9002, rowN L M)] (packS L) 0), (22001, hP (twS 10002 n2 c2) [(10002, fRow f2 m2)] (packS L2) 1), (23001, hErr 0), (25001, hErr 1), (25015, hSm 23 (twS 9002 M none) (twS 9002 M none) [(9002, rowN L M)] [(9002, rowN L M)] true), (25018, hAwake)] ⟨kP, kP2, hErr_ok _ _, hErr_ok _ _, kSS, hAwake_ok _, trivial⟩ [.n] (x := .v (.bool true)) (ob := [qL (hP (twS 9002 M none) [(9002, rowN L M)] (packS L) 0), qL (hP (twS 10002 n2 c2) [(10002, fRow f2 m2)] (packS L2) 1), qL (hErr 0), [false = false], qL (hErr 1), qL (hSm 23 (twS 9002 M none) (twS 9002 M none) [(9002, rowN L M)] [(9002, rowN L M)] true), qL (hAwake)].flatten) (by kernel_rfl)
      (all_flat ⟨all_qL _, all_qL _, all_qL _, ⟨rfl, trivial⟩, all_qL _, all_qL _, all_qL _, trivial⟩) fun ρ w' hf _ => ⟨rfl, hf.below⟩
theorem upd_row (L : List Nd) (M k : Nat) (c : Nd) (v : List Value) (hv : v = [stv c.path, .int .i64 c.kind, stv c.data]) (i : Nat) (hi : i < (L.set k c).length) : updF (ndc L) k v i = [stv (L.set k c)[i].path, .int .i64 (L.set k c)[i].kind, stv (L.set k c)[i].data] := by
  unfold updF
  rw [List.length_set] at hi
  cases hb : Nat.beq i k with
  | true =>
    have := Nat.eq_of_beq_eq_true hb
    subst this
    simp only [cond_true, hv, List.getElem_set_self]
  | false =>
    have hne : k ≠ i := fun e => by subst e; rw [Nat.beq_refl] at hb; cases hb
    simp only [cond_false, ndc, ndf_at L i hi, List.getElem_set_ne hne]
theorem upd_len (L : List Nd) (k : Nat) (v : List Value) (hv : v.length = 3) (i : Nat) : (updF (ndc L) k v i).length = 3 := by
  unfold updF
  cases hb : Nat.beq i k with
  | true => exact hv
  | false => rfl
theorem mem_set {L : List Nd} {k : Nat} {c x : Nd} (h : x ∈ L.set k c) : x = c ∨ x ∈ L := (List.mem_or_eq_of_mem_set h).symm
abbrev twQ (w : World) := EndX Tryd.prog Tryd.f5 (AllQ w)
abbrev twT (wh : UInt8) (M k : Nat) : List (Nat × TV) := [(3, .int .u8 (wh.toNat : Int)), (10, twS 9002 M none), (11, twS 10002 M none), (12, .int .i64 (k : Int))]
abbrev twR (L : List Nd) (M : Nat) : List (Nat × Row) := [(9002, rowN L M), (10002, rowN L M)]
set_option maxRecDepth 100000 in
theorem two_mid (L : List Nd) (M k : Nat) (wh : UInt8) (hM : M = L.length) (hk : k < M) (hmay : mayL L = true) (l1 : L.length ≤ 256) (lp : ∀ c ∈ L, c.path.length ≤ 100) (ld : ∀ c ∈ L, c.data.length ≤ 65536) (w : World) (ρ : Env) :
    At Tryd.prog w ⟨[], ρ, []⟩ Tryd.f5.ntmps [] (rp Tryd.f5 11) (twQ w) (twT wh M k) (twR L M) := by
  have hwl := wh.toNat_lt
  have hS := src_made 9002 L M hM (by omega)
  have hkl : k < L.length := by omega
  obtain ⟨c, hc⟩ : ∃ c, c = L[k] := ⟨_, rfl⟩
  have hcm : c ∈ L := by rw [hc]; exact List.getElem_mem _
  have hnd : ndf L (addN 0 ((k : Int)).toNat) = c := by rw [addN_eq, Nat.zero_add, Int.toNat_natCast, ndf_at L k hkl, hc]
  have hck := may_kind hmay c hcm
  have hcp := lp c hcm
  have hcd := ld c hcm
  have lpA : ∀ x ∈ L, x.path.length ≤ 10000 := fun x hx => Nat.le_trans (lp x hx) (by omega)
  have ldA : ∀ x ∈ L, x.data.length ≤ 100000 := fun x hx => Nat.le_trans (ld x hx) (by omega)
  have hb0 : (0 : Int) ≤ (k : Int) ∧ (k : Int) < (M : Int) := ⟨by omega, by omega⟩
  have hb1 : addN 0 ((k : Int)).toNat < M := by rw [addN_eq]; omega
  have hw0 : (0 : Int) ≤ (wh.toNat : Int) ∧ (0 : Int) < 4 := ⟨by omega, by omega⟩
  have go : ∀ (L2 : List Nd) (f2 : Nat → List Value), L2 = L ∨ (∃ c2 : Nd, L2 = L.set k c2 ∧ c2.path.length ≤ 101 ∧ c2.data.length ≤ 65537) → (∀ i (hi : i < L2.length), f2 i = [stv L2[i].path, .int .i64 L2[i].kind, stv L2[i].data]) → (∀ i, i < M → (f2 i).length = 3) → At Tryd.prog w ⟨[], ρ, []⟩ Tryd.f5.ntmps [] (rp Tryd.f5 20) (twQ w) [(10, twS 9002 M none), (11, twS 10002 M none)] [(9002, rowN L M), (10002, fRow f2 M)] := by
    intro L2 f2 h2 hf hlen
    have hl2 : L2.length = L.length := by
      rcases h2 with rfl | ⟨c2, rfl, _⟩
      · rfl
      · rw [List.length_set]
    have hp2 : ∀ x ∈ L2, x.path.length ≤ 10000 := by
      rcases h2 with rfl | ⟨c2, rfl, h3, h4⟩
      · exact lpA
      · intro x hx
        rcases mem_set hx with rfl | hx
        · omega
        · exact lpA x hx
    have hd2 : ∀ x ∈ L2, x.data.length ≤ 100000 := by
      rcases h2 with rfl | ⟨c2, rfl, h3, h4⟩
      · exact ldA
      · intro x hx
        rcases mem_set hx with rfl | hx
        · omega
        · exact ldA x hx
    exact two_tail L L2 M M M none f2 hS (src_pre 10002 f2 M M none L2 (by omega) (by omega) (Nat.le_refl _) (fun cc h => by cases h) hf hlen) hmay (by omega) (by omega) lpA hp2 ldA hd2 w ρ
  have t2 : ∀ {td : List Item}, td = rp Tryd.f5 20 → td ≠ [] := fun h => by subst h; intro h; cases h
  by_cases h0 : wh.toNat % 4 = 0
  · refine At.run rfl [(2021000, .val (.tup []))] ⟨trivial, trivial⟩ [.y] (tm2 := [(10, twS 9002 M none), (11, twS 10002 M none)]) (rows2 := [(9002, rowN L M), (10002, fRow (updF (ndc L) (addN 0 ((k : Int)).toNat) [stv (ndf L (addN 0 ((k : Int)).toNat)).path, .int .i64 (1 + (ndf L (addN 0 ((k : Int)).toNat)).kind % 2), stv (ndf L (addN 0 ((k : Int)).toNat)).data]) M)]) (ob := [(0 : Int) ≤ (wh.toNat : Int) ∧ (0 : Int) < 4, ((wh.toNat : Int) % 4 == 0) = true, (0 : Int) ≤ (k : Int) ∧ (k : Int) < (M : Int), addN 0 ((k : Int)).toNat < M, 0 ≤ (ndf L (addN 0 ((k : Int)).toNat)).kind ∧ (0 : Int) < 2, inI (1 + (ndf L (addN 0 ((k : Int)).toNat)).kind % 2), (0 : Int) ≤ (k : Int) ∧ (k : Int) < (M : Int), addN 0 ((k : Int)).toNat < M]) (td := rp Tryd.f5 20) (by kernel_rfl) ?_ rfl rfl (by intro h; cases h) ?_
    · rw [hnd]
      exact ⟨hw0, by rw [show (wh.toNat : Int) % 4 = 0 by omega]; rfl, hb0, hb1, ⟨hck, by omega⟩, ⟨by omega, by omega⟩, hb0, hb1, trivial⟩
    · refine go (L.set k { c with kind := 1 + c.kind % 2 }) _ (.inr ⟨_, rfl, Nat.le_trans hcp (by omega), Nat.le_trans hcd (by omega)⟩) ?_ (fun i _ => upd_len L _ _ rfl i)
      rw [hnd, show addN 0 ((k : Int)).toNat = k by rw [addN_eq]; omega]
      exact fun i hi => upd_row L M k _ _ rfl i hi
  by_cases h1 : wh.toNat % 4 = 1
  · refine At.run rfl [(2021000, .val (.tup []))] ⟨trivial, trivial⟩ [.n, .y] (tm2 := [(10, twS 9002 M none), (11, twS 10002 M none)]) (rows2 := [(9002, rowN L M), (10002, fRow (updF (ndc L) (addN 0 ((k : Int)).toNat) [stv (ndf L (addN 0 ((k : Int)).toNat)).path, .int .i64 (ndf L (addN 0 ((k : Int)).toNat)).kind, stv ((ndf L (addN 0 ((k : Int)).toNat)).data ++ [121])]) M)]) (ob := [(0 : Int) ≤ (wh.toNat : Int) ∧ (0 : Int) < 4, ((wh.toNat : Int) % 4 == 0) = false, ((wh.toNat : Int) % 4 == 1) = true, (0 : Int) ≤ (k : Int) ∧ (k : Int) < (M : Int), addN 0 ((k : Int)).toNat < M, ((ndf L (addN 0 ((k : Int)).toNat)).data.length : Int) + ((1 : Nat) : Int) ≤ 9223372036854775807, (0 : Int) ≤ (k : Int) ∧ (k : Int) < (M : Int), addN 0 ((k : Int)).toNat < M]) (td := rp Tryd.f5 20) (by kernel_rfl) ?_ rfl rfl (by intro h; cases h) ?_
    · rw [hnd]
      exact ⟨hw0, by simp; omega, by rw [show (wh.toNat : Int) % 4 = 1 by omega]; rfl, hb0, hb1, by omega, hb0, hb1, trivial⟩
    · refine go (L.set k { c with data := c.data ++ [121] }) _ (.inr ⟨_, rfl, Nat.le_trans hcp (by omega), by simp; omega⟩) ?_ (fun i _ => upd_len L _ _ rfl i)
      rw [hnd, show addN 0 ((k : Int)).toNat = k by rw [addN_eq]; omega]
      exact fun i hi => upd_row L M k _ _ rfl i hi
  by_cases h2 : wh.toNat % 4 = 2
  · refine At.cap (pre := [(3, .int .u8 (wh.toNat : Int)), (10, twS 9002 M none)]) (post := [(12, .int .i64 (k : Int))]) 11 10002 M 3 (rowN L M) (by decide) rfl rfl (fun ρ => (by
      show (lst ρ [Pc.fnc (ndc L) 3 M]).length = M * 3
      have e : lst ρ [Pc.fnc (ndc L) 3 M] = (List.range M).flatMap (ndc L) := by simp [lst, Pc.arrV]
      rw [e]; exact flat_len M (fun i _ => rfl))) fun cc hcc => ?_
    unfold maxLen at hcc
    refine At.run rfl [(2021000, .val (.tup []))] ⟨trivial, trivial⟩ [.n, .n, .y] (tm2 := [(10, twS 9002 M none), (11, twS 10002 ((k : Int) + 1).toNat (some (cc + M)))]) (rows2 := [(9002, rowN L M), (10002, fRow (ndc L) M)]) (ob := [(0 : Int) ≤ (wh.toNat : Int) ∧ (0 : Int) < 4, ((wh.toNat : Int) % 4 == 0) = false, ((wh.toNat : Int) % 4 == 1) = false, ((wh.toNat : Int) % 4 == 2) = true, inI ((k : Int) + 1), (0 : Int) ≤ (k : Int) + 1 ∧ (k : Int) + 1 ≤ ((cc + M : Nat) : Int)]) (td := rp Tryd.f5 20) (by kernel_rfl) ?_ rfl rfl (by intro h; cases h) ?_
    · exact ⟨hw0, by simp; omega, by simp; omega, by rw [show (wh.toNat : Int) % 4 = 2 by omega]; rfl, ⟨by omega, by omega⟩, ⟨by omega, by omega⟩, trivial⟩
    · rw [show ((k : Int) + 1).toNat = k + 1 by omega]
      have ht : (L.take (k + 1)).length = k + 1 := by rw [List.length_take]; omega
      exact two_tail L (L.take (k + 1)) M (k + 1) M (some (cc + M)) (ndc L) hS (src_pre 10002 (ndc L) M (k + 1) (some (cc + M)) (L.take (k + 1)) ht.symm (by omega) (by omega) (fun c2 h => by cases h; omega) (fun i hi => by
        have hi2 : i < L.length := by omega
        simp only [ndc, ndf_at L i hi2, List.getElem_take]) (fun i _ => rfl)) hmay (by omega) (by omega) lpA (fun x hx => lpA x (List.mem_of_mem_take hx)) ldA (fun x hx => ldA x (List.mem_of_mem_take hx)) w ρ
  · by_cases h3 : 0 < k
    · refine At.run rfl [(2021000, .val (.tup []))] ⟨trivial, trivial⟩ [.n, .n, .n, .y] (tm2 := [(10, twS 9002 M none), (11, twS 10002 M none)]) (rows2 := [(9002, rowN L M), (10002, fRow (updF (ndc L) (addN 0 ((k : Int)).toNat) [stv ((ndf L (addN 0 ((k : Int)).toNat)).path ++ [113]), .int .i64 (ndf L (addN 0 ((k : Int)).toNat)).kind, stv (ndf L (addN 0 ((k : Int)).toNat)).data]) M)]) (ob := [(0 : Int) ≤ (wh.toNat : Int) ∧ (0 : Int) < 4, ((wh.toNat : Int) % 4 == 0) = false, ((wh.toNat : Int) % 4 == 1) = false, ((wh.toNat : Int) % 4 == 2) = false, decide ((k : Int) > 0) = true, (0 : Int) ≤ (k : Int) ∧ (k : Int) < (M : Int), addN 0 ((k : Int)).toNat < M, ((ndf L (addN 0 ((k : Int)).toNat)).path.length : Int) + ((1 : Nat) : Int) ≤ 9223372036854775807, (0 : Int) ≤ (k : Int) ∧ (k : Int) < (M : Int), addN 0 ((k : Int)).toNat < M]) (td := rp Tryd.f5 20) (by kernel_rfl) ?_ rfl rfl (by intro h; cases h) ?_
      · rw [hnd]
        exact ⟨hw0, by simp; omega, by simp; omega, by simp; omega, decide_eq_true (by omega), hb0, hb1, by omega, hb0, hb1, trivial⟩
      · refine go (L.set k { c with path := c.path ++ [113] }) _ (.inr ⟨_, rfl, by simp; omega, Nat.le_trans hcd (by omega)⟩) ?_ (fun i _ => upd_len L _ _ rfl i)
        rw [hnd, show addN 0 ((k : Int)).toNat = k by rw [addN_eq]; omega]
        exact fun i hi => upd_row L M k _ _ rfl i hi
    · refine At.run rfl [(2021000, .val (.tup []))] ⟨trivial, trivial⟩ [.n, .n, .n, .n] (tm2 := [(10, twS 9002 M none), (11, twS 10002 M none)]) (rows2 := [(9002, rowN L M), (10002, fRow (ndc L) M)]) (ob := [(0 : Int) ≤ (wh.toNat : Int) ∧ (0 : Int) < 4, ((wh.toNat : Int) % 4 == 0) = false, ((wh.toNat : Int) % 4 == 1) = false, ((wh.toNat : Int) % 4 == 2) = false, decide ((k : Int) > 0) = false]) (td := rp Tryd.f5 20) (by kernel_rfl) ?_ rfl rfl (by intro h; cases h) ?_
      · exact ⟨hw0, by simp; omega, by simp; omega, by simp; omega, decide_eq_false (by omega), trivial⟩
      · exact go L _ (.inl rfl) (fun i hi => by simp only [ndc, ndf_at L i hi]) (fun i _ => rfl)
set_option maxRecDepth 100000 in
set_option maxHeartbeats 1000000 in
theorem two_run11 (ns : List UInt8) (na : Option Addr) (c : Nat) (tx : List (List UInt8)) (ta : Option Addr) (ct : Nat) (at_ wh : UInt8) (hT : TxSrc (TV.s (.lf (.sl 1 0 0 1 tx.length (some ct)))) [(1, txtRow tx)] tx) (hn0 : 0 < ns.length) (hc : ns.length ≤ c) (hc2 : c ≤ 140737488355328)  (htl : tx.length ≤ 9223372036854775807) (ρ : Env) (w : World)
    (hr : ∀ q ∈ ([(0, numRow ns), (1, txtRow tx)] : List (Nat × Row)), RowAt ρ q.1 q.2 w) : Calls Tryd.prog 5 #[(TV.s (.lf (.sl 0 0 0 1 ns.length (some c)))).val ρ, (TV.s (.lf (.sl 1 0 0 1 tx.length (some ct)))).val ρ, .int .u8 (at_.toNat : Int), .int .u8 (wh.toNat : Int)] w (AllQ w) := by
  refine At.calls (args := [(TV.s (.lf (.sl 0 0 0 1 ns.length (some c)))), (TV.s (.lf (.sl 1 0 0 1 tx.length (some ct)))), .int .u8 (at_.toNat : Int), .int .u8 (wh.toNat : Int)]) (rows := [(0, numRow ns), (1, txtRow tx)]) (gl := []) (wr := []) (ρ := ρ) Tryd.func5 rfl rfl (init_ro1 ⟨trivial, trivial, rfl, rfl, trivial⟩ rfl rfl ⟨⟨hr (0, numRow ns) (by simp), num_ok ns⟩, ⟨hr (1, txtRow tx) (by simp), txt_ok tx⟩, trivial⟩) rfl ?_
  have hend : (∀ t ∈ tx, t.length ≤ 300) → ∀ i : Nat, ¬ i < tx.length → At Tryd.prog w ⟨[], ρ, []⟩ Tryd.f5.ntmps [] (lp Tryd.f5 0) (twQ w) [(0, (TV.s (.lf (.sl 0 0 0 1 ns.length (some c))))), (1, (TV.s (.lf (.sl 1 0 0 1 tx.length (some ct))))), (2, .int .u8 (at_.toNat : Int)), (3, .int .u8 (wh.toNat : Int)), (9, .int .i64 (i : Nat))] [(0, numRow ns), (1, txtRow tx)] := by
    intro h300 i hi
    obtain ⟨L, hL⟩ : ∃ L, L = madeL tx ns := ⟨_, rfl⟩
    obtain ⟨M, hM⟩ : ∃ M, M = L.length := ⟨_, rfl⟩
    obtain ⟨l0, l1, _, ld⟩ := made_len tx h300 ns
    have lp := made_path tx ns
    have hmay := made_may tx h300 ns
    rw [← hL] at l0 l1 lp ld hmay
    have kT : HintOk Tryd.prog 9002 (hTree 9002 (TV.s (.lf (.sl 0 0 0 1 ns.length (some c)))) (TV.s (.lf (.sl 1 0 0 1 tx.length (some ct)))) [(0, numRow ns), (1, txtRow tx)] L M) := by
      rw [hM, hL]
      exact hTree_of fun ρ w hq => tree_run1 ns tx ta ct hT h300 ns.length c rfl hn0 hc hc2 ρ w (fun q h => hq q h)
    have hw2 := at_.toNat_lt
    have hk : at_.toNat % M < M := Nat.mod_lt _ (by omega)
    refine At.run rfl [(9002, hTree 9002 (TV.s (.lf (.sl 0 0 0 1 ns.length (some c)))) (TV.s (.lf (.sl 1 0 0 1 tx.length (some ct)))) [(0, numRow ns), (1, txtRow tx)] L M), (2012000, .val (.tup [])), (2011004, .val (.int .i64 ((at_.toNat % M : Nat) : Int)))] ⟨kT, trivial, trivial, trivial⟩ [.n] (tm2 := [(3, .int .u8 (wh.toNat : Int)), (10, twS 9002 M none), (11, twS 10002 (0 + M) none), (12, .int .i64 ((at_.toNat % M : Nat) : Int))]) (rows2 := [(9002, rowN L M), (10002, fRow (appF (chunkF [] 3 0) 0 fun q => ndc L (addN 0 q)) (0 + M))])
      (ob := [[decide ((i : Int) < ((tx.length : Nat) : Int)) = false], qL (hTree 9002 (TV.s (.lf (.sl 0 0 0 1 ns.length (some c)))) (TV.s (.lf (.sl 1 0 0 1 tx.length (some ct)))) [(0, numRow ns), (1, txtRow tx)] L M), [(0 : Nat) = (0 : Nat), 0 + M ≤ 9223372036854775807, (0 + M) * 40 ≤ 140737488355328, 0 + M ≤ M, IntKind.i64.wrap (at_.toNat : Int) = (at_.toNat : Int), TV.int .i64 ((at_.toNat : Int) % ((0 + M : Nat) : Int)) = TV.int .i64 ((at_.toNat % M : Nat) : Int), 0 ≤ (at_.toNat : Int) ∧ (0 : Int) < ((0 + M : Nat) : Int)]].flatten) (td := rp Tryd.f5 11) (by kernel_rfl) ?_ rfl rfl (by intro h; cases h) ?_
    · exact all_flat ⟨⟨decide_eq_false (by omega), trivial⟩, all_qL _, ⟨rfl, by omega, by omega, by omega, by rw [IntKind.wrap_i64]; omega, by rw [Nat.zero_add, Int.natCast_emod], ⟨by omega, by omega⟩, trivial⟩, trivial⟩
    · rw [Nat.zero_add]
      refine At.rows (rows2 := twR L M) (rowsEq_same (rowsEq_fnc (fun i _ => ?_) trivial)) rfl ?_
      · rw [appF_hi (Nat.zero_le i), addN_eq, Nat.sub_zero, Nat.zero_add]
      · exact two_mid L M (at_.toNat % M) wh hM hk hmay l1 lp ld w ρ
  by_cases h8 : tx.length > 8
  · exact At.fin rfl [(3000, hAwake)] ⟨hAwake_ok _, trivial⟩ [.y] (x := .v (.bool true)) (ob := [decide ((tx.length : Int) > 8) = true] ++ qL hAwake) (by kernel_rfl) (all_append.2 ⟨⟨decide_eq_true (by omega), trivial⟩, all_qL _⟩) fun ρ w' hf _ => ⟨rfl, hf.below⟩
  have hloop : ∀ i : Nat, (i ≤ tx.length ∧ ∀ j, j < i → (txf tx j).length ≤ 300) → At Tryd.prog w ⟨[], ρ, []⟩ Tryd.f5.ntmps [] (lp Tryd.f5 0) (twQ w) [(0, (TV.s (.lf (.sl 0 0 0 1 ns.length (some c))))), (1, (TV.s (.lf (.sl 1 0 0 1 tx.length (some ct))))), (2, .int .u8 (at_.toNat : Int)), (3, .int .u8 (wh.toNat : Int)), (9, .int .i64 (i : Nat))] [(0, numRow ns), (1, txtRow tx)] := by
    refine At.loop (fun i : Nat => [(0, (TV.s (.lf (.sl 0 0 0 1 ns.length (some c))))), (1, (TV.s (.lf (.sl 1 0 0 1 tx.length (some ct))))), (2, .int .u8 (at_.toNat : Int)), (3, .int .u8 (wh.toNat : Int)), (9, .int .i64 (i : Nat))]) (fun _ => [(0, numRow ns), (1, txtRow tx)]) (fun i => i ≤ tx.length ∧ ∀ j, j < i → (txf tx j).length ≤ 300) (fun i => tx.length - i) fun i hx ih => ?_
    obtain ⟨hi, hj⟩ := hx
    by_cases h : i < tx.length
    · by_cases h3 : (txf tx i).length > 300
      · exact At.fin rfl [(8000, hAwake)] ⟨hAwake_ok _, trivial⟩ [.y, .y] (x := .v (.bool true)) (ob := [decide ((i : Int) < (tx.length : Int)) = true, 0 ≤ (i : Int) ∧ (i : Int) < (tx.length : Int), i < tx.length, decide (((txf tx i).length : Int) > 300) = true] ++ qL hAwake) (by kernel_rfl) (all_append.2 ⟨⟨decide_eq_true (by omega), ⟨by omega, by omega⟩, h, decide_eq_true (by omega), trivial⟩, all_qL _⟩) fun ρ w' hf _ => ⟨rfl, hf.below⟩
      · have h9 := ih (i + 1) ⟨h, fun j hj2 => by
          by_cases e : j < i
          · exact hj j e
          · obtain rfl : j = i := by omega
            omega⟩ (by omega)
        exact At.run rfl [] trivial [.y, .n] (tm2 := [(0, (TV.s (.lf (.sl 0 0 0 1 ns.length (some c))))), (1, (TV.s (.lf (.sl 1 0 0 1 tx.length (some ct))))), (2, .int .u8 (at_.toNat : Int)), (3, .int .u8 (wh.toNat : Int)), (9, .int .i64 (i + 1 : Nat))]) (rows2 := [(0, numRow ns), (1, txtRow tx)]) (ob := [decide ((i : Int) < (tx.length : Int)) = true, 0 ≤ (i : Int) ∧ (i : Int) < (tx.length : Int), i < tx.length, decide (((txf tx i).length : Int) > 300) = false, inI ((i : Int) + 1)]) (td := lp Tryd.f5 0) (by kernel_rfl) ⟨decide_eq_true (by omega), ⟨by omega, by omega⟩, h, decide_eq_false (by omega), ⟨by omega, by omega⟩, trivial⟩ rfl rfl (by intro h; cases h) h9
    · refine hend (fun t ht => ?_) i h
      obtain ⟨j, hj3, rfl⟩ := List.getElem_of_mem ht
      have := hj j (by omega)
      unfold txf at this
      rw [List.getD_eq_getElem?_getD, List.getElem?_eq_getElem hj3] at this
      exact this
  exact At.run rfl [] trivial [.n] (tm2 := [(0, (TV.s (.lf (.sl 0 0 0 1 ns.length (some c))))), (1, (TV.s (.lf (.sl 1 0 0 1 tx.length (some ct))))), (2, .int .u8 (at_.toNat : Int)), (3, .int .u8 (wh.toNat : Int)), (9, .int .i64 (0 : Nat))]) (rows2 := [(0, numRow ns), (1, txtRow tx)]) (ob := [decide ((tx.length : Int) > 8) = false]) (td := lp Tryd.f5 0) (by kernel_rfl) ⟨decide_eq_false (by omega), trivial⟩ rfl rfl (by intro h; cases h) (hloop 0 ⟨Nat.zero_le _, fun j hj => absurd hj (Nat.not_lt_zero j)⟩)
set_option maxRecDepth 100000 in
set_option maxHeartbeats 1000000 in
theorem two_run10 (ns : List UInt8) (na : Option Addr) (c : Nat) (tx : List (List UInt8)) (ta : Option Addr) (ct : Nat) (at_ wh : UInt8) (hT : TxSrc (TV.v (.slice ta 0 ct)) [] tx) (hn0 : 0 < ns.length) (hc : ns.length ≤ c) (hc2 : c ≤ 140737488355328) (ht0 : tx = []) (htl : tx.length ≤ 9223372036854775807) (ρ : Env) (w : World)
    (hr : ∀ q ∈ ([(0, numRow ns)] : List (Nat × Row)), RowAt ρ q.1 q.2 w) : Calls Tryd.prog 5 #[(TV.s (.lf (.sl 0 0 0 1 ns.length (some c)))).val ρ, (TV.v (.slice ta 0 ct)).val ρ, .int .u8 (at_.toNat : Int), .int .u8 (wh.toNat : Int)] w (AllQ w) := by
  refine At.calls (args := [(TV.s (.lf (.sl 0 0 0 1 ns.length (some c)))), (TV.v (.slice ta 0 ct)), .int .u8 (at_.toNat : Int), .int .u8 (wh.toNat : Int)]) (rows := [(0, numRow ns)]) (gl := []) (wr := []) (ρ := ρ) Tryd.func5 rfl rfl (init_ro1 ⟨trivial, rfl, rfl, rfl, trivial⟩ rfl rfl ⟨⟨hr (0, numRow ns) (by simp), num_ok ns⟩, trivial⟩) rfl ?_
  have hend : (∀ t ∈ tx, t.length ≤ 300) → ∀ i : Nat, ¬ i < 0 → At Tryd.prog w ⟨[], ρ, []⟩ Tryd.f5.ntmps [] (lp Tryd.f5 0) (twQ w) [(0, (TV.s (.lf (.sl 0 0 0 1 ns.length (some c))))), (1, (TV.v (.slice ta 0 ct))), (2, .int .u8 (at_.toNat : Int)), (3, .int .u8 (wh.toNat : Int)), (9, .int .i64 (i : Nat))] [(0, numRow ns)] := by
    intro h300 i hi
    obtain ⟨L, hL⟩ : ∃ L, L = madeL tx ns := ⟨_, rfl⟩
    obtain ⟨M, hM⟩ : ∃ M, M = L.length := ⟨_, rfl⟩
    obtain ⟨l0, l1, _, ld⟩ := made_len tx h300 ns
    have lp := made_path tx ns
    have hmay := made_may tx h300 ns
    rw [← hL] at l0 l1 lp ld hmay
    have kT : HintOk Tryd.prog 9002 (hTree 9002 (TV.s (.lf (.sl 0 0 0 1 ns.length (some c)))) (TV.v (.slice ta 0 ct)) [(0, numRow ns)] L M) := by
      rw [hM, hL]
      exact hTree_of fun ρ w hq => tree_run0 ns tx ta ct hT h300 ns.length c rfl hn0 hc hc2 ρ w (fun q h => hq q h)
    have hw2 := at_.toNat_lt
    have hk : at_.toNat % M < M := Nat.mod_lt _ (by omega)
    refine At.run rfl [(9002, hTree 9002 (TV.s (.lf (.sl 0 0 0 1 ns.length (some c)))) (TV.v (.slice ta 0 ct)) [(0, numRow ns)] L M), (2012000, .val (.tup [])), (2011004, .val (.int .i64 ((at_.toNat % M : Nat) : Int)))] ⟨kT, trivial, trivial, trivial⟩ [.n] (tm2 := [(3, .int .u8 (wh.toNat : Int)), (10, twS 9002 M none), (11, twS 10002 (0 + M) none), (12, .int .i64 ((at_.toNat % M : Nat) : Int))]) (rows2 := [(9002, rowN L M), (10002, fRow (appF (chunkF [] 3 0) 0 fun q => ndc L (addN 0 q)) (0 + M))])
      (ob := [[decide ((i : Int) < ((0 : Nat) : Int)) = false], qL (hTree 9002 (TV.s (.lf (.sl 0 0 0 1 ns.length (some c)))) (TV.v (.slice ta 0 ct)) [(0, numRow ns)] L M), [(0 : Nat) = (0 : Nat), 0 + M ≤ 9223372036854775807, (0 + M) * 40 ≤ 140737488355328, 0 + M ≤ M, IntKind.i64.wrap (at_.toNat : Int) = (at_.toNat : Int), TV.int .i64 ((at_.toNat : Int) % ((0 + M : Nat) : Int)) = TV.int .i64 ((at_.toNat % M : Nat) : Int), 0 ≤ (at_.toNat : Int) ∧ (0 : Int) < ((0 + M : Nat) : Int)]].flatten) (td := rp Tryd.f5 11) (by kernel_rfl) ?_ rfl rfl (by intro h; cases h) ?_
    · exact all_flat ⟨⟨decide_eq_false (by omega), trivial⟩, all_qL _, ⟨rfl, by omega, by omega, by omega, by rw [IntKind.wrap_i64]; omega, by rw [Nat.zero_add, Int.natCast_emod], ⟨by omega, by omega⟩, trivial⟩, trivial⟩
    · rw [Nat.zero_add]
      refine At.rows (rows2 := twR L M) (rowsEq_same (rowsEq_fnc (fun i _ => ?_) trivial)) rfl ?_
      · rw [appF_hi (Nat.zero_le i), addN_eq, Nat.sub_zero, Nat.zero_add]
      · exact two_mid L M (at_.toNat % M) wh hM hk hmay l1 lp ld w ρ
  exact At.run rfl [] trivial [.n] (tm2 := [(0, (TV.s (.lf (.sl 0 0 0 1 ns.length (some c))))), (1, (TV.v (.slice ta 0 ct))), (2, .int .u8 (at_.toNat : Int)), (3, .int .u8 (wh.toNat : Int)), (9, .int .i64 (0 : Nat))]) (rows2 := [(0, numRow ns)]) (ob := [false = false]) (td := lp Tryd.f5 0) (by kernel_rfl) ⟨rfl, trivial⟩ rfl rfl (by intro h; cases h) (hend (fun t ht => by rw [ht0] at ht; cases ht) 0 (by omega))
set_option maxRecDepth 100000 in
set_option maxHeartbeats 1000000 in
theorem two_run01 (ns : List UInt8) (na : Option Addr) (c : Nat) (tx : List (List UInt8)) (ta : Option Addr) (ct : Nat) (at_ wh : UInt8) (hT : TxSrc (TV.s (.lf (.sl 1 0 0 1 tx.length (some ct)))) [(1, txtRow tx)] tx) (hn0 : ns = [])  (htl : tx.length ≤ 9223372036854775807) (ρ : Env) (w : World)
    (hr : ∀ q ∈ ([(1, txtRow tx)] : List (Nat × Row)), RowAt ρ q.1 q.2 w) : Calls Tryd.prog 5 #[(TV.v (.slice na 0 c)).val ρ, (TV.s (.lf (.sl 1 0 0 1 tx.length (some ct)))).val ρ, .int .u8 (at_.toNat : Int), .int .u8 (wh.toNat : Int)] w (AllQ w) := by
  refine At.calls (args := [(TV.v (.slice na 0 c)), (TV.s (.lf (.sl 1 0 0 1 tx.length (some ct)))), .int .u8 (at_.toNat : Int), .int .u8 (wh.toNat : Int)]) (rows := [(1, txtRow tx)]) (gl := []) (wr := []) (ρ := ρ) Tryd.func5 rfl rfl (init_ro1 ⟨rfl, trivial, rfl, rfl, trivial⟩ rfl rfl ⟨⟨hr (1, txtRow tx) (by simp), txt_ok tx⟩, trivial⟩) rfl ?_
  have hend : (∀ t ∈ tx, t.length ≤ 300) → ∀ i : Nat, ¬ i < tx.length → At Tryd.prog w ⟨[], ρ, []⟩ Tryd.f5.ntmps [] (lp Tryd.f5 0) (twQ w) [(0, (TV.v (.slice na 0 c))), (1, (TV.s (.lf (.sl 1 0 0 1 tx.length (some ct))))), (2, .int .u8 (at_.toNat : Int)), (3, .int .u8 (wh.toNat : Int)), (9, .int .i64 (i : Nat))] [(1, txtRow tx)] := by
    intro h300 i hi
    obtain ⟨L, hL⟩ : ∃ L, L = madeL tx ns := ⟨_, rfl⟩
    obtain ⟨M, hM⟩ : ∃ M, M = L.length := ⟨_, rfl⟩
    obtain ⟨l0, l1, _, ld⟩ := made_len tx h300 ns
    have lp := made_path tx ns
    have hmay := made_may tx h300 ns
    rw [← hL] at l0 l1 lp ld hmay
    have kT : HintOk Tryd.prog 9002 (hTree 9002 (TV.v (.slice na 0 c)) (TV.s (.lf (.sl 1 0 0 1 tx.length (some ct)))) [(1, txtRow tx)] L M) := by
      rw [hM, hL, hn0]
      exact hTree_of fun ρ w hq => tree_nil1 na c tx ta ct hT ρ w (fun q h => hq q h)
    have hw2 := at_.toNat_lt
    have hk : at_.toNat % M < M := Nat.mod_lt _ (by omega)
    refine At.run rfl [(9002, hTree 9002 (TV.v (.slice na 0 c)) (TV.s (.lf (.sl 1 0 0 1 tx.length (some ct)))) [(1, txtRow tx)] L M), (2012000, .val (.tup [])), (2011004, .val (.int .i64 ((at_.toNat % M : Nat) : Int)))] ⟨kT, trivial, trivial, trivial⟩ [.n] (tm2 := [(3, .int .u8 (wh.toNat : Int)), (10, twS 9002 M none), (11, twS 10002 (0 + M) none), (12, .int .i64 ((at_.toNat % M : Nat) : Int))]) (rows2 := [(9002, rowN L M), (10002, fRow (appF (chunkF [] 3 0) 0 fun q => ndc L (addN 0 q)) (0 + M))])
      (ob := [[decide ((i : Int) < ((tx.length : Nat) : Int)) = false], qL (hTree 9002 (TV.v (.slice na 0 c)) (TV.s (.lf (.sl 1 0 0 1 tx.length (some ct)))) [(1, txtRow tx)] L M), [(0 : Nat) = (0 : Nat), 0 + M ≤ 9223372036854775807, (0 + M) * 40 ≤ 140737488355328, 0 + M ≤ M, IntKind.i64.wrap (at_.toNat : Int) = (at_.toNat : Int), TV.int .i64 ((at_.toNat : Int) % ((0 + M : Nat) : Int)) = TV.int .i64 ((at_.toNat % M : Nat) : Int), 0 ≤ (at_.toNat : Int) ∧ (0 : Int) < ((0 + M : Nat) : Int)]].flatten) (td := rp Tryd.f5 11) (by kernel_rfl) ?_ rfl rfl (by intro h; cases h) ?_
    · exact all_flat ⟨⟨decide_eq_false (by omega), trivial⟩, all_qL _, ⟨rfl, by omega, by omega, by omega, by rw [IntKind.wrap_i64]; omega, by rw [Nat.zero_add, Int.natCast_emod], ⟨by omega, by omega⟩, trivial⟩, trivial⟩
    · rw [Nat.zero_add]
      refine At.rows (rows2 := twR L M) (rowsEq_same (rowsEq_fnc (fun i _ => ?_) trivial)) rfl ?_
      · rw [appF_hi (Nat.zero_le i), addN_eq, Nat.sub_zero, Nat.zero_add]
      · exact two_mid L M (at_.toNat % M) wh hM hk hmay l1 lp ld w ρ
  by_cases h8 : tx.length > 8
  · exact At.fin rfl [(3000, hAwake)] ⟨hAwake_ok _, trivial⟩ [.y] (x := .v (.bool true)) (ob := [decide ((tx.length : Int) > 8) = true] ++ qL hAwake) (by kernel_rfl) (all_append.2 ⟨⟨decide_eq_true (by omega), trivial⟩, all_qL _⟩) fun ρ w' hf _ => ⟨rfl, hf.below⟩
  have hloop : ∀ i : Nat, (i ≤ tx.length ∧ ∀ j, j < i → (txf tx j).length ≤ 300) → At Tryd.prog w ⟨[], ρ, []⟩ Tryd.f5.ntmps [] (lp Tryd.f5 0) (twQ w) [(0, (TV.v (.slice na 0 c))), (1, (TV.s (.lf (.sl 1 0 0 1 tx.length (some ct))))), (2, .int .u8 (at_.toNat : Int)), (3, .int .u8 (wh.toNat : Int)), (9, .int .i64 (i : Nat))] [(1, txtRow tx)] := by
    refine At.loop (fun i : Nat => [(0, (TV.v (.slice na 0 c))), (1, (TV.s (.lf (.sl 1 0 0 1 tx.length (some ct))))), (2, .int .u8 (at_.toNat : Int)), (3, .int .u8 (wh.toNat : Int)), (9, .int .i64 (i : Nat))]) (fun _ => [(1, txtRow tx)]) (fun i => i ≤ tx.length ∧ ∀ j, j < i → (txf tx j).length ≤ 300) (fun i => tx.length - i) fun i hx ih => ?_
    obtain ⟨hi, hj⟩ := hx
    by_cases h : i < tx.length
    · by_cases h3 : (txf tx i).length > 300
      · exact At.fin rfl [(8000, hAwake)] ⟨hAwake_ok _, trivial⟩ [.y, .y] (x := .v (.bool true)) (ob := [decide ((i : Int) < (tx.length : Int)) = true, 0 ≤ (i : Int) ∧ (i : Int) < (tx.length : Int), i < tx.length, decide (((txf tx i).length : Int) > 300) = true] ++ qL hAwake) (by kernel_rfl) (all_append.2 ⟨⟨decide_eq_true (by omega), ⟨by omega, by omega⟩, h, decide_eq_true (by omega), trivial⟩, all_qL _⟩) fun ρ w' hf _ => ⟨rfl, hf.below⟩
      · have h9 := ih (i + 1) ⟨h, fun j hj2 => by
          by_cases e : j < i
          · exact hj j e
          · obtain rfl : j = i := by omega
            omega⟩ (by omega)
        exact At.run rfl [] trivial [.y, .n] (tm2 := [(0, (TV.v (.slice na 0 c))), (1, (TV.s (.lf (.sl 1 0 0 1 tx.length (some ct))))), (2, .int .u8 (at_.toNat : Int)), (3, .int .u8 (wh.toNat : Int)), (9, .int .i64 (i + 1 : Nat))]) (rows2 := [(1, txtRow tx)]) (ob := [decide ((i : Int) < (tx.length : Int)) = true, 0 ≤ (i : Int) ∧ (i : Int) < (tx.length : Int), i < tx.length, decide (((txf tx i).length : Int) > 300) = false, inI ((i : Int) + 1)]) (td := lp Tryd.f5 0) (by kernel_rfl) ⟨decide_eq_true (by omega), ⟨by omega, by omega⟩, h, decide_eq_false (by omega), ⟨by omega, by omega⟩, trivial⟩ rfl rfl (by intro h; cases h) h9
    · refine hend (fun t ht => ?_) i h
      obtain ⟨j, hj3, rfl⟩ := List.getElem_of_mem ht
      have := hj j (by omega)
      unfold txf at this
      rw [List.getD_eq_getElem?_getD, List.getElem?_eq_getElem hj3] at this
      exact this
  exact At.run rfl [] trivial [.n] (tm2 := [(0, (TV.v (.slice na 0 c))), (1, (TV.s (.lf (.sl 1 0 0 1 tx.length (some ct))))), (2, .int .u8 (at_.toNat : Int)), (3, .int .u8 (wh.toNat : Int)), (9, .int .i64 (0 : Nat))]) (rows2 := [(1, txtRow tx)]) (ob := [decide ((tx.length : Int) > 8) = false]) (td := lp Tryd.f5 0) (by kernel_rfl) ⟨decide_eq_false (by omega), trivial⟩ rfl rfl (by intro h; cases h) (hloop 0 ⟨Nat.zero_le _, fun j hj => absurd hj (Nat.not_lt_zero j)⟩)
set_option maxRecDepth 100000 in
set_option maxHeartbeats 1000000 in
theorem two_run00 (ns : List UInt8) (na : Option Addr) (c : Nat) (tx : List (List UInt8)) (ta : Option Addr) (ct : Nat) (at_ wh : UInt8) (hT : TxSrc (TV.v (.slice ta 0 ct)) [] tx) (hn0 : ns = []) (ht0 : tx = []) (htl : tx.length ≤ 9223372036854775807) (ρ : Env) (w : World)
    (hr : ∀ q ∈ ([] : List (Nat × Row)), RowAt ρ q.1 q.2 w) : Calls Tryd.prog 5 #[(TV.v (.slice na 0 c)).val ρ, (TV.v (.slice ta 0 ct)).val ρ, .int .u8 (at_.toNat : Int), .int .u8 (wh.toNat : Int)] w (AllQ w) := by
  refine At.calls (args := [(TV.v (.slice na 0 c)), (TV.v (.slice ta 0 ct)), .int .u8 (at_.toNat : Int), .int .u8 (wh.toNat : Int)]) (rows := []) (gl := []) (wr := []) (ρ := ρ) Tryd.func5 rfl rfl (init_ro1 ⟨rfl, rfl, rfl, rfl, trivial⟩ rfl rfl trivial) rfl ?_
  have hend : (∀ t ∈ tx, t.length ≤ 300) → ∀ i : Nat, ¬ i < 0 → At Tryd.prog w ⟨[], ρ, []⟩ Tryd.f5.ntmps [] (lp Tryd.f5 0) (twQ w) [(0, (TV.v (.slice na 0 c))), (1, (TV.v (.slice ta 0 ct))), (2, .int .u8 (at_.toNat : Int)), (3, .int .u8 (wh.toNat : Int)), (9, .int .i64 (i : Nat))] [] := by
    intro h300 i hi
    obtain ⟨L, hL⟩ : ∃ L, L = madeL tx ns := ⟨_, rfl⟩
    obtain ⟨M, hM⟩ : ∃ M, M = L.length := ⟨_, rfl⟩
    obtain ⟨l0, l1, _, ld⟩ := made_len tx h300 ns
    have lp := made_path tx ns
    have hmay := made_may tx h300 ns
    rw [← hL] at l0 l1 lp ld hmay
    have kT : HintOk Tryd.prog 9002 (hTree 9002 (TV.v (.slice na 0 c)) (TV.v (.slice ta 0 ct)) [] L M) := by
      rw [hM, hL, hn0]
      exact hTree_of fun ρ w hq => tree_nil0 na c tx ta ct hT ρ w (fun q h => hq q h)
    have hw2 := at_.toNat_lt
    have hk : at_.toNat % M < M := Nat.mod_lt _ (by omega)
    refine At.run rfl [(9002, hTree 9002 (TV.v (.slice na 0 c)) (TV.v (.slice ta 0 ct)) [] L M), (2012000, .val (.tup [])), (2011004, .val (.int .i64 ((at_.toNat % M : Nat) : Int)))] ⟨kT, trivial, trivial, trivial⟩ [.n] (tm2 := [(3, .int .u8 (wh.toNat : Int)), (10, twS 9002 M none), (11, twS 10002 (0 + M) none), (12, .int .i64 ((at_.toNat % M : Nat) : Int))]) (rows2 := [(9002, rowN L M), (10002, fRow (appF (chunkF [] 3 0) 0 fun q => ndc L (addN 0 q)) (0 + M))])
      (ob := [[decide ((i : Int) < ((0 : Nat) : Int)) = false], qL (hTree 9002 (TV.v (.slice na 0 c)) (TV.v (.slice ta 0 ct)) [] L M), [(0 : Nat) = (0 : Nat), 0 + M ≤ 9223372036854775807, (0 + M) * 40 ≤ 140737488355328, 0 + M ≤ M, IntKind.i64.wrap (at_.toNat : Int) = (at_.toNat : Int), TV.int .i64 ((at_.toNat : Int) % ((0 + M : Nat) : Int)) = TV.int .i64 ((at_.toNat % M : Nat) : Int), 0 ≤ (at_.toNat : Int) ∧ (0 : Int) < ((0 + M : Nat) : Int)]].flatten) (td := rp Tryd.f5 11) (by kernel_rfl) ?_ rfl rfl (by intro h; cases h) ?_
    · exact all_flat ⟨⟨decide_eq_false (by omega), trivial⟩, all_qL _, ⟨rfl, by omega, by omega, by omega, by rw [IntKind.wrap_i64]; omega, by rw [Nat.zero_add, Int.natCast_emod], ⟨by omega, by omega⟩, trivial⟩, trivial⟩
    · rw [Nat.zero_add]
      refine At.rows (rows2 := twR L M) (rowsEq_same (rowsEq_fnc (fun i _ => ?_) trivial)) rfl ?_
      · rw [appF_hi (Nat.zero_le i), addN_eq, Nat.sub_zero, Nat.zero_add]
      · exact two_mid L M (at_.toNat % M) wh hM hk hmay l1 lp ld w ρ
  exact At.run rfl [] trivial [.n] (tm2 := [(0, (TV.v (.slice na 0 c))), (1, (TV.v (.slice ta 0 ct))), (2, .int .u8 (at_.toNat : Int)), (3, .int .u8 (wh.toNat : Int)), (9, .int .i64 (0 : Nat))]) (rows2 := []) (ob := [false = false]) (td := lp Tryd.f5 0) (by kernel_rfl) ⟨rfl, trivial⟩ rfl rfl (by intro h; cases h) (hend (fun t ht => by rw [ht0] at ht; cases ht) 0 (by omega))
end
end Go.Proofs.YtgbaaiedpiiepaaDoor
namespace Go.Proofs.YtgbaaiedpiiepaaDoor
open Go.RowKit Go.Shelf
set_option linter.unusedVariables false
set_option linter.unusedSimpArgs false
section
open E
theorem two_any (w : World) (pa : Option Addr) (len ca : Nat) (ns : List UInt8) (hN : NumIn (W := w) pa len ca ns) (hca : ca ≤ 140737488355328) (v : Value) (tx : List (List UInt8)) (hT : TxtV w v tx) (at_ wh : UInt8) : Calls Tryd.prog 5 #[.slice pa len ca, v, .int .u8 (at_.toNat : Int), .int .u8 (wh.toNat : Int)] w (AllQ w) := by
  obtain ⟨hl, hc, hN⟩ := hN
  obtain ⟨htl, ta, ct, rfl, hT⟩ := hT
  subst hl
  rcases Nat.eq_zero_or_pos ns.length with e | e
  · have e1 : ns = [] := List.length_eq_zero_iff.1 e
    rcases Nat.eq_zero_or_pos tx.length with e2 | e2
    · have e3 : tx = [] := List.length_eq_zero_iff.1 e2
      subst e1 e3
      exact two_run00 [] pa ca [] ta ct at_ wh (txs_nil ta ct) rfl rfl (by simp) (fun _ => ⟨0, 0, 0⟩) w (fun q hq => by cases hq)
    · obtain ⟨b, o, rfl, hx⟩ := hT e2
      subst e1
      exact two_run01 [] pa ca tx none ct at_ wh (txs_row 1 ct tx htl) rfl htl (fun _ => ⟨b, o, 0⟩) w (fun q hq => by
        obtain rfl := List.mem_singleton.1 hq
        exact txt_row e2 hx _ 1 rfl)
  · obtain ⟨b, o, rfl, hb, hx⟩ := hN e
    rcases Nat.eq_zero_or_pos tx.length with e2 | e2
    · have e3 : tx = [] := List.length_eq_zero_iff.1 e2
      subst e3
      exact two_run10 ns none ca [] ta ct at_ wh (txs_nil ta ct) e hc hca rfl (by simp) (fun _ => ⟨b, o, 0⟩) w (fun q hq => by
        obtain rfl := List.mem_singleton.1 hq
        exact num_row e hb hx _ 0 rfl)
    · obtain ⟨b2, o2, rfl, hx2⟩ := hT e2
      exact two_run11 ns none ca tx none ct at_ wh (txs_row 1 ct tx htl) e hc hca htl (fun i => if i = 0 then ⟨b, o, 0⟩ else ⟨b2, o2, 0⟩) w (fun q hq => by
        simp only [List.mem_cons, List.not_mem_nil, or_false] at hq
        rcases hq with rfl | rfl
        · exact num_row e hb hx _ 0 rfl
        · exact txt_row e2 hx2 _ 1 rfl)
end
end Go.Proofs.YtgbaaiedpiiepaaDoor
