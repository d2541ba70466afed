/- What the listed variables' conditions give: the curve's number, its first point, the field's number, stand in memory as the program's text lays them. -/
import Derived.Test.YtgbliacncahooaaDoorGFld
import Derived.Test.YtgbliacncahooaaDoorGMathA
import Derived.ProofKit
import Derived.LaidMore
import Derived.LaidHandle
import Derived.LaidLaws
import Derived.OpenShut
import Derived.ChangeArms
import Derived.Lay
import Derived.Stop.Joined
namespace Go.Proofs.YtgbliacncahooaaDoor
open Go.ChangeShapes Go.WideShapes Go.RowKit
set_option linter.unusedVariables false
/-- The field's number, as its text lays it. -/
def GlobT (w : World) : Prop := ∃ t, w.heap[2]? = some (.cells (num tn) t (0, 0))
/-- The curve's number and its first point, as their texts lay them. -/
def Glob (w : World) : Prop := (∃ t, w.heap[0]? = some (.cells (num dN) t (0, 0))) ∧ ∃ t, w.heap[1]? = some (.cells (num baseN.1 ++ num baseN.2) t (0, 0))
theorem GlobT.below {w w' : World} (h : GlobT w) (hb : Below w.heap.size w w') : GlobT w' := by
  obtain ⟨t, h⟩ := h
  exact ⟨t, by rw [hb.block 2 (Array.getElem?_eq_some_iff.1 h).1]; exact h⟩
theorem GlobT.kn {w0 w : World} {l : List (Nat × Array Value)} (h : GlobT w0) (hk : Kn w0 l w) : GlobT w := h.below hk.1
theorem GlobT.load {w : World} (h : GlobT w) : (loadVar 24 ⟨2, 0, none⟩).run Tryd.prog w = .ok (.agg (num tn)) w := by
  obtain ⟨t, h⟩ := h
  exact run_loadVar_seg w 24 2 0 (rowOf .u64 4 (dig tn)) _ (Row.seg (t := t) h) Tryd.underlying24 rfl (size24 (dig tn))
theorem Glob.below {w w' : World} (h : Glob w) (hb : Below w.heap.size w w') : Glob w' := by
  obtain ⟨⟨t, h⟩, t2, h2⟩ := h
  exact ⟨⟨t, by rw [hb.block 0 (Array.getElem?_eq_some_iff.1 h).1]; exact h⟩, t2, by rw [hb.block 1 (Array.getElem?_eq_some_iff.1 h2).1]; exact h2⟩
theorem Glob.kn {w0 w : World} {l : List (Nat × Array Value)} (h : Glob w0) (hk : Kn w0 l w) : Glob w := h.below hk.1
theorem Glob.load {w : World} (h : Glob w) : (loadVar 24 ⟨0, 0, none⟩).run Tryd.prog w = .ok (.agg (num dN)) w := by
  obtain ⟨⟨t, h⟩, _⟩ := h
  exact run_loadVar_seg w 24 0 0 (rowOf .u64 4 (dig dN)) _ (Row.seg (t := t) h) Tryd.underlying24 rfl (size24 (dig dN))
theorem arr_of_trod {H : Type} {enc : TypeId × Value → H} {P : Program} {w : World} {base : Nat} {sp : Nat → Bool} {held : Bool} {fuel n : Nat} {t e : TypeId} {kd : IntKind} {cs : List Value} {p : List MemPlace}
    (ht : P.underlying t = some (.array n e)) (he : P.underlying e = some (.int kd)) (hce : P.cellsOf e = 1) (hct : P.cellsOf t = n) (ns : List Int)
    (hd : DataW.trod enc P w base sp held fuel t cs = some (.agg (ns.map fun k => .lit (.int kd k)), p)) : cs = ns.map (Value.int kd) := by
  obtain ⟨xs, m, rfl, hx, hlen, hn, hel⟩ := DataW.trod_array ht hd
  simp only [Prod.mk.injEq, DataW.agg.injEq] at hx
  have hx1 := hx.1
  have hnl : ns.length = n := by
    have := congrArg List.length hx1
    simp at this
    omega
  apply List.ext_getElem?
  intro i
  by_cases hi : i < n
  · have h1 := hel i hi
    rw [hce, Nat.mul_one] at h1
    rw [List.getElem?_eq_getElem (by omega : i < xs.length)] at h1
    obtain ⟨k, e1, e2, _⟩ := DataW.trod_int he h1
    have hk : ns[i]? = some k := by
      have := congrArg (fun l => l[i]?) hx1
      simp only [List.getElem?_map, List.getElem?_eq_getElem (by omega : i < xs.length), List.getElem?_eq_getElem (by omega : i < ns.length), Option.map_some] at this
      rw [e2] at this
      rw [List.getElem?_eq_getElem (by omega : i < ns.length)]
      simp at this
      rw [this]
    rw [List.getElem?_map, hk]
    have h2 := congrArg (fun l => l[0]?) e1
    simp only [List.getElem?_take, List.getElem?_drop] at h2
    simpa using h2
  · rw [List.getElem?_eq_none (by omega), List.getElem?_eq_none (by simp; omega)]
def turnI : List Int := [14190309331451158704, 3405592160176694392, 3120150775007532967, 3135389899092516619]
theorem turn_num : (turnI.map (Value.int .u64)).toArray = num tn := by
  rw [num_lit, show dig tn 0 = 14190309331451158704 by decide +kernel, show dig tn 1 = 3405592160176694392 by decide +kernel, show dig tn 2 = 3120150775007532967 by decide +kernel, show dig tn 3 = 3135389899092516619 by decide +kernel]
  rfl
def ddI : List Int := [8496970652267935907, 31536524315187371, 10144147576115030168, 5909686906226998899]
theorem dd_num : (ddI.map (Value.int .u64)).toArray = num dN := by
  rw [num_lit, show dig dN 0 = 8496970652267935907 by rw [dN_val]; decide +kernel, show dig dN 1 = 31536524315187371 by rw [dN_val]; decide +kernel, show dig dN 2 = 10144147576115030168 by rw [dN_val]; decide +kernel, show dig dN 3 = 5909686906226998899 by rw [dN_val]; decide +kernel]
  rfl
def bxI : List Int := [14507833142362363162, 7578651490590762930, 13881468655802702940, 2407515759118799870]
theorem bx_num : (bxI.map (Value.int .u64)).toArray = num baseN.1 := by
  rw [num_lit, show dig baseN.1 0 = 14507833142362363162 by decide +kernel, show dig baseN.1 1 = 7578651490590762930 by decide +kernel, show dig baseN.1 2 = 13881468655802702940 by decide +kernel, show dig baseN.1 3 = 2407515759118799870 by decide +kernel]
  rfl
def byI : List Int := [7378697629483820632, 7378697629483820646, 7378697629483820646, 7378697629483820646]
theorem by_num : (byI.map (Value.int .u64)).toArray = num baseN.2 := by
  rw [num_lit, show dig baseN.2 0 = 7378697629483820632 by decide +kernel, show dig baseN.2 1 = 7378697629483820646 by decide +kernel, show dig baseN.2 2 = 7378697629483820646 by decide +kernel, show dig baseN.2 3 = 7378697629483820646 by decide +kernel]
  rfl
theorem turn_data {H : Type} : (Rows.laid_shelfmark_field_turn : DataW H) = .agg (turnI.map fun k => .lit (.int .u64 k)) := rfl
theorem d_data {H : Type} : (Rows.laid_shelfmark_point_d : DataW H) = .agg (ddI.map fun k => .lit (.int .u64 k)) := rfl
theorem base_data {H : Type} : (Rows.laid_shelfmark_point_base : DataW H) = .agg [.agg (bxI.map fun k => .lit (.int .u64 k)), .agg (byI.map fun k => .lit (.int .u64 k))] := rfl
theorem row_of_var {W : World} {P : Program} {n : String} {g : Nat} {cs : Array Value} (hg : P.globalNamed n = some g) (hv : W.var? P n = some cs) (hfr : ∃ c t, W.heap[g]? = some (.cells c t (0, 0))) : ∃ t, W.heap[g]? = some (.cells cs t (0, 0)) := by
  obtain ⟨c, t, h⟩ := hfr
  simp only [World.var?, hg, Option.bind_some, h, Option.some.injEq] at hv
  subst hv
  exact ⟨t, h⟩
theorem mem_row (g n : Nat) (hn : 0 < n) : MemPlace.cell g 0 ∈ MemPlace.row ⟨g, 0, none⟩ n := by
  unfold MemPlace.row
  exact List.mem_map.2 ⟨0, List.mem_range.2 hn, rfl⟩
theorem base_of_trod {H : Type} {enc : TypeId × Value → H} {w : World} {base : Nat} {sp : Nat → Bool} {held : Bool} {fuel : Nat} {cs : List Value} {p : List MemPlace}
    (hd : DataW.trod enc Tryd.prog w base sp held fuel 26 cs = some (.agg [.agg (bxI.map fun k => .lit (.int .u64 k)), .agg (byI.map fun k => .lit (.int .u64 k))], p)) : cs = bxI.map (Value.int .u64) ++ byI.map (Value.int .u64) := by
  obtain ⟨xs, n, rfl, hx, hlen, hn, hel⟩ := DataW.trod_struct Tryd.underlying26 hd
  simp only [Prod.mk.injEq, DataW.agg.injEq] at hx
  have hx1 := hx.1
  have h0 := hel 0 _ rfl
  have h1 := hel 1 _ rfl
  rw [show Tryd.prog.cellsOf 26 = 8 by kernel_rfl] at hlen
  match xs, hx1 with
  | [(d0, p0), (d1, p1)], hx1 =>
    simp only [List.map_cons, List.map_nil, List.cons.injEq, and_true] at hx1
    obtain ⟨e0, e1⟩ := hx1
    have e4 : Tryd.prog.cellsOf 24 = 4 := by kernel_rfl
    have h0' : DataW.trod enc Tryd.prog w base sp held n 24 (cs.take (Tryd.prog.cellsOf 24)) = some (d0, p0) := h0
    have h1' : DataW.trod enc Tryd.prog w base sp held n 24 ((cs.drop 4).take (Tryd.prog.cellsOf 24)) = some (d1, p1) := h1
    rw [e4] at h0' h1'
    rw [← e0] at h0'
    rw [← e1] at h1'
    have c0 := arr_of_trod Tryd.underlying24 Tryd.underlying22 (by kernel_rfl) (by kernel_rfl) _ h0'
    have c1 := arr_of_trod Tryd.underlying24 Tryd.underlying22 (by kernel_rfl) (by kernel_rfl) _ h1'
    rw [List.take_of_length_le (by rw [List.length_drop]; omega)] at c1
    rw [← c0, ← c1, List.take_append_drop]
theorem base_cells : (bxI.map (Value.int .u64) ++ byI.map (Value.int .u64)).toArray = num baseN.1 ++ num baseN.2 := by rw [← bx_num, ← by_num]; rfl
theorem gTurn : Tryd.prog.globalNamed "shelfmark/field.turn" = some 2 := by kernel_rfl
theorem tTurn : (Tryd.prog.globals[2]?).map (·.type) = some 24 := by kernel_rfl
theorem gD : Tryd.prog.globalNamed "shelfmark/point.d" = some 0 := by kernel_rfl
theorem tD : (Tryd.prog.globals[0]?).map (·.type) = some 24 := by kernel_rfl
theorem gBase : Tryd.prog.globalNamed "shelfmark/point.base" = some 1 := by kernel_rfl
theorem tBase : (Tryd.prog.globals[1]?).map (·.type) = some 26 := by kernel_rfl
def laidL3 : List (String × DataW Unit) := Rows.pointAllRow.laid
def laidL2 : List (String × DataW Unit) := Rows.pointSumsRow.laid
theorem glob_of_laid2 {W : World} (h : laidMetH Tryd.prog laidL2 W) : Glob W := by
  rw [MakeChecks.laidMetH_plain _ _ _ (by kernel_rfl)] at h
  obtain ⟨ps, ⟨g0, t0, cs0, f0, p0, q0, hg0, ht0, hv0, hd0, ⟨g1, t1, cs1, f1, p1, q1, hg1, ht1, hv1, hd1, hq, e1⟩, e0⟩, _, hfr⟩ := h
  obtain rfl := Option.some.inj (gD.symm.trans hg0)
  obtain rfl := Option.some.inj (tD.symm.trans ht0)
  rw [d_data] at hd0
  have c0 := arr_of_trod Tryd.underlying24 Tryd.underlying22 (by kernel_rfl) (by kernel_rfl) _ hd0
  obtain ⟨l0⟩ := cs0
  simp only at c0
  subst c0
  obtain rfl := Option.some.inj (gBase.symm.trans hg1)
  obtain rfl := Option.some.inj (tBase.symm.trans ht1)
  rw [base_data] at hd1
  have c1 := base_of_trod hd1
  obtain ⟨l1⟩ := cs1
  simp only at c1
  subst c1
  have m0 : MemPlace.cell 0 0 ∈ ps := by
    rw [e0]
    exact List.mem_append_left _ (List.mem_append_left _ (mem_row 0 _ (by decide)))
  have m1 : MemPlace.cell 1 0 ∈ ps := by
    rw [e0, e1]
    exact List.mem_append_right _ (List.mem_append_left _ (List.mem_append_left _ (mem_row 1 _ (by decide))))
  obtain ⟨t, ht⟩ := row_of_var gD hv0 (hfr 0 0 m0).1
  obtain ⟨t2, ht2⟩ := row_of_var gBase hv1 (hfr 1 0 m1).1
  exact ⟨⟨t, by rw [← dd_num]; exact ht⟩, t2, by rw [← base_cells]; exact ht2⟩
theorem glob_of_laid3 {W : World} (h : laidMetH Tryd.prog laidL3 W) : GlobT W ∧ Glob W := by
  rw [MakeChecks.laidMetH_plain _ _ _ (by kernel_rfl)] at h
  obtain ⟨ps, ⟨g2, t2, cs2, f2, p2, q2, hg2, ht2, hv2, hd2, ⟨g0, t0, cs0, f0, p0, q0, hg0, ht0, hv0, hd0, ⟨g1, t1, cs1, f1, p1, q1, hg1, ht1, hv1, hd1, hq, e1⟩, e0⟩, e2⟩, _, hfr⟩ := h
  obtain rfl := Option.some.inj (gTurn.symm.trans hg2)
  obtain rfl := Option.some.inj (tTurn.symm.trans ht2)
  rw [turn_data] at hd2
  have c2 := arr_of_trod Tryd.underlying24 Tryd.underlying22 (by kernel_rfl) (by kernel_rfl) _ hd2
  obtain ⟨l2⟩ := cs2
  simp only at c2
  subst c2
  obtain rfl := Option.some.inj (gD.symm.trans hg0)
  obtain rfl := Option.some.inj (tD.symm.trans ht0)
  rw [d_data] at hd0
  have c0 := arr_of_trod Tryd.underlying24 Tryd.underlying22 (by kernel_rfl) (by kernel_rfl) _ hd0
  obtain ⟨l0⟩ := cs0
  simp only at c0
  subst c0
  obtain rfl := Option.some.inj (gBase.symm.trans hg1)
  obtain rfl := Option.some.inj (tBase.symm.trans ht1)
  rw [base_data] at hd1
  have c1 := base_of_trod hd1
  obtain ⟨l1⟩ := cs1
  simp only at c1
  subst c1
  have m2 : MemPlace.cell 2 0 ∈ ps := by
    rw [e2]
    exact List.mem_append_left _ (List.mem_append_left _ (mem_row 2 _ (by decide)))
  have m0 : MemPlace.cell 0 0 ∈ ps := by
    rw [e2, e0]
    exact List.mem_append_right _ (List.mem_append_left _ (List.mem_append_left _ (mem_row 0 _ (by decide))))
  have m1 : MemPlace.cell 1 0 ∈ ps := by
    rw [e2, e0, e1]
    exact List.mem_append_right _ (List.mem_append_right _ (List.mem_append_left _ (List.mem_append_left _ (mem_row 1 _ (by decide)))))
  obtain ⟨t, ht⟩ := row_of_var gD hv0 (hfr 0 0 m0).1
  obtain ⟨t2, ht2⟩ := row_of_var gBase hv1 (hfr 1 0 m1).1
  obtain ⟨t3, ht3⟩ := row_of_var gTurn hv2 (hfr 2 0 m2).1
  exact ⟨⟨t3, by rw [← turn_num]; exact ht3⟩, ⟨t, by rw [← dd_num]; exact ht⟩, t2, by rw [← base_cells]; exact ht2⟩
theorem laid_met2 (os : Os) (args : Array Value) : laidMetH Tryd.prog laidL2 ((World.laidAll Tryd.prog os laidL2).forCall (fun _ _ => 0) ⟨#[], args, []⟩).memory := by
  rw [MakeChecks.laidMetH_plain _ _ _ (by kernel_rfl)]; exact laidMet_laidAll _ (by kernel_rfl) (by kernel_rfl)
theorem laid_shaped2 (os : Os) : (World.laidAll Tryd.prog os laidL2).os = os := World.laidAll_os _ _ _
theorem laid_met3 (os : Os) (args : Array Value) : laidMetH Tryd.prog laidL3 ((World.laidAll Tryd.prog os laidL3).forCall (fun _ _ => 0) ⟨#[], args, []⟩).memory := by
  rw [MakeChecks.laidMetH_plain _ _ _ (by kernel_rfl)]; exact laidMet_laidAll _ (by kernel_rfl) (by kernel_rfl)
theorem laid_shaped3 (os : Os) : (World.laidAll Tryd.prog os laidL3).os = os := World.laidAll_os _ _ _
end Go.Proofs.YtgbliacncahooaaDoor
