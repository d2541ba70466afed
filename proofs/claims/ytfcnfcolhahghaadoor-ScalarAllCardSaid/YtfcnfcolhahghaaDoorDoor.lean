/- What the listed variable's condition gives: the order stands in memory as the program's text lays it. -/
import Derived.Test.YtfcnfcolhahghaaDoorKnow
import Derived.Test.YtfcnfcolhahghaaDoorOrderMath
import Derived.ProofKit
import Derived.LaidMore
import Derived.LaidHandle
import Derived.LaidLaws
import Derived.OpenShut
import Derived.ChangeArms
import Derived.Lay
import Derived.Stop.Joined
namespace Go.Proofs.YtfcnfcolhahghaaDoor
open Go.ChangeShapes Go.WideShapes Go.RowKit
set_option linter.unusedVariables false
def laidL : List (String × DataW Unit) := Rows.scalarAllRow.laid
/-- The order, as its text lays it. -/
def Glob (w : World) : Prop := ∃ t, w.heap[0]? = some (.cells (num LL) t (0, 0))
theorem Glob.below {w w' : World} (h : Glob w) (hb : Below w.heap.size w w') : Glob w' := by
  obtain ⟨t, h⟩ := h
  exact ⟨t, by rw [hb.block 0 (Array.getElem?_eq_some_iff.1 h).1]; exact h⟩
theorem Glob.kn {w0 w : World} {l : List (Nat × Array Value)} (h : Glob w0) (hk : Kn w0 l w) : Glob w := h.below hk.1
theorem Glob.load {w : World} (h : Glob w) : (loadVar 24 ⟨0, 0, none⟩).run Tryd.prog w = .ok (.agg (num LL)) w := by
  obtain ⟨t, h⟩ := h
  exact run_loadVar_seg w 24 0 0 (rowOf .u64 4 (dig LL)) _ (Row.seg (t := t) h) Tryd.underlying24 rfl (size24 (dig LL))
theorem gOrd : Tryd.prog.globalNamed ((laidL.map (·.1)).getD 0 "") = some 0 := by kernel_rfl
theorem tOrd : (Tryd.prog.globals[0]?).map (·.type) = some 24 := by kernel_rfl
theorem arr_of_trod {H : Type} {enc : TypeId × Value → H} {P : Program} {w : World} {base : Nat} {sp : Nat → Bool} {held : Bool} {fuel n : Nat} {t e : TypeId} {kd : IntKind} {cs : List Value} {p : List MemPlace}
    (ht : P.underlying t = some (.array n e)) (he : P.underlying e = some (.int kd)) (hce : P.cellsOf e = 1) (hct : P.cellsOf t = n) (ns : List Int)
    (hd : DataW.trod enc P w base sp held fuel t cs = some (.agg (ns.map fun k => .lit (.int kd k)), p)) : cs = ns.map (Value.int kd) := by
  obtain ⟨xs, m, rfl, hx, hlen, hn, hel⟩ := DataW.trod_array ht hd
  simp only [Prod.mk.injEq, DataW.agg.injEq] at hx
  have hx1 := hx.1
  have hnl : ns.length = n := by
    have := congrArg List.length hx1
    simp at this
    omega
  apply List.ext_getElem?
  intro i
  by_cases hi : i < n
  · have h1 := hel i hi
    rw [hce, Nat.mul_one] at h1
    rw [List.getElem?_eq_getElem (by omega : i < xs.length)] at h1
    obtain ⟨k, e1, e2, _⟩ := DataW.trod_int he h1
    have hk : ns[i]? = some k := by
      have := congrArg (fun l => l[i]?) hx1
      simp only [List.getElem?_map, List.getElem?_eq_getElem (by omega : i < xs.length), List.getElem?_eq_getElem (by omega : i < ns.length), Option.map_some] at this
      rw [e2] at this
      rw [List.getElem?_eq_getElem (by omega : i < ns.length)]
      simp at this
      rw [this]
    rw [List.getElem?_map, hk]
    have h2 := congrArg (fun l => l[0]?) e1
    simp only [List.getElem?_take, List.getElem?_drop] at h2
    simpa using h2
  · rw [List.getElem?_eq_none (by omega), List.getElem?_eq_none (by simp; omega)]
def orderI : List Int := [6346243789798364141, 1503914060200516822, 0, 1152921504606846976]
theorem order_data {H : Type} : (Rows.laid_shelfmark_scalar_order : DataW H) = .agg (orderI.map fun k => .lit (.int .u64 k)) := rfl
theorem order_num : (orderI.map (Value.int .u64)).toArray = num LL := by
  rw [num_lit, show dig LL 0 = 6346243789798364141 by decide, show dig LL 1 = 1503914060200516822 by decide, show dig LL 2 = 0 by decide, show dig LL 3 = 1152921504606846976 by decide]
  rfl
theorem row_of_var {W : World} {P : Program} {n : String} {g : Nat} {cs : Array Value} (hg : P.globalNamed n = some g) (hv : W.var? P n = some cs) (hfr : ∃ c t, W.heap[g]? = some (.cells c t (0, 0))) : ∃ t, W.heap[g]? = some (.cells cs t (0, 0)) := by
  obtain ⟨c, t, h⟩ := hfr
  simp only [World.var?, hg, Option.bind_some, h, Option.some.injEq] at hv
  subst hv
  exact ⟨t, h⟩
theorem mem_row (g n : Nat) (hn : 0 < n) : MemPlace.cell g 0 ∈ MemPlace.row ⟨g, 0, none⟩ n := by
  unfold MemPlace.row
  exact List.mem_map.2 ⟨0, List.mem_range.2 hn, rfl⟩
theorem glob_of_laid {W : World} (h : laidMetH Tryd.prog laidL W) : Glob W := by
  rw [MakeChecks.laidMetH_plain _ _ _ (by kernel_rfl)] at h
  obtain ⟨ps, ⟨g0, t0, cs0, f0, p0, q0, hg0, ht0, hv0, hd0, hq, e0⟩, _, hfr⟩ := h
  obtain rfl := Option.some.inj (gOrd.symm.trans hg0)
  obtain rfl := Option.some.inj (tOrd.symm.trans ht0)
  rw [order_data] at hd0
  have c0 := arr_of_trod Tryd.underlying24 Tryd.underlying22 (by kernel_rfl) (by kernel_rfl) _ hd0
  obtain ⟨l0⟩ := cs0
  simp only at c0
  subst c0
  have m0 : MemPlace.cell 0 0 ∈ ps := by
    rw [e0]
    exact List.mem_append_left _ (List.mem_append_left _ (mem_row 0 _ (by decide)))
  obtain ⟨t, ht⟩ := row_of_var gOrd hv0 (hfr 0 0 m0).1
  refine ⟨t, ?_⟩
  rw [← order_num]
  exact ht
theorem laid_met (os : Os) (args : Array Value) : laidMetH Tryd.prog laidL ((World.laidAll Tryd.prog os laidL).forCall (fun _ _ => 0) ⟨#[], args, []⟩).memory := by
  rw [MakeChecks.laidMetH_plain _ _ _ (by kernel_rfl)]; exact laidMet_laidAll _ (by kernel_rfl) (by kernel_rfl)
theorem laid_shaped (os : Os) : (World.laidAll Tryd.prog os laidL).os = os := World.laidAll_os _ _ _
end Go.Proofs.YtfcnfcolhahghaaDoor
