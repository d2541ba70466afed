/- Several texts, one behind the other; each says by itself what it proves, and on what conditions. -/
import Derived.Test.YtdbbcngolcnniaaDoorX01
import Derived.Deep.DeepCutAuto
import Derived.Deep.CutBlock
import Derived.ProofKit
import Derived.LaidMore
import Derived.LaidHandle
import Derived.LaidLaws
import Derived.OpenShut
import Derived.ChangeArms
import Derived.Stop.Joined
import Derived.Orders
import Derived.Tactics
import Derived.Below
import Derived.Laws.Cells
import Derived.Laws.CopyRow
import Derived.Laws.Rows
import Derived.Laws.NewFold
import Derived.Laws.Entries
import Derived.OneCell
import Derived.KernelRfl
import Derived.RangeFuncOwn
/- The end of behind of package sha: the eight are each more by what came of them. No condition but that the numbers have 32 bits, and the block 64 bytes; the table of the package stands in memory. -/
namespace Go.Proofs.YtdbbcngolcnniaaDoor.S3
set_option linter.unusedSimpArgs false
open Go.RowKit
set_option linter.unusedVariables false

theorem quiet_add {P : Program} {f : FuncId} {args : Array Value} {w : World} {a n : Nat} {v : Value}
    (h : Calls P f args (w.drewN (a + n)) fun e w' => e = .returned v ∧ ∃ m, w' = (w.drewN (a + n)).drewN m) :
    Calls P f args (w.drewN (a + n)) fun e w'' => e = .returned v ∧ ∃ m, w'' = w.drewN (a + m) :=
  h.mono fun _ _ ⟨he, m, hm⟩ => ⟨he, n + m, by rw [hm, World.drewN_drewN, Nat.add_assoc]⟩
theorem quiet_add_left {P : Program} {f : FuncId} {args : Array Value} {w : World} {a n : Nat} {v : Value}
    (h : Calls P f args (w.drewN (a + n)) fun e w' => e = .returned v ∧ w.drewN (a + n) = w') :
    Calls P f args (w.drewN (a + n)) fun e w'' => e = .returned v ∧ ∃ m, w'' = w.drewN (a + m) :=
  h.mono fun _ _ ⟨he, hm⟩ => ⟨he, n, hm.symm⟩
theorem quiet_left {P : Program} {f : FuncId} {args : Array Value} {w : World} {n : Nat} {v : Value}
    (h : Calls P f args (w.drewN n) fun e w' => e = .returned v ∧ w.drewN n = w') : Calls P f args (w.drewN n) fun e w'' => e = .returned v ∧ ∃ m, w'' = w.drewN m :=
  h.mono fun _ _ ⟨he, hm⟩ => ⟨he, n, hm.symm⟩

def cells (s : St) : List Value := [.int .u32 s.a, .int .u32 s.b, .int .u32 s.c, .int .u32 s.d, .int .u32 s.e, .int .u32 s.f, .int .u32 s.g, .int .u32 s.h]
/-- The tables of the package, as its text lays them. -/
def Glob (w : World) : Prop := (∃ t, w.heap[1]? = some (.cells (rowOf .u32 64 kN).toArray t (0, 0))) ∧ ∃ t, w.heap[0]? = some (.cells (cells h0).toArray t (0, 0))
theorem Glob.two {w : World} (h : Glob w) : 2 ≤ w.heap.size := by
  obtain ⟨⟨t, h2⟩, _⟩ := h
  exact lt_of_block h2
theorem Glob.below {w w' : World} (h : Glob w) (hb : Below w.heap.size w w') : Glob w' := by
  have h2 := h.two
  exact ⟨by rw [hb.block 1 (by omega)]; exact h.1, by rw [hb.block 0 (by omega)]; exact h.2⟩
theorem Glob.consts {w : World} (h : Glob w) (j : Nat) (hj : j < 64) : w.cell? ⟨1, j, none⟩ = some (.int .u32 (kN j))  := by
  obtain ⟨⟨t, h1⟩, _⟩ := h
  exact Row.cell (w := w) (g := 1) (t := t) h1 j hj
theorem cells_size (s : St) : (Tryd.prog.info? 63).map (·.size) = some (cells s).length := by rw [show (cells s).length = 8 from rfl]; kernel_rfl
theorem cells_one (s : St) : ∀ v ∈ cells s, v.oneCell' = true := by
  intro v hv
  simp [cells] at hv
  rcases hv with rfl | rfl | rfl | rfl | rfl | rfl | rfl | rfl <;> rfl
def s0 : St := ⟨0, 0, 0, 0, 0, 0, 0, 0⟩
theorem zero39 (w : World) : (zeroValue 63).run Tryd.prog w = .ok (.agg (cells s0).toArray) w := by kernel_rfl

def St.at (s : St) : Nat → Nat
  | 0 => s.a
  | 1 => s.b
  | 2 => s.c
  | 3 => s.d
  | 4 => s.e
  | 5 => s.f
  | 6 => s.g
  | _ => s.h
theorem cells_row (s : St) : cells s = rowOf .u32 8 s.at := rfl
theorem St.at_lt {s : St} (h : s.ok) (j : Nat) : s.at j < 4294967296 := by
  obtain ⟨h1, h2, h3, h4, h5, h6, h7, h8⟩ := h
  unfold St.at
  split <;> assumption
theorem idx39 (t : St) (i : Nat) (hi : i < 8) (w : World) : (Instr.index 63 (.agg #[.int .u32 t.a, .int .u32 t.b, .int .u32 t.c, .int .u32 t.d, .int .u32 t.e, .int .u32 t.f, .int .u32 t.g, .int .u32 t.h]) (.int .i64 i)).run Tryd.prog w = .ok (.int .u32 (t.at i)) w := by
  rcases (show i = 0 ∨ i = 1 ∨ i = 2 ∨ i = 3 ∨ i = 4 ∨ i = 5 ∨ i = 6 ∨ i = 7 by omega) with rfl | rfl | rfl | rfl | rfl | rfl | rfl | rfl <;> kernel_rfl
/-- What stands in the eight once i of them are more. -/
def PTo (s t : St) (i j : Nat) : Nat := if j < i then add (s.at j) (t.at j) else s.at j
theorem PTo_step (s t : St) (i : Nat) : ∀ j, j < 8 → upd (PTo s t i) i (add (s.at i) (t.at i)) j = PTo s t (i + 1) j := by
  intro j _
  unfold upd PTo
  by_cases e : j = i
  · subst e; rw [if_pos rfl, if_pos (by omega)]
  · rw [if_neg e]
    by_cases h : j < i
    · rw [if_pos h, if_pos (by omega)]
    · rw [if_neg h, if_neg (by omega)]
theorem PTo_all (s t : St) : rowOf .u32 8 (PTo s t 8) = cells (plus s t) := rfl
theorem u_int (t : St) (ht : t.ok) (k w : Nat) : ((t.h : Int) + bits BinOp.xor IntKind.u32 (bits BinOp.xor IntKind.u32 ((rorN t.e 6 : Nat) : Int) ((rorN t.e 11 : Nat) : Int)) ((rorN t.e 25 : Nat) : Int) +
    bits BinOp.xor IntKind.u32 (bits BinOp.and IntKind.u32 (t.e : Int) (t.f : Int)) (bits BinOp.and IntKind.u32 (bits BinOp.xor IntKind.u32 (if IntKind.u32.signed = true then -1 else IntKind.u32.max) (t.e : Int)) (t.g : Int)) + (k : Int) + (w : Int)) % 4294967296 = ((uN t k w : Nat) : Int) := by
  obtain ⟨h1, h2, h3, h4, h5, h6, h7, h8⟩ := ht
  have e1 := u32_xor_nat _ _ (rorN_lt 6 h5) (rorN_lt 11 h5)
  have e2 := u32_xor_nat _ _ (xor_lt (rorN_lt 6 h5) (rorN_lt 11 h5)) (rorN_lt 25 h5)
  have e3 := u32_and_nat t.e t.f h5 h6
  have e4 : bits BinOp.xor IntKind.u32 (if IntKind.u32.signed = true then -1 else IntKind.u32.max) (t.e : Int) = ((4294967295 ^^^ t.e : Nat) : Int) := u32_xor_nat 4294967295 t.e (by decide) h5
  have hx : 4294967295 ^^^ t.e < 4294967296 := xor_lt (by decide) h5
  have e5 := u32_and_nat (4294967295 ^^^ t.e) t.g hx h7
  have e6 := u32_xor_nat (t.e &&& t.f) ((4294967295 ^^^ t.e) &&& t.g) (and_lt h5) (and_lt hx)
  rw [e1, e2, e3, e4, e5, e6]
  unfold uN add
  generalize rorN t.e 6 ^^^ rorN t.e 11 ^^^ rorN t.e 25 = p
  generalize (t.e &&& t.f) ^^^ ((4294967295 ^^^ t.e) &&& t.g) = q
  omega
theorem v_int (t : St) (ht : t.ok) : (bits BinOp.xor IntKind.u32 (bits BinOp.xor IntKind.u32 ((rorN t.a 2 : Nat) : Int) ((rorN t.a 13 : Nat) : Int)) ((rorN t.a 22 : Nat) : Int) +
    bits BinOp.xor IntKind.u32 (bits BinOp.xor IntKind.u32 (bits BinOp.and IntKind.u32 (t.a : Int) (t.b : Int)) (bits BinOp.and IntKind.u32 (t.a : Int) (t.c : Int))) (bits BinOp.and IntKind.u32 (t.b : Int) (t.c : Int))) % 4294967296 = ((vN t : Nat) : Int) := by
  obtain ⟨h1, h2, h3, h4, h5, h6, h7, h8⟩ := ht
  have e1 := u32_xor_nat _ _ (rorN_lt 2 h1) (rorN_lt 13 h1)
  have e2 := u32_xor_nat _ _ (xor_lt (rorN_lt 2 h1) (rorN_lt 13 h1)) (rorN_lt 22 h1)
  have e3 := u32_and_nat t.a t.b h1 h2
  have e4 := u32_and_nat t.a t.c h1 h3
  have e5 := u32_and_nat t.b t.c h2 h3
  have e6 := u32_xor_nat (t.a &&& t.b) (t.a &&& t.c) (and_lt h1) (and_lt h1)
  have e7 := u32_xor_nat ((t.a &&& t.b) ^^^ (t.a &&& t.c)) (t.b &&& t.c) (xor_lt (and_lt h1) (and_lt h1)) (and_lt h2)
  rw [e1, e2, e3, e4, e5, e6, e7]
  unfold vN add
  generalize rorN t.a 2 ^^^ rorN t.a 13 ^^^ rorN t.a 22 = p
  generalize (t.a &&& t.b) ^^^ (t.a &&& t.c) ^^^ (t.b &&& t.c) = q
  omega
theorem add_int1 (a b x : Int) (u v : Nat) (hu : a % 4294967296 = (u : Int)) (hv : b % 4294967296 = (v : Int)) : (a % 4294967296 + b % 4294967296) % 4294967296 = ((add u v : Nat) : Int) := by
  unfold add; omega
theorem add_int2 (a : Int) (d u : Nat) (hu : a % 4294967296 = (u : Int)) : ((d : Int) + a % 4294967296) % 4294967296 = ((add d u : Nat) : Int) := by
  unfold add; omega

/-- The loops of a code, the outermost ones, in order. -/
def loopsOf : Code → List Code
  | .loop c => [c]
  | .seq a b => loopsOf a ++ loopsOf b
  | .block _ c => loopsOf c
  | .scope c => loopsOf c
  | .cond _ a b => loopsOf a ++ loopsOf b
  | _ => []
noncomputable def body2 : Code := ((Tryd.f81.body.map fun c => (loopsOf c).getD 1 .skip)).getD .skip
set_option maxRecDepth 100000 in
set_option maxHeartbeats 2000000 in
theorem loop2_ok (s t : St) (B : Nat) (w0 wr : World) (Q : Exit → Act → World → Prop) (c0 c1 c3 c4 c5 c6 c7 c8 c9 c10 c11 c12 c13 c14 c15 c16 c17 c18 c19 c20 c21 c22 c23 c24 c25 c26 c27 c28 c29 c30 c31 c32 c33 c34 c35 c36 c37 c38 c39 c40 c41 c42 c43 c44 c45 c46 c47 c48 c49 c50 c51 c52 c53 c54 c55 c56 c57 c58 c59 c60 c61 c62 c63 c64 c65 c66 c67 c68 c69 c70 c71 c72 c73 c74 c75 c76 c77 c78 c79 c80 c81 c82 c83 c84 c85 c86 c87 c88 c89 c90 c91 c92 c93 c94 c95 c96 c97 c98 c99 c100 c101 c102 c103 c104 c105 c106 c107 c110 c111 c112 c113 c114 c115 c116 c117 c118 c119 c120 : Value) (hR1 : wr.heap[B + 1]? = some (.cells (cells s0).toArray 63 (0, 0))) (hRs : Row wr B 63 .u32 8 (PTo s t 0)) (hB : Below B w0 wr)
    (hexit : ∀ (u17 u18 u110 u111 u112 u113 u114 u115 u116 u117 u118 u119 : Value) (wx : World), wx.heap[B + 1]? = some (.cells (cells s0).toArray 63 (0, 0)) ∧ Row wx B 63 .u32 8 (PTo s t 8) ∧ Below B w0 wx → Q (.exit 2) ⟨(c0 :: c1 :: (.pointer (some ⟨B, 0, none⟩)) :: c3 :: c4 :: c5 :: c6 :: c7 :: c8 :: c9 :: c10 :: c11 :: c12 :: c13 :: c14 :: c15 :: c16 :: u17 :: u18 :: c19 :: c20 :: c21 :: c22 :: c23 :: c24 :: c25 :: c26 :: c27 :: c28 :: c29 :: c30 :: c31 :: c32 :: c33 :: c34 :: c35 :: c36 :: c37 :: c38 :: c39 :: c40 :: c41 :: c42 :: c43 :: c44 :: c45 :: c46 :: c47 :: c48 :: c49 :: c50 :: c51 :: c52 :: c53 :: c54 :: c55 :: c56 :: c57 :: c58 :: c59 :: c60 :: c61 :: c62 :: c63 :: c64 :: c65 :: c66 :: c67 :: c68 :: c69 :: c70 :: c71 :: c72 :: c73 :: c74 :: c75 :: c76 :: c77 :: c78 :: c79 :: c80 :: c81 :: c82 :: c83 :: c84 :: c85 :: c86 :: c87 :: c88 :: c89 :: c90 :: c91 :: c92 :: c93 :: c94 :: c95 :: c96 :: c97 :: c98 :: c99 :: c100 :: c101 :: c102 :: c103 :: c104 :: c105 :: c106 :: c107 :: (.agg #[.int .u32 t.a, .int .u32 t.b, .int .u32 t.c, .int .u32 t.d, .int .u32 t.e, .int .u32 t.f, .int .u32 t.g, .int .u32 t.h]) :: (.int .i64 8) :: u110 :: u111 :: u112 :: u113 :: u114 :: u115 :: u116 :: u117 :: u118 :: u119 :: c120 :: []).toArray, []⟩ wx) :
    Code.wp Tryd.prog (Code.loop body2) Q ⟨(c0 :: c1 :: (.pointer (some ⟨B, 0, none⟩)) :: c3 :: c4 :: c5 :: c6 :: c7 :: c8 :: c9 :: c10 :: c11 :: c12 :: c13 :: c14 :: c15 :: c16 :: c17 :: c18 :: c19 :: c20 :: c21 :: c22 :: c23 :: c24 :: c25 :: c26 :: c27 :: c28 :: c29 :: c30 :: c31 :: c32 :: c33 :: c34 :: c35 :: c36 :: c37 :: c38 :: c39 :: c40 :: c41 :: c42 :: c43 :: c44 :: c45 :: c46 :: c47 :: c48 :: c49 :: c50 :: c51 :: c52 :: c53 :: c54 :: c55 :: c56 :: c57 :: c58 :: c59 :: c60 :: c61 :: c62 :: c63 :: c64 :: c65 :: c66 :: c67 :: c68 :: c69 :: c70 :: c71 :: c72 :: c73 :: c74 :: c75 :: c76 :: c77 :: c78 :: c79 :: c80 :: c81 :: c82 :: c83 :: c84 :: c85 :: c86 :: c87 :: c88 :: c89 :: c90 :: c91 :: c92 :: c93 :: c94 :: c95 :: c96 :: c97 :: c98 :: c99 :: c100 :: c101 :: c102 :: c103 :: c104 :: c105 :: c106 :: c107 :: (.agg #[.int .u32 t.a, .int .u32 t.b, .int .u32 t.c, .int .u32 t.d, .int .u32 t.e, .int .u32 t.f, .int .u32 t.g, .int .u32 t.h]) :: (.int .i64 0) :: c110 :: c111 :: c112 :: c113 :: c114 :: c115 :: c116 :: c117 :: c118 :: c119 :: c120 :: []).toArray, []⟩ wr := by
  conv =>
    arg 2
    arg 1
    whnf
  have HRr := Lib.hid hR1
  have HRs := Lib.hid hRs
  have HGw := Lib.hid hB
  clear hR1 hRs hB
  obtain ⟨wo, rfl⟩ : ∃ wo : World, wo = wr := ⟨_, rfl⟩
  go_loopw [17, 18, 109] (fun x y i wr => ∃ k : Nat, k ≤ 8 ∧ i = .int .i64 k ∧ wr.heap[B + 1]? = some (.cells (cells s0).toArray 63 (0, 0)) ∧ Row wr B 63 .u32 8 (PTo s t k) ∧ Below B w0 wr) (fun _ _ i _ => 8 - (intOf i).toNat)
  case atStart => exact ⟨0, by omega, rfl, HRr.out, HRs.out, HGw.out⟩
  case round =>
    clear HRr HRs HGw
    obtain ⟨k, hk, rfl, hRr, hRs, hBw⟩ := hrel
    have HRr := Lib.hid hRr
    have HRs := Lib.hid hRs
    have HBw := Lib.hid hBw
    clear hRr hRs hBw
    by_cases hlt : k < 8
    · have ck : wr.cell? ⟨B, k, none⟩ = some (.int .u32 (s.at k)) := by rw [HRs.out.cell k hlt]; unfold PTo; rw [if_neg (by omega)]
      have fr : wr.frozen? ⟨B, k, none⟩ = false := HRs.out.free k
      have hix := idx39 t k hlt
      have hk8 : (k : Int) < 8 := by omega
      have hadd : Hid (((s.at k : Int) + (t.at k : Int)) % 4294967296 = ((add (s.at k) (t.at k) : Nat) : Int)) := Lib.hid (by unfold add; omega)
      have HRs2 := Lib.hid ((Row.set (w := wr) HRs.out k (add (s.at k) (t.at k))).ext (PTo_step s t k))
      generalize add (s.at k) (t.at k) = q at *
      generalize s.at k = x1 at *
      generalize t.at k = y1 at *
      clear hexit
      go_wp2
      go_roundw
      case rel =>
        rw [hadd.out]
        exact ⟨k + 1, by omega, by go_num, (heap_setCell_other _ _ _ _ (by simp)).trans HRr.out, HRs2.out, HBw.out.setCell (p := ⟨B, k, none⟩) (Nat.le_refl _) _⟩
      case measure => simp [intOf]; omega
    · obtain rfl : k = 8 := by omega
      have HE := Lib.hid hexit
      have HRs := HRs.out
      have HBw := HBw.out
      have HRr := HRr.out
      have HX := Lib.hid (And.intro HRr (And.intro HRs HBw))
      clear hexit HRs HBw HRr
      rw [show ((8 : Nat) : Int) = (8 : Int) from rfl]
      go_wp2
      exact HE.out _ _ _ _ _ _ _ _ _ _ _ _ _ HX.out
end Go.Proofs.YtdbbcngolcnniaaDoor.S3
/- What the listed variables' condition gives: the two tables of package sha stand in memory as the program's text lays them. -/
namespace Go.Proofs.YtdbbcngolcnniaaDoor.S3
set_option linter.unusedSimpArgs false
open Go.ChangeShapes Go.WideShapes Go.RowKit
set_option linter.unusedVariables false

def laidL : List (String × DataW Unit) := Rows.pathNamesRow.laid
theorem gStart : Tryd.prog.globalNamed ((laidL.map (·.1)).getD 0 "") = some 0 := by kernel_rfl
theorem gConsts : Tryd.prog.globalNamed ((laidL.map (·.1)).getD 1 "") = some 1 := by kernel_rfl
theorem tConsts : (Tryd.prog.globals[1]?).map (·.type) = some 106 := by kernel_rfl
theorem tStart : (Tryd.prog.globals[0]?).map (·.type) = some 63 := by kernel_rfl

theorem arr_of_trod {H : Type} {enc : TypeId × Value → H} {P : Program} {w : World} {base : Nat} {sp : Nat → Bool} {held : Bool} {fuel n : Nat} {t e : TypeId} {kd : IntKind} {cs : List Value} {p : List MemPlace}
    (ht : P.underlying t = some (.array n e)) (he : P.underlying e = some (.int kd)) (hce : P.cellsOf e = 1) (hct : P.cellsOf t = n) (ns : List Int)
    (hd : DataW.trod enc P w base sp held fuel t cs = some (.agg (ns.map fun k => .lit (.int kd k)), p)) : cs = ns.map (Value.int kd) := by
  obtain ⟨xs, m, rfl, hx, hlen, hn, hel⟩ := DataW.trod_array ht hd
  simp only [Prod.mk.injEq, DataW.agg.injEq] at hx
  have hx1 := hx.1
  have hnl : ns.length = n := by
    have := congrArg List.length hx1
    simp at this
    omega
  apply List.ext_getElem?
  intro i
  by_cases hi : i < n
  · have h1 := hel i hi
    rw [hce, Nat.mul_one] at h1
    rw [List.getElem?_eq_getElem (by omega : i < xs.length)] at h1
    obtain ⟨k, e1, e2, _⟩ := DataW.trod_int he h1
    have hk : ns[i]? = some k := by
      have := congrArg (fun l => l[i]?) hx1
      simp only [List.getElem?_map, List.getElem?_eq_getElem (by omega : i < xs.length), List.getElem?_eq_getElem (by omega : i < ns.length), Option.map_some] at this
      rw [e2] at this
      rw [List.getElem?_eq_getElem (by omega : i < ns.length)]
      simp at this
      rw [this]
    rw [List.getElem?_map, hk]
    have h2 := congrArg (fun l => l[0]?) e1
    simp only [List.getElem?_take, List.getElem?_drop] at h2
    simpa using h2
  · rw [List.getElem?_eq_none (by omega), List.getElem?_eq_none (by simp; omega)]

def startI : List Int := [1779033703, 3144134277, 1013904242, 2773480762, 1359893119, 2600822924, 528734635, 1541459225]
def constsI : List Int := kL.map fun (k : Nat) => (k : Int)
theorem start_data {H : Type} : (Rows.laid_shelfmark_sha_start : DataW H) = .agg (startI.map fun k => .lit (.int .u32 k)) := rfl
theorem consts_data {H : Type} : (Rows.laid_shelfmark_sha_consts : DataW H) = .agg (constsI.map fun k => .lit (.int .u32 k)) := rfl
theorem row_of_var {W : World} {P : Program} {n : String} {g : Nat} {cs : Array Value} (hg : P.globalNamed n = some g) (hv : W.var? P n = some cs) (hfr : ∃ c t, W.heap[g]? = some (.cells c t (0, 0))) : ∃ t, W.heap[g]? = some (.cells cs t (0, 0)) := by
  obtain ⟨c, t, h⟩ := hfr
  simp only [World.var?, hg, Option.bind_some, h, Option.some.injEq] at hv
  subst hv
  exact ⟨t, h⟩
theorem mem_row (g n : Nat) (hn : 0 < n) : MemPlace.cell g 0 ∈ MemPlace.row ⟨g, 0, none⟩ n := by
  unfold MemPlace.row
  exact List.mem_map.2 ⟨0, List.mem_range.2 hn, rfl⟩
theorem glob_of_laid {W : World} (h : laidMetH Tryd.prog laidL W) : Glob W := by
  rw [MakeChecks.laidMetH_plain _ _ _ (by kernel_rfl)] at h
  obtain ⟨ps, ⟨g0, t0, cs0, f0, p0, q0, hg0, ht0, hv0, hd0, ⟨g1, t1, cs1, f1, p1, q1, hg1, ht1, hv1, hd1, hq, e1⟩, e0⟩, _, hfr⟩ := h
  obtain rfl := Option.some.inj (gStart.symm.trans hg0)
  obtain rfl := Option.some.inj (gConsts.symm.trans hg1)
  obtain rfl := Option.some.inj (tStart.symm.trans ht0)
  obtain rfl := Option.some.inj (tConsts.symm.trans ht1)
  rw [start_data] at hd0
  rw [consts_data] at hd1
  have c0 := arr_of_trod Tryd.underlying63 Tryd.underlying61 (by kernel_rfl) (by kernel_rfl) _ hd0
  have c1 := arr_of_trod Tryd.underlying106 Tryd.underlying61 (by kernel_rfl) (by kernel_rfl) _ hd1
  obtain ⟨l0⟩ := cs0
  obtain ⟨l1⟩ := cs1
  simp only at c0 c1
  subst c0 c1
  have m0 : MemPlace.cell 0 0 ∈ ps := by
    rw [e0]
    exact List.mem_append_left _ (List.mem_append_left _ (mem_row 0 _ (by decide)))
  have m1 : MemPlace.cell 1 0 ∈ ps := by
    rw [e0, e1]
    exact List.mem_append_right _ (List.mem_append_left _ (List.mem_append_left _ (mem_row 1 _ (by decide))))
  exact ⟨row_of_var gConsts hv1 (hfr 1 0 m1).1, row_of_var gStart hv0 (hfr 0 0 m0).1⟩
theorem door_met (os : Os) (args : Array Value) : laidMetH Tryd.prog laidL ((World.doorLaid Tryd.prog 400 os).forCall (fun _ _ => 0) ⟨#[], args, []⟩).memory :=
  laidMetH_of_parts3 (fuel := 8) (laidMet_of_run' 8 (by kernel_rfl) (by kernel_rfl)) (by kernel_rfl) (by kernel_rfl)
end Go.Proofs.YtdbbcngolcnniaaDoor.S3
/- An engine: symbolic states of a function of the program: rows of memory, temporaries. No condition. -/
namespace Go.Proofs.YtdbbcngolcnniaaDoor.E
open Go Go.RowKit
set_option linter.unusedVariables false
set_option linter.unusedSimpArgs false

/-- What a cell holds: a value in which no row is named, a place in a row, a slice of a row. -/
inductive Lf where
  | v (x : Value)
  | ptr (r b i k j : Nat)
  | sl (r b i k len : Nat) (cap : Option Nat)
  | clo (f : FuncId) (rs : List Nat)

/-- Where a row lies: its block, its first cell there, for how many elements there is room. -/
structure Blk where
  b : Nat
  o : Nat
  c : Nat
abbrev Env := Nat → Blk
def capOf (c i : Nat) : Option Nat → Nat
  | some n => n
  | none => c - i

def Lf.val (ρ : Env) : Lf → Value
  | .v x => x
  | .ptr r b i k j => .pointer (some ⟨(ρ r).1, (ρ r).2 + (b + i * k + j), none⟩)
  | .sl r b i k len cap => .slice (some ⟨(ρ r).1, (ρ r).2 + (b + i * k), none⟩) len (capOf (ρ r).3 i cap)
  | .clo f rs => .func (.func f) #[] (rs.map fun r => .pointer (some ⟨(ρ r).1, (ρ r).2, none⟩)).toArray
def Lf.ids : Lf → List Nat
  | .v _ => []
  | .ptr r _ _ _ _ => [r]
  | .sl r _ _ _ _ _ => [r]
  | .clo _ rs => rs
def Lf.ok : Lf → Prop
  | .v x => x.oneCell' = true
  | _ => True

/-- Some cells side by side. -/
inductive Pc where
  | one (x : Lf)
  | arr (A : Array Value) (n : Nat)
  | fnc (f : Nat → List Value) (k n : Nat)

def Pc.size : Pc → Nat
  | .one _ => 1
  | .arr _ n => n
  | .fnc _ k n => n * k
def Pc.arrV (ρ : Env) : Pc → Array Value
  | .one x => #[x.val ρ]
  | .arr A _ => A
  | .fnc f _ n => ((List.range n).flatMap f).toArray
def Pc.ids : Pc → List Nat
  | .one x => x.ids
  | _ => []
def Pc.ok : Pc → Prop
  | .one x => x.ok
  | .arr A n => A.size = n ∧ ∀ v ∈ A.toList, v.oneCell' = true
  | .fnc f k n => ∀ i, i < n → (f i).length = k ∧ ∀ v ∈ f i, v.oneCell' = true
def cells (ρ : Env) : List Pc → Array Value
  | [] => #[]
  | p :: ps => ps.foldl (fun A q => A ++ q.arrV ρ) (p.arrV ρ)
def lst (ρ : Env) (ps : List Pc) : List Value := ps.flatMap fun p => (p.arrV ρ).toList
def pids (ps : List Pc) : List Nat := ps.flatMap Pc.ids
def pok (ps : List Pc) : Prop := ∀ p ∈ ps, p.ok

inductive SV where
  | lf (x : Lf)
  | agg (ps : List Pc)
  | un
def SV.val (ρ : Env) : SV → Value
  | .lf x => x.val ρ
  | .agg ps => .agg (cells ρ ps)
  | .un => undef
def SV.ids : SV → List Nat
  | .lf x => x.ids
  | .agg ps => pids ps
  | .un => []
def SV.ok : SV → Prop
  | .lf x => x.ok
  | .agg ps => pok ps
  | .un => True

inductive TV where
  | s (x : SV)
  | tup (l : List SV)
def TV.val (ρ : Env) : TV → Value
  | .s x => x.val ρ
  | .tup l => .tuple (l.map (SV.val ρ)).toArray
def TV.ids : TV → List Nat
  | .s x => x.ids
  | .tup l => l.flatMap SV.ids
def TV.ok : TV → Prop
  | .s x => x.ok
  | .tup l => ∀ x ∈ l, x.ok
abbrev TV.v (x : Value) : TV := .s (.lf (.v x))
abbrev TV.int (k : IntKind) (n : Int) : TV := .s (.lf (.v (.int k n)))

/-- A row: what stands in it; may it be written; and, if it is a block whole with room behind, of which type, how many cells an element. -/
structure Row where
  ps : List Pc
  w : Bool
  cp : Option (TypeId × Nat)

structure St where
  n : Nat
  tmps : Nat → Option TV
  row : Nat → Option Row
  used : Nat → Bool
  mks : List Nat
  kn : Nat → Option Blk
def markD (D : Nat) : Deferred := { target := .collected D, args := #[] }

theorem cells_list (ρ : Env) : ∀ ps : List Pc, (cells ρ ps).toList = lst ρ ps
  | [] => rfl
  | p :: ps => by
    have : ∀ (ps : List Pc) (A : Array Value), (ps.foldl (fun A q => A ++ q.arrV ρ) A).toList = A.toList ++ lst ρ ps := by
      intro ps
      induction ps with
      | nil => intro A; simp [lst]
      | cons q ps ih => intro A; rw [List.foldl_cons, ih]; simp [lst, List.append_assoc]
    show (ps.foldl (fun A q => A ++ q.arrV ρ) (p.arrV ρ)).toList = _
    rw [this]; rfl
theorem lst_cons (ρ : Env) (p : Pc) (ps : List Pc) : lst ρ (p :: ps) = (p.arrV ρ).toList ++ lst ρ ps := rfl
theorem lst_append (ρ : Env) (ps qs : List Pc) : lst ρ (ps ++ qs) = lst ρ ps ++ lst ρ qs := by simp [lst]
theorem Pc.len {ρ : Env} {p : Pc} (h : p.ok) : (p.arrV ρ).toList.length = p.size := by
  cases p with
  | one x => rfl
  | arr A n => exact h.1
  | fnc f k n =>
    show ((List.range n).flatMap f).length = n * k
    have : ∀ m, m ≤ n → ((List.range m).flatMap f).length = m * k := by
      intro m
      induction m with
      | zero => intro _; simp
      | succ m ih =>
        intro hm
        rw [List.range_succ, List.flatMap_append, List.length_append, ih (by omega)]
        simp [(h m (by omega)).1, Nat.succ_mul]
    exact this n (Nat.le_refl n)
theorem Lf.one_val {ρ : Env} {x : Lf} (h : x.ok) : (x.val ρ).oneCell' = true := by
  cases x <;> first | exact h | rfl
theorem Pc.onec {ρ : Env} {p : Pc} (h : p.ok) : ∀ v ∈ (p.arrV ρ).toList, v.oneCell' = true := by
  cases p with
  | one x => intro v hv; simp [Pc.arrV] at hv; subst hv; exact Lf.one_val h
  | arr A n => exact h.2
  | fnc f k n =>
    intro v hv
    simp only [Pc.arrV, List.mem_flatMap, List.mem_range] at hv
    obtain ⟨i, hi, hv⟩ := hv
    exact (h i hi).2 v hv
theorem lst_one {ρ : Env} {ps : List Pc} (h : pok ps) : ∀ v ∈ lst ρ ps, v.oneCell' = true := by
  intro v hv
  simp only [lst, List.mem_flatMap] at hv
  obtain ⟨p, hp, hv⟩ := hv
  exact Pc.onec (h p hp) v hv

/-- The value hangs on the rows that it names alone. -/
theorem Lf.val_congr {ρ σ : Env} {x : Lf} (h : ∀ r ∈ x.ids, ρ r = σ r) : x.val ρ = x.val σ := by
  cases x <;> simp_all [Lf.val, Lf.ids]
theorem Pc.arrV_congr {ρ σ : Env} {p : Pc} (h : ∀ r ∈ p.ids, ρ r = σ r) : p.arrV ρ = p.arrV σ := by
  cases p with
  | one x => simp only [Pc.arrV]; rw [Lf.val_congr h]
  | _ => rfl
theorem lst_congr {ρ σ : Env} {ps : List Pc} (h : ∀ r ∈ pids ps, ρ r = σ r) : lst ρ ps = lst σ ps := by
  induction ps with
  | nil => rfl
  | cons p ps ih =>
    rw [lst_cons, lst_cons, ih (fun r hr => h r (by simp [pids] at hr ⊢; exact .inr hr)), Pc.arrV_congr (fun r hr => h r (by simp [pids]; exact .inl hr))]
theorem cells_congr {ρ σ : Env} {ps : List Pc} (h : ∀ r ∈ pids ps, ρ r = σ r) : cells ρ ps = cells σ ps := by
  apply Array.ext'
  rw [cells_list, cells_list, lst_congr h]
theorem SV.val_congr {ρ σ : Env} {x : SV} (h : ∀ r ∈ x.ids, ρ r = σ r) : x.val ρ = x.val σ := by
  cases x with
  | lf x => exact Lf.val_congr h
  | agg ps => simp only [SV.val]; rw [cells_congr h]
  | un => rfl
theorem TV.val_congr {ρ σ : Env} {x : TV} (h : ∀ r ∈ x.ids, ρ r = σ r) : x.val ρ = x.val σ := by
  cases x with
  | s x => exact SV.val_congr h
  | tup l =>
    simp only [TV.val]
    congr 2
    apply List.map_congr_left
    intro x hx
    exact SV.val_congr fun r hr => h r (List.mem_flatMap.2 ⟨x, hx, hr⟩)

/-! ### Memory -/

def RowAt (ρ : Env) (r : Nat) (row : Row) (w : World) : Prop :=
  (ρ r).1 < w.heap.size ∧ (∀ j v, (lst ρ row.ps)[j]? = some v → w.cell? ⟨(ρ r).1, (ρ r).2 + j, none⟩ = some v ∧ (row.w = true → w.frozen? ⟨(ρ r).1, (ρ r).2 + j, none⟩ = false)) ∧
  (∀ e k, row.cp = some (e, k) → (ρ r).2 = 0 ∧ (ρ r).3 ≤ maxLen ∧ (lst ρ row.ps).length ≤ (ρ r).3 * k ∧ ∃ cur, w.heap[(ρ r).1]? = some (.cells cur e (0, 0)) ∧ cur.size = (ρ r).3 * k) ∧
  ∃ cur t fz, w.heap[(ρ r).1]? = some (.cells cur t fz)

/-- Marks of ranges over functions that have ended: blocks of the call's own, each another one. -/
def MkOk (n0 : Nat) (w : World) (l : List Nat) : Prop := l.Nodup ∧ ∀ D ∈ l, n0 ≤ D ∧ w.heap[D]? = some (.deferred (some []))

/-- What was there when the call began is there yet, but for some blocks. -/
structure Fr (w0 : World) (wr : List Nat) (w : World) : Prop where
  os : w.os = w0.os
  tape : w.tape = w0.tape
  output : w.output = w0.output
  size : w0.heap.size ≤ w.heap.size
  block : ∀ k, k < w0.heap.size → k ∉ wr → w.heap[k]? = w0.heap[k]?
theorem Fr.refl (w : World) (wr : List Nat) : Fr w wr w := ⟨rfl, rfl, rfl, Nat.le_refl _, fun _ _ _ => rfl⟩
theorem Fr.below {w0 w : World} (h : Fr w0 [] w) : Below w0.heap.size w0 w := ⟨h.os, h.tape, h.output, h.size, fun k hk => h.block k hk (by simp)⟩
theorem Fr.of_below {w0 w : World} (h : Below w0.heap.size w0 w) (wr : List Nat) : Fr w0 wr w := ⟨h.os, h.tape, h.output, h.size, fun k hk _ => h.block k hk⟩
theorem Fr.trans_below {w0 w w2 : World} {wr : List Nat} (h : Fr w0 wr w) (hb : Below w.heap.size w w2) : Fr w0 wr w2 :=
  ⟨hb.os.trans h.os, hb.tape.trans h.tape, hb.output.trans h.output, Nat.le_trans h.size hb.size, fun k hk hn => (hb.block k (Nat.lt_of_lt_of_le hk h.size)).trans (h.block k hk hn)⟩

/-- What a call, or a round, began with: the blocks of old that it may write, and where rows of old lie (those below 1000, and those that k names). -/
structure Bs where
  l : List Nat
  e : Env
  k : List Nat

structure Den (w0 : World) (wr : Bs) (ρ : Env) (s : St) (a : Act) (w : World) : Prop where
  sz : a.tmps.size = s.n
  df : a.defers = s.mks.map markD
  mf : MkOk w0.heap.size w s.mks
  ko : KeepsOthers w0 w
  tm : ∀ t x, s.tmps t = some x → a.tmps[t]? = some (x.val ρ) ∧ x.ok ∧ ∀ r ∈ x.ids, s.used r = true
  rw : ∀ r row, s.row r = some row → RowAt ρ r row w ∧ pok row.ps ∧ s.used r = true ∧ (∀ q ∈ pids row.ps, s.used q = true) ∧ (row.w = true → w0.heap.size ≤ (ρ r).1 ∨ (ρ r).1 ∈ wr.l)
  ds : ∀ r q row rq, s.row r = some row → s.row q = some rq → r ≠ q → row.w = true → (ρ r).1 ≠ (ρ q).1
  fr : Fr w0 wr.l w
  e0 : ∀ r, (r < 1000 ∨ r ∈ wr.k) → ρ r = wr.e r
  ku : ∀ r ∈ wr.k, s.used r = true
  gl : ∀ g, g < 500 → s.used (500 + g) = true → ρ (500 + g) = ⟨g, 0, 0⟩
  kn : ∀ r B, s.kn r = some B → s.used r = true ∧ ρ r = B

/-! ### Worlds -/

theorem cell_alloc_old {w : World} {o : Obj} {b : Nat} {x : Nat} (h : b < w.heap.size) : (w.alloc o).cell? ⟨b, x, none⟩ = w.cell? ⟨b, x, none⟩ := by
  unfold World.cell?
  rw [show (w.alloc o).heap[b]? = w.heap[b]? from Below.heap_alloc _ _ _ h]
theorem frozen_alloc_old {w : World} {o : Obj} {b : Nat} {x : Nat} (h : b < w.heap.size) : (w.alloc o).frozen? ⟨b, x, none⟩ = w.frozen? ⟨b, x, none⟩ := by
  unfold World.frozen?
  rw [show (w.alloc o).heap[b]? = w.heap[b]? from Below.heap_alloc _ _ _ h]
theorem cell_alloc_new {w : World} {A : Array Value} {t : TypeId} {x : Nat} : (w.alloc (.cells A t)).cell? ⟨w.heap.size, x, none⟩ = A[x]? := by
  unfold World.cell?
  rw [show (w.alloc (.cells A t)).heap[w.heap.size]? = some (.cells A t (0, 0)) from Go.heap_alloc_new w _]
  rfl
theorem frozen_alloc_new {w : World} {A : Array Value} {t : TypeId} {x : Nat} : (w.alloc (.cells A t)).frozen? ⟨w.heap.size, x, none⟩ = false := by
  unfold World.frozen?
  rw [show (w.alloc (.cells A t)).heap[w.heap.size]? = some (.cells A t (0, 0)) from Go.heap_alloc_new w _]
  simp
theorem RowAt.keep {ρ : Env} {r : Nat} {row : Row} {w w2 : World} (h : RowAt ρ r row w) (hs : w.heap.size ≤ w2.heap.size) (hb : w2.heap[(ρ r).1]? = w.heap[(ρ r).1]?) : RowAt ρ r row w2 := by
  refine ⟨Nat.lt_of_lt_of_le h.1 hs, fun j v hv => ?_, fun e k hc => ?_, by rw [hb]; exact h.2.2.2⟩
  · obtain ⟨h1, h2⟩ := h.2.1 j v hv
    refine ⟨?_, fun hw => ?_⟩
    · have : w2.cell? ⟨(ρ r).1, (ρ r).2 + j, none⟩ = w.cell? ⟨(ρ r).1, (ρ r).2 + j, none⟩ := World.cell?_of_block (w := w) hb
      rw [this]; exact h1
    · have : w2.frozen? ⟨(ρ r).1, (ρ r).2 + j, none⟩ = w.frozen? ⟨(ρ r).1, (ρ r).2 + j, none⟩ := World.frozen?_of_block (w := w) hb
      rw [this]; exact h2 hw
  · rw [hb]; exact h.2.2.1 e k hc

/-- Cells of one block were written. -/
structure Wrote (g o : Nat) (vs : List Value) (w w2 : World) : Prop where
  os : w2.os = w.os
  tape : w2.tape = w.tape
  output : w2.output = w.output
  size : w2.heap.size = w.heap.size
  block : ∀ k, k ≠ g → w2.heap[k]? = w.heap[k]?
  frozen : ∀ x, w2.frozen? ⟨g, x, none⟩ = w.frozen? ⟨g, x, none⟩
  inn : ∀ j v, vs[j]? = some v → w2.cell? ⟨g, o + j, none⟩ = some v
  out : ∀ x, (x < o ∨ o + vs.length ≤ x) → w2.cell? ⟨g, x, none⟩ = w.cell? ⟨g, x, none⟩
  shape : ∀ cur t fz, w.heap[g]? = some (.cells cur t fz) → ∃ cur', w2.heap[g]? = some (.cells cur' t fz) ∧ cur'.size = cur.size

theorem cell_setCell {w : World} {g o x : Nat} {v : Value} : (w.setCell ⟨g, o, none⟩ v).cell? ⟨g, x, none⟩ = if x = o then (w.cell? ⟨g, x, none⟩).map fun _ => v else w.cell? ⟨g, x, none⟩ := by
  unfold World.cell? World.setCell
  simp only [Array.getElem?_modify, if_true]
  cases hq : w.heap[g]? with
  | none => simp
  | some ob =>
    cases ob <;> simp
    rename_i c e f
    rw [Array.getElem?_setIfInBounds]
    by_cases h : x = o
    · subst h
      by_cases hx : x < c.size
      · simp [hx]
      · simp [hx, Array.getElem?_eq_none (Nat.le_of_not_lt hx)]
    · rw [if_neg (Ne.symm h), if_neg h]
theorem frozen_setCell {w : World} {g o x : Nat} {v : Value} : (w.setCell ⟨g, o, none⟩ v).frozen? ⟨g, x, none⟩ = w.frozen? ⟨g, x, none⟩ := by
  unfold World.frozen? World.setCell
  simp only [Array.getElem?_modify, if_true]
  cases hq : w.heap[g]? with
  | none => simp
  | some ob => cases ob <;> simp
theorem heap_setCell_self {w : World} {g o : Nat} {v : Value} {cur : Array Value} {t : TypeId} {fz : Nat × Nat} (h : w.heap[g]? = some (.cells cur t fz)) : (w.setCell ⟨g, o, none⟩ v).heap[g]? = some (.cells (cur.setIfInBounds o v) t fz) := by
  unfold World.setCell
  simp only [Array.getElem?_modify, if_true, h, Option.map_some]
  rfl
theorem addr_add (g o j : Nat) : (⟨g, o, none⟩ : Addr).add j = ⟨g, o + j, none⟩ := by unfold Addr.add; split <;> simp_all
theorem storeCells_ok (P : Program) (g o : Nat) : ∀ (vs : List Value) (i : Nat) (w : World), (∀ j, j < vs.length → (w.cell? ⟨g, o + i + j, none⟩).isSome = true ∧ w.frozen? ⟨g, o + i + j, none⟩ = false) → (∀ v ∈ vs, v.oneCell' = true) →
    ∃ w2, (storeCells ⟨g, o, none⟩ vs i).run P w = .ok () w2 ∧ Wrote g (o + i) vs w w2
  | [], i, w, _, _ => ⟨w, rfl, rfl, rfl, rfl, rfl, fun _ _ => rfl, fun _ => rfl, (fun j v h => by simp at h), fun _ _ => rfl, fun cur t fz h => ⟨cur, h, rfl⟩⟩
  | v :: vs, i, w, h, h1 => by
    obtain ⟨c0, f0⟩ := h 0 (by simp)
    have hst : (store ((⟨g, o, none⟩ : Addr).add i) v).run P w = .ok () (w.setCell ⟨g, o + i, none⟩ v) := by
      rw [addr_add, run_store P w _ v _ (h1 v (by simp))]
      rw [Nat.add_zero] at c0 f0
      cases hq : w.cell? ⟨g, o + i, none⟩ with
      | none => rw [hq] at c0; cases c0
      | some u => simp [f0]
    obtain ⟨w2, hr, hw⟩ := storeCells_ok P g o vs (i + 1) (w.setCell ⟨g, o + i, none⟩ v) (fun j hj => by
      have := h (j + 1) (by simp; omega)
      rw [cell_setCell, frozen_setCell, if_neg (by omega), show o + (i + 1) + j = o + i + (j + 1) by omega]
      exact this) (fun u hu => h1 u (by simp [hu]))
    refine ⟨w2, ?_, hw.os, hw.tape, hw.output, by rw [hw.size]; simp [World.setCell], fun k hk => by rw [hw.block k hk, Below.heap_setCell _ _ _ _ hk], fun x => by rw [hw.frozen, frozen_setCell], ?_, ?_, ?_⟩
    · simp only [storeCells, Sem.run_bind, hst, Result.andThen_ok]
      exact hr
    · intro j u hu
      cases j with
      | zero =>
        simp at hu
        subst hu
        rw [Nat.add_zero, hw.out _ (.inl (by omega)), cell_setCell, if_pos rfl]
        rw [Nat.add_zero] at c0
        cases hq : w.cell? ⟨g, o + i, none⟩ with
        | none => rw [hq] at c0; cases c0
        | some u => rfl
      | succ j =>
        have := hw.inn j u (by simpa using hu)
        rw [show o + i + (j + 1) = o + (i + 1) + j by omega]
        exact this
    · intro x hx
      rw [List.length_cons] at hx
      rw [hw.out x (by omega), cell_setCell, if_neg (by omega)]
    · intro cur t fz hc
      obtain ⟨cur', g1, g2⟩ := hw.shape _ t fz (heap_setCell_self hc)
      exact ⟨cur', g1, by rw [g2]; simp⟩
end Go.Proofs.YtdbbcngolcnniaaDoor.E
/- Reading and writing the cells of a symbolic row. No condition. -/
namespace Go.Proofs.YtdbbcngolcnniaaDoor.E
open Go Go.RowKit
set_option linter.unusedVariables false
set_option linter.unusedSimpArgs false

def all : List Prop → Prop
  | [] => True
  | p :: l => p ∧ all l
theorem all_append {l m : List Prop} : all (l ++ m) ↔ all l ∧ all m := by
  induction l with
  | nil => simp [all]
  | cons p l ih => simp [all, ih, and_assoc]

def Has (L N : List Value) (off : Nat) : Prop := ∃ X Y, L = X ++ N ++ Y ∧ X.length = off
def Repl (L L' N : List Value) (off : Nat) : Prop := ∃ X O Y, L = X ++ O ++ Y ∧ O.length = N.length ∧ L' = X ++ N ++ Y ∧ X.length = off
theorem Has.get {L N : List Value} {off : Nat} (h : Has L N off) {j : Nat} {v : Value} (hv : N[j]? = some v) : L[off + j]? = some v := by
  obtain ⟨X, Y, rfl, rfl⟩ := h
  have hj : j < N.length := (List.getElem?_eq_some_iff.1 hv).1
  rw [List.append_assoc, List.getElem?_append_right (by omega), show X.length + j - X.length = j by omega, List.getElem?_append_left hj]
  exact hv
theorem Has.mem {L N : List Value} {off : Nat} (h : Has L N off) : ∀ v ∈ N, v ∈ L := by
  obtain ⟨X, Y, rfl, rfl⟩ := h
  intro v hv
  simp [hv]
theorem Has.pre {L N M : List Value} {off : Nat} (h : Has L N off) : Has (M ++ L) N (M.length + off) := by
  obtain ⟨X, Y, rfl, rfl⟩ := h
  exact ⟨M ++ X, Y, by simp [List.append_assoc], by simp⟩
theorem Has.suf {L N M : List Value} {off : Nat} (h : Has L N off) : Has (L ++ M) N off := by
  obtain ⟨X, Y, rfl, rfl⟩ := h
  exact ⟨X, Y ++ M, by simp [List.append_assoc], rfl⟩
theorem Repl.pre {L L' N M : List Value} {off : Nat} (h : Repl L L' N off) : Repl (M ++ L) (M ++ L') N (M.length + off) := by
  obtain ⟨X, O, Y, rfl, h1, rfl, rfl⟩ := h
  exact ⟨M ++ X, O, Y, by simp [List.append_assoc], h1, by simp [List.append_assoc], by simp⟩
theorem Repl.suf {L L' N M : List Value} {off : Nat} (h : Repl L L' N off) : Repl (L ++ M) (L' ++ M) N off := by
  obtain ⟨X, O, Y, rfl, h1, rfl, rfl⟩ := h
  exact ⟨X, O, Y ++ M, by simp [List.append_assoc], h1, by simp [List.append_assoc], rfl⟩
theorem has_slice {L : List Value} {off s : Nat} (h : off + s ≤ L.length) : Has L ((L.drop off).take s) off := by
  refine ⟨L.take off, (L.drop off).drop s, ?_, by simp; omega⟩
  rw [List.append_assoc, List.take_append_drop, List.take_append_drop]
theorem has_one {L : List Value} {off : Nat} {v : Value} (h : L[off]? = some v) : Has L [v] off := by
  obtain ⟨hl, rfl⟩ := List.getElem?_eq_some_iff.1 h
  refine ⟨L.take off, L.drop (off + 1), ?_, by simp; omega⟩
  rw [List.append_assoc, List.singleton_append, ← List.drop_eq_getElem_cons hl, List.take_append_drop]
theorem repl_set {L : List Value} {off : Nat} {v : Value} (h : off < L.length) : Repl L (L.set off v) [v] off := by
  refine ⟨L.take off, [L[off]], L.drop (off + 1), ?_, rfl, ?_, by simp; omega⟩
  · rw [List.append_assoc, List.singleton_append, ← List.drop_eq_getElem_cons h, List.take_append_drop]
  · rw [List.set_eq_take_append_cons_drop, if_pos h]; simp

def loc : List Pc → Nat → Option (List Pc × Nat)
  | [], _ => none
  | p :: ps, b => bif Nat.beq b 0 then some (p :: ps, 0) else bif Nat.ble p.size b then loc ps (b - p.size) else some (p :: ps, b)
theorem loc_ok (ρ : Env) : ∀ {ps : List Pc} {b : Nat} {rs : List Pc} {o : Nat}, pok ps → loc ps b = some (rs, o) → ∃ pre, ps = pre ++ rs ∧ (lst ρ pre).length + o = b
  | [], _, _, _, _, h => by cases h
  | p :: ps, b, rs, o, hp, h => by
    unfold loc at h
    cases hb : Nat.beq b 0 with
    | true =>
      rw [hb] at h
      obtain rfl : b = 0 := Nat.eq_of_beq_eq_true hb
      cases h
      exact ⟨[], rfl, rfl⟩
    | false =>
      rw [hb] at h
      cases hl : Nat.ble p.size b with
      | true =>
        rw [hl] at h
        obtain ⟨pre, rfl, h2⟩ := loc_ok ρ (fun q hq => hp q (by simp [hq])) h
        have := Nat.le_of_ble_eq_true hl
        refine ⟨p :: pre, rfl, ?_⟩
        rw [lst_cons, List.length_append, Pc.len (hp p (by simp))]
        omega
      | false =>
        rw [hl] at h
        cases h
        exact ⟨[], rfl, by simp [lst]⟩

def takeP : List Pc → Nat → Option (List Pc × List Pc)
  | [], s => bif Nat.beq s 0 then some ([], []) else none
  | p :: ps, s => bif Nat.beq s 0 then some ([], p :: ps) else bif Nat.ble p.size s then (match takeP ps (s - p.size) with | some (qs, rest) => some (p :: qs, rest) | none => none) else none
theorem takeP_ok (ρ : Env) : ∀ {ps : List Pc} {s : Nat} {qs rest : List Pc}, pok ps → takeP ps s = some (qs, rest) → ps = qs ++ rest ∧ (lst ρ qs).length = s
  | [], s, qs, rest, _, h => by
    unfold takeP at h
    cases hb : Nat.beq s 0 with
    | true =>
      rw [hb] at h
      cases h
      exact ⟨rfl, (Nat.eq_of_beq_eq_true hb).symm⟩
    | false => rw [hb] at h; cases h
  | p :: ps, s, qs, rest, hp, h => by
    unfold takeP at h
    cases hb : Nat.beq s 0 with
    | true =>
      rw [hb] at h
      cases h
      exact ⟨rfl, (Nat.eq_of_beq_eq_true hb).symm⟩
    | false =>
      rw [hb] at h
      cases hl : Nat.ble p.size s with
      | true =>
        rw [hl] at h
        simp only [cond_false, cond_true] at h
        cases ht : takeP ps (s - p.size) with
        | none => rw [ht] at h; cases h
        | some y =>
          obtain ⟨q2, r2⟩ := y
          rw [ht] at h
          cases h
          obtain ⟨h1, h2⟩ := takeP_ok ρ (fun q hq => hp q (by simp [hq])) ht
          refine ⟨by rw [h1]; rfl, ?_⟩
          rw [lst_cons, List.length_append, Pc.len (hp p (by simp)), h2]
          have := Nat.le_of_ble_eq_true hl
          omega
      | false => rw [hl] at h; cases h

/-- i * k + j, written short where it can be. -/
def idx (i k j : Nat) : Nat := bif Nat.beq k 1 then (bif Nat.beq j 0 then i else i + j) else i * k + j
theorem idx_eq (i k j : Nat) : idx i k j = i * k + j := by
  unfold idx
  cases hk : Nat.beq k 1 with
  | true =>
    obtain rfl := Nat.eq_of_beq_eq_true hk
    cases hj : Nat.beq j 0 with
    | true => obtain rfl := Nat.eq_of_beq_eq_true hj; simp
    | false => simp
  | false => rfl

def SV.cellL (ρ : Env) : SV → List Value
  | .lf x => [x.val ρ]
  | .agg ps => lst ρ ps
  | .un => []
/-- A value as pieces. -/
def SV.pcs : SV → Option (List Pc)
  | .lf x => some [.one x]
  | .agg ps => some ps
  | .un => none

def getS (ps : List Pc) (b s : Nat) (ag : Bool) : Option (List Prop × SV) :=
  match loc ps b with
  | none => none
  | some (rs, o) =>
    bif ag then
      match (bif Nat.beq o 0 then takeP rs s else none) with
      | some (qs, _) => some ([], .agg qs)
      | none => match rs with
        | .arr A n :: _ => some ([o + s ≤ n], .agg [.arr (A.extract o (o + s)) s])
        | _ => none
    else match rs with
      | .one x :: _ => bif Nat.beq o 0 then some ([], .lf x) else none
      | .arr A n :: _ => some ([o < n], .lf (.v (A.getD o undef)))
      | _ => none
def getD (ps : List Pc) (b i k j s : Nat) (ag : Bool) : Option (List Prop × SV) :=
  match loc ps b with
  | some (.arr A n :: _, o) =>
    bif Nat.beq o 0 then
      bif ag then some ([idx i k j + s ≤ n], .agg [.arr (A.extract (idx i k j) (idx i k j + s)) s]) else some ([idx i k j < n], .lf (.v (A.getD (idx i k j) undef)))
    else none
  | some (.fnc f k2 n :: _, o) =>
    bif Nat.beq o 0 && Nat.beq k2 k then
      bif ag then bif Nat.ble (j + s) k then some ([i < n], .agg ((((f i).drop j).take s).map fun x => .one (.v x))) else none
      else match (f i)[j]? with
        | some x => some ([i < n], .lf (.v x))
        | none => none
    else none
  | _ => none
def getP (ps : List Pc) (b i k j s : Nat) (ag : Bool) : Option (List Prop × SV) := bif Nat.beq k 0 then getS ps (b + j) s ag else match getD ps b i k j s ag with
  | some r => some r
  | none => getS ps (b + i * k + j) s ag

structure GetOk (ρ : Env) (ps : List Pc) (off s : Nat) (ag : Bool) (x : SV) : Prop where
  ok : x.ok
  ids : ∀ r ∈ x.ids, r ∈ pids ps
  has : Has (lst ρ ps) (x.cellL ρ) off
  agg : ag = true → ∃ qs, x = .agg qs ∧ (lst ρ qs).length = s
  one : ag = false → ∃ l, x = .lf l

theorem pids_append (ps qs : List Pc) : pids (ps ++ qs) = pids ps ++ pids qs := by simp [pids]
theorem pok_left {ps qs : List Pc} (h : pok (ps ++ qs)) : pok ps := fun p hp => h p (by simp [hp])
theorem pok_right {ps qs : List Pc} (h : pok (ps ++ qs)) : pok qs := fun p hp => h p (by simp [hp])

theorem extract_list (A : Array Value) (o s : Nat) : (A.extract o (o + s)).toList = (A.toList.drop o).take s := by
  simp [Array.toList_extract, List.extract]

theorem getOk_arr_agg {ρ : Env} {pre rest : List Pc} {A : Array Value} {n o s : Nat} (hp : pok (pre ++ .arr A n :: rest)) (h : o + s ≤ n) :
    GetOk ρ (pre ++ .arr A n :: rest) ((lst ρ pre).length + o) s true (.agg [.arr (A.extract o (o + s)) s]) := by
  have hA : (Pc.arr A n).ok := hp _ (by simp)
  have hl : (A.extract o (o + s)).size = s := by rw [Array.size_extract, hA.1]; omega
  have hx : (lst ρ [.arr (A.extract o (o + s)) s]) = (A.toList.drop o).take s := by
    rw [← extract_list]; simp [lst, Pc.arrV]
  refine ⟨?_, ?_, ?_, fun _ => ⟨_, rfl, ?_⟩, fun h => by cases h⟩
  · intro p hp2
    simp only [List.mem_singleton] at hp2
    subst hp2
    refine ⟨hl, fun v hv => hA.2 v ?_⟩
    rw [extract_list] at hv
    exact List.mem_of_mem_drop (List.mem_of_mem_take hv)
  · intro r hr; simp [SV.ids, pids, Pc.ids] at hr
  · show Has _ (lst ρ _) _
    rw [hx, lst_append, lst_cons]
    exact (has_slice (by have := hA.1; simp at this ⊢; show o + s ≤ A.size; omega)).suf.pre
  · rw [hx, ← extract_list]; exact hl
theorem getOk_arr_one {ρ : Env} {pre rest : List Pc} {A : Array Value} {n o s : Nat} (hp : pok (pre ++ .arr A n :: rest)) (h : o < n) :
    GetOk ρ (pre ++ .arr A n :: rest) ((lst ρ pre).length + o) s false (.lf (.v (A.getD o undef))) := by
  have hA : (Pc.arr A n).ok := hp _ (by simp)
  have hv : A.toList[o]? = some (A.getD o undef) := by
    have : o < A.size := by rw [hA.1]; exact h
    simp [Array.getD, this]
  refine ⟨hA.2 _ (List.mem_of_getElem? hv), fun r hr => by simp [SV.ids, Lf.ids] at hr, ?_, nofun, fun _ => ⟨_, rfl⟩⟩
  rw [lst_append, lst_cons]
  exact (has_one hv).suf.pre

theorem getS_ok {ρ : Env} {ps : List Pc} {b s : Nat} {ag : Bool} {ob : List Prop} {x : SV} (hp : pok ps) (h : getS ps b s ag = some (ob, x)) (ho : all ob) : GetOk ρ ps b s ag x := by
  unfold getS at h
  cases hl : loc ps b with
  | none => rw [hl] at h; cases h
  | some y =>
    obtain ⟨rs, o⟩ := y
    rw [hl] at h
    obtain ⟨pre, rfl, hb⟩ := loc_ok ρ hp hl
    cases ag with
    | true =>
      simp only [cond_true] at h
      generalize ht : (bif Nat.beq o 0 then takeP rs s else none) = tk at h
      cases tk with
      | some y =>
        obtain ⟨qs, rest⟩ := y
        cases h
        cases hz : Nat.beq o 0 with
        | false => rw [hz] at ht; cases ht
        | true =>
          rw [hz] at ht
          obtain rfl := Nat.eq_of_beq_eq_true hz
          obtain ⟨rfl, hq⟩ := takeP_ok ρ (pok_right hp) ht
          refine ⟨pok_left (pok_right hp), fun r hr => by rw [pids_append, pids_append]; simp only [List.mem_append]; exact .inr (.inl hr), ?_, fun _ => ⟨qs, rfl, hq⟩, fun h => by cases h⟩
          refine ⟨lst ρ pre, lst ρ rest, ?_, by omega⟩
          show lst ρ _ = lst ρ pre ++ lst ρ qs ++ _
          rw [lst_append, lst_append, List.append_assoc]
      | none =>
        cases rs with
        | nil => cases h
        | cons p rs =>
          cases p with
          | arr A n =>
            cases h
            subst hb
            exact getOk_arr_agg hp ho.1
          | _ => cases h
    | false =>
      simp only [cond_false] at h
      cases rs with
      | nil => cases h
      | cons p rs =>
        cases p with
        | arr A n =>
          cases h
          subst hb
          exact getOk_arr_one hp ho.1
        | one y =>
          cases hz : Nat.beq o 0 with
          | false => simp only [hz] at h; cases h
          | true =>
            simp only [hz] at h
            cases h
            obtain rfl := Nat.eq_of_beq_eq_true hz
            refine ⟨(hp (.one y) (by simp) : y.ok), fun r hr => by simp [pids, Pc.ids]; exact .inr (.inl hr), ?_, nofun, fun _ => ⟨_, rfl⟩⟩
            exact ⟨lst ρ pre, lst ρ rs, by rw [lst_append, lst_cons, List.append_assoc]; rfl, by omega⟩
        | fnc f k n => cases h

theorem flat_split {f : Nat → List Value} {k : Nat} : ∀ (n i : Nat), i < n → (∀ q, q < n → (f q).length = k) → ∃ X Y, (List.range n).flatMap f = X ++ f i ++ Y ∧ X.length = i * k
  | 0, i, h, _ => by omega
  | n + 1, i, h, hk => by
    have hlen : ∀ m, m ≤ n + 1 → ((List.range m).flatMap f).length = m * k := by
      intro m
      induction m with
      | zero => intro _; simp
      | succ m ih =>
        intro hm
        rw [List.range_succ, List.flatMap_append, List.length_append, ih (by omega)]
        simp [hk m (by omega), Nat.succ_mul]
    rw [List.range_succ, List.flatMap_append]
    by_cases hi : i = n
    · subst hi
      exact ⟨(List.range i).flatMap f, [], by simp, hlen i (by omega)⟩
    · obtain ⟨X, Y, h1, h2⟩ := flat_split n i (by omega) (fun q hq => hk q (by omega))
      exact ⟨X, Y ++ [n].flatMap f, by rw [h1]; simp [List.append_assoc], h2⟩

theorem getD_ok {ρ : Env} {ps : List Pc} {b i k j s : Nat} {ag : Bool} {ob : List Prop} {x : SV} (hp : pok ps) (h : getD ps b i k j s ag = some (ob, x)) (ho : all ob) : GetOk ρ ps (b + i * k + j) s ag x := by
  unfold getD at h
  cases hl : loc ps b with
  | none => rw [hl] at h; cases h
  | some y =>
    obtain ⟨rs, o⟩ := y
    rw [hl] at h
    obtain ⟨pre, rfl, hb⟩ := loc_ok ρ hp hl
    cases rs with
    | nil => cases h
    | cons p rs =>
      cases p with
      | one y => cases h
      | arr A n =>
        cases hz : Nat.beq o 0 with
        | false => simp only [hz] at h; cases h
        | true =>
          simp only [hz, cond_true] at h
          obtain rfl := Nat.eq_of_beq_eq_true hz
          rw [show b + i * k + j = (lst ρ pre).length + idx i k j by rw [idx_eq]; omega]
          cases ag with
          | true => cases h; exact getOk_arr_agg hp ho.1
          | false => cases h; exact getOk_arr_one hp ho.1
      | fnc f k2 n =>
        cases hz : Nat.beq o 0 && Nat.beq k2 k with
        | false => simp only [hz] at h; cases h
        | true =>
          simp only [hz, cond_true] at h
          rw [Bool.and_eq_true] at hz
          obtain ⟨hz, hk2⟩ := hz
          obtain rfl := Nat.eq_of_beq_eq_true hz
          obtain rfl := Nat.eq_of_beq_eq_true hk2
          have hF : (Pc.fnc f k2 n).ok := hp _ (by simp)
          cases ag with
          | true =>
            simp only [cond_true] at h
            cases hs : Nat.ble (j + s) k2 with
            | false => rw [hs] at h; cases h
            | true =>
              rw [hs] at h
              cases h
              have hi := ho.1
              have hs2 := Nat.le_of_ble_eq_true hs
              obtain ⟨X, Y, h1, h2⟩ := flat_split n i hi (fun q hq => (hF q hq).1)
              have hx : lst ρ ((((f i).drop j).take s).map fun x => Pc.one (.v x)) = ((f i).drop j).take s := by
                generalize ((f i).drop j).take s = l
                clear h1
                induction l with
                | nil => rfl
                | cons v l ih => rw [List.map_cons, lst_cons, ih]; rfl
              refine ⟨?_, ?_, ?_, fun _ => ⟨_, rfl, ?_⟩, fun h => by cases h⟩
              · intro p hp2
                obtain ⟨v, hv, rfl⟩ := List.mem_map.1 hp2
                exact (hF i hi).2 v (List.mem_of_mem_drop (List.mem_of_mem_take hv))
              · intro r hr
                simp only [SV.ids, pids, List.mem_flatMap, List.mem_map] at hr
                obtain ⟨_, ⟨v, _, rfl⟩, hr⟩ := hr
                cases hr
              · show Has _ (lst ρ _) _
                rw [hx, lst_append, lst_cons, show b + i * k2 + j = (lst ρ pre).length + (i * k2 + j) by omega]
                refine Has.pre (Has.suf ?_)
                show Has ((List.range n).flatMap f) _ _
                rw [h1, ← h2, List.append_assoc]
                exact (has_slice (by rw [(hF i hi).1]; exact hs2)).suf.pre
              · rw [hx, List.length_take, List.length_drop, (hF i hi).1]; omega
          | false =>
            simp only [cond_false] at h
            cases hv : (f i)[j]? with
            | none => rw [hv] at h; cases h
            | some v =>
              rw [hv] at h
              cases h
              have hi := ho.1
              obtain ⟨X, Y, h1, h2⟩ := flat_split n i hi (fun q hq => (hF q hq).1)
              refine ⟨(hF i hi).2 v (List.mem_of_getElem? hv), fun r hr => by simp [SV.ids, Lf.ids] at hr, ?_, nofun, fun _ => ⟨_, rfl⟩⟩
              rw [lst_append, lst_cons, show b + i * k2 + j = (lst ρ pre).length + (i * k2 + j) by omega]
              refine Has.pre (Has.suf ?_)
              show Has ((List.range n).flatMap f) _ _
              rw [h1, ← h2, List.append_assoc]
              exact (has_one hv).suf.pre
theorem getP_ok {ρ : Env} {ps : List Pc} {b i k j s : Nat} {ag : Bool} {ob : List Prop} {x : SV} (hp : pok ps) (h : getP ps b i k j s ag = some (ob, x)) (ho : all ob) : GetOk ρ ps (b + i * k + j) s ag x := by
  unfold getP at h
  cases hk : Nat.beq k 0 with
  | true =>
    rw [hk] at h
    obtain rfl := Nat.eq_of_beq_eq_true hk
    have := getS_ok (ρ := ρ) hp h ho
    simpa using this
  | false =>
    rw [hk] at h
    simp only [cond_false] at h
    split at h
    · rename_i r hr
      cases h
      exact getD_ok hp hr ho
    · exact getS_ok (ρ := ρ) hp h ho
end Go.Proofs.YtdbbcngolcnniaaDoor.E
