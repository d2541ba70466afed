/- The end of behind of package sha: the eight are each more by what came of them. No condition but that the numbers have 32 bits, and the block 64 bytes; the table of the package stands in memory. -/
import Derived.Test.YtjkbbndiickcnaaDoorWords
import Derived.Deep.DeepCutAuto
import Derived.Deep.CutBlock
namespace Go.Proofs.YtjkbbndiickcnaaDoor
open Go.RowKit
set_option linter.unusedVariables false

theorem quiet_add {P : Program} {f : FuncId} {args : Array Value} {w : World} {a n : Nat} {v : Value}
    (h : Calls P f args (w.drewN (a + n)) fun e w' => e = .returned v ∧ ∃ m, w' = (w.drewN (a + n)).drewN m) :
    Calls P f args (w.drewN (a + n)) fun e w'' => e = .returned v ∧ ∃ m, w'' = w.drewN (a + m) :=
  h.mono fun _ _ ⟨he, m, hm⟩ => ⟨he, n + m, by rw [hm, World.drewN_drewN, Nat.add_assoc]⟩
theorem quiet_add_left {P : Program} {f : FuncId} {args : Array Value} {w : World} {a n : Nat} {v : Value}
    (h : Calls P f args (w.drewN (a + n)) fun e w' => e = .returned v ∧ w.drewN (a + n) = w') :
    Calls P f args (w.drewN (a + n)) fun e w'' => e = .returned v ∧ ∃ m, w'' = w.drewN (a + m) :=
  h.mono fun _ _ ⟨he, hm⟩ => ⟨he, n, hm.symm⟩
theorem quiet_left {P : Program} {f : FuncId} {args : Array Value} {w : World} {n : Nat} {v : Value}
    (h : Calls P f args (w.drewN n) fun e w' => e = .returned v ∧ w.drewN n = w') : Calls P f args (w.drewN n) fun e w'' => e = .returned v ∧ ∃ m, w'' = w.drewN m :=
  h.mono fun _ _ ⟨he, hm⟩ => ⟨he, n, hm.symm⟩

def cells (s : St) : List Value := [.int .u32 s.a, .int .u32 s.b, .int .u32 s.c, .int .u32 s.d, .int .u32 s.e, .int .u32 s.f, .int .u32 s.g, .int .u32 s.h]
/-- The tables of the package, as its text lays them. -/
def Glob (w : World) : Prop := (∃ t, w.heap[0]? = some (.cells (rowOf .u32 64 kN).toArray t (0, 0))) ∧ ∃ t, w.heap[1]? = some (.cells (cells h0).toArray t (0, 0))
theorem Glob.two {w : World} (h : Glob w) : 2 ≤ w.heap.size := by
  obtain ⟨_, t, h2⟩ := h
  exact lt_of_block h2
theorem Glob.below {w w' : World} (h : Glob w) (hb : Below w.heap.size w w') : Glob w' := by
  have h2 := h.two
  exact ⟨by rw [hb.block 0 (by omega)]; exact h.1, by rw [hb.block 1 (by omega)]; exact h.2⟩
theorem Glob.consts {w : World} (h : Glob w) (j : Nat) (hj : j < 64) : w.cell? ⟨0, j, none⟩ = some (.int .u32 (kN j))  := by
  obtain ⟨⟨t, h1⟩, _⟩ := h
  exact Row.cell (w := w) (g := 0) (t := t) h1 j hj
theorem cells_size (s : St) : (Tryd.prog.info? 39).map (·.size) = some (cells s).length := by rw [show (cells s).length = 8 from rfl]; kernel_rfl
theorem cells_one (s : St) : ∀ v ∈ cells s, v.oneCell' = true := by
  intro v hv
  simp [cells] at hv
  rcases hv with rfl | rfl | rfl | rfl | rfl | rfl | rfl | rfl <;> rfl
def s0 : St := ⟨0, 0, 0, 0, 0, 0, 0, 0⟩
theorem zero39 (w : World) : (zeroValue 39).run Tryd.prog w = .ok (.agg (cells s0).toArray) w := by kernel_rfl

def St.at (s : St) : Nat → Nat
  | 0 => s.a
  | 1 => s.b
  | 2 => s.c
  | 3 => s.d
  | 4 => s.e
  | 5 => s.f
  | 6 => s.g
  | _ => s.h
theorem cells_row (s : St) : cells s = rowOf .u32 8 s.at := rfl
theorem St.at_lt {s : St} (h : s.ok) (j : Nat) : s.at j < 4294967296 := by
  obtain ⟨h1, h2, h3, h4, h5, h6, h7, h8⟩ := h
  unfold St.at
  split <;> assumption
theorem idx39 (t : St) (i : Nat) (hi : i < 8) (w : World) : (Instr.index 39 (.agg #[.int .u32 t.a, .int .u32 t.b, .int .u32 t.c, .int .u32 t.d, .int .u32 t.e, .int .u32 t.f, .int .u32 t.g, .int .u32 t.h]) (.int .i64 i)).run Tryd.prog w = .ok (.int .u32 (t.at i)) w := by
  rcases (show i = 0 ∨ i = 1 ∨ i = 2 ∨ i = 3 ∨ i = 4 ∨ i = 5 ∨ i = 6 ∨ i = 7 by omega) with rfl | rfl | rfl | rfl | rfl | rfl | rfl | rfl <;> kernel_rfl
/-- What stands in the eight once i of them are more. -/
def PTo (s t : St) (i j : Nat) : Nat := if j < i then add (s.at j) (t.at j) else s.at j
theorem PTo_step (s t : St) (i : Nat) : ∀ j, j < 8 → upd (PTo s t i) i (add (s.at i) (t.at i)) j = PTo s t (i + 1) j := by
  intro j _
  unfold upd PTo
  by_cases e : j = i
  · subst e; rw [if_pos rfl, if_pos (by omega)]
  · rw [if_neg e]
    by_cases h : j < i
    · rw [if_pos h, if_pos (by omega)]
    · rw [if_neg h, if_neg (by omega)]
theorem PTo_all (s t : St) : rowOf .u32 8 (PTo s t 8) = cells (plus s t) := rfl
theorem u_int (t : St) (ht : t.ok) (k w : Nat) : ((t.h : Int) + bits BinOp.xor IntKind.u32 (bits BinOp.xor IntKind.u32 ((rorN t.e 6 : Nat) : Int) ((rorN t.e 11 : Nat) : Int)) ((rorN t.e 25 : Nat) : Int) +
    bits BinOp.xor IntKind.u32 (bits BinOp.and IntKind.u32 (t.e : Int) (t.f : Int)) (bits BinOp.and IntKind.u32 (bits BinOp.xor IntKind.u32 (if IntKind.u32.signed = true then -1 else IntKind.u32.max) (t.e : Int)) (t.g : Int)) + (k : Int) + (w : Int)) % 4294967296 = ((uN t k w : Nat) : Int) := by
  obtain ⟨h1, h2, h3, h4, h5, h6, h7, h8⟩ := ht
  have e1 := u32_xor_nat _ _ (rorN_lt 6 h5) (rorN_lt 11 h5)
  have e2 := u32_xor_nat _ _ (xor_lt (rorN_lt 6 h5) (rorN_lt 11 h5)) (rorN_lt 25 h5)
  have e3 := u32_and_nat t.e t.f h5 h6
  have e4 : bits BinOp.xor IntKind.u32 (if IntKind.u32.signed = true then -1 else IntKind.u32.max) (t.e : Int) = ((4294967295 ^^^ t.e : Nat) : Int) := u32_xor_nat 4294967295 t.e (by decide) h5
  have hx : 4294967295 ^^^ t.e < 4294967296 := xor_lt (by decide) h5
  have e5 := u32_and_nat (4294967295 ^^^ t.e) t.g hx h7
  have e6 := u32_xor_nat (t.e &&& t.f) ((4294967295 ^^^ t.e) &&& t.g) (and_lt h5) (and_lt hx)
  rw [e1, e2, e3, e4, e5, e6]
  unfold uN add
  generalize rorN t.e 6 ^^^ rorN t.e 11 ^^^ rorN t.e 25 = p
  generalize (t.e &&& t.f) ^^^ ((4294967295 ^^^ t.e) &&& t.g) = q
  omega
theorem v_int (t : St) (ht : t.ok) : (bits BinOp.xor IntKind.u32 (bits BinOp.xor IntKind.u32 ((rorN t.a 2 : Nat) : Int) ((rorN t.a 13 : Nat) : Int)) ((rorN t.a 22 : Nat) : Int) +
    bits BinOp.xor IntKind.u32 (bits BinOp.xor IntKind.u32 (bits BinOp.and IntKind.u32 (t.a : Int) (t.b : Int)) (bits BinOp.and IntKind.u32 (t.a : Int) (t.c : Int))) (bits BinOp.and IntKind.u32 (t.b : Int) (t.c : Int))) % 4294967296 = ((vN t : Nat) : Int) := by
  obtain ⟨h1, h2, h3, h4, h5, h6, h7, h8⟩ := ht
  have e1 := u32_xor_nat _ _ (rorN_lt 2 h1) (rorN_lt 13 h1)
  have e2 := u32_xor_nat _ _ (xor_lt (rorN_lt 2 h1) (rorN_lt 13 h1)) (rorN_lt 22 h1)
  have e3 := u32_and_nat t.a t.b h1 h2
  have e4 := u32_and_nat t.a t.c h1 h3
  have e5 := u32_and_nat t.b t.c h2 h3
  have e6 := u32_xor_nat (t.a &&& t.b) (t.a &&& t.c) (and_lt h1) (and_lt h1)
  have e7 := u32_xor_nat ((t.a &&& t.b) ^^^ (t.a &&& t.c)) (t.b &&& t.c) (xor_lt (and_lt h1) (and_lt h1)) (and_lt h2)
  rw [e1, e2, e3, e4, e5, e6, e7]
  unfold vN add
  generalize rorN t.a 2 ^^^ rorN t.a 13 ^^^ rorN t.a 22 = p
  generalize (t.a &&& t.b) ^^^ (t.a &&& t.c) ^^^ (t.b &&& t.c) = q
  omega
theorem add_int1 (a b x : Int) (u v : Nat) (hu : a % 4294967296 = (u : Int)) (hv : b % 4294967296 = (v : Int)) : (a % 4294967296 + b % 4294967296) % 4294967296 = ((add u v : Nat) : Int) := by
  unfold add; omega
theorem add_int2 (a : Int) (d u : Nat) (hu : a % 4294967296 = (u : Int)) : ((d : Int) + a % 4294967296) % 4294967296 = ((add d u : Nat) : Int) := by
  unfold add; omega

/-- The loops of a code, the outermost ones, in order. -/
def loopsOf : Code → List Code
  | .loop c => [c]
  | .seq a b => loopsOf a ++ loopsOf b
  | .block _ c => loopsOf c
  | .scope c => loopsOf c
  | .cond _ a b => loopsOf a ++ loopsOf b
  | _ => []
noncomputable def body2 : Code := ((Tryd.f31.body.map fun c => (loopsOf c).getD 1 .skip)).getD .skip
set_option maxRecDepth 100000 in
set_option maxHeartbeats 2000000 in
theorem loop2_ok (s t : St) (B : Nat) (w0 wr : World) (Q : Exit → Act → World → Prop) (c0 c1 c3 c4 c5 c6 c7 c8 c9 c10 c11 c12 c13 c14 c15 c16 c17 c18 c19 c20 c21 c22 c23 c24 c25 c26 c27 c28 c29 c30 c31 c32 c33 c34 c35 c36 c37 c38 c39 c40 c41 c42 c43 c44 c45 c46 c47 c48 c49 c50 c51 c52 c53 c54 c55 c56 c57 c58 c59 c60 c61 c62 c63 c64 c65 c66 c67 c68 c69 c70 c71 c72 c73 c74 c75 c76 c77 c78 c79 c80 c81 c82 c83 c84 c85 c86 c87 c88 c89 c90 c91 c92 c93 c94 c95 c96 c97 c98 c99 c100 c101 c102 c103 c104 c105 c106 c107 c110 c111 c112 c113 c114 c115 c116 c117 c118 c119 c120 : Value) (hR1 : wr.heap[B + 1]? = some (.cells (cells s0).toArray 39 (0, 0))) (hRs : Row wr B 39 .u32 8 (PTo s t 0)) (hB : Below B w0 wr)
    (hexit : ∀ (u17 u18 u110 u111 u112 u113 u114 u115 u116 u117 u118 u119 : Value) (wx : World), wx.heap[B + 1]? = some (.cells (cells s0).toArray 39 (0, 0)) ∧ Row wx B 39 .u32 8 (PTo s t 8) ∧ Below B w0 wx → Q (.exit 2) ⟨(c0 :: c1 :: (.pointer (some ⟨B, 0, none⟩)) :: c3 :: c4 :: c5 :: c6 :: c7 :: c8 :: c9 :: c10 :: c11 :: c12 :: c13 :: c14 :: c15 :: c16 :: u17 :: u18 :: c19 :: c20 :: c21 :: c22 :: c23 :: c24 :: c25 :: c26 :: c27 :: c28 :: c29 :: c30 :: c31 :: c32 :: c33 :: c34 :: c35 :: c36 :: c37 :: c38 :: c39 :: c40 :: c41 :: c42 :: c43 :: c44 :: c45 :: c46 :: c47 :: c48 :: c49 :: c50 :: c51 :: c52 :: c53 :: c54 :: c55 :: c56 :: c57 :: c58 :: c59 :: c60 :: c61 :: c62 :: c63 :: c64 :: c65 :: c66 :: c67 :: c68 :: c69 :: c70 :: c71 :: c72 :: c73 :: c74 :: c75 :: c76 :: c77 :: c78 :: c79 :: c80 :: c81 :: c82 :: c83 :: c84 :: c85 :: c86 :: c87 :: c88 :: c89 :: c90 :: c91 :: c92 :: c93 :: c94 :: c95 :: c96 :: c97 :: c98 :: c99 :: c100 :: c101 :: c102 :: c103 :: c104 :: c105 :: c106 :: c107 :: (.agg #[.int .u32 t.a, .int .u32 t.b, .int .u32 t.c, .int .u32 t.d, .int .u32 t.e, .int .u32 t.f, .int .u32 t.g, .int .u32 t.h]) :: (.int .i64 8) :: u110 :: u111 :: u112 :: u113 :: u114 :: u115 :: u116 :: u117 :: u118 :: u119 :: c120 :: []).toArray, []⟩ wx) :
    Code.wp Tryd.prog (Code.loop body2) Q ⟨(c0 :: c1 :: (.pointer (some ⟨B, 0, none⟩)) :: c3 :: c4 :: c5 :: c6 :: c7 :: c8 :: c9 :: c10 :: c11 :: c12 :: c13 :: c14 :: c15 :: c16 :: c17 :: c18 :: c19 :: c20 :: c21 :: c22 :: c23 :: c24 :: c25 :: c26 :: c27 :: c28 :: c29 :: c30 :: c31 :: c32 :: c33 :: c34 :: c35 :: c36 :: c37 :: c38 :: c39 :: c40 :: c41 :: c42 :: c43 :: c44 :: c45 :: c46 :: c47 :: c48 :: c49 :: c50 :: c51 :: c52 :: c53 :: c54 :: c55 :: c56 :: c57 :: c58 :: c59 :: c60 :: c61 :: c62 :: c63 :: c64 :: c65 :: c66 :: c67 :: c68 :: c69 :: c70 :: c71 :: c72 :: c73 :: c74 :: c75 :: c76 :: c77 :: c78 :: c79 :: c80 :: c81 :: c82 :: c83 :: c84 :: c85 :: c86 :: c87 :: c88 :: c89 :: c90 :: c91 :: c92 :: c93 :: c94 :: c95 :: c96 :: c97 :: c98 :: c99 :: c100 :: c101 :: c102 :: c103 :: c104 :: c105 :: c106 :: c107 :: (.agg #[.int .u32 t.a, .int .u32 t.b, .int .u32 t.c, .int .u32 t.d, .int .u32 t.e, .int .u32 t.f, .int .u32 t.g, .int .u32 t.h]) :: (.int .i64 0) :: c110 :: c111 :: c112 :: c113 :: c114 :: c115 :: c116 :: c117 :: c118 :: c119 :: c120 :: []).toArray, []⟩ wr := by
  conv =>
    arg 2
    arg 1
    whnf
  have HRr := Lib.hid hR1
  have HRs := Lib.hid hRs
  have HGw := Lib.hid hB
  clear hR1 hRs hB
  obtain ⟨wo, rfl⟩ : ∃ wo : World, wo = wr := ⟨_, rfl⟩
  go_loopw [17, 18, 109] (fun x y i wr => ∃ k : Nat, k ≤ 8 ∧ i = .int .i64 k ∧ wr.heap[B + 1]? = some (.cells (cells s0).toArray 39 (0, 0)) ∧ Row wr B 39 .u32 8 (PTo s t k) ∧ Below B w0 wr) (fun _ _ i _ => 8 - (intOf i).toNat)
  case atStart => exact ⟨0, by omega, rfl, HRr.out, HRs.out, HGw.out⟩
  case round =>
    clear HRr HRs HGw
    obtain ⟨k, hk, rfl, hRr, hRs, hBw⟩ := hrel
    have HRr := Lib.hid hRr
    have HRs := Lib.hid hRs
    have HBw := Lib.hid hBw
    clear hRr hRs hBw
    by_cases hlt : k < 8
    · have ck : wr.cell? ⟨B, k, none⟩ = some (.int .u32 (s.at k)) := by rw [HRs.out.cell k hlt]; unfold PTo; rw [if_neg (by omega)]
      have fr : wr.frozen? ⟨B, k, none⟩ = false := HRs.out.free k
      have hix := idx39 t k hlt
      have hk8 : (k : Int) < 8 := by omega
      have hadd : Hid (((s.at k : Int) + (t.at k : Int)) % 4294967296 = ((add (s.at k) (t.at k) : Nat) : Int)) := Lib.hid (by unfold add; omega)
      have HRs2 := Lib.hid ((Row.set (w := wr) HRs.out k (add (s.at k) (t.at k))).ext (PTo_step s t k))
      generalize add (s.at k) (t.at k) = q at *
      generalize s.at k = x1 at *
      generalize t.at k = y1 at *
      clear hexit
      go_wp2
      go_roundw
      case rel =>
        rw [hadd.out]
        exact ⟨k + 1, by omega, by go_num, (heap_setCell_other _ _ _ _ (by simp)).trans HRr.out, HRs2.out, HBw.out.setCell (p := ⟨B, k, none⟩) (Nat.le_refl _) _⟩
      case measure => simp [intOf]; omega
    · obtain rfl : k = 8 := by omega
      have HE := Lib.hid hexit
      have HRs := HRs.out
      have HBw := HBw.out
      have HRr := HRr.out
      have HX := Lib.hid (And.intro HRr (And.intro HRs HBw))
      clear hexit HRs HBw HRr
      rw [show ((8 : Nat) : Int) = (8 : Int) from rfl]
      go_wp2
      exact HE.out _ _ _ _ _ _ _ _ _ _ _ _ _ HX.out
end Go.Proofs.YtjkbbndiickcnaaDoor
