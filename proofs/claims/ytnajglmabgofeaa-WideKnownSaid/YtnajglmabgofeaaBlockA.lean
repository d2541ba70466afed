/- The rounds of block of package wide, and its end. No condition but that the numbers have 64 bits. -/
import Derived.Test.YtnajglmabgofeaaRoots
import Derived.Test.YtnajglmabgofeaaTell
import Derived.Deep.QuietTactic
import Derived.BigQuiet
namespace Go.Proofs.Ytnajglmabgofeaa
open Go.RowKit
set_option linter.unusedVariables false
noncomputable def body1 : Code := ((Try.f26.body.map fun c => (loopsOf c).getD 0 .skip)).getD .skip
noncomputable def body2 : Code := ((Try.f26.body.map fun c => (loopsOf c).getD 1 .skip)).getD .skip
theorem add_w1 (X Y : Int) (u v : Nat) (hX : X = (u : Int)) (hY : Y = (v : Int)) : IntKind.u64.wrap (X + Y) = ((add u v : Nat) : Int) := by
  subst hX
  subst hY
  exact wadd u v
set_option maxRecDepth 100000 in
set_option maxHeartbeats 4000000 in
theorem loop1_ok (s : St) (l : List UInt8) (g5 gk ck m0 : Nat) (W5 : World) (Q : Exit → Act → World → Prop) (c0 c1 c3 c4 c5 c6 c16 c17 c18 c19 c20 c21 c22 c23 c24 c25 c26 c27 c28 c29 c30 c31 c32 c33 c34 c35 c36 c37 c38 c40 c41 c42 c43 c44 c45 c46 c47 c48 c49 c50 c51 c52 c53 c54 c55 c56 c57 c58 c59 c60 c61 c62 c63 c64 c65 c66 c67 c68 c69 c70 c71 c72 c73 c74 c75 c76 c77 c78 c79 c80 c81 c82 c83 c84 c85 c86 c87 c88 c89 c90 c91 c92 c93 c94 c95 c96 c97 c98 c99 c100 c101 c102 c103 c104 c105 c106 c107 c108 c109 c110 c111 c112 c113 c114 c115 c116 c117 c118 c119 c120 c121 c122 c123 : Value) (HS : Hid s.ok) (hck : 80 ≤ ck)
    (HK : Hid (∀ j, j < 80 → W5.cell? ⟨gk, j, none⟩ = some (.int .u64 (kN j)))) (HRW : Hid (Row W5 g5 63 .u64 80 (W l)))
    (hexit : ∀ (u16 u17 u18 u40 u41 u42 u43 u44 u45 u46 u47 u48 u49 u50 u51 u52 u53 u54 u55 u56 u57 u58 u59 u60 u61 u62 u63 u64 u65 u66 u67 u68 u69 u70 u71 u72 u73 u74 u75 u76 u77 u78 u79 u80 u81 u82 u83 u84 u85 u86 u87 u88 u89 u90 u91 u92 u93 u94 u95 u96 u97 u98 u99 u100 u101 u102 : Value) (t : St) (m : Nat), Hid (t = rnds l s 80) → Q (.exit 0) ⟨(c0 :: c1 :: (.slice (some ⟨gk, 0, none⟩) 80 ck) :: c3 :: c4 :: c5 :: c6 :: (.pointer (some ⟨g5, 0, none⟩)) :: (.int .u64 t.a) :: (.int .u64 t.b) :: (.int .u64 t.c) :: (.int .u64 t.d) :: (.int .u64 t.e) :: (.int .u64 t.f) :: (.int .u64 t.g) :: (.int .u64 t.h) :: u16 :: u17 :: u18 :: c19 :: c20 :: c21 :: c22 :: c23 :: c24 :: c25 :: c26 :: c27 :: c28 :: c29 :: c30 :: c31 :: c32 :: c33 :: c34 :: c35 :: c36 :: c37 :: c38 :: (.int .i64 80) :: u40 :: u41 :: u42 :: u43 :: u44 :: u45 :: u46 :: u47 :: u48 :: u49 :: u50 :: u51 :: u52 :: u53 :: u54 :: u55 :: u56 :: u57 :: u58 :: u59 :: u60 :: u61 :: u62 :: u63 :: u64 :: u65 :: u66 :: u67 :: u68 :: u69 :: u70 :: u71 :: u72 :: u73 :: u74 :: u75 :: u76 :: u77 :: u78 :: u79 :: u80 :: u81 :: u82 :: u83 :: u84 :: u85 :: u86 :: u87 :: u88 :: u89 :: u90 :: u91 :: u92 :: u93 :: u94 :: u95 :: u96 :: u97 :: u98 :: u99 :: u100 :: u101 :: u102 :: c103 :: c104 :: c105 :: c106 :: c107 :: c108 :: c109 :: c110 :: c111 :: c112 :: c113 :: c114 :: c115 :: c116 :: c117 :: c118 :: c119 :: c120 :: c121 :: c122 :: c123 :: []).toArray, []⟩ (W5.drewN m)) :
    Code.wp Try.prog (Code.loop body1) Q ⟨(c0 :: c1 :: (.slice (some ⟨gk, 0, none⟩) 80 ck) :: c3 :: c4 :: c5 :: c6 :: (.pointer (some ⟨g5, 0, none⟩)) :: (.int .u64 s.a) :: (.int .u64 s.b) :: (.int .u64 s.c) :: (.int .u64 s.d) :: (.int .u64 s.e) :: (.int .u64 s.f) :: (.int .u64 s.g) :: (.int .u64 s.h) :: c16 :: c17 :: c18 :: c19 :: c20 :: c21 :: c22 :: c23 :: c24 :: c25 :: c26 :: c27 :: c28 :: c29 :: c30 :: c31 :: c32 :: c33 :: c34 :: c35 :: c36 :: c37 :: c38 :: (.int .i64 0) :: c40 :: c41 :: c42 :: c43 :: c44 :: c45 :: c46 :: c47 :: c48 :: c49 :: c50 :: c51 :: c52 :: c53 :: c54 :: c55 :: c56 :: c57 :: c58 :: c59 :: c60 :: c61 :: c62 :: c63 :: c64 :: c65 :: c66 :: c67 :: c68 :: c69 :: c70 :: c71 :: c72 :: c73 :: c74 :: c75 :: c76 :: c77 :: c78 :: c79 :: c80 :: c81 :: c82 :: c83 :: c84 :: c85 :: c86 :: c87 :: c88 :: c89 :: c90 :: c91 :: c92 :: c93 :: c94 :: c95 :: c96 :: c97 :: c98 :: c99 :: c100 :: c101 :: c102 :: c103 :: c104 :: c105 :: c106 :: c107 :: c108 :: c109 :: c110 :: c111 :: c112 :: c113 :: c114 :: c115 :: c116 :: c117 :: c118 :: c119 :: c120 :: c121 :: c122 :: c123 :: []).toArray, []⟩ (W5.drewN m0) := by
  conv =>
    arg 2
    arg 1
    whnf
  go_loopw [8, 9, 10, 11, 12, 13, 14, 15, 16, 17, 18, 39] (fun a b c d e f g h _ _ _ k0 wr => ∃ k : Nat, ∃ t : St, k ≤ 80 ∧ k0 = .int .i64 k ∧ a = .int .u64 t.a ∧ b = .int .u64 t.b ∧ c = .int .u64 t.c ∧ d = .int .u64 t.d ∧ e = .int .u64 t.e ∧ f = .int .u64 t.f ∧ g = .int .u64 t.g ∧ h = .int .u64 t.h ∧ Hid (t = rnds l s k) ∧ ∃ m, wr = W5.drewN m) (fun _ _ _ _ _ _ _ _ _ _ _ k0 _ => 80 - (intOf k0).toNat)
  case atStart => exact ⟨0, s, by omega, rfl, rfl, rfl, rfl, rfl, rfl, rfl, rfl, rfl, Lib.hid rfl, m0, rfl⟩
  case round =>
    obtain ⟨k, t, hk, rfl, rfl, rfl, rfl, rfl, rfl, rfl, rfl, rfl, ht, m, rfl⟩ := hrel
    obtain ⟨wr, hwr⟩ : ∃ wr, wr = W5.drewN m := ⟨_, rfl⟩
    rw [← hwr]
    by_cases hlt : k < 80
    · clear hexit
      have hk64 : (k : Int) < 80 := by omega
      have cw : wr.cell? ⟨g5, k, none⟩ = some (.int .u64 (W l k)) := by rw [hwr]; exact HRW.out.cell k hlt
      have ck1 : wr.cell? ⟨gk, k, none⟩ = some (.int .u64 (kN k)) := by rw [hwr]; exact HK.out k hlt
      have HT : Hid t.ok := by unfold Hid; rw [ht.out]; exact rnds_ok l HS.out k
      have r14 := Lib.hid (ror_any t.e 14 14 rfl HT.out.2.2.2.2.1 (by decide) (by decide))
      have r18 := Lib.hid (ror_any t.e 18 18 rfl HT.out.2.2.2.2.1 (by decide) (by decide))
      have r41 := Lib.hid (ror_any t.e 41 41 rfl HT.out.2.2.2.2.1 (by decide) (by decide))
      have r28 := Lib.hid (ror_any t.a 28 28 rfl HT.out.1 (by decide) (by decide))
      have r34 := Lib.hid (ror_any t.a 34 34 rfl HT.out.1 (by decide) (by decide))
      have r39 := Lib.hid (ror_any t.a 39 39 rfl HT.out.1 (by decide) (by decide))
      have HWR := Lib.hid hwr
      clear hwr
      go_wp2
      go_quiet ((first | (go_at_call 36; with_reducible exact quiet_left (r14.out _)) | (go_at_call 36; with_reducible exact quiet_left (r18.out _)) | (go_at_call 36; with_reducible exact quiet_left (r41.out _)) ))
      go_wp2_with (first | (go_at_call 36; (with_reducible refine (r28.out _).mono ?_); rintro e w' ⟨rfl, rfl⟩) | (go_at_call 36; (with_reducible refine (r34.out _).mono ?_); rintro e w' ⟨rfl, rfl⟩) | (go_at_call 36; (with_reducible refine (r39.out _).mono ?_); rintro e w' ⟨rfl, rfl⟩))
      go_roundw
      case rel =>
        refine ⟨k + 1, rnd t (kN k) (W l k), by omega, by go_num, ?_, rfl, rfl, rfl, ?_, rfl, rfl, rfl, ?_, ?_⟩
        · exact congrArg (Value.int IntKind.u64) (add_w1 _ _ _ _ (u_int t HT.out (kN k) (W l k)) (v_int t HT.out))
        · exact congrArg (Value.int IntKind.u64) (add_w1 _ _ t.d _ rfl (u_int t HT.out (kN k) (W l k)))
        · exact Lib.hid (by rw [ht.out]; rfl)
        · rw [HWR.out]
          exact ⟨m + nq, World.drewN_drewN _ _ _⟩
      case measure => simp [intOf]; omega
    · obtain rfl : k = 80 := by omega
      have HE := Lib.hid hexit
      have HWR := Lib.hid hwr
      clear hexit hwr
      rw [show ((80 : Nat) : Int) = (80 : Int) from rfl]
      go_wp2
      rw [HWR.out]
      exact HE.out _ _ _ _ _ _ _ _ _ _ _ _ _ _ _ _ _ _ _ _ _ _ _ _ _ _ _ _ _ _ _ _ _ _ _ _ _ _ _ _ _ _ _ _ _ _ _ _ _ _ _ _ _ _ _ _ _ _ _ _ _ _ _ _ _ _ t m ht
set_option maxRecDepth 100000 in
set_option maxHeartbeats 2000000 in
theorem loop2_ok (s t : St) (B : Nat) (w0 wr : World) (Q : Exit → Act → World → Prop) (c0 c1 c2 c4 c5 c6 c7 c8 c9 c10 c11 c12 c13 c14 c15 c16 c17 c18 c19 c20 c21 c22 c23 c24 c25 c26 c27 c28 c29 c30 c31 c32 c33 c34 c35 c36 c37 c38 c39 c40 c41 c42 c43 c44 c45 c46 c47 c48 c49 c50 c51 c52 c53 c54 c55 c56 c57 c58 c59 c60 c61 c62 c63 c64 c65 c66 c67 c68 c69 c70 c71 c72 c73 c74 c75 c76 c77 c78 c79 c80 c81 c82 c83 c84 c85 c86 c87 c88 c89 c90 c91 c92 c93 c94 c95 c96 c97 c98 c99 c100 c101 c102 c103 c104 c105 c106 c107 c108 c109 c110 c113 c114 c115 c116 c117 c118 c119 c120 c121 c122 c123 : Value) (hR1 : wr.heap[B + 1]? = some (.cells (cells s0).toArray 32 (0, 0))) (hRs : Row wr B 32 .u64 8 (PTo s t 0)) (hB : Below B w0 wr)
    (hexit : ∀ (u19 u20 u113 u114 u115 u116 u117 u118 u119 u120 u121 u122 : Value) (wx : World), wx.heap[B + 1]? = some (.cells (cells s0).toArray 32 (0, 0)) ∧ Row wx B 32 .u64 8 (PTo s t 8) ∧ Below B w0 wx → Q (.exit 2) ⟨(c0 :: c1 :: c2 :: (.pointer (some ⟨B, 0, none⟩)) :: c4 :: c5 :: c6 :: c7 :: c8 :: c9 :: c10 :: c11 :: c12 :: c13 :: c14 :: c15 :: c16 :: c17 :: c18 :: u19 :: u20 :: c21 :: c22 :: c23 :: c24 :: c25 :: c26 :: c27 :: c28 :: c29 :: c30 :: c31 :: c32 :: c33 :: c34 :: c35 :: c36 :: c37 :: c38 :: c39 :: c40 :: c41 :: c42 :: c43 :: c44 :: c45 :: c46 :: c47 :: c48 :: c49 :: c50 :: c51 :: c52 :: c53 :: c54 :: c55 :: c56 :: c57 :: c58 :: c59 :: c60 :: c61 :: c62 :: c63 :: c64 :: c65 :: c66 :: c67 :: c68 :: c69 :: c70 :: c71 :: c72 :: c73 :: c74 :: c75 :: c76 :: c77 :: c78 :: c79 :: c80 :: c81 :: c82 :: c83 :: c84 :: c85 :: c86 :: c87 :: c88 :: c89 :: c90 :: c91 :: c92 :: c93 :: c94 :: c95 :: c96 :: c97 :: c98 :: c99 :: c100 :: c101 :: c102 :: c103 :: c104 :: c105 :: c106 :: c107 :: c108 :: c109 :: c110 :: (.agg #[.int .u64 t.a, .int .u64 t.b, .int .u64 t.c, .int .u64 t.d, .int .u64 t.e, .int .u64 t.f, .int .u64 t.g, .int .u64 t.h]) :: (.int .i64 8) :: u113 :: u114 :: u115 :: u116 :: u117 :: u118 :: u119 :: u120 :: u121 :: u122 :: c123 :: []).toArray, []⟩ wx) :
    Code.wp Try.prog (Code.loop body2) Q ⟨(c0 :: c1 :: c2 :: (.pointer (some ⟨B, 0, none⟩)) :: c4 :: c5 :: c6 :: c7 :: c8 :: c9 :: c10 :: c11 :: c12 :: c13 :: c14 :: c15 :: c16 :: c17 :: c18 :: c19 :: c20 :: c21 :: c22 :: c23 :: c24 :: c25 :: c26 :: c27 :: c28 :: c29 :: c30 :: c31 :: c32 :: c33 :: c34 :: c35 :: c36 :: c37 :: c38 :: c39 :: c40 :: c41 :: c42 :: c43 :: c44 :: c45 :: c46 :: c47 :: c48 :: c49 :: c50 :: c51 :: c52 :: c53 :: c54 :: c55 :: c56 :: c57 :: c58 :: c59 :: c60 :: c61 :: c62 :: c63 :: c64 :: c65 :: c66 :: c67 :: c68 :: c69 :: c70 :: c71 :: c72 :: c73 :: c74 :: c75 :: c76 :: c77 :: c78 :: c79 :: c80 :: c81 :: c82 :: c83 :: c84 :: c85 :: c86 :: c87 :: c88 :: c89 :: c90 :: c91 :: c92 :: c93 :: c94 :: c95 :: c96 :: c97 :: c98 :: c99 :: c100 :: c101 :: c102 :: c103 :: c104 :: c105 :: c106 :: c107 :: c108 :: c109 :: c110 :: (.agg #[.int .u64 t.a, .int .u64 t.b, .int .u64 t.c, .int .u64 t.d, .int .u64 t.e, .int .u64 t.f, .int .u64 t.g, .int .u64 t.h]) :: (.int .i64 0) :: c113 :: c114 :: c115 :: c116 :: c117 :: c118 :: c119 :: c120 :: c121 :: c122 :: c123 :: []).toArray, []⟩ wr := by
  conv =>
    arg 2
    arg 1
    whnf
  have HRr := Lib.hid hR1
  have HRs := Lib.hid hRs
  have HGw := Lib.hid hB
  clear hR1 hRs hB
  obtain ⟨wo, rfl⟩ : ∃ wo : World, wo = wr := ⟨_, rfl⟩
  go_loopw [19, 20, 112] (fun _ _ i wr => ∃ k : Nat, k ≤ 8 ∧ i = .int .i64 k ∧ wr.heap[B + 1]? = some (.cells (cells s0).toArray 32 (0, 0)) ∧ Row wr B 32 .u64 8 (PTo s t k) ∧ Below B w0 wr) (fun _ _ i _ => 8 - (intOf i).toNat)
  case atStart => exact ⟨0, by omega, rfl, HRr.out, HRs.out, HGw.out⟩
  case round =>
    clear HRr HRs HGw
    obtain ⟨k, hk, rfl, hRr, hRs, hBw⟩ := hrel
    have HRr := Lib.hid hRr
    have HRs := Lib.hid hRs
    have HBw := Lib.hid hBw
    clear hRr hRs hBw
    by_cases hlt : k < 8
    · have ck : wr.cell? ⟨B, k, none⟩ = some (.int .u64 (s.at k)) := by rw [HRs.out.cell k hlt]; unfold PTo; rw [if_neg (by omega)]
      have fr : wr.frozen? ⟨B, k, none⟩ = false := HRs.out.free k
      have hix := idx32 t k hlt
      have hk8 : (k : Int) < 8 := by omega
      have hadd := wadd (s.at k) (t.at k)
      have HRs2 := Lib.hid ((Row.set (w := wr) HRs.out k (add (s.at k) (t.at k))).ext (PTo_step s t k))
      generalize add (s.at k) (t.at k) = q at *
      generalize s.at k = x1 at *
      generalize t.at k = y1 at *
      clear hexit
      go_wp2
      go_roundw
      case rel => exact ⟨k + 1, by omega, by go_num, (heap_setCell_other _ _ _ _ (by simp)).trans HRr.out, HRs2.out, HBw.out.setCell (p := ⟨B, k, none⟩) (Nat.le_refl _) _⟩
      case measure => simp [intOf]; omega
    · obtain rfl : k = 8 := by omega
      have HE := Lib.hid hexit
      have HX := Lib.hid (And.intro HRr.out (And.intro HRs.out HBw.out))
      clear hexit HRs HBw HRr
      rw [show ((8 : Nat) : Int) = (8 : Int) from rfl]
      go_wp2
      exact HE.out _ _ _ _ _ _ _ _ _ _ _ _ _ HX.out
end Go.Proofs.Ytnajglmabgofeaa
