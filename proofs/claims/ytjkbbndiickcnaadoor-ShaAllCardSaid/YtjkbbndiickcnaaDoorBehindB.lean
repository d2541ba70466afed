/- The rounds of behind of package sha: the eight numbers behind 64 of them. -/
import Derived.Test.YtjkbbndiickcnaaDoorBehindA
namespace Go.Proofs.YtjkbbndiickcnaaDoor
open Go.RowKit
set_option linter.unusedVariables false
noncomputable def body1 : Code := ((Tryd.f31.body.map fun c => (loopsOf c).getD 0 .skip)).getD .skip
set_option maxRecDepth 100000 in
set_option maxHeartbeats 4000000 in
theorem loop1_ok (s : St) (l : List UInt8) (g5 m0 : Nat) (W5 : World) (Q : Exit → Act → World → Prop) (c0 c1 c2 c3 c4 c14 c15 c16 c17 c18 c19 c20 c21 c22 c23 c24 c25 c26 c27 c28 c29 c30 c31 c32 c33 c34 c35 c36 c38 c39 c40 c41 c42 c43 c44 c45 c46 c47 c48 c49 c50 c51 c52 c53 c54 c55 c56 c57 c58 c59 c60 c61 c62 c63 c64 c65 c66 c67 c68 c69 c70 c71 c72 c73 c74 c75 c76 c77 c78 c79 c80 c81 c82 c83 c84 c85 c86 c87 c88 c89 c90 c91 c92 c93 c94 c95 c96 c97 c98 c99 c100 c101 c102 c103 c104 c105 c106 c107 c108 c109 c110 c111 c112 c113 c114 c115 c116 c117 c118 c119 c120 : Value) (HS : Hid s.ok) (HGl : Hid (Glob W5)) (HRW : Hid (Row W5 g5 53 .u32 64 (W l)))
    (hexit : ∀ (u14 u15 u16 u39 u40 u41 u42 u43 u44 u45 u46 u47 u48 u49 u50 u51 u52 u53 u54 u55 u56 u57 u58 u59 u60 u61 u62 u63 u64 u65 u66 u67 u68 u69 u70 u71 u72 u73 u74 u75 u76 u77 u78 u79 u80 u81 u82 u83 u84 u85 u86 u87 u88 u89 u90 u91 u92 u93 u94 u95 u96 u97 u98 u99 : Value) (t : St) (m : Nat), Hid (t = rnds l s 64) → Q (.exit 0) ⟨(c0 :: c1 :: c2 :: c3 :: c4 :: (.pointer (some ⟨g5, 0, none⟩)) :: (.int .u32 (t.a)) :: (.int .u32 (t.b)) :: (.int .u32 (t.c)) :: (.int .u32 (t.d)) :: (.int .u32 (t.e)) :: (.int .u32 (t.f)) :: (.int .u32 (t.g)) :: (.int .u32 (t.h)) :: u14 :: u15 :: u16 :: c17 :: c18 :: c19 :: c20 :: c21 :: c22 :: c23 :: c24 :: c25 :: c26 :: c27 :: c28 :: c29 :: c30 :: c31 :: c32 :: c33 :: c34 :: c35 :: c36 :: (.int .i64 64) :: (.bool false) :: u39 :: u40 :: u41 :: u42 :: u43 :: u44 :: u45 :: u46 :: u47 :: u48 :: u49 :: u50 :: u51 :: u52 :: u53 :: u54 :: u55 :: u56 :: u57 :: u58 :: u59 :: u60 :: u61 :: u62 :: u63 :: u64 :: u65 :: u66 :: u67 :: u68 :: u69 :: u70 :: u71 :: u72 :: u73 :: u74 :: u75 :: u76 :: u77 :: u78 :: u79 :: u80 :: u81 :: u82 :: u83 :: u84 :: u85 :: u86 :: u87 :: u88 :: u89 :: u90 :: u91 :: u92 :: u93 :: u94 :: u95 :: u96 :: u97 :: u98 :: u99 :: c100 :: c101 :: c102 :: c103 :: c104 :: c105 :: c106 :: c107 :: c108 :: c109 :: c110 :: c111 :: c112 :: c113 :: c114 :: c115 :: c116 :: c117 :: c118 :: c119 :: c120 :: []).toArray, []⟩ (W5.drewN m)) :
    Code.wp Tryd.prog (Code.loop body1) Q ⟨(c0 :: c1 :: c2 :: c3 :: c4 :: (.pointer (some ⟨g5, 0, none⟩)) :: (.int .u32 s.a) :: (.int .u32 s.b) :: (.int .u32 s.c) :: (.int .u32 s.d) :: (.int .u32 s.e) :: (.int .u32 s.f) :: (.int .u32 s.g) :: (.int .u32 s.h) :: c14 :: c15 :: c16 :: c17 :: c18 :: c19 :: c20 :: c21 :: c22 :: c23 :: c24 :: c25 :: c26 :: c27 :: c28 :: c29 :: c30 :: c31 :: c32 :: c33 :: c34 :: c35 :: c36 :: (.int .i64 0) :: c38 :: c39 :: c40 :: c41 :: c42 :: c43 :: c44 :: c45 :: c46 :: c47 :: c48 :: c49 :: c50 :: c51 :: c52 :: c53 :: c54 :: c55 :: c56 :: c57 :: c58 :: c59 :: c60 :: c61 :: c62 :: c63 :: c64 :: c65 :: c66 :: c67 :: c68 :: c69 :: c70 :: c71 :: c72 :: c73 :: c74 :: c75 :: c76 :: c77 :: c78 :: c79 :: c80 :: c81 :: c82 :: c83 :: c84 :: c85 :: c86 :: c87 :: c88 :: c89 :: c90 :: c91 :: c92 :: c93 :: c94 :: c95 :: c96 :: c97 :: c98 :: c99 :: c100 :: c101 :: c102 :: c103 :: c104 :: c105 :: c106 :: c107 :: c108 :: c109 :: c110 :: c111 :: c112 :: c113 :: c114 :: c115 :: c116 :: c117 :: c118 :: c119 :: c120 :: []).toArray, []⟩ (W5.drewN m0) := by
  conv =>
    arg 2
    arg 1
    whnf
  go_loopw [6, 7, 8, 9, 10, 11, 12, 13, 14, 15, 16, 37] (fun a b c d e f g h i u v k0 wr => ∃ k : Nat, ∃ t : St, k ≤ 64 ∧ k0 = .int .i64 k ∧ a = .int .u32 t.a ∧ b = .int .u32 t.b ∧ c = .int .u32 t.c ∧ d = .int .u32 t.d ∧ e = .int .u32 t.e ∧ f = .int .u32 t.f ∧ g = .int .u32 t.g ∧ h = .int .u32 t.h ∧ Hid (t = rnds l s k) ∧ ∃ m, wr = W5.drewN m) (fun _ _ _ _ _ _ _ _ _ _ _ k _ => 64 - (intOf k).toNat)
  case atStart => exact ⟨0, s, by omega, rfl, rfl, rfl, rfl, rfl, rfl, rfl, rfl, rfl, Lib.hid rfl, _, rfl⟩
  case round =>
    obtain ⟨k, t, hk, rfl, rfl, rfl, rfl, rfl, rfl, rfl, rfl, rfl, ht, m, rfl⟩ := hrel
    obtain ⟨wr, hwr⟩ : ∃ wr, wr = W5.drewN m := ⟨_, rfl⟩
    rw [← hwr]
    by_cases hlt : k < 64
    · clear hexit
      have hk64 : (k : Int) < 64 := by omega
      have cw : wr.cell? ⟨g5, k, none⟩ = some (.int .u32 (W l k)) := by rw [hwr]; exact HRW.out.cell k hlt
      have ck : wr.cell? ⟨0, k, none⟩ = some (.int .u32 (kN k)) := by rw [hwr]; exact HGl.out.consts k hlt
      have HT : Hid t.ok := by unfold Hid; rw [ht.out]; exact rnds_ok l HS.out k
      have r6 := Lib.hid (ror_any t.e 6 6 rfl HT.out.2.2.2.2.1 (by decide) (by decide))
      have r11 := Lib.hid (ror_any t.e 11 11 rfl HT.out.2.2.2.2.1 (by decide) (by decide))
      have r25 := Lib.hid (ror_any t.e 25 25 rfl HT.out.2.2.2.2.1 (by decide) (by decide))
      have r2 := Lib.hid (ror_any t.a 2 2 rfl HT.out.1 (by decide) (by decide))
      have r13 := Lib.hid (ror_any t.a 13 13 rfl HT.out.1 (by decide) (by decide))
      have r22 := Lib.hid (ror_any t.a 22 22 rfl HT.out.1 (by decide) (by decide))
      have HWR := Lib.hid hwr
      clear hwr
      go_wp2
      go_quiet ((first | (go_at_call 34; exact quiet_left (r6.out _)) | (go_at_call 34; exact quiet_left (r11.out _)) | (go_at_call 34; exact quiet_left (r25.out _)) ))
      go_wp2_with (first | (go_at_call 34; (with_reducible refine (r2.out _).mono ?_); rintro e w' ⟨rfl, rfl⟩) | (go_at_call 34; (with_reducible refine (r13.out _).mono ?_); rintro e w' ⟨rfl, rfl⟩) | (go_at_call 34; (with_reducible refine (r22.out _).mono ?_); rintro e w' ⟨rfl, rfl⟩))
      go_roundw
      case rel =>
        refine ⟨k + 1, rnd t (kN k) (W l k), by omega, by go_num, ?_, rfl, rfl, rfl, ?_, rfl, rfl, rfl, ?_, ?_⟩
        · exact congrArg (Value.int IntKind.u32) (add_int1 _ _ 0 _ _ (u_int t HT.out (kN k) (W l k)) (v_int t HT.out))
        · exact congrArg (Value.int IntKind.u32) (add_int2 _ _ _ (u_int t HT.out (kN k) (W l k)))
        · exact Lib.hid (by rw [ht.out]; rfl)
        · rw [HWR.out]
          exact ⟨m + nq, World.drewN_drewN _ _ _⟩
      case measure => simp [intOf]; omega
    · obtain rfl : k = 64 := by omega
      have HE := Lib.hid hexit
      have HWR := Lib.hid hwr
      clear hexit hwr
      rw [show ((64 : Nat) : Int) = (64 : Int) from rfl]
      go_wp2
      rw [HWR.out]
      exact HE.out _ _ _ _ _ _ _ _ _ _ _ _ _ _ _ _ _ _ _ _ _ _ _ _ _ _ _ _ _ _ _ _ _ _ _ _ _ _ _ _ _ _ _ _ _ _ _ _ _ _ _ _ _ _ _ _ _ _ _ _ _ _ _ _ t m ht
end Go.Proofs.YtjkbbndiickcnaaDoor
