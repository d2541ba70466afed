/- Several texts, one behind the other; each says by itself what it proves, and on what conditions. -/
import Derived.Test.YtgbaaiedpiiepaaDoorV18
/- NarRefuses: nodes that are no tree have no packing: the law returns true whatever number comes in. No condition. -/
namespace Go.Proofs.YtgbaaiedpiiepaaDoor
open Go.RowKit Go.Shelf
set_option linter.unusedVariables false
set_option linter.unusedSimpArgs false
theorem nodeLaw_any (p : List UInt8) (k : Int) (w : World) : Calls Tryd.prog 26 #[strV p, .int .i64 k] w fun e w' => e = .returned (.agg #[strV p, .int .i64 k, strV []]) ∧ Below w.heap.size w w' :=
  E.straight [.v (strV p), .int .i64 k] [] [] Tryd.func26 rfl mixed trivial ⟨rfl, rfl, trivial⟩ rfl rfl rfl (ρ0 := fun _ => ⟨0, 0, 0⟩) (ob := []) (x := .s (.agg [.one (.v (strV p)), .one (.v (.int .i64 k)), .one (.v (strV []))])) (by kernel_rfl) trivial (fun _ => rfl)
section
open E
theorem ent26 : Enters Tryd.prog 26 := enters_of Tryd.func26 (by kernel_rfl) rfl
abbrev hNode (p : List UInt8) (k : Int) : Hint := pc 26 #[stv p, .int .i64 k] (.s (.agg [.one (.v (stv p)), .one (.v (.int .i64 k)), .one (.v (stv []))]))
theorem hNode_ok (id : Nat) (p : List UInt8) (k : Int) : HintOk Tryd.prog id (hNode p k) := pc_ok ent26 (v := .agg #[stv p, .int .i64 k, stv []]) (by intro q hq; simp at hq; rcases hq with rfl | rfl | rfl <;> rfl) (fun _ => rfl) fun w => nodeLaw_any p k w
abbrev hMayB (r : Nat) (l : List Nd) (n : Nat) (b : Bool) : Hint := pr 14 (fun ρ => #[(TV.s (.lf (.sl r 0 0 3 n none))).val ρ]) (.v (.bool b)) [(r, rowB (ndsV l) n)]
theorem hMayB_ok (id r n : Nat) (l : List Nd) (b : Bool) (hn : n = l.length) (hb : mayL l = b) (h0 : 0 < l.length) (hl : l.length ≤ 1000000) (hp : ∀ c ∈ l, c.path.length ≤ 1000000) (hd : ∀ c ∈ l, c.data.length ≤ 1000000) : HintOk Tryd.prog id (hMayB r l n b) := by
  subst hn
  refine pr_ok ent14 (v := .bool b) rfl (fun _ => rfl) fun ρ w h => ?_
  rw [← hb]
  exact pmay_v _ l hl hp hd w (built_ndv (h (r, rowB (ndsV l) l.length) (by simp)) h0)
abbrev hAwake : Hint := pc 11 #[] (.v (.bool true))
theorem hAwake_ok (id : Nat) : HintOk Tryd.prog id hAwake := pc_ok ent11 (v := .bool true) rfl (fun _ => rfl) fun w => awake_ok w
theorem nil_ndv (w : World) : NdV w (.slice none 0 0) [] := ⟨none, 0, rfl, Nat.le_refl _, by omega, fun h => absurd h (Nat.lt_irrefl _)⟩
theorem pack_bad {l : List Nd} (h : mayL l = false) : packS l = [] ∧ packE l = 1 := by
  unfold packS packE; rw [h]; exact ⟨rfl, rfl⟩
abbrev bad1 : List Nd := [⟨[97], 1, []⟩]
abbrev bad2 : List Nd := [⟨[], 1, []⟩, ⟨[97], 1, []⟩]
abbrev bad3 : List Nd := [⟨[], 4, []⟩, ⟨[98], 1, []⟩, ⟨[97], 1, []⟩]
abbrev bad4 : List Nd := [⟨[], 4, []⟩, ⟨[97], 1, []⟩, ⟨[97], 1, []⟩]
abbrev bad5 : List Nd := [⟨[], 4, []⟩, ⟨[97, 47, 98], 1, []⟩]
abbrev bad6 : List Nd := [⟨[], 4, []⟩, ⟨[97], 1, []⟩, ⟨[97, 47, 98], 1, []⟩]
abbrev bad7 : List Nd := [⟨[], 4, []⟩, ⟨[46, 46], 1, []⟩]
abbrev bad8 : List Nd := [⟨[], 4, []⟩, ⟨[97], 3, []⟩]
abbrev bad9 : List Nd := [⟨[], 4, [120]⟩]
abbrev bad10 : List Nd := [⟨[], 5, []⟩]
abbrev bad11 : List Nd := [⟨[], 4, []⟩, ⟨[97], 4, []⟩, ⟨[98], 4, []⟩, ⟨[97, 47, 99], 1, []⟩]
abbrev bad12 : List Nd := [⟨[], 4, []⟩, ⟨[97, 0], 1, []⟩]
abbrev bad13 : List Nd := [⟨[], 3, [0]⟩]
abbrev bad14 : List Nd := [⟨[], 4, []⟩, ⟨[], 1, []⟩]
abbrev bad15 : List Nd := [⟨[], 4, []⟩, ⟨[47, 97], 1, []⟩]
theorem bad1_no : mayL bad1 = false := by decide +kernel
theorem bad2_no : mayL bad2 = false := by decide +kernel
theorem bad3_no : mayL bad3 = false := by decide +kernel
theorem bad4_no : mayL bad4 = false := by decide +kernel
theorem bad5_no : mayL bad5 = false := by decide +kernel
theorem bad6_no : mayL bad6 = false := by decide +kernel
theorem bad7_no : mayL bad7 = false := by decide +kernel
theorem bad8_no : mayL bad8 = false := by decide +kernel
theorem bad9_no : mayL bad9 = false := by decide +kernel
theorem bad10_no : mayL bad10 = false := by decide +kernel
theorem bad11_no : mayL bad11 = false := by decide +kernel
theorem bad12_no : mayL bad12 = false := by decide +kernel
theorem bad13_no : mayL bad13 = false := by decide +kernel
theorem bad14_no : mayL bad14 = false := by decide +kernel
theorem bad15_no : mayL bad15 = false := by decide +kernel
abbrev csN : List (Nat × Hint) := [(4003, hNode [97] 1), (4006, hNode [98] 1), (4007, hNode [97] 1), (4010, hNode [97] 1), (4011, hNode [97] 1), (4014, hNode [97, 47, 98] 1), (4017, hNode [97] 1), (4018, hNode [97, 47, 98] 1), (4021, hNode [46, 46] 1), (4024, hNode [97] 3), (4031, hNode [97] 4), (4032, hNode [98] 4), (4033, hNode [97, 47, 99] 1), (4036, hNode [97, 0] 1), (4041, hNode [] 1), (4044, hNode [47, 97] 1)]
theorem csN_ok : allC Tryd.prog csN := ⟨hNode_ok _ _ _, hNode_ok _ _ _, hNode_ok _ _ _, hNode_ok _ _ _, hNode_ok _ _ _, hNode_ok _ _ _, hNode_ok _ _ _, hNode_ok _ _ _, hNode_ok _ _ _, hNode_ok _ _ _, hNode_ok _ _ _, hNode_ok _ _ _, hNode_ok _ _ _, hNode_ok _ _ _, hNode_ok _ _ _, hNode_ok _ _ _, trivial⟩
theorem csN_ok2 : allC Tryd.prog (csN ++ [(2005005, .val (.tup []))]) := ⟨hNode_ok _ _ _, hNode_ok _ _ _, hNode_ok _ _ _, hNode_ok _ _ _, hNode_ok _ _ _, hNode_ok _ _ _, hNode_ok _ _ _, hNode_ok _ _ _, hNode_ok _ _ _, hNode_ok _ _ _, hNode_ok _ _ _, hNode_ok _ _ _, hNode_ok _ _ _, hNode_ok _ _ _, hNode_ok _ _ _, hNode_ok _ _ _, trivial, trivial⟩
abbrev rowsN : List (Nat × Row) := [(4001, rowB (ndsV bad1) 1), (4004, rowB (ndsV bad2) 2), (4008, rowB (ndsV bad3) 3), (4012, rowB (ndsV bad4) 3), (4015, rowB (ndsV bad5) 2), (4019, rowB (ndsV bad6) 3), (4022, rowB (ndsV bad7) 2), (4025, rowB (ndsV bad8) 2), (4027, rowB (ndsV bad9) 1), (4029, rowB (ndsV bad10) 1), (4034, rowB (ndsV bad11) 4), (4037, rowB (ndsV bad12) 2), (4039, rowB (ndsV bad13) 1), (4042, rowB (ndsV bad14) 2), (4045, rowB (ndsV bad15) 2), (4046, ⟨[.one (.v (.slice none 0 0)), .one (.sl 4001 0 0 3 1 none), .one (.sl 4004 0 0 3 2 none), .one (.sl 4008 0 0 3 3 none), .one (.sl 4012 0 0 3 3 none), .one (.sl 4015 0 0 3 2 none), .one (.sl 4019 0 0 3 3 none), .one (.sl 4022 0 0 3 2 none), .one (.sl 4025 0 0 3 2 none), .one (.sl 4027 0 0 3 1 none), .one (.sl 4029 0 0 3 1 none), .one (.sl 4034 0 0 3 4 none), .one (.sl 4037 0 0 3 2 none), .one (.sl 4039 0 0 3 1 none), .one (.sl 4042 0 0 3 2 none), .one (.sl 4045 0 0 3 2 none)], true, none⟩)]
abbrev tmN (n : Nat) : List (Nat × TV) := [(0, .int .u8 n), (5, .s (.lf (.sl 4046 0 0 1 16 (some 16))))]
set_option maxRecDepth 100000 in
set_option maxHeartbeats 2000000 in
theorem refuses_any (n : Nat) (hn : n < 256) (w : World) : Calls Tryd.prog 6 #[.int .u8 (n : Int)] w fun e w' => e = .returned (.bool true) ∧ Below w.heap.size w w' := by
  refine At.calls (args := [.int .u8 n]) (rows := []) (gl := []) (wr := []) (ρ := fun _ => ⟨0, 0, 0⟩) Tryd.func6 rfl rfl (init_pure ⟨rfl, trivial⟩ rfl) rfl ?_
  refine At.run rfl (csN ++ [(2005005, .val (.tup []))]) csN_ok2 [] (tm2 := tmN n) (rows2 := rowsN) (ob := csN.flatMap fun p => qL p.2) (td := rp Tryd.f6 4) (by kernel_rfl) ?_ rfl rfl (by intro h; cases h) ?_
  · exact ⟨fun _ => rfl, fun _ => rfl, fun _ => rfl, fun _ => rfl, fun _ => rfl, fun _ => rfl, fun _ => rfl, fun _ => rfl, fun _ => rfl, fun _ => rfl, fun _ => rfl, fun _ => rfl, fun _ => rfl, fun _ => rfl, fun _ => rfl, fun _ => rfl, trivial⟩
  · have hk : ∃ k : Nat, k < 16 ∧ (n : Int) % 16 = k := ⟨n % 16, by omega, by omega⟩
    obtain ⟨k, hk, hkn⟩ := hk
    have hwr : IntKind.i64.wrap (n : Int) = (n : Int) := by rw [IntKind.wrap_i64]; omega
    have hcase : k = 0 ∨ k = 1 ∨ k = 2 ∨ k = 3 ∨ k = 4 ∨ k = 5 ∨ k = 6 ∨ k = 7 ∨ k = 8 ∨ k = 9 ∨ k = 10 ∨ k = 11 ∨ k = 12 ∨ k = 13 ∨ k = 14 ∨ k = 15 := by omega
    rcases hcase with rfl | rfl | rfl | rfl | rfl | rfl | rfl | rfl | rfl | rfl | rfl | rfl | rfl | rfl | rfl | rfl
    · refine At.fin rfl [(2005005, .val (.int .i64 0)), (6001, pc 12 #[.slice none 0 0] (.tup [.lf (.v (stv [])), .lf (.v (.int .i64 1))])), (7001, pc 14 #[.slice none 0 0] (.v (.bool false))), (7009, hErr 1), (7013, hAwake)] ⟨trivial, pc_ok ent12 (v := .tuple #[stv [], .int .i64 1]) (ok2 rfl rfl) (fun _ => rfl) (fun w => ppack_any _ [] (by decide) (by decide) (by decide) w (nil_ndv w)), pc_ok ent14 (v := .bool false) rfl (fun _ => rfl) (fun w => pmay_v _ [] (by decide) (by decide) (by decide) w (nil_ndv w)), hErr_ok _ _, hAwake_ok _, trivial⟩ [] (x := .v (.bool true)) (ob := [IntKind.i64.wrap (n : Int) = (n : Int), TV.int .i64 ((n : Int) % ((16 : Nat) : Int)) = TV.int .i64 0, 0 ≤ (n : Int) ∧ (0 : Int) < ((16 : Nat) : Int), 0 ≤ (0 : Int) ∧ (0 : Int) < ((16 : Nat) : Int)] ++ [∀ ρ : Env, #[Value.slice none 0 0] = #[.slice none 0 0]] ++ [∀ ρ : Env, #[Value.slice none 0 0] = #[.slice none 0 0]] ++ qL (hErr 1) ++ qL hAwake) (by kernel_rfl) ?_ fun ρ w' hf _ => ⟨rfl, hf.below⟩
      exact all_append.2 ⟨all_append.2 ⟨all_append.2 ⟨all_append.2 ⟨⟨hwr, by rw [show (n : Int) % ((16 : Nat) : Int) = 0 from hkn], by omega, by omega, trivial⟩, ⟨fun _ => rfl, trivial⟩⟩, ⟨fun _ => rfl, trivial⟩⟩, all_qL _⟩, all_qL _⟩
    · refine At.fin rfl [(2005005, .val (.int .i64 1)), (6001, hPackB 4001 bad1 1 [] 1), (7001, hMayB 4001 bad1 1 false), (7009, hErr 1), (7013, hAwake)] ⟨trivial, hPackB_ok _ _ _ bad1 _ _ rfl (pack_bad bad1_no).1 (pack_bad bad1_no).2 (by decide) (by decide) (by decide) (by decide), hMayB_ok _ _ _ bad1 _ rfl bad1_no (by decide) (by decide) (by decide) (by decide), hErr_ok _ _, hAwake_ok _, trivial⟩ [] (x := .v (.bool true)) (ob := [IntKind.i64.wrap (n : Int) = (n : Int), TV.int .i64 ((n : Int) % ((16 : Nat) : Int)) = TV.int .i64 1, 0 ≤ (n : Int) ∧ (0 : Int) < ((16 : Nat) : Int), 0 ≤ (1 : Int) ∧ (1 : Int) < ((16 : Nat) : Int)] ++ qL (hPackB 4001 bad1 1 [] 1) ++ qL (hMayB 4001 bad1 1 false) ++ qL (hErr 1) ++ qL hAwake) (by kernel_rfl) ?_ fun ρ w' hf _ => ⟨rfl, hf.below⟩
      exact all_append.2 ⟨all_append.2 ⟨all_append.2 ⟨all_append.2 ⟨⟨hwr, by rw [show (n : Int) % ((16 : Nat) : Int) = 1 from hkn], by omega, by omega, trivial⟩, all_qL _⟩, all_qL _⟩, all_qL _⟩, all_qL _⟩
    · refine At.fin rfl [(2005005, .val (.int .i64 2)), (6001, hPackB 4004 bad2 2 [] 1), (7001, hMayB 4004 bad2 2 false), (7009, hErr 1), (7013, hAwake)] ⟨trivial, hPackB_ok _ _ _ bad2 _ _ rfl (pack_bad bad2_no).1 (pack_bad bad2_no).2 (by decide) (by decide) (by decide) (by decide), hMayB_ok _ _ _ bad2 _ rfl bad2_no (by decide) (by decide) (by decide) (by decide), hErr_ok _ _, hAwake_ok _, trivial⟩ [] (x := .v (.bool true)) (ob := [IntKind.i64.wrap (n : Int) = (n : Int), TV.int .i64 ((n : Int) % ((16 : Nat) : Int)) = TV.int .i64 2, 0 ≤ (n : Int) ∧ (0 : Int) < ((16 : Nat) : Int), 0 ≤ (2 : Int) ∧ (2 : Int) < ((16 : Nat) : Int)] ++ qL (hPackB 4004 bad2 2 [] 1) ++ qL (hMayB 4004 bad2 2 false) ++ qL (hErr 1) ++ qL hAwake) (by kernel_rfl) ?_ fun ρ w' hf _ => ⟨rfl, hf.below⟩
      exact all_append.2 ⟨all_append.2 ⟨all_append.2 ⟨all_append.2 ⟨⟨hwr, by rw [show (n : Int) % ((16 : Nat) : Int) = 2 from hkn], by omega, by omega, trivial⟩, all_qL _⟩, all_qL _⟩, all_qL _⟩, all_qL _⟩
    · refine At.fin rfl [(2005005, .val (.int .i64 3)), (6001, hPackB 4008 bad3 3 [] 1), (7001, hMayB 4008 bad3 3 false), (7009, hErr 1), (7013, hAwake)] ⟨trivial, hPackB_ok _ _ _ bad3 _ _ rfl (pack_bad bad3_no).1 (pack_bad bad3_no).2 (by decide) (by decide) (by decide) (by decide), hMayB_ok _ _ _ bad3 _ rfl bad3_no (by decide) (by decide) (by decide) (by decide), hErr_ok _ _, hAwake_ok _, trivial⟩ [] (x := .v (.bool true)) (ob := [IntKind.i64.wrap (n : Int) = (n : Int), TV.int .i64 ((n : Int) % ((16 : Nat) : Int)) = TV.int .i64 3, 0 ≤ (n : Int) ∧ (0 : Int) < ((16 : Nat) : Int), 0 ≤ (3 : Int) ∧ (3 : Int) < ((16 : Nat) : Int)] ++ qL (hPackB 4008 bad3 3 [] 1) ++ qL (hMayB 4008 bad3 3 false) ++ qL (hErr 1) ++ qL hAwake) (by kernel_rfl) ?_ fun ρ w' hf _ => ⟨rfl, hf.below⟩
      exact all_append.2 ⟨all_append.2 ⟨all_append.2 ⟨all_append.2 ⟨⟨hwr, by rw [show (n : Int) % ((16 : Nat) : Int) = 3 from hkn], by omega, by omega, trivial⟩, all_qL _⟩, all_qL _⟩, all_qL _⟩, all_qL _⟩
    · refine At.fin rfl [(2005005, .val (.int .i64 4)), (6001, hPackB 4012 bad4 3 [] 1), (7001, hMayB 4012 bad4 3 false), (7009, hErr 1), (7013, hAwake)] ⟨trivial, hPackB_ok _ _ _ bad4 _ _ rfl (pack_bad bad4_no).1 (pack_bad bad4_no).2 (by decide) (by decide) (by decide) (by decide), hMayB_ok _ _ _ bad4 _ rfl bad4_no (by decide) (by decide) (by decide) (by decide), hErr_ok _ _, hAwake_ok _, trivial⟩ [] (x := .v (.bool true)) (ob := [IntKind.i64.wrap (n : Int) = (n : Int), TV.int .i64 ((n : Int) % ((16 : Nat) : Int)) = TV.int .i64 4, 0 ≤ (n : Int) ∧ (0 : Int) < ((16 : Nat) : Int), 0 ≤ (4 : Int) ∧ (4 : Int) < ((16 : Nat) : Int)] ++ qL (hPackB 4012 bad4 3 [] 1) ++ qL (hMayB 4012 bad4 3 false) ++ qL (hErr 1) ++ qL hAwake) (by kernel_rfl) ?_ fun ρ w' hf _ => ⟨rfl, hf.below⟩
      exact all_append.2 ⟨all_append.2 ⟨all_append.2 ⟨all_append.2 ⟨⟨hwr, by rw [show (n : Int) % ((16 : Nat) : Int) = 4 from hkn], by omega, by omega, trivial⟩, all_qL _⟩, all_qL _⟩, all_qL _⟩, all_qL _⟩
    · refine At.fin rfl [(2005005, .val (.int .i64 5)), (6001, hPackB 4015 bad5 2 [] 1), (7001, hMayB 4015 bad5 2 false), (7009, hErr 1), (7013, hAwake)] ⟨trivial, hPackB_ok _ _ _ bad5 _ _ rfl (pack_bad bad5_no).1 (pack_bad bad5_no).2 (by decide) (by decide) (by decide) (by decide), hMayB_ok _ _ _ bad5 _ rfl bad5_no (by decide) (by decide) (by decide) (by decide), hErr_ok _ _, hAwake_ok _, trivial⟩ [] (x := .v (.bool true)) (ob := [IntKind.i64.wrap (n : Int) = (n : Int), TV.int .i64 ((n : Int) % ((16 : Nat) : Int)) = TV.int .i64 5, 0 ≤ (n : Int) ∧ (0 : Int) < ((16 : Nat) : Int), 0 ≤ (5 : Int) ∧ (5 : Int) < ((16 : Nat) : Int)] ++ qL (hPackB 4015 bad5 2 [] 1) ++ qL (hMayB 4015 bad5 2 false) ++ qL (hErr 1) ++ qL hAwake) (by kernel_rfl) ?_ fun ρ w' hf _ => ⟨rfl, hf.below⟩
      exact all_append.2 ⟨all_append.2 ⟨all_append.2 ⟨all_append.2 ⟨⟨hwr, by rw [show (n : Int) % ((16 : Nat) : Int) = 5 from hkn], by omega, by omega, trivial⟩, all_qL _⟩, all_qL _⟩, all_qL _⟩, all_qL _⟩
    · refine At.fin rfl [(2005005, .val (.int .i64 6)), (6001, hPackB 4019 bad6 3 [] 1), (7001, hMayB 4019 bad6 3 false), (7009, hErr 1), (7013, hAwake)] ⟨trivial, hPackB_ok _ _ _ bad6 _ _ rfl (pack_bad bad6_no).1 (pack_bad bad6_no).2 (by decide) (by decide) (by decide) (by decide), hMayB_ok _ _ _ bad6 _ rfl bad6_no (by decide) (by decide) (by decide) (by decide), hErr_ok _ _, hAwake_ok _, trivial⟩ [] (x := .v (.bool true)) (ob := [IntKind.i64.wrap (n : Int) = (n : Int), TV.int .i64 ((n : Int) % ((16 : Nat) : Int)) = TV.int .i64 6, 0 ≤ (n : Int) ∧ (0 : Int) < ((16 : Nat) : Int), 0 ≤ (6 : Int) ∧ (6 : Int) < ((16 : Nat) : Int)] ++ qL (hPackB 4019 bad6 3 [] 1) ++ qL (hMayB 4019 bad6 3 false) ++ qL (hErr 1) ++ qL hAwake) (by kernel_rfl) ?_ fun ρ w' hf _ => ⟨rfl, hf.below⟩
      exact all_append.2 ⟨all_append.2 ⟨all_append.2 ⟨all_append.2 ⟨⟨hwr, by rw [show (n : Int) % ((16 : Nat) : Int) = 6 from hkn], by omega, by omega, trivial⟩, all_qL _⟩, all_qL _⟩, all_qL _⟩, all_qL _⟩
    · refine At.fin rfl [(2005005, .val (.int .i64 7)), (6001, hPackB 4022 bad7 2 [] 1), (7001, hMayB 4022 bad7 2 false), (7009, hErr 1), (7013, hAwake)] ⟨trivial, hPackB_ok _ _ _ bad7 _ _ rfl (pack_bad bad7_no).1 (pack_bad bad7_no).2 (by decide) (by decide) (by decide) (by decide), hMayB_ok _ _ _ bad7 _ rfl bad7_no (by decide) (by decide) (by decide) (by decide), hErr_ok _ _, hAwake_ok _, trivial⟩ [] (x := .v (.bool true)) (ob := [IntKind.i64.wrap (n : Int) = (n : Int), TV.int .i64 ((n : Int) % ((16 : Nat) : Int)) = TV.int .i64 7, 0 ≤ (n : Int) ∧ (0 : Int) < ((16 : Nat) : Int), 0 ≤ (7 : Int) ∧ (7 : Int) < ((16 : Nat) : Int)] ++ qL (hPackB 4022 bad7 2 [] 1) ++ qL (hMayB 4022 bad7 2 false) ++ qL (hErr 1) ++ qL hAwake) (by kernel_rfl) ?_ fun ρ w' hf _ => ⟨rfl, hf.below⟩
      exact all_append.2 ⟨all_append.2 ⟨all_append.2 ⟨all_append.2 ⟨⟨hwr, by rw [show (n : Int) % ((16 : Nat) : Int) = 7 from hkn], by omega, by omega, trivial⟩, all_qL _⟩, all_qL _⟩, all_qL _⟩, all_qL _⟩
    · refine At.fin rfl [(2005005, .val (.int .i64 8)), (6001, hPackB 4025 bad8 2 [] 1), (7001, hMayB 4025 bad8 2 false), (7009, hErr 1), (7013, hAwake)] ⟨trivial, hPackB_ok _ _ _ bad8 _ _ rfl (pack_bad bad8_no).1 (pack_bad bad8_no).2 (by decide) (by decide) (by decide) (by decide), hMayB_ok _ _ _ bad8 _ rfl bad8_no (by decide) (by decide) (by decide) (by decide), hErr_ok _ _, hAwake_ok _, trivial⟩ [] (x := .v (.bool true)) (ob := [IntKind.i64.wrap (n : Int) = (n : Int), TV.int .i64 ((n : Int) % ((16 : Nat) : Int)) = TV.int .i64 8, 0 ≤ (n : Int) ∧ (0 : Int) < ((16 : Nat) : Int), 0 ≤ (8 : Int) ∧ (8 : Int) < ((16 : Nat) : Int)] ++ qL (hPackB 4025 bad8 2 [] 1) ++ qL (hMayB 4025 bad8 2 false) ++ qL (hErr 1) ++ qL hAwake) (by kernel_rfl) ?_ fun ρ w' hf _ => ⟨rfl, hf.below⟩
      exact all_append.2 ⟨all_append.2 ⟨all_append.2 ⟨all_append.2 ⟨⟨hwr, by rw [show (n : Int) % ((16 : Nat) : Int) = 8 from hkn], by omega, by omega, trivial⟩, all_qL _⟩, all_qL _⟩, all_qL _⟩, all_qL _⟩
    · refine At.fin rfl [(2005005, .val (.int .i64 9)), (6001, hPackB 4027 bad9 1 [] 1), (7001, hMayB 4027 bad9 1 false), (7009, hErr 1), (7013, hAwake)] ⟨trivial, hPackB_ok _ _ _ bad9 _ _ rfl (pack_bad bad9_no).1 (pack_bad bad9_no).2 (by decide) (by decide) (by decide) (by decide), hMayB_ok _ _ _ bad9 _ rfl bad9_no (by decide) (by decide) (by decide) (by decide), hErr_ok _ _, hAwake_ok _, trivial⟩ [] (x := .v (.bool true)) (ob := [IntKind.i64.wrap (n : Int) = (n : Int), TV.int .i64 ((n : Int) % ((16 : Nat) : Int)) = TV.int .i64 9, 0 ≤ (n : Int) ∧ (0 : Int) < ((16 : Nat) : Int), 0 ≤ (9 : Int) ∧ (9 : Int) < ((16 : Nat) : Int)] ++ qL (hPackB 4027 bad9 1 [] 1) ++ qL (hMayB 4027 bad9 1 false) ++ qL (hErr 1) ++ qL hAwake) (by kernel_rfl) ?_ fun ρ w' hf _ => ⟨rfl, hf.below⟩
      exact all_append.2 ⟨all_append.2 ⟨all_append.2 ⟨all_append.2 ⟨⟨hwr, by rw [show (n : Int) % ((16 : Nat) : Int) = 9 from hkn], by omega, by omega, trivial⟩, all_qL _⟩, all_qL _⟩, all_qL _⟩, all_qL _⟩
    · refine At.fin rfl [(2005005, .val (.int .i64 10)), (6001, hPackB 4029 bad10 1 [] 1), (7001, hMayB 4029 bad10 1 false), (7009, hErr 1), (7013, hAwake)] ⟨trivial, hPackB_ok _ _ _ bad10 _ _ rfl (pack_bad bad10_no).1 (pack_bad bad10_no).2 (by decide) (by decide) (by decide) (by decide), hMayB_ok _ _ _ bad10 _ rfl bad10_no (by decide) (by decide) (by decide) (by decide), hErr_ok _ _, hAwake_ok _, trivial⟩ [] (x := .v (.bool true)) (ob := [IntKind.i64.wrap (n : Int) = (n : Int), TV.int .i64 ((n : Int) % ((16 : Nat) : Int)) = TV.int .i64 10, 0 ≤ (n : Int) ∧ (0 : Int) < ((16 : Nat) : Int), 0 ≤ (10 : Int) ∧ (10 : Int) < ((16 : Nat) : Int)] ++ qL (hPackB 4029 bad10 1 [] 1) ++ qL (hMayB 4029 bad10 1 false) ++ qL (hErr 1) ++ qL hAwake) (by kernel_rfl) ?_ fun ρ w' hf _ => ⟨rfl, hf.below⟩
      exact all_append.2 ⟨all_append.2 ⟨all_append.2 ⟨all_append.2 ⟨⟨hwr, by rw [show (n : Int) % ((16 : Nat) : Int) = 10 from hkn], by omega, by omega, trivial⟩, all_qL _⟩, all_qL _⟩, all_qL _⟩, all_qL _⟩
    · refine At.fin rfl [(2005005, .val (.int .i64 11)), (6001, hPackB 4034 bad11 4 [] 1), (7001, hMayB 4034 bad11 4 false), (7009, hErr 1), (7013, hAwake)] ⟨trivial, hPackB_ok _ _ _ bad11 _ _ rfl (pack_bad bad11_no).1 (pack_bad bad11_no).2 (by decide) (by decide) (by decide) (by decide), hMayB_ok _ _ _ bad11 _ rfl bad11_no (by decide) (by decide) (by decide) (by decide), hErr_ok _ _, hAwake_ok _, trivial⟩ [] (x := .v (.bool true)) (ob := [IntKind.i64.wrap (n : Int) = (n : Int), TV.int .i64 ((n : Int) % ((16 : Nat) : Int)) = TV.int .i64 11, 0 ≤ (n : Int) ∧ (0 : Int) < ((16 : Nat) : Int), 0 ≤ (11 : Int) ∧ (11 : Int) < ((16 : Nat) : Int)] ++ qL (hPackB 4034 bad11 4 [] 1) ++ qL (hMayB 4034 bad11 4 false) ++ qL (hErr 1) ++ qL hAwake) (by kernel_rfl) ?_ fun ρ w' hf _ => ⟨rfl, hf.below⟩
      exact all_append.2 ⟨all_append.2 ⟨all_append.2 ⟨all_append.2 ⟨⟨hwr, by rw [show (n : Int) % ((16 : Nat) : Int) = 11 from hkn], by omega, by omega, trivial⟩, all_qL _⟩, all_qL _⟩, all_qL _⟩, all_qL _⟩
    · refine At.fin rfl [(2005005, .val (.int .i64 12)), (6001, hPackB 4037 bad12 2 [] 1), (7001, hMayB 4037 bad12 2 false), (7009, hErr 1), (7013, hAwake)] ⟨trivial, hPackB_ok _ _ _ bad12 _ _ rfl (pack_bad bad12_no).1 (pack_bad bad12_no).2 (by decide) (by decide) (by decide) (by decide), hMayB_ok _ _ _ bad12 _ rfl bad12_no (by decide) (by decide) (by decide) (by decide), hErr_ok _ _, hAwake_ok _, trivial⟩ [] (x := .v (.bool true)) (ob := [IntKind.i64.wrap (n : Int) = (n : Int), TV.int .i64 ((n : Int) % ((16 : Nat) : Int)) = TV.int .i64 12, 0 ≤ (n : Int) ∧ (0 : Int) < ((16 : Nat) : Int), 0 ≤ (12 : Int) ∧ (12 : Int) < ((16 : Nat) : Int)] ++ qL (hPackB 4037 bad12 2 [] 1) ++ qL (hMayB 4037 bad12 2 false) ++ qL (hErr 1) ++ qL hAwake) (by kernel_rfl) ?_ fun ρ w' hf _ => ⟨rfl, hf.below⟩
      exact all_append.2 ⟨all_append.2 ⟨all_append.2 ⟨all_append.2 ⟨⟨hwr, by rw [show (n : Int) % ((16 : Nat) : Int) = 12 from hkn], by omega, by omega, trivial⟩, all_qL _⟩, all_qL _⟩, all_qL _⟩, all_qL _⟩
    · refine At.fin rfl [(2005005, .val (.int .i64 13)), (6001, hPackB 4039 bad13 1 [] 1), (7001, hMayB 4039 bad13 1 false), (7009, hErr 1), (7013, hAwake)] ⟨trivial, hPackB_ok _ _ _ bad13 _ _ rfl (pack_bad bad13_no).1 (pack_bad bad13_no).2 (by decide) (by decide) (by decide) (by decide), hMayB_ok _ _ _ bad13 _ rfl bad13_no (by decide) (by decide) (by decide) (by decide), hErr_ok _ _, hAwake_ok _, trivial⟩ [] (x := .v (.bool true)) (ob := [IntKind.i64.wrap (n : Int) = (n : Int), TV.int .i64 ((n : Int) % ((16 : Nat) : Int)) = TV.int .i64 13, 0 ≤ (n : Int) ∧ (0 : Int) < ((16 : Nat) : Int), 0 ≤ (13 : Int) ∧ (13 : Int) < ((16 : Nat) : Int)] ++ qL (hPackB 4039 bad13 1 [] 1) ++ qL (hMayB 4039 bad13 1 false) ++ qL (hErr 1) ++ qL hAwake) (by kernel_rfl) ?_ fun ρ w' hf _ => ⟨rfl, hf.below⟩
      exact all_append.2 ⟨all_append.2 ⟨all_append.2 ⟨all_append.2 ⟨⟨hwr, by rw [show (n : Int) % ((16 : Nat) : Int) = 13 from hkn], by omega, by omega, trivial⟩, all_qL _⟩, all_qL _⟩, all_qL _⟩, all_qL _⟩
    · refine At.fin rfl [(2005005, .val (.int .i64 14)), (6001, hPackB 4042 bad14 2 [] 1), (7001, hMayB 4042 bad14 2 false), (7009, hErr 1), (7013, hAwake)] ⟨trivial, hPackB_ok _ _ _ bad14 _ _ rfl (pack_bad bad14_no).1 (pack_bad bad14_no).2 (by decide) (by decide) (by decide) (by decide), hMayB_ok _ _ _ bad14 _ rfl bad14_no (by decide) (by decide) (by decide) (by decide), hErr_ok _ _, hAwake_ok _, trivial⟩ [] (x := .v (.bool true)) (ob := [IntKind.i64.wrap (n : Int) = (n : Int), TV.int .i64 ((n : Int) % ((16 : Nat) : Int)) = TV.int .i64 14, 0 ≤ (n : Int) ∧ (0 : Int) < ((16 : Nat) : Int), 0 ≤ (14 : Int) ∧ (14 : Int) < ((16 : Nat) : Int)] ++ qL (hPackB 4042 bad14 2 [] 1) ++ qL (hMayB 4042 bad14 2 false) ++ qL (hErr 1) ++ qL hAwake) (by kernel_rfl) ?_ fun ρ w' hf _ => ⟨rfl, hf.below⟩
      exact all_append.2 ⟨all_append.2 ⟨all_append.2 ⟨all_append.2 ⟨⟨hwr, by rw [show (n : Int) % ((16 : Nat) : Int) = 14 from hkn], by omega, by omega, trivial⟩, all_qL _⟩, all_qL _⟩, all_qL _⟩, all_qL _⟩
    · refine At.fin rfl [(2005005, .val (.int .i64 15)), (6001, hPackB 4045 bad15 2 [] 1), (7001, hMayB 4045 bad15 2 false), (7009, hErr 1), (7013, hAwake)] ⟨trivial, hPackB_ok _ _ _ bad15 _ _ rfl (pack_bad bad15_no).1 (pack_bad bad15_no).2 (by decide) (by decide) (by decide) (by decide), hMayB_ok _ _ _ bad15 _ rfl bad15_no (by decide) (by decide) (by decide) (by decide), hErr_ok _ _, hAwake_ok _, trivial⟩ [] (x := .v (.bool true)) (ob := [IntKind.i64.wrap (n : Int) = (n : Int), TV.int .i64 ((n : Int) % ((16 : Nat) : Int)) = TV.int .i64 15, 0 ≤ (n : Int) ∧ (0 : Int) < ((16 : Nat) : Int), 0 ≤ (15 : Int) ∧ (15 : Int) < ((16 : Nat) : Int)] ++ qL (hPackB 4045 bad15 2 [] 1) ++ qL (hMayB 4045 bad15 2 false) ++ qL (hErr 1) ++ qL hAwake) (by kernel_rfl) ?_ fun ρ w' hf _ => ⟨rfl, hf.below⟩
      exact all_append.2 ⟨all_append.2 ⟨all_append.2 ⟨all_append.2 ⟨⟨hwr, by rw [show (n : Int) % ((16 : Nat) : Int) = 15 from hkn], by omega, by omega, trivial⟩, all_qL _⟩, all_qL _⟩, all_qL _⟩, all_qL _⟩
end
end Go.Proofs.YtgbaaiedpiiepaaDoor
/- The engine: a slice's capacity, where a row tells it, as a letter; lists of duties. No condition of its own. -/
namespace Go.Proofs.YtgbaaiedpiiepaaDoor.E
set_option linter.unusedSimpArgs false
open Go Go.RowKit
set_option linter.unusedVariables false
def allL : List (List Prop) → Prop
  | [] => True
  | l :: m => all l ∧ allL m
theorem all_flat : ∀ {ls : List (List Prop)}, allL ls → all ls.flatten
  | [], _ => trivial
  | _ :: _, h => by rw [List.flatten_cons]; exact all_append.2 ⟨h.1, all_flat h.2⟩
theorem findT_swap {t u : Nat} {x y z : TV} {post : List (Nat × TV)} : ∀ {pre : List (Nat × TV)}, findT (pre ++ (t, y) :: post) u = some z → findT (pre ++ (t, x) :: post) u = some z ∨ (z = y ∧ findT (pre ++ (t, x) :: post) u = some x)
  | [], h => by
    have h2 : (bif Nat.beq t u then some y else findT post u) = some z := h
    show (bif Nat.beq t u then some x else findT post u) = some z ∨ (z = y ∧ (bif Nat.beq t u then some x else findT post u) = some x)
    cases hb : Nat.beq t u with
    | true => rw [hb] at h2; exact .inr ⟨(Option.some.inj h2).symm, rfl⟩
    | false => rw [hb] at h2; exact .inl h2
  | p :: pre, h => by
    have h2 : (bif Nat.beq p.1 u then some p.2 else findT (pre ++ (t, y) :: post) u) = some z := h
    show (bif Nat.beq p.1 u then some p.2 else findT (pre ++ (t, x) :: post) u) = some z ∨ (z = y ∧ (bif Nat.beq p.1 u then some p.2 else findT (pre ++ (t, x) :: post) u) = some x)
    cases hb : Nat.beq p.1 u with
    | true => rw [hb] at h2; exact .inl h2
    | false => rw [hb] at h2; exact findT_swap h2
/-- A slice of a whole row: its capacity is some number that is great enough. -/
theorem At.cap {r : Option Nat} {mk : List Nat} {kn : List (Nat × Blk)} {P : Program} {w0 : World} {wr : Bs} {n : Nat} {gl : List Nat} {todo : List Item} {Q : Exit → Act → World → Prop} {rows : List (Nat × Row)} (pre post : List (Nat × TV)) (t q len k : Nat) (row : Row) {e : TypeId}
    (hk : 0 < k) (hr : findR rows q = some row) (hc : row.cp = some (e, k)) (hl : ∀ ρ, (lst ρ row.ps).length = len * k)
    (h : ∀ c, c + len ≤ maxLen → At P w0 wr n gl todo Q (pre ++ (t, .s (.lf (.sl q 0 0 k len (some (c + len))))) :: post) rows r mk kn) :
    At P w0 wr n gl todo Q (pre ++ (t, .s (.lf (.sl q 0 0 k len none))) :: post) rows r mk kn := by
  intro a w ρ hd
  obtain ⟨g1, _⟩ := hd.rw q row hr
  obtain ⟨g2, g3, g4, _⟩ := g1.2.2.1 e k hc
  rw [hl] at g4
  have hle : len ≤ (ρ q).3 := Nat.le_of_mul_le_mul_right g4 hk
  refine h ((ρ q).3 - len) (by omega) a w ρ ⟨hd.sz, hd.df, hd.mf, hd.ko, fun u x hx => ?_, hd.rw, hd.ds, hd.fr, hd.e0, hd.ku, hd.gl, hd.kn⟩
  rcases findT_swap (x := .s (.lf (.sl q 0 0 k len none))) hx with h1 | ⟨rfl, h1⟩
  · exact hd.tm u x h1
  · obtain ⟨q1, q2, q3⟩ := hd.tm u _ h1
    refine ⟨?_, trivial, q3⟩
    rw [q1]
    simp only [TV.val, SV.val, Lf.val, capOf]
    rw [show (ρ q).3 - len + len = (ρ q).3 by omega, Nat.sub_zero]
end Go.Proofs.YtgbaaiedpiiepaaDoor.E
/- The document on nodes that may be none: Heavy, May, Pack, Same. Their conditions: lengths that fit. -/
namespace Go.Proofs.YtgbaaiedpiiepaaDoor
open Go.RowKit Go.Shelf
set_option linter.unusedVariables false
set_option linter.unusedSimpArgs false
section
open E
theorem heavy_nil (a : Option Addr) (cap : Nat) (w : World) : Calls Tryd.prog 10 #[.slice a 0 cap] w fun e w' => e = .returned (.bool false) ∧ Below w.heap.size w w' :=
  straight [.v (.slice a 0 cap)] [] [.u, .n] Tryd.func10 rfl mixed trivial ⟨rfl, trivial⟩ rfl rfl rfl (ρ0 := fun _ => ⟨0, 0, 0⟩) (ob := [false = false]) (x := .v (.bool false)) (by kernel_rfl) ⟨rfl, trivial⟩ (fun _ => rfl)
theorem heavy_v (v : Value) (l : List Nd) (hl : l.length ≤ 9223372036854775807) (hp : ∀ c ∈ l, c.path.length ≤ 9223372036854775807) (hd : ∀ c ∈ l, c.data.length ≤ 9223372036854775807) (w : World) (h : NdV w v l) : Calls Tryd.prog 10 #[v] w fun e w' => e = .returned (.bool (heavyL l)) ∧ Below w.heap.size w w' := by
  obtain ⟨a, cap, rfl, h1, h2, h3⟩ := h
  cases l with
  | nil => exact heavy_nil a cap w
  | cons d r =>
    obtain ⟨b, o, rfl, hN⟩ := h3 (by simp)
    exact (heavy_any b o cap (d :: r) hl hp hd w hN).mono (by rintro e w' ⟨rfl, rfl⟩; exact ⟨rfl, Below.refl _ _⟩)
theorem rmay_v (v : Value) (l : List Nd) (hl : l.length ≤ 100000) (hp : ∀ c ∈ l, c.path.length ≤ 1000000) (hd : ∀ c ∈ l, c.data.length ≤ 1000000) (w : World) (h : NdV w v l) : Calls Tryd.prog 15 #[v] w fun e w' => e = .returned (.bool (mayL l)) ∧ Below w.heap.size w w' := by
  obtain ⟨a, cap, rfl, h1, h2, h3⟩ := h
  cases l with
  | nil => exact (may_nil a cap w).mono (by rintro e w' ⟨rfl, rfl⟩; exact ⟨rfl, Below.refl _ _⟩)
  | cons d r =>
    obtain ⟨b, o, rfl, hN⟩ := h3 (by simp)
    exact may_pos b o cap d r hl hp hd w hN
theorem packV_eq (l : List Nd) : packV l = .agg #[strV (packS l), .int .i64 (packE l)] := by
  unfold packV packS packE packL
  cases mayL l <;> rfl
theorem ent15 : Enters Tryd.prog 15 := enters_of Tryd.func15 (by kernel_rfl) rfl
theorem rpack_nil (a : Option Addr) (cap : Nat) (w : World) : Calls Tryd.prog 13 #[.slice a 0 cap] w fun e w' => e = .returned (packV []) ∧ Below w.heap.size w w' :=
  straight [.v (.slice a 0 cap)] [(2001, pc 15 #[.slice a 0 cap] (.v (.bool false)))] [.y] Tryd.func13 rfl mixed ⟨pc_ok ent15 (v := .bool false) rfl (fun _ => rfl) fun w => (may_nil a cap w).mono (by rintro e w' ⟨rfl, rfl⟩; exact ⟨rfl, Below.refl _ _⟩), trivial⟩ ⟨rfl, trivial⟩ rfl rfl rfl (ρ0 := fun _ => ⟨0, 0, 0⟩)
    (ob := [∀ ρ : Env, #[Value.slice a 0 cap] = #[.slice a 0 cap], true = true]) (x := .s (.agg [.one (.v (.string ⟨#[]⟩)), .one (.v (.int .i64 1))])) (by kernel_rfl) ⟨fun _ => rfl, rfl, trivial⟩ (fun _ => rfl)
theorem rpack_v (v : Value) (l : List Nd) (hl : l.length ≤ 100000) (hp : ∀ c ∈ l, c.path.length ≤ 1000000) (hd : ∀ c ∈ l, c.data.length ≤ 1000000) (w : World) (h : NdV w v l) : Calls Tryd.prog 13 #[v] w fun e w' => e = .returned (.agg #[strV (packS l), .int .i64 (packE l)]) ∧ Below w.heap.size w w' := by
  rw [← packV_eq]
  obtain ⟨a, cap, rfl, h1, h2, h3⟩ := h
  cases l with
  | nil => exact rpack_nil a cap w
  | cons d r =>
    obtain ⟨b, o, rfl, hN⟩ := h3 (by simp)
    refine pack_pos b o cap d r hl hp hd (Nat.le_trans (costs_le (d :: r) 1000000 1000000 hp hd) ?_) w hN
    refine Nat.le_trans (Nat.mul_le_mul_right _ hl) ?_
    omega
theorem rsame_short (a a2 : Option Addr) (n m cap cap2 : Nat) (h : n = 0 ∨ m = 0) (w : World) : Calls Tryd.prog 24 #[.slice a n cap, .slice a2 m cap2] w fun e w' => e = .returned (.bool (decide (n = m))) ∧ Below w.heap.size w w' := by
  by_cases hne : n = m
  · obtain rfl : n = 0 := by omega
    subst hne
    exact straight [.v (.slice a 0 cap), .v (.slice a2 0 cap2)] [] [.n, .u, .n] Tryd.func24 rfl mixed trivial ⟨rfl, rfl, trivial⟩ rfl rfl rfl (ρ0 := fun _ => ⟨0, 0, 0⟩) (ob := [false = false, false = false]) (x := .v (.bool true)) (by kernel_rfl) ⟨rfl, rfl, trivial⟩ (fun _ => rfl)
  · rw [decide_eq_false hne]
    exact straight [.v (.slice a n cap), .v (.slice a2 m cap2)] [] [.y] Tryd.func24 rfl mixed trivial ⟨rfl, rfl, trivial⟩ rfl rfl rfl (ρ0 := fun _ => ⟨0, 0, 0⟩) (ob := [((n : Int) != (m : Int)) = true]) (x := .v (.bool false)) (by kernel_rfl) ⟨by simp; omega, trivial⟩ (fun _ => rfl)
theorem rsame_v (v v2 : Value) (l m : List Nd) (hl : l.length ≤ 1000000000000000) (hm : m.length ≤ 1000000000000000) (w : World) (h1 : NdV w v l) (h2 : NdV w v2 m) : Calls Tryd.prog 24 #[v, v2] w fun e w' => e = .returned (.bool (sameL l m)) ∧ Below w.heap.size w w' := by
  obtain ⟨a, cap, rfl, _, _, h3⟩ := h1
  obtain ⟨a2, cap2, rfl, _, _, h4⟩ := h2
  by_cases h : l.length = 0 ∨ m.length = 0
  · refine (rsame_short a a2 l.length m.length cap cap2 h w).mono ?_
    rintro e w' ⟨rfl, hb⟩
    refine ⟨?_, hb⟩
    by_cases hq : l.length = m.length
    · have e1 : l = [] := List.length_eq_zero_iff.1 (by omega)
      have e2 : m = [] := List.length_eq_zero_iff.1 (by omega)
      rw [e1, e2]; rfl
    · rw [same_len l m hq, decide_eq_false hq]
  · obtain ⟨b, o, rfl, hN⟩ := h3 (by omega)
    obtain ⟨b2, o2, rfl, hN2⟩ := h4 (by omega)
    exact (same_any b o cap b2 o2 cap2 l m (by omega) (by omega) w hN hN2).mono (by rintro e w' ⟨rfl, hb⟩; first | exact ⟨rfl, hb⟩ | (subst hb; exact ⟨rfl, Below.refl _ _⟩))
/-- Where nodes lie: what a run knows of them. -/
def NdSrc (tv : TV) (rl : List (Nat × Row)) (l : List Nd) : Prop := ∀ (ρ : Env) (w : World), (∀ p ∈ rl, RowAt ρ p.1 p.2 w) → NdV w (tv.val ρ) l
theorem src_nil (a : Option Addr) (cap : Nat) (hc : cap ≤ 9223372036854775807) : NdSrc (.v (.slice a 0 cap)) [] [] := fun ρ w _ => ⟨a, cap, rfl, by simp, hc, fun h => absurd h (Nat.lt_irrefl _)⟩
theorem src_row (r cap : Nat) (l : List Nd) (h0 : 0 < l.length) (h1 : l.length ≤ cap) (hc : cap ≤ 9223372036854775807) : NdSrc (.s (.lf (.sl r 0 0 3 l.length (some cap)))) [(r, ndRow (ndf l) l.length)] l := fun ρ w h => by
  have h2 := h (r, ndRow (ndf l) l.length) (by simp)
  exact ⟨_, cap, rfl, h1, hc, fun _ => ⟨_, _, rfl, row_nodes h2 (Nat.le_refl _) (fun i hi => rfl) (fun i hi => by rw [ndf_at l i hi])⟩⟩
theorem ent10 : Enters Tryd.prog 10 := enters_of Tryd.func10 (by kernel_rfl) rfl
theorem ent13 : Enters Tryd.prog 13 := enters_of Tryd.func13 (by kernel_rfl) rfl
theorem ent18 : Enters Tryd.prog 18 := enters_of Tryd.func18 (by kernel_rfl) rfl
theorem ent20 : Enters Tryd.prog 20 := enters_of Tryd.func20 (by kernel_rfl) rfl
theorem ent22 : Enters Tryd.prog 22 := enters_of Tryd.func22 (by kernel_rfl) rfl
theorem ent23 : Enters Tryd.prog 23 := enters_of Tryd.func23 (by kernel_rfl) rfl
theorem ent24 : Enters Tryd.prog 24 := enters_of Tryd.func24 (by kernel_rfl) rfl
abbrev hH (tv : TV) (rl : List (Nat × Row)) (b : Bool) : Hint := pr 10 (fun ρ => #[tv.val ρ]) (.v (.bool b)) rl
abbrev hP (tv : TV) (rl : List (Nat × Row)) (s : List UInt8) (e : Int) : Hint := pr 12 (fun ρ => #[tv.val ρ]) (.tup [.lf (.v (stv s)), .lf (.v (.int .i64 e))]) rl
abbrev hRP (tv : TV) (rl : List (Nat × Row)) (s : List UInt8) (e : Int) : Hint := pr 13 (fun ρ => #[tv.val ρ]) (.s (.agg [.one (.v (stv s)), .one (.v (.int .i64 e))])) rl
abbrev hMy (tv : TV) (rl : List (Nat × Row)) (b : Bool) : Hint := pr 14 (fun ρ => #[tv.val ρ]) (.v (.bool b)) rl
abbrev hRM (tv : TV) (rl : List (Nat × Row)) (b : Bool) : Hint := pr 15 (fun ρ => #[tv.val ρ]) (.v (.bool b)) rl
abbrev hSm (f : Nat) (tv tv2 : TV) (rl rl2 : List (Nat × Row)) (b : Bool) : Hint := pr f (fun ρ => #[tv.val ρ, tv2.val ρ]) (.v (.bool b)) (rl ++ rl2)
theorem hH_ok (id : Nat) {tv : TV} {rl : List (Nat × Row)} {l : List Nd} {b : Bool} (hS : NdSrc tv rl l) (hl : l.length ≤ 9223372036854775807) (hp : ∀ c ∈ l, c.path.length ≤ 9223372036854775807) (hd : ∀ c ∈ l, c.data.length ≤ 9223372036854775807) (hb : heavyL l = b) : HintOk Tryd.prog id (hH tv rl b) :=
  pr_ok ent10 (v := .bool b) rfl (fun _ => rfl) fun ρ w h => by rw [← hb]; exact heavy_v _ l hl hp hd w (hS ρ w h)
theorem hP_ok (id : Nat) {tv : TV} {rl : List (Nat × Row)} {l : List Nd} (hS : NdSrc tv rl l) (hl : l.length ≤ 1000000) (hp : ∀ c ∈ l, c.path.length ≤ 10000) (hd : ∀ c ∈ l, c.data.length ≤ 100000) : HintOk Tryd.prog id (hP tv rl (packS l) (packE l)) :=
  pr_ok ent12 (v := .tuple #[strV (packS l), .int .i64 (packE l)]) (ok2 rfl rfl) (fun _ => rfl) fun ρ w h => ppack_any _ l hl hp hd w (hS ρ w h)
theorem hRP_ok (id : Nat) {tv : TV} {rl : List (Nat × Row)} {l : List Nd} (hS : NdSrc tv rl l) (hl : l.length ≤ 100000) (hp : ∀ c ∈ l, c.path.length ≤ 1000000) (hd : ∀ c ∈ l, c.data.length ≤ 1000000) : HintOk Tryd.prog id (hRP tv rl (packS l) (packE l)) :=
  pr_ok ent13 (v := .agg #[strV (packS l), .int .i64 (packE l)]) (by intro q hq; simp at hq; rcases hq with rfl | rfl <;> rfl) (fun _ => rfl) fun ρ w h => rpack_v _ l hl hp hd w (hS ρ w h)
theorem hMy_ok (id : Nat) {tv : TV} {rl : List (Nat × Row)} {l : List Nd} (hS : NdSrc tv rl l) (hl : l.length ≤ 1000000) (hp : ∀ c ∈ l, c.path.length ≤ 1000000) (hd : ∀ c ∈ l, c.data.length ≤ 1000000) : HintOk Tryd.prog id (hMy tv rl (mayL l)) :=
  pr_ok ent14 (v := .bool (mayL l)) rfl (fun _ => rfl) fun ρ w h => pmay_v _ l hl hp hd w (hS ρ w h)
theorem hRM_ok (id : Nat) {tv : TV} {rl : List (Nat × Row)} {l : List Nd} (hS : NdSrc tv rl l) (hl : l.length ≤ 100000) (hp : ∀ c ∈ l, c.path.length ≤ 1000000) (hd : ∀ c ∈ l, c.data.length ≤ 1000000) : HintOk Tryd.prog id (hRM tv rl (mayL l)) :=
  pr_ok ent15 (v := .bool (mayL l)) rfl (fun _ => rfl) fun ρ w h => rmay_v _ l hl hp hd w (hS ρ w h)
theorem hSm_ok (id : Nat) {tv tv2 : TV} {rl rl2 : List (Nat × Row)} {l m : List Nd} (hS : NdSrc tv rl l) (hS2 : NdSrc tv2 rl2 m) (hl : l.length ≤ 1000000000000000) (hm : m.length ≤ 1000000000000000) : HintOk Tryd.prog id (hSm 23 tv tv2 rl rl2 (sameL l m)) ∧ HintOk Tryd.prog id (hSm 24 tv tv2 rl rl2 (sameL l m)) :=
  ⟨pr_ok ent23 (v := .bool (sameL l m)) rfl (fun _ => rfl) fun ρ w h => psame_any _ _ l m hl hm w (hS ρ w fun p hp => h p (List.mem_append.2 (.inl hp))) (hS2 ρ w fun p hp => h p (List.mem_append.2 (.inr hp))),
   pr_ok ent24 (v := .bool (sameL l m)) rfl (fun _ => rfl) fun ρ w h => rsame_v _ _ l m hl hm w (hS ρ w fun p hp => h p (List.mem_append.2 (.inl hp))) (hS2 ρ w fun p hp => h p (List.mem_append.2 (.inr hp)))⟩
end
end Go.Proofs.YtgbaaiedpiiepaaDoor
/- The engine: rows under other numbers (a round that makes a row anew). No condition of its own. -/
namespace Go.Proofs.YtgbaaiedpiiepaaDoor.E
set_option linter.unusedSimpArgs false
open Go Go.RowKit
set_option linter.unusedVariables false
def isLf : TV → Bool
  | .s (.lf _) => true
  | _ => false
def TV.renS (m : List (Nat × Nat)) : TV → TV
  | .s (.lf x) => .s (.lf (x.ren m))
  | y => y
theorem findT_map {g : TV → TV} {t : Nat} : ∀ {l : List (Nat × TV)} {x : TV}, findT l t = some x → findT (l.map fun p => (p.1, g p.2)) t = some (g x)
  | [], _, h => by cases h
  | p :: l, x, h => by
    unfold findT at h
    rw [List.map_cons]
    unfold findT
    cases hb : Nat.beq p.1 t with
    | true => rw [hb] at h; cases h; rfl
    | false => rw [hb] at h; exact findT_map (l := l) h
/-- Rows under other numbers (m: a row's number there, its number here). -/
theorem At.ren {r : Option Nat} {mk : List Nat} {P : Program} {w0 : World} {wr : Bs} {n : Nat} {gl : List Nat} {todo : List Item} {Q : Exit → Act → World → Prop} (m : List (Nat × Nat)) (tm2 : List (Nat × TV)) (rows2 : List (Nat × Row))
    (hlf : tm2.all (fun p => isLf p.2) = true) (hid : idsOk tm2 rows2 gl = true) (hmo : renOk m wr.k = true) (hnd : nodupB (rows2.map fun p => renL m p.1) = true) (h5 : wr.k.all (hasN (rows2.map (·.1) ++ gl.map (500 + ·))) = true)
    (h : At P w0 wr n gl todo Q tm2 rows2 r mk) : At P w0 wr n gl todo Q (tm2.map fun p => (p.1, p.2.renS m)) (rows2.map fun p => (renL m p.1, p.2.ren m)) r mk := by
  intro a w ρ hd
  have hN := nodupB_ok hnd
  have hinj : ∀ p ∈ rows2, ∀ q ∈ rows2, renL m p.1 = renL m q.1 → p.1 = q.1 := by
    clear hid h5 h hd hnd
    induction rows2 with
    | nil => intro p hp; cases hp
    | cons x l ih =>
      rw [List.map_cons, List.nodup_cons] at hN
      intro p hp q hq he
      rcases List.mem_cons.1 hp with e1 | hp <;> rcases List.mem_cons.1 hq with e2 | hq
      · rw [e1, e2]
      · exact absurd (List.mem_map.2 ⟨q, hq, by rw [← he, e1]⟩) hN.1
      · exact absurd (List.mem_map.2 ⟨p, hp, by rw [he, e2]⟩) hN.1
      · exact ih hN.2 p hp q hq he
  have hrow : ∀ q y, findR rows2 q = some y → (q, y) ∈ rows2 ∧ findR (rows2.map fun p => (renL m p.1, p.2.ren m)) (renL m q) = some (y.ren m) := fun q y hy => by
    have hm := findR_mem hy
    refine ⟨hm, ?_⟩
    have hN2 : ((rows2.map fun p => (renL m p.1, p.2.ren m)).map (·.1)).Nodup := by rw [List.map_map]; exact hN
    exact findR_nodup (p := (renL m q, y.ren m)) hN2 (List.mem_map.2 ⟨_, hm, rfl⟩)
  have hids := hid
  unfold idsOk at hids
  rw [Bool.and_eq_true] at hids
  refine h a w (fun q => ρ (renL m q)) ⟨hd.sz, hd.df, hd.mf, hd.ko, fun t x hx => ?_, fun q y hy => ?_, fun q u y z hy hz hqu hw => ?_, hd.fr, fun q hq => ?_, fun q hq => List.all_eq_true.1 h5 q hq, fun g hg hu => ?_, fun q B hq => by cases hq⟩
  · have hp := findT_mem hx
    obtain ⟨g1, g2, _⟩ := hd.tm t _ (findT_map (g := TV.renS m) hx)
    have hl : isLf x = true := List.all_eq_true.1 hlf _ hp
    have hu : x.ids.all (hasN (rows2.map (·.1) ++ gl.map (500 + ·))) = true := List.all_eq_true.1 hids.1 _ hp
    cases x with
    | tup _ => cases hl
    | s sv =>
      cases sv with
      | lf x =>
        refine ⟨by rw [g1]; show some ((Lf.ren m x).val ρ) = _; rw [Lf.ren_val]; rfl, ?_, fun q hq => List.all_eq_true.1 hu q hq⟩
        cases x <;> exact g2
      | agg _ => cases hl
      | un => cases hl
  · obtain ⟨hm, hf⟩ := hrow q y hy
    obtain ⟨g1, g2, g3, g4, g5⟩ := hd.rw _ _ hf
    refine ⟨RowAt.ren g1, pok_ren g2, hasN_iff.2 (List.mem_append.2 (.inl (List.mem_map.2 ⟨_, hm, rfl⟩))), fun u hu => ?_, g5⟩
    exact List.all_eq_true.1 (List.all_eq_true.1 hids.2 _ hm) u hu
  · obtain ⟨hm, hf⟩ := hrow q y hy
    obtain ⟨hm2, hf2⟩ := hrow u z hz
    exact hd.ds _ _ _ _ hf hf2 (fun e => hqu (hinj _ hm _ hm2 e)) hw
  · show ρ (renL m q) = _
    rw [renL_fix hmo hq]
    exact hd.e0 q hq
  · show ρ (renL m (500 + g)) = _
    rw [renL_fix hmo (.inl (by omega))]
    refine hd.gl g hg ?_
    rcases List.mem_append.1 (hasN_iff.1 hu) with hu | hu
    · obtain ⟨p, hp, e⟩ := List.mem_map.1 hu
      refine hasN_iff.2 (List.mem_append.2 (.inl ?_))
      rw [List.map_map]
      exact List.mem_map.2 ⟨p, hp, by show renL m p.1 = _; rw [e, renL_fix hmo (.inl (by omega))]⟩
    · exact hasN_iff.2 (List.mem_append.2 (.inr hu))
end Go.Proofs.YtgbaaiedpiiepaaDoor.E
