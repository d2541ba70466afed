/- Several texts, one behind the other; each says by itself what it proves, and on what conditions. -/
import Derived.Test.YtgbaaiedpiiepaaDoorU18
/- NarRefuses: nodes that are no tree have no packing: the law returns true whatever number comes in. No condition. -/
namespace Go.Proofs.YtgbaaiedpiiepaaDoor
open Go.RowKit Go.Shelf
set_option linter.unusedVariables false
set_option linter.unusedSimpArgs false
theorem nodeLaw_any (p : List UInt8) (k : Int) (w : World) : Calls Tryd.prog 26 #[strV p, .int .i64 k] w fun e w' => e = .returned (.agg #[strV p, .int .i64 k, strV []]) ∧ Below w.heap.size w w' :=
  E.straight [.v (strV p), .int .i64 k] [] [] Tryd.func26 rfl mixed trivial ⟨rfl, rfl, trivial⟩ rfl rfl rfl (ρ0 := fun _ => ⟨0, 0, 0⟩) (ob := []) (x := .s (.agg [.one (.v (strV p)), .one (.v (.int .i64 k)), .one (.v (strV []))])) (by kernel_rfl) trivial (fun _ => rfl)
section
open E
theorem ent26 : Enters Tryd.prog 26 := enters_of Tryd.func26 (by kernel_rfl) rfl
abbrev hNode (p : List UInt8) (k : Int) : Hint := pc 26 #[stv p, .int .i64 k] (.s (.agg [.one (.v (stv p)), .one (.v (.int .i64 k)), .one (.v (stv []))]))
theorem hNode_ok (id : Nat) (p : List UInt8) (k : Int) : HintOk Tryd.prog id (hNode p k) := pc_ok ent26 (v := .agg #[stv p, .int .i64 k, stv []]) (by intro q hq; simp at hq; rcases hq with rfl | rfl | rfl <;> rfl) (fun _ => rfl) fun w => nodeLaw_any p k w
abbrev hMayB (r : Nat) (l : List Nd) (n : Nat) (b : Bool) : Hint := pr 14 (fun ρ => #[(TV.s (.lf (.sl r 0 0 3 n none))).val ρ]) (.v (.bool b)) [(r, rowB (ndsV l) n)]
theorem hMayB_ok (id r n : Nat) (l : List Nd) (b : Bool) (hn : n = l.length) (hb : mayL l = b) (h0 : 0 < l.length) (hl : l.length ≤ 1000000) (hp : ∀ c ∈ l, c.path.length ≤ 1000000) (hd : ∀ c ∈ l, c.data.length ≤ 1000000) : HintOk Tryd.prog id (hMayB r l n b) := by
  subst hn
  refine pr_ok ent14 (v := .bool b) rfl (fun _ => rfl) fun ρ w h => ?_
  rw [← hb]
  exact pmay_v _ l hl hp hd w (built_ndv (h (r, rowB (ndsV l) l.length) (by simp)) h0)
abbrev hAwake : Hint := pc 11 #[] (.v (.bool true))
theorem hAwake_ok (id : Nat) : HintOk Tryd.prog id hAwake := pc_ok ent11 (v := .bool true) rfl (fun _ => rfl) fun w => awake_ok w
theorem nil_ndv (w : World) : NdV w (.slice none 0 0) [] := ⟨none, 0, rfl, Nat.le_refl _, by omega, fun h => absurd h (Nat.lt_irrefl _)⟩
theorem pack_bad {l : List Nd} (h : mayL l = false) : packS l = [] ∧ packE l = 1 := by
  unfold packS packE; rw [h]; exact ⟨rfl, rfl⟩
abbrev bad1 : List Nd := [⟨[97], 1, []⟩]
abbrev bad2 : List Nd := [⟨[], 1, []⟩, ⟨[97], 1, []⟩]
abbrev bad3 : List Nd := [⟨[], 4, []⟩, ⟨[98], 1, []⟩, ⟨[97], 1, []⟩]
abbrev bad4 : List Nd := [⟨[], 4, []⟩, ⟨[97], 1, []⟩, ⟨[97], 1, []⟩]
abbrev bad5 : List Nd := [⟨[], 4, []⟩, ⟨[97, 47, 98], 1, []⟩]
abbrev bad6 : List Nd := [⟨[], 4, []⟩, ⟨[97], 1, []⟩, ⟨[97, 47, 98], 1, []⟩]
abbrev bad7 : List Nd := [⟨[], 4, []⟩, ⟨[46, 46], 1, []⟩]
abbrev bad8 : List Nd := [⟨[], 4, []⟩, ⟨[97], 3, []⟩]
abbrev bad9 : List Nd := [⟨[], 4, [120]⟩]
abbrev bad10 : List Nd := [⟨[], 5, []⟩]
abbrev bad11 : List Nd := [⟨[], 4, []⟩, ⟨[97], 4, []⟩, ⟨[98], 4, []⟩, ⟨[97, 47, 99], 1, []⟩]
abbrev bad12 : List Nd := [⟨[], 4, []⟩, ⟨[97, 0], 1, []⟩]
abbrev bad13 : List Nd := [⟨[], 3, [0]⟩]
abbrev bad14 : List Nd := [⟨[], 4, []⟩, ⟨[], 1, []⟩]
abbrev bad15 : List Nd := [⟨[], 4, []⟩, ⟨[47, 97], 1, []⟩]
theorem bad1_no : mayL bad1 = false := by decide +kernel
theorem bad2_no : mayL bad2 = false := by decide +kernel
theorem bad3_no : mayL bad3 = false := by decide +kernel
theorem bad4_no : mayL bad4 = false := by decide +kernel
theorem bad5_no : mayL bad5 = false := by decide +kernel
theorem bad6_no : mayL bad6 = false := by decide +kernel
theorem bad7_no : mayL bad7 = false := by decide +kernel
theorem bad8_no : mayL bad8 = false := by decide +kernel
theorem bad9_no : mayL bad9 = false := by decide +kernel
theorem bad10_no : mayL bad10 = false := by decide +kernel
theorem bad11_no : mayL bad11 = false := by decide +kernel
theorem bad12_no : mayL bad12 = false := by decide +kernel
theorem bad13_no : mayL bad13 = false := by decide +kernel
theorem bad14_no : mayL bad14 = false := by decide +kernel
theorem bad15_no : mayL bad15 = false := by decide +kernel
abbrev csN : List (Nat × Hint) := [(4003, hNode [97] 1), (4006, hNode [98] 1), (4007, hNode [97] 1), (4010, hNode [97] 1), (4011, hNode [97] 1), (4014, hNode [97, 47, 98] 1), (4017, hNode [97] 1), (4018, hNode [97, 47, 98] 1), (4021, hNode [46, 46] 1), (4024, hNode [97] 3), (4031, hNode [97] 4), (4032, hNode [98] 4), (4033, hNode [97, 47, 99] 1), (4036, hNode [97, 0] 1), (4041, hNode [] 1), (4044, hNode [47, 97] 1)]
theorem csN_ok : allC Tryd.prog csN := ⟨hNode_ok _ _ _, hNode_ok _ _ _, hNode_ok _ _ _, hNode_ok _ _ _, hNode_ok _ _ _, hNode_ok _ _ _, hNode_ok _ _ _, hNode_ok _ _ _, hNode_ok _ _ _, hNode_ok _ _ _, hNode_ok _ _ _, hNode_ok _ _ _, hNode_ok _ _ _, hNode_ok _ _ _, hNode_ok _ _ _, hNode_ok _ _ _, trivial⟩
theorem csN_ok2 : allC Tryd.prog (csN ++ [(2005005, .val (.tup []))]) := ⟨hNode_ok _ _ _, hNode_ok _ _ _, hNode_ok _ _ _, hNode_ok _ _ _, hNode_ok _ _ _, hNode_ok _ _ _, hNode_ok _ _ _, hNode_ok _ _ _, hNode_ok _ _ _, hNode_ok _ _ _, hNode_ok _ _ _, hNode_ok _ _ _, hNode_ok _ _ _, hNode_ok _ _ _, hNode_ok _ _ _, hNode_ok _ _ _, trivial, trivial⟩
abbrev rowsN : List (Nat × Row) := [(4001, rowB (ndsV bad1) 1), (4004, rowB (ndsV bad2) 2), (4008, rowB (ndsV bad3) 3), (4012, rowB (ndsV bad4) 3), (4015, rowB (ndsV bad5) 2), (4019, rowB (ndsV bad6) 3), (4022, rowB (ndsV bad7) 2), (4025, rowB (ndsV bad8) 2), (4027, rowB (ndsV bad9) 1), (4029, rowB (ndsV bad10) 1), (4034, rowB (ndsV bad11) 4), (4037, rowB (ndsV bad12) 2), (4039, rowB (ndsV bad13) 1), (4042, rowB (ndsV bad14) 2), (4045, rowB (ndsV bad15) 2), (4046, ⟨[.one (.v (.slice none 0 0)), .one (.sl 4001 0 0 3 1 none), .one (.sl 4004 0 0 3 2 none), .one (.sl 4008 0 0 3 3 none), .one (.sl 4012 0 0 3 3 none), .one (.sl 4015 0 0 3 2 none), .one (.sl 4019 0 0 3 3 none), .one (.sl 4022 0 0 3 2 none), .one (.sl 4025 0 0 3 2 none), .one (.sl 4027 0 0 3 1 none), .one (.sl 4029 0 0 3 1 none), .one (.sl 4034 0 0 3 4 none), .one (.sl 4037 0 0 3 2 none), .one (.sl 4039 0 0 3 1 none), .one (.sl 4042 0 0 3 2 none), .one (.sl 4045 0 0 3 2 none)], true, none⟩)]
abbrev tmN (n : Nat) : List (Nat × TV) := [(0, .int .u8 n), (5, .s (.lf (.sl 4046 0 0 1 16 (some 16))))]
set_option maxRecDepth 100000 in
set_option maxHeartbeats 2000000 in
theorem refuses_any (n : Nat) (hn : n < 256) (w : World) : Calls Tryd.prog 6 #[.int .u8 (n : Int)] w fun e w' => e = .returned (.bool true) ∧ Below w.heap.size w w' := by
  refine At.calls (args := [.int .u8 n]) (rows := []) (gl := []) (wr := []) (ρ := fun _ => ⟨0, 0, 0⟩) Tryd.func6 rfl rfl (init_pure ⟨rfl, trivial⟩ rfl) rfl ?_
  refine At.run rfl (csN ++ [(2005005, .val (.tup []))]) csN_ok2 [] (tm2 := tmN n) (rows2 := rowsN) (ob := csN.flatMap fun p => qL p.2) (td := rp Tryd.f6 4) (by kernel_rfl) ?_ rfl rfl (by intro h; cases h) ?_
  · exact ⟨fun _ => rfl, fun _ => rfl, fun _ => rfl, fun _ => rfl, fun _ => rfl, fun _ => rfl, fun _ => rfl, fun _ => rfl, fun _ => rfl, fun _ => rfl, fun _ => rfl, fun _ => rfl, fun _ => rfl, fun _ => rfl, fun _ => rfl, fun _ => rfl, trivial⟩
  · have hk : ∃ k : Nat, k < 16 ∧ (n : Int) % 16 = k := ⟨n % 16, by omega, by omega⟩
    obtain ⟨k, hk, hkn⟩ := hk
    have hwr : IntKind.i64.wrap (n : Int) = (n : Int) := by rw [IntKind.wrap_i64]; omega
    have hcase : k = 0 ∨ k = 1 ∨ k = 2 ∨ k = 3 ∨ k = 4 ∨ k = 5 ∨ k = 6 ∨ k = 7 ∨ k = 8 ∨ k = 9 ∨ k = 10 ∨ k = 11 ∨ k = 12 ∨ k = 13 ∨ k = 14 ∨ k = 15 := by omega
    rcases hcase with rfl | rfl | rfl | rfl | rfl | rfl | rfl | rfl | rfl | rfl | rfl | rfl | rfl | rfl | rfl | rfl
    · refine At.fin rfl [(2005005, .val (.int .i64 0)), (6001, pc 12 #[.slice none 0 0] (.tup [.lf (.v (stv [])), .lf (.v (.int .i64 1))])), (7001, pc 14 #[.slice none 0 0] (.v (.bool false))), (7009, hErr 1), (7013, hAwake)] ⟨trivial, pc_ok ent12 (v := .tuple #[stv [], .int .i64 1]) (ok2 rfl rfl) (fun _ => rfl) (fun w => ppack_any _ [] (by decide) (by decide) (by decide) w (nil_ndv w)), pc_ok ent14 (v := .bool false) rfl (fun _ => rfl) (fun w => pmay_v _ [] (by decide) (by decide) (by decide) w (nil_ndv w)), hErr_ok _ _, hAwake_ok _, trivial⟩ [] (x := .v (.bool true)) (ob := [IntKind.i64.wrap (n : Int) = (n : Int), TV.int .i64 ((n : Int) % ((16 : Nat) : Int)) = TV.int .i64 0, 0 ≤ (n : Int) ∧ (0 : Int) < ((16 : Nat) : Int), 0 ≤ (0 : Int) ∧ (0 : Int) < ((16 : Nat) : Int)] ++ [∀ ρ : Env, #[Value.slice none 0 0] = #[.slice none 0 0]] ++ [∀ ρ : Env, #[Value.slice none 0 0] = #[.slice none 0 0]] ++ qL (hErr 1) ++ qL hAwake) (by kernel_rfl) ?_ fun ρ w' hf _ => ⟨rfl, hf.below⟩
      exact all_append.2 ⟨all_append.2 ⟨all_append.2 ⟨all_append.2 ⟨⟨hwr, by rw [show (n : Int) % ((16 : Nat) : Int) = 0 from hkn], by omega, by omega, trivial⟩, ⟨fun _ => rfl, trivial⟩⟩, ⟨fun _ => rfl, trivial⟩⟩, all_qL _⟩, all_qL _⟩
    · refine At.fin rfl [(2005005, .val (.int .i64 1)), (6001, hPackB 4001 bad1 1 [] 1), (7001, hMayB 4001 bad1 1 false), (7009, hErr 1), (7013, hAwake)] ⟨trivial, hPackB_ok _ _ _ bad1 _ _ rfl (pack_bad bad1_no).1 (pack_bad bad1_no).2 (by decide) (by decide) (by decide) (by decide), hMayB_ok _ _ _ bad1 _ rfl bad1_no (by decide) (by decide) (by decide) (by decide), hErr_ok _ _, hAwake_ok _, trivial⟩ [] (x := .v (.bool true)) (ob := [IntKind.i64.wrap (n : Int) = (n : Int), TV.int .i64 ((n : Int) % ((16 : Nat) : Int)) = TV.int .i64 1, 0 ≤ (n : Int) ∧ (0 : Int) < ((16 : Nat) : Int), 0 ≤ (1 : Int) ∧ (1 : Int) < ((16 : Nat) : Int)] ++ qL (hPackB 4001 bad1 1 [] 1) ++ qL (hMayB 4001 bad1 1 false) ++ qL (hErr 1) ++ qL hAwake) (by kernel_rfl) ?_ fun ρ w' hf _ => ⟨rfl, hf.below⟩
      exact all_append.2 ⟨all_append.2 ⟨all_append.2 ⟨all_append.2 ⟨⟨hwr, by rw [show (n : Int) % ((16 : Nat) : Int) = 1 from hkn], by omega, by omega, trivial⟩, all_qL _⟩, all_qL _⟩, all_qL _⟩, all_qL _⟩
    · refine At.fin rfl [(2005005, .val (.int .i64 2)), (6001, hPackB 4004 bad2 2 [] 1), (7001, hMayB 4004 bad2 2 false), (7009, hErr 1), (7013, hAwake)] ⟨trivial, hPackB_ok _ _ _ bad2 _ _ rfl (pack_bad bad2_no).1 (pack_bad bad2_no).2 (by decide) (by decide) (by decide) (by decide), hMayB_ok _ _ _ bad2 _ rfl bad2_no (by decide) (by decide) (by decide) (by decide), hErr_ok _ _, hAwake_ok _, trivial⟩ [] (x := .v (.bool true)) (ob := [IntKind.i64.wrap (n : Int) = (n : Int), TV.int .i64 ((n : Int) % ((16 : Nat) : Int)) = TV.int .i64 2, 0 ≤ (n : Int) ∧ (0 : Int) < ((16 : Nat) : Int), 0 ≤ (2 : Int) ∧ (2 : Int) < ((16 : Nat) : Int)] ++ qL (hPackB 4004 bad2 2 [] 1) ++ qL (hMayB 4004 bad2 2 false) ++ qL (hErr 1) ++ qL hAwake) (by kernel_rfl) ?_ fun ρ w' hf _ => ⟨rfl, hf.below⟩
      exact all_append.2 ⟨all_append.2 ⟨all_append.2 ⟨all_append.2 ⟨⟨hwr, by rw [show (n : Int) % ((16 : Nat) : Int) = 2 from hkn], by omega, by omega, trivial⟩, all_qL _⟩, all_qL _⟩, all_qL _⟩, all_qL _⟩
    · refine At.fin rfl [(2005005, .val (.int .i64 3)), (6001, hPackB 4008 bad3 3 [] 1), (7001, hMayB 4008 bad3 3 false), (7009, hErr 1), (7013, hAwake)] ⟨trivial, hPackB_ok _ _ _ bad3 _ _ rfl (pack_bad bad3_no).1 (pack_bad bad3_no).2 (by decide) (by decide) (by decide) (by decide), hMayB_ok _ _ _ bad3 _ rfl bad3_no (by decide) (by decide) (by decide) (by decide), hErr_ok _ _, hAwake_ok _, trivial⟩ [] (x := .v (.bool true)) (ob := [IntKind.i64.wrap (n : Int) = (n : Int), TV.int .i64 ((n : Int) % ((16 : Nat) : Int)) = TV.int .i64 3, 0 ≤ (n : Int) ∧ (0 : Int) < ((16 : Nat) : Int), 0 ≤ (3 : Int) ∧ (3 : Int) < ((16 : Nat) : Int)] ++ qL (hPackB 4008 bad3 3 [] 1) ++ qL (hMayB 4008 bad3 3 false) ++ qL (hErr 1) ++ qL hAwake) (by kernel_rfl) ?_ fun ρ w' hf _ => ⟨rfl, hf.below⟩
      exact all_append.2 ⟨all_append.2 ⟨all_append.2 ⟨all_append.2 ⟨⟨hwr, by rw [show (n : Int) % ((16 : Nat) : Int) = 3 from hkn], by omega, by omega, trivial⟩, all_qL _⟩, all_qL _⟩, all_qL _⟩, all_qL _⟩
    · refine At.fin rfl [(2005005, .val (.int .i64 4)), (6001, hPackB 4012 bad4 3 [] 1), (7001, hMayB 4012 bad4 3 false), (7009, hErr 1), (7013, hAwake)] ⟨trivial, hPackB_ok _ _ _ bad4 _ _ rfl (pack_bad bad4_no).1 (pack_bad bad4_no).2 (by decide) (by decide) (by decide) (by decide), hMayB_ok _ _ _ bad4 _ rfl bad4_no (by decide) (by decide) (by decide) (by decide), hErr_ok _ _, hAwake_ok _, trivial⟩ [] (x := .v (.bool true)) (ob := [IntKind.i64.wrap (n : Int) = (n : Int), TV.int .i64 ((n : Int) % ((16 : Nat) : Int)) = TV.int .i64 4, 0 ≤ (n : Int) ∧ (0 : Int) < ((16 : Nat) : Int), 0 ≤ (4 : Int) ∧ (4 : Int) < ((16 : Nat) : Int)] ++ qL (hPackB 4012 bad4 3 [] 1) ++ qL (hMayB 4012 bad4 3 false) ++ qL (hErr 1) ++ qL hAwake) (by kernel_rfl) ?_ fun ρ w' hf _ => ⟨rfl, hf.below⟩
      exact all_append.2 ⟨all_append.2 ⟨all_append.2 ⟨all_append.2 ⟨⟨hwr, by rw [show (n : Int) % ((16 : Nat) : Int) = 4 from hkn], by omega, by omega, trivial⟩, all_qL _⟩, all_qL _⟩, all_qL _⟩, all_qL _⟩
    · refine At.fin rfl [(2005005, .val (.int .i64 5)), (6001, hPackB 4015 bad5 2 [] 1), (7001, hMayB 4015 bad5 2 false), (7009, hErr 1), (7013, hAwake)] ⟨trivial, hPackB_ok _ _ _ bad5 _ _ rfl (pack_bad bad5_no).1 (pack_bad bad5_no).2 (by decide) (by decide) (by decide) (by decide), hMayB_ok _ _ _ bad5 _ rfl bad5_no (by decide) (by decide) (by decide) (by decide), hErr_ok _ _, hAwake_ok _, trivial⟩ [] (x := .v (.bool true)) (ob := [IntKind.i64.wrap (n : Int) = (n : Int), TV.int .i64 ((n : Int) % ((16 : Nat) : Int)) = TV.int .i64 5, 0 ≤ (n : Int) ∧ (0 : Int) < ((16 : Nat) : Int), 0 ≤ (5 : Int) ∧ (5 : Int) < ((16 : Nat) : Int)] ++ qL (hPackB 4015 bad5 2 [] 1) ++ qL (hMayB 4015 bad5 2 false) ++ qL (hErr 1) ++ qL hAwake) (by kernel_rfl) ?_ fun ρ w' hf _ => ⟨rfl, hf.below⟩
      exact all_append.2 ⟨all_append.2 ⟨all_append.2 ⟨all_append.2 ⟨⟨hwr, by rw [show (n : Int) % ((16 : Nat) : Int) = 5 from hkn], by omega, by omega, trivial⟩, all_qL _⟩, all_qL _⟩, all_qL _⟩, all_qL _⟩
    · refine At.fin rfl [(2005005, .val (.int .i64 6)), (6001, hPackB 4019 bad6 3 [] 1), (7001, hMayB 4019 bad6 3 false), (7009, hErr 1), (7013, hAwake)] ⟨trivial, hPackB_ok _ _ _ bad6 _ _ rfl (pack_bad bad6_no).1 (pack_bad bad6_no).2 (by decide) (by decide) (by decide) (by decide), hMayB_ok _ _ _ bad6 _ rfl bad6_no (by decide) (by decide) (by decide) (by decide), hErr_ok _ _, hAwake_ok _, trivial⟩ [] (x := .v (.bool true)) (ob := [IntKind.i64.wrap (n : Int) = (n : Int), TV.int .i64 ((n : Int) % ((16 : Nat) : Int)) = TV.int .i64 6, 0 ≤ (n : Int) ∧ (0 : Int) < ((16 : Nat) : Int), 0 ≤ (6 : Int) ∧ (6 : Int) < ((16 : Nat) : Int)] ++ qL (hPackB 4019 bad6 3 [] 1) ++ qL (hMayB 4019 bad6 3 false) ++ qL (hErr 1) ++ qL hAwake) (by kernel_rfl) ?_ fun ρ w' hf _ => ⟨rfl, hf.below⟩
      exact all_append.2 ⟨all_append.2 ⟨all_append.2 ⟨all_append.2 ⟨⟨hwr, by rw [show (n : Int) % ((16 : Nat) : Int) = 6 from hkn], by omega, by omega, trivial⟩, all_qL _⟩, all_qL _⟩, all_qL _⟩, all_qL _⟩
    · refine At.fin rfl [(2005005, .val (.int .i64 7)), (6001, hPackB 4022 bad7 2 [] 1), (7001, hMayB 4022 bad7 2 false), (7009, hErr 1), (7013, hAwake)] ⟨trivial, hPackB_ok _ _ _ bad7 _ _ rfl (pack_bad bad7_no).1 (pack_bad bad7_no).2 (by decide) (by decide) (by decide) (by decide), hMayB_ok _ _ _ bad7 _ rfl bad7_no (by decide) (by decide) (by decide) (by decide), hErr_ok _ _, hAwake_ok _, trivial⟩ [] (x := .v (.bool true)) (ob := [IntKind.i64.wrap (n : Int) = (n : Int), TV.int .i64 ((n : Int) % ((16 : Nat) : Int)) = TV.int .i64 7, 0 ≤ (n : Int) ∧ (0 : Int) < ((16 : Nat) : Int), 0 ≤ (7 : Int) ∧ (7 : Int) < ((16 : Nat) : Int)] ++ qL (hPackB 4022 bad7 2 [] 1) ++ qL (hMayB 4022 bad7 2 false) ++ qL (hErr 1) ++ qL hAwake) (by kernel_rfl) ?_ fun ρ w' hf _ => ⟨rfl, hf.below⟩
      exact all_append.2 ⟨all_append.2 ⟨all_append.2 ⟨all_append.2 ⟨⟨hwr, by rw [show (n : Int) % ((16 : Nat) : Int) = 7 from hkn], by omega, by omega, trivial⟩, all_qL _⟩, all_qL _⟩, all_qL _⟩, all_qL _⟩
    · refine At.fin rfl [(2005005, .val (.int .i64 8)), (6001, hPackB 4025 bad8 2 [] 1), (7001, hMayB 4025 bad8 2 false), (7009, hErr 1), (7013, hAwake)] ⟨trivial, hPackB_ok _ _ _ bad8 _ _ rfl (pack_bad bad8_no).1 (pack_bad bad8_no).2 (by decide) (by decide) (by decide) (by decide), hMayB_ok _ _ _ bad8 _ rfl bad8_no (by decide) (by decide) (by decide) (by decide), hErr_ok _ _, hAwake_ok _, trivial⟩ [] (x := .v (.bool true)) (ob := [IntKind.i64.wrap (n : Int) = (n : Int), TV.int .i64 ((n : Int) % ((16 : Nat) : Int)) = TV.int .i64 8, 0 ≤ (n : Int) ∧ (0 : Int) < ((16 : Nat) : Int), 0 ≤ (8 : Int) ∧ (8 : Int) < ((16 : Nat) : Int)] ++ qL (hPackB 4025 bad8 2 [] 1) ++ qL (hMayB 4025 bad8 2 false) ++ qL (hErr 1) ++ qL hAwake) (by kernel_rfl) ?_ fun ρ w' hf _ => ⟨rfl, hf.below⟩
      exact all_append.2 ⟨all_append.2 ⟨all_append.2 ⟨all_append.2 ⟨⟨hwr, by rw [show (n : Int) % ((16 : Nat) : Int) = 8 from hkn], by omega, by omega, trivial⟩, all_qL _⟩, all_qL _⟩, all_qL _⟩, all_qL _⟩
    · refine At.fin rfl [(2005005, .val (.int .i64 9)), (6001, hPackB 4027 bad9 1 [] 1), (7001, hMayB 4027 bad9 1 false), (7009, hErr 1), (7013, hAwake)] ⟨trivial, hPackB_ok _ _ _ bad9 _ _ rfl (pack_bad bad9_no).1 (pack_bad bad9_no).2 (by decide) (by decide) (by decide) (by decide), hMayB_ok _ _ _ bad9 _ rfl bad9_no (by decide) (by decide) (by decide) (by decide), hErr_ok _ _, hAwake_ok _, trivial⟩ [] (x := .v (.bool true)) (ob := [IntKind.i64.wrap (n : Int) = (n : Int), TV.int .i64 ((n : Int) % ((16 : Nat) : Int)) = TV.int .i64 9, 0 ≤ (n : Int) ∧ (0 : Int) < ((16 : Nat) : Int), 0 ≤ (9 : Int) ∧ (9 : Int) < ((16 : Nat) : Int)] ++ qL (hPackB 4027 bad9 1 [] 1) ++ qL (hMayB 4027 bad9 1 false) ++ qL (hErr 1) ++ qL hAwake) (by kernel_rfl) ?_ fun ρ w' hf _ => ⟨rfl, hf.below⟩
      exact all_append.2 ⟨all_append.2 ⟨all_append.2 ⟨all_append.2 ⟨⟨hwr, by rw [show (n : Int) % ((16 : Nat) : Int) = 9 from hkn], by omega, by omega, trivial⟩, all_qL _⟩, all_qL _⟩, all_qL _⟩, all_qL _⟩
    · refine At.fin rfl [(2005005, .val (.int .i64 10)), (6001, hPackB 4029 bad10 1 [] 1), (7001, hMayB 4029 bad10 1 false), (7009, hErr 1), (7013, hAwake)] ⟨trivial, hPackB_ok _ _ _ bad10 _ _ rfl (pack_bad bad10_no).1 (pack_bad bad10_no).2 (by decide) (by decide) (by decide) (by decide), hMayB_ok _ _ _ bad10 _ rfl bad10_no (by decide) (by decide) (by decide) (by decide), hErr_ok _ _, hAwake_ok _, trivial⟩ [] (x := .v (.bool true)) (ob := [IntKind.i64.wrap (n : Int) = (n : Int), TV.int .i64 ((n : Int) % ((16 : Nat) : Int)) = TV.int .i64 10, 0 ≤ (n : Int) ∧ (0 : Int) < ((16 : Nat) : Int), 0 ≤ (10 : Int) ∧ (10 : Int) < ((16 : Nat) : Int)] ++ qL (hPackB 4029 bad10 1 [] 1) ++ qL (hMayB 4029 bad10 1 false) ++ qL (hErr 1) ++ qL hAwake) (by kernel_rfl) ?_ fun ρ w' hf _ => ⟨rfl, hf.below⟩
      exact all_append.2 ⟨all_append.2 ⟨all_append.2 ⟨all_append.2 ⟨⟨hwr, by rw [show (n : Int) % ((16 : Nat) : Int) = 10 from hkn], by omega, by omega, trivial⟩, all_qL _⟩, all_qL _⟩, all_qL _⟩, all_qL _⟩
    · refine At.fin rfl [(2005005, .val (.int .i64 11)), (6001, hPackB 4034 bad11 4 [] 1), (7001, hMayB 4034 bad11 4 false), (7009, hErr 1), (7013, hAwake)] ⟨trivial, hPackB_ok _ _ _ bad11 _ _ rfl (pack_bad bad11_no).1 (pack_bad bad11_no).2 (by decide) (by decide) (by decide) (by decide), hMayB_ok _ _ _ bad11 _ rfl bad11_no (by decide) (by decide) (by decide) (by decide), hErr_ok _ _, hAwake_ok _, trivial⟩ [] (x := .v (.bool true)) (ob := [IntKind.i64.wrap (n : Int) = (n : Int), TV.int .i64 ((n : Int) % ((16 : Nat) : Int)) = TV.int .i64 11, 0 ≤ (n : Int) ∧ (0 : Int) < ((16 : Nat) : Int), 0 ≤ (11 : Int) ∧ (11 : Int) < ((16 : Nat) : Int)] ++ qL (hPackB 4034 bad11 4 [] 1) ++ qL (hMayB 4034 bad11 4 false) ++ qL (hErr 1) ++ qL hAwake) (by kernel_rfl) ?_ fun ρ w' hf _ => ⟨rfl, hf.below⟩
      exact all_append.2 ⟨all_append.2 ⟨all_append.2 ⟨all_append.2 ⟨⟨hwr, by rw [show (n : Int) % ((16 : Nat) : Int) = 11 from hkn], by omega, by omega, trivial⟩, all_qL _⟩, all_qL _⟩, all_qL _⟩, all_qL _⟩
    · refine At.fin rfl [(2005005, .val (.int .i64 12)), (6001, hPackB 4037 bad12 2 [] 1), (7001, hMayB 4037 bad12 2 false), (7009, hErr 1), (7013, hAwake)] ⟨trivial, hPackB_ok _ _ _ bad12 _ _ rfl (pack_bad bad12_no).1 (pack_bad bad12_no).2 (by decide) (by decide) (by decide) (by decide), hMayB_ok _ _ _ bad12 _ rfl bad12_no (by decide) (by decide) (by decide) (by decide), hErr_ok _ _, hAwake_ok _, trivial⟩ [] (x := .v (.bool true)) (ob := [IntKind.i64.wrap (n : Int) = (n : Int), TV.int .i64 ((n : Int) % ((16 : Nat) : Int)) = TV.int .i64 12, 0 ≤ (n : Int) ∧ (0 : Int) < ((16 : Nat) : Int), 0 ≤ (12 : Int) ∧ (12 : Int) < ((16 : Nat) : Int)] ++ qL (hPackB 4037 bad12 2 [] 1) ++ qL (hMayB 4037 bad12 2 false) ++ qL (hErr 1) ++ qL hAwake) (by kernel_rfl) ?_ fun ρ w' hf _ => ⟨rfl, hf.below⟩
      exact all_append.2 ⟨all_append.2 ⟨all_append.2 ⟨all_append.2 ⟨⟨hwr, by rw [show (n : Int) % ((16 : Nat) : Int) = 12 from hkn], by omega, by omega, trivial⟩, all_qL _⟩, all_qL _⟩, all_qL _⟩, all_qL _⟩
    · refine At.fin rfl [(2005005, .val (.int .i64 13)), (6001, hPackB 4039 bad13 1 [] 1), (7001, hMayB 4039 bad13 1 false), (7009, hErr 1), (7013, hAwake)] ⟨trivial, hPackB_ok _ _ _ bad13 _ _ rfl (pack_bad bad13_no).1 (pack_bad bad13_no).2 (by decide) (by decide) (by decide) (by decide), hMayB_ok _ _ _ bad13 _ rfl bad13_no (by decide) (by decide) (by decide) (by decide), hErr_ok _ _, hAwake_ok _, trivial⟩ [] (x := .v (.bool true)) (ob := [IntKind.i64.wrap (n : Int) = (n : Int), TV.int .i64 ((n : Int) % ((16 : Nat) : Int)) = TV.int .i64 13, 0 ≤ (n : Int) ∧ (0 : Int) < ((16 : Nat) : Int), 0 ≤ (13 : Int) ∧ (13 : Int) < ((16 : Nat) : Int)] ++ qL (hPackB 4039 bad13 1 [] 1) ++ qL (hMayB 4039 bad13 1 false) ++ qL (hErr 1) ++ qL hAwake) (by kernel_rfl) ?_ fun ρ w' hf _ => ⟨rfl, hf.below⟩
      exact all_append.2 ⟨all_append.2 ⟨all_append.2 ⟨all_append.2 ⟨⟨hwr, by rw [show (n : Int) % ((16 : Nat) : Int) = 13 from hkn], by omega, by omega, trivial⟩, all_qL _⟩, all_qL _⟩, all_qL _⟩, all_qL _⟩
    · refine At.fin rfl [(2005005, .val (.int .i64 14)), (6001, hPackB 4042 bad14 2 [] 1), (7001, hMayB 4042 bad14 2 false), (7009, hErr 1), (7013, hAwake)] ⟨trivial, hPackB_ok _ _ _ bad14 _ _ rfl (pack_bad bad14_no).1 (pack_bad bad14_no).2 (by decide) (by decide) (by decide) (by decide), hMayB_ok _ _ _ bad14 _ rfl bad14_no (by decide) (by decide) (by decide) (by decide), hErr_ok _ _, hAwake_ok _, trivial⟩ [] (x := .v (.bool true)) (ob := [IntKind.i64.wrap (n : Int) = (n : Int), TV.int .i64 ((n : Int) % ((16 : Nat) : Int)) = TV.int .i64 14, 0 ≤ (n : Int) ∧ (0 : Int) < ((16 : Nat) : Int), 0 ≤ (14 : Int) ∧ (14 : Int) < ((16 : Nat) : Int)] ++ qL (hPackB 4042 bad14 2 [] 1) ++ qL (hMayB 4042 bad14 2 false) ++ qL (hErr 1) ++ qL hAwake) (by kernel_rfl) ?_ fun ρ w' hf _ => ⟨rfl, hf.below⟩
      exact all_append.2 ⟨all_append.2 ⟨all_append.2 ⟨all_append.2 ⟨⟨hwr, by rw [show (n : Int) % ((16 : Nat) : Int) = 14 from hkn], by omega, by omega, trivial⟩, all_qL _⟩, all_qL _⟩, all_qL _⟩, all_qL _⟩
    · refine At.fin rfl [(2005005, .val (.int .i64 15)), (6001, hPackB 4045 bad15 2 [] 1), (7001, hMayB 4045 bad15 2 false), (7009, hErr 1), (7013, hAwake)] ⟨trivial, hPackB_ok _ _ _ bad15 _ _ rfl (pack_bad bad15_no).1 (pack_bad bad15_no).2 (by decide) (by decide) (by decide) (by decide), hMayB_ok _ _ _ bad15 _ rfl bad15_no (by decide) (by decide) (by decide) (by decide), hErr_ok _ _, hAwake_ok _, trivial⟩ [] (x := .v (.bool true)) (ob := [IntKind.i64.wrap (n : Int) = (n : Int), TV.int .i64 ((n : Int) % ((16 : Nat) : Int)) = TV.int .i64 15, 0 ≤ (n : Int) ∧ (0 : Int) < ((16 : Nat) : Int), 0 ≤ (15 : Int) ∧ (15 : Int) < ((16 : Nat) : Int)] ++ qL (hPackB 4045 bad15 2 [] 1) ++ qL (hMayB 4045 bad15 2 false) ++ qL (hErr 1) ++ qL hAwake) (by kernel_rfl) ?_ fun ρ w' hf _ => ⟨rfl, hf.below⟩
      exact all_append.2 ⟨all_append.2 ⟨all_append.2 ⟨all_append.2 ⟨⟨hwr, by rw [show (n : Int) % ((16 : Nat) : Int) = 15 from hkn], by omega, by omega, trivial⟩, all_qL _⟩, all_qL _⟩, all_qL _⟩, all_qL _⟩
end
end Go.Proofs.YtgbaaiedpiiepaaDoor
/- The engine: a slice's capacity, where a row tells it, as a letter; lists of duties. No condition of its own. -/
namespace Go.Proofs.YtgbaaiedpiiepaaDoor.E
set_option linter.unusedSimpArgs false
open Go Go.RowKit
set_option linter.unusedVariables false
def allL : List (List Prop) → Prop
  | [] => True
  | l :: m => all l ∧ allL m
theorem all_flat : ∀ {ls : List (List Prop)}, allL ls → all ls.flatten
  | [], _ => trivial
  | _ :: _, h => by rw [List.flatten_cons]; exact all_append.2 ⟨h.1, all_flat h.2⟩
theorem findT_swap {t u : Nat} {x y z : TV} {post : List (Nat × TV)} : ∀ {pre : List (Nat × TV)}, findT (pre ++ (t, y) :: post) u = some z → findT (pre ++ (t, x) :: post) u = some z ∨ (z = y ∧ findT (pre ++ (t, x) :: post) u = some x)
  | [], h => by
    have h2 : (bif Nat.beq t u then some y else findT post u) = some z := h
    show (bif Nat.beq t u then some x else findT post u) = some z ∨ (z = y ∧ (bif Nat.beq t u then some x else findT post u) = some x)
    cases hb : Nat.beq t u with
    | true => rw [hb] at h2; exact .inr ⟨(Option.some.inj h2).symm, rfl⟩
    | false => rw [hb] at h2; exact .inl h2
  | p :: pre, h => by
    have h2 : (bif Nat.beq p.1 u then some p.2 else findT (pre ++ (t, y) :: post) u) = some z := h
    show (bif Nat.beq p.1 u then some p.2 else findT (pre ++ (t, x) :: post) u) = some z ∨ (z = y ∧ (bif Nat.beq p.1 u then some p.2 else findT (pre ++ (t, x) :: post) u) = some x)
    cases hb : Nat.beq p.1 u with
    | true => rw [hb] at h2; exact .inl h2
    | false => rw [hb] at h2; exact findT_swap h2
/-- A slice of a whole row: its capacity is some number that is great enough. -/
theorem At.cap {r : Option Nat} {mk : List Nat} {kn : List (Nat × Blk)} {P : Program} {w0 : World} {wr : Bs} {n : Nat} {gl : List Nat} {todo : List Item} {Q : Exit → Act → World → Prop} {rows : List (Nat × Row)} (pre post : List (Nat × TV)) (t q len k : Nat) (row : Row) {e : TypeId}
    (hk : 0 < k) (hr : findR rows q = some row) (hc : row.cp = some (e, k)) (hl : ∀ ρ, (lst ρ row.ps).length = len * k)
    (h : ∀ c, c + len ≤ maxLen → At P w0 wr n gl todo Q (pre ++ (t, .s (.lf (.sl q 0 0 k len (some (c + len))))) :: post) rows r mk kn) :
    At P w0 wr n gl todo Q (pre ++ (t, .s (.lf (.sl q 0 0 k len none))) :: post) rows r mk kn := by
  intro a w ρ hd
  obtain ⟨g1, _⟩ := hd.rw q row hr
  obtain ⟨g2, g3, g4, _⟩ := g1.2.2.1 e k hc
  rw [hl] at g4
  have hle : len ≤ (ρ q).3 := Nat.le_of_mul_le_mul_right g4 hk
  refine h ((ρ q).3 - len) (by omega) a w ρ ⟨hd.sz, hd.df, hd.mf, hd.ko, fun u x hx => ?_, hd.rw, hd.ds, hd.fr, hd.e0, hd.ku, hd.gl, hd.kn⟩
  rcases findT_swap (x := .s (.lf (.sl q 0 0 k len none))) hx with h1 | ⟨rfl, h1⟩
  · exact hd.tm u x h1
  · obtain ⟨q1, q2, q3⟩ := hd.tm u _ h1
    refine ⟨?_, trivial, q3⟩
    rw [q1]
    simp only [TV.val, SV.val, Lf.val, capOf]
    rw [show (ρ q).3 - len + len = (ρ q).3 by omega, Nat.sub_zero]
end Go.Proofs.YtgbaaiedpiiepaaDoor.E
/- NarKnown: a file, one that is executable, a link, an empty directory, byte for byte: the law returns true whatever comes in. No condition. -/
namespace Go.Proofs.YtgbaaiedpiiepaaDoor
open Go.RowKit Go.Shelf
set_option linter.unusedVariables false
set_option linter.unusedSimpArgs false
section
open E
theorem allC_app {P : Program} : ∀ {a b : List (Nat × Hint)}, allC P a → allC P b → allC P (a ++ b)
  | [], _, _, h => h
  | _ :: _, _, h, h2 => ⟨h.1, allC_app h.2 h2⟩
abbrev hS (p : List UInt8) : Hint := pc 21 #[stv p] (.v (stv (strsL [p])))
theorem hS_ok (id : Nat) (p : List UInt8) (hp : p.length ≤ 1000000) : HintOk Tryd.prog id (hS p) := pc_ok ent21 (v := stv (strsL [p])) rfl (fun _ => rfl) fun w => by rw [show strsL [p] = strL p by simp [strsL]]; exact pstr_any p hp w
abbrev dAdd (l : List (List UInt8)) (y : List UInt8) : List Prop := [TV.v (.string (bl (strsL l ++ strsL [y]))) = TV.v (stv (strsL (l ++ [y]))), ((strsL l).length : Int) + ((strsL [y]).length : Int) ≤ 9223372036854775807]
theorem dAdd_ok (l : List (List UInt8)) (y : List UInt8) (h : (strsL (l ++ [y])).length ≤ 100000) : all (dAdd l y) := by
  rw [strsL_app] at h
  refine ⟨by rw [strsL_app]; rfl, ?_, trivial⟩
  rw [List.length_append] at h
  omega
theorem strsL_size : ∀ l : List (List UInt8), (strsL l).length ≤ (l.map fun s => 16 + s.length).sum
  | [] => by simp [strsL]
  | a :: l => by
    have h1 := strL_le a
    have h2 := strsL_size l
    rw [strsL_cons, List.length_append, List.map_cons, List.sum_cons]
    omega
abbrev csK (s : List UInt8) : List (Nat × Hint) := [(4000, hS tMagic), (4001, hS tOpen), (2004002, .val (.v (stv (strsL ([tMagic] ++ [tOpen]))))), (4003, hS tType), (2004004, .val (.v (stv (strsL ([tMagic, tOpen] ++ [tType]))))), (6001, hS tReg), (2006002, .val (.v (stv (strsL ([tMagic, tOpen, tType] ++ [tReg]))))), (6003, hS tCont), (2006004, .val (.v (stv (strsL ([tMagic, tOpen, tType, tReg] ++ [tCont]))))), (6006, hS s), (2006007, .val (.v (stv (strsL ([tMagic, tOpen, tType, tReg, tCont] ++ [s]))))), (6009, hS tReg), (2006010, .val (.v (stv (strsL ([tMagic, tOpen, tType] ++ [tReg]))))), (6011, hS tExec), (2006012, .val (.v (stv (strsL ([tMagic, tOpen, tType, tReg] ++ [tExec]))))), (6013, hS []), (2006014, .val (.v (stv (strsL ([tMagic, tOpen, tType, tReg, tExec] ++ [[]]))))), (6015, hS tCont), (2006016, .val (.v (stv (strsL ([tMagic, tOpen, tType, tReg, tExec, []] ++ [tCont]))))), (6018, hS s), (2006019, .val (.v (stv (strsL ([tMagic, tOpen, tType, tReg, tExec, [], tCont] ++ [s]))))), (6021, hS tSym), (2006022, .val (.v (stv (strsL ([tMagic, tOpen, tType] ++ [tSym]))))), (6023, hS tTarg), (2006024, .val (.v (stv (strsL ([tMagic, tOpen, tType, tSym] ++ [tTarg]))))), (6025, hS [116, 111]), (2006026, .val (.v (stv (strsL ([tMagic, tOpen, tType, tSym, tTarg] ++ [[116, 111]]))))), (6028, hS tDir), (2006029, .val (.v (stv (strsL ([tMagic, tOpen, tType] ++ [tDir])))))]
theorem csK_ok (s : List UInt8) (hs : s.length ≤ 200) : allC Tryd.prog (csK s) := ⟨hS_ok _ _ (by decide), hS_ok _ _ (by decide), trivial, hS_ok _ _ (by decide), trivial, hS_ok _ _ (by decide), trivial, hS_ok _ _ (by decide), trivial, hS_ok _ _ (by omega), trivial, hS_ok _ _ (by decide), trivial, hS_ok _ _ (by decide), trivial, hS_ok _ _ (by decide), trivial, hS_ok _ _ (by decide), trivial, hS_ok _ _ (by omega), trivial, hS_ok _ _ (by decide), trivial, hS_ok _ _ (by decide), trivial, hS_ok _ _ (by decide), trivial, hS_ok _ _ (by decide), trivial, trivial⟩
abbrev obK (s : List UInt8) : List (List Prop) := [qL (hS tMagic), qL (hS tOpen), dAdd [tMagic] tOpen, qL (hS tType), dAdd [tMagic, tOpen] tType, qL (hS tReg), dAdd [tMagic, tOpen, tType] tReg, qL (hS tCont), dAdd [tMagic, tOpen, tType, tReg] tCont, qL (hS s), dAdd [tMagic, tOpen, tType, tReg, tCont] s, qL (hS tReg), dAdd [tMagic, tOpen, tType] tReg, qL (hS tExec), dAdd [tMagic, tOpen, tType, tReg] tExec, qL (hS []), dAdd [tMagic, tOpen, tType, tReg, tExec] [], qL (hS tCont), dAdd [tMagic, tOpen, tType, tReg, tExec, []] tCont, qL (hS s), dAdd [tMagic, tOpen, tType, tReg, tExec, [], tCont] s, qL (hS tSym), dAdd [tMagic, tOpen, tType] tSym, qL (hS tTarg), dAdd [tMagic, tOpen, tType, tSym] tTarg, qL (hS [116, 111]), dAdd [tMagic, tOpen, tType, tSym, tTarg] [116, 111], qL (hS tDir), dAdd [tMagic, tOpen, tType] tDir]
theorem size_K (s : List UInt8) (hs : s.length ≤ 200) (l : List (List UInt8)) (h : (l.map fun t => 16 + t.length).sum ≤ 1000) : (strsL l).length ≤ 100000 := Nat.le_trans (strsL_size l) (by omega)
theorem obK_ok (s : List UInt8) (hs : s.length ≤ 200) : allL (obK s) := ⟨all_qL _, all_qL _, dAdd_ok _ _ (size_K s hs _ (by simp [tMagic, tOpen, tType, tReg, tCont, tExec, tSym, tTarg, tDir]; try omega)), all_qL _, dAdd_ok _ _ (size_K s hs _ (by simp [tMagic, tOpen, tType, tReg, tCont, tExec, tSym, tTarg, tDir]; try omega)), all_qL _, dAdd_ok _ _ (size_K s hs _ (by simp [tMagic, tOpen, tType, tReg, tCont, tExec, tSym, tTarg, tDir]; try omega)), all_qL _, dAdd_ok _ _ (size_K s hs _ (by simp [tMagic, tOpen, tType, tReg, tCont, tExec, tSym, tTarg, tDir]; try omega)), all_qL _, dAdd_ok _ _ (size_K s hs _ (by simp [tMagic, tOpen, tType, tReg, tCont, tExec, tSym, tTarg, tDir]; try omega)), all_qL _, dAdd_ok _ _ (size_K s hs _ (by simp [tMagic, tOpen, tType, tReg, tCont, tExec, tSym, tTarg, tDir]; try omega)), all_qL _, dAdd_ok _ _ (size_K s hs _ (by simp [tMagic, tOpen, tType, tReg, tCont, tExec, tSym, tTarg, tDir]; try omega)), all_qL _, dAdd_ok _ _ (size_K s hs _ (by simp [tMagic, tOpen, tType, tReg, tCont, tExec, tSym, tTarg, tDir]; try omega)), all_qL _, dAdd_ok _ _ (size_K s hs _ (by simp [tMagic, tOpen, tType, tReg, tCont, tExec, tSym, tTarg, tDir]; try omega)), all_qL _, dAdd_ok _ _ (size_K s hs _ (by simp [tMagic, tOpen, tType, tReg, tCont, tExec, tSym, tTarg, tDir]; try omega)), all_qL _, dAdd_ok _ _ (size_K s hs _ (by simp [tMagic, tOpen, tType, tReg, tCont, tExec, tSym, tTarg, tDir]; try omega)), all_qL _, dAdd_ok _ _ (size_K s hs _ (by simp [tMagic, tOpen, tType, tReg, tCont, tExec, tSym, tTarg, tDir]; try omega)), all_qL _, dAdd_ok _ _ (size_K s hs _ (by simp [tMagic, tOpen, tType, tReg, tCont, tExec, tSym, tTarg, tDir]; try omega)), all_qL _, dAdd_ok _ _ (size_K s hs _ (by simp [tMagic, tOpen, tType, tReg, tCont, tExec, tSym, tTarg, tDir]; try omega)), trivial⟩
abbrev ndK (s : List UInt8) : Nat → Nd
  | 0 => ⟨[], 1, s⟩
  | 1 => ⟨[], 2, s⟩
  | 2 => ⟨[], 3, [116, 111]⟩
  | _ => ⟨[], 4, []⟩
abbrev listK (s : List UInt8) : Nat → List (List UInt8)
  | 0 => [tMagic, tOpen, tType, tReg, tCont, s]
  | 1 => [tMagic, tOpen, tType, tReg, tExec, [], tCont, s]
  | 2 => [tMagic, tOpen, tType, tSym, tTarg, [116, 111]]
  | _ => [tMagic, tOpen, tType, tDir]
abbrev csV (s : List UInt8) : List Value := [stv [], .int .i64 1, stv s, stv [], .int .i64 2, stv s, stv [], .int .i64 3, stv [116, 111], stv [], .int .i64 4, stv []]
abbrev rowsK (s : List UInt8) : List (Nat × Row) := [(5006, rowB (csV s) 4), (6030, ⟨[.fnc (chunkF [stv (strsL (listK s 0)), stv (strsL (listK s 1)), stv (strsL (listK s 2)), stv (strsL (listK s 3))] 1 4) 1 4], true, some (9, 1)⟩)]
abbrev tmK (n : Nat) (s : List UInt8) : List (Nat × TV) := [(0, .int .u8 n), (1, .v (stv s)), (6, .s (.lf (.sl 5006 0 0 3 4 none))), (7, .s (.lf (.sl 6030 0 0 1 4 none)))]
def l4 (s : List UInt8) : List Nd := [ndK s 0, ndK s 1, ndK s 2, ndK s 3]
theorem l4_cs (s : List UInt8) : csV s = ndsV (l4 s) := rfl
abbrev hPackK (s : List UInt8) (k c : Nat) (S : List UInt8) : Hint := pr 12 (fun ρ => #[.slice (some ⟨(ρ 5006).1, (ρ 5006).2 + (0 + k * 3), none⟩) 1 (c + 4 - k)]) (.tup [.lf (.v (stv S)), .lf (.v (.int .i64 0))]) [(5006, rowB (csV s) 4)]
theorem mayK (s : List UInt8) (hs : s.length ≤ 200) (k : Nat) : mayL [ndK s k] = true := by
  match k with
  | 0 => show mayL [⟨[], 1, s⟩] = true; simp [mayL, mayDataL, restU_succ, fuelN]; omega
  | 1 => show mayL [⟨[], 2, s⟩] = true; simp [mayL, mayDataL, restU_succ, fuelN]; omega
  | 2 => show mayL [⟨[], 3, [116, 111]⟩] = true; simp [mayL, mayDataL, restU_succ, fuelN]
  | k + 3 => show mayL [⟨[], 4, []⟩] = true; simp [mayL, mayDataL, restU_succ, fuelN, loopU_nil]
theorem tree_one (s : List UInt8) (k : Nat) : treeL [ndK s k] = strsL (listK s k ++ [tClose]) := by
  match k with
  | 0 => show treeL [⟨[], 1, s⟩] = strsL [tMagic, tOpen, tType, tReg, tCont, s, tClose]; simp [treeL, fuelN, bytU_succ, strsL]
  | 1 => show treeL [⟨[], 2, s⟩] = strsL [tMagic, tOpen, tType, tReg, tExec, [], tCont, s, tClose]; simp [treeL, fuelN, bytU_succ, strsL]
  | 2 => show treeL [⟨[], 3, [116, 111]⟩] = strsL [tMagic, tOpen, tType, tSym, tTarg, [116, 111], tClose]; simp [treeL, fuelN, bytU_succ, strsL]
  | k + 3 => show treeL [⟨[], 4, []⟩] = strsL [tMagic, tOpen, tType, tDir, tClose]; simp [treeL, fuelN, bytU_succ, entU_nil, strsL]
theorem hPackK_ok (id : Nat) (s : List UInt8) (hs : s.length ≤ 200) (k c : Nat) (hk : k < 4) (hc : c + 4 ≤ maxLen) : HintOk Tryd.prog id (hPackK s k c (strsL (listK s k ++ [tClose]))) := by
  refine pr_ok ent12 (v := .tuple #[stv (strsL (listK s k ++ [tClose])), .int .i64 0]) (ok2 rfl rfl) (fun _ => rfl) fun ρ w h => ?_
  have h1 := h (5006, rowB (csV s) 4) (by simp)
  have hN : Nodes w (ρ 5006).1 (ρ 5006).2 (l4 s) := by
    rw [l4_cs] at h1
    exact row_nodes (l := l4 s) h1 (Nat.le_refl _) (fun i hi => (congrArg List.length (chunk_nd (l4 s) i hi)).trans rfl) (fun i hi => chunk_nd (l4 s) i hi)
  have hN2 := nodes_sub hN k 1 (Nat.le_refl _) (by show k + 1 ≤ 4; omega)
  have e : ndf (l4 s) k :: subl (l4 s) k 1 = [ndK s k] := by
    have : k = 0 ∨ k = 1 ∨ k = 2 ∨ k = 3 := by omega
    rcases this with rfl | rfl | rfl | rfl <;> rfl
  rw [e] at hN2
  have h2 := ppack_any (.slice (some ⟨(ρ 5006).1, (ρ 5006).2 + (0 + k * 3), none⟩) 1 (c + 4 - k)) [ndK s k] (by simp) (fun d hd => by
    simp only [List.mem_singleton] at hd; subst hd; match k with
    | 0 => show (0 : Nat) ≤ 10000; omega
    | 1 => show (0 : Nat) ≤ 10000; omega
    | 2 => show (0 : Nat) ≤ 10000; omega
    | k + 3 => show (0 : Nat) ≤ 10000; omega) (fun d hd => by
    simp only [List.mem_singleton] at hd; subst hd; match k with
    | 0 => show s.length ≤ 100000; omega
    | 1 => show s.length ≤ 100000; omega
    | 2 => show (2 : Nat) ≤ 100000; omega
    | k + 3 => show (0 : Nat) ≤ 100000; omega) w ⟨_, _, rfl, by simp; omega, by unfold maxLen at hc; omega, fun _ => ⟨_, _, rfl, hN2⟩⟩
  unfold packS packE at h2
  rw [mayK s hs k, if_pos rfl, if_pos rfl, tree_one] at h2
  exact h2
theorem size_list (s : List UInt8) (hs : s.length ≤ 200) (k : Nat) : (strsL (listK s k ++ [tClose])).length ≤ 100000 := by
  match k with

  | 0 => exact size_K s hs ([tMagic, tOpen, tType, tReg, tCont, s] ++ [tClose]) (by simp [tMagic, tOpen, tType, tReg, tCont, tExec, tSym, tTarg, tDir, tClose]; try omega)
  | 1 => exact size_K s hs ([tMagic, tOpen, tType, tReg, tExec, [], tCont, s] ++ [tClose]) (by simp [tMagic, tOpen, tType, tReg, tCont, tExec, tSym, tTarg, tDir, tClose]; try omega)
  | 2 => exact size_K s hs ([tMagic, tOpen, tType, tSym, tTarg, [116, 111]] ++ [tClose]) (by simp [tMagic, tOpen, tType, tReg, tCont, tExec, tSym, tTarg, tDir, tClose]; try omega)
  | _ + 3 => exact size_K s hs ([tMagic, tOpen, tType, tDir] ++ [tClose]) (by simp [tMagic, tOpen, tType, tReg, tCont, tExec, tSym, tTarg, tDir, tClose]; try omega)
set_option maxRecDepth 100000 in
set_option maxHeartbeats 2000000 in
theorem known_any (n : Nat) (hn : n < 256) (s : List UInt8) (hs0 : s.length ≤ 9223372036854775807) (w : World) : Calls Tryd.prog 7 #[.int .u8 (n : Int), strV s] w fun e w' => e = .returned (.bool true) ∧ Below w.heap.size w w' := by
  refine At.calls (args := [.int .u8 n, .v (stv s)]) (rows := []) (gl := []) (wr := []) (ρ := fun _ => ⟨0, 0, 0⟩) Tryd.func7 rfl rfl (init_pure ⟨rfl, rfl, trivial⟩ rfl) rfl ?_
  by_cases hs : s.length ≤ 200
  · have hsz := fun l h => size_K s hs l h
    refine At.run rfl (csK s) (csK_ok s hs) [.n] (tm2 := [(0, .int .u8 n), (1, .v (stv s)), (6, .s (.lf (.sl 5006 0 0 3 4 none))), (7, .s (.lf (.sl 6030 0 0 1 4 none))), (8, .int .i64 ((n : Int) % 4))]) (rows2 := rowsK s) (ob := [decide ((s.length : Int) > 200) = false] ++ (obK s).flatten ++ [IntKind.i64.wrap (n : Int) = (n : Int), 0 ≤ (n : Int) ∧ (0 : Int) < 4]) (td := rp Tryd.f7 7) (by kernel_rfl) ?_ rfl rfl (by intro h; cases h) ?_
    · exact all_append.2 ⟨all_append.2 ⟨⟨decide_eq_false (by omega), trivial⟩, all_flat (obK_ok s hs)⟩, ⟨by rw [IntKind.wrap_i64]; omega, by omega, trivial⟩⟩
    refine At.cap [(0, .int .u8 n), (1, .v (stv s))] [(7, .s (.lf (.sl 6030 0 0 1 4 none))), (8, .int .i64 ((n : Int) % 4))] 6 5006 4 3 (rowB (csV s) 4) (by omega) rfl rfl (fun ρ => ?_) fun c hc => ?_
    · have h1 := flat_len (f := chunkF (ndsV (l4 s)) 3 4) (k := 3) 4 (fun q hq => (congrArg List.length (chunk_nd (l4 s) q hq)).trans rfl)
      simpa [lst, Pc.arrV, l4_cs] using h1
    obtain ⟨k, hk, hkn⟩ : ∃ k : Nat, k < 4 ∧ (n : Int) % 4 = k := ⟨n % 4, by omega, by omega⟩
    rw [hkn]
    have hcase : k = 0 ∨ k = 1 ∨ k = 2 ∨ k = 3 := by omega
    rcases hcase with rfl | rfl | rfl | rfl
    · refine At.fin rfl [(8005, hPackK s 0 c (strsL (listK s 0 ++ [tClose]))), (9001, hErr 0), (9009, hS tClose), (2009010, .val (.v (stv (strsL (listK s 0 ++ [tClose]))))), (2009011, .val (.v (.bool true))), (9014, hAwake)] ⟨hPackK_ok _ s hs 0 c (by omega) hc, hErr_ok _ _, hS_ok _ _ (by decide), trivial, trivial, hAwake_ok _, trivial⟩ [] (x := .v (.bool true))
        (ob := [[inI ((0 : Int) + 1), 0 ≤ (0 : Int) + 1 ∧ (0 : Int) + 1 ≤ ((c + 4 : Nat) : Int), 0 ≤ (0 : Int) ∧ (0 : Int) ≤ (0 : Int) + 1], qL (hPackK s 0 c (strsL (listK s 0 ++ [tClose]))), qL (hErr 0), [0 ≤ (0 : Int) ∧ (0 : Int) < ((4 : Nat) : Int), 0 < 4], qL (hS tClose), dAdd (listK s 0) tClose, [TV.v (.bool (strsL (listK s 0 ++ [tClose]) == strsL (listK s 0 ++ [tClose]))) = TV.v (.bool true)], qL hAwake].flatten) (by kernel_rfl) ?_ fun ρ w' hf _ => ⟨rfl, hf.below⟩
      exact all_flat ⟨⟨⟨by omega, by omega⟩, by omega, by omega, trivial⟩, all_qL _, all_qL _, ⟨by omega, by omega, trivial⟩, all_qL _, dAdd_ok _ _ (size_list s hs 0), ⟨by simp, trivial⟩, all_qL _, trivial⟩
    · refine At.fin rfl [(8005, hPackK s 1 c (strsL (listK s 1 ++ [tClose]))), (9001, hErr 0), (9009, hS tClose), (2009010, .val (.v (stv (strsL (listK s 1 ++ [tClose]))))), (2009011, .val (.v (.bool true))), (9014, hAwake)] ⟨hPackK_ok _ s hs 1 c (by omega) hc, hErr_ok _ _, hS_ok _ _ (by decide), trivial, trivial, hAwake_ok _, trivial⟩ [] (x := .v (.bool true))
        (ob := [[inI ((1 : Int) + 1), 0 ≤ (1 : Int) + 1 ∧ (1 : Int) + 1 ≤ ((c + 4 : Nat) : Int), 0 ≤ (1 : Int) ∧ (1 : Int) ≤ (1 : Int) + 1], qL (hPackK s 1 c (strsL (listK s 1 ++ [tClose]))), qL (hErr 0), [0 ≤ (1 : Int) ∧ (1 : Int) < ((4 : Nat) : Int), 1 < 4], qL (hS tClose), dAdd (listK s 1) tClose, [TV.v (.bool (strsL (listK s 1 ++ [tClose]) == strsL (listK s 1 ++ [tClose]))) = TV.v (.bool true)], qL hAwake].flatten) (by kernel_rfl) ?_ fun ρ w' hf _ => ⟨rfl, hf.below⟩
      exact all_flat ⟨⟨⟨by omega, by omega⟩, by omega, by omega, trivial⟩, all_qL _, all_qL _, ⟨by omega, by omega, trivial⟩, all_qL _, dAdd_ok _ _ (size_list s hs 1), ⟨by simp, trivial⟩, all_qL _, trivial⟩
    · refine At.fin rfl [(8005, hPackK s 2 c (strsL (listK s 2 ++ [tClose]))), (9001, hErr 0), (9009, hS tClose), (2009010, .val (.v (stv (strsL (listK s 2 ++ [tClose]))))), (2009011, .val (.v (.bool true))), (9014, hAwake)] ⟨hPackK_ok _ s hs 2 c (by omega) hc, hErr_ok _ _, hS_ok _ _ (by decide), trivial, trivial, hAwake_ok _, trivial⟩ [] (x := .v (.bool true))
        (ob := [[inI ((2 : Int) + 1), 0 ≤ (2 : Int) + 1 ∧ (2 : Int) + 1 ≤ ((c + 4 : Nat) : Int), 0 ≤ (2 : Int) ∧ (2 : Int) ≤ (2 : Int) + 1], qL (hPackK s 2 c (strsL (listK s 2 ++ [tClose]))), qL (hErr 0), [0 ≤ (2 : Int) ∧ (2 : Int) < ((4 : Nat) : Int), 2 < 4], qL (hS tClose), dAdd (listK s 2) tClose, [TV.v (.bool (strsL (listK s 2 ++ [tClose]) == strsL (listK s 2 ++ [tClose]))) = TV.v (.bool true)], qL hAwake].flatten) (by kernel_rfl) ?_ fun ρ w' hf _ => ⟨rfl, hf.below⟩
      exact all_flat ⟨⟨⟨by omega, by omega⟩, by omega, by omega, trivial⟩, all_qL _, all_qL _, ⟨by omega, by omega, trivial⟩, all_qL _, dAdd_ok _ _ (size_list s hs 2), ⟨by simp, trivial⟩, all_qL _, trivial⟩
    · refine At.fin rfl [(8005, hPackK s 3 c (strsL (listK s 3 ++ [tClose]))), (9001, hErr 0), (9009, hS tClose), (2009010, .val (.v (stv (strsL (listK s 3 ++ [tClose]))))), (2009011, .val (.v (.bool true))), (9014, hAwake)] ⟨hPackK_ok _ s hs 3 c (by omega) hc, hErr_ok _ _, hS_ok _ _ (by decide), trivial, trivial, hAwake_ok _, trivial⟩ [] (x := .v (.bool true))
        (ob := [[inI ((3 : Int) + 1), 0 ≤ (3 : Int) + 1 ∧ (3 : Int) + 1 ≤ ((c + 4 : Nat) : Int), 0 ≤ (3 : Int) ∧ (3 : Int) ≤ (3 : Int) + 1], qL (hPackK s 3 c (strsL (listK s 3 ++ [tClose]))), qL (hErr 0), [0 ≤ (3 : Int) ∧ (3 : Int) < ((4 : Nat) : Int), 3 < 4], qL (hS tClose), dAdd (listK s 3) tClose, [TV.v (.bool (strsL (listK s 3 ++ [tClose]) == strsL (listK s 3 ++ [tClose]))) = TV.v (.bool true)], qL hAwake].flatten) (by kernel_rfl) ?_ fun ρ w' hf _ => ⟨rfl, hf.below⟩
      exact all_flat ⟨⟨⟨by omega, by omega⟩, by omega, by omega, trivial⟩, all_qL _, all_qL _, ⟨by omega, by omega, trivial⟩, all_qL _, dAdd_ok _ _ (size_list s hs 3), ⟨by simp, trivial⟩, all_qL _, trivial⟩
  · refine At.fin rfl [(3000, hAwake)] ⟨hAwake_ok _, trivial⟩ [.y] (x := .v (.bool true)) (ob := [decide ((s.length : Int) > 200) = true] ++ qL hAwake) (by kernel_rfl) (all_append.2 ⟨⟨decide_eq_true (by omega), trivial⟩, all_qL _⟩) fun ρ w' hf _ => ⟨rfl, hf.below⟩
end
end Go.Proofs.YtgbaaiedpiiepaaDoor
