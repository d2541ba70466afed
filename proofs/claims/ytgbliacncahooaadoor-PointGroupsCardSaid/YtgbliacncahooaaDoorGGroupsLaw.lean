/- The law PointGroups walked: it returns true at any numbers, and no memory that was there is changed. No condition but that the numbers stand in memory. -/
import Derived.Test.YtgbliacncahooaaDoorGConv8
namespace Go.Proofs.YtgbliacncahooaaDoor
open Go.RowKit Go.Shelf
set_option linter.unusedVariables false
set_option linter.unusedSimpArgs false
set_option maxRecDepth 100000 in
set_option maxHeartbeats 8000000 in
theorem groups_any (a b c m n : Nat) (Wa : a < 18446744073709551616) (Wb : b < 18446744073709551616) (Wc : c < 18446744073709551616) (Wm0 : m < 4294967296) (Wn0 : n < 4294967296) (w : World) (hG0 : Glob w) :
    Calls Tryd.prog 9 #[.int .u64 (a : Int), .int .u64 (b : Int), .int .u64 (c : Int), .int .u32 (m : Int), .int .u32 (n : Int)] w fun e w' => e = .returned (.bool true) ∧ Below w.heap.size w w' := by
  have HG := Lib.hid hG0
  obtain ⟨a8, ha80⟩ : ∃ a8, a8 = a % 256 := ⟨_, rfl⟩
  have ha8 := Lib.hid ha80
  have Wa8 : a8 < 256 := by omega
  obtain ⟨b8, hb80⟩ : ∃ b8, b8 = b % 256 := ⟨_, rfl⟩
  have hb8 := Lib.hid hb80
  have Wb8 : b8 < 256 := by omega
  obtain ⟨c8, hc80⟩ : ∃ c8, c8 = c % 256 := ⟨_, rfl⟩
  have hc8 := Lib.hid hc80
  have Wc8 : c8 < 256 := by omega
  obtain ⟨mn, hmn0⟩ : ∃ mn, mn = m + n := ⟨_, rfl⟩
  have hmn := Lib.hid hmn0
  have Wmn : mn < 18446744073709551616 := by omega
  have Wm : m < 18446744073709551616 := by omega
  have Wn : n < 18446744073709551616 := by omega
  have HC6 := Lib.hid (some_any a a8 Wa Wa8)
  have HC10 := Lib.hid (some_any b b8 Wb Wb8)
  have HC14 := Lib.hid (some_any c c8 Wc Wc8)
  have HC21 : Hid (∀ w, Glob w → _) := Lib.hid (mul_pt (m) (someN a a8) (lt64 m Wm) (someN_on a a8))
  try dsimp only at HC21
  have HC25 : Hid (∀ w, Glob w → _) := Lib.hid (mul_pt (n) (someN a a8) (lt64 n Wn) (someN_on a a8))
  try dsimp only at HC25
  have HC31 := Lib.hid (rsub_any (0) (1) (by decide) (by decide))
  rw [sub01] at HC31
  have HC35 : Hid (∀ w, Glob w → _) := Lib.hid (add_any (mulN (m) (someN a a8)) (mulN (n) (someN a a8)) (mulN_on (someN_on a a8) (m)) (mulN_on (someN_on a a8) (n)))
  try dsimp only at HC35
  rw [show addN (mulN m (someN a a8)) (mulN n (someN a a8)) = mulN mn (someN a a8) by rw [hmn.out]; exact (mulN_add (someN_on a a8) m n).symm] at HC35
  have HC39 : Hid (∀ w, Glob w → _) := Lib.hid (mul_pt (mn) (someN a a8) (lt64 mn Wmn) (someN_on a a8))
  try dsimp only at HC39
  have HC40 : Hid (∀ w, Glob w → _) := Lib.hid (add_any (someN a a8) (someN b b8) (someN_on a a8) (someN_on b b8))
  try dsimp only at HC40
  have HC44 : Hid (∀ w, Glob w → _) := Lib.hid (add_any (addN (someN a a8) (someN b b8)) (someN c c8) (addN_on (someN_on a a8) (someN_on b b8)) (someN_on c c8))
  try dsimp only at HC44
  rw [addN_assoc (someN_on a a8) (someN_on b b8) (someN_on c c8)] at HC44
  have HC48 : Hid (∀ w, Glob w → _) := Lib.hid (add_any (someN b b8) (someN c c8) (someN_on b b8) (someN_on c c8))
  try dsimp only at HC48
  have HC52 : Hid (∀ w, Glob w → _) := Lib.hid (add_any (someN a a8) (addN (someN b b8) (someN c c8)) (someN_on a a8) (addN_on (someN_on b b8) (someN_on c c8)))
  try dsimp only at HC52
  have HC53 : Hid (∀ w, Glob w → _) := Lib.hid (on_pt (0) (pp - 1) (someN_two))
  have HC54 : Hid (∀ w, Glob w → _) := Lib.hid (add_any ((0, pp - 1)) ((0, pp - 1)) (someN_two) (someN_two))
  try dsimp only at HC54
  rw [show addN (0, pp - 1) (0, pp - 1) = (0, 1) from two_two] at HC54
  have HC56 := Lib.hid (nought_any)
  have HC59 : Hid (∀ w, Glob w → _) := Lib.hid (mul_pt (2) (someN b b8) (by decide) (someN_on b b8))
  try dsimp only at HC59
  have HC63 : Hid (∀ w, Glob w → _) := Lib.hid (add_any (someN b b8) (someN b b8) (someN_on b b8) (someN_on b b8))
  try dsimp only at HC63
  rw [show addN (someN b b8) (someN b b8) = mulN 2 (someN b b8) by rw [show (2 : Nat) = 1 + 1 from rfl, mulN_add (someN_on b b8), mulN_one (someN_on b b8)]] at HC63
  have HC64 : Hid (∀ w, Glob w → _) := Lib.hid (awake_any)
  obtain ⟨NN1, hNN1⟩ : ∃ zz9, Hid (zz9 = num (m)) := ⟨_, Lib.hid rfl⟩
  have INN1 : IsNum NN1 := by rw [hNN1.out]; exact isNum _
  obtain ⟨NN2, hNN2⟩ : ∃ zz9, Hid (zz9 = num (n)) := ⟨_, Lib.hid rfl⟩
  have INN2 : IsNum NN2 := by rw [hNN2.out]; exact isNum _
  obtain ⟨NN3, hNN3⟩ : ∃ zz9, Hid (zz9 = num (mn)) := ⟨_, Lib.hid rfl⟩
  have INN3 : IsNum NN3 := by rw [hNN3.out]; exact isNum _
  obtain ⟨Pm, hPm⟩ : ∃ zz9, Hid (zz9 = num (pp - 1)) := ⟨_, Lib.hid rfl⟩
  have IPm : IsNum Pm := by rw [hPm.out]; exact isNum _
  obtain ⟨NN4, hNN4⟩ : ∃ zz9, Hid (zz9 = num (0)) := ⟨_, Lib.hid rfl⟩
  have INN4 : IsNum NN4 := by rw [hNN4.out]; exact isNum _
  obtain ⟨NN5, hNN5⟩ : ∃ zz9, Hid (zz9 = num (1)) := ⟨_, Lib.hid rfl⟩
  have INN5 : IsNum NN5 := by rw [hNN5.out]; exact isNum _
  obtain ⟨NN7, hNN7⟩ : ∃ zz9, Hid (zz9 = num ((someN a a8).1)) := ⟨_, Lib.hid rfl⟩
  have INN7 : IsNum NN7 := by rw [hNN7.out]; exact isNum _
  obtain ⟨NN8, hNN8⟩ : ∃ zz9, Hid (zz9 = num ((someN a a8).2)) := ⟨_, Lib.hid rfl⟩
  have INN8 : IsNum NN8 := by rw [hNN8.out]; exact isNum _
  obtain ⟨PP9, hPP9⟩ : ∃ zz9, Hid (zz9 = NN7 ++ NN8) := ⟨_, Lib.hid rfl⟩
  have IPP9 : IsRw 8 PP9 := by rw [hPP9.out]; exact rw_app (isRw4 INN7) (isRw4 INN8)
  have SPP9_0 : Part PP9 0 NN7 := by rw [hPP9.out]; exact part_left 0 (part_all NN7) NN8
  have SPP9_4 : Part PP9 4 NN8 := by rw [hPP9.out]; exact part_right (NN7) NN8 4 (by simp [INN7.size])
  obtain ⟨NN11, hNN11⟩ : ∃ zz9, Hid (zz9 = num ((someN b b8).1)) := ⟨_, Lib.hid rfl⟩
  have INN11 : IsNum NN11 := by rw [hNN11.out]; exact isNum _
  obtain ⟨NN12, hNN12⟩ : ∃ zz9, Hid (zz9 = num ((someN b b8).2)) := ⟨_, Lib.hid rfl⟩
  have INN12 : IsNum NN12 := by rw [hNN12.out]; exact isNum _
  obtain ⟨PP13, hPP13⟩ : ∃ zz9, Hid (zz9 = NN11 ++ NN12) := ⟨_, Lib.hid rfl⟩
  have IPP13 : IsRw 8 PP13 := by rw [hPP13.out]; exact rw_app (isRw4 INN11) (isRw4 INN12)
  have SPP13_0 : Part PP13 0 NN11 := by rw [hPP13.out]; exact part_left 0 (part_all NN11) NN12
  have SPP13_4 : Part PP13 4 NN12 := by rw [hPP13.out]; exact part_right (NN11) NN12 4 (by simp [INN11.size])
  obtain ⟨NN15, hNN15⟩ : ∃ zz9, Hid (zz9 = num ((someN c c8).1)) := ⟨_, Lib.hid rfl⟩
  have INN15 : IsNum NN15 := by rw [hNN15.out]; exact isNum _
  obtain ⟨NN16, hNN16⟩ : ∃ zz9, Hid (zz9 = num ((someN c c8).2)) := ⟨_, Lib.hid rfl⟩
  have INN16 : IsNum NN16 := by rw [hNN16.out]; exact isNum _
  obtain ⟨PP17, hPP17⟩ : ∃ zz9, Hid (zz9 = NN15 ++ NN16) := ⟨_, Lib.hid rfl⟩
  have IPP17 : IsRw 8 PP17 := by rw [hPP17.out]; exact rw_app (isRw4 INN15) (isRw4 INN16)
  have SPP17_0 : Part PP17 0 NN15 := by rw [hPP17.out]; exact part_left 0 (part_all NN15) NN16
  have SPP17_4 : Part PP17 4 NN16 := by rw [hPP17.out]; exact part_right (NN15) NN16 4 (by simp [INN15.size])
  obtain ⟨ZR18, hZR18⟩ : ∃ zz9, Hid (zz9 = (rowOf .u64 8 (fun _ => 0)).toArray) := ⟨_, Lib.hid rfl⟩
  have SZZR18 : ZR18.size = 8 := by rw [hZR18.out]; rfl
  obtain ⟨NN22, hNN22⟩ : ∃ zz9, Hid (zz9 = num ((mulN (m) (someN a a8)).1)) := ⟨_, Lib.hid rfl⟩
  have INN22 : IsNum NN22 := by rw [hNN22.out]; exact isNum _
  obtain ⟨NN23, hNN23⟩ : ∃ zz9, Hid (zz9 = num ((mulN (m) (someN a a8)).2)) := ⟨_, Lib.hid rfl⟩
  have INN23 : IsNum NN23 := by rw [hNN23.out]; exact isNum _
  obtain ⟨PP24, hPP24⟩ : ∃ zz9, Hid (zz9 = NN22 ++ NN23) := ⟨_, Lib.hid rfl⟩
  have IPP24 : IsRw 8 PP24 := by rw [hPP24.out]; exact rw_app (isRw4 INN22) (isRw4 INN23)
  have SPP24_0 : Part PP24 0 NN22 := by rw [hPP24.out]; exact part_left 0 (part_all NN22) NN23
  have SPP24_4 : Part PP24 4 NN23 := by rw [hPP24.out]; exact part_right (NN22) NN23 4 (by simp [INN22.size])
  obtain ⟨NN26, hNN26⟩ : ∃ zz9, Hid (zz9 = num ((mulN (n) (someN a a8)).1)) := ⟨_, Lib.hid rfl⟩
  have INN26 : IsNum NN26 := by rw [hNN26.out]; exact isNum _
  obtain ⟨NN27, hNN27⟩ : ∃ zz9, Hid (zz9 = num ((mulN (n) (someN a a8)).2)) := ⟨_, Lib.hid rfl⟩
  have INN27 : IsNum NN27 := by rw [hNN27.out]; exact isNum _
  obtain ⟨PP28, hPP28⟩ : ∃ zz9, Hid (zz9 = NN26 ++ NN27) := ⟨_, Lib.hid rfl⟩
  have IPP28 : IsRw 8 PP28 := by rw [hPP28.out]; exact rw_app (isRw4 INN26) (isRw4 INN27)
  have SPP28_0 : Part PP28 0 NN26 := by rw [hPP28.out]; exact part_left 0 (part_all NN26) NN27
  have SPP28_4 : Part PP28 4 NN27 := by rw [hPP28.out]; exact part_right (NN26) NN27 4 (by simp [INN26.size])
  obtain ⟨PP33, hPP33⟩ : ∃ zz9, Hid (zz9 = NN4 ++ Pm) := ⟨_, Lib.hid rfl⟩
  have IPP33 : IsRw 8 PP33 := by rw [hPP33.out]; exact rw_app (isRw4 INN4) (isRw4 IPm)
  have SPP33_0 : Part PP33 0 NN4 := by rw [hPP33.out]; exact part_left 0 (part_all NN4) Pm
  have SPP33_4 : Part PP33 4 Pm := by rw [hPP33.out]; exact part_right (NN4) Pm 4 (by simp [INN4.size])
  obtain ⟨NN36, hNN36⟩ : ∃ zz9, Hid (zz9 = num ((mulN (mn) (someN a a8)).1)) := ⟨_, Lib.hid rfl⟩
  have INN36 : IsNum NN36 := by rw [hNN36.out]; exact isNum _
  obtain ⟨NN37, hNN37⟩ : ∃ zz9, Hid (zz9 = num ((mulN (mn) (someN a a8)).2)) := ⟨_, Lib.hid rfl⟩
  have INN37 : IsNum NN37 := by rw [hNN37.out]; exact isNum _
  obtain ⟨PP38, hPP38⟩ : ∃ zz9, Hid (zz9 = NN36 ++ NN37) := ⟨_, Lib.hid rfl⟩
  have IPP38 : IsRw 8 PP38 := by rw [hPP38.out]; exact rw_app (isRw4 INN36) (isRw4 INN37)
  have SPP38_0 : Part PP38 0 NN36 := by rw [hPP38.out]; exact part_left 0 (part_all NN36) NN37
  have SPP38_4 : Part PP38 4 NN37 := by rw [hPP38.out]; exact part_right (NN36) NN37 4 (by simp [INN36.size])
  obtain ⟨NN41, hNN41⟩ : ∃ zz9, Hid (zz9 = num ((addN (someN a a8) (someN b b8)).1)) := ⟨_, Lib.hid rfl⟩
  have INN41 : IsNum NN41 := by rw [hNN41.out]; exact isNum _
  obtain ⟨NN42, hNN42⟩ : ∃ zz9, Hid (zz9 = num ((addN (someN a a8) (someN b b8)).2)) := ⟨_, Lib.hid rfl⟩
  have INN42 : IsNum NN42 := by rw [hNN42.out]; exact isNum _
  obtain ⟨PP43, hPP43⟩ : ∃ zz9, Hid (zz9 = NN41 ++ NN42) := ⟨_, Lib.hid rfl⟩
  have IPP43 : IsRw 8 PP43 := by rw [hPP43.out]; exact rw_app (isRw4 INN41) (isRw4 INN42)
  have SPP43_0 : Part PP43 0 NN41 := by rw [hPP43.out]; exact part_left 0 (part_all NN41) NN42
  have SPP43_4 : Part PP43 4 NN42 := by rw [hPP43.out]; exact part_right (NN41) NN42 4 (by simp [INN41.size])
  obtain ⟨NN45, hNN45⟩ : ∃ zz9, Hid (zz9 = num ((addN (someN a a8) (addN (someN b b8) (someN c c8))).1)) := ⟨_, Lib.hid rfl⟩
  have INN45 : IsNum NN45 := by rw [hNN45.out]; exact isNum _
  obtain ⟨NN46, hNN46⟩ : ∃ zz9, Hid (zz9 = num ((addN (someN a a8) (addN (someN b b8) (someN c c8))).2)) := ⟨_, Lib.hid rfl⟩
  have INN46 : IsNum NN46 := by rw [hNN46.out]; exact isNum _
  obtain ⟨PP47, hPP47⟩ : ∃ zz9, Hid (zz9 = NN45 ++ NN46) := ⟨_, Lib.hid rfl⟩
  have IPP47 : IsRw 8 PP47 := by rw [hPP47.out]; exact rw_app (isRw4 INN45) (isRw4 INN46)
  have SPP47_0 : Part PP47 0 NN45 := by rw [hPP47.out]; exact part_left 0 (part_all NN45) NN46
  have SPP47_4 : Part PP47 4 NN46 := by rw [hPP47.out]; exact part_right (NN45) NN46 4 (by simp [INN45.size])
  obtain ⟨NN49, hNN49⟩ : ∃ zz9, Hid (zz9 = num ((addN (someN b b8) (someN c c8)).1)) := ⟨_, Lib.hid rfl⟩
  have INN49 : IsNum NN49 := by rw [hNN49.out]; exact isNum _
  obtain ⟨NN50, hNN50⟩ : ∃ zz9, Hid (zz9 = num ((addN (someN b b8) (someN c c8)).2)) := ⟨_, Lib.hid rfl⟩
  have INN50 : IsNum NN50 := by rw [hNN50.out]; exact isNum _
  obtain ⟨PP51, hPP51⟩ : ∃ zz9, Hid (zz9 = NN49 ++ NN50) := ⟨_, Lib.hid rfl⟩
  have IPP51 : IsRw 8 PP51 := by rw [hPP51.out]; exact rw_app (isRw4 INN49) (isRw4 INN50)
  have SPP51_0 : Part PP51 0 NN49 := by rw [hPP51.out]; exact part_left 0 (part_all NN49) NN50
  have SPP51_4 : Part PP51 4 NN50 := by rw [hPP51.out]; exact part_right (NN49) NN50 4 (by simp [INN49.size])
  obtain ⟨PP55, hPP55⟩ : ∃ zz9, Hid (zz9 = NN4 ++ NN5) := ⟨_, Lib.hid rfl⟩
  have IPP55 : IsRw 8 PP55 := by rw [hPP55.out]; exact rw_app (isRw4 INN4) (isRw4 INN5)
  have SPP55_0 : Part PP55 0 NN4 := by rw [hPP55.out]; exact part_left 0 (part_all NN4) NN5
  have SPP55_4 : Part PP55 4 NN5 := by rw [hPP55.out]; exact part_right (NN4) NN5 4 (by simp [INN4.size])
  obtain ⟨NN58, hNN58⟩ : ∃ zz9, Hid (zz9 = num (2)) := ⟨_, Lib.hid rfl⟩
  have INN58 : IsNum NN58 := by rw [hNN58.out]; exact isNum _
  obtain ⟨NN60, hNN60⟩ : ∃ zz9, Hid (zz9 = num ((mulN (2) (someN b b8)).1)) := ⟨_, Lib.hid rfl⟩
  have INN60 : IsNum NN60 := by rw [hNN60.out]; exact isNum _
  obtain ⟨NN61, hNN61⟩ : ∃ zz9, Hid (zz9 = num ((mulN (2) (someN b b8)).2)) := ⟨_, Lib.hid rfl⟩
  have INN61 : IsNum NN61 := by rw [hNN61.out]; exact isNum _
  obtain ⟨PP62, hPP62⟩ : ∃ zz9, Hid (zz9 = NN60 ++ NN61) := ⟨_, Lib.hid rfl⟩
  have IPP62 : IsRw 8 PP62 := by rw [hPP62.out]; exact rw_app (isRw4 INN60) (isRw4 INN61)
  have SPP62_0 : Part PP62 0 NN60 := by rw [hPP62.out]; exact part_left 0 (part_all NN60) NN61
  have SPP62_4 : Part PP62 4 NN61 := by rw [hPP62.out]; exact part_right (NN60) NN61 4 (by simp [INN60.size])
  have HZ26 : ∀ w, (zeroValue 26).run Tryd.prog w = .ok (.agg ZR18) w := by rw [hZR18.out]; exact zeroT26
  have BF19 : ∀ w, (Instr.build 24 #[(0, .int .u64 (m : Int))]).run Tryd.prog w = .ok (.agg NN1) w := by rw [hNN1.out]; exact build_run m Wm
  have BF20 : ∀ w, (Instr.build 24 #[(0, .int .u64 (n : Int))]).run Tryd.prog w = .ok (.agg NN2) w := by rw [hNN2.out]; exact build_run n Wn
  have BF29 : ∀ w, (Instr.build 24 #[]).run Tryd.prog w = .ok (.agg NN4) w := by rw [hNN4.out]; exact build0_run
  have BF30 : ∀ w, (Instr.build 24 #[(0, .int .u64 1)]).run Tryd.prog w = .ok (.agg NN5) w := by rw [hNN5.out]; exact build_run 1 (by decide)
  have BF32 : ∀ w, (Instr.build 26 #[(1, .agg Pm)]).run Tryd.prog w = .ok (.agg PP33) w := by have q := bp1 IPm; rw [← hNN4.out] at q; rw [hPP33.out]; exact q
  have BF34 : ∀ w, (Instr.build 24 #[(0, .int .u64 (mn : Int))]).run Tryd.prog w = .ok (.agg NN3) w := by rw [hNN3.out]; exact build_run mn Wmn
  have BF57 : ∀ w, (Instr.build 24 #[(0, .int .u64 2)]).run Tryd.prog w = .ok (.agg NN58) w := by rw [hNN58.out]; exact build_run 2 (by decide)
  try simp only [← hNN1.out, ← hNN2.out, ← hNN3.out, ← hPm.out, ← hNN4.out, ← hNN5.out, ← hNN7.out, ← hNN8.out, ← hNN11.out, ← hNN12.out, ← hNN15.out, ← hNN16.out, ← hNN22.out, ← hNN23.out, ← hNN26.out, ← hNN27.out, ← hNN36.out, ← hNN37.out, ← hNN41.out, ← hNN42.out, ← hNN45.out, ← hNN46.out, ← hNN49.out, ← hNN50.out, ← hNN58.out, ← hNN60.out, ← hNN61.out] at HC6 HC10 HC14 HC21 HC25 HC31 HC35 HC39 HC40 HC44 HC48 HC52 HC53 HC54 HC56 HC59 HC63 HC64 ⊢
  try simp only [← hPP9.out, ← hPP13.out, ← hPP17.out, ← hZR18.out, ← hPP24.out, ← hPP28.out, ← hPP33.out, ← hPP38.out, ← hPP43.out, ← hPP47.out, ← hPP51.out, ← hPP55.out, ← hPP62.out] at HC6 HC10 HC14 HC21 HC25 HC31 HC35 HC39 HC40 HC44 HC48 HC52 HC53 HC54 HC56 HC59 HC63 HC64 ⊢
  clear hNN1 hNN2 hNN3 hPm hNN4 hNN5 hNN7 hNN8 hPP9 hNN11 hNN12 hPP13 hNN15 hNN16 hPP17 hZR18 hNN22 hNN23 hPP24 hNN26 hNN27 hPP28 hPP33 hNN36 hNN37 hPP38 hNN41 hNN42 hPP43 hNN45 hNN46 hPP47 hNN49 hNN50 hPP51 hPP55 hNN58 hNN60 hNN61 hPP62 Wm0 Wn0 ha80 hb80 hc80 hmn0 Wa Wb Wc Wa8 Wb8 Wc8 hG0
  go_enter Tryd.func9, Tryd.ntmps9
  have HS : Hid (Kt w [] w) := Lib.hid (Kt.nil w)
  go_upto_region 0 with fail
  refine wp_region_list ?_
  refine wpList_run rfl (.bool false) (exec_assign (.const (.bool false)) rfl _ rfl _) ?_
  simp only [Act.put, sT, sS, sZ]
  refine wpList_nil ?_
  go_upto_region 1 with fail
  refine wp_region_list ?_
  refine wpList_run rfl (.int .u64 (a : Int)) (exec_move (.tmp 0) rfl _ rfl _) ?_
  simp only [Act.put, sT, sS, sZ]
  refine wpList_run rfl (.int .u64 (a : Int)) (exec_move (.tmp 0) rfl _ rfl _) ?_
  simp only [Act.put, sT, sS, sZ]
  refine wpList_run rfl (.int .u8 (a8 : Int)) (exec_convG 22 5 (.tmp 18) rfl _ rfl _ _ _ (cv225 a a8 ha8.out _)) ?_
  simp only [Act.put, sT, sS, sZ]
  refine wpList_callF rfl 17 #[.tmp 17, .tmp 19] #[22, 5] rfl #[.int .u64 (a : Int), .int .u8 (a8 : Int)] en17 (HC6.out _) ?_
  rintro v w1 ⟨he, hb⟩
  cases he
  have HS2 := Lib.hid (HS.out.below hb)
  clear hb HS
  simp only [Act.put, sT, sS, sZ]
  refine wpList_run rfl (.int .u64 (b : Int)) (exec_move (.tmp 1) rfl _ rfl _) ?_
  simp only [Act.put, sT, sS, sZ]
  refine wpList_run rfl (.int .u64 (b : Int)) (exec_move (.tmp 1) rfl _ rfl _) ?_
  simp only [Act.put, sT, sS, sZ]
  refine wpList_run rfl (.int .u8 (b8 : Int)) (exec_convG 22 5 (.tmp 22) rfl _ rfl _ _ _ (cv225 b b8 hb8.out _)) ?_
  simp only [Act.put, sT, sS, sZ]
  refine wpList_callF rfl 17 #[.tmp 21, .tmp 23] #[22, 5] rfl #[.int .u64 (b : Int), .int .u8 (b8 : Int)] en17 (HC10.out _) ?_
  rintro v w3 ⟨he, hb⟩
  cases he
  have HS4 := Lib.hid (HS2.out.below hb)
  clear hb HS2
  simp only [Act.put, sT, sS, sZ]
  refine wpList_run rfl (.int .u64 (c : Int)) (exec_move (.tmp 2) rfl _ rfl _) ?_
  simp only [Act.put, sT, sS, sZ]
  refine wpList_run rfl (.int .u64 (c : Int)) (exec_move (.tmp 2) rfl _ rfl _) ?_
  simp only [Act.put, sT, sS, sZ]
  refine wpList_run rfl (.int .u8 (c8 : Int)) (exec_convG 22 5 (.tmp 26) rfl _ rfl _ _ _ (cv225 c c8 hc8.out _)) ?_
  simp only [Act.put, sT, sS, sZ]
  refine wpList_callF rfl 17 #[.tmp 25, .tmp 27] #[22, 5] rfl #[.int .u64 (c : Int), .int .u8 (c8 : Int)] en17 (HC14.out _) ?_
  rintro v w5 ⟨he, hb⟩
  cases he
  have HS6 := Lib.hid (HS4.out.below hb)
  clear hb HS4
  simp only [Act.put, sT, sS, sZ]
  refine wpList_run rfl _ (exec_alloc_agg _ 26 rfl _ (HZ26 _)) ?_
  simp only [Act.put, sT, sS, sZ]
  have bg9 := HS6.out.1.size
  have HS8 := Lib.hid (HS6.out.new ZR18 26)
  clear HS6
  generalize w5.alloc (.cells ZR18 26) = w7 at *
  generalize w5.heap.size = g9 at *
  refine wpList_run rfl _ (exec_alloc_agg _ 26 rfl _ (HZ26 _)) ?_
  simp only [Act.put, sT, sS, sZ]
  have lg12_0 := HS8.out.lt (g9) ZR18 26 (by simp)
  have bg12 := HS8.out.1.size
  have HS11 := Lib.hid (HS8.out.new ZR18 26)
  clear HS8
  generalize w7.alloc (.cells ZR18 26) = w10 at *
  generalize w7.heap.size = g12 at *
  refine wpList_run rfl _ (exec_alloc_agg _ 26 rfl _ (HZ26 _)) ?_
  simp only [Act.put, sT, sS, sZ]
  have lg15_0 := HS11.out.lt (g12) ZR18 26 (by simp)
  have lg15_1 := HS11.out.lt (g9) ZR18 26 (by simp)
  have bg15 := HS11.out.1.size
  have HS14 := Lib.hid (HS11.out.new ZR18 26)
  clear HS11
  generalize w10.alloc (.cells ZR18 26) = w13 at *
  generalize w10.heap.size = g15 at *
  refine wpList_run0 rfl (exec_storeT26 _ (.tmp 11) (.tmp 20) rfl (g9) rfl PP9 IPP9 rfl ZR18 26 (HS14.out.get (g9) ZR18 26 (by simp)) SZZR18) ?_
  simp only [Act.put, sT, sS, sZ]
  have HS17 : Hid (Kt w [(g15, ZR18, 26), (g12, ZR18, 26), (g9, PP9, 26)] (w13.setRow (g9) PP9)) := Lib.hid (HS14.out.set (g9) PP9 ZR18 26 (HS14.out.get (g9) ZR18 26 (by simp)) (by omega) (fun p hp => by simp at hp; rcases hp with rfl | rfl | rfl <;> first | exact .inl rfl | exact .inr ⟨by simp, by simp only; omega⟩))
  clear HS14
  generalize w13.setRow (g9) PP9 = w16 at *
  refine wpList_run0 rfl (exec_storeT26 _ (.tmp 12) (.tmp 24) rfl (g12) rfl PP13 IPP13 rfl ZR18 26 (HS17.out.get (g12) ZR18 26 (by simp)) SZZR18) ?_
  simp only [Act.put, sT, sS, sZ]
  have HS19 : Hid (Kt w [(g15, ZR18, 26), (g12, PP13, 26), (g9, PP9, 26)] (w16.setRow (g12) PP13)) := Lib.hid (HS17.out.set (g12) PP13 ZR18 26 (HS17.out.get (g12) ZR18 26 (by simp)) (by omega) (fun p hp => by simp at hp; rcases hp with rfl | rfl | rfl <;> first | exact .inl rfl | exact .inr ⟨by simp, by simp only; omega⟩))
  clear HS17
  generalize w16.setRow (g12) PP13 = w18 at *
  refine wpList_run0 rfl (exec_storeT26 _ (.tmp 13) (.tmp 28) rfl (g15) rfl PP17 IPP17 rfl ZR18 26 (HS19.out.get (g15) ZR18 26 (by simp)) SZZR18) ?_
  simp only [Act.put, sT, sS, sZ]
  have HS21 : Hid (Kt w [(g15, PP17, 26), (g12, PP13, 26), (g9, PP9, 26)] (w18.setRow (g15) PP17)) := Lib.hid (HS19.out.set (g15) PP17 ZR18 26 (HS19.out.get (g15) ZR18 26 (by simp)) (by omega) (fun p hp => by simp at hp; rcases hp with rfl | rfl | rfl <;> first | exact .inl rfl | exact .inr ⟨by simp, by simp only; omega⟩))
  clear HS19
  generalize w18.setRow (g15) PP17 = w20 at *
  refine wpList_nil ?_
  go_upto_region 2 with fail
  refine wp_cut (fun a' W' => ∃ gq22s0 gq22s1, a' = { tmps := #[.int .u64 (a : Int), .int .u64 (b : Int), .int .u64 (c : Int), .int .u32 (m : Int), .int .u32 (n : Int), undef, undef, undef, undef, undef, .bool false, .pointer (some ⟨g9, 0, none⟩), .pointer (some ⟨g12, 0, none⟩), .pointer (some ⟨g15, 0, none⟩), .pointer (some ⟨gq22s0, 0, none⟩), .pointer (some ⟨gq22s1, 0, none⟩), undef, .int .u64 (a : Int), .int .u64 (a : Int), .int .u8 (a8 : Int), .agg PP9, .int .u64 (b : Int), .int .u64 (b : Int), .int .u8 (b8 : Int), .agg PP13, .int .u64 (c : Int), .int .u64 (c : Int), .int .u8 (c8 : Int), .agg PP17, .int .u32 (m : Int), .int .u64 (m : Int), .agg NN1, .agg PP9, .agg PP24, .int .u32 (n : Int), .int .u64 (n : Int), .agg NN2, .agg PP9, .agg PP28, undef, undef, undef, undef, undef, undef, undef, undef, undef, undef, undef, undef, undef, undef, undef, undef, undef, undef, undef, undef, undef, undef, undef, undef, undef, undef, undef, undef, undef, undef, undef, undef, undef, undef, undef, undef, undef, undef, undef, undef, undef, undef, undef, undef, undef, undef, undef, undef, undef, undef, undef, undef], defers := [] } ∧ Kt w [(g15, PP17, 26), (g12, PP13, 26), (g9, PP9, 26), (gq22s0, PP24, 26), (gq22s1, PP28, 26)] W' ∧ w.heap.size ≤ gq22s0 ∧ w.heap.size ≤ gq22s1 ∧ gq22s0 ≠ g15 ∧ gq22s0 ≠ g12 ∧ gq22s0 ≠ g9 ∧ gq22s1 ≠ g15 ∧ gq22s1 ≠ g12 ∧ gq22s1 ≠ g9 ∧ gq22s1 ≠ gq22s0) ?_ ?_
  · refine wp_region_any (by kernel_rfl) ?_
    change wpAny _ _ _ _ _ _ _ (World.drew _)
    have HDq22x1 := HS21.out.drew
    clear HS21
    generalize w20.drew = wdq22x2 at *
    refine any_of_F (S := Kt w [(g15, PP17, 26), (g12, PP13, 26), (g9, PP9, 26)]) (f := 1000) _ _ _ _ ?_
    refine F_have 2 #[true, true, true, true, true, true, true, true, true, true, true, true, false, false] (fun aJ W => ∃ gjq22_0_0 gjq22_0_1, aJ = { tmps := #[.int .u64 (a : Int), .int .u64 (b : Int), .int .u64 (c : Int), .int .u32 (m : Int), .int .u32 (n : Int), undef, undef, undef, undef, undef, .bool false, .pointer (some ⟨g9, 0, none⟩), .pointer (some ⟨g12, 0, none⟩), .pointer (some ⟨g15, 0, none⟩), .pointer (some ⟨gjq22_0_0, 0, none⟩), .pointer (some ⟨gjq22_0_1, 0, none⟩), undef, .int .u64 (a : Int), .int .u64 (a : Int), .int .u8 (a8 : Int), .agg PP9, .int .u64 (b : Int), .int .u64 (b : Int), .int .u8 (b8 : Int), .agg PP13, .int .u64 (c : Int), .int .u64 (c : Int), .int .u8 (c8 : Int), .agg PP17, .int .u32 (m : Int), .int .u64 (m : Int), .agg NN1, .agg PP9, .agg PP24, .int .u32 (n : Int), .int .u64 (n : Int), .agg NN2, .agg PP9, .agg PP28, undef, undef, undef, undef, undef, undef, undef, undef, undef, undef, undef, undef, undef, undef, undef, undef, undef, undef, undef, undef, undef, undef, undef, undef, undef, undef, undef, undef, undef, undef, undef, undef, undef, undef, undef, undef, undef, undef, undef, undef, undef, undef, undef, undef, undef, undef, undef, undef, undef, undef, undef, undef], defers := [] } ∧ Kt w [(g15, PP17, 26), (g12, PP13, 26), (g9, PP9, 26)] W ∧ Kt w [(gjq22_0_0, ZR18, 26), (gjq22_0_1, ZR18, 26)] W ∧ w.heap.size ≤ gjq22_0_0 ∧ w.heap.size ≤ gjq22_0_1 ∧ gjq22_0_0 ≠ g15 ∧ gjq22_0_0 ≠ g12 ∧ gjq22_0_0 ≠ g9 ∧ gjq22_0_1 ≠ g15 ∧ gjq22_0_1 ≠ g12 ∧ gjq22_0_1 ≠ g9 ∧ gjq22_0_1 ≠ gjq22_0_0) ?_ ?_
    · rintro aJ wq22x11 ⟨gjq22_0_0, gjq22_0_1, rfl, Hq22x12, Eq22x13, fJq22_0_0, fJq22_0_1, fJq22_0_2, fJq22_0_3, fJq22_0_4, fJq22_0_5, fJq22_0_6, fJq22_0_7, fJq22_0_8⟩
      refine rdy [12] (ReadyF.op0 (.store 26 (.tmp 14) (.tmp 33)) rfl (fun o ho => exec_storeT26 wq22x11 (.tmp 14) (.tmp 33) ho (gjq22_0_0) rfl PP24 IPP24 rfl ZR18 26 (Eq22x13.get (gjq22_0_0) ZR18 26 (by simp)) SZZR18) (Hq22x12.set (gjq22_0_0) PP24 ZR18 26 (Eq22x13.get (gjq22_0_0) ZR18 26 (by simp)) (by omega) (fun p hp => by simp at hp; rcases hp with rfl | rfl | rfl <;> exact .inr ⟨by simp, by simp only; omega⟩)) ?_ ReadyF.nil)
      have Hq22x15 := Hq22x12.set (gjq22_0_0) PP24 ZR18 26 (Eq22x13.get (gjq22_0_0) ZR18 26 (by simp)) (by omega) (m := [(g15, PP17, 26), (g12, PP13, 26), (g9, PP9, 26)]) (fun p hp => by simp at hp; rcases hp with rfl | rfl | rfl <;> exact .inr ⟨by simp, by simp only; omega⟩)
      have Eq22x16 := Eq22x13.set (gjq22_0_0) PP24 ZR18 26 (Eq22x13.get (gjq22_0_0) ZR18 26 (by simp)) (by omega) (m := [(gjq22_0_0, PP24, 26), (gjq22_0_1, ZR18, 26)]) (fun p hp => by simp at hp; rcases hp with rfl | rfl <;> first | exact .inl rfl | exact .inr ⟨by simp, by simp only; omega⟩)
      generalize wq22x11.setRow (gjq22_0_0) PP24 = wq22x14 at *
      refine rdy [13] (ReadyF.op0 (.store 26 (.tmp 15) (.tmp 38)) rfl (fun o ho => exec_storeT26 wq22x14 (.tmp 15) (.tmp 38) ho (gjq22_0_1) rfl PP28 IPP28 rfl ZR18 26 (Eq22x16.get (gjq22_0_1) ZR18 26 (by simp)) SZZR18) (Hq22x15.set (gjq22_0_1) PP28 ZR18 26 (Eq22x16.get (gjq22_0_1) ZR18 26 (by simp)) (by omega) (fun p hp => by simp at hp; rcases hp with rfl | rfl | rfl <;> exact .inr ⟨by simp, by simp only; omega⟩)) ?_ ReadyF.nil)
      have Hq22x18 := Hq22x15.set (gjq22_0_1) PP28 ZR18 26 (Eq22x16.get (gjq22_0_1) ZR18 26 (by simp)) (by omega) (m := [(g15, PP17, 26), (g12, PP13, 26), (g9, PP9, 26)]) (fun p hp => by simp at hp; rcases hp with rfl | rfl | rfl <;> exact .inr ⟨by simp, by simp only; omega⟩)
      have Eq22x19 := Eq22x16.set (gjq22_0_1) PP28 ZR18 26 (Eq22x16.get (gjq22_0_1) ZR18 26 (by simp)) (by omega) (m := [(gjq22_0_0, PP24, 26), (gjq22_0_1, PP28, 26)]) (fun p hp => by simp at hp; rcases hp with rfl | rfl <;> first | exact .inl rfl | exact .inr ⟨by simp, by simp only; omega⟩)
      generalize wq22x14.setRow (gjq22_0_1) PP28 = wq22x17 at *
      refine AnyF.done (by kernel_rfl) ?_ _
      refine nrm_intro ⟨gjq22_0_0, gjq22_0_1, rfl, (Hq22x18.app Eq22x19).sub (fun p hp => by simp at hp; rcases hp with rfl | rfl | rfl | rfl | rfl <;> simp), by omega, by omega, by omega, by omega, by omega, by omega, by omega, by omega, by omega⟩
    intro Jq22_0
    refine F_have 3 #[true, true, true, true, true, true, true, true, true, true, true, false, false, false] (fun aJ W => ∃ gjq22_1_0, aJ = { tmps := #[.int .u64 (a : Int), .int .u64 (b : Int), .int .u64 (c : Int), .int .u32 (m : Int), .int .u32 (n : Int), undef, undef, undef, undef, undef, .bool false, .pointer (some ⟨g9, 0, none⟩), .pointer (some ⟨g12, 0, none⟩), .pointer (some ⟨g15, 0, none⟩), .pointer (some ⟨gjq22_1_0, 0, none⟩), undef, undef, .int .u64 (a : Int), .int .u64 (a : Int), .int .u8 (a8 : Int), .agg PP9, .int .u64 (b : Int), .int .u64 (b : Int), .int .u8 (b8 : Int), .agg PP13, .int .u64 (c : Int), .int .u64 (c : Int), .int .u8 (c8 : Int), .agg PP17, .int .u32 (m : Int), .int .u64 (m : Int), .agg NN1, .agg PP9, .agg PP24, .int .u32 (n : Int), .int .u64 (n : Int), .agg NN2, .agg PP9, .agg PP28, undef, undef, undef, undef, undef, undef, undef, undef, undef, undef, undef, undef, undef, undef, undef, undef, undef, undef, undef, undef, undef, undef, undef, undef, undef, undef, undef, undef, undef, undef, undef, undef, undef, undef, undef, undef, undef, undef, undef, undef, undef, undef, undef, undef, undef, undef, undef, undef, undef, undef, undef, undef], defers := [] } ∧ Kt w [(g15, PP17, 26), (g12, PP13, 26), (g9, PP9, 26)] W ∧ Kt w [(gjq22_1_0, ZR18, 26)] W ∧ w.heap.size ≤ gjq22_1_0 ∧ gjq22_1_0 ≠ g15 ∧ gjq22_1_0 ≠ g12 ∧ gjq22_1_0 ≠ g9) ?_ ?_
    · rintro aJ wq22x20 ⟨gjq22_1_0, rfl, Hq22x21, Eq22x22, fJq22_1_0, fJq22_1_1, fJq22_1_2, fJq22_1_3⟩
      refine rdy [11] (ral 15 26 HZ26 (Hq22x21.alloc _) ?_ ReadyF.nil)
      have l0wq22x23 := Hq22x21.lt (g15) PP17 26 (by simp)
      have l1wq22x23 := Hq22x21.lt (g12) PP13 26 (by simp)
      have l2wq22x23 := Hq22x21.lt (g9) PP9 26 (by simp)
      have m0wq22x23 := Eq22x22.lt (gjq22_1_0) ZR18 26 (by simp)
      have bwq22x23 := Hq22x21.1.size
      have Hq22x24 := Hq22x21.alloc (.cells ZR18 26)
      have Eq22x25 := Eq22x22.new ZR18 26
      simp only [Act.put, sT, sS, sZ]
      obtain ⟨wq22x23, hwq22x23⟩ : ∃ W, W = wq22x20.alloc (.cells ZR18 26) := ⟨_, rfl⟩
      rw [← hwq22x23] at Hq22x24 Eq22x25 ⊢
      clear hwq22x23
      exact F_to (by kernel_rfl) (by kernel_rfl) (Jq22_0 _ _ ⟨gjq22_1_0, wq22x20.heap.size, rfl, Hq22x24, Eq22x25.sub (fun p hp => by simp at hp; rcases hp with rfl | rfl <;> simp), by omega, by omega, by omega, by omega, by omega, by omega, by omega, by omega, by omega⟩)
    intro Jq22_1
    refine F_have 3 #[true, true, true, true, true, true, true, true, true, true, false, true, false, false] (fun aJ W => ∃ gjq22_2_0, aJ = { tmps := #[.int .u64 (a : Int), .int .u64 (b : Int), .int .u64 (c : Int), .int .u32 (m : Int), .int .u32 (n : Int), undef, undef, undef, undef, undef, .bool false, .pointer (some ⟨g9, 0, none⟩), .pointer (some ⟨g12, 0, none⟩), .pointer (some ⟨g15, 0, none⟩), undef, .pointer (some ⟨gjq22_2_0, 0, none⟩), undef, .int .u64 (a : Int), .int .u64 (a : Int), .int .u8 (a8 : Int), .agg PP9, .int .u64 (b : Int), .int .u64 (b : Int), .int .u8 (b8 : Int), .agg PP13, .int .u64 (c : Int), .int .u64 (c : Int), .int .u8 (c8 : Int), .agg PP17, .int .u32 (m : Int), .int .u64 (m : Int), .agg NN1, .agg PP9, .agg PP24, .int .u32 (n : Int), .int .u64 (n : Int), .agg NN2, .agg PP9, .agg PP28, undef, undef, undef, undef, undef, undef, undef, undef, undef, undef, undef, undef, undef, undef, undef, undef, undef, undef, undef, undef, undef, undef, undef, undef, undef, undef, undef, undef, undef, undef, undef, undef, undef, undef, undef, undef, undef, undef, undef, undef, undef, undef, undef, undef, undef, undef, undef, undef, undef, undef, undef, undef], defers := [] } ∧ Kt w [(g15, PP17, 26), (g12, PP13, 26), (g9, PP9, 26)] W ∧ Kt w [(gjq22_2_0, ZR18, 26)] W ∧ w.heap.size ≤ gjq22_2_0 ∧ gjq22_2_0 ≠ g15 ∧ gjq22_2_0 ≠ g12 ∧ gjq22_2_0 ≠ g9) ?_ ?_
    · rintro aJ wq22x26 ⟨gjq22_2_0, rfl, Hq22x27, Eq22x28, fJq22_2_0, fJq22_2_1, fJq22_2_2, fJq22_2_3⟩
      refine rdy [10] (ral 14 26 HZ26 (Hq22x27.alloc _) ?_ ReadyF.nil)
      have l0wq22x29 := Hq22x27.lt (g15) PP17 26 (by simp)
      have l1wq22x29 := Hq22x27.lt (g12) PP13 26 (by simp)
      have l2wq22x29 := Hq22x27.lt (g9) PP9 26 (by simp)
      have m0wq22x29 := Eq22x28.lt (gjq22_2_0) ZR18 26 (by simp)
      have bwq22x29 := Hq22x27.1.size
      have Hq22x30 := Hq22x27.alloc (.cells ZR18 26)
      have Eq22x31 := Eq22x28.new ZR18 26
      simp only [Act.put, sT, sS, sZ]
      obtain ⟨wq22x29, hwq22x29⟩ : ∃ W, W = wq22x26.alloc (.cells ZR18 26) := ⟨_, rfl⟩
      rw [← hwq22x29] at Hq22x30 Eq22x31 ⊢
      clear hwq22x29
      exact F_to (by kernel_rfl) (by kernel_rfl) (Jq22_0 _ _ ⟨wq22x26.heap.size, gjq22_2_0, rfl, Hq22x30, Eq22x31, by omega, by omega, by omega, by omega, by omega, by omega, by omega, by omega, by omega⟩)
    intro Jq22_2
    refine F_have 3 #[true, true, true, true, true, true, true, true, true, false, true, true, false, false] (fun aJ W => ∃ gjq22_3_0 gjq22_3_1, aJ = { tmps := #[.int .u64 (a : Int), .int .u64 (b : Int), .int .u64 (c : Int), .int .u32 (m : Int), .int .u32 (n : Int), undef, undef, undef, undef, undef, .bool false, .pointer (some ⟨g9, 0, none⟩), .pointer (some ⟨g12, 0, none⟩), .pointer (some ⟨g15, 0, none⟩), .pointer (some ⟨gjq22_3_0, 0, none⟩), .pointer (some ⟨gjq22_3_1, 0, none⟩), undef, .int .u64 (a : Int), .int .u64 (a : Int), .int .u8 (a8 : Int), .agg PP9, .int .u64 (b : Int), .int .u64 (b : Int), .int .u8 (b8 : Int), .agg PP13, .int .u64 (c : Int), .int .u64 (c : Int), .int .u8 (c8 : Int), .agg PP17, .int .u32 (m : Int), .int .u64 (m : Int), .agg NN1, .agg PP9, .agg PP24, .int .u32 (n : Int), .int .u64 (n : Int), .agg NN2, .agg PP9, undef, undef, undef, undef, undef, undef, undef, undef, undef, undef, undef, undef, undef, undef, undef, undef, undef, undef, undef, undef, undef, undef, undef, undef, undef, undef, undef, undef, undef, undef, undef, undef, undef, undef, undef, undef, undef, undef, undef, undef, undef, undef, undef, undef, undef, undef, undef, undef, undef, undef, undef, undef, undef], defers := [] } ∧ Kt w [(g15, PP17, 26), (g12, PP13, 26), (g9, PP9, 26)] W ∧ Kt w [(gjq22_3_0, ZR18, 26), (gjq22_3_1, ZR18, 26)] W ∧ w.heap.size ≤ gjq22_3_0 ∧ w.heap.size ≤ gjq22_3_1 ∧ gjq22_3_0 ≠ g15 ∧ gjq22_3_0 ≠ g12 ∧ gjq22_3_0 ≠ g9 ∧ gjq22_3_1 ≠ g15 ∧ gjq22_3_1 ≠ g12 ∧ gjq22_3_1 ≠ g9 ∧ gjq22_3_1 ≠ gjq22_3_0) ?_ ?_
    · rintro aJ wq22x32 ⟨gjq22_3_0, gjq22_3_1, rfl, Hq22x33, Eq22x34, fJq22_3_0, fJq22_3_1, fJq22_3_2, fJq22_3_3, fJq22_3_4, fJq22_3_5, fJq22_3_6, fJq22_3_7, fJq22_3_8⟩
      refine rdy [9] (rcl (some 38) 20 #[.tmp 36, .tmp 37] #[24, 26] #[.agg NN2, .agg PP9] en20 _ (HC25.out _ (HG.out.below Hq22x33.1)) ?_ ReadyF.nil)
      rintro v wq22x35 ⟨he, hb⟩
      cases he
      have Hq22x36 := Hq22x33.below hb
      have Eq22x37 := Eq22x34.below hb
      clear hb
      refine ⟨Hq22x36, ?_⟩
      simp only [Act.put, sT, sS, sZ]
      exact F_to (by kernel_rfl) (by kernel_rfl) (Jq22_0 _ _ ⟨gjq22_3_0, gjq22_3_1, rfl, Hq22x36, Eq22x37, by omega, by omega, by omega, by omega, by omega, by omega, by omega, by omega, by omega⟩)
    intro Jq22_3
    refine F_have 4 #[true, true, true, true, true, true, true, true, true, false, true, false, false, false] (fun aJ W => ∃ gjq22_4_0, aJ = { tmps := #[.int .u64 (a : Int), .int .u64 (b : Int), .int .u64 (c : Int), .int .u32 (m : Int), .int .u32 (n : Int), undef, undef, undef, undef, undef, .bool false, .pointer (some ⟨g9, 0, none⟩), .pointer (some ⟨g12, 0, none⟩), .pointer (some ⟨g15, 0, none⟩), .pointer (some ⟨gjq22_4_0, 0, none⟩), undef, undef, .int .u64 (a : Int), .int .u64 (a : Int), .int .u8 (a8 : Int), .agg PP9, .int .u64 (b : Int), .int .u64 (b : Int), .int .u8 (b8 : Int), .agg PP13, .int .u64 (c : Int), .int .u64 (c : Int), .int .u8 (c8 : Int), .agg PP17, .int .u32 (m : Int), .int .u64 (m : Int), .agg NN1, .agg PP9, .agg PP24, .int .u32 (n : Int), .int .u64 (n : Int), .agg NN2, .agg PP9, undef, undef, undef, undef, undef, undef, undef, undef, undef, undef, undef, undef, undef, undef, undef, undef, undef, undef, undef, undef, undef, undef, undef, undef, undef, undef, undef, undef, undef, undef, undef, undef, undef, undef, undef, undef, undef, undef, undef, undef, undef, undef, undef, undef, undef, undef, undef, undef, undef, undef, undef, undef, undef], defers := [] } ∧ Kt w [(g15, PP17, 26), (g12, PP13, 26), (g9, PP9, 26)] W ∧ Kt w [(gjq22_4_0, ZR18, 26)] W ∧ w.heap.size ≤ gjq22_4_0 ∧ gjq22_4_0 ≠ g15 ∧ gjq22_4_0 ≠ g12 ∧ gjq22_4_0 ≠ g9) ?_ ?_
    · rintro aJ wq22x38 ⟨gjq22_4_0, rfl, Hq22x39, Eq22x40, fJq22_4_0, fJq22_4_1, fJq22_4_2, fJq22_4_3⟩
      refine rdy [9, 11] (rcl (some 38) 20 #[.tmp 36, .tmp 37] #[24, 26] #[.agg NN2, .agg PP9] en20 _ (HC25.out _ (HG.out.below Hq22x39.1)) ?_ (ral 15 26 HZ26 (Hq22x39.alloc _) ?_ ReadyF.nil))
      · rintro v wq22x41 ⟨he, hb⟩
        cases he
        have Hq22x42 := Hq22x39.below hb
        have Eq22x43 := Eq22x40.below hb
        clear hb
        refine ⟨Hq22x42, ?_⟩
        simp only [Act.put, sT, sS, sZ]
        exact F_to (by kernel_rfl) (by kernel_rfl) (Jq22_1 _ _ ⟨gjq22_4_0, rfl, Hq22x42, Eq22x43, by omega, by omega, by omega, by omega⟩)
      · have l0wq22x44 := Hq22x39.lt (g15) PP17 26 (by simp)
        have l1wq22x44 := Hq22x39.lt (g12) PP13 26 (by simp)
        have l2wq22x44 := Hq22x39.lt (g9) PP9 26 (by simp)
        have m0wq22x44 := Eq22x40.lt (gjq22_4_0) ZR18 26 (by simp)
        have bwq22x44 := Hq22x39.1.size
        have Hq22x45 := Hq22x39.alloc (.cells ZR18 26)
        have Eq22x46 := Eq22x40.new ZR18 26
        simp only [Act.put, sT, sS, sZ]
        obtain ⟨wq22x44, hwq22x44⟩ : ∃ W, W = wq22x38.alloc (.cells ZR18 26) := ⟨_, rfl⟩
        rw [← hwq22x44] at Hq22x45 Eq22x46 ⊢
        clear hwq22x44
        exact F_to (by kernel_rfl) (by kernel_rfl) (Jq22_3 _ _ ⟨gjq22_4_0, wq22x38.heap.size, rfl, Hq22x45, Eq22x46.sub (fun p hp => by simp at hp; rcases hp with rfl | rfl <;> simp), by omega, by omega, by omega, by omega, by omega, by omega, by omega, by omega, by omega⟩)
    intro Jq22_4
    refine F_have 4 #[true, true, true, true, true, true, true, true, true, false, false, true, false, false] (fun aJ W => ∃ gjq22_5_0, aJ = { tmps := #[.int .u64 (a : Int), .int .u64 (b : Int), .int .u64 (c : Int), .int .u32 (m : Int), .int .u32 (n : Int), undef, undef, undef, undef, undef, .bool false, .pointer (some ⟨g9, 0, none⟩), .pointer (some ⟨g12, 0, none⟩), .pointer (some ⟨g15, 0, none⟩), undef, .pointer (some ⟨gjq22_5_0, 0, none⟩), undef, .int .u64 (a : Int), .int .u64 (a : Int), .int .u8 (a8 : Int), .agg PP9, .int .u64 (b : Int), .int .u64 (b : Int), .int .u8 (b8 : Int), .agg PP13, .int .u64 (c : Int), .int .u64 (c : Int), .int .u8 (c8 : Int), .agg PP17, .int .u32 (m : Int), .int .u64 (m : Int), .agg NN1, .agg PP9, .agg PP24, .int .u32 (n : Int), .int .u64 (n : Int), .agg NN2, .agg PP9, undef, undef, undef, undef, undef, undef, undef, undef, undef, undef, undef, undef, undef, undef, undef, undef, undef, undef, undef, undef, undef, undef, undef, undef, undef, undef, undef, undef, undef, undef, undef, undef, undef, undef, undef, undef, undef, undef, undef, undef, undef, undef, undef, undef, undef, undef, undef, undef, undef, undef, undef, undef, undef], defers := [] } ∧ Kt w [(g15, PP17, 26), (g12, PP13, 26), (g9, PP9, 26)] W ∧ Kt w [(gjq22_5_0, ZR18, 26)] W ∧ w.heap.size ≤ gjq22_5_0 ∧ gjq22_5_0 ≠ g15 ∧ gjq22_5_0 ≠ g12 ∧ gjq22_5_0 ≠ g9) ?_ ?_
    · rintro aJ wq22x47 ⟨gjq22_5_0, rfl, Hq22x48, Eq22x49, fJq22_5_0, fJq22_5_1, fJq22_5_2, fJq22_5_3⟩
      refine rdy [9, 10] (rcl (some 38) 20 #[.tmp 36, .tmp 37] #[24, 26] #[.agg NN2, .agg PP9] en20 _ (HC25.out _ (HG.out.below Hq22x48.1)) ?_ (ral 14 26 HZ26 (Hq22x48.alloc _) ?_ ReadyF.nil))
      · rintro v wq22x50 ⟨he, hb⟩
        cases he
        have Hq22x51 := Hq22x48.below hb
        have Eq22x52 := Eq22x49.below hb
        clear hb
        refine ⟨Hq22x51, ?_⟩
        simp only [Act.put, sT, sS, sZ]
        exact F_to (by kernel_rfl) (by kernel_rfl) (Jq22_2 _ _ ⟨gjq22_5_0, rfl, Hq22x51, Eq22x52, by omega, by omega, by omega, by omega⟩)
      · have l0wq22x53 := Hq22x48.lt (g15) PP17 26 (by simp)
        have l1wq22x53 := Hq22x48.lt (g12) PP13 26 (by simp)
        have l2wq22x53 := Hq22x48.lt (g9) PP9 26 (by simp)
        have m0wq22x53 := Eq22x49.lt (gjq22_5_0) ZR18 26 (by simp)
        have bwq22x53 := Hq22x48.1.size
        have Hq22x54 := Hq22x48.alloc (.cells ZR18 26)
        have Eq22x55 := Eq22x49.new ZR18 26
        simp only [Act.put, sT, sS, sZ]
        obtain ⟨wq22x53, hwq22x53⟩ : ∃ W, W = wq22x47.alloc (.cells ZR18 26) := ⟨_, rfl⟩
        rw [← hwq22x53] at Hq22x54 Eq22x55 ⊢
        clear hwq22x53
        exact F_to (by kernel_rfl) (by kernel_rfl) (Jq22_3 _ _ ⟨wq22x47.heap.size, gjq22_5_0, rfl, Hq22x54, Eq22x55, by omega, by omega, by omega, by omega, by omega, by omega, by omega, by omega, by omega⟩)
    intro Jq22_5
    refine F_have 4 #[true, true, true, true, false, true, true, true, true, false, true, true, false, false] (fun aJ W => ∃ gjq22_6_0 gjq22_6_1, aJ = { tmps := #[.int .u64 (a : Int), .int .u64 (b : Int), .int .u64 (c : Int), .int .u32 (m : Int), .int .u32 (n : Int), undef, undef, undef, undef, undef, .bool false, .pointer (some ⟨g9, 0, none⟩), .pointer (some ⟨g12, 0, none⟩), .pointer (some ⟨g15, 0, none⟩), .pointer (some ⟨gjq22_6_0, 0, none⟩), .pointer (some ⟨gjq22_6_1, 0, none⟩), undef, .int .u64 (a : Int), .int .u64 (a : Int), .int .u8 (a8 : Int), .agg PP9, .int .u64 (b : Int), .int .u64 (b : Int), .int .u8 (b8 : Int), .agg PP13, .int .u64 (c : Int), .int .u64 (c : Int), .int .u8 (c8 : Int), .agg PP17, .int .u32 (m : Int), .int .u64 (m : Int), .agg NN1, .agg PP9, undef, .int .u32 (n : Int), .int .u64 (n : Int), .agg NN2, .agg PP9, undef, undef, undef, undef, undef, undef, undef, undef, undef, undef, undef, undef, undef, undef, undef, undef, undef, undef, undef, undef, undef, undef, undef, undef, undef, undef, undef, undef, undef, undef, undef, undef, undef, undef, undef, undef, undef, undef, undef, undef, undef, undef, undef, undef, undef, undef, undef, undef, undef, undef, undef, undef, undef], defers := [] } ∧ Kt w [(g15, PP17, 26), (g12, PP13, 26), (g9, PP9, 26)] W ∧ Kt w [(gjq22_6_0, ZR18, 26), (gjq22_6_1, ZR18, 26)] W ∧ w.heap.size ≤ gjq22_6_0 ∧ w.heap.size ≤ gjq22_6_1 ∧ gjq22_6_0 ≠ g15 ∧ gjq22_6_0 ≠ g12 ∧ gjq22_6_0 ≠ g9 ∧ gjq22_6_1 ≠ g15 ∧ gjq22_6_1 ≠ g12 ∧ gjq22_6_1 ≠ g9 ∧ gjq22_6_1 ≠ gjq22_6_0) ?_ ?_
    · rintro aJ wq22x56 ⟨gjq22_6_0, gjq22_6_1, rfl, Hq22x57, Eq22x58, fJq22_6_0, fJq22_6_1, fJq22_6_2, fJq22_6_3, fJq22_6_4, fJq22_6_5, fJq22_6_6, fJq22_6_7, fJq22_6_8⟩
      refine rdy [4] (rcl (some 33) 20 #[.tmp 31, .tmp 32] #[24, 26] #[.agg NN1, .agg PP9] en20 _ (HC21.out _ (HG.out.below Hq22x57.1)) ?_ ReadyF.nil)
      rintro v wq22x59 ⟨he, hb⟩
      cases he
      have Hq22x60 := Hq22x57.below hb
      have Eq22x61 := Eq22x58.below hb
      clear hb
      refine ⟨Hq22x60, ?_⟩
      simp only [Act.put, sT, sS, sZ]
      exact F_to (by kernel_rfl) (by kernel_rfl) (Jq22_3 _ _ ⟨gjq22_6_0, gjq22_6_1, rfl, Hq22x60, Eq22x61, by omega, by omega, by omega, by omega, by omega, by omega, by omega, by omega, by omega⟩)
    intro Jq22_6
    refine tkG 0 (some 29) (.move (.tmp 3)) none (.int .u32 (m : Int)) (fun o ho w2 hw => exec_move (.tmp 3) ho _ rfl w2) HDq22x1 ?_
    simp only [Act.put, sT, sS, sZ]
    refine tkG 1 (some 30) (.convert 41 22 (.tmp 29)) none (.int .u64 (m : Int)) (fun o ho w2 hw => exec_convG 41 22 (.tmp 29) ho _ rfl _ _ _ (cv4122 m Wm w2)) HDq22x1 ?_
    simp only [Act.put, sT, sS, sZ]
    refine tkG 2 (some 31) (.build 24 #[(0, .tmp 30)]) none (.agg NN1) (fun o ho w2 hw => exec_buildN _ 24 #[(0, .tmp 30)] ho #[(0, .int .u64 (m : Int))] (by simp [Act.eval]) _ (BF19 _)) HDq22x1 ?_
    simp only [Act.put, sT, sS, sZ]
    refine tkG 3 (some 32) (.load 26 (.tmp 11)) none (.agg PP9) (fun o ho w2 hw => exec_load_of _ 26 (.tmp 11) ho ⟨g9, 0, none⟩ rfl _ (loadT26 IPP9 (hw.get (g9) PP9 26 (by simp)))) HDq22x1 ?_
    simp only [Act.put, sT, sS, sZ]
    refine tkG 5 (some 34) (.move (.tmp 4)) none (.int .u32 (n : Int)) (fun o ho w2 hw => exec_move (.tmp 4) ho _ rfl w2) HDq22x1 ?_
    simp only [Act.put, sT, sS, sZ]
    refine tkG 6 (some 35) (.convert 41 22 (.tmp 34)) none (.int .u64 (n : Int)) (fun o ho w2 hw => exec_convG 41 22 (.tmp 34) ho _ rfl _ _ _ (cv4122 n Wn w2)) HDq22x1 ?_
    simp only [Act.put, sT, sS, sZ]
    refine tkG 7 (some 36) (.build 24 #[(0, .tmp 35)]) none (.agg NN2) (fun o ho w2 hw => exec_buildN _ 24 #[(0, .tmp 35)] ho #[(0, .int .u64 (n : Int))] (by simp [Act.eval]) _ (BF20 _)) HDq22x1 ?_
    simp only [Act.put, sT, sS, sZ]
    refine tkG 8 (some 37) (.load 26 (.tmp 11)) none (.agg PP9) (fun o ho w2 hw => exec_load_of _ 26 (.tmp 11) ho ⟨g9, 0, none⟩ rfl _ (loadT26 IPP9 (hw.get (g9) PP9 26 (by simp)))) HDq22x1 ?_
    simp only [Act.put, sT, sS, sZ]
    refine rdy [4, 10, 11] (rcl (some 33) 20 #[.tmp 31, .tmp 32] #[24, 26] #[.agg NN1, .agg PP9] en20 _ (HC21.out _ (HG.out.below HDq22x1.1)) ?_ (ral 14 26 HZ26 (HDq22x1.alloc _) ?_ (ral 15 26 HZ26 (HDq22x1.alloc _) ?_ ReadyF.nil)))
    · rintro v wq22x62 ⟨he, hb⟩
      cases he
      have Hq22x63 := HDq22x1.below hb
      clear hb
      refine ⟨Hq22x63, ?_⟩
      simp only [Act.put, sT, sS, sZ]
      refine rdy [9, 10, 11] (rcl (some 38) 20 #[.tmp 36, .tmp 37] #[24, 26] #[.agg NN2, .agg PP9] en20 _ (HC25.out _ (HG.out.below Hq22x63.1)) ?_ (ral 14 26 HZ26 (Hq22x63.alloc _) ?_ (ral 15 26 HZ26 (Hq22x63.alloc _) ?_ ReadyF.nil)))
      · rintro v wq22x64 ⟨he, hb⟩
        cases he
        have Hq22x65 := Hq22x63.below hb
        clear hb
        refine ⟨Hq22x65, ?_⟩
        simp only [Act.put, sT, sS, sZ]
        refine rdy [10, 11] (ral 14 26 HZ26 (Hq22x65.alloc _) ?_ (ral 15 26 HZ26 (Hq22x65.alloc _) ?_ ReadyF.nil))
        · have l0wq22x66 := Hq22x65.lt (g15) PP17 26 (by simp)
          have l1wq22x66 := Hq22x65.lt (g12) PP13 26 (by simp)
          have l2wq22x66 := Hq22x65.lt (g9) PP9 26 (by simp)
          have bwq22x66 := Hq22x65.1.size
          have Hq22x67 := Hq22x65.alloc (.cells ZR18 26)
          have Eq22x68 := (Hq22x65.sub (m := []) (fun p hp => by cases hp)).new ZR18 26
          simp only [Act.put, sT, sS, sZ]
          obtain ⟨wq22x66, hwq22x66⟩ : ∃ W, W = wq22x64.alloc (.cells ZR18 26) := ⟨_, rfl⟩
          rw [← hwq22x66] at Hq22x67 Eq22x68 ⊢
          clear hwq22x66
          exact F_to (by kernel_rfl) (by kernel_rfl) (Jq22_1 _ _ ⟨wq22x64.heap.size, rfl, Hq22x67, Eq22x68, by omega, by omega, by omega, by omega⟩)
        · have l0wq22x69 := Hq22x65.lt (g15) PP17 26 (by simp)
          have l1wq22x69 := Hq22x65.lt (g12) PP13 26 (by simp)
          have l2wq22x69 := Hq22x65.lt (g9) PP9 26 (by simp)
          have bwq22x69 := Hq22x65.1.size
          have Hq22x70 := Hq22x65.alloc (.cells ZR18 26)
          have Eq22x71 := (Hq22x65.sub (m := []) (fun p hp => by cases hp)).new ZR18 26
          simp only [Act.put, sT, sS, sZ]
          obtain ⟨wq22x69, hwq22x69⟩ : ∃ W, W = wq22x64.alloc (.cells ZR18 26) := ⟨_, rfl⟩
          rw [← hwq22x69] at Hq22x70 Eq22x71 ⊢
          clear hwq22x69
          exact F_to (by kernel_rfl) (by kernel_rfl) (Jq22_2 _ _ ⟨wq22x64.heap.size, rfl, Hq22x70, Eq22x71, by omega, by omega, by omega, by omega⟩)
      · have l0wq22x72 := Hq22x63.lt (g15) PP17 26 (by simp)
        have l1wq22x72 := Hq22x63.lt (g12) PP13 26 (by simp)
        have l2wq22x72 := Hq22x63.lt (g9) PP9 26 (by simp)
        have bwq22x72 := Hq22x63.1.size
        have Hq22x73 := Hq22x63.alloc (.cells ZR18 26)
        have Eq22x74 := (Hq22x63.sub (m := []) (fun p hp => by cases hp)).new ZR18 26
        simp only [Act.put, sT, sS, sZ]
        obtain ⟨wq22x72, hwq22x72⟩ : ∃ W, W = wq22x62.alloc (.cells ZR18 26) := ⟨_, rfl⟩
        rw [← hwq22x72] at Hq22x73 Eq22x74 ⊢
        clear hwq22x72
        exact F_to (by kernel_rfl) (by kernel_rfl) (Jq22_4 _ _ ⟨wq22x62.heap.size, rfl, Hq22x73, Eq22x74, by omega, by omega, by omega, by omega⟩)
      · have l0wq22x75 := Hq22x63.lt (g15) PP17 26 (by simp)
        have l1wq22x75 := Hq22x63.lt (g12) PP13 26 (by simp)
        have l2wq22x75 := Hq22x63.lt (g9) PP9 26 (by simp)
        have bwq22x75 := Hq22x63.1.size
        have Hq22x76 := Hq22x63.alloc (.cells ZR18 26)
        have Eq22x77 := (Hq22x63.sub (m := []) (fun p hp => by cases hp)).new ZR18 26
        simp only [Act.put, sT, sS, sZ]
        obtain ⟨wq22x75, hwq22x75⟩ : ∃ W, W = wq22x62.alloc (.cells ZR18 26) := ⟨_, rfl⟩
        rw [← hwq22x75] at Hq22x76 Eq22x77 ⊢
        clear hwq22x75
        exact F_to (by kernel_rfl) (by kernel_rfl) (Jq22_5 _ _ ⟨wq22x62.heap.size, rfl, Hq22x76, Eq22x77, by omega, by omega, by omega, by omega⟩)
    · have l0wq22x78 := HDq22x1.lt (g15) PP17 26 (by simp)
      have l1wq22x78 := HDq22x1.lt (g12) PP13 26 (by simp)
      have l2wq22x78 := HDq22x1.lt (g9) PP9 26 (by simp)
      have bwq22x78 := HDq22x1.1.size
      have Hq22x79 := HDq22x1.alloc (.cells ZR18 26)
      have Eq22x80 := (HDq22x1.sub (m := []) (fun p hp => by cases hp)).new ZR18 26
      simp only [Act.put, sT, sS, sZ]
      obtain ⟨wq22x78, hwq22x78⟩ : ∃ W, W = wdq22x2.alloc (.cells ZR18 26) := ⟨_, rfl⟩
      rw [← hwq22x78] at Hq22x79 Eq22x80 ⊢
      clear hwq22x78
      refine rdy [4, 11] (rcl (some 33) 20 #[.tmp 31, .tmp 32] #[24, 26] #[.agg NN1, .agg PP9] en20 _ (HC21.out _ (HG.out.below Hq22x79.1)) ?_ (ral 15 26 HZ26 (Hq22x79.alloc _) ?_ ReadyF.nil))
      · rintro v wq22x81 ⟨he, hb⟩
        cases he
        have Hq22x82 := Hq22x79.below hb
        have Eq22x83 := Eq22x80.below hb
        clear hb
        refine ⟨Hq22x82, ?_⟩
        simp only [Act.put, sT, sS, sZ]
        exact F_to (by kernel_rfl) (by kernel_rfl) (Jq22_4 _ _ ⟨wdq22x2.heap.size, rfl, Hq22x82, Eq22x83, by omega, by omega, by omega, by omega⟩)
      · have l0wq22x84 := Hq22x79.lt (g15) PP17 26 (by simp)
        have l1wq22x84 := Hq22x79.lt (g12) PP13 26 (by simp)
        have l2wq22x84 := Hq22x79.lt (g9) PP9 26 (by simp)
        have m0wq22x84 := Eq22x80.lt (wdq22x2.heap.size) ZR18 26 (by simp)
        have bwq22x84 := Hq22x79.1.size
        have Hq22x85 := Hq22x79.alloc (.cells ZR18 26)
        have Eq22x86 := Eq22x80.new ZR18 26
        simp only [Act.put, sT, sS, sZ]
        obtain ⟨wq22x84, hwq22x84⟩ : ∃ W, W = wq22x78.alloc (.cells ZR18 26) := ⟨_, rfl⟩
        rw [← hwq22x84] at Hq22x85 Eq22x86 ⊢
        clear hwq22x84
        exact F_to (by kernel_rfl) (by kernel_rfl) (Jq22_6 _ _ ⟨wdq22x2.heap.size, wq22x78.heap.size, rfl, Hq22x85, Eq22x86.sub (fun p hp => by simp at hp; rcases hp with rfl | rfl <;> simp), by omega, by omega, by omega, by omega, by omega, by omega, by omega, by omega, by omega⟩)
    · have l0wq22x87 := HDq22x1.lt (g15) PP17 26 (by simp)
      have l1wq22x87 := HDq22x1.lt (g12) PP13 26 (by simp)
      have l2wq22x87 := HDq22x1.lt (g9) PP9 26 (by simp)
      have bwq22x87 := HDq22x1.1.size
      have Hq22x88 := HDq22x1.alloc (.cells ZR18 26)
      have Eq22x89 := (HDq22x1.sub (m := []) (fun p hp => by cases hp)).new ZR18 26
      simp only [Act.put, sT, sS, sZ]
      obtain ⟨wq22x87, hwq22x87⟩ : ∃ W, W = wdq22x2.alloc (.cells ZR18 26) := ⟨_, rfl⟩
      rw [← hwq22x87] at Hq22x88 Eq22x89 ⊢
      clear hwq22x87
      refine rdy [4, 10] (rcl (some 33) 20 #[.tmp 31, .tmp 32] #[24, 26] #[.agg NN1, .agg PP9] en20 _ (HC21.out _ (HG.out.below Hq22x88.1)) ?_ (ral 14 26 HZ26 (Hq22x88.alloc _) ?_ ReadyF.nil))
      · rintro v wq22x90 ⟨he, hb⟩
        cases he
        have Hq22x91 := Hq22x88.below hb
        have Eq22x92 := Eq22x89.below hb
        clear hb
        refine ⟨Hq22x91, ?_⟩
        simp only [Act.put, sT, sS, sZ]
        exact F_to (by kernel_rfl) (by kernel_rfl) (Jq22_5 _ _ ⟨wdq22x2.heap.size, rfl, Hq22x91, Eq22x92, by omega, by omega, by omega, by omega⟩)
      · have l0wq22x93 := Hq22x88.lt (g15) PP17 26 (by simp)
        have l1wq22x93 := Hq22x88.lt (g12) PP13 26 (by simp)
        have l2wq22x93 := Hq22x88.lt (g9) PP9 26 (by simp)
        have m0wq22x93 := Eq22x89.lt (wdq22x2.heap.size) ZR18 26 (by simp)
        have bwq22x93 := Hq22x88.1.size
        have Hq22x94 := Hq22x88.alloc (.cells ZR18 26)
        have Eq22x95 := Eq22x89.new ZR18 26
        simp only [Act.put, sT, sS, sZ]
        obtain ⟨wq22x93, hwq22x93⟩ : ∃ W, W = wq22x87.alloc (.cells ZR18 26) := ⟨_, rfl⟩
        rw [← hwq22x93] at Hq22x94 Eq22x95 ⊢
        clear hwq22x93
        exact F_to (by kernel_rfl) (by kernel_rfl) (Jq22_6 _ _ ⟨wq22x87.heap.size, wdq22x2.heap.size, rfl, Hq22x94, Eq22x95, by omega, by omega, by omega, by omega, by omega, by omega, by omega, by omega, by omega⟩)
  rintro a' w23 ⟨gq22s0, gq22s1, rfl, hk, e25, e26, e27, e28, e29, e30, e31, e32, e33⟩
  have HS24 := Lib.hid hk
  clear hk HS21
  go_upto_region 3 with fail
  refine wp_region_list ?_
  refine wpList_run rfl (.agg NN4) (exec_buildN _ 24 #[] rfl #[] (by simp [Act.eval]) _ (BF29 _)) ?_
  simp only [Act.put, sT, sS, sZ]
  refine wpList_run rfl (.agg NN5) (exec_buildN _ 24 #[(0, .const (.int .u64 1))] rfl #[(0, .int .u64 1)] (by simp [Act.eval]) _ (BF30 _)) ?_
  simp only [Act.put, sT, sS, sZ]
  refine wpList_callF rfl 24 #[.tmp 39, .tmp 40] #[24, 24] rfl #[.agg NN4, .agg NN5] en24 (HC31.out _) ?_
  rintro v w34 ⟨he, hb⟩
  cases he
  have HS35 := Lib.hid (HS24.out.below hb)
  clear hb HS24
  simp only [Act.put, sT, sS, sZ]
  refine wpList_run rfl (.agg PP33) (exec_buildN _ 26 #[(1, .tmp 41)] rfl #[(1, .agg Pm)] (by simp [Act.eval]) _ (BF32 _)) ?_
  simp only [Act.put, sT, sS, sZ]
  refine wpList_run rfl _ (exec_alloc_agg _ 26 rfl _ (HZ26 _)) ?_
  simp only [Act.put, sT, sS, sZ]
  have lg38_0 := HS35.out.lt (g15) PP17 26 (by simp)
  have lg38_1 := HS35.out.lt (g12) PP13 26 (by simp)
  have lg38_2 := HS35.out.lt (g9) PP9 26 (by simp)
  have lg38_3 := HS35.out.lt (gq22s0) PP24 26 (by simp)
  have lg38_4 := HS35.out.lt (gq22s1) PP28 26 (by simp)
  have bg38 := HS35.out.1.size
  have HS37 := Lib.hid (HS35.out.new ZR18 26)
  clear HS35
  generalize w34.alloc (.cells ZR18 26) = w36 at *
  generalize w34.heap.size = g38 at *
  refine wpList_run0 rfl (exec_storeT26 _ (.tmp 16) (.tmp 42) rfl (g38) rfl PP33 IPP33 rfl ZR18 26 (HS37.out.get (g38) ZR18 26 (by simp)) SZZR18) ?_
  simp only [Act.put, sT, sS, sZ]
  have HS40 : Hid (Kt w [(g38, PP33, 26), (g15, PP17, 26), (g12, PP13, 26), (g9, PP9, 26), (gq22s0, PP24, 26), (gq22s1, PP28, 26)] (w36.setRow (g38) PP33)) := Lib.hid (HS37.out.set (g38) PP33 ZR18 26 (HS37.out.get (g38) ZR18 26 (by simp)) (by omega) (fun p hp => by simp at hp; rcases hp with rfl | rfl | rfl | rfl | rfl | rfl <;> first | exact .inl rfl | exact .inr ⟨by simp, by simp only; omega⟩))
  clear HS37
  generalize w36.setRow (g38) PP33 = w39 at *
  refine wpList_nil ?_
  go_upto_region 4 with fail
  refine wp_cut (fun a' W' => a' = { tmps := #[.int .u64 (a : Int), .int .u64 (b : Int), .int .u64 (c : Int), .int .u32 (m : Int), .int .u32 (n : Int), undef, undef, undef, undef, undef, .bool true, .pointer (some ⟨g9, 0, none⟩), .pointer (some ⟨g12, 0, none⟩), .pointer (some ⟨g15, 0, none⟩), .pointer (some ⟨gq22s0, 0, none⟩), .pointer (some ⟨gq22s1, 0, none⟩), .pointer (some ⟨g38, 0, none⟩), .int .u64 (a : Int), .int .u64 (a : Int), .int .u8 (a8 : Int), .agg PP9, .int .u64 (b : Int), .int .u64 (b : Int), .int .u8 (b8 : Int), .agg PP13, .int .u64 (c : Int), .int .u64 (c : Int), .int .u8 (c8 : Int), .agg PP17, .int .u32 (m : Int), .int .u64 (m : Int), .agg NN1, .agg PP9, .agg PP24, .int .u32 (n : Int), .int .u64 (n : Int), .agg NN2, .agg PP9, .agg PP28, .agg NN4, .agg NN5, .agg Pm, .agg PP33, .agg PP24, .agg PP28, .agg PP38, .int .u32 (m : Int), .int .u64 (m : Int), .int .u32 (n : Int), .int .u64 (n : Int), .int .u64 (mn : Int), .agg NN3, .agg PP9, .agg PP38, .bool true, .bool true, .agg PP9, .agg PP13, .agg PP43, .agg PP17, .agg PP47, .agg PP9, .agg PP13, .agg PP17, .agg PP51, .agg PP47, .bool true, .bool true, .bool true, .agg PP33, .bool true, .bool true, .bool true, .agg PP33, .agg PP33, .agg PP55, .agg PP55, .bool true, .bool true, .bool true, .agg NN58, .agg PP13, .agg PP62, .agg PP13, .agg PP13, .agg PP62, .bool true, .bool true, .bool true, .bool true, .bool true], defers := [] } ∧ Kt w [] W') ?_ ?_
  · refine wp_region_any (by kernel_rfl) ?_
    change wpAny _ _ _ _ _ _ _ (World.drew _)
    have HDq41x1 := HS40.out.drew
    clear HS40
    generalize w39.drew = wdq41x2 at *
    refine any_of_F (S := Kt w [(g38, PP33, 26), (g15, PP17, 26), (g12, PP13, 26), (g9, PP9, 26), (gq22s0, PP24, 26), (gq22s1, PP28, 26)]) (f := 1000) _ _ _ _ ?_
    refine tkG 0 (some 43) (.load 26 (.tmp 14)) none (.agg PP24) (fun o ho w2 hw => exec_load_of _ 26 (.tmp 14) ho ⟨gq22s0, 0, none⟩ rfl _ (loadT26 IPP24 (hw.get (gq22s0) PP24 26 (by simp)))) HDq41x1 ?_
    simp only [Act.put, sT, sS, sZ]
    refine tkG 1 (some 44) (.load 26 (.tmp 15)) none (.agg PP28) (fun o ho w2 hw => exec_load_of _ 26 (.tmp 15) ho ⟨gq22s1, 0, none⟩ rfl _ (loadT26 IPP28 (hw.get (gq22s1) PP28 26 (by simp)))) HDq41x1 ?_
    simp only [Act.put, sT, sS, sZ]
    refine tkG 3 (some 46) (.move (.tmp 3)) none (.int .u32 (m : Int)) (fun o ho w2 hw => exec_move (.tmp 3) ho _ rfl w2) HDq41x1 ?_
    simp only [Act.put, sT, sS, sZ]
    refine tkG 4 (some 47) (.convert 41 22 (.tmp 46)) none (.int .u64 (m : Int)) (fun o ho w2 hw => exec_convG 41 22 (.tmp 46) ho _ rfl _ _ _ (cv4122 m Wm w2)) HDq41x1 ?_
    simp only [Act.put, sT, sS, sZ]
    refine tkG 5 (some 48) (.move (.tmp 4)) none (.int .u32 (n : Int)) (fun o ho w2 hw => exec_move (.tmp 4) ho _ rfl w2) HDq41x1 ?_
    simp only [Act.put, sT, sS, sZ]
    refine tkG 6 (some 49) (.convert 41 22 (.tmp 48)) none (.int .u64 (n : Int)) (fun o ho w2 hw => exec_convG 41 22 (.tmp 48) ho _ rfl _ _ _ (cv4122 n Wn w2)) HDq41x1 ?_
    simp only [Act.put, sT, sS, sZ]
    refine tkG 7 (some 50) (.binOp .add 22 (.tmp 47) (.tmp 49) 22) none (.int .u64 (mn : Int)) (fun o ho w2 hw => exec_add64 (.tmp 47) (.tmp 49) ho m n mn hmn.out Wmn rfl rfl w2) HDq41x1 ?_
    simp only [Act.put, sT, sS, sZ]
    refine tkG 8 (some 51) (.build 24 #[(0, .tmp 50)]) none (.agg NN3) (fun o ho w2 hw => exec_buildN _ 24 #[(0, .tmp 50)] ho #[(0, .int .u64 (mn : Int))] (by simp [Act.eval]) _ (BF34 _)) HDq41x1 ?_
    simp only [Act.put, sT, sS, sZ]
    refine tkG 9 (some 52) (.load 26 (.tmp 11)) none (.agg PP9) (fun o ho w2 hw => exec_load_of _ 26 (.tmp 11) ho ⟨g9, 0, none⟩ rfl _ (loadT26 IPP9 (hw.get (g9) PP9 26 (by simp)))) HDq41x1 ?_
    simp only [Act.put, sT, sS, sZ]
    refine rdy [2] (rcl (some 45) 18 #[.tmp 43, .tmp 44] #[26, 26] #[.agg PP24, .agg PP28] en18 _ (HC35.out _ (HG.out.below HDq41x1.1)) ?_ ReadyF.nil)
    rintro v wq41x11 ⟨he, hb⟩
    cases he
    have Hq41x12 := HDq41x1.below hb
    clear hb
    refine ⟨Hq41x12, ?_⟩
    simp only [Act.put, sT, sS, sZ]
    refine rdy [10] (rcl (some 53) 20 #[.tmp 51, .tmp 52] #[24, 26] #[.agg NN3, .agg PP9] en20 _ (HC39.out _ (HG.out.below Hq41x12.1)) ?_ ReadyF.nil)
    rintro v wq41x13 ⟨he, hb⟩
    cases he
    have Hq41x14 := Hq41x12.below hb
    clear hb
    refine ⟨Hq41x14, ?_⟩
    simp only [Act.put, sT, sS, sZ]
    refine tkG 11 (some 54) (.binOp .eql 26 (.tmp 45) (.tmp 53) 26) none (.bool true) (fun o ho w2 hw => exec_eqP (.tmp 45) (.tmp 53) ho PP38 IPP38 rfl rfl w2) Hq41x14 ?_
    simp only [Act.put, sT, sS, sZ]
    refine tkG 12 (some 55) (.move (.tmp 54)) none (.bool true) (fun o ho w2 hw => exec_move (.tmp 54) ho _ rfl w2) Hq41x14 ?_
    simp only [Act.put, sT, sS, sZ]
    refine tkG 13 (some 56) (.load 26 (.tmp 11)) (some (12, true)) (.agg PP9) (fun o ho w2 hw => exec_load_of _ 26 (.tmp 11) ho ⟨g9, 0, none⟩ rfl _ (loadT26 IPP9 (hw.get (g9) PP9 26 (by simp)))) Hq41x14 ?_
    simp only [Act.put, sT, sS, sZ]
    refine tkG 14 (some 57) (.load 26 (.tmp 12)) (some (12, true)) (.agg PP13) (fun o ho w2 hw => exec_load_of _ 26 (.tmp 12) ho ⟨g12, 0, none⟩ rfl _ (loadT26 IPP13 (hw.get (g12) PP13 26 (by simp)))) Hq41x14 ?_
    simp only [Act.put, sT, sS, sZ]
    refine tkG 16 (some 59) (.load 26 (.tmp 13)) (some (12, true)) (.agg PP17) (fun o ho w2 hw => exec_load_of _ 26 (.tmp 13) ho ⟨g15, 0, none⟩ rfl _ (loadT26 IPP17 (hw.get (g15) PP17 26 (by simp)))) Hq41x14 ?_
    simp only [Act.put, sT, sS, sZ]
    refine tkG 18 (some 61) (.load 26 (.tmp 11)) (some (12, true)) (.agg PP9) (fun o ho w2 hw => exec_load_of _ 26 (.tmp 11) ho ⟨g9, 0, none⟩ rfl _ (loadT26 IPP9 (hw.get (g9) PP9 26 (by simp)))) Hq41x14 ?_
    simp only [Act.put, sT, sS, sZ]
    refine tkG 19 (some 62) (.load 26 (.tmp 12)) (some (12, true)) (.agg PP13) (fun o ho w2 hw => exec_load_of _ 26 (.tmp 12) ho ⟨g12, 0, none⟩ rfl _ (loadT26 IPP13 (hw.get (g12) PP13 26 (by simp)))) Hq41x14 ?_
    simp only [Act.put, sT, sS, sZ]
    refine tkG 20 (some 63) (.load 26 (.tmp 13)) (some (12, true)) (.agg PP17) (fun o ho w2 hw => exec_load_of _ 26 (.tmp 13) ho ⟨g15, 0, none⟩ rfl _ (loadT26 IPP17 (hw.get (g15) PP17 26 (by simp)))) Hq41x14 ?_
    simp only [Act.put, sT, sS, sZ]
    refine rdy [15] (rclG (some 58) 18 #[.tmp 56, .tmp 57] #[26, 26] (some (12, true)) #[.agg PP9, .agg PP13] en18 _ (HC40.out _ (HG.out.below Hq41x14.1)) ?_ ReadyF.nil)
    rintro v wq41x15 ⟨he, hb⟩
    cases he
    have Hq41x16 := Hq41x14.below hb
    clear hb
    refine ⟨Hq41x16, ?_⟩
    simp only [Act.put, sT, sS, sZ]
    refine rdy [17] (rclG (some 60) 18 #[.tmp 58, .tmp 59] #[26, 26] (some (12, true)) #[.agg PP43, .agg PP17] en18 _ (HC44.out _ (HG.out.below Hq41x16.1)) ?_ ReadyF.nil)
    rintro v wq41x17 ⟨he, hb⟩
    cases he
    have Hq41x18 := Hq41x16.below hb
    clear hb
    refine ⟨Hq41x18, ?_⟩
    simp only [Act.put, sT, sS, sZ]
    refine rdy [21] (rclG (some 64) 18 #[.tmp 62, .tmp 63] #[26, 26] (some (12, true)) #[.agg PP13, .agg PP17] en18 _ (HC48.out _ (HG.out.below Hq41x18.1)) ?_ ReadyF.nil)
    rintro v wq41x19 ⟨he, hb⟩
    cases he
    have Hq41x20 := Hq41x18.below hb
    clear hb
    refine ⟨Hq41x20, ?_⟩
    simp only [Act.put, sT, sS, sZ]
    refine rdy [22] (rclG (some 65) 18 #[.tmp 61, .tmp 64] #[26, 26] (some (12, true)) #[.agg PP9, .agg PP51] en18 _ (HC52.out _ (HG.out.below Hq41x20.1)) ?_ ReadyF.nil)
    rintro v wq41x21 ⟨he, hb⟩
    cases he
    have Hq41x22 := Hq41x20.below hb
    clear hb
    refine ⟨Hq41x22, ?_⟩
    simp only [Act.put, sT, sS, sZ]
    refine tkG 23 (some 66) (.binOp .eql 26 (.tmp 60) (.tmp 65) 26) (some (12, true)) (.bool true) (fun o ho w2 hw => exec_eqP (.tmp 60) (.tmp 65) ho PP47 IPP47 rfl rfl w2) Hq41x22 ?_
    simp only [Act.put, sT, sS, sZ]
    refine tkG 24 (some 67) (.pick (.tmp 55) (.tmp 66) (.const (.bool false))) none (.bool true) (fun o ho w2 hw => exec_pickt (.tmp 55) (.tmp 66) (.const (.bool false)) ho rfl _ rfl w2) Hq41x22 ?_
    simp only [Act.put, sT, sS, sZ]
    refine tkG 25 (some 68) (.move (.tmp 67)) none (.bool true) (fun o ho w2 hw => exec_move (.tmp 67) ho _ rfl w2) Hq41x22 ?_
    simp only [Act.put, sT, sS, sZ]
    refine tkG 26 (some 69) (.load 26 (.tmp 16)) (some (25, true)) (.agg PP33) (fun o ho w2 hw => exec_load_of _ 26 (.tmp 16) ho ⟨g38, 0, none⟩ rfl _ (loadT26 IPP33 (hw.get (g38) PP33 26 (by simp)))) Hq41x22 ?_
    simp only [Act.put, sT, sS, sZ]
    refine rdy [27] (rclG (some 70) 13 #[.tmp 69] #[26] (some (25, true)) #[.agg PP33] en13 _ (HC53.out _ (HG.out.below Hq41x22.1)) ?_ ReadyF.nil)
    rintro v wq41x23 ⟨he, hb⟩
    cases he
    have Hq41x24 := Hq41x22.below hb
    clear hb
    refine ⟨Hq41x24, ?_⟩
    simp only [Act.put, sT, sS, sZ]
    refine tkG 28 (some 71) (.pick (.tmp 68) (.tmp 70) (.const (.bool false))) none (.bool true) (fun o ho w2 hw => exec_pickt (.tmp 68) (.tmp 70) (.const (.bool false)) ho rfl _ rfl w2) Hq41x24 ?_
    simp only [Act.put, sT, sS, sZ]
    refine tkG 29 (some 72) (.move (.tmp 71)) none (.bool true) (fun o ho w2 hw => exec_move (.tmp 71) ho _ rfl w2) Hq41x24 ?_
    simp only [Act.put, sT, sS, sZ]
    refine tkG 30 (some 73) (.load 26 (.tmp 16)) (some (29, true)) (.agg PP33) (fun o ho w2 hw => exec_load_of _ 26 (.tmp 16) ho ⟨g38, 0, none⟩ rfl _ (loadT26 IPP33 (hw.get (g38) PP33 26 (by simp)))) Hq41x24 ?_
    simp only [Act.put, sT, sS, sZ]
    refine tkG 31 (some 74) (.load 26 (.tmp 16)) (some (29, true)) (.agg PP33) (fun o ho w2 hw => exec_load_of _ 26 (.tmp 16) ho ⟨g38, 0, none⟩ rfl _ (loadT26 IPP33 (hw.get (g38) PP33 26 (by simp)))) Hq41x24 ?_
    simp only [Act.put, sT, sS, sZ]
    refine rdy [32] (rclG (some 75) 18 #[.tmp 73, .tmp 74] #[26, 26] (some (29, true)) #[.agg PP33, .agg PP33] en18 _ (HC54.out _ (HG.out.below Hq41x24.1)) ?_ ReadyF.nil)
    rintro v wq41x25 ⟨he, hb⟩
    cases he
    have Hq41x26 := Hq41x24.below hb
    clear hb
    refine ⟨Hq41x26, ?_⟩
    simp only [Act.put, sT, sS, sZ]
    refine rdy [33] (rclG (some 76) 25 #[] #[] (some (29, true)) #[] en25 _ (HC56.out _) ?_ ReadyF.nil)
    rintro v wq41x27 ⟨he, hb⟩
    cases he
    have Hq41x28 := Hq41x26.below hb
    clear hb
    refine ⟨Hq41x28, ?_⟩
    simp only [Act.put, sT, sS, sZ]
    refine tkG 34 (some 77) (.binOp .eql 26 (.tmp 75) (.tmp 76) 26) (some (29, true)) (.bool true) (fun o ho w2 hw => exec_eqP (.tmp 75) (.tmp 76) ho PP55 IPP55 rfl rfl w2) Hq41x28 ?_
    simp only [Act.put, sT, sS, sZ]
    refine tkG 35 (some 78) (.pick (.tmp 72) (.tmp 77) (.const (.bool false))) none (.bool true) (fun o ho w2 hw => exec_pickt (.tmp 72) (.tmp 77) (.const (.bool false)) ho rfl _ rfl w2) Hq41x28 ?_
    simp only [Act.put, sT, sS, sZ]
    refine tkG 36 (some 79) (.move (.tmp 78)) none (.bool true) (fun o ho w2 hw => exec_move (.tmp 78) ho _ rfl w2) Hq41x28 ?_
    simp only [Act.put, sT, sS, sZ]
    refine tkG 37 (some 80) (.build 24 #[(0, .const (.int .u64 2))]) (some (36, true)) (.agg NN58) (fun o ho w2 hw => exec_buildN _ 24 #[(0, .const (.int .u64 2))] ho #[(0, .int .u64 2)] (by simp [Act.eval]) _ (BF57 _)) Hq41x28 ?_
    simp only [Act.put, sT, sS, sZ]
    refine tkG 38 (some 81) (.load 26 (.tmp 12)) (some (36, true)) (.agg PP13) (fun o ho w2 hw => exec_load_of _ 26 (.tmp 12) ho ⟨g12, 0, none⟩ rfl _ (loadT26 IPP13 (hw.get (g12) PP13 26 (by simp)))) Hq41x28 ?_
    simp only [Act.put, sT, sS, sZ]
    refine tkG 40 (some 83) (.load 26 (.tmp 12)) (some (36, true)) (.agg PP13) (fun o ho w2 hw => exec_load_of _ 26 (.tmp 12) ho ⟨g12, 0, none⟩ rfl _ (loadT26 IPP13 (hw.get (g12) PP13 26 (by simp)))) Hq41x28 ?_
    simp only [Act.put, sT, sS, sZ]
    refine tkG 41 (some 84) (.load 26 (.tmp 12)) (some (36, true)) (.agg PP13) (fun o ho w2 hw => exec_load_of _ 26 (.tmp 12) ho ⟨g12, 0, none⟩ rfl _ (loadT26 IPP13 (hw.get (g12) PP13 26 (by simp)))) Hq41x28 ?_
    simp only [Act.put, sT, sS, sZ]
    refine rdy [39] (rclG (some 82) 20 #[.tmp 80, .tmp 81] #[24, 26] (some (36, true)) #[.agg NN58, .agg PP13] en20 _ (HC59.out _ (HG.out.below Hq41x28.1)) ?_ ReadyF.nil)
    rintro v wq41x29 ⟨he, hb⟩
    cases he
    have Hq41x30 := Hq41x28.below hb
    clear hb
    refine ⟨Hq41x30, ?_⟩
    simp only [Act.put, sT, sS, sZ]
    refine rdy [42] (rclG (some 85) 18 #[.tmp 83, .tmp 84] #[26, 26] (some (36, true)) #[.agg PP13, .agg PP13] en18 _ (HC63.out _ (HG.out.below Hq41x30.1)) ?_ ReadyF.nil)
    rintro v wq41x31 ⟨he, hb⟩
    cases he
    have Hq41x32 := Hq41x30.below hb
    clear hb
    refine ⟨Hq41x32, ?_⟩
    simp only [Act.put, sT, sS, sZ]
    refine tkG 43 (some 86) (.binOp .eql 26 (.tmp 82) (.tmp 85) 26) (some (36, true)) (.bool true) (fun o ho w2 hw => exec_eqP (.tmp 82) (.tmp 85) ho PP62 IPP62 rfl rfl w2) Hq41x32 ?_
    simp only [Act.put, sT, sS, sZ]
    refine tkG 44 (some 87) (.pick (.tmp 79) (.tmp 86) (.const (.bool false))) none (.bool true) (fun o ho w2 hw => exec_pickt (.tmp 79) (.tmp 86) (.const (.bool false)) ho rfl _ rfl w2) Hq41x32 ?_
    simp only [Act.put, sT, sS, sZ]
    refine tkG 45 (some 88) (.move (.tmp 87)) none (.bool true) (fun o ho w2 hw => exec_move (.tmp 87) ho _ rfl w2) Hq41x32 ?_
    simp only [Act.put, sT, sS, sZ]
    refine rdy [46] (rclG (some 89) 10 #[] #[] (some (45, true)) #[] en10 _ (HC64.out _ (HG.out.below Hq41x32.1)) ?_ ReadyF.nil)
    rintro v wq41x33 ⟨he, hb⟩
    cases he
    have Hq41x34 := Hq41x32.below hb
    clear hb
    refine ⟨Hq41x34, ?_⟩
    simp only [Act.put, sT, sS, sZ]
    refine tkG 47 (some 90) (.pick (.tmp 88) (.tmp 89) (.const (.bool false))) none (.bool true) (fun o ho w2 hw => exec_pickt (.tmp 88) (.tmp 89) (.const (.bool false)) ho rfl _ rfl w2) Hq41x34 ?_
    simp only [Act.put, sT, sS, sZ]
    refine tkG 48 (some 10) (.assign (.tmp 90)) none (.bool true) (fun o ho w2 hw => exec_assign (.tmp 90) ho _ rfl w2) Hq41x34 ?_
    simp only [Act.put, sT, sS, sZ]
    refine AnyF.done (by kernel_rfl) ?_ _
    refine nrm_intro ⟨rfl, Hq41x34.sub (fun p hp => by cases hp)⟩
  rintro a' w42 ⟨rfl, hk⟩
  have HS43 := Lib.hid hk
  clear hk HS40
  go_wp2
  go_ret
  exact ⟨rfl, HS43.out.1⟩
end Go.Proofs.YtgbliacncahooaaDoor
