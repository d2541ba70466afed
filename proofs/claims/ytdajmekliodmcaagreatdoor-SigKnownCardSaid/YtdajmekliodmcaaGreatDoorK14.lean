/- Several texts, one behind the other; each says by itself what it proves, and on what conditions. -/
import Derived.Test.YtdajmekliodmcaaGreatDoorK13
import Derived.Deep.DeepCutAuto
import Derived.Deep.CutBlock
import Derived.StillTailTactics
import Derived.Deep.RegionLaw
import Derived.BigRegion
import Derived.Deep.RegionHeld3
import Derived.Deep.QuietTactic
import Derived.BigQuiet
namespace Go.Proofs.YtdajmekliodmcaaGreatDoor.W4
set_option linter.unusedSimpArgs false
open Go.Proofs.YtdajmekliodmcaaGreatDoor.P8
open Go.RowKit
set_option linter.unusedVariables false
theorem pL_len : pL.length = 80 := by decide +kernel
theorem nums_app (t e : TypeId) (kd : IntKind) (b : Nat) (hb16 : b ≤ 16) (ht : Tryz.prog.underlying t = some (.slice e)) (hinfo : (Tryz.prog.info? e).map (fun i => (i.zero, i.size, i.bytes)) = some (some (.int kd 0), 1, b))
    {W wr : World} {B : Nat} {v : Value} {n : Nat} {l : List Nat} (hown : wr.ownsRow B e 1 v n (numsV kd l)) (hb : Below B W wr) (hB : B ≤ wr.heap.size) (x : Nat) (hlt : n ≤ 1000000) :
    ∃ p c W3, (∀ (ρ : Operand → Value) (o : Oper) (s y : Operand), o.op = Op.call { callee := Callee.builtin Builtin.append, args := #[s, y], argTypes := #[t, t] } → ρ s = v → ρ y = .slice (some ⟨wr.heap.size, 0, none⟩) 1 1 → (execOp ρ o).run Tryz.prog (wr.alloc (.cells #[.int kd (x : Int)] e)) = .ok (.value (.slice p (n + 1) c)) W3) ∧
      W3.ownsRow B e 1 (.slice p (n + 1) c) (n + 1) (numsV kd (l ++ [x])) ∧ Below B W W3 := by
  obtain ⟨i3, hi3, hz3, hs3, hb3⟩ := info_parts hinfo
  obtain ⟨v', W3, happ, hown', hgrow, hat⟩ := exec_append_own (P := Tryz.prog) (wr.alloc (.cells #[.int kd (x : Int)] e)) B t e i3 _ 1 b ht hi3 hz3 hs3 hb3 rfl (by decide) v n _ (hown.alloc _) ⟨wr.heap.size, 0, none⟩ 1 1 [.int kd (x : Int)] rfl (by
      intro j u hu
      rw [addr_add, cell_of_row _ wr.heap.size (0 + j) [Value.int kd (x : Int)].toArray e (0, 0) (heap_alloc_new wr _), Nat.zero_add, List.getElem?_toArray]
      exact hu) (by intro u hu; simp at hu; subst hu; rfl) (by unfold maxLen; omega) (by have h1 : (n + 1) * b ≤ (n + 1) * 16 := Nat.mul_le_mul_left _ hb16; omega) (by simp; omega)
  obtain ⟨p, c, rfl⟩ := own_form hown'
  exact ⟨p, c, W3, happ, by rw [numsV_append]; exact hown', (hb.alloc hB _).grown hgrow (by simp; omega) (fun j hj => (hown.lt j hj).1)⟩
theorem bytes_app {W wr : World} {B : Nat} {v : Value} {n : Nat} {l : List UInt8} (hown : wr.ownsRow B 5 1 v n (bytesV l)) (hb : Below B W wr) (hB : B ≤ wr.heap.size)
    (news : List UInt8) (m : Nat) (hm : news.length = m) (arr : Array Value) (harr : arr = (bytesV news).toArray) (hlt : n + m ≤ 1000000) :
    ∃ v' W3, (∀ (ρ : Operand → Value) (o : Oper) (s x : Operand), o.op = Op.call { callee := Callee.builtin Builtin.append, args := #[s, x], argTypes := #[33, 33] } → ρ s = v → ρ x = .slice (some ⟨wr.heap.size, 0, none⟩) m m → (execOp ρ o).run Tryz.prog (wr.alloc (.cells arr 5)) = .ok (.value v') W3) ∧
      W3.ownsRow B 5 1 v' (n + m) (bytesV (l ++ news)) ∧ Below B W W3 ∧ W3.heap.size ≥ wr.heap.size := by
  obtain ⟨i5, hi5, hz5, hs5, hb5⟩ := info_parts info5
  subst harr
  obtain ⟨v', W3, happ, hown', hgrow, hat⟩ := exec_append_own (P := Tryz.prog) (wr.alloc (.cells (bytesV news).toArray 5)) B 33 5 i5 _ 1 1 Tryz.underlying33 hi5 hz5 hs5 hb5 rfl (by decide) _ n _ (hown.alloc _) ⟨wr.heap.size, 0, none⟩ m m (bytesV news) (by rw [bytesV_length]; omega) (by
      intro j u hu
      rw [addr_add, cell_of_row _ wr.heap.size (0 + j) (bytesV news).toArray 5 (0, 0) (heap_alloc_new wr _), Nat.zero_add, List.getElem?_toArray]
      exact hu) (by intro u hu; simp [bytesV] at hu; obtain ⟨b, _, rfl⟩ := hu; rfl) (by unfold maxLen; omega) (by omega) (by simp; omega)
  refine ⟨v', W3, happ, by rw [bytesV_append]; exact hown', (hb.alloc hB _).grown hgrow (by simp; omega) (fun j hj => (hown.lt j hj).1), ?_⟩
  have := hgrow.size
  simp at this
  omega
theorem bytes_str {wr : World} {B : Nat} {v : Value} {n : Nat} {l : List UInt8} (hown : wr.ownsRow B 5 1 v n (bytesV l)) (hn : 0 < n) :
    ∃ g cap, v = .slice (some ⟨g, 0, none⟩) n cap ∧ (Go.convert 33 9 (.slice (some ⟨g, 0, none⟩) n cap)).run Tryz.prog wr = .ok (.string ⟨l.toArray⟩) wr := by
  have hl : l.length = n := by have := hown.1; rw [bytesV_length] at this; omega
  rcases hown.2 with ⟨_, h0⟩ | ⟨g, cap, cur, rfl, _⟩
  · omega
  · subst hl
    refine ⟨g, cap, rfl, run_convert_bytes_back wr 33 9 5 ⟨g, 0, none⟩ cap l Tryz.underlying33 Tryz.underlying5 Tryz.underlying9 (fun j hj => ?_)⟩
    rw [addr_add, Nat.zero_add, hown.cellAt j (by omega)]
    unfold bytesV
    rw [List.getElem?_map, List.getElem?_eq_getElem hj]
    rfl
noncomputable def shaB3 : Code := ((Tryz.f41.body.map fun c => (loopsOf c).getD 2 .skip)).getD .skip
noncomputable def shaB6 : Code := (loopsOf shaB3).getD 2 .skip
noncomputable def shaB7 : Code := (loopsOf shaB3).getD 3 .skip
noncomputable def shaB4 : Code := (loopsOf shaB3).getD 0 .skip
theorem extract_size (T : ByteArray) (a b : Nat) (h : b ≤ T.size) : (T.extract a b).size = b - a := by
  rw [ByteArray.size_extract]; omega
theorem own_below {a b : World} {B B' : Nat} {e : TypeId} {size : Nat} {v : Value} {n : Nat} {xs : List Value} (h : a.ownsRow B e size v n xs) (hb : Below B' a b) (hB : a.heap.size ≤ B') : b.ownsRow B e size v n xs := by
  refine ⟨h.1, ?_⟩
  rcases h.2 with h | ⟨g2, cap, cur, h1, h2, h3, h4⟩
  · exact Or.inl h
  · exact Or.inr ⟨g2, cap, cur, h1, h2, by rw [hb.block g2 (Nat.lt_of_lt_of_le (lt_of_block h3) hB)]; exact h3, h4⟩
theorem qB_take : ∀ k, k < 411 → qB k = pL.take (qB k).length := by decide +kernel
theorem qB_last : (qB 410).length = 80 := by decide +kernel
theorem qB_two : qB 2 = [] := by decide +kernel
theorem qB_pr2 (k : Nat) (h1 : k < 410) (h2 : 2 ≤ k) : qB (k + 1) = if isPr k then qB k ++ [k] else qB k := qB_pr k h1 h2
set_option maxRecDepth 100000 in
set_option maxHeartbeats 2000000 in
theorem roots_any (F : Nat) (pw : Nat → Nat → Nat) (EG : ∀ args w, (callFunc F args).run Tryz.prog w = .ok (.enter F args) w)
    (HPW : ∀ a f : Nat, a < 18446744073709551616 → f < 18446744073709551616 → ∀ w : World, Calls Tryz.prog F #[.agg #[.int .u64 a, .int .u64 f]] w fun e w' => e = .returned (.int .u64 (pw a f)) ∧ Below w.heap.size w w')
    (n : Nat) (hn : n ≤ 80) (hok : ∀ p ∈ pL.take n, wholeOk pw p = true)
    (hmk : ∀ W : World, (Instr.makeSlice 92 (.int .i64 0) (.int .i64 n)).run Tryz.prog W = .ok (.slice (some ⟨W.heap.size, 0, none⟩) 0 n) (W.alloc (.cells (rowOf .u64 n (fun _ => 0)).toArray 34))) (w : World) :
    Calls Tryz.prog 112 #[.int .i64 n, .func (.func F) #[] #[]] w fun e w' => ∃ p c, e = .returned (.slice p n c) ∧ w'.ownsRow w.heap.size 34 1 (.slice p n c) n (numsV .u64 ((pL.take n).map (rootN pw))) ∧ Below w.heap.size w w' := by
  have HR := Lib.hid (fun p hp hk => root_any F pw EG HPW p hp hk)
  have HOK := Lib.hid hok
  have h0 : Hid ((w.alloc (.cells (rowOf .u64 n (fun _ => 0)).toArray 34)).ownsRow w.heap.size 34 1 (.slice (some ⟨w.heap.size, 0, none⟩) 0 n) 0 (numsV .u64 ((qB 2).map (rootN pw)))) := by
    unfold Hid
    rw [qB_two]
    exact ⟨rfl, Or.inr ⟨w.heap.size, n, _, rfl, Nat.le_refl _, heap_alloc_new _ _, Nat.zero_le _, by unfold maxLen; omega, by rw [rowOf_size]; omega, rfl⟩⟩
  obtain ⟨z, hz⟩ : ∃ z, Hid (z = (rowOf .u64 n (fun _ => 0)).toArray) := ⟨_, Lib.hid rfl⟩
  rw [← hz.out] at h0
  have hmk2 : ∀ W : World, (Instr.makeSlice 92 (.int .i64 0) (.int .i64 n)).run Tryz.prog W = .ok (.slice (some ⟨W.heap.size, 0, none⟩) 0 n) (W.alloc (.cells z 34)) := by rw [hz.out]; exact hmk
  clear hmk HPW EG hok
  go_enter Tryz.func112, Tryz.ntmps112
  go_wp2
  go_loopw [5, 6] (fun v kv wr => ∃ k m : Nat, ∃ p c, 2 ≤ k ∧ k ≤ 410 ∧ m ≤ n ∧ v = .slice p m c ∧ kv = .int .u64 k ∧ Hid (m = (qB k).length) ∧ wr.ownsRow w.heap.size 34 1 (.slice p m c) m (numsV .u64 ((qB k).map (rootN pw))) ∧ Below w.heap.size w wr) (fun _ kv _ => 410 - (intOf kv).toNat)
  case atStart => exact ⟨2, 0, _, _, by omega, by omega, by omega, rfl, rfl, Lib.hid (by rw [qB_two]; rfl), h0.out, (Below.refl _ w).alloc (Nat.le_refl _) _⟩
  case round =>
    clear h0 hmk2 hz
    obtain ⟨k, m, p, c, hk2, hk3, hmn, rfl, rfl, hm, hown, hb⟩ := hrel
    have HO := Lib.hid hown
    have HB := Lib.hid hb
    clear hown hb
    by_cases hlt : m < n
    · have hk4 : k < 410 := by
        rcases Nat.lt_or_ge k 410 with h | h
        · exact h
        · have e : k = 410 := by omega
          have := hm.out
          rw [e, qB_last] at this
          omega
      have HST := Lib.hid (qB_pr2 k hk4 hk2)
      cases hpr : isPr k with
      | true =>
        have HQ : Hid (qB (k + 1) = qB k ++ [k]) := by have h := HST.out; rw [hpr] at h; exact h
        have HNL : Hid (m + 1 = (qB (k + 1)).length) := by unfold Hid; rw [HQ.out, List.length_append, ← hm.out]; rfl
        have hkin : k ∈ pL.take n := by
          have h1 : k ∈ qB (k + 1) := by rw [HQ.out]; simp
          rw [qB_take (k + 1) (by omega), ← HNL.out] at h1
          have h2 : (pL.take n).take (m + 1) = pL.take (m + 1) := by rw [List.take_take, Nat.min_eq_left (by omega)]
          rw [← h2] at h1
          exact List.mem_of_mem_take h1
        have HC := Lib.hid (HR.out k (by omega) (HOK.out k hkin))
        obtain ⟨R, hR⟩ : ∃ R, Hid (R = rootN pw k) := ⟨_, Lib.hid rfl⟩
        rw [← hR.out] at HC
        have HP : Hid (∀ w : World, Calls Tryz.prog 152 #[.int .u64 k] w fun e w' => e = .returned (.bool true) ∧ w = w') := by
          have h := fun w => prime_any k (by omega) w
          rw [hpr] at h
          exact h
        clear hkin HST hpr
        go_wp2_with fail
        refine (HP.out _).mono ?_
        rintro e w' ⟨rfl, rfl⟩
        go_wp2_with fail
        refine (HC.out _).mono ?_
        rintro e w2 ⟨rfl, hb2⟩
        have hsz := HB.out.size
        have hb3 : Below w.heap.size w w2 := HB.out.trans (hb2.mono hsz)
        have hown2 := own_below HO.out hb2 (Nat.le_refl _)
        have hl : (numsV .u64 ((qB k).map (rootN pw))) = numsV .u64 ((qB k).map (rootN pw)) := rfl
        obtain ⟨p', c', W3, happ, hown', hbel⟩ := nums_app 92 34 .u64 8 (by decide) Tryz.underlying92 info27 hown2 hb3 hb3.size R (by omega)
        rw [hR.out, show (qB k).map (rootN pw) ++ [rootN pw k] = (qB (k + 1)).map (rootN pw) by rw [HQ.out, List.map_append]; rfl] at hown'
        have HAPP := Lib.hid happ
        have HO3 := Lib.hid hown'
        have HF := Lib.hid hbel
        clear happ hown' hbel hown2 hb3 hb2 hsz HO HB HP HC
        go_wp2_with (at_builtin; refine wpList_run rfl _ (HAPP.out _ _ (.tmp 17) (.tmp 21) rfl rfl rfl) ?_)
        go_roundw
        case rel => exact ⟨k + 1, m + 1, p', c', by omega, by omega, by omega, rfl, by go_num, HNL, HO3.out, HF.out⟩
        case measure => simp [intOf]; omega
      | false =>
        have HQ : Hid (qB (k + 1) = qB k) := by have h := HST.out; rw [hpr] at h; exact h
        have HNL : Hid (m = (qB (k + 1)).length) := by unfold Hid; rw [HQ.out]; exact hm.out
        have HO2 : Hid (wr.ownsRow w.heap.size 34 1 (.slice p m c) m (numsV .u64 ((qB (k + 1)).map (rootN pw)))) := by unfold Hid; rw [HQ.out]; exact HO.out
        have HP : Hid (∀ w : World, Calls Tryz.prog 152 #[.int .u64 k] w fun e w' => e = .returned (.bool false) ∧ w = w') := by
          have h := fun w => prime_any k (by omega) w
          rw [hpr] at h
          exact h
        clear HST hpr HO
        go_wp2_with fail
        refine (HP.out _).mono ?_
        rintro e w' ⟨rfl, rfl⟩
        go_wp2
        go_roundw
        case rel => exact ⟨k + 1, m, p, c, by omega, by omega, by omega, rfl, by go_num, HNL, HO2.out, HB.out⟩
        case measure => simp [intOf]; omega
    · obtain rfl : m = n := by omega
      have HT : Hid (qB k = pL.take m) := by unfold Hid; have h := qB_take k (by omega); rw [← hm.out] at h; exact h
      rw [HT.out] at HO
      clear HT hm
      go_wp2
      go_ret
      exact ⟨p, c, rfl, HO.out, HB.out⟩
theorem enters_cube : ∀ args w, (callFunc 151 args).run Tryz.prog w = .ok (.enter 151 args) w := enters_of Tryz.func151 (by kernel_rfl) rfl
theorem enters_square : ∀ args w, (callFunc 113 args).run Tryz.prog w = .ok (.enter 113 args) w := enters_of Tryz.func113 (by kernel_rfl) rfl
theorem make80 (W : World) : (Instr.makeSlice 92 (.int .i64 0) (.int .i64 80)).run Tryz.prog W = .ok (.slice (some ⟨W.heap.size, 0, none⟩) 0 80) (W.alloc (.cells (rowOf .u64 80 (fun _ => 0)).toArray 34)) := by kernel_rfl
theorem make8r (W : World) : (Instr.makeSlice 92 (.int .i64 0) (.int .i64 8)).run Tryz.prog W = .ok (.slice (some ⟨W.heap.size, 0, none⟩) 0 8) (W.alloc (.cells (rowOf .u64 8 (fun _ => 0)).toArray 34)) := by kernel_rfl
theorem roots_cube (w : World) : Calls Tryz.prog 112 #[.int .i64 80, .func (.func 151) #[] #[]] w fun e w' => ∃ p c, e = .returned (.slice p 80 c) ∧ w'.ownsRow w.heap.size 34 1 (.slice p 80 c) 80 (numsV .u64 kL) ∧ Below w.heap.size w w' := by
  have h := roots_any 151 cuN enters_cube (fun a f ha hf w => cube_any a f ha hf w) 80 (Nat.le_refl _) (fun p hp => List.all_eq_true.1 cu_whole p (List.mem_of_mem_take hp)) make80 w
  rw [List.take_of_length_le (by rw [pL_len]; exact Nat.le_refl _), cu_all] at h
  exact h
theorem roots_square (w : World) : Calls Tryz.prog 112 #[.int .i64 8, .func (.func 113) #[] #[]] w fun e w' => ∃ p c, e = .returned (.slice p 8 c) ∧ w'.ownsRow w.heap.size 34 1 (.slice p 8 c) 8 (rowOf .u64 8 h0.at) ∧ Below w.heap.size w w' := by
  have h := roots_any 113 sqN enters_square (fun a f ha hf w => square_any a f ha hf w) 8 (by decide) (fun p hp => List.all_eq_true.1 sq_whole p hp) make8r w
  rw [sq_all] at h
  exact h
theorem consts_any (w : World) : Calls Tryz.prog 111 #[] w fun e w' => ∃ p c, e = .returned (.slice p 80 c) ∧ w'.ownsRow w.heap.size 34 1 (.slice p 80 c) 80 (numsV .u64 kL) ∧ Below w.heap.size w w' := by
  have HR := Lib.hid (roots_cube w)
  go_enter Tryz.func111, Tryz.ntmps111
  go_wp2_with fail
  refine HR.out.mono ?_
  rintro e w1 ⟨p, c, rfl, ho, hb⟩
  have HO := Lib.hid ho
  have HB := Lib.hid hb
  clear ho hb HR
  go_wp2
  go_ret
  exact ⟨p, c, rfl, HO.out, HB.out⟩
theorem fill_lt (n : Nat) : fill n < 128 := Nat.mod_lt _ (by decide)
theorem fill_end (n : Nat) : (n + 1 + fill n) % 128 = 112 := by unfold fill; omega
theorem fill_not (n k : Nat) (h : k < fill n) : (n + 1 + k) % 128 ≠ 112 := by unfold fill at h; omega
def tellTo (f : Nat → Nat) : Nat → List UInt8
  | 0 => []
  | k + 1 => tellTo f k ++ be8 (f k)
theorem tellTo_succ (f : Nat → Nat) (k : Nat) : tellTo f (k + 1) = tellTo f k ++ be8 (f k) := rfl
theorem tell_to (s : St) : tellTo s.at 8 = tell s := by simp [tellTo, tell, St.at]
theorem kL_at (j : Nat) (hj : j < 80) : kL[j]? = some (kN j) := by
  unfold kN
  have : kL.length = 80 := by decide +kernel
  rw [List.getD_eq_getElem?_getD, List.getElem?_eq_getElem (by omega)]; rfl
noncomputable def body1 : Code := ((Tryz.f155.body.map fun c => (loopsOf c).getD 0 .skip)).getD .skip
noncomputable def body2 : Code := ((Tryz.f155.body.map fun c => (loopsOf c).getD 1 .skip)).getD .skip
theorem add_w1 (X Y : Int) (u v : Nat) (hX : X = (u : Int)) (hY : Y = (v : Int)) : IntKind.u64.wrap (X + Y) = ((add u v : Nat) : Int) := by
  subst hX
  subst hY
  exact wadd u v
set_option maxRecDepth 100000 in
set_option maxHeartbeats 4000000 in
theorem loop1_ok (s : St) (l : List UInt8) (g5 gk ck m0 : Nat) (W5 : World) (Q : Exit → Act → World → Prop) (c0 c1 c3 c4 c5 c6 c16 c17 c18 c19 c20 c21 c22 c23 c24 c25 c26 c27 c28 c29 c30 c31 c32 c33 c34 c35 c36 c37 c38 c40 c41 c42 c43 c44 c45 c46 c47 c48 c49 c50 c51 c52 c53 c54 c55 c56 c57 c58 c59 c60 c61 c62 c63 c64 c65 c66 c67 c68 c69 c70 c71 c72 c73 c74 c75 c76 c77 c78 c79 c80 c81 c82 c83 c84 c85 c86 c87 c88 c89 c90 c91 c92 c93 c94 c95 c96 c97 c98 c99 c100 c101 c102 c103 c104 c105 c106 c107 c108 c109 c110 c111 c112 c113 c114 c115 c116 c117 c118 c119 c120 c121 c122 c123 : Value) (HS : Hid s.ok) (hck : 80 ≤ ck)
    (HK : Hid (∀ j, j < 80 → W5.cell? ⟨gk, j, none⟩ = some (.int .u64 (kN j)))) (HRW : Hid (Row W5 g5 178 .u64 80 (W l)))
    (hexit : ∀ (u16 u17 u18 u40 u41 u42 u43 u44 u45 u46 u47 u48 u49 u50 u51 u52 u53 u54 u55 u56 u57 u58 u59 u60 u61 u62 u63 u64 u65 u66 u67 u68 u69 u70 u71 u72 u73 u74 u75 u76 u77 u78 u79 u80 u81 u82 u83 u84 u85 u86 u87 u88 u89 u90 u91 u92 u93 u94 u95 u96 u97 u98 u99 u100 u101 u102 : Value) (t : St) (m : Nat), Hid (t = rnds l s 80) → Q (.exit 0) ⟨(c0 :: c1 :: (.slice (some ⟨gk, 0, none⟩) 80 ck) :: c3 :: c4 :: c5 :: c6 :: (.pointer (some ⟨g5, 0, none⟩)) :: (.int .u64 t.a) :: (.int .u64 t.b) :: (.int .u64 t.c) :: (.int .u64 t.d) :: (.int .u64 t.e) :: (.int .u64 t.f) :: (.int .u64 t.g) :: (.int .u64 t.h) :: u16 :: u17 :: u18 :: c19 :: c20 :: c21 :: c22 :: c23 :: c24 :: c25 :: c26 :: c27 :: c28 :: c29 :: c30 :: c31 :: c32 :: c33 :: c34 :: c35 :: c36 :: c37 :: c38 :: (.int .i64 80) :: u40 :: u41 :: u42 :: u43 :: u44 :: u45 :: u46 :: u47 :: u48 :: u49 :: u50 :: u51 :: u52 :: u53 :: u54 :: u55 :: u56 :: u57 :: u58 :: u59 :: u60 :: u61 :: u62 :: u63 :: u64 :: u65 :: u66 :: u67 :: u68 :: u69 :: u70 :: u71 :: u72 :: u73 :: u74 :: u75 :: u76 :: u77 :: u78 :: u79 :: u80 :: u81 :: u82 :: u83 :: u84 :: u85 :: u86 :: u87 :: u88 :: u89 :: u90 :: u91 :: u92 :: u93 :: u94 :: u95 :: u96 :: u97 :: u98 :: u99 :: u100 :: u101 :: u102 :: c103 :: c104 :: c105 :: c106 :: c107 :: c108 :: c109 :: c110 :: c111 :: c112 :: c113 :: c114 :: c115 :: c116 :: c117 :: c118 :: c119 :: c120 :: c121 :: c122 :: c123 :: []).toArray, []⟩ (W5.drewN m)) :
    Code.wp Tryz.prog (Code.loop body1) Q ⟨(c0 :: c1 :: (.slice (some ⟨gk, 0, none⟩) 80 ck) :: c3 :: c4 :: c5 :: c6 :: (.pointer (some ⟨g5, 0, none⟩)) :: (.int .u64 s.a) :: (.int .u64 s.b) :: (.int .u64 s.c) :: (.int .u64 s.d) :: (.int .u64 s.e) :: (.int .u64 s.f) :: (.int .u64 s.g) :: (.int .u64 s.h) :: c16 :: c17 :: c18 :: c19 :: c20 :: c21 :: c22 :: c23 :: c24 :: c25 :: c26 :: c27 :: c28 :: c29 :: c30 :: c31 :: c32 :: c33 :: c34 :: c35 :: c36 :: c37 :: c38 :: (.int .i64 0) :: c40 :: c41 :: c42 :: c43 :: c44 :: c45 :: c46 :: c47 :: c48 :: c49 :: c50 :: c51 :: c52 :: c53 :: c54 :: c55 :: c56 :: c57 :: c58 :: c59 :: c60 :: c61 :: c62 :: c63 :: c64 :: c65 :: c66 :: c67 :: c68 :: c69 :: c70 :: c71 :: c72 :: c73 :: c74 :: c75 :: c76 :: c77 :: c78 :: c79 :: c80 :: c81 :: c82 :: c83 :: c84 :: c85 :: c86 :: c87 :: c88 :: c89 :: c90 :: c91 :: c92 :: c93 :: c94 :: c95 :: c96 :: c97 :: c98 :: c99 :: c100 :: c101 :: c102 :: c103 :: c104 :: c105 :: c106 :: c107 :: c108 :: c109 :: c110 :: c111 :: c112 :: c113 :: c114 :: c115 :: c116 :: c117 :: c118 :: c119 :: c120 :: c121 :: c122 :: c123 :: []).toArray, []⟩ (W5.drewN m0) := by
  conv =>
    arg 2
    arg 1
    whnf
  go_loopw [8, 9, 10, 11, 12, 13, 14, 15, 16, 17, 18, 39] (fun a b c d e f g h _ _ _ k0 wr => ∃ k : Nat, ∃ t : St, k ≤ 80 ∧ k0 = .int .i64 k ∧ a = .int .u64 t.a ∧ b = .int .u64 t.b ∧ c = .int .u64 t.c ∧ d = .int .u64 t.d ∧ e = .int .u64 t.e ∧ f = .int .u64 t.f ∧ g = .int .u64 t.g ∧ h = .int .u64 t.h ∧ Hid (t = rnds l s k) ∧ ∃ m, wr = W5.drewN m) (fun _ _ _ _ _ _ _ _ _ _ _ k0 _ => 80 - (intOf k0).toNat)
  case atStart => exact ⟨0, s, by omega, rfl, rfl, rfl, rfl, rfl, rfl, rfl, rfl, rfl, Lib.hid rfl, m0, rfl⟩
  case round =>
    obtain ⟨k, t, hk, rfl, rfl, rfl, rfl, rfl, rfl, rfl, rfl, rfl, ht, m, rfl⟩ := hrel
    obtain ⟨wr, hwr⟩ : ∃ wr, wr = W5.drewN m := ⟨_, rfl⟩
    rw [← hwr]
    by_cases hlt : k < 80
    · clear hexit
      have hk64 : (k : Int) < 80 := by omega
      have cw : wr.cell? ⟨g5, k, none⟩ = some (.int .u64 (W l k)) := by rw [hwr]; exact HRW.out.cell k hlt
      have ck1 : wr.cell? ⟨gk, k, none⟩ = some (.int .u64 (kN k)) := by rw [hwr]; exact HK.out k hlt
      have HT : Hid t.ok := by unfold Hid; rw [ht.out]; exact rnds_ok l HS.out k
      have r14 := Lib.hid (ror_any t.e 14 14 rfl HT.out.2.2.2.2.1 (by decide) (by decide))
      have r18 := Lib.hid (ror_any t.e 18 18 rfl HT.out.2.2.2.2.1 (by decide) (by decide))
      have r41 := Lib.hid (ror_any t.e 41 41 rfl HT.out.2.2.2.2.1 (by decide) (by decide))
      have r28 := Lib.hid (ror_any t.a 28 28 rfl HT.out.1 (by decide) (by decide))
      have r34 := Lib.hid (ror_any t.a 34 34 rfl HT.out.1 (by decide) (by decide))
      have r39 := Lib.hid (ror_any t.a 39 39 rfl HT.out.1 (by decide) (by decide))
      have HWR := Lib.hid hwr
      clear hwr
      go_wp2
      go_quiet ((first | (go_at_call 178; with_reducible exact quiet_left (r14.out _)) | (go_at_call 178; with_reducible exact quiet_left (r18.out _)) | (go_at_call 178; with_reducible exact quiet_left (r41.out _)) ))
      go_wp2_with (first | (go_at_call 178; (with_reducible refine (r28.out _).mono ?_); rintro e w' ⟨rfl, rfl⟩) | (go_at_call 178; (with_reducible refine (r34.out _).mono ?_); rintro e w' ⟨rfl, rfl⟩) | (go_at_call 178; (with_reducible refine (r39.out _).mono ?_); rintro e w' ⟨rfl, rfl⟩))
      go_roundw
      case rel =>
        refine ⟨k + 1, rnd t (kN k) (W l k), by omega, by go_num, ?_, rfl, rfl, rfl, ?_, rfl, rfl, rfl, ?_, ?_⟩
        · exact congrArg (Value.int IntKind.u64) (add_w1 _ _ _ _ (u_int t HT.out (kN k) (W l k)) (v_int t HT.out))
        · exact congrArg (Value.int IntKind.u64) (add_w1 _ _ t.d _ rfl (u_int t HT.out (kN k) (W l k)))
        · exact Lib.hid (by rw [ht.out]; rfl)
        · rw [HWR.out]
          exact ⟨m + nq, World.drewN_drewN _ _ _⟩
      case measure => simp [intOf]; omega
    · obtain rfl : k = 80 := by omega
      have HE := Lib.hid hexit
      have HWR := Lib.hid hwr
      clear hexit hwr
      rw [show ((80 : Nat) : Int) = (80 : Int) from rfl]
      go_wp2
      rw [HWR.out]
      exact HE.out _ _ _ _ _ _ _ _ _ _ _ _ _ _ _ _ _ _ _ _ _ _ _ _ _ _ _ _ _ _ _ _ _ _ _ _ _ _ _ _ _ _ _ _ _ _ _ _ _ _ _ _ _ _ _ _ _ _ _ _ _ _ _ _ _ _ t m ht
set_option maxRecDepth 100000 in
set_option maxHeartbeats 2000000 in
theorem loop2_ok (s t : St) (B : Nat) (w0 wr : World) (Q : Exit → Act → World → Prop) (c0 c1 c2 c4 c5 c6 c7 c8 c9 c10 c11 c12 c13 c14 c15 c16 c17 c18 c19 c20 c21 c22 c23 c24 c25 c26 c27 c28 c29 c30 c31 c32 c33 c34 c35 c36 c37 c38 c39 c40 c41 c42 c43 c44 c45 c46 c47 c48 c49 c50 c51 c52 c53 c54 c55 c56 c57 c58 c59 c60 c61 c62 c63 c64 c65 c66 c67 c68 c69 c70 c71 c72 c73 c74 c75 c76 c77 c78 c79 c80 c81 c82 c83 c84 c85 c86 c87 c88 c89 c90 c91 c92 c93 c94 c95 c96 c97 c98 c99 c100 c101 c102 c103 c104 c105 c106 c107 c108 c109 c110 c113 c114 c115 c116 c117 c118 c119 c120 c121 c122 c123 : Value) (hR1 : wr.heap[B + 1]? = some (.cells (cells s0).toArray 121 (0, 0))) (hRs : Row wr B 121 .u64 8 (PTo s t 0)) (hB : Below B w0 wr)
    (hexit : ∀ (u19 u20 u113 u114 u115 u116 u117 u118 u119 u120 u121 u122 : Value) (wx : World), wx.heap[B + 1]? = some (.cells (cells s0).toArray 121 (0, 0)) ∧ Row wx B 121 .u64 8 (PTo s t 8) ∧ Below B w0 wx → Q (.exit 2) ⟨(c0 :: c1 :: c2 :: (.pointer (some ⟨B, 0, none⟩)) :: c4 :: c5 :: c6 :: c7 :: c8 :: c9 :: c10 :: c11 :: c12 :: c13 :: c14 :: c15 :: c16 :: c17 :: c18 :: u19 :: u20 :: c21 :: c22 :: c23 :: c24 :: c25 :: c26 :: c27 :: c28 :: c29 :: c30 :: c31 :: c32 :: c33 :: c34 :: c35 :: c36 :: c37 :: c38 :: c39 :: c40 :: c41 :: c42 :: c43 :: c44 :: c45 :: c46 :: c47 :: c48 :: c49 :: c50 :: c51 :: c52 :: c53 :: c54 :: c55 :: c56 :: c57 :: c58 :: c59 :: c60 :: c61 :: c62 :: c63 :: c64 :: c65 :: c66 :: c67 :: c68 :: c69 :: c70 :: c71 :: c72 :: c73 :: c74 :: c75 :: c76 :: c77 :: c78 :: c79 :: c80 :: c81 :: c82 :: c83 :: c84 :: c85 :: c86 :: c87 :: c88 :: c89 :: c90 :: c91 :: c92 :: c93 :: c94 :: c95 :: c96 :: c97 :: c98 :: c99 :: c100 :: c101 :: c102 :: c103 :: c104 :: c105 :: c106 :: c107 :: c108 :: c109 :: c110 :: (.agg #[.int .u64 t.a, .int .u64 t.b, .int .u64 t.c, .int .u64 t.d, .int .u64 t.e, .int .u64 t.f, .int .u64 t.g, .int .u64 t.h]) :: (.int .i64 8) :: u113 :: u114 :: u115 :: u116 :: u117 :: u118 :: u119 :: u120 :: u121 :: u122 :: c123 :: []).toArray, []⟩ wx) :
    Code.wp Tryz.prog (Code.loop body2) Q ⟨(c0 :: c1 :: c2 :: (.pointer (some ⟨B, 0, none⟩)) :: c4 :: c5 :: c6 :: c7 :: c8 :: c9 :: c10 :: c11 :: c12 :: c13 :: c14 :: c15 :: c16 :: c17 :: c18 :: c19 :: c20 :: c21 :: c22 :: c23 :: c24 :: c25 :: c26 :: c27 :: c28 :: c29 :: c30 :: c31 :: c32 :: c33 :: c34 :: c35 :: c36 :: c37 :: c38 :: c39 :: c40 :: c41 :: c42 :: c43 :: c44 :: c45 :: c46 :: c47 :: c48 :: c49 :: c50 :: c51 :: c52 :: c53 :: c54 :: c55 :: c56 :: c57 :: c58 :: c59 :: c60 :: c61 :: c62 :: c63 :: c64 :: c65 :: c66 :: c67 :: c68 :: c69 :: c70 :: c71 :: c72 :: c73 :: c74 :: c75 :: c76 :: c77 :: c78 :: c79 :: c80 :: c81 :: c82 :: c83 :: c84 :: c85 :: c86 :: c87 :: c88 :: c89 :: c90 :: c91 :: c92 :: c93 :: c94 :: c95 :: c96 :: c97 :: c98 :: c99 :: c100 :: c101 :: c102 :: c103 :: c104 :: c105 :: c106 :: c107 :: c108 :: c109 :: c110 :: (.agg #[.int .u64 t.a, .int .u64 t.b, .int .u64 t.c, .int .u64 t.d, .int .u64 t.e, .int .u64 t.f, .int .u64 t.g, .int .u64 t.h]) :: (.int .i64 0) :: c113 :: c114 :: c115 :: c116 :: c117 :: c118 :: c119 :: c120 :: c121 :: c122 :: c123 :: []).toArray, []⟩ wr := by
  conv =>
    arg 2
    arg 1
    whnf
  have HRr := Lib.hid hR1
  have HRs := Lib.hid hRs
  have HGw := Lib.hid hB
  clear hR1 hRs hB
  obtain ⟨wo, rfl⟩ : ∃ wo : World, wo = wr := ⟨_, rfl⟩
  go_loopw [19, 20, 112] (fun _ _ i wr => ∃ k : Nat, k ≤ 8 ∧ i = .int .i64 k ∧ wr.heap[B + 1]? = some (.cells (cells s0).toArray 121 (0, 0)) ∧ Row wr B 121 .u64 8 (PTo s t k) ∧ Below B w0 wr) (fun _ _ i _ => 8 - (intOf i).toNat)
  case atStart => exact ⟨0, by omega, rfl, HRr.out, HRs.out, HGw.out⟩
  case round =>
    clear HRr HRs HGw
    obtain ⟨k, hk, rfl, hRr, hRs, hBw⟩ := hrel
    have HRr := Lib.hid hRr
    have HRs := Lib.hid hRs
    have HBw := Lib.hid hBw
    clear hRr hRs hBw
    by_cases hlt : k < 8
    · have ck : wr.cell? ⟨B, k, none⟩ = some (.int .u64 (s.at k)) := by rw [HRs.out.cell k hlt]; unfold PTo; rw [if_neg (by omega)]
      have fr : wr.frozen? ⟨B, k, none⟩ = false := HRs.out.free k
      have hix := idx32 t k hlt
      have hk8 : (k : Int) < 8 := by omega
      have hadd := wadd (s.at k) (t.at k)
      have HRs2 := Lib.hid ((Row.set (w := wr) HRs.out k (add (s.at k) (t.at k))).ext (PTo_step s t k))
      generalize add (s.at k) (t.at k) = q at *
      generalize s.at k = x1 at *
      generalize t.at k = y1 at *
      clear hexit
      go_wp2
      go_roundw
      case rel => exact ⟨k + 1, by omega, by go_num, (heap_setCell_other _ _ _ _ (by simp)).trans HRr.out, HRs2.out, HBw.out.setCell (p := ⟨B, k, none⟩) (Nat.le_refl _) _⟩
      case measure => simp [intOf]; omega
    · obtain rfl : k = 8 := by omega
      have HE := Lib.hid hexit
      have HX := Lib.hid (And.intro HRr.out (And.intro HRs.out HBw.out))
      clear hexit HRs HBw HRr
      rw [show ((8 : Nat) : Int) = (8 : Int) from rfl]
      go_wp2
      exact HE.out _ _ _ _ _ _ _ _ _ _ _ _ _ HX.out
theorem cells_len (s : St) : (cells s).length = 8 := rfl
set_option maxRecDepth 100000 in
set_option maxHeartbeats 4000000 in
theorem block_any (s : St) (hs : s.ok) (blk : ByteArray) (hb : blk.size = 128) (gk ck : Nat) (hck : 80 ≤ ck) (w : World) (hgk : gk < w.heap.size) (hk : Hid (∀ j, j < 80 → w.cell? ⟨gk, j, none⟩ = some (.int .u64 (kN j)))) :
    Calls Tryz.prog 155 #[.agg (cells s).toArray, .string blk, .slice (some ⟨gk, 0, none⟩) 80 ck] w fun e w' => e = .returned (.agg (cells (comp s blk.data.toList)).toArray) ∧ Below w.heap.size w w' := by
  have HS := Lib.hid hs
  have HW := Lib.hid (words_any blk hb)
  obtain ⟨l, hl⟩ : ∃ l, Hid (l = blk.data.toList) := ⟨_, Lib.hid rfl⟩
  clear hs hb
  rw [← hl.out] at HW ⊢
  obtain ⟨cs, hcs⟩ : ∃ cs, Hid (cs = rowOf .u64 80 (W l)) := ⟨_, Lib.hid rfl⟩
  rw [← hcs.out] at HW
  have hsz : Hid ((Tryz.prog.info? 178).map (·.size) = some cs.length) := by unfold Hid; rw [hcs.out]; exact size63 _
  have hone : Hid (∀ v ∈ cs, v.oneCell' = true) := by unfold Hid; rw [hcs.out]; exact rowOf_one _ _ _
  have hlen : Hid ((rowOf .u64 80 (fun _ => 0)).toArray.size = cs.length) := by unfold Hid; rw [hcs.out, rowOf_length, rowOf_size]
  go_enter Tryz.func155, Tryz.ntmps155
  go_wp2_with (refine wpList_run rfl _ (exec_alloc_agg _ 121 rfl _ (zero32 _)) ?_)
  refine (HW.out _).mono ?_
  rintro e w1 ⟨rfl, hb1⟩
  have HB1 := Lib.hid hb1
  clear hb1
  go_wp2_with (first | (refine wpList_run rfl _ (exec_alloc_agg _ 178 rfl _ (zero63 _)) ?_) | (refine wpList_run0 rfl (exec_store_new w1 178 (.tmp 7) (.tmp 22) rfl _ 178 rfl cs rfl hlen.out hone.out hsz.out) ?_))
  have HR0 : Hid ((w1.alloc (.cells cs.toArray 178)).heap[w.heap.size]? = some (.cells (cells s).toArray 121 (0, 0))) := by
    unfold Hid
    rw [Below.heap_alloc _ _ _ (by have := HB1.out.size; simp at this; omega), HB1.out.block _ (by rw [World.size_alloc, World.size_alloc]; omega)]
    exact heap_alloc2_old w _ _
  have HR1 : Hid ((w1.alloc (.cells cs.toArray 178)).heap[w.heap.size + 1]? = some (.cells (cells s0).toArray 121 (0, 0))) := by
    unfold Hid
    rw [Below.heap_alloc _ _ _ (by have := HB1.out.size; simp at this; omega), HB1.out.block _ (by rw [World.size_alloc, World.size_alloc]; omega)]
    exact heap_alloc2_new w _ _
  have HRW : Hid (Row (w1.alloc (.cells cs.toArray 178)) w1.heap.size 178 .u64 80 (W l)) := by unfold Hid; rw [hcs.out]; exact Row.new w1 178 .u64 80 (W l)
  have HBl : Hid (Below w.heap.size w (w1.alloc (.cells cs.toArray 178))) := by
    unfold Hid
    have h1 : Below w.heap.size w w1 := (((Below.refl _ w).alloc (Nat.le_refl _) _).alloc (by simp) _).trans (HB1.out.mono (by simp; omega))
    exact h1.alloc h1.size _
  have hgw : w.heap.size + 1 < w1.heap.size := by have := HB1.out.size; simp at this; omega
  obtain ⟨g5, hg5⟩ : ∃ g5, g5 = w1.heap.size := ⟨_, rfl⟩
  rw [← hg5] at HRW hgw ⊢
  obtain ⟨W5, hW5⟩ : ∃ W5, W5 = w1.alloc (.cells cs.toArray 178) := ⟨_, rfl⟩
  rw [← hW5] at HR0 HR1 HRW HBl ⊢
  clear hW5 hg5 HB1 hlen hone hsz HW hcs
  clear w1
  have c0 : W5.cell? ⟨w.heap.size, 0, none⟩ = some (.int .u64 s.a) := by rw [cell_of_row _ _ _ _ _ _ HR0.out]; rfl
  have c1 : W5.cell? ⟨w.heap.size, 1, none⟩ = some (.int .u64 s.b) := by rw [cell_of_row _ _ _ _ _ _ HR0.out]; rfl
  have c2 : W5.cell? ⟨w.heap.size, 2, none⟩ = some (.int .u64 s.c) := by rw [cell_of_row _ _ _ _ _ _ HR0.out]; rfl
  have c3 : W5.cell? ⟨w.heap.size, 3, none⟩ = some (.int .u64 s.d) := by rw [cell_of_row _ _ _ _ _ _ HR0.out]; rfl
  have c4 : W5.cell? ⟨w.heap.size, 4, none⟩ = some (.int .u64 s.e) := by rw [cell_of_row _ _ _ _ _ _ HR0.out]; rfl
  have c5 : W5.cell? ⟨w.heap.size, 5, none⟩ = some (.int .u64 s.f) := by rw [cell_of_row _ _ _ _ _ _ HR0.out]; rfl
  have c6 : W5.cell? ⟨w.heap.size, 6, none⟩ = some (.int .u64 s.g) := by rw [cell_of_row _ _ _ _ _ _ HR0.out]; rfl
  have c7 : W5.cell? ⟨w.heap.size, 7, none⟩ = some (.int .u64 s.h) := by rw [cell_of_row _ _ _ _ _ _ HR0.out]; rfl
  go_quiet (fail)
  clear c0 c1 c2 c3 c4 c5 c6 c7
  go_wp2
  have hz : Hid (∀ j, j < 80 → W5.cell? ⟨gk, j, none⟩ = some (.int .u64 (kN j))) := fun j hj => (HBl.out.cell (p := ⟨gk, j, none⟩) hgk).trans (hk.out j hj)
  refine loop1_ok s l g5 gk ck _ W5 _ _ _ _ _ _ _ _ _ _ _ _ _ _ _ _ _ _ _ _ _ _ _ _ _ _ _ _ _ _ _ _ _ _ _ _ _ _ _ _ _ _ _ _ _ _ _ _ _ _ _ _ _ _ _ _ _ _ _ _ _ _ _ _ _ _ _ _ _ _ _ _ _ _ _ _ _ _ _ _ _ _ _ _ _ _ _ _ _ _ _ _ _ _ _ _ _ _ _ _ _ _ _ _ _ _ _ _ _ _ _ _ _ _ HS hck hz HRW ?_
  rintro a16 a17 a18 a40 a41 a42 a43 a44 a45 a46 a47 a48 a49 a50 a51 a52 a53 a54 a55 a56 a57 a58 a59 a60 a61 a62 a63 a64 a65 a66 a67 a68 a69 a70 a71 a72 a73 a74 a75 a76 a77 a78 a79 a80 a81 a82 a83 a84 a85 a86 a87 a88 a89 a90 a91 a92 a93 a94 a95 a96 a97 a98 a99 a100 a101 a102 t m ht
  obtain ⟨wr, hwr⟩ : ∃ wr, wr = W5.drewN m := ⟨_, rfl⟩
  rw [← hwr]
  have HFin : Hid (plus s t = comp s l) := by unfold Hid; rw [ht.out]; rfl
  have HGw : Hid (Below w.heap.size w wr) := by unfold Hid; rw [hwr]; exact Below.drewN' HBl.out m
  have HRr : Hid (wr.heap[w.heap.size + 1]? = some (.cells (cells s0).toArray 121 (0, 0))) := by unfold Hid; rw [hwr]; exact HR1.out
  have HRs : Hid (Row wr w.heap.size 121 .u64 8 (PTo s t 0)) := by unfold Hid; rw [hwr]; exact HR0.out
  clear hwr HR0 HR1 HRW HBl ht
  go_wp2
  refine loop2_ok s t w.heap.size w wr _ _ _ _ _ _ _ _ _ _ _ _ _ _ _ _ _ _ _ _ _ _ _ _ _ _ _ _ _ _ _ _ _ _ _ _ _ _ _ _ _ _ _ _ _ _ _ _ _ _ _ _ _ _ _ _ _ _ _ _ _ _ _ _ _ _ _ _ _ _ _ _ _ _ _ _ _ _ _ _ _ _ _ _ _ _ _ _ _ _ _ _ _ _ _ _ _ _ _ _ _ _ _ _ _ _ _ _ _ _ _ _ _ _ _ _ _ _ _ _ _ _ HRr.out HRs.out HGw.out ?_
  clear HRr HRs HGw
  rintro b19 b20 b113 b114 b115 b116 b117 b118 b119 b120 b121 b122 wr ⟨hRr, hRs, hBw⟩
  have HRr := Lib.hid hRr
  have HRs := Lib.hid hRs
  have HBw := Lib.hid hBw
  clear hRr hRs hBw
  obtain ⟨cf, hcf⟩ : ∃ cf, Hid (cf = cells (comp s l)) := ⟨_, Lib.hid rfl⟩
  have HRc : Hid (wr.heap[w.heap.size]? = some (.cells cf.toArray 121 (0, 0))) := by unfold Hid; rw [hcf.out, ← HFin.out, ← PTo_all]; exact HRs.out
  have hseg : Hid (∀ j v, cf[j]? = some v → wr.cell? ⟨w.heap.size, 0 + j, none⟩ = some v) := by
    intro j v hv
    rw [cell_of_row _ _ _ _ _ _ HRc.out, Nat.zero_add, List.getElem?_toArray, hv]
  have hsz : Hid ((Tryz.prog.info? 121).map (·.size) = some cf.length) := by unfold Hid; rw [hcf.out]; exact cells_size _
  have hone : Hid (∀ v ∈ cf, v.oneCell' = true) := by unfold Hid; rw [hcf.out]; exact cells_one _
  have hfit : Hid (0 + cf.length ≤ (cells s0).toArray.size) := by unfold Hid; rw [hcf.out, cells_len, List.size_toArray, cells_len]; exact Nat.le_refl _
  have hsz8 : Hid ((cells s0).toArray.size = cf.length) := by unfold Hid; rw [hcf.out, cells_len, List.size_toArray, cells_len]
  clear HRs
  go_wp2_with (first | (refine wpList_load_seg rfl 121 (.tmp 3) rfl w.heap.size 0 rfl cf _ hseg.out Tryz.underlying121 rfl hsz.out ?_) | (refine wpList_store_seg rfl 121 (.tmp 6) (.tmp 123) rfl (w.heap.size + 1) 0 rfl cf rfl _ 121 HRr.out hfit.out hone.out hsz.out ?_))
  have hsp : splice (cells s0).toArray 0 cf = cf.toArray := splice_all _ _ hsz8.out
  rw [hsp]
  have hld : (loadVar 121 ⟨w.heap.size + 1, 0, none⟩).run Tryz.prog (wr.setRow (w.heap.size + 1) cf.toArray) = .ok (.agg cf.toArray) (wr.setRow (w.heap.size + 1) cf.toArray) := by
    refine run_loadVar_seg _ 121 (w.heap.size + 1) 0 cf _ (fun j v hv => ?_) Tryz.underlying121 rfl hsz.out
    rw [cell_of_row _ (w.heap.size + 1) (0 + j) cf.toArray 121 (0, 0) (setRow_heap _ _ _ _ _ _ HRr.out), Nat.zero_add, List.getElem?_toArray, hv]
  have hbel : Below w.heap.size w (wr.setRow (w.heap.size + 1) cf.toArray) := by
    exact HBw.out.trans ⟨rfl, rfl, rfl, by simp, fun k hk => setRow_other _ _ _ _ (by omega)⟩
  generalize wr.setRow (w.heap.size + 1) cf.toArray = W2 at *
  exact bodyPost_ret (v := .agg cf.toArray) (results_cell rfl _ _ _ ⟨w.heap.size + 1, 0, none⟩ rfl _ hld) rfl ⟨by rw [hcf.out], hbel⟩
section
variable {ρ : Operand → Value} {o : Oper}
theorem exec_add_n (x : Operand) (n : Nat) (hn : n ≤ 1000000) (ho : o.op = .binOp .add 3 x (.const (.int .i64 (n : Int))) 3) (hc : ρ (.const (.int .i64 (n : Int))) = .int .i64 (n : Int)) (k : Nat) (hk : k ≤ 1000000000) (hx : ρ x = .int .i64 k) (w : World) : (execOp ρ o).run Tryz.prog w = .ok (.value (.int .i64 ((k + n : Nat) : Int))) w := by
  have h0 : IntKind.i64.wrap ((k : Int) + (n : Int)) = (k : Int) + (n : Int) := IntWalk.i64_in _ (by omega)
  have h1 : ((k + n : Nat) : Int) = (k : Int) + (n : Int) := by omega
  rw [h1]
  unfold execOp
  simp only [ho, hx, hc]
  go_simp
theorem exec_slice_str (x lo hi : Operand) (ho : o.op = .slice 9 x (some lo) (some hi) none) (S : ByteArray) (a b : Nat) (hab : a ≤ b) (hb : b ≤ S.size) (hx : ρ x = .string S) (hlo : ρ lo = .int .i64 a) (hhi : ρ hi = .int .i64 b) (w : World) :
    (execOp ρ o).run Tryz.prog w = .ok (.value (.string (S.extract a b))) w := by
  have h1 : (a : Int) ≤ (b : Int) := by omega
  have h2 : (b : Int) ≤ (S.size : Int) := by omega
  have hu := Tryz.underlying9
  unfold execOp
  simp only [ho, hx, hlo, hhi, Option.map]
  go_simp
theorem exec_slice_to (x hi : Operand) (ho : o.op = .slice 9 x none (some hi) none) (S : ByteArray) (b : Nat) (hb : b ≤ S.size) (hx : ρ x = .string S) (hhi : ρ hi = .int .i64 b) (w : World) :
    (execOp ρ o).run Tryz.prog w = .ok (.value (.string (S.extract 0 b))) w := by
  have h2 : (b : Int) ≤ (S.size : Int) := by omega
  have hu := Tryz.underlying9
  unfold execOp
  simp only [ho, hx, hhi, Option.map]
  go_simp
theorem exec_slice_from (x lo : Operand) (ho : o.op = .slice 9 x (some lo) none none) (S : ByteArray) (a : Nat) (ha : a ≤ S.size) (hx : ρ x = .string S) (hlo : ρ lo = .int .i64 a) (w : World) :
    (execOp ρ o).run Tryz.prog w = .ok (.value (.string (S.extract a S.size))) w := by
  have h2 : (a : Int) ≤ (S.size : Int) := by omega
  have hu := Tryz.underlying9
  unfold execOp
  simp only [ho, hx, hlo, Option.map]
  go_simp
end
end Go.Proofs.YtdajmekliodmcaaGreatDoor.W4
