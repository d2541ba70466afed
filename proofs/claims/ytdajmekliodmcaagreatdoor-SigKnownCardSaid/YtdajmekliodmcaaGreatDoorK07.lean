/- Several texts, one behind the other; each says by itself what it proves, and on what conditions. -/
import Derived.Test.YtdajmekliodmcaaGreatDoorK06
import Derived.Laws.StructEq
import Derived.Laws.Cover2
import Derived.Laws.Tables
namespace Go.Proofs.YtdajmekliodmcaaGreatDoor.P8
open Go.RowKit Go.Shelf
set_option linter.unusedVariables false
set_option linter.unusedSimpArgs false
section
variable {P : Program} {ops : Array Oper} {Q : Exit → Act → World → Prop} {md : Region.Mode} {S : World → Prop} {f n : Nat} {listed : Array Bool} {a : Act} {w w2 : World} {rs : List Nat}
theorem AnyF.takeG (hfn : ops[f]? = none) (i : Nat) (d : Option Tmp) (opr : Op) (gd : Option (Nat × Bool)) (v : Value) (ho : (ops[i]?).map (fun o => (o.dst, o.op, o.guard)) = some (d, opr, gd)) (hs : Region.noSelect ops = true) (hf : Region.free md ops listed i = true) (hr : (Region.ready md ops listed).contains i = true)
    (hQ : ∀ c a w, Q (.panic c) (a.put d v) w → Q (.panic c) a w) (hif : (i == f) = false) (hw : ∀ o, ops[i]? = some o → Region.wanted o (yielded ops a.tmps) = true) (hy : ∀ (o : Oper), o.op = opr → ∀ w, S w → (execOp a.eval o).run P w = .ok (.value v) w) (hS : S w)
    (h : AnyF P md ops Q S f n (listed.setIfInBounds i true) (a.put d v) w) : AnyF P md ops Q S f (n + 1) listed a w := by
  cases hq : ops[i]? with
  | none => simp [hq] at ho
  | some o =>
    have hw2 := hw o hq
    simp [hq] at ho
    obtain ⟨rfl, rfl, hg⟩ := ho
    exact AnyF.first hq (Region.noSelect_spec hs) hQ (by simpa using hif) (fun o2 ho2 => by rw [hfn] at ho2; cases ho2) n listed a w (Region.free_spec hq hf) (by simpa using hr) (Or.inl ⟨hw2, hy o rfl⟩) hS h
end
def Kn (w0 : World) (l : List (Nat × Array Value)) (w : World) : Prop := Below w0.heap.size w0 w ∧ ∀ p ∈ l, w.heap[p.1]? = some (.cells p.2 36 (0, 0))
theorem Kn.get {w0 w : World} {l : List (Nat × Array Value)} (h : Kn w0 l w) (g : Nat) (A : Array Value) (hm : (g, A) ∈ l) : w.heap[g]? = some (.cells A 36 (0, 0)) := h.2 (g, A) hm
theorem Kn.lt {w0 w : World} {l : List (Nat × Array Value)} (h : Kn w0 l w) (g : Nat) (A : Array Value) (hm : (g, A) ∈ l) : g < w.heap.size := (Array.getElem?_eq_some_iff.1 (h.get g A hm)).1
theorem Kn.below {w0 w w2 : World} {l : List (Nat × Array Value)} (h : Kn w0 l w) (hb : Below w.heap.size w w2) : Kn w0 l w2 :=
  ⟨h.1.trans (hb.mono h.1.size), fun p hp => (hb.block p.1 (Array.getElem?_eq_some_iff.1 (h.2 p hp)).1).trans (h.2 p hp)⟩
theorem Kn.drew {w0 w : World} {l : List (Nat × Array Value)} (h : Kn w0 l w) : Kn w0 l w.drew := ⟨h.1.drew, h.2⟩
theorem Kn.alloc {w0 w : World} {l : List (Nat × Array Value)} (h : Kn w0 l w) (o : Obj) : Kn w0 l (w.alloc o) := h.below ((Below.refl _ w).alloc (Nat.le_refl _) o)
theorem Kn.new {w0 w : World} {l : List (Nat × Array Value)} (h : Kn w0 l w) (A : Array Value) : Kn w0 ((w.heap.size, A) :: l) (w.alloc (.cells A 36)) :=
  ⟨(h.alloc _).1, fun p hp => by
    rcases List.mem_cons.1 hp with rfl | hp
    · exact heap_alloc_new w _
    · exact (h.alloc _).2 p hp⟩
theorem Kn.nil (w : World) : Kn w [] w := ⟨Below.refl _ _, fun p hp => by cases hp⟩
theorem Kn.sub {w0 w : World} {l m : List (Nat × Array Value)} (h : Kn w0 l w) (hs : ∀ p ∈ m, p ∈ l) : Kn w0 m w := ⟨h.1, fun p hp => h.2 p (hs p hp)⟩
theorem Kn.add {w0 w : World} {l : List (Nat × Array Value)} (h : Kn w0 l w) (g : Nat) (A : Array Value) (hg : w.heap[g]? = some (.cells A 36 (0, 0))) : Kn w0 ((g, A) :: l) w :=
  ⟨h.1, fun p hp => by
    rcases List.mem_cons.1 hp with rfl | hp
    · exact hg
    · exact h.2 p hp⟩
theorem Kn.set {w0 w : World} {l m : List (Nat × Array Value)} (h : Kn w0 l w) (g : Nat) (A B : Array Value) (hg : w.heap[g]? = some (.cells B 36 (0, 0))) (hw : w0.heap.size ≤ g) (hm : ∀ p ∈ m, p = (g, A) ∨ (p ∈ l ∧ p.1 ≠ g)) : Kn w0 m (w.setRow g A) :=
  ⟨h.1.trans ⟨rfl, rfl, rfl, by simp, fun k hk => setRow_other _ _ _ _ (by omega)⟩, fun p hp => by
    rcases hm p hp with rfl | ⟨h1, h2⟩
    · exact setRow_heap _ _ _ _ _ _ hg
    · exact (setRow_other _ _ _ _ h2).trans (h.2 p h1)⟩
theorem Kn.load {w0 w : World} {l : List (Nat × Array Value)} (h : Kn w0 l w) (g : Nat) (A : Array Value) (hm : (g, A) ∈ l) (hA : IsNum A) : (loadVar 36 ⟨g, 0, none⟩).run Tryz.prog w = .ok (.agg A) w := loadA hA (h.get g A hm)
theorem Kn.cell {w0 w : World} {l : List (Nat × Array Value)} (h : Kn w0 l w) (g : Nat) (A : Array Value) (hm : (g, A) ∈ l) (j : Nat) : w.cell? ⟨g, j, none⟩ = A[j]? := cell_of_row w g j A 36 (0, 0) (h.get g A hm)
theorem IsNum.size {A : Array Value} (h : IsNum A) : A.size = 4 := by obtain ⟨f, rfl⟩ := h; exact rowOf_size _ _ _
theorem num_get (N j : Nat) (hj : j < 4) : (num N)[j]? = some (.int .u64 (dig N j : Int)) := by
  unfold num
  rw [List.getElem?_toArray, rowOf_get _ _ _ _ hj]
theorem exec_store_kn {ρ : Operand → Value} {o : Oper} {w0 : World} (w : World) {l : List (Nat × Array Value)} (h : Kn w0 l w) (x y : Operand) (ho : o.op = .store 36 x y) (g : Nat) (hx : ρ x = .pointer (some ⟨g, 0, none⟩)) (A : Array Value) (hA : IsNum A) (hy : ρ y = .agg A)
    (B : Array Value) (hB : IsNum B) (hm : (g, B) ∈ l) : (execOp ρ o).run Tryz.prog w = .ok .skip (w.setRow g A) :=
  exec_store24 w x y ho g hx A hA hy B 36 (h.get g B hm) hB.size
theorem zero_run (w : World) : (zeroValue 36).run Tryz.prog w = .ok (.agg (num 0)) w := by rw [← num_zero]; exact zero24 w
theorem build_lit (n : Nat) (w : World) : (Instr.build 36 #[(0, .int .u64 (n : Int))]).run Tryz.prog w = .ok (.agg #[.int .u64 (n : Int), .int .u64 0, .int .u64 0, .int .u64 0]) w := by kernel_rfl
theorem build_run (n : Nat) (hn : n < 18446744073709551616) (w : World) : (Instr.build 36 #[(0, .int .u64 (n : Int))]).run Tryz.prog w = .ok (.agg (num n)) w := by
  have h : num n = #[.int .u64 (n : Int), .int .u64 0, .int .u64 0, .int .u64 0] := by
    rw [num_lit, dig_0, dig_1, dig_2, dig_3, Nat.mod_eq_of_lt hn, Nat.div_eq_of_lt hn, Nat.div_eq_of_lt (by omega), Nat.div_eq_of_lt (by omega)]
    rfl
  rw [h]
  exact build_lit n w
theorem build0_run (w : World) : (Instr.build 36 #[]).run Tryz.prog w = .ok (.agg (num 0)) w := by kernel_rfl
theorem exec_pickf {P : Program} {ρ : Operand → Value} {o : Oper} (x y z : Operand) (ho : o.op = .pick x y z) (hx : ρ x = .bool false) (v : Value) (hz : ρ z = v) (w : World) : (execOp ρ o).run P w = .ok (.value v) w := by
  subst hz
  unfold execOp
  rw [ho]
  simp only [hx]
  go_simp
theorem wp_cut {P : Program} {c : Code} {Q : Exit → Act → World → Prop} {a : Act} {w : World} (K : Act → World → Prop) (h : c.wp P (Nrm K) a w) (h2 : ∀ a w, K a w → Q .normal a w) : c.wp P Q a w :=
  wp_nrm ((wpIn_wide (n := 0)).1 (wpIn_mono ((wpIn_wide (n := 0)).2 h) (fun e a w h => by cases e <;> first | exact h2 _ _ h | exact h.elim)))
theorem num_inj {a b : Nat} (ha : a < 115792089237316195423570985008687907853269984665640564039457584007913129639936) (hb : b < 115792089237316195423570985008687907853269984665640564039457584007913129639936) (h0 : dig a 0 = dig b 0) (h1 : dig a 1 = dig b 1) (h2 : dig a 2 = dig b 2) (h3 : dig a 3 = dig b 3) : a = b := by
  rw [← val_dig a ha, ← val_dig b hb]
  unfold valN
  rw [h0, h1, h2, h3]
theorem eq24 (a0 a1 a2 a3 b0 b1 b2 b3 : Nat) (w : World) : (Op.equalIn 10000 36 (.agg #[.int .u64 (a0 : Int), .int .u64 (a1 : Int), .int .u64 (a2 : Int), .int .u64 (a3 : Int)]) (.agg #[.int .u64 (b0 : Int), .int .u64 (b1 : Int), .int .u64 (b2 : Int), .int .u64 (b3 : Int)])).run Tryz.prog w =
    .ok (decide (a0 = b0) && (decide (a1 = b1) && (decide (a2 = b2) && decide (a3 = b3)))) w := by
  have u3 := Tryz.underlying34
  have a3' := Tryz.isAgg22
  have z3 := Tryz.sizeOf22
  rw [show (10000 : Nat) = 9999 + 1 from rfl, Op.equalIn]
  simp only [Sem.run_bind, run_underlying Tryz.underlying36, Result.andThen_ok]
  simp only [Std.Legacy.Range.forIn_eq_forIn_range', Std.Legacy.Range.size, Nat.sub_zero, Nat.add_sub_cancel, Nat.div_one, List.range'_succ, List.range'_zero, List.forIn_cons, List.forIn_nil]
  go_simp
  by_cases h0 : a0 = b0 <;> by_cases h1 : a1 = b1 <;> by_cases h2 : a2 = b2 <;> by_cases h3 : a3 = b3 <;> simp [h0, h1, h2, h3] <;> omega
section
variable {P : Program} {ops : Array Oper} {Q : Exit → Act → World → Prop} {md : Region.Mode} {S : World → Prop} {f n : Nat} {listed : Array Bool} {a : Act} {w w2 : World} {rs : List Nat}
theorem tkG (i : Nat) (d : Option Tmp) (opr : Op) (gd : Option (Nat × Bool)) (v : Value) (hy : ∀ (o : Oper), o.op = opr → ∀ w, S w → (execOp a.eval o).run P w = .ok (.value v) w) (hS : S w) (h : AnyF P md ops Q S f n (listed.setIfInBounds i true) (a.put d v) w)
    (hfn : ops[f]? = none := by rfl) (ho : (ops[i]?).map (fun o => (o.dst, o.op, o.guard)) = some (d, opr, gd) := by rfl) (hs : Region.noSelect ops = true := by kernel_rfl) (hf : Region.free md ops listed i = true := by kernel_rfl) (hr : (Region.ready md ops listed).contains i = true := by kernel_rfl)
    (hQ : ∀ c a w, Q (.panic c) (a.put d v) w → Q (.panic c) a w := by exact fun _ _ _ h => h) (hif : (i == f) = false := by rfl) (hw : ∀ o, ops[i]? = some o → Region.wanted o (yielded ops a.tmps) = true := by exact fun o h => by obtain rfl := Option.some.inj h; rfl) : AnyF P md ops Q S f (n + 1) listed a w :=
  AnyF.takeG hfn i d opr gd v ho hs hf hr hQ hif hw hy hS h
end
end Go.Proofs.YtdajmekliodmcaaGreatDoor.P8
namespace Go.Proofs.YtdajmekliodmcaaGreatDoor.P8
set_option linter.unusedSimpArgs false
open Go.RowKit Go.Shelf
set_option linter.unusedVariables false
attribute [local go_sem] Oper.semAt_some
theorem enters61 : ∀ args w, (callFunc 159 args).run Tryz.prog w = .ok (.enter 159 args) w := enters_of Tryz.func159 (by kernel_rfl) rfl
theorem enters60 : ∀ args w, (callFunc 158 args).run Tryz.prog w = .ok (.enter 158 args) w := enters_of Tryz.func158 (by kernel_rfl) rfl
theorem top_shr (N : Nat) (hN : N < 115792089237316195423570985008687907853269984665640564039457584007913129639936) : ((dig N 3 : Nat) : Int) / 9223372036854775808 = ((N / 57896044618658097711785492504343953926634992332820282019728792003956564819968 : Nat) : Int) := by
  rw [dig_3]; omega
set_option maxRecDepth 100000 in
set_option maxHeartbeats 1000000 in
theorem norm_any (N : Nat) (hN : N < 115792089237316195423570985008687907853269984665640564039457584007913129639936) (w : World) :
    Calls Tryz.prog 118 #[.agg (num N)] w fun e w' => e = .returned (.agg (num (N % pp))) ∧ Below w.heap.size w w' := by
  have hpp : pp = 57896044618658097711785492504343953926634992332820282019728792003956564819949 := rfl
  have hsh := top_shr N hN
  have hA3 := num_get N 3 (by decide)
  obtain ⟨q, hq⟩ : ∃ q, q = N / 57896044618658097711785492504343953926634992332820282019728792003956564819968 := ⟨_, rfl⟩
  have hq1 : q ≤ 1 := by omega
  rw [← hq] at hsh
  have HC1 := Lib.hid (cut_any N hN)
  have HP1 := Lib.hid (plus_any (N % 57896044618658097711785492504343953926634992332820282019728792003956564819968) 19 q (by omega) (by decide) (by omega))
  obtain ⟨D, hD⟩ : ∃ D, D = N % 57896044618658097711785492504343953926634992332820282019728792003956564819968 + 19 * q := ⟨_, rfl⟩
  have hDl : D < 115792089237316195423570985008687907853269984665640564039457584007913129639936 := by omega
  rw [← hD, Nat.mod_eq_of_lt hDl, Nat.div_eq_of_lt hDl] at HP1
  have HP2 := Lib.hid (plus_any D 19 1 hDl (by decide) (by decide))
  obtain ⟨U, hU⟩ : ∃ U, U = D + 19 * 1 := ⟨_, rfl⟩
  have hUl : U < 115792089237316195423570985008687907853269984665640564039457584007913129639936 := by omega
  rw [← hU, Nat.mod_eq_of_lt hUl, Nat.div_eq_of_lt hUl] at HP2
  have HC2 := Lib.hid (cut_any U hUl)
  have hsh2 := top_shr U hUl
  have hU3 := num_get U 3 (by decide)
  have hres : (U / 57896044618658097711785492504343953926634992332820282019728792003956564819968 = 1 ∧ U % 57896044618658097711785492504343953926634992332820282019728792003956564819968 = N % pp) ∨ (U / 57896044618658097711785492504343953926634992332820282019728792003956564819968 = 0 ∧ D = N % pp) := by
    rw [hpp]
    by_cases hc : 57896044618658097711785492504343953926634992332820282019728792003956564819968 ≤ U
    · refine .inl ⟨by omega, ?_⟩
      rcases (show q = 0 ∨ q = 1 by omega) with h | h <;> subst h <;> omega
    · refine .inr ⟨by omega, ?_⟩
      rcases (show q = 0 ∨ q = 1 by omega) with h | h <;> subst h <;> omega
  have IA := isNum N
  have IC := isNum (N % 57896044618658097711785492504343953926634992332820282019728792003956564819968)
  have ID := isNum D
  have IU := isNum U
  have IZ := isNum 0
  have IR := isNum (N % pp)
  have I19 := isNum 19
  have hdl := dig_lt N 3
  have hUd := dig_lt U 3
  have hb19 := build_run 19 (by decide)
  have HRES : Hid ((U / 57896044618658097711785492504343953926634992332820282019728792003956564819968 = 1 ∧ num (U % 57896044618658097711785492504343953926634992332820282019728792003956564819968) = num (N % pp)) ∨ (U / 57896044618658097711785492504343953926634992332820282019728792003956564819968 = 0 ∧ num D = num (N % pp))) := by
    rcases hres with ⟨h1, h2⟩ | ⟨h1, h2⟩
    · exact Lib.hid (.inl ⟨h1, by rw [h2]⟩)
    · exact Lib.hid (.inr ⟨h1, by rw [h2]⟩)
  clear hres hD hU hDl hUl hq hN hpp
  generalize dig N 3 = d3 at *
  generalize dig U 3 = u3 at *
  generalize num (U % 57896044618658097711785492504343953926634992332820282019728792003956564819968) = E at *
  generalize U / 57896044618658097711785492504343953926634992332820282019728792003956564819968 = qu at *
  generalize num (N % 57896044618658097711785492504343953926634992332820282019728792003956564819968) = C at *
  generalize num (N % pp) = R at *
  generalize num N = A at *
  generalize num D = D' at *
  generalize num U = U' at *
  generalize num 19 = T at *
  have HZ := zero_run
  have hz4 : ∀ W : World, Kn W [(W.heap.size, A), (W.heap.size + 1, num 0)] ((W.alloc (.cells A 36)).alloc (.cells (num 0) 36)) := by
    intro W
    have h := ((Kn.nil W).new A).new (num 0)
    rw [World.size_alloc] at h
    exact h.sub (fun p hp => by simp at hp ⊢; rcases hp with h | h <;> simp [h])
  generalize num 0 = Z at *
  go_enter Tryz.func118, Tryz.ntmps118
  go_wp2_with (refine wpList_run rfl _ (exec_alloc_agg _ 36 rfl _ (HZ _)) ?_)
  simp only [World.size_alloc]
  have HS := hz4 w
  clear hz4
  generalize (w.alloc (.cells A 36)).alloc (.cells Z 36) = W0 at *
  refine wp_region_any (by kernel_rfl) ?_
  change wpAny _ _ _ _ _ _ _ (World.drew _)
  have HS0 := HS.drew
  refine any_of_F (S := Kn w [(w.heap.size, A), (w.heap.size + 1, Z)]) (f := 10) _ _ _ _ ?_
  refine tkL 0 (some 6) (.load 36 (.tmp 1)) (.agg A) (fun o ho w2 hw => exec_load_of _ 36 (.tmp 1) ho ⟨w.heap.size, 0, none⟩ rfl _ (hw.load (w.heap.size) A (by simp) IA)) HS0 ?_
  simp only [Act.put, sT, sS, sZ]
  refine tkL 2 (some 8) (.build 36 #[(0, .const (.int .u64 19))]) (.agg T) (fun o ho w2 hw => exec_build1 w2 36 0 (.const (.int .u64 19)) ho _ rfl _ (hb19 w2)) HS0 ?_
  simp only [Act.put, sT, sS, sZ]
  refine tkL 3 (some 9) (.indexAddr 36 (.tmp 1) (.const (.int .i64 3))) (.pointer (some ⟨w.heap.size, 3, none⟩)) (fun o ho w2 hw => exec_indexAddr24 (.tmp 1) (.const (.int .i64 3)) ho (w.heap.size) 3 rfl rfl (by decide) w2) HS0 ?_
  simp only [Act.put, sT, sS, sZ]
  refine tkL 4 (some 10) (.load 34 (.tmp 9)) (.int .u64 (d3 : Int)) (fun o ho w2 hw => exec_load_one w2 34 (.tmp 9) ho ⟨w.heap.size, 3, none⟩ rfl _ ((hw.cell (w.heap.size) A (by simp) 3).trans hA3) _ Tryz.underlying34 rfl) HS0 ?_
  simp only [Act.put, sT, sS, sZ]
  refine tkL 5 (some 11) (.binOp .shr 34 (.tmp 10) (.const (.int .u64 63)) 79) (.int .u64 (q : Int)) (fun o ho w2 hw => by unfold execOp; rw [ho]; go_simp) HS0 ?_
  simp only [Act.put, sT, sS, sZ]
  refine rdy [1] (rcl (some 7) 159 #[.tmp 6] #[36] #[.agg A] enters61 _ (HC1.out _) ?_ ReadyF.nil)
  rintro v w1 ⟨he, hb⟩
  cases he
  have HS1 := HS0.below hb
  clear hb
  refine ⟨HS1, ?_⟩
  simp only [Act.put, sT, sS, sZ]
  refine rdy [6] (rcl (some 12) 158 #[.tmp 7, .tmp 8, .tmp 11] #[36, 36, 34] #[.agg C, .agg T, .int .u64 (q : Int)] enters60 _ (HP1.out _) ?_ ReadyF.nil)
  rintro v w2 ⟨he, hb⟩
  cases he
  have HS2 := HS1.below hb
  clear hb
  refine ⟨HS2, ?_⟩
  simp only [Act.put, sT, sS, sZ]
  refine tkL 7 (some 5) (.move (.tmp 12)) ((.tuple #[.agg D', .int .u64 ((0 : Nat) : Int)])) (fun o ho w2 hw => exec_move (.tmp 12) ho _ rfl w2) HS2 ?_
  simp only [Act.put, sT, sS, sZ]
  refine tkL 8 (some 13) (.extract (.tmp 5) 0) (.agg D') (fun o ho w2 hw => exec_extract (.tmp 5) 0 ho _ _ rfl rfl w2) HS2 ?_
  simp only [Act.put, sT, sS, sZ]
  refine tk0 9 (some 14) (.extract (.tmp 5) 1) (.int .u64 ((0 : Nat) : Int)) (fun o ho w2 => exec_extract (.tmp 5) 1 ho _ _ rfl rfl w2) HS2 ?_
  simp only [Act.put, sT, sS, sZ]
  refine rdy [10] (ReadyF.last (.store 36 (.tmp 1) (.tmp 13)) rfl (fun o ho => exec_store_kn w2 HS2 (.tmp 1) (.tmp 13) ho (w.heap.size) rfl D' ID rfl A IA (by simp)) ?_ ReadyF.nil)
  refine any_doneF (by kernel_rfl) ?_ _
  have HS3 : Kn w [(w.heap.size, D'), (w.heap.size + 1, Z)] (w2.setRow (w.heap.size) D') := HS2.set (w.heap.size) D' A (HS2.get (w.heap.size) A (by simp)) (Nat.le_refl _) (fun p hp => by simp at hp; rcases hp with rfl | rfl <;> simp)
  clear HS HS0 HS1 HS2
  generalize w2.setRow (w.heap.size) D' = w3 at *
  have hld : Hid (∀ W, Kn w [(w.heap.size, D'), (w.heap.size + 1, Z)] W → (loadVar 36 ⟨w.heap.size, 0, none⟩).run Tryz.prog W = .ok (.agg D') W) := fun W h => h.load (w.heap.size) D' (by simp) ID
  go_wp2_with (first | (refine wpList_run rfl _ (exec_load_of _ 36 (.tmp 1) rfl ⟨w.heap.size, 0, none⟩ rfl _ (hld.out _ HS3)) ?_) | (refine wpList_run rfl _ (exec_build1 _ 36 0 (.const (.int .u64 19)) rfl _ rfl _ (hb19 _)) ?_))
  refine (HP2.out _).mono ?_
  rintro e w4 ⟨rfl, hb⟩
  have HS4 := HS3.below hb
  clear hb HS3
  have IZ2 := IZ.size
  have HN4 := HS4.alloc (.cells U' 36)
  have HLU : (loadVar 36 ⟨w4.heap.size, 0, none⟩).run Tryz.prog (w4.alloc (.cells U' 36)) = .ok (.agg U') (w4.alloc (.cells U' 36)) := loadA IU (heap_alloc_new w4 _)
  have HLUH := Lib.hid HLU
  clear HLU
  rcases HRES.out with ⟨rfl, hE⟩ | ⟨rfl, hE⟩
  · have hsh3 : (u3 : Int) / 9223372036854775808 = 1 := by simpa using hsh2
    have hEH := Lib.hid hE
    clear hsh2 hE HRES
    go_wp2_with (first | (refine wpList_run rfl _ (exec_alloc_agg _ 36 rfl _ (HZ _)) ?_) | (refine wpList_run0 rfl (exec_new24 _ (.tmp 3) (.tmp 19) rfl _ _ rfl _ IU rfl IZ2) ?_) | (refine wpList_run rfl _ (exec_load_of _ 36 (.tmp 3) rfl ⟨w4.heap.size, 0, none⟩ rfl _ HLUH.out) ?_))
    refine (HC2.out _).mono ?_
    rintro e w5 ⟨rfl, hb⟩
    have HS5 : Kn w [(w.heap.size, D'), (w.heap.size + 1, Z)] w5 := HN4.below hb
    clear hb HN4 HLUH HS4
    go_wp2_with (refine wpList_run0 rfl (exec_store_kn _ HS5 (.tmp 2) (.tmp 26) rfl (w.heap.size + 1) rfl E (by rw [hEH.out]; exact IR) rfl Z IZ (by simp)) ?_)
    have HS6 : Kn w [(w.heap.size + 1, E)] (w5.setRow (w.heap.size + 1) E) := HS5.set (w.heap.size + 1) E Z (HS5.get (w.heap.size + 1) Z (by simp)) (by omega) (fun p hp => by simp at hp; subst hp; simp)
    refine bodyPost_ret (results_cell rfl _ _ _ ⟨w.heap.size + 1, 0, none⟩ rfl _ (HS6.load (w.heap.size + 1) E (by simp) (by rw [hEH.out]; exact IR))) rfl ⟨by rw [hEH.out], HS6.1⟩
  · have hsh3 : (u3 : Int) / 9223372036854775808 = 0 := by simpa using hsh2
    have hEH := Lib.hid hE
    clear hsh2 hE HRES
    go_wp2_with (first | (refine wpList_run rfl _ (exec_alloc_agg _ 36 rfl _ (HZ _)) ?_) | (refine wpList_run0 rfl (exec_new24 _ (.tmp 3) (.tmp 19) rfl _ _ rfl _ IU rfl IZ2) ?_) | (refine wpList_run rfl _ (exec_load_of _ 36 (.tmp 1) rfl ⟨w.heap.size, 0, none⟩ rfl _ (hld.out _ HN4)) ?_) |
      (refine wpList_run0 rfl (exec_store_kn _ HN4 (.tmp 2) (.tmp 27) rfl (w.heap.size + 1) rfl D' ID rfl Z IZ (by simp)) ?_))
    have HS6 : Kn w [(w.heap.size + 1, D')] ((w4.alloc (.cells U' 36)).setRow (w.heap.size + 1) D') := HN4.set (w.heap.size + 1) D' Z (HN4.get (w.heap.size + 1) Z (by simp)) (by omega) (fun p hp => by simp at hp; subst hp; simp)
    refine bodyPost_ret (results_cell rfl _ _ _ ⟨w.heap.size + 1, 0, none⟩ rfl _ (HS6.load (w.heap.size + 1) D' (by simp) ID)) rfl ⟨by rw [hEH.out], HS6.1⟩
end Go.Proofs.YtdajmekliodmcaaGreatDoor.P8
namespace Go.Proofs.YtdajmekliodmcaaGreatDoor.P8
set_option linter.unusedSimpArgs false
open Go.RowKit Go.Shelf
set_option linter.unusedVariables false
def valO (o : Option Obj) : Nat := match o with
  | some (.cells A _ _) => valN (fun j => (intOf (A.getD j undef)).toNat)
  | _ => 0
theorem valO_num (n : Nat) (hn : n < 115792089237316195423570985008687907853269984665640564039457584007913129639936) (t : TypeId) (fr : Nat × Nat) : valO (some (.cells (num n) t fr)) = n := by
  have h : valO (some (.cells (num n) t fr)) = valN (dig n) := by
    unfold valO valN
    rfl
  rw [h, val_dig n hn]
set_option maxRecDepth 100000 in
set_option maxHeartbeats 1000000 in
theorem folded_any (N v : Nat) (hN : N < 115792089237316195423570985008687907853269984665640564039457584007913129639936) (hv : v < 18446744073709551616) (w : World) :
    Calls Tryz.prog 165 #[.agg (num N), .int .u64 v] w fun e w' => e = .returned (.agg (num ((N + v * 115792089237316195423570985008687907853269984665640564039457584007913129639936) % pp))) ∧ Below w.heap.size w w' := by
  have hpp : pp = 57896044618658097711785492504343953926634992332820282019728792003956564819949 := rfl
  have IN := isNum N
  have IZ := isNum 0
  have HZ := zero_run
  have HZS := Lib.hid (isNum 0).size
  have hb38 := build_run 38 (by decide)
  have HV := Lib.hid hv
  have HNN := Lib.hid hN
  obtain ⟨T, hT⟩ : ∃ T, Hid (T = (N + v * 115792089237316195423570985008687907853269984665640564039457584007913129639936) % pp) := ⟨_, Lib.hid rfl⟩
  rw [← hT.out]
  have hz4 : ∀ W : World, Kn W [(W.heap.size, num N), (W.heap.size + 1, num 0)] ((W.alloc (.cells (num N) 36)).alloc (.cells (num 0) 36)) := by
    intro W
    have h := ((Kn.nil W).new (num N)).new (num 0)
    rw [World.size_alloc] at h
    exact h.sub (fun p hp => by simp at hp ⊢; rcases hp with h | h <;> simp [h])
  have HS := hz4 w
  clear hz4 hv hN
  generalize num 0 = Z at *
  obtain ⟨A, hA⟩ : ∃ A, Hid (A = num N) := ⟨_, Lib.hid rfl⟩
  rw [← hA.out] at HS IN ⊢
  go_enter Tryz.func165, Tryz.ntmps165
  go_wp2_with (refine wpList_run rfl _ (exec_alloc_agg _ 36 rfl _ (HZ _)) ?_)
  simp only [Act.put, List.setIfInBounds_toArray, List.set_cons_succ, List.set_cons_zero, World.size_alloc]
  generalize (w.alloc (.cells A 36)).alloc (.cells Z 36) = W0 at *
  have HS' := Lib.hid HS
  clear HS
  go_loopw [1] (fun u wr => ∃ n x : Nat, u = .int .u64 x ∧ n < 115792089237316195423570985008687907853269984665640564039457584007913129639936 ∧ x < 18446744073709551616 ∧ (n + x * 115792089237316195423570985008687907853269984665640564039457584007913129639936) % pp = T ∧ Kn w [(w.heap.size, num n), (w.heap.size + 1, Z)] wr)
    (fun u wr => valO (wr.heap[w.heap.size]?) + (intOf u).toNat * 115792089237316195423570985008687907853269984665640564039457584007913129639936)
  case atStart => exact ⟨N, v, rfl, HNN.out, HV.out, hT.out.symm, by rw [← hA.out]; exact HS'.out⟩
  case round =>
    clear HS' HNN HV hT hA
    obtain ⟨n, x, rfl, hn, hx, hTT, HK⟩ := hrel
    have HTT := Lib.hid hTT
    have HG := Lib.hid (HK.get (w.heap.size) (num n) (by simp))
    by_cases h0 : x = 0
    · subst h0
      have HM := Lib.hid (norm_any n hn)
      rw [show n % pp = T by rw [← hTT, Nat.zero_mul, Nat.add_zero]] at HM
      have IT := isNum T
      have In := isNum n
      clear hTT hn hx
      generalize num n = An at *
      obtain ⟨AT, hAT⟩ : ∃ AT, Hid (AT = num T) := ⟨_, Lib.hid rfl⟩
      rw [← hAT.out] at HM IT
      go_wp2_with (refine wpList_run rfl _ (exec_load_of _ 36 (.tmp 2) rfl ⟨w.heap.size, 0, none⟩ rfl _ (HK.load (w.heap.size) An (by simp) In)) ?_)
      refine (HM.out _).mono ?_
      rintro e w5 ⟨rfl, hb⟩
      have HS5 := HK.below hb
      clear hb HK
      go_wp2_with (refine wpList_run0 rfl (exec_store_kn _ HS5 (.tmp 4) (.tmp 15) rfl (w.heap.size + 1) rfl AT IT rfl Z IZ (by simp)) ?_)
      have HS6 : Kn w [(w.heap.size + 1, AT)] (w5.setRow (w.heap.size + 1) AT) := HS5.set (w.heap.size + 1) AT Z (HS5.get (w.heap.size + 1) Z (by simp)) (by omega) (fun p hp => by simp at hp; subst hp; simp)
      exact bodyPost_ret (results_cell rfl _ _ _ ⟨w.heap.size + 1, 0, none⟩ rfl _ (HS6.load (w.heap.size + 1) AT (by simp) IT)) rfl ⟨by rw [hAT.out], HS6.1⟩
    · have hpos : (0 : Int) < x := by omega
      have HP := Lib.hid (plus_any n 38 x hn (by decide) hx)
      obtain ⟨S, hS⟩ : ∃ S, S = n + 38 * x := ⟨_, rfl⟩
      have hSl : S < 115792089237316195423570985008687907853269984665640564039457584007913129639936 * 18446744073709551616 := by omega
      have hn2 : S % 115792089237316195423570985008687907853269984665640564039457584007913129639936 < 115792089237316195423570985008687907853269984665640564039457584007913129639936 := Nat.mod_lt _ (by decide)
      have hx2 : S / 115792089237316195423570985008687907853269984665640564039457584007913129639936 < 18446744073709551616 := by omega
      have HT2 : Hid ((S % 115792089237316195423570985008687907853269984665640564039457584007913129639936 + S / 115792089237316195423570985008687907853269984665640564039457584007913129639936 * 115792089237316195423570985008687907853269984665640564039457584007913129639936) % pp = T) := by
        unfold Hid
        rw [Nat.mod_add_div', ← hTT, hS, show n + x * 115792089237316195423570985008687907853269984665640564039457584007913129639936 = n + 38 * x + pp * (2 * x) by rw [hpp]; omega, Nat.add_mul_mod_self_left]
      have HME : Hid (S % 115792089237316195423570985008687907853269984665640564039457584007913129639936 + S / 115792089237316195423570985008687907853269984665640564039457584007913129639936 * 115792089237316195423570985008687907853269984665640564039457584007913129639936 < n + x * 115792089237316195423570985008687907853269984665640564039457584007913129639936) := by
        unfold Hid
        rw [Nat.mod_add_div']
        omega
      rw [← hS] at HP
      have In := isNum n
      have In2 := isNum (S % 115792089237316195423570985008687907853269984665640564039457584007913129639936)
      have HN2 := Lib.hid hn2
      have HX2 := Lib.hid hx2
      have HNl := Lib.hid hn
      clear hTT hS hSl hn2 hx2 hn hx hpp
      generalize S % 115792089237316195423570985008687907853269984665640564039457584007913129639936 = n2 at *
      generalize S / 115792089237316195423570985008687907853269984665640564039457584007913129639936 = x2 at *
      go_wp2_with (first | (refine wpList_run rfl _ (exec_load_of _ 36 (.tmp 2) rfl ⟨w.heap.size, 0, none⟩ rfl _ (HK.load (w.heap.size) (num n) (by simp) In)) ?_) | (refine wpList_run rfl _ (exec_build1 _ 36 0 (.const (.int .u64 38)) rfl _ rfl _ (hb38 _)) ?_))
      refine (HP.out _).mono ?_
      rintro e w5 ⟨rfl, hb⟩
      have HS5 := HK.below hb
      clear hb HK
      go_wp2_with (refine wpList_run0 rfl (exec_store_kn _ HS5 (.tmp 2) (.tmp 12) rfl (w.heap.size) rfl (num n2) In2 rfl (num n) In (by simp)) ?_)
      have HS6 : Kn w [(w.heap.size, num n2), (w.heap.size + 1, Z)] (w5.setRow (w.heap.size) (num n2)) := HS5.set (w.heap.size) (num n2) (num n) (HS5.get (w.heap.size) (num n) (by simp)) (by omega) (fun p hp => by simp at hp; rcases hp with rfl | rfl <;> simp)
      clear HS5
      generalize w5.setRow (w.heap.size) (num n2) = w6 at *
      go_roundw
      case rel => exact ⟨n2, x2, rfl, HN2.out, HX2.out, HT2.out, HS6⟩
      case measure =>
        rw [HS6.get (w.heap.size) (num n2) (by simp), HG.out, valO_num n2 HN2.out, valO_num n HNl.out]
        exact HME.out
set_option maxRecDepth 100000 in
set_option maxHeartbeats 1000000 in
theorem addf_any (a b : Nat) (ha : a < 115792089237316195423570985008687907853269984665640564039457584007913129639936) (hb : b < 115792089237316195423570985008687907853269984665640564039457584007913129639936) (w : World) :
    Calls Tryz.prog 131 #[.agg (num a), .agg (num b)] w fun e w' => e = .returned (.agg (num (addF a b))) ∧ Below w.heap.size w w' := by
  have HP := Lib.hid (plus_any a b 1 ha hb (by decide))
  have HF := Lib.hid (folded_any ((a + b * 1) % 115792089237316195423570985008687907853269984665640564039457584007913129639936) ((a + b * 1) / 115792089237316195423570985008687907853269984665640564039457584007913129639936) (Nat.mod_lt _ (by decide)) (by omega))
  rw [Nat.mod_add_div', Nat.mul_one, show (a + b) % pp = addF a b from rfl] at HF
  rw [Nat.mul_one] at HP
  clear ha hb
  obtain ⟨A, hA⟩ : ∃ A, Hid (A = num a) := ⟨_, Lib.hid rfl⟩
  have IA : IsNum A := by rw [hA.out]; exact isNum _
  obtain ⟨B, hB⟩ : ∃ B, Hid (B = num b) := ⟨_, Lib.hid rfl⟩
  have IB : IsNum B := by rw [hB.out]; exact isNum _
  obtain ⟨S, hS⟩ : ∃ S, Hid (S = num ((a + b) % 115792089237316195423570985008687907853269984665640564039457584007913129639936)) := ⟨_, Lib.hid rfl⟩
  have IS : IsNum S := by rw [hS.out]; exact isNum _
  obtain ⟨R, hR⟩ : ∃ R, Hid (R = num (addF a b)) := ⟨_, Lib.hid rfl⟩
  have IR : IsNum R := by rw [hR.out]; exact isNum _
  rw [← hA.out, ← hB.out, ← hS.out] at HP
  rw [← hS.out, ← hR.out] at HF
  rw [← hA.out, ← hB.out, ← hR.out]
  generalize (a + b) / 115792089237316195423570985008687907853269984665640564039457584007913129639936 = v at *
  clear hA hB hS hR
  have IZ := isNum 0
  have HZ := zero_run
  have hz4 : ∀ W : World, Kn W [(W.heap.size, A), (W.heap.size + 1, B), (W.heap.size + 1 + 1, num 0)] (((W.alloc (.cells A 36)).alloc (.cells B 36)).alloc (.cells (num 0) 36)) := by
    intro W
    have h := (((Kn.nil W).new A).new B).new (num 0)
    simp only [World.size_alloc] at h
    exact h.sub (fun p hp => by simp at hp ⊢; rcases hp with h | h | h <;> simp [h])
  have HS := Lib.hid (hz4 w)
  clear hz4
  generalize num 0 = Z at *
  go_enter Tryz.func131, Tryz.ntmps131
  go_wp2_with (first | ((refine wpList_run rfl _ (exec_alloc_agg _ 36 rfl _ (HZ _)) ?_); try simp only [World.size_alloc]) | (refine wpList_run rfl _ (exec_load_of _ 36 (.tmp 2) rfl ⟨w.heap.size, 0, none⟩ rfl _ (HS.out.load (w.heap.size) A (by simp) IA)) ?_) | (refine wpList_run rfl _ (exec_load_of _ 36 (.tmp 3) rfl ⟨w.heap.size + 1, 0, none⟩ rfl _ (HS.out.load (w.heap.size + 1) B (by simp) IB)) ?_))
  refine (HP.out _).mono ?_
  rintro e w1 ⟨rfl, hb⟩
  have HS1 := HS.out.below hb
  clear hb HS
  go_wp2_with fail
  refine (HF.out _).mono ?_
  rintro e w2 ⟨rfl, hb⟩
  have HS2 := HS1.below hb
  clear hb HS1
  go_wp2_with (refine wpList_run0 rfl (exec_store_kn _ HS2 (.tmp 4) (.tmp 10) rfl (w.heap.size + 1 + 1) rfl R IR rfl Z IZ (by simp)) ?_)
  have HS6 : Kn w [(w.heap.size + 1 + 1, R)] (w2.setRow (w.heap.size + 1 + 1) R) := HS2.set (w.heap.size + 1 + 1) R Z (HS2.get (w.heap.size + 1 + 1) Z (by simp)) (by omega) (fun p hp => by simp at hp; subst hp; simp)
  exact bodyPost_ret (results_cell rfl _ _ _ ⟨w.heap.size + 1 + 1, 0, none⟩ rfl _ (HS6.load (w.heap.size + 1 + 1) R (by simp) IR)) rfl ⟨rfl, HS6.1⟩
theorem fold38 (z : Nat) : (z % 115792089237316195423570985008687907853269984665640564039457584007913129639936 + z / 115792089237316195423570985008687907853269984665640564039457584007913129639936 * 38) % pp = z % pp := by
  have h : z = z % 115792089237316195423570985008687907853269984665640564039457584007913129639936 + z / 115792089237316195423570985008687907853269984665640564039457584007913129639936 * 38 + pp * (2 * (z / 115792089237316195423570985008687907853269984665640564039457584007913129639936)) := by rw [show pp = 57896044618658097711785492504343953926634992332820282019728792003956564819949 from rfl]; omega
  calc (z % 115792089237316195423570985008687907853269984665640564039457584007913129639936 + z / 115792089237316195423570985008687907853269984665640564039457584007913129639936 * 38) % pp = (z % 115792089237316195423570985008687907853269984665640564039457584007913129639936 + z / 115792089237316195423570985008687907853269984665640564039457584007913129639936 * 38 + pp * (2 * (z / 115792089237316195423570985008687907853269984665640564039457584007913129639936))) % pp := (Nat.add_mul_mod_self_left _ _ _).symm
    _ = z % pp := by rw [← h]
theorem mulF_eq (a b : Nat) : ((a * b % 115792089237316195423570985008687907853269984665640564039457584007913129639936 + a * b / 115792089237316195423570985008687907853269984665640564039457584007913129639936 * 38) % 115792089237316195423570985008687907853269984665640564039457584007913129639936 + (a * b % 115792089237316195423570985008687907853269984665640564039457584007913129639936 + a * b / 115792089237316195423570985008687907853269984665640564039457584007913129639936 * 38) / 115792089237316195423570985008687907853269984665640564039457584007913129639936 * 115792089237316195423570985008687907853269984665640564039457584007913129639936) % pp = mulF a b := by
  rw [Nat.mod_add_div', fold38]
  rfl
set_option maxRecDepth 100000 in
set_option maxHeartbeats 1000000 in
theorem mulf_any (a b : Nat) (ha : a < 115792089237316195423570985008687907853269984665640564039457584007913129639936) (hb : b < 115792089237316195423570985008687907853269984665640564039457584007913129639936) (w : World) :
    Calls Tryz.prog 130 #[.agg (num a), .agg (num b)] w fun e w' => e = .returned (.agg (num (mulF a b))) ∧ Below w.heap.size w w' := by
  have hm : a * b < 115792089237316195423570985008687907853269984665640564039457584007913129639936 * 115792089237316195423570985008687907853269984665640564039457584007913129639936 := Nat.mul_lt_mul'' ha hb
  have HP := Lib.hid (product_any a b ha hb)
  have hl : a * b % 115792089237316195423570985008687907853269984665640564039457584007913129639936 < 115792089237316195423570985008687907853269984665640564039457584007913129639936 := Nat.mod_lt _ (by decide)
  have hh : a * b / 115792089237316195423570985008687907853269984665640564039457584007913129639936 < 115792089237316195423570985008687907853269984665640564039457584007913129639936 := Nat.div_lt_of_lt_mul hm
  have HP2 := Lib.hid (plus_any (a * b % 115792089237316195423570985008687907853269984665640564039457584007913129639936) (a * b / 115792089237316195423570985008687907853269984665640564039457584007913129639936) 38 hl hh (by decide))
  have hT := mulF_eq a b
  have HF := Lib.hid (folded_any ((a * b % 115792089237316195423570985008687907853269984665640564039457584007913129639936 + a * b / 115792089237316195423570985008687907853269984665640564039457584007913129639936 * 38) % 115792089237316195423570985008687907853269984665640564039457584007913129639936) ((a * b % 115792089237316195423570985008687907853269984665640564039457584007913129639936 + a * b / 115792089237316195423570985008687907853269984665640564039457584007913129639936 * 38) / 115792089237316195423570985008687907853269984665640564039457584007913129639936) (Nat.mod_lt _ (by decide)) (by omega))
  rw [hT] at HF
  clear ha hb hm hl hh hT
  obtain ⟨A, hA⟩ : ∃ A, Hid (A = num a) := ⟨_, Lib.hid rfl⟩
  have IA : IsNum A := by rw [hA.out]; exact isNum _
  obtain ⟨B, hB⟩ : ∃ B, Hid (B = num b) := ⟨_, Lib.hid rfl⟩
  have IB : IsNum B := by rw [hB.out]; exact isNum _
  obtain ⟨L, hL⟩ : ∃ L, Hid (L = num (a * b % 115792089237316195423570985008687907853269984665640564039457584007913129639936)) := ⟨_, Lib.hid rfl⟩
  have IL : IsNum L := by rw [hL.out]; exact isNum _
  obtain ⟨H, hH⟩ : ∃ H, Hid (H = num (a * b / 115792089237316195423570985008687907853269984665640564039457584007913129639936)) := ⟨_, Lib.hid rfl⟩
  have IH : IsNum H := by rw [hH.out]; exact isNum _
  obtain ⟨S, hS⟩ : ∃ S, Hid (S = num ((a * b % 115792089237316195423570985008687907853269984665640564039457584007913129639936 + a * b / 115792089237316195423570985008687907853269984665640564039457584007913129639936 * 38) % 115792089237316195423570985008687907853269984665640564039457584007913129639936)) := ⟨_, Lib.hid rfl⟩
  have IS : IsNum S := by rw [hS.out]; exact isNum _
  obtain ⟨R, hR⟩ : ∃ R, Hid (R = num (mulF a b)) := ⟨_, Lib.hid rfl⟩
  have IR : IsNum R := by rw [hR.out]; exact isNum _
  rw [← hA.out, ← hB.out, ← hL.out, ← hH.out] at HP
  rw [← hL.out, ← hH.out, ← hS.out] at HP2
  rw [← hS.out, ← hR.out] at HF
  rw [← hA.out, ← hB.out, ← hR.out]
  generalize (a * b % 115792089237316195423570985008687907853269984665640564039457584007913129639936 + a * b / 115792089237316195423570985008687907853269984665640564039457584007913129639936 * 38) / 115792089237316195423570985008687907853269984665640564039457584007913129639936 = v at *
  clear hA hB hS hR hL hH
  have IZ := isNum 0
  have HZ := zero_run
  have hz4 : ∀ W : World, Kn W [(W.heap.size, A), (W.heap.size + 1, B), (W.heap.size + 1 + 1, num 0)] (((W.alloc (.cells A 36)).alloc (.cells B 36)).alloc (.cells (num 0) 36)) := by
    intro W
    have h := (((Kn.nil W).new A).new B).new (num 0)
    simp only [World.size_alloc] at h
    exact h.sub (fun p hp => by simp at hp ⊢; rcases hp with h | h | h <;> simp [h])
  have HS := Lib.hid (hz4 w)
  have IZ2 := IZ.size
  clear hz4
  generalize num 0 = Z at *
  go_enter Tryz.func130, Tryz.ntmps130
  go_wp2_with (first | ((refine wpList_run rfl _ (exec_alloc_agg _ 36 rfl _ (HZ _)) ?_); try simp only [World.size_alloc]) | (refine wpList_run rfl _ (exec_load_of _ 36 (.tmp 2) rfl ⟨w.heap.size, 0, none⟩ rfl _ (HS.out.load (w.heap.size) A (by simp) IA)) ?_) | (refine wpList_run rfl _ (exec_load_of _ 36 (.tmp 3) rfl ⟨w.heap.size + 1, 0, none⟩ rfl _ (HS.out.load (w.heap.size + 1) B (by simp) IB)) ?_))
  refine (HP.out _).mono ?_
  rintro e w1 ⟨rfl, hb⟩
  have HS1 := HS.out.below hb
  clear hb HS
  have HA1 : Kn w [(w.heap.size + 1 + 1, Z), (w1.heap.size, Z), (w1.heap.size + 1, Z)] ((w1.alloc (.cells Z 36)).alloc (.cells Z 36)) := by
    have h := (HS1.new Z).new Z
    simp only [World.size_alloc] at h
    exact h.sub (fun p hp => by simp at hp ⊢; rcases hp with h | h | h <;> simp [h])
  have hlg := HS1.lt (w.heap.size + 1 + 1) Z (by simp)
  have HA2 : Kn w [(w.heap.size + 1 + 1, Z), (w1.heap.size, L), (w1.heap.size + 1, Z)] (((w1.alloc (.cells Z 36)).alloc (.cells Z 36)).setRow (w1.heap.size) L) := HA1.set (w1.heap.size) L Z (HA1.get (w1.heap.size) Z (by simp)) (by omega) (fun p hp => by simp at hp; rcases hp with rfl | rfl | rfl <;> simp <;> omega)
  have HA3 : Kn w [(w.heap.size + 1 + 1, Z), (w1.heap.size, L), (w1.heap.size + 1, H)] ((((w1.alloc (.cells Z 36)).alloc (.cells Z 36)).setRow (w1.heap.size) L).setRow (w1.heap.size + 1) H) := HA2.set (w1.heap.size + 1) H Z (HA2.get (w1.heap.size + 1) Z (by simp)) (by omega) (fun p hp => by simp at hp; rcases hp with rfl | rfl | rfl <;> simp <;> omega)
  have K1 := Lib.hid HA1
  have K2 := Lib.hid HA2
  have K3 := Lib.hid HA3
  clear HA1 HA2 HA3 HS1 hlg
  go_wp2_with (first | ((refine wpList_run rfl _ (exec_alloc_agg _ 36 rfl _ (HZ _)) ?_); try simp only [World.size_alloc]) | (refine wpList_run0 rfl (exec_store_kn (w0 := w) (l := [(w.heap.size + 1 + 1, Z), (w1.heap.size, Z), (w1.heap.size + 1, Z)]) _ ?S5 (.tmp 5) (.tmp 11) rfl (w1.heap.size) rfl L IL rfl Z IZ (by simp)) ?_) | (refine wpList_run0 rfl (exec_store_kn (w0 := w) (l := [(w.heap.size + 1 + 1, Z), (w1.heap.size, L), (w1.heap.size + 1, Z)]) _ ?S6 (.tmp 6) (.tmp 12) rfl (w1.heap.size + 1) rfl H IH rfl Z IZ (by simp)) ?_) | (refine wpList_run rfl _ (exec_load_of _ 36 (.tmp 5) rfl ⟨w1.heap.size, 0, none⟩ rfl (.agg L) ?L5) ?_) | (refine wpList_run rfl _ (exec_load_of _ 36 (.tmp 6) rfl ⟨w1.heap.size + 1, 0, none⟩ rfl (.agg H) ?L6) ?_))
  case S5 => exact K1.out
  case S6 => exact K2.out
  case L5 => exact K3.out.load (w1.heap.size) L (by simp) IL
  case L6 => exact K3.out.load (w1.heap.size + 1) H (by simp) IH
  refine (HP2.out _).mono ?_
  rintro e w2 ⟨rfl, hb⟩
  have HS2 := K3.out.below hb
  clear hb K1 K2 K3
  go_wp2_with fail
  refine (HF.out _).mono ?_
  rintro e w3 ⟨rfl, hb⟩
  have HS3 := HS2.below hb
  clear hb HS2
  go_wp2_with (refine wpList_run0 rfl (exec_store_kn _ HS3 (.tmp 4) (.tmp 18) rfl (w.heap.size + 1 + 1) rfl R IR rfl Z IZ (by simp)) ?_)
  have HS6 : Kn w [(w.heap.size + 1 + 1, R)] (w3.setRow (w.heap.size + 1 + 1) R) := HS3.set (w.heap.size + 1 + 1) R Z (HS3.get (w.heap.size + 1 + 1) Z (by simp)) (by omega) (fun p hp => by simp at hp; subst hp; simp)
  exact bodyPost_ret (results_cell rfl _ _ _ ⟨w.heap.size + 1 + 1, 0, none⟩ rfl _ (HS6.load (w.heap.size + 1 + 1) R (by simp) IR)) rfl ⟨rfl, HS6.1⟩
end Go.Proofs.YtdajmekliodmcaaGreatDoor.P8
