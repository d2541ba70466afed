/- Several texts, one behind the other; each says by itself what it proves, and on what conditions. -/
import Derived.Test.YtdajmekliodmcaaGreatDoorK05
import Derived.OrdersHeld
import Derived.Still
import Derived.StillTail
namespace Go.Proofs.YtdajmekliodmcaaGreatDoor.P8
set_option linter.unusedSimpArgs false
open Go.RowKit Go.Shelf
set_option linter.unusedVariables false
attribute [local go_sem] Oper.semAt_some
def PrI (w : World) (a : Nat) (f : Nat → Nat) (pre : List (Fin 4)) (W : World) : Prop :=
  (Row W w.heap.size 36 .u64 4 (dig a) ∧ Row W (w.heap.size + 1 + 1) 36 .u64 4 (prSt a f pre).1 ∧ Row W (w.heap.size + 1 + 1 + 1) 36 .u64 4 (dig (prSt a f pre).2)) ∧ Below w.heap.size w W
theorem prI_own (w : World) (a : Nat) (f : Nat → Nat) (B : Nat) (hB : w.heap.size + 4 ≤ B) : OwnFrom B (PrI w a f) := by
  rintro s W W' row ⟨⟨h1, h3, h4⟩, h5⟩ hg hr
  exact ⟨⟨row_own h1 (by omega) hg hr, row_own h3 (by omega) hg hr, row_own h4 (by omega) hg hr⟩, below_own h5 (by omega) h5.size hg hr⟩
theorem keeps_of_below {W W2 : World} (h : Below W.heap.size W W2) : KeepsOthers W W2 :=
  ⟨h.size, fun k o hk _ => (h.block k (Array.getElem?_eq_some_iff.1 hk).1).trans hk⟩
theorem keeps_setRow {W : World} {g : Nat} {cs cur : Array Value} {t : TypeId} {fr : Nat × Nat} (hg : W.heap[g]? = some (.cells cur t fr)) : KeepsOthers W (W.setRow g cs) :=
  KeepsOthers.of_grownBy (row := some g) ⟨rfl, rfl, rfl, by simp, fun k _ hk => setRow_other _ _ _ _ (fun e => hk (by rw [e]))⟩ (fun j o e ho => by cases e; rw [hg] at ho; cases ho; rfl)
theorem dig_zero (j : Nat) : dig 0 j = 0 := by unfold dig; split <;> rfl
theorem num_zero : (rowOf .u64 4 fun _ => 0).toArray = num 0 := by unfold num; rw [rowOf_ext (fun j _ => (dig_zero j).symm)]
theorem exec_new24 {ρ : Operand → Value} {o : Oper} (w : World) (x y : Operand) (ho : o.op = .store 36 x y) (c : Array Value) (t : TypeId) (hx : ρ x = .pointer (some ⟨w.heap.size, 0, none⟩)) (A : Array Value) (hA : IsNum A) (hy : ρ y = .agg A) (h4 : c.size = 4) :
    (execOp ρ o).run Tryz.prog (w.alloc (.cells c t)) = .ok .skip (w.alloc (.cells A t)) := by
  have h := exec_store24 (w.alloc (.cells c t)) x y ho w.heap.size hx A hA hy c t (heap_alloc_new _ _) h4
  rw [setRow_alloc _ _ _ _ _ _ rfl] at h
  exact h
theorem results_cells2 {fn : Func} {a b : Tmp} {t u : TypeId} (h : fn.results = #[.cell a t, .cell b u]) (tmps : Array Value) (P : Program) (w : World) (ad bd : Addr) (ha : tmps.getD a undef = .pointer (some ad)) (hb : tmps.getD b undef = .pointer (some bd)) (v x : Value)
    (hl : (loadVar t ad).run P w = .ok v w) (hl2 : (loadVar u bd).run P w = .ok x w) : (results fn tmps).run P w = .ok (.tuple #[v, x]) w := by
  have ha2 : tmps[a]?.getD undef = .pointer (some ad) := by rw [← Array.getD_eq_getD_getElem?]; exact ha
  have hb2 : tmps[b]?.getD undef = .pointer (some bd) := by rw [← Array.getD_eq_getD_getElem?]; exact hb
  unfold results
  rw [h]
  simp [Array.mapM_eq_mapM_toList, ha2, hb2, asAddr, hl, hl2]
theorem prod_words (T : Nat) (hT : T / 115792089237316195423570985008687907853269984665640564039457584007913129639936 < 18446744073709551616) :
    T % 18446744073709551616 = dig (T % 115792089237316195423570985008687907853269984665640564039457584007913129639936) 0 ∧ num (T / 18446744073709551616) = #[.int .u64 (dig (T % 115792089237316195423570985008687907853269984665640564039457584007913129639936) 1), .int .u64 (dig (T % 115792089237316195423570985008687907853269984665640564039457584007913129639936) 2), .int .u64 (dig (T % 115792089237316195423570985008687907853269984665640564039457584007913129639936) 3), .int .u64 ((T / 115792089237316195423570985008687907853269984665640564039457584007913129639936 : Nat) : Int)] := by
  refine ⟨by rw [dig_0]; omega, ?_⟩
  have e0 : dig (T / 18446744073709551616) 0 = dig (T % 115792089237316195423570985008687907853269984665640564039457584007913129639936) 1 := by rw [dig_0, dig_1]; omega
  have e1 : dig (T / 18446744073709551616) 1 = dig (T % 115792089237316195423570985008687907853269984665640564039457584007913129639936) 2 := by rw [dig_1, dig_2]; omega
  have e2 : dig (T / 18446744073709551616) 2 = dig (T % 115792089237316195423570985008687907853269984665640564039457584007913129639936) 3 := by rw [dig_2, dig_3]; omega
  have e3 : dig (T / 18446744073709551616) 3 = T / 115792089237316195423570985008687907853269984665640564039457584007913129639936 := by rw [dig_3]; omega
  rw [← e0, ← e1, ← e2, ← e3]
  rfl
set_option maxRecDepth 100000 in
set_option maxHeartbeats 1000000 in
theorem product_any (a b : Nat) (ha : a < 115792089237316195423570985008687907853269984665640564039457584007913129639936) (hb : b < 115792089237316195423570985008687907853269984665640564039457584007913129639936) (w : World) :
    Calls Tryz.prog 164 #[.agg (num a), .agg (num b)] w fun e w' => e = .returned (.tuple #[.agg (num (a * b % 115792089237316195423570985008687907853269984665640564039457584007913129639936)), .agg (num (a * b / 115792089237316195423570985008687907853269984665640564039457584007913129639936))]) ∧ Below w.heap.size w w' := by
  obtain ⟨hall1, hall2⟩ := prSt_all a b ha hb
  rw [← hall1, ← hall2]
  have HOK := Lib.hid (prSt_ok a (dig b) ha (dig_lt b))
  have HF := Lib.hid (dig_lt b)
  have HA := Lib.hid ha
  clear hall1 hall2 ha hb
  rw [show num b = (rowOf .u64 4 (dig b)).toArray from rfl]
  generalize dig b = F at *
  refine (callsIn_wide (n := 6)).1 ?_
  refine callsIn_of_wp_marks Tryz.func164 rfl trivial ?_ rfl
  simp only [Tryz.ntmps164, List.size_toArray, List.length_cons, List.length_nil, Nat.reduceAdd, Nat.reduceSub, Array.replicate_succ, Array.replicate_zero, List.push_toArray, List.append_toArray, List.nil_append, List.cons_append]
  obtain ⟨ra, hra⟩ : ∃ ra, Hid (ra = num a) := ⟨_, Lib.hid rfl⟩
  obtain ⟨rb, hrb⟩ : ∃ rb, Hid (rb = (rowOf .u64 4 F).toArray) := ⟨_, Lib.hid rfl⟩
  rw [← hra.out, ← hrb.out]
  gi_wp2_with (first | (refine wpListIn_run rfl rfl rfl _ (exec_alloc_agg _ 36 rfl _ (zero24 _)) ?_) | (refine wpListIn_run rfl rfl rfl _ (exec_load_of _ 36 (.tmp 3) rfl ⟨w.heap.size + 1, 0, none⟩ rfl (.agg rb) ?ld) ?_))
  case ld =>
    rw [hrb.out]
    exact load24 (by unfold Row; rw [← hrb.out]; simp only [heapA, Array.getElem?_push, Array.size_push]; (repeat (first | rw [if_pos (by first | trivial | omega)] | rw [if_neg (by omega)])))
  gi_wp2_with (refine ⟨trivial, ?_⟩; gi_at_call 117; refine (words_in _ _ _).mono ?_; rintro e w' ⟨rfl, rfl⟩)
  have hrows : ∀ W0, W0 = ((((w.alloc (.cells ra 36)).alloc (.cells rb 36)).alloc (.cells (rowOf .u64 4 fun _ => 0).toArray 36)).alloc (.cells (rowOf .u64 4 fun _ => 0).toArray 36)).alloc (.cells rb 36) →
      PrI w a F [] W0 ∧ Row W0 (w.heap.size + 1 + 1 + 1 + 1) 36 .u64 4 F ∧ W0.heap.size = w.heap.size + 5 := by
    rintro W0 rfl
    refine ⟨⟨⟨?_, ?_, ?_⟩, ?_⟩, ?_, by simp⟩
    · unfold Row; rw [hra.out]; simp only [heapA, Array.getElem?_push, Array.size_push]; (repeat (first | rw [if_pos (by first | trivial | omega)] | rw [if_neg (by omega)])); rfl
    · unfold Row; simp only [heapA, Array.getElem?_push, Array.size_push]; (repeat (first | rw [if_pos (by first | trivial | omega)] | rw [if_neg (by omega)])); rfl
    · have e : rowOf .u64 4 (dig (prSt a F []).2) = rowOf .u64 4 (fun _ => 0) := rowOf_ext (fun j hj => dig_zero j)
      unfold Row; rw [e]; simp only [heapA, Array.getElem?_push, Array.size_push]; (repeat (first | rw [if_pos (by first | trivial | omega)] | rw [if_neg (by omega)]))
    · repeat (refine bel_alloc ?_ (by simp <;> omega) _)
      exact Below.refl _ _
    · unfold Row; rw [hrb.out]; simp only [heapA, Array.getElem?_push, Array.size_push]; (repeat (first | rw [if_pos (by first | trivial | omega)] | rw [if_neg (by omega)]))
  have hrows2 := hrows _ rfl
  clear hrows
  generalize ((((w.alloc (.cells ra 36)).alloc (.cells rb 36)).alloc (.cells (rowOf .u64 4 fun _ => 0).toArray 36)).alloc (.cells (rowOf .u64 4 fun _ => 0).toArray 36)).alloc (.cells rb 36) = W0 at *
  obtain ⟨hI0, hbox, hsz0⟩ := hrows2
  refine wpIn_rangeFunc_ownF rfl (by omega) (gf := 157) (lb := #[.pointer (some ⟨w.heap.size + 1 + 1 + 1 + 1, 0, none⟩)]) rfl trivial (enters_of Tryz.func157 (by kernel_rfl) rfl) (words_stops 5 (w.heap.size + 1 + 1 + 1 + 1) F W0 hbox (by omega))
    (fun _ _ => trivial) (fun _ _ _ _ _ _ _ _ => trivial) (Below.refl _ _) (fun _ => rfl)
    (PrI w a F) (fun _ _ _ => False) (prI_own w a F _ (by omega)) (fun _ _ _ _ _ hs _ _ => hs) hI0
    (fun x => { tmps := #[.agg ra, .agg rb, .pointer (some ⟨w.heap.size, 0, none⟩), .pointer (some ⟨w.heap.size + 1, 0, none⟩), .pointer (some ⟨w.heap.size + 1 + 1, 0, none⟩), .pointer (some ⟨w.heap.size + 1 + 1 + 1, 0, none⟩), .int .i64 (x.1 : Int), .int .u64 (F x.1 : Int), undef, undef, .agg rb, .func (.func 157) #[] #[.pointer (some ⟨w.heap.size + 1 + 1 + 1 + 1, 0, none⟩)], .int .i64 (x.1 : Int), .int .u64 (F x.1 : Int), undef, undef, undef, undef, undef, undef, undef, undef, undef, undef, undef, undef, undef, undef, undef, undef, undef, undef, undef, undef, undef], defers := [] }) ?assign ?body ?done ?stop
  case assign =>
    intro l x W K hK
    unfold encW
    gi_wp2
    exact hK
  case body =>
    rintro l pre x W ⟨⟨h2, h4, h5⟩, hbl⟩ _
    obtain ⟨hok1, hok2⟩ := HOK.out pre
    have hx4 := x.2
    have hy := HF.out x.1
    have hnew := prSt_snoc a F pre x
    have hT := mul_lt4 HA.out hy
    have hTT : ((prSt a F pre).2 + a * F x.1) / 115792089237316195423570985008687907853269984665640564039457584007913129639936 < 18446744073709551616 := by generalize a * F x.1 = z at *; omega
    obtain ⟨pw1, pw2⟩ := prod_words ((prSt a F pre).2 + a * F x.1) hTT
    have HP := Lib.hid (plus_any (prSt a F pre).2 a (F x.1) hok2 HA.out hy)
    have HL5 : Hid ((loadVar 36 ⟨w.heap.size + 1 + 1 + 1, 0, none⟩).run Tryz.prog W = .ok (.agg (num (prSt a F pre).2)) W) := Lib.hid (load24 h5)
    have HL2 : Hid ((loadVar 36 ⟨w.heap.size, 0, none⟩).run Tryz.prog W = .ok (.agg ra) W) := by rw [hra.out]; exact Lib.hid (load24 h2)
    rw [← hra.out] at HP
    have hszW := hbl.size
    have hl5 := h5.lt
    have hl4 := h4.lt
    have hl2 := h2.lt
    generalize hTe : (prSt a F pre).2 + a * F x.1 = T at *
    have HN1 : Hid ((prSt a F (pre ++ [x])).1 = upd (prSt a F pre).1 x.1 (dig (T % 115792089237316195423570985008687907853269984665640564039457584007913129639936) 0)) := by unfold Hid; rw [hnew, ← pw1, ← hTe]; rfl
    have HN2 : Hid ((prSt a F (pre ++ [x])).2 = T / 18446744073709551616) := by unfold Hid; rw [hnew, ← hTe]; rfl
    clear hTe hnew hT hTT pw1 hok1 hok2 hI0 hbox HOK HF
    obtain ⟨v, hv⟩ : ∃ v : Nat, v = T / 115792089237316195423570985008687907853269984665640564039457584007913129639936 := ⟨_, rfl⟩
    rw [← hv] at pw2 HP
    have hnumS : num (T % 115792089237316195423570985008687907853269984665640564039457584007913129639936) = #[.int .u64 (dig (T % 115792089237316195423570985008687907853269984665640564039457584007913129639936) 0), .int .u64 (dig (T % 115792089237316195423570985008687907853269984665640564039457584007913129639936) 1), .int .u64 (dig (T % 115792089237316195423570985008687907853269984665640564039457584007913129639936) 2), .int .u64 (dig (T % 115792089237316195423570985008687907853269984665640564039457584007913129639936) 3)] := rfl
    have HIS : Hid (IsNum #[.int .u64 (dig (T % 115792089237316195423570985008687907853269984665640564039457584007913129639936) 0), .int .u64 (dig (T % 115792089237316195423570985008687907853269984665640564039457584007913129639936) 1), .int .u64 (dig (T % 115792089237316195423570985008687907853269984665640564039457584007913129639936) 2), .int .u64 (dig (T % 115792089237316195423570985008687907853269984665640564039457584007913129639936) 3)]) := Lib.hid (isNum (T % 115792089237316195423570985008687907853269984665640564039457584007913129639936))
    rw [hnumS] at HP
    clear hnumS
    generalize dig (T % 115792089237316195423570985008687907853269984665640564039457584007913129639936) 0 = s0 at *
    generalize dig (T % 115792089237316195423570985008687907853269984665640564039457584007913129639936) 1 = s1 at *
    generalize dig (T % 115792089237316195423570985008687907853269984665640564039457584007913129639936) 2 = s2 at *
    generalize dig (T % 115792089237316195423570985008687907853269984665640564039457584007913129639936) 3 = s3 at *
    have HH := Lib.hid pw2
    have H2 := Lib.hid h2
    have H4 := Lib.hid h4
    have H5 := Lib.hid h5
    have HB := Lib.hid hbl
    clear pw2 h2 h4 h5 hbl hv
    obtain ⟨rh, hrh⟩ : ∃ rh, Hid (rh = num (prSt a F pre).2) := ⟨_, Lib.hid rfl⟩
    rw [← hrh.out] at HP HL5
    have HIH : Hid (IsNum #[.int .u64 (s1 : Int), .int .u64 (s2 : Int), .int .u64 (s3 : Int), .int .u64 (v : Int)]) := by rw [← HH.out]; exact Lib.hid (isNum _)
    generalize F x.1 = y at *
    gi_wp2_with (first | (refine wpListIn_run rfl rfl rfl _ (exec_load_of _ 36 (.tmp 5) rfl ⟨w.heap.size + 1 + 1 + 1, 0, none⟩ rfl _ HL5.out) ?_) | (refine wpListIn_run rfl rfl rfl _ (exec_load_of _ 36 (.tmp 2) rfl ⟨w.heap.size, 0, none⟩ rfl _ HL2.out) ?_))
    refine ⟨trivial, ?_⟩
    refine (CallsIn.inRound l (callsIn_wide.2 (HP.out _))).mono ?_
    rintro e w1 ⟨rfl, hb1⟩
    have R2 := Lib.hid (H2.out.below hb1)
    have R4 := Lib.hid (H4.out.below hb1)
    have R5 := Lib.hid (H5.out.below hb1)
    have HK1 := Lib.hid (keeps_of_below hb1)
    have HB1 := Lib.hid (HB.out.trans (hb1.mono hszW))
    have c4 : w1.cell? ⟨w.heap.size + 1 + 1, x.1, none⟩ = some _ := R4.out.cell x.1 hx4
    have f4 : w1.frozen? ⟨w.heap.size + 1 + 1, x.1, none⟩ = false := R4.out.free x.1
    have z1 : w.heap.size + 1 + 1 < w1.heap.size := R4.out.lt
    have z2 : w.heap.size + 1 + 1 + 1 < w1.heap.size := R5.out.lt
    have z3 : w.heap.size < w1.heap.size := R2.out.lt
    have y1 : ¬ w.heap.size + 1 + 1 = w1.heap.size := by omega
    have y2 : ¬ w1.heap.size = w.heap.size + 1 + 1 := by omega
    have y3 : ¬ w.heap.size + 1 + 1 + 1 = w1.heap.size := by omega
    have y4 : ¬ w1.heap.size = w.heap.size + 1 + 1 + 1 := by omega
    have HG5 : Hid (((w1.setCell ⟨w.heap.size + 1 + 1, x.1, none⟩ (.int .u64 (s0 : Int))).alloc (.cells #[.int .u64 (s0 : Int), .int .u64 (s1 : Int), .int .u64 (s2 : Int), .int .u64 (s3 : Int)] 36)).heap[w.heap.size + 1 + 1 + 1]? = some (.cells (num (prSt a F pre).2) 36 (0, 0))) := Lib.hid (Row.alloc (Row.other R5.out _ _ (by show w.heap.size + 1 + 1 + 1 ≠ w.heap.size + 1 + 1; omega)) _)
    have HS5 : Hid ((num (prSt a F pre).2).size = 4) := Lib.hid (rowOf_size _ _ _)
    clear HP HL5 HL2 H2 H4 H5 HB hb1 hszW hl5 hl4 hl2
    gi_wp2_with (first | (refine wpListIn_run rfl rfl rfl _ (exec_alloc_agg _ 36 rfl _ (zero24 _)) ?_) | (refine wpListIn_run0 rfl rfl rfl (exec_new24 _ (.tmp 8) (.tmp 19) rfl _ _ rfl _ HIS.out rfl (rowOf_size _ _ _)) ?_) | (refine wpListIn_run0 rfl rfl rfl (exec_store24 _ (.tmp 5) (.tmp 32) rfl (w.heap.size + 1 + 1 + 1) rfl _ HIH.out rfl _ 36 HG5.out HS5.out) ?_))
    have hA : Row ((w1.setCell ⟨w.heap.size + 1 + 1, x.1, none⟩ (.int .u64 (s0 : Int))).alloc (.cells #[.int .u64 (s0 : Int), .int .u64 (s1 : Int), .int .u64 (s2 : Int), .int .u64 (s3 : Int)] 36)) w.heap.size 36 .u64 4 (dig a) := Row.alloc (Row.other R2.out _ _ (by show w.heap.size ≠ w.heap.size + 1 + 1; omega)) _
    have hB4 : Row ((w1.setCell ⟨w.heap.size + 1 + 1, x.1, none⟩ (.int .u64 (s0 : Int))).alloc (.cells #[.int .u64 (s0 : Int), .int .u64 (s1 : Int), .int .u64 (s2 : Int), .int .u64 (s3 : Int)] 36)) (w.heap.size + 1 + 1) 36 .u64 4 (prSt a F (pre ++ [x])).1 := by rw [HN1.out]; exact Row.alloc (Row.set R4.out x.1 s0) _
    have hC : Row ((w1.setCell ⟨w.heap.size + 1 + 1, x.1, none⟩ (.int .u64 (s0 : Int))).alloc (.cells #[.int .u64 (s0 : Int), .int .u64 (s1 : Int), .int .u64 (s2 : Int), .int .u64 (s3 : Int)] 36)) (w.heap.size + 1 + 1 + 1) 36 .u64 4 (dig (prSt a F pre).2) := Row.alloc (Row.other R5.out _ _ (by show w.heap.size + 1 + 1 + 1 ≠ w.heap.size + 1 + 1; omega)) _
    have hKp : KeepsOthers W ((w1.setCell ⟨w.heap.size + 1 + 1, x.1, none⟩ (.int .u64 (s0 : Int))).alloc (.cells #[.int .u64 (s0 : Int), .int .u64 (s1 : Int), .int .u64 (s2 : Int), .int .u64 (s3 : Int)] 36)) := (HK1.out.trans (KeepsOthers.setCell _ _ _)).trans (KeepsOthers.alloc _ _)
    have hBl : Below w.heap.size w ((w1.setCell ⟨w.heap.size + 1 + 1, x.1, none⟩ (.int .u64 (s0 : Int))).alloc (.cells #[.int .u64 (s0 : Int), .int .u64 (s1 : Int), .int .u64 (s2 : Int), .int .u64 (s3 : Int)] 36)) := (HB1.out.setCell (p := ⟨w.heap.size + 1 + 1, x.1, none⟩) (by show w.heap.size ≤ w.heap.size + 1 + 1; omega) _).alloc (by simp [World.setCell]; omega) _
    generalize (w1.setCell ⟨w.heap.size + 1 + 1, x.1, none⟩ (.int .u64 (s0 : Int))).alloc (.cells #[.int .u64 (s0 : Int), .int .u64 (s1 : Int), .int .u64 (s2 : Int), .int .u64 (s3 : Int)] 36) = W5 at *
    refine ⟨hKp.trans (keeps_setRow hC), trivial, ⟨(setRow_other _ _ _ _ (by omega)).trans hA, (setRow_other _ _ _ _ (by omega)).trans hB4, ?_⟩, hBl.trans ⟨rfl, rfl, rfl, by simp, fun j hj => setRow_other _ _ _ _ (by omega)⟩⟩
    rw [HN2.out]
    unfold Row
    rw [show (rowOf .u64 4 (dig (T / 18446744073709551616))).toArray = num (T / 18446744073709551616) from rfl, HH.out]
    exact setRow_heap _ _ _ _ _ _ hC
  case done =>
    rintro D xs W hD rfl ⟨⟨h2, h4, h5⟩, hbl⟩ hK
    obtain ⟨S, hS⟩ : ∃ S, Hid (S = prSt a F (List.finRange 4)) := ⟨_, Lib.hid rfl⟩
    rw [← hS.out] at h4 h5
    obtain ⟨A4, hA4⟩ : ∃ A4, Hid (A4 = (rowOf .u64 4 S.1).toArray) := ⟨_, Lib.hid rfl⟩
    obtain ⟨A5, hA5⟩ : ∃ A5, Hid (A5 = num S.2) := ⟨_, Lib.hid rfl⟩
    have I4 : Hid (IsNum A4) := by unfold Hid; rw [hA4.out]; exact ⟨_, rfl⟩
    have I5 : Hid (IsNum A5) := by unfold Hid; rw [hA5.out]; exact isNum _
    have r4 : W.drew.heap[w.heap.size + 1 + 1]? = some (.cells A4 36 (0, 0)) := by rw [hA4.out]; exact h4
    have r5 : W.drew.heap[w.heap.size + 1 + 1 + 1]? = some (.cells A5 36 (0, 0)) := by rw [hA5.out]; exact h5
    have s4 : A4.size = 4 := by rw [hA4.out]; exact rowOf_size _ _ _
    have s5 : A5.size = 4 := by rw [hA5.out]; exact rowOf_size _ _ _
    gi_wp2
    refine wpIn_nrm ?_
    refine wpIn_region_any (by kernel_rfl) ?_
    change wpAnyIn _ _ _ _ _ _ _ _ _ (World.drew _)
    refine anyIn_of_G (T := fun i => i == 0 || i == 1) (S := fun i w2 => (i = 0 → (loadVar 36 ⟨w.heap.size + 1 + 1, 0, none⟩).run Tryz.prog w2 = .ok (.agg A4) w2) ∧ (i = 1 → (loadVar 36 ⟨w.heap.size + 1 + 1 + 1, 0, none⟩).run Tryz.prog w2 = .ok (.agg A5) w2)) _ _ _ _ ?_
    refine AnyG.take 0 (some 33) (.load 36 (.tmp 4)) (.agg A4) rfl rfl (fun _ e => by cases e) (by kernel_rfl) (by kernel_rfl) (by kernel_rfl) (by kernel_rfl) rfl (fun _ _ _ h => h) (fun o ho w2 hw => exec_load_of _ 36 (.tmp 4) ho ⟨w.heap.size + 1 + 1, 0, none⟩ rfl _ (hw.1 rfl)) ⟨fun _ => loadA I4.out r4, fun e => (by cases e)⟩ ?_
    simp only [Act.put, sT, sS, sZ]
    refine AnyG.take 1 (some 34) (.load 36 (.tmp 5)) (.agg A5) rfl rfl (fun _ e => by cases e) (by kernel_rfl) (by kernel_rfl) (by kernel_rfl) (by kernel_rfl) rfl (fun _ _ _ h => h) (fun o ho w2 hw => exec_load_of _ 36 (.tmp 5) ho ⟨w.heap.size + 1 + 1 + 1, 0, none⟩ rfl _ (hw.2 rfl)) ⟨fun e => (by cases e), fun _ => loadA I5.out r5⟩ ?_
    simp only [Act.put, sT, sS, sZ]
    have q4 : (W.drew.setRow (w.heap.size + 1 + 1) A4).heap[w.heap.size + 1 + 1]? = some (.cells A4 36 (0, 0)) := setRow_heap _ _ _ _ _ _ r4
    have q5 : (W.drew.setRow (w.heap.size + 1 + 1) A4).heap[w.heap.size + 1 + 1 + 1]? = some (.cells A5 36 (0, 0)) := (setRow_other _ _ _ _ (by omega)).trans r5
    have p4 : ((W.drew.setRow (w.heap.size + 1 + 1) A4).setRow (w.heap.size + 1 + 1 + 1) A5).heap[w.heap.size + 1 + 1]? = some (.cells A4 36 (0, 0)) := (setRow_other _ _ _ _ (by omega)).trans q4
    have p5 : ((W.drew.setRow (w.heap.size + 1 + 1) A4).setRow (w.heap.size + 1 + 1 + 1) A5).heap[w.heap.size + 1 + 1 + 1]? = some (.cells A5 36 (0, 0)) := setRow_heap _ _ _ _ _ _ q5
    refine AnyG.ready (rs := [2]) (by kernel_rfl) (by simp) (ReadyG.skip (w2 := W.drew.setRow (w.heap.size + 1 + 1) A4) (.store 36 (.tmp 4) (.tmp 33)) rfl rfl (fun _ e => by cases e) (fun o ho => exec_store24 W.drew (.tmp 4) (.tmp 33) ho (w.heap.size + 1 + 1) rfl A4 I4.out rfl _ 36 r4 s4) rfl ?hk ?_ ReadyG.nil)
    case hk =>
      intro x _ _ _
      exact ⟨fun _ => loadA I4.out q4, fun _ => loadA I5.out q5⟩
    refine AnyG.ready (rs := [3]) (by kernel_rfl) (by simp) (ReadyG.skip (w2 := (W.drew.setRow (w.heap.size + 1 + 1) A4).setRow (w.heap.size + 1 + 1 + 1) A5) (.store 36 (.tmp 5) (.tmp 34)) rfl rfl (fun _ e => by cases e) (fun o ho => exec_store24 _ (.tmp 5) (.tmp 34) ho (w.heap.size + 1 + 1 + 1) rfl A5 I5.out rfl _ 36 q5 s5) rfl ?hk2 ?_ ReadyG.nil)
    case hk2 =>
      intro x _ _ _
      exact ⟨fun _ => loadA I4.out p4, fun _ => loadA I5.out p5⟩
    refine AnyG.done (by kernel_rfl) ?_ _
    refine nrm_intro ?_
    have hK2 : ((W.drew.setRow (w.heap.size + 1 + 1) A4).setRow (w.heap.size + 1 + 1 + 1) A5).heap[D]? = some (.deferred (some [])) := (setRow_other _ _ _ _ (by omega)).trans ((setRow_other _ _ _ _ (by omega)).trans hK)
    have HB : Hid (Below w.heap.size w ((W.drew.setRow (w.heap.size + 1 + 1) A4).setRow (w.heap.size + 1 + 1 + 1) A5)) := Lib.hid (hbl.trans ⟨rfl, rfl, rfl, by simp, fun k hk => (setRow_other _ _ _ _ (by omega)).trans (setRow_other _ _ _ _ (by omega))⟩)
    clear q4 q5
    generalize (W.drew.setRow (w.heap.size + 1 + 1) A4).setRow (w.heap.size + 1 + 1 + 1) A5 = W2 at *
    gi_wp2
    refine ⟨by simp, .inl ⟨_, _, rfl, run_takeDeferred hK2, ?_⟩⟩
    have t4 : (W2.putObj D (.deferred none)).heap[w.heap.size + 1 + 1]? = some (.cells A4 36 (0, 0)) := (World.putObj_heap_other (by omega)).trans p4
    have t5 : (W2.putObj D (.deferred none)).heap[w.heap.size + 1 + 1 + 1]? = some (.cells A5 36 (0, 0)) := (World.putObj_heap_other (by omega)).trans p5
    refine ⟨_, results_cells2 rfl _ _ _ ⟨w.heap.size + 1 + 1, 0, none⟩ ⟨w.heap.size + 1 + 1 + 1, 0, none⟩ rfl rfl _ _ (loadA I4.out t4) (loadA I5.out t5), ?_, HB.out.trans (belowK_b (w := w) (Nat.le_refl _) W2 D _ _ (by omega) hK2 rfl rfl)⟩
    rw [← hS.out, hA4.out, hA5.out]
  case stop =>
    rintro D c pre W _ _ h _
    exact h.elim
end Go.Proofs.YtdajmekliodmcaaGreatDoor.P8
namespace Go.Proofs.YtdajmekliodmcaaGreatDoor.P8
set_option linter.unusedSimpArgs false
open Go.RowKit
set_option linter.unusedVariables false
section
variable {P : Program} {ops : Array Oper} {Q : Exit → Act → World → Prop} {md : Region.Mode} {S : World → Prop} {f : Nat}
def AnyF (P : Program) (md : Region.Mode) (ops : Array Oper) (Q : Exit → Act → World → Prop) (S : World → Prop) (f : Nat) : Nat → Array Bool → Act → World → Prop
  | 0, listed, a, w => Region.ready md ops listed = [] ∧ Q .normal a w
  | n + 1, listed, a, w => (Region.ready md ops listed = [] → Q .normal a w) ∧
    ∀ i ∈ Region.ready md ops listed, wpOp P ops Q i (fun a' w' => (i ≠ f → S w' ∧ AnyF P md ops Q S f n (listed.setIfInBounds i true) a' w') ∧ (i = f → wpAny P md ops Q n (listed.setIfInBounds i true) a' w')) a w
theorem any_of_F : ∀ (n : Nat) (listed : Array Bool) (a : Act) (w : World), AnyF P md ops Q S f n listed a w → wpAny P md ops Q n listed a w
  | 0, _, _, _, h => h
  | n + 1, _, _, _, h => ⟨h.1, fun i hi => wpOp_mono (fun a' w' h' => (by by_cases e : i = f; exact h'.2 e; exact any_of_F n _ a' w' (h'.1 e).2)) (h.2 i hi)⟩
theorem AnyF.first {i : Nat} {oi : Oper} {v : Value} (hi : ops[i]? = some oi) (hsel : ∀ (j : Nat) (o : Oper) cs b, ops[j]? = some o → o.op ≠ .select cs b)
    (hQ : ∀ c a w, Q (.panic c) (a.put oi.dst v) w → Q (.panic c) a w) (hif : i ≠ f) (hw : ∀ o, ops[f]? = some o → ∃ e ∈ o.after, Region.binds md e = true ∧ e.on = i) :
    ∀ (n : Nat) (listed : Array Bool) (a : Act) (w : World),
      (∀ j oj, ops[j]? = some oj → j ≠ i → listed.getD j true = false → (∀ e ∈ oj.after, Region.binds md e = true → e.on ≠ i) → oi.apart ops oj = true) →
      i ∈ Region.ready md ops listed → YieldsIf P ops S oi v a → S w → AnyF P md ops Q S f n (listed.setIfInBounds i true) (a.put oi.dst v) w → AnyF P md ops Q S f (n + 1) listed a w := by
  intro n
  induction n with
  | zero =>
    intro listed a w _ hr hy hS H
    refine ⟨fun h => (by rw [h] at hr; cases hr), fun j hj => ?_⟩
    by_cases hji : j = i
    · subst hji; exact hy.wpOp hi hS ⟨fun _ => ⟨hS, H⟩, fun e => absurd e hif⟩
    · have := ready_mono hj hji
      rw [H.1] at this
      cases this
  | succ n ih =>
    intro listed a w hfree hr hy hS H
    refine ⟨fun h => (by rw [h] at hr; cases hr), fun j hj => ?_⟩
    by_cases hji : j = i
    · subst hji; exact hy.wpOp hi hS ⟨fun _ => ⟨hS, H⟩, fun e => absurd e hif⟩
    · have h1 := H.2 j (ready_mono hj hji)
      obtain ⟨hjun, oj, hoj, hall⟩ := mem_ready.1 hj
      have hnot : ∀ e ∈ oj.after, Region.binds md e = true → e.on ≠ i := fun e he hb heq => by
        have h1 := hall e he hb
        have h0 := (mem_ready.1 hr).1
        rw [heq] at h1
        rcases Nat.lt_or_ge i listed.size with h' | h'
        · simp [h'] at h0 h1; rw [h0] at h1; cases h1
        · simp [Array.getElem?_eq_none h'] at h1
      have hjf : j ≠ f := by
        intro e
        subst e
        obtain ⟨e, he, hb, hon⟩ := hw oj hoj
        exact hnot e he hb hon
      have h2 := wpOp_putIf hoj (hfree j oj hoj hji hjun hnot) (fun cs b => hsel i oi cs b hi) (fun cs b => hsel j oj cs b hoj) hQ hy h1
      have hfree' : ∀ k ok, ops[k]? = some ok → k ≠ i → (listed.setIfInBounds j true).getD k true = false →
          (∀ e ∈ ok.after, Region.binds md e = true → e.on ≠ i) → oi.apart ops ok = true := fun k ok hk hki hun hno => by
        refine hfree k ok hk hki ?_ hno
        by_cases hjk : j = k
        · subst hjk; exact hjun
        · rw [getD_set_ne true hjk] at hun; exact hun
      refine wpOp_mono (fun a' w' h3 => ⟨fun _ => ⟨(h3.2.1 hjf).1, ih (listed.setIfInBounds j true) a' w' hfree' (ready_mono hr (Ne.symm hji)) h3.1 (h3.2.1 hjf).1 ?_⟩, fun e => absurd e hjf⟩) h2
      rw [Array.setIfInBounds_comm _ _ hji]
      exact (h3.2.1 hjf).2
variable {n : Nat} {listed : Array Bool} {a : Act} {w w2 : World} {i : Nat} {rs : List Nat}
theorem AnyF.take (i : Nat) (d : Option Tmp) (opr : Op) (v : Value) (ho : (ops[i]?).map (fun o => (o.dst, o.op, o.guard)) = some (d, opr, none)) (hs : Region.noSelect ops = true) (hf : Region.free md ops listed i = true) (hr : (Region.ready md ops listed).contains i = true)
    (hQ : ∀ c a w, Q (.panic c) (a.put d v) w → Q (.panic c) a w) (hif : (i == f) = false) (hwt : Region.waitsFor md ops f i = true) (hy : ∀ (o : Oper), o.op = opr → ∀ w, S w → (execOp a.eval o).run P w = .ok (.value v) w) (hS : S w)
    (h : AnyF P md ops Q S f n (listed.setIfInBounds i true) (a.put d v) w) : AnyF P md ops Q S f (n + 1) listed a w := by
  cases hq : ops[i]? with
  | none => simp [hq] at ho
  | some o =>
    simp [hq] at ho
    obtain ⟨rfl, rfl, hg⟩ := ho
    refine AnyF.first hq (Region.noSelect_spec hs) hQ (by simpa using hif) ?_ n listed a w (Region.free_spec hq hf) (by simpa using hr) (Or.inl ⟨by simp [Region.wanted, hg], hy o rfl⟩) hS h
    intro o2 ho2
    obtain ⟨oj, h1, e, h2, h3, h4⟩ := Region.waitsFor_spec hwt
    rw [ho2] at h1
    cases h1
    exact ⟨e, h2, h3, h4⟩
theorem F_of_any : ∀ (n : Nat) (listed : Array Bool) (a : Act) (w : World), wpAny P md ops Q n listed a w → AnyF P md ops Q (fun _ => True) f n listed a w
  | 0, _, _, _, h => h
  | n + 1, _, _, _, h => ⟨h.1, fun i hi => wpOp_mono (fun a' w' h' => ⟨fun _ => ⟨trivial, F_of_any n _ a' w' h'⟩, fun _ => h'⟩) (h.2 i hi)⟩
theorem AnyF.first0 {i g : Nat} {oi : Oper} {v : Value} (hi : ops[i]? = some oi) (hsel : ∀ (j : Nat) (o : Oper) cs b, ops[j]? = some o → o.op ≠ .select cs b)
    (hQ : ∀ c a w, Q (.panic c) (a.put oi.dst v) w → Q (.panic c) a w) (hif : i ≠ f) (hg : ops[g]? = none) :
    ∀ (n : Nat) (listed : Array Bool) (a : Act) (w : World),
      (∀ j oj, ops[j]? = some oj → j ≠ i → listed.getD j true = false → (∀ e ∈ oj.after, Region.binds md e = true → e.on ≠ i) → oi.apart ops oj = true) →
      i ∈ Region.ready md ops listed → YieldsIf P ops (fun _ => True) oi v a → S w → AnyF P md ops Q S f n (listed.setIfInBounds i true) (a.put oi.dst v) w → AnyF P md ops Q S f (n + 1) listed a w := by
  intro n
  induction n with
  | zero =>
    intro listed a w _ hr hy hS H
    refine ⟨fun h => (by rw [h] at hr; cases hr), fun j hj => ?_⟩
    by_cases hji : j = i
    · subst hji; exact hy.wpOp hi trivial ⟨fun _ => ⟨hS, H⟩, fun e => absurd e hif⟩
    · have := ready_mono hj hji
      rw [H.1] at this
      cases this
  | succ n ih =>
    intro listed a w hfree hr hy hS H
    refine ⟨fun h => (by rw [h] at hr; cases hr), fun j hj => ?_⟩
    by_cases hji : j = i
    · subst hji; exact hy.wpOp hi trivial ⟨fun _ => ⟨hS, H⟩, fun e => absurd e hif⟩
    · have h1 := H.2 j (ready_mono hj hji)
      obtain ⟨hjun, oj, hoj, hall⟩ := mem_ready.1 hj
      have hnot : ∀ e ∈ oj.after, Region.binds md e = true → e.on ≠ i := fun e he hb heq => by
        have h1 := hall e he hb
        have h0 := (mem_ready.1 hr).1
        rw [heq] at h1
        rcases Nat.lt_or_ge i listed.size with h' | h'
        · simp [h'] at h0 h1; rw [h0] at h1; cases h1
        · simp [Array.getElem?_eq_none h'] at h1
      have h2 := wpOp_putIf hoj (hfree j oj hoj hji hjun hnot) (fun cs b => hsel i oi cs b hi) (fun cs b => hsel j oj cs b hoj) hQ hy h1
      have hfree' : ∀ k ok, ops[k]? = some ok → k ≠ i → (listed.setIfInBounds j true).getD k true = false →
          (∀ e ∈ ok.after, Region.binds md e = true → e.on ≠ i) → oi.apart ops ok = true := fun k ok hk hki hun hno => by
        refine hfree k ok hk hki ?_ hno
        by_cases hjk : j = k
        · subst hjk; exact hjun
        · rw [getD_set_ne true hjk] at hun; exact hun
      have hig : i ≠ g := fun e => by rw [← e, hi] at hg; cases hg
      refine wpOp_mono (fun a' w' h3 => ⟨fun hjf => ⟨(h3.2.1 hjf).1, ih (listed.setIfInBounds j true) a' w' hfree' (ready_mono hr (Ne.symm hji)) h3.1 (h3.2.1 hjf).1 ?_⟩, fun hjf => ?_⟩) h2
      · rw [Array.setIfInBounds_comm _ _ hji]
        exact (h3.2.1 hjf).2
      · refine any_of_F (S := fun _ => True) (f := g) _ _ _ _ (AnyF.first hi hsel hQ hig (fun o ho => by rw [hg] at ho; cases ho) n (listed.setIfInBounds j true) a' w' hfree' (ready_mono hr (Ne.symm hji)) h3.1 trivial (F_of_any _ _ _ _ ?_))
        rw [Array.setIfInBounds_comm _ _ hji]
        exact h3.2.2 hjf
theorem AnyF.take0 {n : Nat} {listed : Array Bool} {a : Act} {w : World} (i g : Nat) (d : Option Tmp) (opr : Op) (v : Value) (ho : (ops[i]?).map (fun o => (o.dst, o.op, o.guard)) = some (d, opr, none)) (hs : Region.noSelect ops = true) (hf : Region.free md ops listed i = true) (hr : (Region.ready md ops listed).contains i = true)
    (hQ : ∀ c a w, Q (.panic c) (a.put d v) w → Q (.panic c) a w) (hif : (i == f) = false) (hg : ops[g]? = none) (hy : ∀ (o : Oper), o.op = opr → ∀ w, (execOp a.eval o).run P w = .ok (.value v) w) (hS : S w)
    (h : AnyF P md ops Q S f n (listed.setIfInBounds i true) (a.put d v) w) : AnyF P md ops Q S f (n + 1) listed a w := by
  cases hq : ops[i]? with
  | none => simp [hq] at ho
  | some o =>
    simp [hq] at ho
    obtain ⟨rfl, rfl, hgd⟩ := ho
    exact AnyF.first0 hq (Region.noSelect_spec hs) hQ (by simpa using hif) hg n listed a w (Region.free_spec hq hf) (by simpa using hr) (Or.inl ⟨by simp [Region.wanted, hgd], fun w _ => hy o rfl w⟩) hS h
def ReadyF (P : Program) (md : Region.Mode) (ops : Array Oper) (Q : Exit → Act → World → Prop) (S : World → Prop) (f n : Nat) (listed : Array Bool) (a : Act) (w : World) (rs : List Nat) : Prop :=
  ∀ i ∈ rs, wpOp P ops Q i (fun a' w' => (i ≠ f → S w' ∧ AnyF P md ops Q S f n (listed.setIfInBounds i true) a' w') ∧ (i = f → wpAny P md ops Q n (listed.setIfInBounds i true) a' w')) a w
theorem AnyF.ready (hr : Region.ready md ops listed = rs) (hne : rs ≠ []) (h : ReadyF P md ops Q S f n listed a w rs) : AnyF P md ops Q S f (n + 1) listed a w :=
  ⟨fun h0 => absurd (hr ▸ h0) hne, hr ▸ h⟩
theorem AnyF.done (hr : Region.ready md ops listed = []) (h : Q .normal a w) : ∀ n, AnyF P md ops Q S f n listed a w
  | 0 => ⟨hr, h⟩
  | _ + 1 => ⟨fun _ => h, by rw [hr]; simp⟩
theorem any_doneF (hr : Region.ready md ops listed = []) (h : Q .normal a w) (n : Nat) : wpAny P md ops Q n listed a w := any_of_F (S := fun _ => True) (f := 0) _ _ _ _ (AnyF.done hr h n)
theorem ReadyF.nil : ReadyF P md ops Q S f n listed a w [] := fun _ h => by cases h
theorem ReadyF.cons {o : Oper} (ho : ops[i]? = some o) (hg : o.guard = none)
    (h : ∀ K : Act → World → Prop, (∀ a' w', (i ≠ f → S w' ∧ AnyF P md ops Q S f n (listed.setIfInBounds i true) a' w') ∧ (i = f → wpAny P md ops Q n (listed.setIfInBounds i true) a' w') → K a' w') → Oper.wp P o a w K Q) (hs : ReadyF P md ops Q S f n listed a w rs) : ReadyF P md ops Q S f n listed a w (i :: rs) := fun j hj => by
  rcases List.mem_cons.1 hj with rfl | hj
  · refine wpOp_step ho (fun K hK => ?_)
    rw [if_pos (by simp [Region.wanted, hg])]
    exact h K hK
  · exact hs j hj
theorem ReadyF.op (d : Option Tmp) (opr : Op) (ho : (ops[i]?).map (fun o => (o.dst, o.op, o.guard)) = some (d, opr, none)) (v : Value)
    (hrun : ∀ o : Oper, o.op = opr → (execOp a.eval o).run P w = .ok (.value v) w2) (hS : S w2) (h : AnyF P md ops Q S f n (listed.setIfInBounds i true) (a.put d v) w2)
    (hs : ReadyF P md ops Q S f n listed a w rs) (hif : i ≠ f := by decide) : ReadyF P md ops Q S f n listed a w (i :: rs) := by
  cases hq : ops[i]? with
  | none => simp [hq] at ho
  | some o =>
    simp [hq] at ho
    obtain ⟨rfl, rfl, hg⟩ := ho
    exact ReadyF.cons hq hg (fun K hK => by unfold Oper.wp; rw [hrun o rfl]; exact hK _ _ ⟨fun _ => ⟨hS, h⟩, fun e => absurd e hif⟩) hs
theorem ReadyF.last (opr : Op) (ho : (ops[f]?).map (fun o => (o.dst, o.op, o.guard)) = some (none, opr, none))
    (hrun : ∀ o : Oper, o.op = opr → (execOp a.eval o).run P w = .ok .skip w2) (h : wpAny P md ops Q n (listed.setIfInBounds f true) a w2)
    (hs : ReadyF P md ops Q S f n listed a w rs) : ReadyF P md ops Q S f n listed a w (f :: rs) := by
  cases hq : ops[f]? with
  | none => simp [hq] at ho
  | some o =>
    simp [hq] at ho
    obtain ⟨hd, rfl, hg⟩ := ho
    refine ReadyF.cons hq hg (fun K hK => ?_) hs
    unfold Oper.wp
    rw [hrun o rfl]
    have : a.put o.dst undef = a := by rw [hd]; rfl
    have h2 : K a w2 := hK _ _ ⟨fun e => absurd rfl e, fun _ => h⟩
    rw [← this] at h2
    exact h2
theorem ReadyF.call (d : Option Tmp) (g : FuncId) (args : Array Operand) (tys : Array TypeId) (ho : (ops[i]?).map (fun o => (o.dst, o.op, o.guard)) = some (d, .call { callee := .value (.func g), args := args, argTypes := tys }, none))
    (avs : Array Value) (has : args.map a.eval = avs) (eg : ∀ args w, (callFunc g args).run P w = .ok (.enter g args) w) (R : Ending → World → Prop) (hc : Calls P g avs w R)
    (hK : ∀ v w', R (.returned v) w' → S w' ∧ AnyF P md ops Q S f n (listed.setIfInBounds i true) (a.put d v) w') (hnp : ∀ c w', ¬ R (.panicked c) w') (hno : ∀ w', ¬ R .outgrown w')
    (hs : ReadyF P md ops Q S f n listed a w rs) (hif : i ≠ f := by decide) : ReadyF P md ops Q S f n listed a w (i :: rs) := by
  cases hq : ops[i]? with
  | none => simp [hq] at ho
  | some o =>
    simp [hq] at ho
    obtain ⟨rfl, hop, hg⟩ := ho
    refine ReadyF.cons hq hg (fun K hK2 => ?_) hs
    have hev : a.eval (.func g) = .func (.func g) #[] #[] := rfl
    have hres : (resolve a.eval { callee := .value (.func g), args := args, argTypes := tys } o.type).run P w = .ok { target := .fn (.func g) #[], args := avs } w := by
      simp [resolve, hev, has, Deferred.ofValue]
    have hx : (execOp a.eval o).run P w = .ok (.enter g avs) w := by
      unfold execOp
      simp only [hop, Sem.run_bind, hres, Result.andThen_ok, invoke]
      simp [eg]
    unfold Oper.wp
    rw [hx]
    refine hc.mono ?_
    intro e w' hr
    cases e with
    | returned v => exact hK2 _ _ ⟨fun _ => hK v w' hr, fun e => absurd e hif⟩
    | panicked c => exact (hnp c w' hr).elim
    | outgrown => exact (hno w' hr).elim
end
section
variable {P : Program} {ops : Array Oper} {Q : Exit → Act → World → Prop} {md : Region.Mode} {S : World → Prop} {f n : Nat} {listed : Array Bool} {a : Act} {w w2 : World} {rs : List Nat}
theorem tkL (i : Nat) (d : Option Tmp) (opr : Op) (v : Value) (hy : ∀ (o : Oper), o.op = opr → ∀ w, S w → (execOp a.eval o).run P w = .ok (.value v) w) (hS : S w) (h : AnyF P md ops Q S f n (listed.setIfInBounds i true) (a.put d v) w)
    (ho : (ops[i]?).map (fun o => (o.dst, o.op, o.guard)) = some (d, opr, none) := by rfl) (hs : Region.noSelect ops = true := by kernel_rfl) (hf : Region.free md ops listed i = true := by kernel_rfl) (hr : (Region.ready md ops listed).contains i = true := by kernel_rfl)
    (hQ : ∀ c a w, Q (.panic c) (a.put d v) w → Q (.panic c) a w := by exact fun _ _ _ h => h) (hif : (i == f) = false := by rfl) (hwt : Region.waitsFor md ops f i = true := by kernel_rfl) : AnyF P md ops Q S f (n + 1) listed a w :=
  AnyF.take i d opr v ho hs hf hr hQ hif hwt hy hS h
theorem tk0 (i : Nat) (d : Option Tmp) (opr : Op) (v : Value) (hy : ∀ (o : Oper), o.op = opr → ∀ w, (execOp a.eval o).run P w = .ok (.value v) w) (hS : S w) (h : AnyF P md ops Q S f n (listed.setIfInBounds i true) (a.put d v) w)
    (ho : (ops[i]?).map (fun o => (o.dst, o.op, o.guard)) = some (d, opr, none) := by rfl) (hs : Region.noSelect ops = true := by kernel_rfl) (hf : Region.free md ops listed i = true := by kernel_rfl) (hr : (Region.ready md ops listed).contains i = true := by kernel_rfl)
    (hQ : ∀ c a w, Q (.panic c) (a.put d v) w → Q (.panic c) a w := by exact fun _ _ _ h => h) (hif : (i == f) = false := by rfl) (hg : ops[1000]? = none := by kernel_rfl) : AnyF P md ops Q S f (n + 1) listed a w :=
  AnyF.take0 i 1000 d opr v ho hs hf hr hQ hif hg hy hS h
theorem rdy (rs : List Nat) (h : ReadyF P md ops Q S f n listed a w rs) (hr : Region.ready md ops listed = rs := by kernel_rfl) (hne : rs ≠ [] := by simp) : AnyF P md ops Q S f (n + 1) listed a w :=
  AnyF.ready hr hne h
theorem ral {i : Nat} (d : Tmp) (ty : TypeId) {cs : Array Value} (hz : ∀ w, (zeroValue ty).run P w = .ok (.agg cs) w) (hS : S (w.alloc (.cells cs ty))) (h : AnyF P md ops Q S f n (listed.setIfInBounds i true) (a.put (some d) (.pointer (some ⟨w.heap.size, 0, none⟩))) (w.alloc (.cells cs ty)))
    (hs : ReadyF P md ops Q S f n listed a w rs) (ho : (ops[i]?).map (fun o => (o.dst, o.op, o.guard)) = some (some d, .alloc ty, none) := by rfl) (hif : i ≠ f := by decide) : ReadyF P md ops Q S f n listed a w (i :: rs) :=
  ReadyF.op (some d) (.alloc ty) ho (.pointer (some ⟨w.heap.size, 0, none⟩)) (fun o ho => exec_alloc_agg _ ty ho _ (hz _)) hS h hs hif
theorem rcl {i : Nat} (d : Option Tmp) (g : FuncId) (args : Array Operand) (tys : Array TypeId) (avs : Array Value) (eg : ∀ args w, (callFunc g args).run P w = .ok (.enter g args) w) (R : Ending → World → Prop) (hc : Calls P g avs w R)
    (hK : ∀ v w', R (.returned v) w' → S w' ∧ AnyF P md ops Q S f n (listed.setIfInBounds i true) (a.put d v) w') (hs : ReadyF P md ops Q S f n listed a w rs)
    (ho : (ops[i]?).map (fun o => (o.dst, o.op, o.guard)) = some (d, .call { callee := .value (.func g), args := args, argTypes := tys }, none) := by rfl) (has : args.map a.eval = avs := by simp [Act.eval])
    (hnp : ∀ c w', ¬ R (.panicked c) w' := by exact fun c w' h => by cases h.1) (hno : ∀ w', ¬ R .outgrown w' := by exact fun w' h => by cases h.1) (hif : i ≠ f := by decide) : ReadyF P md ops Q S f n listed a w (i :: rs) :=
  ReadyF.call d g args tys ho avs has eg R hc hK hnp hno hs hif
end
end Go.Proofs.YtdajmekliodmcaaGreatDoor.P8
namespace Go.Proofs.YtdajmekliodmcaaGreatDoor.P8
set_option linter.unusedSimpArgs false
open Go.RowKit Go.Shelf
set_option linter.unusedVariables false
theorem andNot_top (x : Nat) (hx : x < 18446744073709551616) : bits .andNot .u64 (x : Int) 9223372036854775808 = ((x % 9223372036854775808 : Nat) : Int) := by
  have h1 : (BitVec.ofInt 64 (x : Int)).toNat = x := by
    rw [BitVec.ofInt_natCast, BitVec.toNat_ofNat]; exact Nat.mod_eq_of_lt (by omega)
  show IntKind.u64.wrap ((BitVec.ofInt 64 (x : Int) &&& ~~~ BitVec.ofInt 64 9223372036854775808).toNat : Int) = _
  have h2 : (~~~ BitVec.ofInt 64 9223372036854775808).toNat = 2 ^ 63 - 1 := by decide
  rw [BitVec.toNat_and, h1, h2, Nat.and_two_pow_sub_one_eq_mod, wrap_id (by have := Nat.mod_lt x (show 0 < 2 ^ 63 by decide); omega)]
theorem num_lit (N : Nat) : num N = #[.int .u64 (dig N 0 : Int), .int .u64 (dig N 1 : Int), .int .u64 (dig N 2 : Int), .int .u64 (dig N 3 : Int)] := rfl
theorem cut_words (N : Nat) (hN : N < 115792089237316195423570985008687907853269984665640564039457584007913129639936) : num (N % 57896044618658097711785492504343953926634992332820282019728792003956564819968) = #[.int .u64 (dig N 0 : Int), .int .u64 (dig N 1 : Int), .int .u64 (dig N 2 : Int), .int .u64 ((dig N 3 % 9223372036854775808 : Nat) : Int)] := by
  have e0 : dig (N % 57896044618658097711785492504343953926634992332820282019728792003956564819968) 0 = dig N 0 := by rw [dig_0, dig_0]; omega
  have e1 : dig (N % 57896044618658097711785492504343953926634992332820282019728792003956564819968) 1 = dig N 1 := by rw [dig_1, dig_1]; omega
  have e2 : dig (N % 57896044618658097711785492504343953926634992332820282019728792003956564819968) 2 = dig N 2 := by rw [dig_2, dig_2]; omega
  have e3 : dig (N % 57896044618658097711785492504343953926634992332820282019728792003956564819968) 3 = dig N 3 % 9223372036854775808 := by rw [dig_3, dig_3]; omega
  rw [num_lit, e0, e1, e2, e3]
set_option maxRecDepth 100000 in
set_option maxHeartbeats 1000000 in
theorem cut_any (N : Nat) (hN : N < 115792089237316195423570985008687907853269984665640564039457584007913129639936) (w : World) :
    Calls Tryz.prog 159 #[.agg (num N)] w fun e w' => e = .returned (.agg (num (N % 57896044618658097711785492504343953926634992332820282019728792003956564819968))) ∧ Below w.heap.size w w' := by
  rw [cut_words N hN]
  have hb := andNot_top (dig N 3) (dig_lt N 3)
  rw [num_lit]
  generalize dig N 3 % 9223372036854775808 = m3 at *
  generalize dig N 0 = n0 at *
  generalize dig N 1 = n1 at *
  generalize dig N 2 = n2 at *
  generalize dig N 3 = n3 at *
  have hz : ∀ w : World, (zeroValue 36).run Tryz.prog w = .ok (.agg #[.int .u64 0, .int .u64 0, .int .u64 0, .int .u64 0]) w := fun w => by kernel_rfl
  clear hN
  go_enter Tryz.func159, Tryz.ntmps159
  go_wp2
  exact bodyPost_ret (v := .agg #[.int .u64 n0, .int .u64 n1, .int .u64 n2, .int .u64 m3]) (by simp [results, Tryz.results159, go_sem]) rfl ⟨rfl, by
    repeat (refine bel_alloc ?_ (by simp <;> omega) _)
    exact Below.refl _ _⟩
end Go.Proofs.YtdajmekliodmcaaGreatDoor.P8
