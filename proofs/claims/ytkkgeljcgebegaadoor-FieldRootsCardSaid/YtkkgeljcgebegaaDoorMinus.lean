/- minus of package field: a number less another one, with what was lent. No condition but that the numbers have 256 bits. -/
import Derived.Test.YtkkgeljcgebegaaDoorPlus
namespace Go.Proofs.YtkkgeljcgebegaaDoor
open Go.RowKit Go.Shelf
set_option linter.unusedVariables false
attribute [local go_sem] Oper.semAt_some

def MiI (w : World) (f a : Nat → Nat) (pre : List (Fin 4)) (W : World) : Prop :=
  (Row W w.heap.size 24 .u64 4 (miSt f a pre).1 ∧ Row W (w.heap.size + 1 + 1) 24 .u64 4 (fun _ => 0) ∧ Row W (w.heap.size + 1 + 1 + 1) 22 .u64 1 (fun _ => (miSt f a pre).2)) ∧ Below w.heap.size w W
theorem miI_own (w : World) (f a : Nat → Nat) (B : Nat) (hB : w.heap.size + 4 ≤ B) : OwnFrom B (MiI w f a) := by
  rintro s W W' row ⟨⟨h1, h3, h4⟩, h5⟩ hg hr
  exact ⟨⟨row_own h1 (by omega) hg hr, row_own h3 (by omega) hg hr, row_own h4 (by omega) hg hr⟩, below_own h5 (by omega) h5.size hg hr⟩
theorem exec_indexAddr24 {ρ : Operand → Value} {o : Oper} (x y : Operand) (ho : o.op = .indexAddr 24 x y) (b i : Nat) (hx : ρ x = .pointer (some ⟨b, 0, none⟩)) (hy : ρ y = .int .i64 (i : Int)) (hi : i < 4) (w : World) :
    (execOp ρ o).run Tryd.prog w = .ok (.value (.pointer (some ⟨b, i, none⟩))) w := by
  unfold execOp
  rw [ho]
  simp only [hx, hy]
  have h1 : (i : Int) < 4 := by omega
  go_simp
theorem exec_extract {P : Program} {ρ : Operand → Value} {o : Oper} (x : Operand) (j : Nat) (ho : o.op = .extract x j) (vs : Array Value) (v : Value) (hx : ρ x = .tuple vs) (hv : vs[j]? = some v) (w : World) :
    (execOp ρ o).run P w = .ok (.value v) w := by
  unfold execOp
  simp [ho, hx, hv, Instr.extract]
set_option maxRecDepth 100000 in
set_option maxHeartbeats 1000000 in
theorem minus_any (a b : Nat) (ha : a < 115792089237316195423570985008687907853269984665640564039457584007913129639936) (hb : b < 115792089237316195423570985008687907853269984665640564039457584007913129639936) (w : World) :
    Calls Tryd.prog 35 #[.agg (num a), .agg (num b)] w fun e w' => e = .returned (.tuple #[.agg (num ((a + 115792089237316195423570985008687907853269984665640564039457584007913129639936 - b) % 115792089237316195423570985008687907853269984665640564039457584007913129639936)), .int .u64 ((if a < b then 1 else 0 : Nat) : Int)]) ∧ Below w.heap.size w w' := by
  obtain ⟨hall1, hall2⟩ := miSt_all a b ha hb
  rw [← hall1, ← hall2]
  have HOK := Lib.hid (miSt_ok (dig b) (dig a) (dig_lt a))
  have HF := Lib.hid (dig_lt b)
  clear hall1 hall2 ha hb
  unfold num
  generalize dig a = A at *
  generalize dig b = F at *
  refine (callsIn_wide (n := 6)).1 ?_
  refine callsIn_of_wp_marks Tryd.func35 rfl trivial ?_ rfl
  simp only [Tryd.ntmps35, List.size_toArray, List.length_cons, List.length_nil, Nat.reduceAdd, Nat.reduceSub, Array.replicate_succ, Array.replicate_zero, List.push_toArray, List.append_toArray, List.nil_append, List.cons_append]
  obtain ⟨ra, hra⟩ : ∃ ra, Hid (ra = (rowOf .u64 4 A).toArray) := ⟨_, Lib.hid rfl⟩
  obtain ⟨rb, hrb⟩ : ∃ rb, Hid (rb = (rowOf .u64 4 F).toArray) := ⟨_, Lib.hid rfl⟩
  rw [← hra.out, ← hrb.out]
  gi_wp2_with (first | (refine wpListIn_run rfl rfl rfl _ (exec_alloc_agg _ 24 rfl _ (zero24 _)) ?_) | (refine wpListIn_run rfl rfl rfl _ (exec_load_of _ 24 (.tmp 3) rfl ⟨w.heap.size + 1, 0, none⟩ rfl (.agg rb) ?ld) ?_))
  case ld =>
    rw [hrb.out]
    exact load24 (by unfold Row; rw [← hrb.out]; simp only [heapA, Array.getElem?_push, Array.size_push]; (repeat (first | rw [if_pos (by first | trivial | omega)] | rw [if_neg (by omega)])))
  gi_wp2_with (refine ⟨trivial, ?_⟩; gi_at_call 39; refine (words_in _ _ _).mono ?_; rintro e w' ⟨rfl, rfl⟩)
  have hrows : ∀ W0, W0 = ((((w.alloc (.cells ra 24)).alloc (.cells rb 24)).alloc (.cells (rowOf .u64 4 fun _ => 0).toArray 24)).alloc (.cells #[.int .u64 0] 22)).alloc (.cells rb 24) →
      MiI w F A [] W0 ∧ Row W0 (w.heap.size + 1 + 1 + 1 + 1) 24 .u64 4 F ∧ W0.heap.size = w.heap.size + 5 := by
    rintro W0 rfl
    refine ⟨⟨⟨?_, ?_, ?_⟩, ?_⟩, ?_, by simp⟩
    · unfold Row; rw [hra.out]; simp only [heapA, Array.getElem?_push, Array.size_push]; (repeat (first | rw [if_pos (by first | trivial | omega)] | rw [if_neg (by omega)])); rfl
    · unfold Row; simp only [heapA, Array.getElem?_push, Array.size_push]; (repeat (first | rw [if_pos (by first | trivial | omega)] | rw [if_neg (by omega)]))
    · unfold Row; simp only [heapA, Array.getElem?_push, Array.size_push]; (repeat (first | rw [if_pos (by first | trivial | omega)] | rw [if_neg (by omega)])); rfl
    · repeat (refine bel_alloc ?_ (by simp <;> omega) _)
      exact Below.refl _ _
    · unfold Row; rw [hrb.out]; simp only [heapA, Array.getElem?_push, Array.size_push]; (repeat (first | rw [if_pos (by first | trivial | omega)] | rw [if_neg (by omega)]))
  have hrows2 := hrows _ rfl
  clear hrows
  generalize ((((w.alloc (.cells ra 24)).alloc (.cells rb 24)).alloc (.cells (rowOf .u64 4 fun _ => 0).toArray 24)).alloc (.cells #[.int .u64 0] 22)).alloc (.cells rb 24) = W0 at *
  obtain ⟨hI0, hbox, hsz0⟩ := hrows2
  refine wpIn_rangeFunc_ownF rfl (by omega) (gf := 46) (lb := #[.pointer (some ⟨w.heap.size + 1 + 1 + 1 + 1, 0, none⟩)]) rfl trivial (enters_of Tryd.func46 (by kernel_rfl) rfl) (words_stops 5 (w.heap.size + 1 + 1 + 1 + 1) F W0 hbox (by omega))
    (fun _ _ => trivial) (fun _ _ _ _ _ _ _ _ => trivial) (Below.refl _ _) (fun _ => rfl)
    (MiI w F A) (fun _ _ _ => False) (miI_own w F A _ (by omega)) (fun _ _ _ _ _ hs _ _ => hs) hI0
    (fun x => { tmps := #[.agg ra, .agg rb, .pointer (some ⟨w.heap.size, 0, none⟩), .pointer (some ⟨w.heap.size + 1, 0, none⟩), .pointer (some ⟨w.heap.size + 1 + 1, 0, none⟩), .int .u64 0, .pointer (some ⟨w.heap.size + 1 + 1 + 1, 0, none⟩), .int .i64 (x.1 : Int), .int .u64 (F x.1 : Int), .agg rb, .func (.func 46) #[] #[.pointer (some ⟨w.heap.size + 1 + 1 + 1 + 1, 0, none⟩)], .int .i64 (x.1 : Int), .int .u64 (F x.1 : Int), undef, undef, undef, undef, undef, undef, undef, undef, undef, undef, undef, undef, undef], defers := [] }) ?assign ?body ?done ?stop
  case assign =>
    intro l x W K hK
    unfold encW
    gi_wp2
    exact hK
  case body =>
    rintro l pre x W ⟨⟨h3, h6, h8⟩, hbl⟩ _
    obtain ⟨hok1, hok2⟩ := HOK.out pre
    have hx4 := x.2
    have c3 := h3.cell x.1 hx4
    have f3 := h3.free x.1
    have c8 := h8.cell 0 (by decide)
    have f8 := h8.free 0
    have hnew := miSt_snoc F A pre x
    have A1 := fun W => sub64_run ((miSt F A pre).1 x.1) (F x.1) (miSt F A pre).2 hok2 W
    have HI3 : Hid (∀ W2 : World, Row W2 w.heap.size 24 .u64 4 (miSt F A pre).1 → Row (W2.setCell ⟨w.heap.size, x.1, none⟩ (.int .u64 ((((miSt F A pre).1 x.1 + 18446744073709551616 - F x.1 - (miSt F A pre).2) % 18446744073709551616 : Nat) : Int))) w.heap.size 24 .u64 4 (miSt F A (pre ++ [x])).1) := by
      intro W2 h
      rw [hnew]
      exact h.set x.1 _
    have HI8 : Hid (∀ W2 : World, Row W2 (w.heap.size + 1 + 1 + 1) 22 .u64 1 (fun _ => (miSt F A pre).2) → Row (W2.setCell ⟨w.heap.size + 1 + 1 + 1, 0, none⟩ (.int .u64 ((if (miSt F A pre).1 x.1 < F x.1 + (miSt F A pre).2 then 1 else 0 : Nat) : Int))) (w.heap.size + 1 + 1 + 1) 22 .u64 1 (fun _ => (miSt F A (pre ++ [x])).2)) := by
      intro W2 h
      rw [hnew]
      exact (h.set 0 _).ext (fun j hj => by unfold upd; rw [if_pos (by omega)]; rfl)
    have H3 := Lib.hid h3
    have H6 := Lib.hid h6
    have H8 := Lib.hid h8
    have HB := Lib.hid hbl
    clear h3 h6 h8 hbl hok1 hok2 hnew hI0 hbox HOK HF
    obtain ⟨d, hd⟩ : ∃ d : Nat, d = ((miSt F A pre).1 x.1 + 18446744073709551616 - F x.1 - (miSt F A pre).2) % 18446744073709551616 := ⟨_, rfl⟩
    obtain ⟨v2, hv2⟩ : ∃ v2 : Nat, v2 = if (miSt F A pre).1 x.1 < F x.1 + (miSt F A pre).2 then 1 else 0 := ⟨_, rfl⟩
    rw [← hd] at HI3 A1
    rw [← hv2] at HI8 A1
    clear hd hv2
    generalize (miSt F A pre).1 x.1 = ax at *
    generalize (miSt F A pre).2 = v at *
    generalize F x.1 = y at *
    gi_wp2
    refine wpIn_region_any (by kernel_rfl) ?_
    change wpAnyIn _ _ _ _ _ _ _ _ _ (World.drew _)
    refine anyIn_unround l rfl (noDefer_spec (by kernel_rfl)) _ _ _ _ ?_
    refine anyIn_of_G (T := fun i => i < 6 || (7 ≤ i && i ≤ 10)) (S := fun i w2 => (i = 3 → w2.cell? ⟨w.heap.size, x.1, none⟩ = some (.int .u64 (ax : Int))) ∧ (i = 5 → w2.cell? ⟨w.heap.size + 1 + 1 + 1, 0, none⟩ = some (.int .u64 (v : Int)))) _ _ _ _ ?_
    refine AnyG.take 0 (some 14) (.move (.tmp 7)) (.int .i64 (x.1 : Int)) rfl rfl (fun _ e => by cases e) (by kernel_rfl) (by kernel_rfl) (by kernel_rfl) (by kernel_rfl) rfl (fun _ _ _ h => h) (fun o ho w2 hw => exec_move (.tmp 7) ho _ rfl w2) ⟨fun e => (by cases e), fun e => (by cases e)⟩ ?_
    simp only [Act.put, List.setIfInBounds_toArray, List.set_cons_succ, List.set_cons_zero]
    refine AnyG.take 1 (some 15) (.move (.tmp 7)) (.int .i64 (x.1 : Int)) rfl rfl (fun _ e => by cases e) (by kernel_rfl) (by kernel_rfl) (by kernel_rfl) (by kernel_rfl) rfl (fun _ _ _ h => h) (fun o ho w2 hw => exec_move (.tmp 7) ho _ rfl w2) ⟨fun e => (by cases e), fun e => (by cases e)⟩ ?_
    simp only [Act.put, List.setIfInBounds_toArray, List.set_cons_succ, List.set_cons_zero]
    refine AnyG.take 2 (some 16) (.indexAddr 24 (.tmp 2) (.tmp 15)) (.pointer (some ⟨w.heap.size, x.1, none⟩)) rfl rfl (fun _ e => by cases e) (by kernel_rfl) (by kernel_rfl) (by kernel_rfl) (by kernel_rfl) rfl (fun _ _ _ h => h) (fun o ho w2 hw => exec_indexAddr24 (.tmp 2) (.tmp 15) ho (w.heap.size) x.1 rfl rfl hx4 w2) ⟨fun e => (by cases e), fun e => (by cases e)⟩ ?_
    simp only [Act.put, List.setIfInBounds_toArray, List.set_cons_succ, List.set_cons_zero]
    refine AnyG.take 3 (some 17) (.load 22 (.tmp 16)) (.int .u64 (ax : Int)) rfl rfl (fun _ e => by cases e) (by kernel_rfl) (by kernel_rfl) (by kernel_rfl) (by kernel_rfl) rfl (fun _ _ _ h => h) (fun o ho w2 hw => exec_load_one w2 22 (.tmp 16) ho ⟨w.heap.size, x.1, none⟩ rfl _ (hw.1 rfl) _ Tryd.underlying22 rfl) ⟨fun _ => c3, fun e => (by cases e)⟩ ?_
    simp only [Act.put, List.setIfInBounds_toArray, List.set_cons_succ, List.set_cons_zero]
    refine AnyG.take 4 (some 18) (.move (.tmp 8)) (.int .u64 (y : Int)) rfl rfl (fun _ e => by cases e) (by kernel_rfl) (by kernel_rfl) (by kernel_rfl) (by kernel_rfl) rfl (fun _ _ _ h => h) (fun o ho w2 hw => exec_move (.tmp 8) ho _ rfl w2) ⟨fun e => (by cases e), fun e => (by cases e)⟩ ?_
    simp only [Act.put, List.setIfInBounds_toArray, List.set_cons_succ, List.set_cons_zero]
    refine AnyG.take 5 (some 19) (.load 22 (.tmp 6)) (.int .u64 (v : Int)) rfl rfl (fun _ e => by cases e) (by kernel_rfl) (by kernel_rfl) (by kernel_rfl) (by kernel_rfl) rfl (fun _ _ _ h => h) (fun o ho w2 hw => exec_load_one w2 22 (.tmp 6) ho ⟨w.heap.size + 1 + 1 + 1, 0, none⟩ rfl _ (hw.2 rfl) _ Tryd.underlying22 rfl) ⟨fun e => (by cases e), fun _ => c8⟩ ?_
    simp only [Act.put, List.setIfInBounds_toArray, List.set_cons_succ, List.set_cons_zero]
    refine AnyG.ready (rs := [6]) (by kernel_rfl) (by simp) (ReadyG.outer (some 20) 43 #[.tmp 17, .tmp 18, .tmp 19] #[22, 22, 22] rfl rfl (fun _ => trivial) #[.int .u64 (ax : Int), .int .u64 (y : Int), .int .u64 (v : Int)] (by simp [Act.eval]) _ (A1 _) rfl ?hk6 ?_ ReadyG.nil)
    case hk6 =>
      intro z _ _ _
      exact ⟨fun _ => c3, fun _ => c8⟩
    simp only [Act.put, List.setIfInBounds_toArray, List.set_cons_succ, List.set_cons_zero]
    refine AnyG.take 7 (some 13) (.move (.tmp 20)) (.tuple #[.int .u64 (d : Int), .int .u64 (v2 : Int)]) rfl rfl (fun _ e => by cases e) (by kernel_rfl) (by kernel_rfl) (by kernel_rfl) (by kernel_rfl) rfl (fun _ _ _ h => h) (fun o ho w2 hw => exec_move (.tmp 20) ho _ rfl w2) ⟨fun e => (by cases e), fun e => (by cases e)⟩ ?_
    simp only [Act.put, List.setIfInBounds_toArray, List.set_cons_succ, List.set_cons_zero]
    refine AnyG.take 8 (some 21) (.extract (.tmp 13) 0) (.int .u64 (d : Int)) rfl rfl (fun _ e => by cases e) (by kernel_rfl) (by kernel_rfl) (by kernel_rfl) (by kernel_rfl) rfl (fun _ _ _ h => h) (fun o ho w2 hw => exec_extract (.tmp 13) 0 ho _ _ rfl rfl w2) ⟨fun e => (by cases e), fun e => (by cases e)⟩ ?_
    simp only [Act.put, List.setIfInBounds_toArray, List.set_cons_succ, List.set_cons_zero]
    refine AnyG.take 9 (some 22) (.extract (.tmp 13) 1) (.int .u64 (v2 : Int)) rfl rfl (fun _ e => by cases e) (by kernel_rfl) (by kernel_rfl) (by kernel_rfl) (by kernel_rfl) rfl (fun _ _ _ h => h) (fun o ho w2 hw => exec_extract (.tmp 13) 1 ho _ _ rfl rfl w2) ⟨fun e => (by cases e), fun e => (by cases e)⟩ ?_
    simp only [Act.put, List.setIfInBounds_toArray, List.set_cons_succ, List.set_cons_zero]
    refine AnyG.take 10 (some 23) (.indexAddr 24 (.tmp 2) (.tmp 14)) (.pointer (some ⟨w.heap.size, x.1, none⟩)) rfl rfl (fun _ e => by cases e) (by kernel_rfl) (by kernel_rfl) (by kernel_rfl) (by kernel_rfl) rfl (fun _ _ _ h => h) (fun o ho w2 hw => exec_indexAddr24 (.tmp 2) (.tmp 14) ho (w.heap.size) x.1 rfl rfl hx4 w2) ⟨fun e => (by cases e), fun e => (by cases e)⟩ ?_
    simp only [Act.put, List.setIfInBounds_toArray, List.set_cons_succ, List.set_cons_zero]
    have hne1 : (w.heap.size) ≠ w.heap.size + 1 + 1 + 1 := by omega
    have c8' : (W.drew.setCell ⟨w.heap.size, x.1, none⟩ (.int .u64 (d : Int))).cell? ⟨w.heap.size + 1 + 1 + 1, 0, none⟩ = some (.int .u64 (v : Int)) := (World.cell?_setCell_other (a := ⟨w.heap.size, x.1, none⟩) (h := by intro e; injection e with e1 _ _; exact hne1 e1) (w := W.drew) (v := _)).trans c8
    have f8' : (W.drew.setCell ⟨w.heap.size, x.1, none⟩ (.int .u64 (d : Int))).frozen? ⟨w.heap.size + 1 + 1 + 1, 0, none⟩ = false := by rw [World.frozen?_setCell]; exact f8
    refine AnyG.ready (rs := [11]) (by kernel_rfl) (by simp) (ReadyG.skip (w2 := W.drew.setCell ⟨w.heap.size, x.1, none⟩ (.int .u64 (d : Int))) (.store 22 (.tmp 23) (.tmp 21)) rfl rfl (fun _ e => by cases e) (fun o ho => exec_store_one _ 22 (.tmp 23) (.tmp 21) ho ⟨w.heap.size, x.1, none⟩ rfl _ rfl rfl rfl _ c3 f3 (by kernel_rfl)) rfl ?hk11 ?_ ReadyG.nil)
    case hk11 => intro z _ _ hw; exact ⟨fun e => (by subst e; exact no_wait hw (by kernel_rfl)), fun e => (by subst e; exact no_wait hw (by kernel_rfl))⟩
    refine AnyG.ready (rs := [12]) (by kernel_rfl) (by simp) (ReadyG.skip (w2 := (W.drew.setCell ⟨w.heap.size, x.1, none⟩ (.int .u64 (d : Int))).setCell ⟨w.heap.size + 1 + 1 + 1, 0, none⟩ (.int .u64 (v2 : Int))) (.store 22 (.tmp 6) (.tmp 22)) rfl rfl (fun _ e => by cases e) (fun o ho => exec_store_one _ 22 (.tmp 6) (.tmp 22) ho ⟨w.heap.size + 1 + 1 + 1, 0, none⟩ rfl _ rfl rfl rfl _ c8' f8' (by kernel_rfl)) rfl ?hk12 ?_ ReadyG.nil)
    case hk12 => intro z _ _ hw; exact ⟨fun e => (by subst e; exact no_wait hw (by kernel_rfl)), fun e => (by subst e; exact no_wait hw (by kernel_rfl))⟩
    refine AnyG.done (by kernel_rfl) ?_ _
    exact ⟨((KeepsOthers.drew W).trans (KeepsOthers.setCell _ _ _)).trans (KeepsOthers.setCell _ _ _), trivial, ⟨(HI3.out W.drew H3.out).other _ _ (by show w.heap.size ≠ w.heap.size + 1 + 1 + 1; omega),
      (Row.other (w := W.drew) H6.out ⟨w.heap.size, x.1, none⟩ _ (by show w.heap.size + 1 + 1 ≠ w.heap.size; omega)).other _ _ (by show w.heap.size + 1 + 1 ≠ w.heap.size + 1 + 1 + 1; omega),
      HI8.out _ (Row.other (w := W.drew) H8.out ⟨w.heap.size, x.1, none⟩ _ (by show w.heap.size + 1 + 1 + 1 ≠ w.heap.size; omega))⟩,
      (Below.setCell (w := W.drew) HB.out.drew (p := ⟨w.heap.size, x.1, none⟩) (Nat.le_refl _) _).setCell (p := ⟨w.heap.size + 1 + 1 + 1, 0, none⟩) (by show w.heap.size ≤ w.heap.size + 1 + 1 + 1; omega) _⟩
  case done =>
    rintro D xs W hD rfl ⟨⟨h3, h6, h8⟩, hbl⟩ hK
    have c8 := h8.cell 0 (by decide)
    obtain ⟨S, hS⟩ : ∃ S, Hid (S = miSt F A (List.finRange 4)) := ⟨_, Lib.hid rfl⟩
    rw [← hS.out] at h3 h8 c8
    obtain ⟨cs, hcs⟩ : ∃ cs, Hid (cs = rowOf .u64 4 S.1) := ⟨_, Lib.hid rfl⟩
    have HL : ∀ W2 : World, W2.heap[w.heap.size]? = W.heap[w.heap.size]? → (loadVar 24 ⟨w.heap.size, 0, none⟩).run Tryd.prog W2 = .ok (.agg cs.toArray) W2 := by
      intro W2 he
      rw [hcs.out]
      exact load24 (he.trans h3)
    gi_wp2
    refine wpIn_nrm ?_
    refine wpIn_region_any (by kernel_rfl) ?_
    change wpAnyIn _ _ _ _ _ _ _ _ _ (World.drew _)
    refine anyIn_of_G (T := fun i => i == 0 || i == 1) (S := fun i w2 => (i = 0 → (loadVar 24 ⟨w.heap.size, 0, none⟩).run Tryd.prog w2 = .ok (.agg cs.toArray) w2) ∧ (i = 1 → w2.cell? ⟨w.heap.size + 1 + 1 + 1, 0, none⟩ = some (.int .u64 (S.2 : Int)))) _ _ _ _ ?_
    refine AnyG.take 0 (some 24) (.load 24 (.tmp 2)) (.agg cs.toArray) rfl rfl (fun _ e => by cases e) (by kernel_rfl) (by kernel_rfl) (by kernel_rfl) (by kernel_rfl) rfl (fun _ _ _ h => h) (fun o ho w2 hw => exec_load_of _ 24 (.tmp 2) ho ⟨w.heap.size, 0, none⟩ rfl _ (hw.1 rfl)) ⟨fun _ => HL W.drew rfl, fun e => (by cases e)⟩ ?_
    simp only [Act.put, List.setIfInBounds_toArray, List.set_cons_succ, List.set_cons_zero]
    refine AnyG.take 1 (some 25) (.load 22 (.tmp 6)) (.int .u64 (S.2 : Int)) rfl rfl (fun _ e => by cases e) (by kernel_rfl) (by kernel_rfl) (by kernel_rfl) (by kernel_rfl) rfl (fun _ _ _ h => h) (fun o ho w2 hw => exec_load_one w2 22 (.tmp 6) ho ⟨w.heap.size + 1 + 1 + 1, 0, none⟩ rfl _ (hw.2 rfl) _ Tryd.underlying22 rfl) ⟨fun e => (by cases e), fun _ => c8⟩ ?_
    simp only [Act.put, List.setIfInBounds_toArray, List.set_cons_succ, List.set_cons_zero]
    have hother : ∀ k, k ≠ w.heap.size + 1 + 1 → (W.drew.setRow (w.heap.size + 1 + 1) cs.toArray).heap[k]? = W.heap[k]? := fun k hk => setRow_other _ _ _ _ (by omega)
    refine AnyG.ready (rs := [2]) (by kernel_rfl) (by simp) (ReadyG.skip (w2 := W.drew.setRow (w.heap.size + 1 + 1) cs.toArray) (.store 24 (.tmp 4) (.tmp 24)) rfl rfl (fun _ e => by cases e) (fun o ho => exec_store24 W.drew (.tmp 4) (.tmp 24) ho (w.heap.size + 1 + 1) rfl cs.toArray (by rw [hcs.out]; exact ⟨_, rfl⟩) rfl _ 24 h6 (rowOf_size _ _ _)) rfl ?hk ?_ ReadyG.nil)
    case hk =>
      intro x _ _ _
      refine ⟨fun _ => HL _ (hother _ (by omega)), fun _ => ?_⟩
      exact (World.cell?_of_block (w := W) (a := ⟨w.heap.size + 1 + 1 + 1, 0, none⟩) (hother _ (by show w.heap.size + 1 + 1 + 1 ≠ w.heap.size + 1 + 1; omega))).trans c8
    refine AnyG.ready (rs := [3]) (by kernel_rfl) (by simp) (ReadyG.op (some 5) (.assign (.tmp 25)) rfl rfl (fun _ e => by cases e) (.int .u64 (S.2 : Int)) (fun o ho => exec_assign (.tmp 25) ho _ rfl _) rfl ?hk2 ?_ ReadyG.nil)
    case hk2 =>
      intro x _ _ _
      refine ⟨fun _ => HL _ (hother _ (by omega)), fun _ => ?_⟩
      exact (World.cell?_of_block (w := W) (a := ⟨w.heap.size + 1 + 1 + 1, 0, none⟩) (hother _ (by show w.heap.size + 1 + 1 + 1 ≠ w.heap.size + 1 + 1; omega))).trans c8
    simp only [Act.put, List.setIfInBounds_toArray, List.set_cons_succ, List.set_cons_zero]
    refine AnyG.done (by kernel_rfl) ?_ _
    refine nrm_intro ?_
    have hrow6 : (W.drew.setRow (w.heap.size + 1 + 1) cs.toArray).heap[w.heap.size + 1 + 1]? = some (.cells cs.toArray 24 (0, 0)) := setRow_heap _ _ _ _ _ _ h6
    have hK2 : (W.drew.setRow (w.heap.size + 1 + 1) cs.toArray).heap[D]? = some (.deferred (some [])) := (hother D (by omega)).trans hK
    have HB : Hid (Below w.heap.size w (W.drew.setRow (w.heap.size + 1 + 1) cs.toArray)) := Lib.hid (hbl.trans ⟨rfl, rfl, rfl, by simp, fun k hk => hother k (by omega)⟩)
    generalize W.drew.setRow (w.heap.size + 1 + 1) cs.toArray = W2 at *
    gi_wp2
    refine ⟨by simp, .inl ⟨_, _, rfl, run_takeDeferred hK2, ?_⟩⟩
    have hrow7 : (W2.putObj D (.deferred none)).heap[w.heap.size + 1 + 1]? = some (.cells cs.toArray 24 (0, 0)) := (World.putObj_heap_other (by omega)).trans hrow6
    refine ⟨_, results_two rfl _ _ _ ⟨w.heap.size + 1 + 1, 0, none⟩ rfl _ (loadA (by rw [hcs.out]; exact ⟨_, rfl⟩) hrow7), ?_, HB.out.trans (belowK_b (w := w) (Nat.le_refl _) W2 D _ _ (by omega) hK2 rfl rfl)⟩
    rw [← hS.out, hcs.out]
    rfl
  case stop =>
    rintro D c pre W _ _ h _
    exact h.elim
end Go.Proofs.YtkkgeljcgebegaaDoor
