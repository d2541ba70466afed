/- Several texts, one behind the other; each says by itself what it proves, and on what conditions. -/
import Derived.Test.YtdbbcngolcnniaaGreatDoorY12
import Derived.Lib.Builder
/- The first letters of an iterator as a text: package codec's first. -/
namespace Go.Proofs.YtdbbcngolcnniaaGreatDoor
set_option linter.unusedSimpArgs false
open Go.RowKit Go.Shelf
set_option linter.unusedVariables false
attribute [local go_sem] Oper.semAt_some
def Bld (b g k cap : Nat) (cur : Array Value) (w : World) : Prop :=
 w.heap[b]? = some (.cells #[.pointer (some ⟨b, 0, none⟩), .slice (some ⟨g, 0, none⟩) k cap] 58 (0, 0)) ∧ w.heap[g]? = some (.cells cur 5 (0, 0))
set_option maxHeartbeats 1000000 in
theorem len_any (b k cap : Nat) (p q : Option Addr) (w : World) (hb : w.heap[b]? = some (.cells #[.pointer p, .slice q k cap] 58 (0, 0))) :
  Calls Tryz.prog 41 #[.pointer (some ⟨b, 0, none⟩)] w fun e w2 => e = .returned (.int .i64 (k : Int)) ∧ w2 = w := by
 have c1 : w.cell? ⟨b, 1, none⟩ = some (.slice q k cap) := by rw [Lib.cell_of_heap hb]; rfl
 go_enter Tryz.func41, Tryz.ntmps41
 go_wp2
 go_ret
 exact ⟨rfl, rfl⟩
set_option maxHeartbeats 1000000 in
theorem copy_any (b g k cap : Nat) (w : World) (hb : w.heap[b]? = some (.cells #[.pointer (some ⟨b, 0, none⟩), .slice (some ⟨g, 0, none⟩) k cap] 58 (0, 0))) :
  Calls Tryz.prog 71 #[.pointer (some ⟨b, 0, none⟩)] w fun e w2 => e = .returned (.tuple #[]) ∧ w2 = w := by
 have c0 : w.cell? ⟨b, 0, none⟩ = some (.pointer (some ⟨b, 0, none⟩)) := by rw [Lib.cell_of_heap hb]; rfl
 have hneq : ∀ w : World, (binOp .neq 56 (.pointer (some ⟨b, 0, none⟩)) (.pointer (some ⟨b, 0, none⟩))).run Tryz.prog w = .ok (.bool false) w := by
  intro w
  have hs : (Tryz.prog.info? 58).map (·.size) = some 2 := by kernel_rfl
  cases hj : Tryz.prog.info? 58 with
  | none => rw [hj] at hs; cases hs
  | some j => exact Lib.run_neq_ptr_same (P := Tryz.prog) (tp := 56) (te := 58) w ⟨b, 0, none⟩ Tryz.underlying56 hj
 go_enter Tryz.func71, Tryz.ntmps71
 go_wp2
 refine bodyPost_end (results_none rfl _ _ _) rfl ?_
 exact ⟨rfl, rfl⟩
theorem exec_append31 {ρ : Operand → Value} {o : Oper} (x y : Operand) (ho : o.op = .call { callee := .builtin .append, args := #[x, y], argTypes := #[22, 22] }) (vx vy v : Value) (w w2 : World) (hx : ρ x = vx) (hy : ρ y = vy) (hrun : ∀ ty, (Builtin.append_ #[22, 22] ty #[vx, vy]).run Tryz.prog w = .ok v w2) :
  (execOp ρ o).run Tryz.prog w = .ok (.value v) w2 := by
 have h := hrun o.type
 unfold execOp
 simp only [ho, resolve, invoke, builtin, Sem.run_bind, Sem.run_pure, Result.andThen_ok, List.map_toArray, List.map_cons, List.map_nil, hx, hy, h]
theorem wpList_run {ops : Array Oper} {rest : List Oper} {o : Oper} {a : Act} {w w2 : World} {Q : Exit → Act → World → Prop} (hgd : o.guard = none) (v : Value)
  (hrun : (execOp a.eval o).run Tryz.prog w = .ok (.value v) w2) (h : wpList Tryz.prog ops Q rest (a.put o.dst v) w2) : wpList Tryz.prog ops Q (o :: rest) a w :=
 wpList_plain hgd fun K hK => by unfold Oper.wp; rw [hrun]; exact hK _ _ h
theorem setRow_other (w : World) (g k : Nat) (c : Array Value) (h : k ≠ g) : (w.setRow g c).heap[k]? = w.heap[k]? := by
 unfold World.setRow
 simp [Array.getElem?_modify]
 omega
set_option maxHeartbeats 1000000 in
theorem write_any (b g k cap x : Nat) (cur : Array Value) (w : World) (hB : Bld b g k cap cur w) (hne : b ≠ g) (hcs : cur.size = cap) (hk : k < cap) :
  Calls Tryz.prog 79 #[.pointer (some ⟨b, 0, none⟩), .int .u8 (x : Int)] w fun e w2 => e = .returned .nilIface ∧ Bld b g (k + 1) cap (cur.toList.take k ++ [Value.int .u8 (x : Int)] ++ cur.toList.drop (k + 1)).toArray w2 ∧
   w2.os = w.os ∧ w2.tape = w.tape ∧ w2.output = w.output ∧ w.heap.size ≤ w2.heap.size ∧ (∀ j, j < w.heap.size → j ≠ b → j ≠ g → w2.heap[j]? = w.heap[j]?) := by
 obtain ⟨hb, hg⟩ := hB
 have hblt : b < w.heap.size := (Array.getElem?_eq_some_iff.1 hb).1
 have hglt : g < w.heap.size := (Array.getElem?_eq_some_iff.1 hg).1
 obtain ⟨i0, hi, hz0, hz1, hz2⟩ := info_parts (show (Tryz.prog.info? 5).map (fun i => (i.zero, i.size, i.bytes)) = some (some (.int .u8 0), 1, 1) by kernel_rfl)
 have c0 : w.cell? ⟨b, 0, none⟩ = some (.pointer (some ⟨b, 0, none⟩)) := by rw [Lib.cell_of_heap hb]; rfl
 have c1 : (w.alloc (.cells #[.int .u8 (x : Int)] 5)).cell? ⟨b, 1, none⟩ = some (.slice (some ⟨g, 0, none⟩) k cap) := by rw [Lib.cell_of_heap ((Below.heap_alloc w _ b hblt).trans hb)]; rfl
 have c11 : w.cell? ⟨b, 1, none⟩ = some (.slice (some ⟨g, 0, none⟩) k cap) := by rw [Lib.cell_of_heap hb]; rfl
 have hg2 : (w.alloc (.cells #[.int .u8 (x : Int)] 5)).heap[g]? = some (.cells cur 5 (0, 0)) := (Below.heap_alloc w _ g hglt).trans hg
 have happ : ∀ ty, (Builtin.append_ #[22, 22] ty #[.slice (some ⟨g, 0, none⟩) k cap, .slice (some ⟨w.heap.size, 0, none⟩) 1 1]).run Tryz.prog (w.alloc (.cells #[.int .u8 (x : Int)] 5)) = .ok (.slice (some ⟨g, 0, none⟩) (k + 1) cap) ((w.alloc (.cells #[.int .u8 (x : Int)] 5)).setRow g (cur.toList.take k ++ [Value.int .u8 (x : Int)] ++ cur.toList.drop (k + 1)).toArray) := by
  intro ty
  have := run_append_room (P := Tryz.prog) (w := w.alloc (.cells #[.int .u8 (x : Int)] 5)) 22 ty 5 i0 Tryz.underlying22 hi g k cap cur hg2 ⟨w.heap.size, 0, none⟩ 1 1 [.int .u8 (x : Int)] (by rw [hz1]; rfl) (by
   intro j u hj
   match j, hj with
   | 0, hj => simp at hj; subst hj; exact (Boxed.new w 5 (.int .u8 (x : Int))).cell) (by intro u hu; simp at hu; subst hu; rfl) (by omega) (by rw [hz1]; simp; omega)
  rw [hz1] at this
  simpa using this
 have HBB := Lib.hid hb
 obtain ⟨C2, hC2⟩ : ∃ C2, C2 = (cur.toList.take k ++ [Value.int .u8 (x : Int)] ++ cur.toList.drop (k + 1)).toArray := ⟨_, rfl⟩
 rw [← hC2] at happ ⊢
 have hb3 : ((w.alloc (.cells #[.int .u8 (x : Int)] 5)).setRow g C2).heap[b]? = some (.cells #[.pointer (some ⟨b, 0, none⟩), .slice (some ⟨g, 0, none⟩) k cap] 58 (0, 0)) := (setRow_other _ g b _ hne).trans ((Below.heap_alloc w _ b hblt).trans hb)
 have c3 : ((w.alloc (.cells #[.int .u8 (x : Int)] 5)).setRow g C2).cell? ⟨b, 1, none⟩ = some (.slice (some ⟨g, 0, none⟩) k cap) := by rw [Lib.cell_of_heap hb3]; rfl
 have f3 : ((w.alloc (.cells #[.int .u8 (x : Int)] 5)).setRow g C2).frozen? ⟨b, 1, none⟩ = false := Lib.frozen_of_heap hb3 1
 have hg3 : ((w.alloc (.cells #[.int .u8 (x : Int)] 5)).setRow g C2).heap[g]? = some (.cells C2 5 (0, 0)) := setRow_heap _ g cur _ 5 _ hg2
 have hoth : ∀ j, j < w.heap.size → j ≠ b → j ≠ g → ((w.alloc (.cells #[.int .u8 (x : Int)] 5)).setRow g C2).heap[j]? = w.heap[j]? := fun j hj _ h2 => (setRow_other _ g j _ h2).trans (Below.heap_alloc w _ j hj)
 have hsz3 : ((w.alloc (.cells #[.int .u8 (x : Int)] 5)).setRow g C2).heap.size = w.heap.size + 1 := by unfold World.setRow; simp
 have HO := Lib.hid hoth
 have HB3 := Lib.hid hb3
 have HG3 := Lib.hid hg3
 have HSZ := Lib.hid hsz3
 clear hoth hb3 hg3 hsz3 hC2 hg2 hb hg
 go_enter Tryz.func79, Tryz.ntmps79
 go_wp2_with (first | (go_at_call 71; refine (copy_any b g k cap w HBB.out).mono ?_; rintro e w' ⟨rfl, rfl⟩) | (at_builtin; refine wpList_run rfl _ (exec_append31 (.tmp 11) (.tmp 13) rfl _ _ _ _ _ rfl rfl happ) ?_))
 go_ret
 refine ⟨rfl, ⟨?_, ?_⟩, rfl, rfl, rfl, ?_, ?_⟩
 ·have := HB3.out
  simp [World.setCell, Array.getElem?_modify, this]
 ·exact (Below.heap_setCell _ _ _ g (Ne.symm hne)).trans HG3.out
 ·have := HSZ.out
  simp [World.setCell, this]
 ·intro j hj h1 h2
  exact (Below.heap_setCell _ _ _ j h1).trans (HO.out j hj h1 h2)
def u8v (x : Nat) : Value := .int .u8 (x : Int)
def FSt (n b g cap : Nat) (pre : List Nat) (W : World) : Prop :=
 pre.length ≤ n ∧ ((n = 0 ∧ W.heap[b]? = some (.cells #[.pointer (some ⟨b, 0, none⟩), .slice none 0 0] 58 (0, 0))) ∨
  ∃ cur : Array Value, Bld b g pre.length cap cur W ∧ cur.size = cap ∧ n ≤ cap ∧ b ≠ g ∧ cur.toList.take pre.length = pre.map u8v)
def FI (n b g cap : Nat) (pre : List Nat) (S : Nat → Prop) (W : World) : Prop := (∀ k, S k ↔ k = b ∨ k = g) ∧ g < W.heap.size ∧ FSt n b g cap pre W
def FX (n b g cap : Nat) (c : Code) (pre : List Nat) (S : Nat → Prop) (W : World) : Prop := c = .exit 0 ∧ ∃ q, FI n b g cap q S W ∧ q.length = n ∧ q <+: pre
theorem FSt.lt {n b g cap : Nat} {pre : List Nat} {W : World} (h : FSt n b g cap pre W) : b < W.heap.size := by
 rcases h.2 with ⟨_, h⟩ | ⟨cur, h, _⟩
 ·exact (Array.getElem?_eq_some_iff.1 h).1
 ·exact (Array.getElem?_eq_some_iff.1 h.1).1
theorem FSt.same {n b g cap : Nat} {pre : List Nat} {W W2 : World} (h : FSt n b g cap pre W) (hb : W2.heap[b]? = W.heap[b]?) (hg : W2.heap[g]? = W.heap[g]?) : FSt n b g cap pre W2 := by
 refine ⟨h.1, ?_⟩
 rcases h.2 with ⟨h0, h⟩ | ⟨cur, ⟨h1, h2⟩, h3⟩
 ·exact .inl ⟨h0, hb.trans h⟩
 ·exact .inr ⟨cur, ⟨hb.trans h1, hg.trans h2⟩, h3⟩
theorem dep_FI (n b g cap : Nat) : Dep (FI n b g cap) := by
 refine ⟨?_, ?_⟩
 ·rintro x S W W2 ⟨hS, hg, h⟩ hsz hk
  exact ⟨hS, by omega, h.same (hk b ((hS b).2 (.inl rfl))) (hk g ((hS g).2 (.inr rfl)))⟩
 ·rintro x S W ⟨hS, hg, h⟩ k hk
  rcases (hS k).1 hk with rfl | rfl
  ·exact h.lt
  ·exact hg
theorem dep_FX (n b g cap : Nat) (c : Code) : Dep (FX n b g cap c) := by
 refine ⟨?_, ?_⟩
 ·rintro x S W W2 ⟨hc, q, h, hq⟩ hsz hk
  exact ⟨hc, q, (dep_FI n b g cap).same q S W W2 h hsz hk, hq⟩
 ·rintro x S W ⟨hc, q, h, hq⟩ k hk
  exact (dep_FI n b g cap).lt q S W h k hk
theorem byteCells_of (q : List Nat) (h : ∀ x ∈ q, x < 256) : Lib.byteCells (q.map UInt8.ofNat) = q.map u8v := by
 unfold Lib.byteCells
 rw [List.map_map]
 apply List.map_congr_left
 intro x hx
 have := h x hx
 simp [u8v, Nat.mod_eq_of_lt this]
theorem FSt.builder {n b g cap B : Nat} {q : List Nat} {W : World} (h : FSt n b g cap q W) (hb : B ≤ b) (hg : B ≤ g) (hq : ∀ x ∈ q, x < 256) (hcap : cap ≤ maxLen) : Lib.IsBuilderF 58 5 B b (Lib.byteCells (q.map UInt8.ofNat)) W := by
 right
 rw [byteCells_of q hq]
 rcases h.2 with ⟨h0, h1⟩ | ⟨cur, ⟨h1, h2⟩, h3, h4, h5, h6⟩
 ·have : q = [] := List.length_eq_zero_iff.1 (by have := h.1; omega)
  subst this
  exact ⟨hb, _, h1, World.ownsRowF_nil W B 5 1, by simp [Value.ownBlock]⟩
 ·refine ⟨hb, _, h1, ⟨by simp, .inr ⟨g, cap, cur, (0, 0), by simp, hg, h2, Nat.zero_le _, by simp; have := h.1; omega, hcap, by omega, ?_⟩⟩, by simp [Value.ownBlock]; omega⟩
  simpa using h6
end Go.Proofs.YtdbbcngolcnniaaGreatDoor
/- Package codec's first: the first letters of an iterator as a text. Its condition: that no more than 2^40 are asked for. -/
namespace Go.Proofs.YtdbbcngolcnniaaGreatDoor
set_option linter.unusedSimpArgs false
open Go.RowKit Go.Shelf
set_option linter.unusedVariables false
attribute [local go_sem] Oper.semAt_some
theorem prefix_take {q l : List Nat} {n : Nat} (h : q <+: l) (hn : q.length = n) : q = l.take n := by
 subst hn
 exact List.prefix_iff_eq_take.1 h
theorem FSt.buf {n b g cap : Nat} {pre : List Nat} {W : World} (h : FSt n b g cap pre W) : ∃ (q : Option Addr) (c : Nat), W.heap[b]? = some (.cells #[.pointer (some ⟨b, 0, none⟩), .slice q pre.length c] 58 (0, 0)) := by
 rcases h.2 with ⟨h0, h1⟩ | ⟨cur, ⟨h1, h2⟩, h3⟩
 ·have : pre.length = 0 := by have := h.1; omega
  rw [this]
  exact ⟨_, _, h1⟩
 ·exact ⟨_, _, h1⟩
theorem exec_eql3 {ρ : Operand → Value} {o : Oper} (x y : Operand) (ho : o.op = .binOp .eql 3 x y 3) (a b : Nat) (hx : ρ x = .int .i64 (a : Int)) (hy : ρ y = .int .i64 (b : Int)) (w : World) : (execOp ρ o).run Tryz.prog w = .ok (.value (.bool (decide (a = b)))) w := by
 unfold execOp; rw [ho]
 by_cases h : a = b
 ·subst h; go_simp
 ·have h2 : ¬ ((a : Int) = (b : Int)) := by omega
  go_simp
set_option maxHeartbeats 2000000 in
theorem first_any (n gf : Nat) (lb : Array Value) (xs : List Nat) (n0 : Nat) (w0 w : World) (hq : SeqOK Tryz.prog gf lb xs n0 w0) (hw : Below n0 w0 w) (hn : n ≤ 1099511627776) (eg : ∀ args w, (callFunc gf args).run Tryz.prog w = .ok (.enter gf args) w) (hxs : ∀ x ∈ xs, x < 256) :
  Calls Tryz.prog 58 #[.int .i64 (n : Int), .func (.func gf) #[] lb] w fun e w2 => e = .returned (.string ⟨((xs.take n).map UInt8.ofNat).toArray⟩) ∧ Below w.heap.size w w2 := by
 obtain ⟨A, hA⟩ : ∃ A, A = w.heap.size := ⟨_, rfl⟩
 have hn0 : n0 ≤ A := by have := hw.size; have := hq.1; omega
 refine (callsIn_wide (n := 5)).1 ?_
 refine callsIn_of_wp_marks Tryz.func58 rfl trivial ?_ rfl
 simp only [Tryz.ntmps58, List.size_toArray, List.length_cons, List.length_nil, Nat.reduceAdd, Nat.reduceSub, Array.replicate_succ, Array.replicate_zero, List.push_toArray, List.append_toArray, List.nil_append, List.cons_append]
 have hd : Fence.wide.depth = none := rfl
 have hbk : ((w.alloc (.cells #[.int .i64 (n : Int)] 3)).alloc (.cells #[.pointer none, .slice none 0 0] 58)).heap[A + 1]? = some (.cells #[.pointer none, .slice none 0 0] 58 (0, 0)) := by
  have := World.alloc_heap_new (w.alloc (.cells #[.int .i64 (n : Int)] 3)) (.cells #[.pointer none, .slice none 0 0] 58)
  rwa [World.size_alloc, ← hA] at this
 have hG := Builder_Grow_fresh_cap (A + 1) (A + 1) n ((w.alloc (.cells #[.int .i64 (n : Int)] 3)).alloc (.cells #[.pointer none, .slice none 0 0] 58)) (by omega) hbk (by simp; omega) (by omega)
 have hBel : Below A w ((w.alloc (.cells #[.int .i64 (n : Int)] 3)).alloc (.cells #[.pointer none, .slice none 0 0] 58)) := ((Below.refl A w).alloc (by omega) _).alloc (by simp; omega) _
 have hbn : Boxed ((w.alloc (.cells #[.int .i64 (n : Int)] 3)).alloc (.cells #[.pointer none, .slice none 0 0] 58)) A 3 (.int .i64 (n : Int)) := by rw [hA]; exact (Boxed.new w 3 _).alloc _
 rw [hA] at hG hbn
 gi_wp2_with (refine ⟨trivial, ?_⟩; gi_at_call 39; refine (callsIn_wide.2 hG).mono ?_; rintro e w1 ⟨rfl, ⟨hAt, hB1⟩, p, cap, hc1, hncap⟩)
 have hBel1 : Below A w w1 := hBel.trans (hB1.mono (by omega))
 have q3 : Boxed w1 A 3 (.int .i64 (n : Int)) := by rw [hA]; exact (hB1.block _ (by omega)).trans hbn
 rw [← hA] at hAt hc1
 clear hG hbk hbn hBel hB1
 obtain ⟨-, v, hb1, hown, hne⟩ := hAt
 have hc2 : w1.cell? ⟨A + 1, 1, none⟩ = some v := by rw [Lib.cell_of_heap hb1]; rfl
 obtain rfl : v = .slice p 0 cap := by rw [hc1] at hc2; exact (Option.some.inj hc2).symm
 have hb1lt : A + 1 < w1.heap.size := (Array.getElem?_eq_some_iff.1 hb1).1
 obtain ⟨g, hgw, hgB, hcapM, hFS⟩ : ∃ g, g < w1.heap.size ∧ A + 1 ≤ g ∧ cap ≤ maxLen ∧ FSt n (A + 1) g cap [] w1 := by
  rcases hown.2 with ⟨hv, -⟩ | ⟨g, c2, cur, hv, hg, hgg, -, hcm, hcs, -⟩
  ·obtain ⟨rfl, -, rfl⟩ : p = none ∧ True ∧ cap = 0 := by injection hv with h1 h2 h3; exact ⟨h1, trivial, h3⟩
   exact ⟨A + 1, hb1lt, Nat.le_refl _, Nat.zero_le _, Nat.zero_le _, .inl ⟨by omega, hb1⟩⟩
  ·obtain ⟨rfl, rfl⟩ : p = some ⟨g, 0, none⟩ ∧ cap = c2 := by injection hv with h1 h2 h3; exact ⟨h1, h3⟩
   refine ⟨g, (Array.getElem?_eq_some_iff.1 hgg).1, hg, hcm, Nat.zero_le _, .inr ⟨cur, ⟨hb1, hgg⟩, by omega, hncap, ?_, by simp⟩⟩
   intro e
   exact hne (by simp [Value.ownBlock, e])
 clear hown hne hc1 hc2
 have hAH := Lib.hid hA
 have hW1 : Below n0 w0 w1 := hw.trans (hBel1.mono hn0)
 rw [← hA]
 clear hA
 gi_wp2
 refine wpIn_rangeFunc_set (gf := gf) (lb := lb) rfl eg hq hW1 rfl
  (FI n (A + 1) g cap) (FX n (A + 1) g cap) (dep_FI _ _ _ _) (fun c => dep_FX _ _ _ _ c) (fun k => k = A + 1 ∨ k = g)
  (fun k hk => by rcases hk with rfl | rfl; omega; omega) ⟨fun _ => Iff.rfl, hgw, hFS⟩
  (fun x => { tmps := (.int .i64 (n : Int) :: .func (.func gf) #[] lb :: .pointer (some ⟨A, 0, none⟩) :: undef :: .string ⟨#[]⟩ :: .pointer (some ⟨A + 1, 0, none⟩) :: .int .u8 (x : Int) :: .int .i64 (n : Int) :: .tuple #[] :: .func (.func gf) #[] lb :: .int .u8 (x : Int) :: undef :: undef :: undef :: undef :: undef :: undef :: []).toArray, defers := [] }) ?assign ?body ?done ?stop
 case assign =>
  intro l x W K hK
  gi_wp2
  exact hK
 case body =>
  rintro lr pre x S2 W2 hE ⟨hS2, hg2, hF⟩ hpre
  have hx : x < 256 := hxs x (by obtain ⟨u, rfl⟩ := hpre; simp)
  have p3 : Boxed W2 A 3 (.int .i64 (n : Int)) := hE.box q3 (by rintro (h | h); omega; omega)
  obtain ⟨bq, bc, hbuf⟩ := hF.buf
  have HL : CallsIn Fence.wide (5 - 1) Tryz.prog 41 #[.pointer (some ⟨A + 1, 0, none⟩)] W2.drew fun e w2 => e = .returned (.int .i64 (pre.length : Int)) ∧ w2 = W2.drew := callsIn_wide.2 (len_any (A + 1) pre.length bc _ bq W2.drew hbuf)
  obtain ⟨k, hk⟩ : ∃ k, k = pre.length := ⟨_, rfl⟩
  rw [← hk] at HL
  have HF := Lib.hid hF
  have HS2 := Lib.hid hS2
  have HK := Lib.hid hk
  clear hF hS2 hbuf hpre hk
  gi_wp2
  rename_i K2 hK2
  refine wpIn_region_any (by kernel_rfl) ?_
  change wpAnyIn _ _ _ _ _ _ _ _ _ (World.drew _)
  refine anyIn_unround lr rfl (by kernel_rfl) _ _ _ _ ?_
  refine anyIn_of_G (T := fun i => i == 1 || i == 2) (S := fun i w => Boxed w A 3 (.int .i64 (n : Int))) _ _ _ _ ?_
  refine AnyG.take 1 (some 12) (.load 3 (.tmp 2)) (.int .i64 (n : Int)) rfl rfl (fun _ e => by cases e) (by kernel_rfl) (by kernel_rfl) (by kernel_rfl) (by kernel_rfl) rfl (fun _ _ _ h => h) (fun o ho w hw => exec_loadB (.tmp 2) ho A _ rfl w hw.cell rfl (by simp)) p3 ?_
  simp only [Act.put, sT, sS, sZ]
  refine AnyG.ready (rs := [0]) (by kernel_rfl) (by simp) (ReadyG.call (some 11) 41 #[.tmp 5] #[58] rfl rfl rfl (fun _ => trivial) #[.pointer (some ⟨A + 1, 0, none⟩)] (by simp [Act.eval]) (enters_of Tryz.func41 (by kernel_rfl) rfl) _ HL rfl ?_ (fun c w' h => by cases h.1) (fun w' h => by cases h.1) ReadyG.nil)
  rintro v W3 ⟨he, rfl⟩
  refine ⟨fun i _ _ _ => p3, ?_⟩
  obtain rfl : v = .int .i64 (k : Int) := by injection he
  simp only [Act.put, sT, sS, sZ]
  refine AnyG.take 2 (some 13) (.binOp .eql 3 (.tmp 11) (.tmp 12) 3) (.bool (decide (k = n))) rfl rfl (fun _ e => by cases e) (by kernel_rfl) (by kernel_rfl) (by kernel_rfl) (by kernel_rfl) rfl (fun _ _ _ h => h) (fun o ho w hw => exec_eql3 (.tmp 11) (.tmp 12) ho k n rfl rfl w) p3 ?_
  simp only [Act.put, sT, sS, sZ]
  refine AnyG.done (by kernel_rfl) ?_ _
  show K2 _ W2.drew
  refine hK2 _ _ ?_
  clear hK2 HL he
  by_cases hkn : k = n
  ·have hdec : decide (k = n) = true := by simp [hkn]
   rw [hdec]
   have HKN := Lib.hid hkn
   clear hkn hdec
   gi_wp2
   refine ⟨S2, (Ext.refl S2 W2).drew, rfl, pre, ⟨HS2.out, hg2, HF.out.same rfl rfl⟩, ?_, ⟨[x], rfl⟩⟩
   have := HK.out; have := HKN.out; omega
  ·have hdec : decide (k = n) = false := by simp [hkn]
   rw [hdec]
   obtain ⟨cur, hBl, hcs, hnc, hbg, htk⟩ : ∃ cur : Array Value, Bld (A + 1) g k cap cur W2 ∧ cur.size = cap ∧ n ≤ cap ∧ A + 1 ≠ g ∧ cur.toList.take k = pre.map u8v := by
    rcases HF.out.2 with ⟨h0, -⟩ | h
    ·have h1 := HF.out.1; rw [← HK.out] at h1; omega
    ·rw [← HK.out] at h; exact h
   have hkle : k < n := by have h1 := HF.out.1; rw [← HK.out] at h1; omega
   have HWr := write_any (A + 1) g k cap x cur W2.drew hBl hbg hcs (by omega)
   have HC := Lib.hid hkle
   have HTK := Lib.hid htk
   have HCS := Lib.hid hcs
   have HNC := Lib.hid hnc
   have HBG := Lib.hid hbg
   clear hdec hkn hkle htk hcs hnc hbg hBl
   gi_wp2_with (refine ⟨trivial, ?_⟩; gi_at_call 79; refine (CallsIn.inRound lr (callsIn_wide.2 HWr)).mono ?_; rintro e w5 ⟨rfl, hB5, ho5, ht5, hu5, hz5, hk5⟩)
   refine ⟨S2, ⟨ho5, ht5, hu5, hz5, fun _ _ h => h, fun j hj hs => hk5 j hj (fun e => hs ((HS2.out j).2 (.inl e))) (fun e => hs ((HS2.out j).2 (.inr e)))⟩, HS2.out, Nat.lt_of_lt_of_le hg2 hz5, ?_, .inr ⟨(cur.toList.take k ++ [Value.int .u8 (x : Int)] ++ cur.toList.drop (k + 1)).toArray, ?_, ?_, HNC.out, HBG.out, ?_⟩⟩
   ·have := HK.out; have := HC.out; simp; omega
   ·have := hB5; rw [List.length_append, ← HK.out]; exact this
   ·have := HCS.out; have := HC.out; have := HNC.out; simp; omega
   ·have h1 := HTK.out
    have hl : (cur.toList.take k).length = k := by have := HCS.out; have := HC.out; have := HNC.out; simp; omega
    have h2 : (cur.toList.take k ++ [Value.int .u8 (x : Int)] ++ cur.toList.drop (k + 1)).take (k + 1) = cur.toList.take k ++ [Value.int .u8 (x : Int)] := List.take_left' (by rw [List.length_append, hl]; rfl)
    rw [List.length_append, ← HK.out, List.map_append, ← h1]
    exact h2
 case done =>
  rintro D S2 W2 hD hnD hE ⟨hS2, hg2, hF⟩ hKd
  have hres : xs.take n = xs := List.take_of_length_le hF.1
  have hDb : D ≠ A + 1 := by omega
  have hST := Builder_String_any_k (A + 1) (A + 1) (xs.map UInt8.ofNat) W2 (hF.builder (Nat.le_refl _) hgB hxs hcapM) (by have := hE.size; omega)
  have HB := Lib.hid (hBel1.trans (hE.below (n := A) (by omega) (by rintro k (rfl | rfl); omega; omega)))
  have HR := Lib.hid hres
  have HDD := Lib.hid hD
  clear hF hS2 hres hD hE
  gi_wp2_with (refine ⟨trivial, ?_⟩; gi_at_call 42; refine (callsIn_wide.2 hST).mono ?_; rintro e w5 ⟨rfl, -, hb5, hk5⟩)
  have hKd2 : w5.heap[D]? = some (.deferred (some [])) := hk5 D _ hKd (by simpa using hDb) (fun _ _ e => by cases e)
  refine ⟨by simp, .inl ⟨_, _, rfl, run_takeDeferred hKd2, ?_⟩⟩
  refine ⟨_, results_tmp rfl _ _ _, by rw [HR.out]; rfl, ?_⟩
  rw [← hAH.out]
  exact (HB.out.trans (hb5.mono (by omega))).trans (belowK_b (w := w1) (by omega) w5 D _ _ HDD.out hKd2 rfl rfl)
 case stop =>
  rintro D c pre S2 W2 hD hnD hE hpre ⟨rfl, q, ⟨hS2, hg2, hF⟩, hqn, hqp⟩ hKd
  have hqx : q <+: xs := List.IsPrefix.trans hqp hpre
  have hres : q = xs.take n := prefix_take hqx hqn
  have hDb : D ≠ A + 1 := by omega
  have hST := Builder_String_any_k (A + 1) (A + 1) (q.map UInt8.ofNat) W2 (hF.builder (Nat.le_refl _) hgB (fun x hx => hxs x (hqx.subset hx)) hcapM) (by have := hE.size; omega)
  rw [hres] at hST
  obtain ⟨R, hR⟩ : ∃ R, R = (xs.take n).map UInt8.ofNat := ⟨_, rfl⟩
  rw [← hR] at hST
  have HR := Lib.hid hR
  clear hR
  have HB := Lib.hid (hBel1.trans (hE.below (n := A) (by omega) (by rintro k (rfl | rfl); omega; omega)))
  have HDD := Lib.hid hD
  clear hF hS2 hres hD hE hqx hqp hqn hpre
  gi_wp2_with (refine ⟨trivial, ?_⟩; gi_at_call 42; refine (callsIn_wide.2 hST).mono ?_; rintro e w5 ⟨rfl, -, hb5, hk5⟩)
  have hKd2 : w5.heap[D]? = some (.deferred (some [])) := hk5 D _ hKd (by simpa using hDb) (fun _ _ e => by cases e)
  refine ⟨by simp, .inl ⟨_, _, rfl, run_takeDeferred hKd2, ?_⟩⟩
  refine ⟨_, results_tmp rfl _ _ _, by rw [← HR.out]; rfl, ?_⟩
  rw [← hAH.out]
  exact (HB.out.trans (hb5.mono (by omega))).trans (belowK_b (w := w1) (by omega) w5 D _ _ HDD.out hKd2 rfl rfl)
end Go.Proofs.YtdbbcngolcnniaaGreatDoor
/- The makers of package codec's iterators: what each iterator value hands out. -/
namespace Go.Proofs.YtdbbcngolcnniaaGreatDoor
set_option linter.unusedSimpArgs false
open Go.RowKit Go.Shelf
set_option linter.unusedVariables false
def Seq (v : Value) (xs : List Nat) (w : World) : Prop :=
 ∃ gf lb, v = .func (.func gf) #[] lb ∧ (∀ args w, (callFunc gf args).run Tryz.prog w = .ok (.enter gf args) w) ∧ SeqOK Tryz.prog gf lb xs w.heap.size w ∧ ∀ x ∈ xs, x < 256
theorem natsOf_lt (s : ByteArray) : ∀ x ∈ natsOf s, x < 256 := by
 intro x hx
 obtain ⟨c, -, rfl⟩ := List.mem_map.1 hx
 exact c.toNat_lt
theorem setAt_lt (set : ByteArray) (y : Nat) : setAt set y < 256 := by
 unfold setAt
 rw [List.getD_eq_getElem?_getD]
 cases h : (natsOf set)[y]? with
 | none => decide
 | some x => exact natsOf_lt set x (List.mem_of_getElem? h)
theorem hi_mem (f t : Nat) (ht8 : t ≤ 8) (l : List Nat) : ∀ x ∈ hiAll f t l, x < 256 := by
 have hp : 2 ^ t ≤ 2 ^ 8 := Nat.pow_le_pow_right (by decide) ht8
 have hm : ∀ x, x % 2 ^ t < 256 := fun x => Nat.lt_of_lt_of_le (Nat.mod_lt _ (Nat.two_pow_pos t)) hp
 have key : ∀ (l : List Nat) (s : Nat × Nat × List Nat), (∀ x ∈ s.2.2, x < 256) → ∀ x ∈ (l.foldl (hiStep f t) s).2.2, x < 256 := by
  intro l
  induction l with
  | nil => intro s hs; exact hs
  | cons y l ih =>
   intro s hs
   refine ih _ ?_
   intro x hx
   rcases List.mem_append.1 hx with h | h
   ·exact hs x h
   ·obtain ⟨i, -, rfl⟩ := List.mem_map.1 h
    exact hm _
 intro x hx
 rcases List.mem_append.1 hx with h | h
 ·exact key l _ (by simp) x h
 ·split at h
  ·simp at h; rw [h]; exact hm _
  ·cases h
theorem lo_mem (f t : Nat) (ht8 : t ≤ 8) (l : List Nat) : ∀ x ∈ loAll f t l, x < 256 := by
 have hp : 2 ^ t ≤ 2 ^ 8 := Nat.pow_le_pow_right (by decide) ht8
 have hm : ∀ x, x % 2 ^ t < 256 := fun x => Nat.lt_of_lt_of_le (Nat.mod_lt _ (Nat.two_pow_pos t)) hp
 have key : ∀ (l : List Nat) (s : Nat × Nat × List Nat), (∀ x ∈ s.2.2, x < 256) → ∀ x ∈ (l.foldl (loStep f t) s).2.2, x < 256 := by
  intro l
  induction l with
  | nil => intro s hs; exact hs
  | cons y l ih =>
   intro s hs
   refine ih _ ?_
   intro x hx
   rcases List.mem_append.1 hx with h | h
   ·exact hs x h
   ·obtain ⟨i, -, rfl⟩ := List.mem_map.1 h
    exact hm _
 intro x hx
 rcases List.mem_append.1 hx with h | h
 ·exact key l _ (by simp) x h
 ·split at h
  ·simp at h; rw [h]; exact Nat.mod_lt _ (by decide)
  ·cases h
theorem forward_mk (s : ByteArray) (w : World) (hs : s.size ≤ 9223372036854775807) :
  Calls Tryz.prog 61 #[.string s] w fun e w2 => (∃ v, e = .returned v ∧ Seq v (natsOf s) w2) ∧ Below w.heap.size w w2 := by
 have hB := Lib.hid (((Below.refl w.heap.size w).alloc (Nat.le_refl _) (.cells #[.string s] 9)))
 have hc := Lib.hid ((Boxed.new w 9 (.string s)).cell)
 go_enter Tryz.func61, Tryz.ntmps61
 go_wp2
 go_ret
 exact ⟨⟨_, rfl, 82, _, rfl, enters_of Tryz.func82 (by kernel_rfl) rfl, forward_seq s _ w.heap.size _ (by simp) (Nat.le_refl _) hc.out hs, natsOf_lt s⟩, hB.out⟩
theorem backward_mk (s : ByteArray) (w : World) (hs : s.size ≤ 9223372036854775807) :
  Calls Tryz.prog 63 #[.string s] w fun e w2 => (∃ v, e = .returned v ∧ Seq v ((natsOf s).reverse) w2) ∧ Below w.heap.size w w2 := by
 have hB := Lib.hid (((Below.refl w.heap.size w).alloc (Nat.le_refl _) (.cells #[.string s] 9)))
 have hc := Lib.hid ((Boxed.new w 9 (.string s)).cell)
 go_enter Tryz.func63, Tryz.ntmps63
 go_wp2
 go_ret
 exact ⟨⟨_, rfl, 84, _, rfl, enters_of Tryz.func84 (by kernel_rfl) rfl, backward_seq s _ w.heap.size _ (by simp) (Nat.le_refl _) hc.out hs, fun x hx => natsOf_lt s x (List.mem_reverse.1 hx)⟩, hB.out⟩
theorem letters_mk (set : ByteArray) (v : Value) (ys : List Nat) (w : World) (hv : Seq v ys w) (hys : ∀ y ∈ ys, y < set.size) :
  Calls Tryz.prog 59 #[.string set, v] w fun e w2 => (∃ u, e = .returned u ∧ Seq u (ys.map (setAt set)) w2) ∧ Below w.heap.size w w2 := by
 obtain ⟨gf, lb, rfl, eg, hq, hx⟩ := hv
 have hB := ((Below.refl w.heap.size w).alloc (Nat.le_refl _) (.cells #[.string set] 9)).alloc (by simp) (.cells #[.func (.func gf) #[] lb] 84)
 have hc2 : Boxed ((w.alloc (.cells #[.string set] 9)).alloc (.cells #[.func (.func gf) #[] lb] 84)) w.heap.size 9 (.string set) := (Boxed.new w 9 _).alloc _
 have hc1 : Boxed ((w.alloc (.cells #[.string set] 9)).alloc (.cells #[.func (.func gf) #[] lb] 84)) (w.heap.size + 1) 84 (.func (.func gf) #[] lb) := by have := Boxed.new (w.alloc (.cells #[.string set] 9)) 84 (.func (.func gf) #[] lb); rwa [World.size_alloc] at this
 have hS := letters_seq set gf lb ys ((w.alloc (.cells #[.string set] 9)).alloc (.cells #[.func (.func gf) #[] lb] 84)).heap.size w.heap.size (w.heap.size + 1) w.heap.size _ (hq.later hB) (by simp; omega) (Nat.le_refl _) (by simp) (by simp; omega) hc1.cell hc2.cell eg hys
 have HS := Lib.hid hS
 have HB := Lib.hid hB
 clear hS hB hc1 hc2 hq
 go_enter Tryz.func59, Tryz.ntmps59
 go_wp2
 go_ret
 exact ⟨⟨_, rfl, 80, _, rfl, enters_of Tryz.func80 (by kernel_rfl) rfl, HS.out, fun x hx => by obtain ⟨y, -, rfl⟩ := List.mem_map.1 hx; exact setAt_lt set y⟩, HB.out⟩
theorem numbers_mk (set : ByteArray) (v : Value) (ys : List Nat) (w : World) (hv : Seq v ys w) (hset : ∀ c, (Lib.indexByte set.data.toList c).toNat < 256) :
  Calls Tryz.prog 64 #[.string set, v] w fun e w2 => (∃ u, e = .returned u ∧ Seq u (ys.map (numAt set)) w2) ∧ Below w.heap.size w w2 := by
 obtain ⟨gf, lb, rfl, eg, hq, hx⟩ := hv
 have hB := ((Below.refl w.heap.size w).alloc (Nat.le_refl _) (.cells #[.string set] 9)).alloc (by simp) (.cells #[.func (.func gf) #[] lb] 84)
 have hc2 : Boxed ((w.alloc (.cells #[.string set] 9)).alloc (.cells #[.func (.func gf) #[] lb] 84)) w.heap.size 9 (.string set) := (Boxed.new w 9 _).alloc _
 have hc1 : Boxed ((w.alloc (.cells #[.string set] 9)).alloc (.cells #[.func (.func gf) #[] lb] 84)) (w.heap.size + 1) 84 (.func (.func gf) #[] lb) := by have := Boxed.new (w.alloc (.cells #[.string set] 9)) 84 (.func (.func gf) #[] lb); rwa [World.size_alloc] at this
 have hS := numbers_seq set gf lb ys ((w.alloc (.cells #[.string set] 9)).alloc (.cells #[.func (.func gf) #[] lb] 84)).heap.size w.heap.size (w.heap.size + 1) w.heap.size _ (hq.later hB) (by simp; omega) (Nat.le_refl _) (by simp) (by simp; omega) hc1.cell hc2.cell eg hx hset
 have HS := Lib.hid hS
 have HB := Lib.hid hB
 clear hS hB hc1 hc2 hq
 go_enter Tryz.func64, Tryz.ntmps64
 go_wp2
 go_ret
 exact ⟨⟨_, rfl, 85, _, rfl, enters_of Tryz.func85 (by kernel_rfl) rfl, HS.out, fun x hx => by obtain ⟨y, -, rfl⟩ := List.mem_map.1 hx; exact hset _⟩, HB.out⟩
theorem highest_mk (f t : Nat) (ht1 : 1 ≤ t) (ht8 : t ≤ 8) (hf1 : 1 ≤ f) (hf8 : f ≤ 8) (v : Value) (ys : List Nat) (w : World) (hv : Seq v ys w) :
  Calls Tryz.prog 60 #[.int .i64 (f : Int), .int .i64 (t : Int), v] w fun e w2 => (∃ u, e = .returned u ∧ Seq u (hiAll f t ys) w2) ∧ Below w.heap.size w w2 := by
 obtain ⟨gf, lb, rfl, eg, hq, hx⟩ := hv
 obtain ⟨w3, hw3⟩ : ∃ w3, w3 = ((w.alloc (.cells #[.int .i64 (f : Int)] 3)).alloc (.cells #[.int .i64 (t : Int)] 3)).alloc (.cells #[.func (.func gf) #[] lb] 84) := ⟨_, rfl⟩
 have hB : Below w.heap.size w w3 := by rw [hw3]; exact (((Below.refl w.heap.size w).alloc (Nat.le_refl _) _).alloc (by simp) _).alloc (by simp; omega) _
 have hsz : w3.heap.size = w.heap.size + 3 := by rw [hw3]; simp
 have hcf : Boxed w3 w.heap.size 3 (.int .i64 (f : Int)) := by rw [hw3]; exact ((Boxed.new w 3 _).alloc _).alloc _
 have hct : Boxed w3 (w.heap.size + 1) 3 (.int .i64 (t : Int)) := by
  rw [hw3]
  have := Boxed.new (w.alloc (.cells #[.int .i64 (f : Int)] 3)) 3 (.int .i64 (t : Int))
  rw [World.size_alloc] at this
  exact this.alloc _
 have hcl : Boxed w3 (w.heap.size + 2) 84 (.func (.func gf) #[] lb) := by
  rw [hw3]
  have := Boxed.new ((w.alloc (.cells #[.int .i64 (f : Int)] 3)).alloc (.cells #[.int .i64 (t : Int)] 3)) 84 (.func (.func gf) #[] lb)
  rwa [World.size_alloc, World.size_alloc] at this
 have hS := highest_seq f t gf lb ys w3.heap.size w.heap.size (w.heap.size + 1) (w.heap.size + 2) w.heap.size w3 (hq.later hB) (by omega) (Nat.le_refl _) (by omega) (by omega) (by omega) ht1 ht8 hf1 hf8 hct.cell hcl.cell hcf.cell eg hx
 rw [hw3] at hS hB
 have HS := Lib.hid hS
 have HB := Lib.hid hB
 clear hS hB hcf hct hcl hq hw3 hsz
 go_enter Tryz.func60, Tryz.ntmps60
 go_wp2
 go_ret
 exact ⟨⟨_, rfl, 81, _, rfl, enters_of Tryz.func81 (by kernel_rfl) rfl, HS.out, hi_mem f t ht8 ys⟩, HB.out⟩
theorem lowest_mk (f t : Nat) (ht1 : 1 ≤ t) (ht8 : t ≤ 8) (hf1 : 1 ≤ f) (hf8 : f ≤ 8) (v : Value) (ys : List Nat) (w : World) (hv : Seq v ys w) :
  Calls Tryz.prog 62 #[.int .i64 (f : Int), .int .i64 (t : Int), v] w fun e w2 => (∃ u, e = .returned u ∧ Seq u (loAll f t ys) w2) ∧ Below w.heap.size w w2 := by
 obtain ⟨gf, lb, rfl, eg, hq, hx⟩ := hv
 obtain ⟨w3, hw3⟩ : ∃ w3, w3 = ((w.alloc (.cells #[.int .i64 (f : Int)] 3)).alloc (.cells #[.int .i64 (t : Int)] 3)).alloc (.cells #[.func (.func gf) #[] lb] 84) := ⟨_, rfl⟩
 have hB : Below w.heap.size w w3 := by rw [hw3]; exact (((Below.refl w.heap.size w).alloc (Nat.le_refl _) _).alloc (by simp) _).alloc (by simp; omega) _
 have hsz : w3.heap.size = w.heap.size + 3 := by rw [hw3]; simp
 have hcf : Boxed w3 w.heap.size 3 (.int .i64 (f : Int)) := by rw [hw3]; exact ((Boxed.new w 3 _).alloc _).alloc _
 have hct : Boxed w3 (w.heap.size + 1) 3 (.int .i64 (t : Int)) := by
  rw [hw3]
  have := Boxed.new (w.alloc (.cells #[.int .i64 (f : Int)] 3)) 3 (.int .i64 (t : Int))
  rw [World.size_alloc] at this
  exact this.alloc _
 have hcl : Boxed w3 (w.heap.size + 2) 84 (.func (.func gf) #[] lb) := by
  rw [hw3]
  have := Boxed.new ((w.alloc (.cells #[.int .i64 (f : Int)] 3)).alloc (.cells #[.int .i64 (t : Int)] 3)) 84 (.func (.func gf) #[] lb)
  rwa [World.size_alloc, World.size_alloc] at this
 have hS := lowest_seq f t gf lb ys w3.heap.size w.heap.size (w.heap.size + 1) (w.heap.size + 2) w.heap.size w3 (hq.later hB) (by omega) (Nat.le_refl _) (by omega) (by omega) (by omega) ht1 ht8 hf1 hf8 hct.cell hcl.cell hcf.cell eg hx
 rw [hw3] at hS hB
 have HS := Lib.hid hS
 have HB := Lib.hid hB
 clear hS hB hcf hct hcl hq hw3 hsz
 go_enter Tryz.func62, Tryz.ntmps62
 go_wp2
 go_ret
 exact ⟨⟨_, rfl, 83, _, rfl, enters_of Tryz.func83 (by kernel_rfl) rfl, HS.out, lo_mem f t ht8 ys⟩, HB.out⟩
theorem first_mk (n : Nat) (v : Value) (xs : List Nat) (w : World) (hv : Seq v xs w) (hn : n ≤ 1099511627776) :
  Calls Tryz.prog 58 #[.int .i64 (n : Int), v] w fun e w2 => e = .returned (.string ⟨((xs.take n).map UInt8.ofNat).toArray⟩) ∧ Below w.heap.size w w2 := by
 obtain ⟨gf, lb, rfl, eg, hq, hx⟩ := hv
 exact first_any n gf lb xs w.heap.size w w hq (Below.refl _ w) hn eg hx
theorem first_res (n : Nat) (v : Value) (xs : List Nat) (w : World) (hv : Seq v xs w) (hn : n ≤ 1099511627776) (R : List UInt8) (hR : (xs.take n).map UInt8.ofNat = R) :
  Calls Tryz.prog 58 #[.int .i64 (n : Int), v] w fun e w2 => e = .returned (.string ⟨R.toArray⟩) ∧ Below w.heap.size w w2 := by
 subst hR
 exact first_mk n v xs w hv hn
theorem below_then {a b c : World} (h : Below a.heap.size a b) (k : Below b.heap.size b c) : Below a.heap.size a c := h.trans (k.mono h.size)
end Go.Proofs.YtdbbcngolcnniaaGreatDoor
/- What goes through bits, in plain numbers: letters of bytes, and bytes of letters. -/
namespace Go.Proofs.YtdbbcngolcnniaaGreatDoor
set_option linter.unusedVariables false
set_option linter.unusedSimpArgs false
def nb (l : List UInt8) : List Nat := l.map UInt8.toNat
theorem hi_or (h f x : Nat) (hf : f ≤ 64) (hx : x < 2 ^ f) : ∃ k, h * 2 ^ f % 18446744073709551616 ||| x = 2 ^ f * k + x ∧ k = h % 2 ^ (64 - f) := by
 refine ⟨h % 2 ^ (64 - f), ?_, rfl⟩
 have e : (18446744073709551616 : Nat) = 2 ^ f * 2 ^ (64 - f) := by rw [← Nat.pow_add, show f + (64 - f) = 64 by omega]
 rw [e, Nat.mul_comm h, Nat.mul_mod_mul_left]
 exact (Nat.two_pow_add_eq_or_of_lt hx _).symm
def nib : List UInt8 → List Nat
 | [] => []
 | c :: l => c.toNat / 16 :: c.toNat % 16 :: nib l
theorem nib_length : ∀ l, (nib l).length = 2 * l.length
 | [] => rfl
 | c :: l => by show (nib l).length + 1 + 1 = _; rw [nib_length l, List.length_cons]; omega
theorem nib_lt : ∀ (l : List UInt8) (x : Nat), x ∈ nib l → x < 16
 | [], _, h => by cases h
 | c :: l, x, h => by
  have hc := c.toNat_lt
  rcases List.mem_cons.1 h with rfl | h
  ·omega
  ·rcases List.mem_cons.1 h with rfl | h
   ·omega
   ·exact nib_lt l x h
theorem step84 (h x : Nat) (out : List Nat) (hx : x < 256) : ∃ h2, hiStep 8 4 (h, 0, out) x = (h2, 0, out ++ [x / 16, x % 16]) := by
 obtain ⟨k, hk, -⟩ := hi_or h 8 x (by decide) hx
 refine ⟨2 ^ 8 * k + x, ?_⟩
 unfold hiStep hiEmit
 simp only [hk]
 simp [List.range_succ]
 omega
theorem run84 : ∀ (l : List UInt8) (h : Nat) (out : List Nat), ∃ h2, (nb l).foldl (hiStep 8 4) (h, 0, out) = (h2, 0, out ++ nib l)
 | [], h, out => ⟨h, by simp [nb, nib]⟩
 | c :: l, h, out => by
  obtain ⟨h2, e2⟩ := step84 h c.toNat out c.toNat_lt
  obtain ⟨h3, e3⟩ := run84 l h2 (out ++ [c.toNat / 16, c.toNat % 16])
  refine ⟨h3, ?_⟩
  show List.foldl (hiStep 8 4) (hiStep 8 4 (h, 0, out) c.toNat) (nb l) = _
  rw [e2, e3]
  simp [nib]
theorem all84 (l : List UInt8) : hiAll 8 4 (nb l) = nib l := by
 obtain ⟨h2, e⟩ := run84 l 0 []
 unfold hiAll hiRun
 rw [e]
 simp
def sx : List UInt8 → List Nat
 | a :: b :: c :: l => a.toNat / 4 :: (a.toNat % 4 * 16 + b.toNat / 16) :: (b.toNat % 16 * 4 + c.toNat / 64) :: c.toNat % 64 :: sx l
 | [a, b] => [a.toNat / 4, a.toNat % 4 * 16 + b.toNat / 16, b.toNat % 16 * 4]
 | [a] => [a.toNat / 4, a.toNat % 4 * 16]
 | [] => []
end Go.Proofs.YtdbbcngolcnniaaGreatDoor
/- What goes through bits, the lowest first, in plain numbers: the digits of one number to one base and to another. -/
namespace Go.Proofs.YtdbbcngolcnniaaGreatDoor
set_option linter.unusedVariables false
set_option linter.unusedSimpArgs false
def dv (t : Nat) : List Nat → Nat
 | [] => 0
 | d :: l => d + 2 ^ t * dv t l
theorem dv_append (t : Nat) : ∀ l m : List Nat, dv t (l ++ m) = dv t l + 2 ^ (t * l.length) * dv t m
 | [], m => by simp [dv]
 | d :: l, m => by
  show d + 2 ^ t * dv t (l ++ m) = d + 2 ^ t * dv t l + 2 ^ (t * (l.length + 1)) * dv t m
  have e : 2 ^ (t * (l.length + 1)) * dv t m = 2 ^ t * (2 ^ (t * l.length) * dv t m) := by rw [Nat.mul_succ, Nat.pow_add, Nat.mul_comm (2 ^ (t * l.length)), Nat.mul_assoc]
  rw [dv_append t l m, Nat.mul_add, e]
  omega
theorem dv_snoc (t : Nat) (l : List Nat) (x : Nat) : dv t (l ++ [x]) = dv t l + 2 ^ (t * l.length) * x := by
 rw [dv_append]; simp [dv]
theorem dv_emit (t h : Nat) : ∀ k, dv t ((List.range k).map fun i => h / 2 ^ (t * i) % 2 ^ t) + 2 ^ (t * k) * (h / 2 ^ (t * k)) = h
 | 0 => by simp [dv]
 | k + 1 => by
  have ih := dv_emit t h k
  rw [List.range_succ, List.map_append, List.map_singleton, dv_snoc]
  rw [List.length_map, List.length_range, Nat.mul_succ t k, Nat.pow_add]
  have h2 : h / (2 ^ (t * k) * 2 ^ t) = h / 2 ^ (t * k) / 2 ^ t := (Nat.div_div_eq_div_mul _ _ _).symm
  rw [h2]
  have h3 := Nat.mod_add_div (h / 2 ^ (t * k)) (2 ^ t)
  rw [Nat.mul_assoc, Nat.add_assoc, ← Nat.mul_add, h3]
  exact ih
structure LoInv (f t : Nat) (l : List Nat) (s : Nat × Nat × List Nat) : Prop where
 h : s.1 < 2 ^ s.2.1
 n : s.2.1 < t
 len : t * s.2.2.length + s.2.1 = f * l.length
 val : dv t s.2.2 + 2 ^ (t * s.2.2.length) * s.1 = dv f l
 lt : ∀ x ∈ s.2.2, x < 2 ^ t
theorem or_shift (h n x : Nat) (hh : h < 2 ^ n) (hn : x * 2 ^ n < 18446744073709551616) : h ||| x * 2 ^ n % 18446744073709551616 = h + 2 ^ n * x := by
 rw [Nat.mod_eq_of_lt hn, Nat.or_comm, Nat.mul_comm x, ← Nat.two_pow_add_eq_or_of_lt hh]
 omega
theorem LoInv.step {f t : Nat} {l : List Nat} {s : Nat × Nat × List Nat} (hs : LoInv f t l s) (x : Nat) (hx : x < 2 ^ f) (ht8 : t ≤ 8) (hf8 : f ≤ 8) : LoInv f t (l ++ [x]) (loStep f t s x) := by
 obtain ⟨h, n, out⟩ := s
 obtain ⟨h1, h2, h3, h4, h5⟩ := hs
 simp only at h1 h2 h3 h4 h5
 have hb : x * 2 ^ n < 18446744073709551616 := by
  have e1 : x * 2 ^ n < 2 ^ f * 2 ^ n := Nat.mul_lt_mul_of_pos_right hx (Nat.two_pow_pos n)
  rw [← Nat.pow_add] at e1
  exact Nat.lt_of_lt_of_le e1 (Nat.pow_le_pow_right (by decide) (by omega : f + n ≤ 64))
 have hor := or_shift h n x h1 hb
 obtain ⟨q, hq⟩ : ∃ q, q = h + 2 ^ n * x := ⟨_, rfl⟩
 have hql : q < 2 ^ (n + f) := by
  rw [hq, Nat.pow_add]
  have e1 : 2 ^ n * (x + 1) ≤ 2 ^ n * 2 ^ f := Nat.mul_le_mul_left _ hx
  rw [Nat.mul_succ] at e1
  omega
 have hm := Nat.div_add_mod (n + f) t
 have ht : 0 < t := by omega
 unfold loStep
 simp only [hor, ← hq]
 refine ⟨?_, Nat.mod_lt _ ht, ?_, ?_, ?_⟩
 ·show q / 2 ^ (t * ((n + f) / t)) < 2 ^ ((n + f) % t)
  apply Nat.div_lt_of_lt_mul
  rw [← Nat.pow_add, hm]
  exact hql
 ·show t * (out ++ loEmit t q (n + f)).length + (n + f) % t = f * (l ++ [x]).length
  rw [List.length_append, loEmit_length, List.length_append, List.length_singleton, Nat.mul_add, Nat.mul_add, Nat.mul_one]
  omega
 ·show dv t (out ++ loEmit t q (n + f)) + 2 ^ (t * (out ++ loEmit t q (n + f)).length) * (q / 2 ^ (t * ((n + f) / t))) = dv f (l ++ [x])
  rw [dv_append, dv_snoc, List.length_append, loEmit_length, Nat.mul_add, Nat.pow_add, Nat.mul_assoc, Nat.add_assoc, ← Nat.mul_add]
  have e := dv_emit t q ((n + f) / t)
  unfold loEmit
  rw [e, hq, Nat.mul_add, ← Nat.add_assoc, h4, ← Nat.mul_assoc, ← Nat.pow_add, h3]
 ·intro y hy
  rcases List.mem_append.1 hy with h | h
  ·exact h5 y h
  ·obtain ⟨i, -, rfl⟩ := List.mem_map.1 h
   exact Nat.mod_lt _ (Nat.two_pow_pos t)
theorem lo_inv (f t : Nat) (ht1 : 1 ≤ t) (ht8 : t ≤ 8) (hf8 : f ≤ 8) (l : List Nat) (hl : ∀ x ∈ l, x < 2 ^ f) : LoInv f t l (loRun f t l) := by
 have key : ∀ (m l : List Nat) (s : Nat × Nat × List Nat), LoInv f t l s → (∀ x ∈ m, x < 2 ^ f) → LoInv f t (l ++ m) (m.foldl (loStep f t) s) := by
  intro m
  induction m with
  | nil => intro l s hs _; simpa using hs
  | cons x m ih =>
   intro l s hs hm
   have := ih (l ++ [x]) _ (hs.step x (hm x (by simp)) ht8 hf8) (fun y hy => hm y (by simp [hy]))
   simpa using this
 have := key l [] (0, 0, []) ⟨by simp, by show 0 < t; omega, by simp, by simp [dv], by simp⟩ hl
 simpa [loRun] using this
theorem lo_all (f t : Nat) (ht1 : 1 ≤ t) (ht8 : t ≤ 8) (hf8 : f ≤ 8) (l : List Nat) (hl : ∀ x ∈ l, x < 2 ^ f) :
  dv t (loAll f t l) = dv f l ∧ (loAll f t l).length = (f * l.length + (t - 1)) / t ∧ ∀ x ∈ loAll f t l, x < 2 ^ t := by
 obtain ⟨h1, h2, h3, h4, h5⟩ := lo_inv f t ht1 ht8 hf8 l hl
 unfold loAll
 obtain ⟨h, n, out⟩ : ∃ s, s = loRun f t l := ⟨_, rfl⟩
 generalize loRun f t l = s at *
 obtain ⟨h, n, out⟩ := s
 simp only at h1 h2 h3 h4 h5
 show dv t (out ++ if 0 < n then [h % 256] else []) = dv f l ∧ (out ++ if 0 < n then [h % 256] else []).length = (f * l.length + (t - 1)) / t ∧ ∀ x ∈ (out ++ if 0 < n then [h % 256] else []), x < 2 ^ t
 by_cases hn : 0 < n
 ·have hp : 2 ^ n ≤ 2 ^ 8 := Nat.pow_le_pow_right (by decide) (by omega)
  have hp2 : 2 ^ n ≤ 2 ^ t := Nat.pow_le_pow_right (by decide) (by omega)
  have hm : h % 256 = h := Nat.mod_eq_of_lt (by omega)
  rw [if_pos hn, hm]
  refine ⟨by rw [dv_snoc]; exact h4, ?_, ?_⟩
  ·rw [List.length_append, List.length_singleton, ← h3]
   symm
   apply Nat.div_eq_of_lt_le
   ·rw [Nat.mul_comm, Nat.mul_add]; omega
   ·have e : (out.length + 1 + 1) * t = t * out.length + t + t := by rw [Nat.mul_comm, Nat.mul_succ, Nat.mul_succ]
    rw [e]; omega
  ·intro x hx
   rcases List.mem_append.1 hx with h6 | h6
   ·exact h5 x h6
   ·simp at h6; rw [h6]; omega
 ·have hn0 : n = 0 := by omega
  subst hn0
  have hh : h = 0 := by simpa using h1
  subst hh
  rw [if_neg hn, List.append_nil]
  refine ⟨by simpa using h4, ?_, h5⟩
  rw [← h3]
  symm
  apply Nat.div_eq_of_lt_le
  ·rw [Nat.mul_comm]; omega
  ·have e : (out.length + 1) * t = t * out.length + t := by rw [Nat.mul_comm, Nat.mul_succ]
   rw [e]; omega
theorem dv_num : ∀ l : List UInt8, dv 8 (nb l) = num l
 | [] => rfl
 | c :: l => by
  show c.toNat + 2 ^ 8 * dv 8 (nb l) = c.toNat + 256 * num l
  rw [dv_num l]
theorem dv_enc : ∀ ds : List Nat, (∀ x ∈ ds, x < 32) → (ds.map lett).reverse = enc32 (dv 5 ds) ds.length
 | [], _ => rfl
 | d :: ds, h => by
  have hd := h d (by simp)
  have ih := dv_enc ds (fun x hx => h x (by simp [hx]))
  show ((lett d :: ds.map lett)).reverse = enc32 ((d + 2 ^ 5 * dv 5 ds) / 32) ds.length ++ [lett ((d + 2 ^ 5 * dv 5 ds) % 32)]
  rw [List.reverse_cons, ih, show (d + 2 ^ 5 * dv 5 ds) / 32 = dv 5 ds by simp only [Nat.reducePow]; omega, show (d + 2 ^ 5 * dv 5 ds) % 32 = d by simp only [Nat.reducePow]; omega]
theorem dv_bytes : ∀ (n : Nat) (L : List Nat), (∀ x ∈ L, x < 256) → n ≤ L.length → (L.take n).map UInt8.ofNat = bytesOf (dv 8 L) n
 | 0, L, _, _ => by simp [bytesOf]
 | n + 1, [], _, h => by simp at h
 | n + 1, d :: L, hL, h => by
  have hd := hL d (by simp)
  have ih := dv_bytes n L (fun x hx => hL x (by simp [hx])) (by simpa using h)
  show UInt8.ofNat d :: (L.take n).map UInt8.ofNat = UInt8.ofNat ((d + 2 ^ 8 * dv 8 L) % 256) :: bytesOf ((d + 2 ^ 8 * dv 8 L) / 256) n
  rw [ih, show (d + 2 ^ 8 * dv 8 L) % 256 = d by simp only [Nat.reducePow]; omega, show (d + 2 ^ 8 * dv 8 L) / 256 = dv 8 L by simp only [Nat.reducePow]; omega]
end Go.Proofs.YtdbbcngolcnniaaGreatDoor
/- Package codec's Hex: it tells the arithmetic's letters. Its condition: a length that fits. -/
namespace Go.Proofs.YtdbbcngolcnniaaGreatDoor
set_option linter.unusedSimpArgs false
open Go.RowKit Go.Shelf
set_option linter.unusedVariables false
def by16B : ByteArray := ⟨#[48, 49, 50, 51, 52, 53, 54, 55, 56, 57, 97, 98, 99, 100, 101, 102]⟩
theorem by16_set : ∀ y, y < 16 → UInt8.ofNat (setAt by16B y) = hexd y := by decide +kernel
theorem by16_size : by16B.size = 16 := by decide +kernel
theorem natsOf_nb (s : ByteArray) : natsOf s = nb s.data.toList := rfl
theorem nib_hex : ∀ l : List UInt8, ((nib l).map (setAt by16B)).map UInt8.ofNat = hex l
 | [] => rfl
 | c :: l => by
  have hc := c.toNat_lt
  show UInt8.ofNat (setAt by16B (c.toNat / 16)) :: UInt8.ofNat (setAt by16B (c.toNat % 16)) :: ((nib l).map (setAt by16B)).map UInt8.ofNat = hexd (c.toNat / 16) :: hexd (c.toNat % 16) :: hex l
  rw [by16_set _ (by omega), by16_set _ (by omega), nib_hex l]
set_option maxHeartbeats 1000000 in
theorem hex_any (s : ByteArray) (w : World) (hs : s.size ≤ 549755813888) :
  Calls Tryz.prog 32 #[.string s] w fun e w2 => e = .returned (.string ⟨(hex s.data.toList).toArray⟩) ∧ Below w.heap.size w w2 := by
 obtain ⟨N, hN⟩ : ∃ N, N = 2 * s.size := ⟨_, rfl⟩
 have hmul : IntKind.i64.wrap (2 * (s.size : Int)) = (N : Int) := by rw [IntKind.wrap_i64]; omega
 have hNle : N ≤ 1099511627776 := by omega
 have hres : (((hiAll 8 4 (natsOf s)).map (setAt by16B)).take N).map UInt8.ofNat = hex s.data.toList := by
  rw [natsOf_nb, all84, List.take_of_length_le (by rw [List.length_map, nib_length, hN]; simp), nib_hex]
 have HR := Lib.hid hres
 clear hN hres
 have h16 : ∀ y ∈ hiAll 8 4 (natsOf s), y < by16B.size := by rw [natsOf_nb, all84, by16_size]; exact nib_lt _
 have H16 := Lib.hid h16
 clear h16
 go_enter Tryz.func32, Tryz.ntmps32
 go_wp2_with (first
  | (go_at_call 61; refine (forward_mk s w (by omega)).mono ?_; rintro e w1 ⟨⟨v1, rfl, h1⟩, b1⟩)
  | (go_at_call 60; refine (highest_mk 8 4 (by decide) (by decide) (by decide) (by decide) v1 _ w1 h1).mono ?_; rintro e w2 ⟨⟨v2, rfl, h2⟩, b2⟩)
  | (go_at_call 59; refine (letters_mk by16B v2 _ w2 h2 H16.out).mono ?_; rintro e w3 ⟨⟨v3, rfl, h3⟩, b3⟩)
  | (go_at_call 58; refine (first_res N v3 _ w3 h3 hNle _ HR.out).mono ?_; rintro e w4 ⟨rfl, b4⟩))
 go_ret
 exact ⟨rfl, below_then (below_then (below_then b1 b2) b3) b4⟩
theorem only_any (s : ByteArray) (so : Bool) (w : World) :
  Calls Tryz.prog 65 #[.string s, .bool so] w fun e w2 => e = .returned (.tuple #[.string (if so then s else ⟨#[]⟩), .bool so]) ∧ w2 = w := by
 cases so
 ·go_enter Tryz.func65, Tryz.ntmps65
  go_wp2
  go_ret2
  exact ⟨rfl, rfl⟩
 ·go_enter Tryz.func65, Tryz.ntmps65
  go_wp2
  go_ret2
  exact ⟨rfl, rfl⟩
theorem map_ofNat_nb : ∀ l : List UInt8, (nb l).map UInt8.ofNat = l
 | [] => rfl
 | c :: l => by
  show UInt8.ofNat c.toNat :: (nb l).map UInt8.ofNat = c :: l
  rw [map_ofNat_nb l]; simp
theorem toList_data (s : ByteArray) : s.toList = s.data.toList := ByteArray.toList_eq s
def told (o : Option (List UInt8)) : Value := match o with
 | some l => .tuple #[.string ⟨l.toArray⟩, .bool true]
 | none => .tuple #[.string ⟨#[]⟩, .bool false]
end Go.Proofs.YtdbbcngolcnniaaGreatDoor
