/- The first letters of an iterator as a text: package codec's first. -/
import Derived.Test.YtdajmekliodmcaaGreatDoorLo
import Derived.Lib.Builder
namespace Go.Proofs.YtdajmekliodmcaaGreatDoor
open Go.RowKit Go.Shelf
set_option linter.unusedVariables false
attribute [local go_sem] Oper.semAt_some

/-- A Builder in block b whose bytes stand in block g, k of them, with room for cap. -/
def Bld (b g k cap : Nat) (cur : Array Value) (w : World) : Prop :=
  w.heap[b]? = some (.cells #[.pointer (some ⟨b, 0, none⟩), .slice (some ⟨g, 0, none⟩) k cap] 132 (0, 0)) ∧ w.heap[g]? = some (.cells cur 5 (0, 0))

set_option maxHeartbeats 1000000 in
theorem len_any (b k cap : Nat) (p q : Option Addr) (w : World) (hb : w.heap[b]? = some (.cells #[.pointer p, .slice q k cap] 132 (0, 0))) :
    Calls Tryz.prog 142 #[.pointer (some ⟨b, 0, none⟩)] w fun e w2 => e = .returned (.int .i64 (k : Int)) ∧ w2 = w := by
  have c1 : w.cell? ⟨b, 1, none⟩ = some (.slice q k cap) := by rw [Lib.cell_of_heap hb]; rfl
  go_enter Tryz.func142, Tryz.ntmps142
  go_wp2
  go_ret
  exact ⟨rfl, rfl⟩

set_option maxHeartbeats 1000000 in
theorem copy_any (b g k cap : Nat) (w : World) (hb : w.heap[b]? = some (.cells #[.pointer (some ⟨b, 0, none⟩), .slice (some ⟨g, 0, none⟩) k cap] 132 (0, 0))) :
    Calls Tryz.prog 161 #[.pointer (some ⟨b, 0, none⟩)] w fun e w2 => e = .returned (.tuple #[]) ∧ w2 = w := by
  have c0 : w.cell? ⟨b, 0, none⟩ = some (.pointer (some ⟨b, 0, none⟩)) := by rw [Lib.cell_of_heap hb]; rfl
  have hneq : ∀ w : World, (binOp .neq 130 (.pointer (some ⟨b, 0, none⟩)) (.pointer (some ⟨b, 0, none⟩))).run Tryz.prog w = .ok (.bool false) w := by
    intro w
    have hs : (Tryz.prog.info? 132).map (·.size) = some 2 := by kernel_rfl
    cases hj : Tryz.prog.info? 132 with
    | none => rw [hj] at hs; cases hs
    | some j => exact Lib.run_neq_ptr_same (P := Tryz.prog) (tp := 130) (te := 132) w ⟨b, 0, none⟩ Tryz.underlying130 hj
  go_enter Tryz.func161, Tryz.ntmps161
  go_wp2
  refine bodyPost_end (results_none rfl _ _ _) rfl ?_
  exact ⟨rfl, rfl⟩

theorem exec_append31 {ρ : Operand → Value} {o : Oper} (x y : Operand) (ho : o.op = .call { callee := .builtin .append, args := #[x, y], argTypes := #[33, 33] }) (vx vy v : Value) (w w2 : World) (hx : ρ x = vx) (hy : ρ y = vy) (hrun : ∀ ty, (Builtin.append_ #[33, 33] ty #[vx, vy]).run Tryz.prog w = .ok v w2) :
    (execOp ρ o).run Tryz.prog w = .ok (.value v) w2 := by
  have h := hrun o.type
  unfold execOp
  simp only [ho, resolve, invoke, builtin, Sem.run_bind, Sem.run_pure, Result.andThen_ok, List.map_toArray, List.map_cons, List.map_nil, hx, hy, h]
theorem wpList_run {ops : Array Oper} {rest : List Oper} {o : Oper} {a : Act} {w w2 : World} {Q : Exit → Act → World → Prop} (hgd : o.guard = none) (v : Value)
    (hrun : (execOp a.eval o).run Tryz.prog w = .ok (.value v) w2) (h : wpList Tryz.prog ops Q rest (a.put o.dst v) w2) : wpList Tryz.prog ops Q (o :: rest) a w :=
  wpList_plain hgd fun K hK => by unfold Oper.wp; rw [hrun]; exact hK _ _ h

theorem setRow_other (w : World) (g k : Nat) (c : Array Value) (h : k ≠ g) : (w.setRow g c).heap[k]? = w.heap[k]? := by
  unfold World.setRow
  simp [Array.getElem?_modify]
  omega

set_option maxHeartbeats 1000000 in
theorem write_any (b g k cap x : Nat) (cur : Array Value) (w : World) (hB : Bld b g k cap cur w) (hne : b ≠ g) (hcs : cur.size = cap) (hk : k < cap) :
    Calls Tryz.prog 143 #[.pointer (some ⟨b, 0, none⟩), .int .u8 (x : Int)] w fun e w2 => e = .returned .nilIface ∧ Bld b g (k + 1) cap (cur.toList.take k ++ [Value.int .u8 (x : Int)] ++ cur.toList.drop (k + 1)).toArray w2 ∧
      w2.os = w.os ∧ w2.tape = w.tape ∧ w2.output = w.output ∧ w.heap.size ≤ w2.heap.size ∧ (∀ j, j < w.heap.size → j ≠ b → j ≠ g → w2.heap[j]? = w.heap[j]?) := by
  obtain ⟨hb, hg⟩ := hB
  have hblt : b < w.heap.size := (Array.getElem?_eq_some_iff.1 hb).1
  have hglt : g < w.heap.size := (Array.getElem?_eq_some_iff.1 hg).1
  obtain ⟨i0, hi, hz0, hz1, hz2⟩ := info_parts (show (Tryz.prog.info? 5).map (fun i => (i.zero, i.size, i.bytes)) = some (some (.int .u8 0), 1, 1) by kernel_rfl)
  have c0 : w.cell? ⟨b, 0, none⟩ = some (.pointer (some ⟨b, 0, none⟩)) := by rw [Lib.cell_of_heap hb]; rfl
  have c1 : (w.alloc (.cells #[.int .u8 (x : Int)] 5)).cell? ⟨b, 1, none⟩ = some (.slice (some ⟨g, 0, none⟩) k cap) := by rw [Lib.cell_of_heap ((Below.heap_alloc w _ b hblt).trans hb)]; rfl
  have c11 : w.cell? ⟨b, 1, none⟩ = some (.slice (some ⟨g, 0, none⟩) k cap) := by rw [Lib.cell_of_heap hb]; rfl
  have hg2 : (w.alloc (.cells #[.int .u8 (x : Int)] 5)).heap[g]? = some (.cells cur 5 (0, 0)) := (Below.heap_alloc w _ g hglt).trans hg
  have happ : ∀ ty, (Builtin.append_ #[33, 33] ty #[.slice (some ⟨g, 0, none⟩) k cap, .slice (some ⟨w.heap.size, 0, none⟩) 1 1]).run Tryz.prog (w.alloc (.cells #[.int .u8 (x : Int)] 5)) = .ok (.slice (some ⟨g, 0, none⟩) (k + 1) cap) ((w.alloc (.cells #[.int .u8 (x : Int)] 5)).setRow g (cur.toList.take k ++ [Value.int .u8 (x : Int)] ++ cur.toList.drop (k + 1)).toArray) := by
    intro ty
    have := run_append_room (P := Tryz.prog) (w := w.alloc (.cells #[.int .u8 (x : Int)] 5)) 33 ty 5 i0 Tryz.underlying33 hi g k cap cur hg2 ⟨w.heap.size, 0, none⟩ 1 1 [.int .u8 (x : Int)] (by rw [hz1]; rfl) (by
      intro j u hj
      match j, hj with
      | 0, hj => simp at hj; subst hj; exact (Boxed.new w 5 (.int .u8 (x : Int))).cell) (by intro u hu; simp at hu; subst hu; rfl) (by omega) (by rw [hz1]; simp; omega)
    rw [hz1] at this
    simpa using this
  have HBB := Lib.hid hb
  obtain ⟨C2, hC2⟩ : ∃ C2, C2 = (cur.toList.take k ++ [Value.int .u8 (x : Int)] ++ cur.toList.drop (k + 1)).toArray := ⟨_, rfl⟩
  rw [← hC2] at happ ⊢
  have hb3 : ((w.alloc (.cells #[.int .u8 (x : Int)] 5)).setRow g C2).heap[b]? = some (.cells #[.pointer (some ⟨b, 0, none⟩), .slice (some ⟨g, 0, none⟩) k cap] 132 (0, 0)) := (setRow_other _ g b _ hne).trans ((Below.heap_alloc w _ b hblt).trans hb)
  have c3 : ((w.alloc (.cells #[.int .u8 (x : Int)] 5)).setRow g C2).cell? ⟨b, 1, none⟩ = some (.slice (some ⟨g, 0, none⟩) k cap) := by rw [Lib.cell_of_heap hb3]; rfl
  have f3 : ((w.alloc (.cells #[.int .u8 (x : Int)] 5)).setRow g C2).frozen? ⟨b, 1, none⟩ = false := Lib.frozen_of_heap hb3 1
  have hg3 : ((w.alloc (.cells #[.int .u8 (x : Int)] 5)).setRow g C2).heap[g]? = some (.cells C2 5 (0, 0)) := setRow_heap _ g cur _ 5 _ hg2
  have hoth : ∀ j, j < w.heap.size → j ≠ b → j ≠ g → ((w.alloc (.cells #[.int .u8 (x : Int)] 5)).setRow g C2).heap[j]? = w.heap[j]? := fun j hj _ h2 => (setRow_other _ g j _ h2).trans (Below.heap_alloc w _ j hj)
  have hsz3 : ((w.alloc (.cells #[.int .u8 (x : Int)] 5)).setRow g C2).heap.size = w.heap.size + 1 := by unfold World.setRow; simp
  have HO := Lib.hid hoth
  have HB3 := Lib.hid hb3
  have HG3 := Lib.hid hg3
  have HSZ := Lib.hid hsz3
  clear hoth hb3 hg3 hsz3 hC2 hg2 hb hg
  go_enter Tryz.func143, Tryz.ntmps143
  go_wp2_with (first | (go_at_call 161; refine (copy_any b g k cap w HBB.out).mono ?_; rintro e w' ⟨rfl, rfl⟩) | (at_builtin; refine wpList_run rfl _ (exec_append31 (.tmp 11) (.tmp 13) rfl _ _ _ _ _ rfl rfl happ) ?_))
  go_ret
  refine ⟨rfl, ⟨?_, ?_⟩, rfl, rfl, rfl, ?_, ?_⟩
  · have := HB3.out
    simp [World.setCell, Array.getElem?_modify, this]
  · exact (Below.heap_setCell _ _ _ g (Ne.symm hne)).trans HG3.out
  · have := HSZ.out
    simp [World.setCell, this]
  · intro j hj h1 h2
    exact (Below.heap_setCell _ _ _ j h1).trans (HO.out j hj h1 h2)

def u8v (x : Nat) : Value := .int .u8 (x : Int)
/-- Between two rounds of first: what has come stands in the Builder. -/
def FSt (n b g cap : Nat) (pre : List Nat) (W : World) : Prop :=
  pre.length ≤ n ∧ ((n = 0 ∧ W.heap[b]? = some (.cells #[.pointer (some ⟨b, 0, none⟩), .slice none 0 0] 132 (0, 0))) ∨
    ∃ cur : Array Value, Bld b g pre.length cap cur W ∧ cur.size = cap ∧ n ≤ cap ∧ b ≠ g ∧ cur.toList.take pre.length = pre.map u8v)
def FI (n b g cap : Nat) (pre : List Nat) (S : Nat → Prop) (W : World) : Prop := (∀ k, S k ↔ k = b ∨ k = g) ∧ g < W.heap.size ∧ FSt n b g cap pre W
def FX (n b g cap : Nat) (c : Code) (pre : List Nat) (S : Nat → Prop) (W : World) : Prop := c = .exit 0 ∧ ∃ q, FI n b g cap q S W ∧ q.length = n ∧ q <+: pre
theorem FSt.lt {n b g cap : Nat} {pre : List Nat} {W : World} (h : FSt n b g cap pre W) : b < W.heap.size := by
  rcases h.2 with ⟨_, h⟩ | ⟨cur, h, _⟩
  · exact (Array.getElem?_eq_some_iff.1 h).1
  · exact (Array.getElem?_eq_some_iff.1 h.1).1
theorem FSt.same {n b g cap : Nat} {pre : List Nat} {W W2 : World} (h : FSt n b g cap pre W) (hb : W2.heap[b]? = W.heap[b]?) (hg : W2.heap[g]? = W.heap[g]?) : FSt n b g cap pre W2 := by
  refine ⟨h.1, ?_⟩
  rcases h.2 with ⟨h0, h⟩ | ⟨cur, ⟨h1, h2⟩, h3⟩
  · exact .inl ⟨h0, hb.trans h⟩
  · exact .inr ⟨cur, ⟨hb.trans h1, hg.trans h2⟩, h3⟩
theorem dep_FI (n b g cap : Nat) : Dep (FI n b g cap) := by
  refine ⟨?_, ?_⟩
  · rintro x S W W2 ⟨hS, hg, h⟩ hsz hk
    exact ⟨hS, by omega, h.same (hk b ((hS b).2 (.inl rfl))) (hk g ((hS g).2 (.inr rfl)))⟩
  · rintro x S W ⟨hS, hg, h⟩ k hk
    rcases (hS k).1 hk with rfl | rfl
    · exact h.lt
    · exact hg
theorem dep_FX (n b g cap : Nat) (c : Code) : Dep (FX n b g cap c) := by
  refine ⟨?_, ?_⟩
  · rintro x S W W2 ⟨hc, q, h, hq⟩ hsz hk
    exact ⟨hc, q, (dep_FI n b g cap).same q S W W2 h hsz hk, hq⟩
  · rintro x S W ⟨hc, q, h, hq⟩ k hk
    exact (dep_FI n b g cap).lt q S W h k hk
theorem byteCells_of (q : List Nat) (h : ∀ x ∈ q, x < 256) : Lib.byteCells (q.map UInt8.ofNat) = q.map u8v := by
  unfold Lib.byteCells
  rw [List.map_map]
  apply List.map_congr_left
  intro x hx
  have := h x hx
  simp [u8v, Nat.mod_eq_of_lt this]
theorem FSt.builder {n b g cap B : Nat} {q : List Nat} {W : World} (h : FSt n b g cap q W) (hb : B ≤ b) (hg : B ≤ g) (hq : ∀ x ∈ q, x < 256) (hcap : cap ≤ maxLen) : Lib.IsBuilderF 132 5 B b (Lib.byteCells (q.map UInt8.ofNat)) W := by
  right
  rw [byteCells_of q hq]
  rcases h.2 with ⟨h0, h1⟩ | ⟨cur, ⟨h1, h2⟩, h3, h4, h5, h6⟩
  · have : q = [] := List.length_eq_zero_iff.1 (by have := h.1; omega)
    subst this
    exact ⟨hb, _, h1, World.ownsRowF_nil W B 5 1, by simp [Value.ownBlock]⟩
  · refine ⟨hb, _, h1, ⟨by simp, .inr ⟨g, cap, cur, (0, 0), by simp, hg, h2, Nat.zero_le _, by simp; have := h.1; omega, hcap, by omega, ?_⟩⟩, by simp [Value.ownBlock]; omega⟩
    simpa using h6
end Go.Proofs.YtdajmekliodmcaaGreatDoor
