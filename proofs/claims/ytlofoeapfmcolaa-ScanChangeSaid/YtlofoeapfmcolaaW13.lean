/- The iterator of package codec that goes through bits, the highest first: what it hands out, whatever hands it its numbers. -/
import Derived.Test.YtlofoeapfmcolaaW12
namespace Go.Proofs.Ytlofoeapfmcolaa
set_option linter.unusedSimpArgs false
open Go.RowKit Go.Shelf
set_option linter.unusedVariables false
attribute [local go_sem] Oper.semAt_some

/-- What m bits, of which h's lowest ones are the lowest, tell in whole numbers of t bits. -/
def hiEmit (t h m : Nat) : List Nat := (List.range (m / t)).map fun i => h / 2 ^ (m - t * (i + 1)) % 2 ^ t
/-- The bits held, how many of them are yet to be told, what has been told. -/
def hiStep (f t : Nat) (s : Nat × Nat × List Nat) (x : Nat) : Nat × Nat × List Nat :=
  (s.1 * 2 ^ f % 18446744073709551616 ||| x, (s.2.1 + f) % t, s.2.2 ++ hiEmit t (s.1 * 2 ^ f % 18446744073709551616 ||| x) (s.2.1 + f))
def hiRun (f t : Nat) (l : List Nat) : Nat × Nat × List Nat := l.foldl (hiStep f t) (0, 0, [])
def hiAll (f t : Nat) (l : List Nat) : List Nat :=
  (hiRun f t l).2.2 ++ if 0 < (hiRun f t l).2.1 then [(hiRun f t l).1 * 2 ^ (t - (hiRun f t l).2.1) % 18446744073709551616 % 2 ^ t] else []
theorem hiRun_snoc (f t : Nat) (l : List Nat) (x : Nat) : hiRun f t (l ++ [x]) = hiStep f t (hiRun f t l) x := by simp [hiRun, List.foldl_append]
theorem hiRun_out (f t : Nat) (l m : List Nat) : (hiRun f t l).2.2 <+: (hiRun f t (l ++ m)).2.2 := by
  induction m generalizing l with
  | nil => simp
  | cons x m ih =>
    have h1 := ih (l ++ [x])
    rw [List.append_assoc, List.singleton_append, hiRun_snoc] at h1
    exact List.IsPrefix.trans ⟨_, rfl⟩ h1
theorem hiRun_all {f t : Nat} {l m : List Nat} (h : l <+: m) : (hiRun f t l).2.2 <+: hiAll f t m := by
  obtain ⟨k, rfl⟩ := h
  exact List.IsPrefix.trans (hiRun_out f t l k) ⟨_, rfl⟩
theorem hiEmit_length (t h m : Nat) : (hiEmit t h m).length = m / t := by simp [hiEmit]
theorem hiEmit_get (t h m i : Nat) (hi : i < m / t) : (hiEmit t h m)[i]'(by rw [hiEmit_length]; exact hi) = h / 2 ^ (m - t * (i + 1)) % 2 ^ t := by simp [hiEmit]
theorem hi_lt (f t : Nat) (ht : 0 < t) : ∀ (l : List Nat) (s : Nat × Nat × List Nat), s.1 < 18446744073709551616 → s.2.1 < t → (∀ x ∈ l, x < 256) → (l.foldl (hiStep f t) s).1 < 18446744073709551616 ∧ (l.foldl (hiStep f t) s).2.1 < t
  | [], _, h1, h2, _ => ⟨h1, h2⟩
  | x :: l, s, _, _, h => hi_lt f t ht l _ (Nat.or_lt_two_pow (n := 64) (Nat.mod_lt _ (by decide)) (by have := h x (by simp); omega)) (Nat.mod_lt _ ht) (fun y hy => h y (by simp [hy]))
theorem hiRun_lt (f t : Nat) (ht : 0 < t) (l : List Nat) (h : ∀ x ∈ l, x < 256) : (hiRun f t l).1 < 18446744073709551616 ∧ (hiRun f t l).2.1 < t := hi_lt f t ht l _ (by decide) ht h

/-- Between two rounds: what has been told is J's; the bits held and how many they are stand in two blocks of one's own. -/
def OwnI (J : List Nat → (Nat → Prop) → World → Prop) (b5 b6 : Nat) (run : List Nat → Nat × Nat × List Nat) (pre : List Nat) (S2 : Nat → Prop) (W2 : World) : Prop :=
  ∃ SJ : Nat → Prop, (∀ k, S2 k ↔ plus2 SJ b5 b6 k) ∧ ¬ SJ b5 ∧ ¬ SJ b6 ∧ J (run pre).2.2 SJ W2 ∧ Boxed W2 b5 76 (.int .u64 ((run pre).1 : Int)) ∧ Boxed W2 b6 3 (.int .i64 ((run pre).2.1 : Int))
def OwnX (Jx : List Nat → (Nat → Prop) → World → Prop) (b5 b6 : Nat) (xs : List Nat) (c : Code) (pre : List Nat) (S2 : Nat → Prop) (W2 : World) : Prop :=
  c = .ret ∧ ∃ (SJ : Nat → Prop) (q : List Nat), (∀ k, S2 k ↔ plus2 SJ b5 b6 k) ∧ b5 < W2.heap.size ∧ b6 < W2.heap.size ∧ q <+: xs ∧ Jx q SJ W2
theorem dep_ownI {J : List Nat → (Nat → Prop) → World → Prop} (hJ : Dep J) (b5 b6 : Nat) (run : List Nat → Nat × Nat × List Nat) : Dep (OwnI J b5 b6 run) := by
  refine ⟨?_, ?_⟩
  · rintro x S A C ⟨SJ, hS, h1, h2, hj, p5, p6⟩ hsz hk
    exact ⟨SJ, hS, h1, h2, hJ.same _ SJ A C hj hsz (fun k h => hk k ((hS k).2 (.inl h))), (hk b5 ((hS b5).2 (.inr (.inl rfl)))).trans p5, (hk b6 ((hS b6).2 (.inr (.inr rfl)))).trans p6⟩
  · rintro x S A ⟨SJ, hS, h1, h2, hj, p5, p6⟩ k hk
    rcases (hS k).1 hk with h | rfl | rfl
    · exact hJ.lt _ _ _ hj k h
    · exact p5.lt
    · exact p6.lt
theorem dep_ownX {Jx : List Nat → (Nat → Prop) → World → Prop} (hJ : Dep Jx) (b5 b6 : Nat) (xs : List Nat) (c : Code) : Dep (OwnX Jx b5 b6 xs c) := by
  refine ⟨?_, ?_⟩
  · rintro x S A C ⟨hc, SJ, q, hS, h1, h2, hq, hj⟩ hsz hk
    exact ⟨hc, SJ, q, hS, by omega, by omega, hq, hJ.same _ SJ A C hj hsz (fun k h => hk k ((hS k).2 (.inl h)))⟩
  · rintro x S A ⟨hc, SJ, q, hS, h1, h2, hq, hj⟩ k hk
    rcases (hS k).1 hk with h | rfl | rfl
    · exact hJ.lt _ _ _ hj k h
    · exact h1
    · exact h2
/-- The number in a block. -/
def boxN (w : World) (b : Nat) : Nat := match w.cell? ⟨b, 0, none⟩ with
  | some (.int _ q) => q.toNat
  | _ => 0
theorem boxN_eq {w : World} {b : Nat} {t : TypeId} {k : IntKind} {q : Nat} (h : Boxed w b t (.int k (q : Int))) : boxN w b = q := by
  unfold boxN; rw [h.cell]; simp
theorem Ext.box {S T : Nat → Prop} {A C : World} (h : Ext S T A C) {b : Nat} {t : TypeId} {v : Value} (hb : Boxed A b t v) (hs : ¬ S b) : Boxed C b t v := (h.keep b hb.lt hs).trans hb

/-- The end of a region that goes through. -/
def onlyK (K : Act → World → Prop) : Exit → Act → World → Prop
  | .normal, a, w => K a w
  | _, _, _ => False
theorem onlyK_then {K : Act → World → Prop} {Q : Exit → Act → World → Prop} (e : Exit) (a : Act) (w : World) (h : onlyK K e a w) : Exit.then K Q e a w := by
  cases e <;> first | exact h | exact h.elim

/-- One more block of one's own beside what J says. -/
theorem Ext.plus {S T : Nat → Prop} {A B : World} (h : Ext S T A B) (a b : Nat) : Ext (plus2 S a b) (plus2 T a b) A B :=
  h.weaken (fun k _ hk hs => hk (.inl hs)) (fun k _ hk ht => by rintro (h1 | h1 | h1); exact ht h1; exact hk (.inr (.inl h1)); exact hk (.inr (.inr h1)))
theorem ext_set (S : Nat → Prop) (W : World) (b : Nat) (v : Value) (hS : S b) : Ext S S W (W.setCell ⟨b, 0, none⟩ v) :=
  ⟨rfl, rfl, rfl, by simp [World.setCell], fun _ _ h => h, fun k _ hk => Below.heap_setCell _ _ _ _ (fun e => hk (by rw [e]; exact hS))⟩
/-- What has turned since a call began, told without the call's own two blocks. -/
theorem Ext.own {S0 S SJ0 SJ : Nat → Prop} {W w1 w2 : World} {a b : Nat} (h : Ext S0 S w1 w2) (hb : Below W.heap.size W w1) (ha : W.heap.size ≤ a) (hb2 : W.heap.size ≤ b) (h0 : ∀ k, S0 k → plus2 SJ0 a b k) (h1 : ∀ k, SJ k → S k) : Ext SJ0 SJ W w2 := by
  refine ⟨h.os.trans hb.os, h.tape.trans hb.tape, h.output.trans hb.output, Nat.le_trans hb.size h.size, fun k hk hs hj => ?_, fun k hk hs => ?_⟩
  · exact h.new k (by have := hb.size; omega) (fun h2 => by rcases h0 k h2 with h3 | h3 | h3; exact hs h3; omega; omega) (h1 k hj)
  · rw [h.keep k (by have := hb.size; omega) (fun h2 => by rcases h0 k h2 with h3 | h3 | h3; exact hs h3; omega; omega)]
    exact hb.block k hk

/-- What every step of the beginning keeps. -/
def Base (W : World) (B l bt t : Nat) (w : World) : Prop := bt < B ∧ B < w.heap.size ∧ Below B W w ∧ Boxed w B 75 (.func (.yield l) #[] #[]) ∧ w.cell? ⟨bt, 0, none⟩ = some (.int .i64 (t : Int))
theorem Base.alloc {W : World} {B l bt t : Nat} {w : World} (h : Base W B l bt t w) (o : Obj) : Base W B l bt t (w.alloc o) := by
  obtain ⟨h1, h2, h3, h4, h5⟩ := h
  refine ⟨h1, by simp; omega, h3.alloc (by omega) o, h4.alloc o, ?_⟩
  exact (World.cell?_of_block (w := w) (a := ⟨bt, 0, none⟩) (Below.heap_alloc w o bt (by omega))).trans h5
theorem Base.set {W : World} {B l bt t : Nat} {w : World} (h : Base W B l bt t w) (b : Nat) (hb : B < b) (v : Value) : Base W B l bt t (w.setCell ⟨b, 0, none⟩ v) := by
  obtain ⟨h1, h2, h3, h4, h5⟩ := h
  refine ⟨h1, by simp [World.setCell]; omega, h3.setCell (p := ⟨b, 0, none⟩) (by simp; omega) v, h4.other (by omega) v, ?_⟩
  exact (World.cell?_of_block (w := w) (a := ⟨bt, 0, none⟩) (Below.heap_setCell w ⟨b, 0, none⟩ v bt (by simp; omega))).trans h5
theorem exec_alloc49 {ρ : Operand → Value} {o : Oper} (ho : o.op = .alloc 76) (w : World) : (execOp ρ o).run Try.prog w = .ok (.value (.pointer (some ⟨w.heap.size, 0, none⟩))) (w.alloc (.cells #[.int .u64 0] 76)) := by
  unfold execOp; rw [ho]; go_simp
theorem exec_alloc3 {ρ : Operand → Value} {o : Oper} (ho : o.op = .alloc 3) (w : World) : (execOp ρ o).run Try.prog w = .ok (.value (.pointer (some ⟨w.heap.size, 0, none⟩))) (w.alloc (.cells #[.int .i64 0] 3)) := by
  unfold execOp; rw [ho]; go_simp
theorem exec_store49 {ρ : Operand → Value} {o : Oper} (x y : Operand) (ho : o.op = .store 76 x y) (b : Nat) (q u : Int) (hx : ρ x = .pointer (some ⟨b, 0, none⟩)) (hy : ρ y = .int .u64 q) (w : World) (hb : Boxed w b 76 (.int .u64 u)) : (execOp ρ o).run Try.prog w = .ok .skip (w.setCell ⟨b, 0, none⟩ (.int .u64 q)) := by
  have h1 := hb.cell
  have h2 := hb.frozen
  unfold execOp; rw [ho]; go_simp
theorem exec_store3 {ρ : Operand → Value} {o : Oper} (x y : Operand) (ho : o.op = .store 3 x y) (b : Nat) (q u : Int) (hx : ρ x = .pointer (some ⟨b, 0, none⟩)) (hy : ρ y = .int .i64 q) (w : World) (hb : Boxed w b 3 (.int .i64 u)) : (execOp ρ o).run Try.prog w = .ok .skip (w.setCell ⟨b, 0, none⟩ (.int .i64 q)) := by
  have h1 := hb.cell
  have h2 := hb.frozen
  unfold execOp; rw [ho]; go_simp

end Go.Proofs.Ytlofoeapfmcolaa
