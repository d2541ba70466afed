/- Several texts, one behind the other; each says by itself what it proves, and on what conditions. -/
import Derived.Test.YtdajmekliodmcaaGreatDoorK28
import Derived.Shelf.Abstract
import Derived.Test.YtdajmekliodmcaaGreatDoorProg
import Derived.RangeFuncNested
import Derived.RangeFuncBound
import Derived.RangeFuncCalls
import Derived.RangeFuncLeaves
import Derived.Shelf.RegionOpen
import Derived.WalkKit
import Derived.OwnWalkIn
import Derived.TacticsInMore
import Derived.LoopNIn
import Derived.LoopIn
import Derived.StillTail
import Derived.OrdersHeld
import Derived.Lib.Hide
namespace Go.Proofs.YtdajmekliodmcaaGreatDoor
set_option linter.unusedSimpArgs false
open Go.Proofs.YtdajmekliodmcaaGreatDoor.P8
set_option linter.unusedVariables false
def fitsC (c : UInt8) : Bool := (decide (97 ≤ c.toNat) && decide (c.toNat ≤ 122)) || (decide (65 ≤ c.toNat) && decide (c.toNat ≤ 90)) || (decide (48 ≤ c.toNat) && decide (c.toNat ≤ 57)) || decide (c.toNat = 45) || decide (c.toNat = 46) || decide (c.toNat = 95)
def mayL (l : List UInt8) : Bool := decide (1 ≤ l.length) && decide (l.length ≤ 64) && l.all fitsC
def textL (n g : List UInt8) : List UInt8 := if mayL n = true ∧ g.length = 64 then n ++ 58 :: b64 g else []
def colon : List UInt8 → Option (List UInt8 × List UInt8)
  | [] => none
  | c :: l => if c = 58 then some ([], l) else (colon l).map fun p => (c :: p.1, p.2)
def parseL (s : List UInt8) : Option (List UInt8 × List UInt8) :=
  match colon s with
  | none => none
  | some (p, r) => match get64 r with
    | none => none
    | some g => if textL p g = s then some (p, g) else none
theorem colon_some : ∀ {s p r : List UInt8}, colon s = some (p, r) → s = p ++ 58 :: r ∧ 58 ∉ p
  | [], p, r, h => by simp [colon] at h
  | c :: l, p, r, h => by
    unfold colon at h
    by_cases hc : c = 58
    · rw [if_pos hc] at h
      simp only [Option.some.injEq, Prod.mk.injEq] at h
      obtain ⟨rfl, rfl⟩ := h
      subst hc
      exact ⟨rfl, by simp⟩
    · rw [if_neg hc] at h
      cases hq : colon l with
      | none => rw [hq] at h; simp at h
      | some q =>
        obtain ⟨a, b⟩ := q
        rw [hq] at h
        simp only [Option.map_some, Option.some.injEq, Prod.mk.injEq] at h
        obtain ⟨rfl, rfl⟩ := h
        obtain ⟨h1, h2⟩ := colon_some hq
        exact ⟨by rw [h1]; rfl, by simp; exact ⟨fun e => hc e.symm, h2⟩⟩
theorem colon_app : ∀ (p r : List UInt8), 58 ∉ p → colon (p ++ 58 :: r) = some (p, r)
  | [], r, _ => by simp [colon]
  | c :: p, r, h => by
    simp at h
    have h2 := colon_app p r h.2
    show (if c = 58 then _ else _) = _
    rw [if_neg (fun e => h.1 e.symm)]
    show (colon (p ++ 58 :: r)).map _ = _
    rw [h2]
    rfl
theorem six_58 (d : Nat) : six d ≠ 58 := by
  by_cases h : d < 64
  · have : ∀ d, d < 64 → six d ≠ 58 := by decide +kernel
    exact this d h
  · unfold six
    rw [List.getD_eq_getElem?_getD, List.getElem?_eq_none (by show 64 ≤ d; omega)]
    decide
theorem b64_58 : ∀ l : List UInt8, 58 ∉ b64 l
  | a :: b :: c :: l => by
    have h := b64_58 l
    simp only [b64, List.mem_cons, not_or]
    exact ⟨(six_58 _).symm, (six_58 _).symm, (six_58 _).symm, (six_58 _).symm, h⟩
  | [a, b] => by
    simp only [b64, List.mem_cons, not_or]
    exact ⟨(six_58 _).symm, (six_58 _).symm, (six_58 _).symm, by decide, by simp⟩
  | [a] => by
    simp only [b64, List.mem_cons, not_or]
    exact ⟨(six_58 _).symm, (six_58 _).symm, by decide, by decide, by simp⟩
  | [] => by simp [b64]
theorem may_58 {n : List UInt8} (h : mayL n = true) : 58 ∉ n := by
  unfold mayL at h
  simp only [Bool.and_eq_true, List.all_eq_true] at h
  intro hm
  have := h.2 58 hm
  revert this
  decide
theorem may_len {n : List UInt8} (h : mayL n = true) : 1 ≤ n.length ∧ n.length ≤ 64 := by
  unfold mayL at h
  simp only [Bool.and_eq_true, decide_eq_true_eq] at h
  exact h.1
theorem text_may {n g : List UInt8} (h : mayL n = true) (hg : g.length = 64) : textL n g = n ++ 58 :: b64 g := if_pos ⟨h, hg⟩
theorem text_none {n g : List UInt8} (h : ¬ (mayL n = true ∧ g.length = 64)) : textL n g = [] := if_neg h
theorem get64_b64 (g : List UInt8) : get64 (b64 g) = some g := (get64_iff _ _).2 rfl
theorem parse_text {n g : List UInt8} (h : mayL n = true) (hg : g.length = 64) : parseL (textL n g) = some (n, g) := by
  have ht := text_may h hg
  unfold parseL
  rw [ht, colon_app n _ (may_58 h)]
  show (match get64 (b64 g) with | none => none | some g2 => if textL n g2 = n ++ 58 :: b64 g then some (n, g2) else none) = _
  rw [get64_b64]
  show (if textL n g = n ++ 58 :: b64 g then some (n, g) else none) = _
  rw [if_pos ht]
theorem parse_some {s n g : List UInt8} (h : parseL s = some (n, g)) : textL n g = s ∧ mayL n = true ∧ g.length = 64 := by
  unfold parseL at h
  cases hc : colon s with
  | none => rw [hc] at h; cases h
  | some q =>
    obtain ⟨p, r⟩ := q
    rw [hc] at h
    cases hg : get64 r with
    | none => simp only [hg] at h; cases h
    | some g2 =>
      simp only [hg] at h
      by_cases ht : textL p g2 = s
      · rw [if_pos ht] at h
        simp only [Option.some.injEq, Prod.mk.injEq] at h
        obtain ⟨rfl, rfl⟩ := h
        refine ⟨ht, ?_⟩
        by_cases hm : mayL p = true ∧ g2.length = 64
        · exact hm
        · rw [text_none hm] at ht
          subst ht
          cases hc
      · rw [if_neg ht] at h; cases h
theorem parse_not {s : List UInt8} (h : ∀ n g, mayL n = true → g.length = 64 → n ++ 58 :: b64 g ≠ s) : parseL s = none := by
  cases hp : parseL s with
  | none => rfl
  | some q =>
    obtain ⟨n, g⟩ := q
    obtain ⟨h1, h2, h3⟩ := parse_some hp
    rw [text_may h2 h3] at h1
    exact absurd h1 (h n g h2 h3)
def pieces : List UInt8 → List (List UInt8)
  | [] => [[]]
  | c :: l => if c = 58 then [] :: pieces l else match pieces l with
    | [] => [[c]]
    | h :: t => (c :: h) :: t
theorem pieces_some : ∀ {s p r : List UInt8}, colon s = some (p, r) → pieces s = p :: pieces r
  | [], p, r, h => by simp [colon] at h
  | c :: l, p, r, h => by
    unfold colon at h
    by_cases hc : c = 58
    · rw [if_pos hc] at h
      simp only [Option.some.injEq, Prod.mk.injEq] at h
      obtain ⟨rfl, rfl⟩ := h
      show (if c = 58 then _ else _) = _
      rw [if_pos hc]
    · rw [if_neg hc] at h
      cases hq : colon l with
      | none => rw [hq] at h; simp at h
      | some q =>
        obtain ⟨a, b⟩ := q
        rw [hq] at h
        simp only [Option.map_some, Option.some.injEq, Prod.mk.injEq] at h
        obtain ⟨rfl, rfl⟩ := h
        show (if c = 58 then _ else _) = _
        rw [if_neg hc, pieces_some hq]
theorem pieces_none : ∀ {s : List UInt8}, colon s = none → pieces s = [s]
  | [], _ => rfl
  | c :: l, h => by
    unfold colon at h
    by_cases hc : c = 58
    · rw [if_pos hc] at h; cases h
    · rw [if_neg hc] at h
      cases hq : colon l with
      | some q => rw [hq] at h; simp at h
      | none =>
        show (if c = 58 then _ else _) = _
        rw [if_neg hc, pieces_none hq]
def nameOf (l : List (List UInt8)) : List UInt8 := l.getD 0 []
def sigOf (l : List (List UInt8)) : Option (List UInt8) := if 2 ≤ l.length then get64 (l.getD 1 []) else none
theorem parse_pieces (s : List UInt8) : parseL s = match sigOf (pieces s) with
    | none => none
    | some g => if textL (nameOf (pieces s)) g = s then some (nameOf (pieces s), g) else none := by
  cases hc : colon s with
  | none =>
    rw [pieces_none hc]
    unfold parseL
    rw [hc]
    rfl
  | some q =>
    obtain ⟨p, r⟩ := q
    rw [pieces_some hc]
    cases hr : colon r with
    | none =>
      rw [pieces_none hr]
      unfold parseL
      rw [hc]
      rfl
    | some q2 =>
      obtain ⟨p2, r2⟩ := q2
      rw [pieces_some hr]
      have h1 : parseL s = none := by
        refine parse_not (fun n g hn hg e => ?_)
        rw [← e, colon_app n _ (may_58 hn)] at hc
        simp only [Option.some.injEq, Prod.mk.injEq] at hc
        obtain ⟨rfl, rfl⟩ := hc
        have := (colon_some hr).1
        exact b64_58 g (by rw [this]; simp)
      rw [h1]
      show none = match get64 p2 with | none => none | some g => if textL p g = s then some (p, g) else none
      cases hg : get64 p2 with
      | none => rfl
      | some g =>
        have hb := (get64_iff _ _).1 hg
        show none = if textL p g = s then some (p, g) else none
        rw [if_neg]
        intro e
        by_cases hm : mayL p = true ∧ g.length = 64
        · rw [text_may hm.1 hm.2, hb, (colon_some hc).1, (colon_some hr).1] at e
          have h2 := congrArg List.length e
          simp at h2
        · rw [text_none hm] at e
          subst e
          cases hc
open Go.RowKit Go.Shelf
set_option maxRecDepth 100000 in
set_option maxHeartbeats 1000000 in
theorem fits_any (c : UInt8) (w : World) : Calls Tryz.prog 59 #[.int .u8 (c.toNat : Int)] w fun e w' => e = .returned (.bool (fitsC c)) ∧ w' = w := by
  obtain ⟨b, hb⟩ : ∃ b, Hid (b = fitsC c) := ⟨_, Lib.hid rfl⟩
  rw [← hb.out]
  go_enter Tryz.func59, Tryz.ntmps59
  go_wp2
  all_goals
    go_ret
    refine ⟨?_, rfl⟩
    rw [hb.out]
    refine congrArg Ending.returned (congrArg Value.bool ?_)
    rw [Bool.eq_iff_iff]
    simp [fitsC]
    omega
theorem all_step (l : List UInt8) (k : Nat) (hk : k < l.length) : ((l.take (k + 1)).all fitsC) = (((l.take k).all fitsC) && fitsC l[k]) := by
  rw [List.take_add_one, List.all_append, List.getElem?_eq_getElem hk]
  simp
theorem all_stop (l : List UInt8) (k : Nat) (hk : k < l.length) (h : fitsC l[k] = false) : l.all fitsC = false := by
  rw [List.all_eq_false]
  exact ⟨l[k], List.getElem_mem hk, by rw [h]; decide⟩
theorem mayL_bad {l : List UInt8} (h : ¬ (1 ≤ l.length ∧ l.length ≤ 64)) : mayL l = false := by
  unfold mayL
  by_cases h1 : 1 ≤ l.length
  · rw [decide_eq_true h1, decide_eq_false (fun h2 => h ⟨h1, h2⟩)]; rfl
  · rw [decide_eq_false h1]; rfl
theorem mayL_all {l : List UInt8} (h1 : 1 ≤ l.length) (h2 : l.length ≤ 64) : mayL l = l.all fitsC := by
  unfold mayL
  rw [decide_eq_true h1, decide_eq_true h2]; rfl
set_option maxRecDepth 100000 in
set_option maxHeartbeats 1000000 in
theorem may_any (s : ByteArray) (w : World) : Calls Tryz.prog 25 #[.string s] w fun e w' => e = .returned (.bool (mayL s.data.toList)) ∧ w' = w := by
  obtain ⟨b, hb⟩ : ∃ b, Hid (b = mayL s.data.toList) := ⟨_, Lib.hid rfl⟩
  rw [← hb.out]
  have hsl : s.data.toList.length = s.size := rfl
  by_cases hin : 1 ≤ s.size ∧ s.size ≤ 64
  · have h1 : ¬ (s.size : Int) < 1 := by omega
    have h2 : ¬ (s.size : Int) > 64 := by omega
    have hle : (s.size : Int) ≤ 64 := by omega
    have hB : Hid (b = s.data.toList.all fitsC) := by unfold Hid; rw [hb.out]; exact mayL_all hin.1 hin.2
    go_enter Tryz.func25, Tryz.ntmps25
    go_wp2
    go_loopw [14] (fun i wr => ∃ k : Nat, k ≤ s.size ∧ i = .int .i64 k ∧ (s.data.toList.take k).all fitsC = true ∧ wr = w) (fun i _ => s.size - (intOf i).toNat)
    case atStart => exact ⟨0, Nat.zero_le _, rfl, by simp, rfl⟩
    case round =>
      obtain ⟨k, hk, rfl, hall, rfl⟩ := hrel
      have HALL := Lib.hid hall
      clear hall
      by_cases hlt : k < s.size
      · have hltI : (k : Int) < (s.size : Int) := by omega
        cases hf : fitsC s[k] with
        | true =>
          have hst : Hid ((s.data.toList.take (k + 1)).all fitsC = true) := by
            unfold Hid
            rw [all_step _ k hlt, HALL.out]
            exact hf
          have HF := Lib.hid (fits_any s[k])
          rw [hf] at HF
          clear hf
          go_wp2_with (go_at_call 59; refine (HF.out _).mono ?_; rintro e w1 ⟨rfl, rfl⟩)
          go_roundw
          case rel => exact ⟨k + 1, by omega, by first | rfl | simp | go_num, hst.out, by simp⟩
          case measure => simp [intOf]; omega
        | false =>
          have hst : Hid (s.data.toList.all fitsC = false) := Lib.hid (all_stop _ k hlt hf)
          have HF := Lib.hid (fits_any s[k])
          rw [hf] at HF
          clear hf
          go_wp2_with (go_at_call 59; refine (HF.out _).mono ?_; rintro e w1 ⟨rfl, rfl⟩)
          go_ret
          exact ⟨by rw [hB.out, hst.out]; rfl, rfl⟩
      · obtain rfl : k = s.size := by omega
        have hfin : Hid (b = true) := by
          unfold Hid
          rw [hB.out, ← HALL.out, List.take_of_length_le (show s.data.toList.length ≤ s.size from Nat.le_refl _)]
        go_wp2
        go_ret
        exact ⟨by rw [hfin.out]; rfl, rfl⟩
  · have hB : Hid (b = false) := by unfold Hid; rw [hb.out]; exact mayL_bad hin
    by_cases hz : s.size = 0
    · have h1 : (s.size : Int) < 1 := by omega
      go_enter Tryz.func25, Tryz.ntmps25
      go_wp2
      go_ret
      exact ⟨by rw [hB.out]; rfl, rfl⟩
    · have h1 : ¬ (s.size : Int) < 1 := by omega
      have h2 : (s.size : Int) > 64 := by omega
      go_enter Tryz.func25, Tryz.ntmps25
      go_wp2
      go_ret
      exact ⟨by rw [hB.out]; rfl, rfl⟩
structure Ext (S S2 : Nat → Prop) (W W2 : World) : Prop where
  os : W2.os = W.os
  tape : W2.tape = W.tape
  output : W2.output = W.output
  size : W.heap.size ≤ W2.heap.size
  new : ∀ k, k < W.heap.size → ¬ S k → ¬ S2 k
  keep : ∀ k, k < W.heap.size → ¬ S k → W2.heap[k]? = W.heap[k]?
theorem Ext.refl (S : Nat → Prop) (W : World) : Ext S S W W := ⟨rfl, rfl, rfl, Nat.le_refl _, fun _ _ h => h, fun _ _ _ => rfl⟩
theorem Ext.trans {S T U : Nat → Prop} {A B C : World} (h : Ext S T A B) (k : Ext T U B C) : Ext S U A C :=
  ⟨k.os.trans h.os, k.tape.trans h.tape, k.output.trans h.output, Nat.le_trans h.size k.size,
   fun i hi hs => k.new i (Nat.lt_of_lt_of_le hi h.size) (h.new i hi hs),
   fun i hi hs => (k.keep i (Nat.lt_of_lt_of_le hi h.size) (h.new i hi hs)).trans (h.keep i hi hs)⟩
theorem Ext.below {S T : Nat → Prop} {A B : World} {n : Nat} (h : Ext S T A B) (hn : n ≤ A.heap.size) (hs : ∀ k, S k → n ≤ k) : Below n A B :=
  ⟨h.os, h.tape, h.output, h.size, fun k hk => h.keep k (by omega) (fun h2 => by have := hs k h2; omega)⟩
theorem Ext.drew {S T : Nat → Prop} {A B : World} (h : Ext S T A B) : Ext S T A B.drew := ⟨h.os, h.tape, h.output, h.size, h.new, h.keep⟩
theorem Ext.undrew {S T : Nat → Prop} {A B : World} (h : Ext S T A.drew B) : Ext S T A B := ⟨h.os, h.tape, h.output, h.size, h.new, h.keep⟩
theorem Ext.weaken {S S1 T T1 : Nat → Prop} {A B : World} (h : Ext S T A B) (hS : ∀ k, k < A.heap.size → ¬ S1 k → ¬ S k) (hT : ∀ k, k < A.heap.size → ¬ S1 k → ¬ T k → ¬ T1 k) : Ext S1 T1 A B :=
  ⟨h.os, h.tape, h.output, h.size, fun k hk hs => hT k hk hs (h.new k hk (hS k hk hs)), fun k hk hs => h.keep k hk (hS k hk hs)⟩
theorem Ext.cell {S T : Nat → Prop} {A B : World} (h : Ext S T A B) {p : Addr} (hp : p.block < A.heap.size) (hs : ¬ S p.block) : B.cell? p = A.cell? p :=
  World.cell?_of_block (w := A) (h.keep p.block hp hs)
theorem Ext.of_below {W W2 : World} (S : Nat → Prop) (h : Below W.heap.size W W2) : Ext S S W W2 :=
  ⟨h.os, h.tape, h.output, h.size, fun _ _ h => h, fun k hk _ => h.block k hk⟩
structure Dep (J : List Nat → (Nat → Prop) → World → Prop) : Prop where
  same : ∀ x S W W2, J x S W → W.heap.size ≤ W2.heap.size → (∀ k, S k → W2.heap[k]? = W.heap[k]?) → J x S W2
  lt : ∀ x S W, J x S W → ∀ k, S k → k < W.heap.size
theorem Dep.alloc {J : List Nat → (Nat → Prop) → World → Prop} (h : Dep J) {x : List Nat} {S : Nat → Prop} {W : World} (o : Obj) (hj : J x S W) : J x S (W.alloc o) :=
  h.same x S W _ hj (by simp) (fun k hk => Below.heap_alloc _ _ _ (h.lt _ _ _ hj k hk))
theorem Dep.drew {J : List Nat → (Nat → Prop) → World → Prop} (h : Dep J) {x : List Nat} {S : Nat → Prop} {W : World} (hj : J x S W) : J x S W.drew :=
  h.same x S W _ hj (Nat.le_refl _) (fun _ _ => rfl)
theorem Dep.setCell {J : List Nat → (Nat → Prop) → World → Prop} (h : Dep J) {x : List Nat} {S : Nat → Prop} {W : World} (p : Addr) (v : Value) (hp : ¬ S p.block) (hj : J x S W) : J x S (W.setCell p v) :=
  h.same x S W _ hj (by simp [World.setCell]) (fun k hk => Below.heap_setCell _ _ _ _ (fun e => hp (e ▸ hk)))
theorem Dep.put {J : List Nat → (Nat → Prop) → World → Prop} (h : Dep J) {x : List Nat} {S : Nat → Prop} {W : World} (l : Nat) (o : Obj) (hp : ¬ S l) (hj : J x S W) : J x S (W.putObj l o) :=
  h.same x S W _ hj (by simp) (fun k hk => World.putObj_heap_other (fun e => hp (e ▸ hk)))
section
variable {P : Program}
def YPost (J Jx : List Nat → (Nat → Prop) → World → Prop) (xs : List Nat) (S : Nat → Prop) (W : World) (e : Ending) (W2 : World) : Prop :=
  ∃ S2, Ext S S2 W W2 ∧ ((e = .returned (.bool true) ∧ J xs S2 W2) ∨ (e = .returned (.bool false) ∧ Jx xs S2 W2))
def SeqOK (P : Program) (g : Nat) (lb : Array Value) (xs : List Nat) (n0 : Nat) (w0 : World) : Prop :=
  n0 ≤ w0.heap.size ∧ ∀ (m l : Nat) (J Jx : List Nat → (Nat → Prop) → World → Prop) (S : Nat → Prop) (W : World), Below n0 w0 W → Dep J → Dep Jx → (∀ k, S k → n0 ≤ k) →
    (∀ (pre : List Nat) (x : Nat) (S1 : Nat → Prop) (W1 : World), Ext S S1 W W1 → J pre S1 W1 → pre ++ [x] <+: xs → YieldAt Fence.wide 0 P l #[.int .u8 (x : Int)] W1 (YPost J Jx (pre ++ [x]) S1 W1)) →
    J [] S W →
    CallsIn Fence.wide m P g (#[.func (.yield l) #[] #[]] ++ lb) W fun e W2 => (∃ v, e = .returned v) ∧ ∃ S2, Ext S S2 W W2 ∧ (J xs S2 W2 ∨ ∃ pre, pre <+: xs ∧ Jx pre S2 W2)
theorem SeqOK.later {g : Nat} {lb : Array Value} {xs : List Nat} {n0 : Nat} {w0 w1 : World} (h : SeqOK P g lb xs n0 w0) (hb : Below n0 w0 w1) : SeqOK P g lb xs n0 w1 :=
  ⟨Nat.le_trans h.1 hb.size, fun m l J Jx S W hW => h.2 m l J Jx S W (hb.trans hW)⟩
theorem SeqOK.up {g : Nat} {lb : Array Value} {xs : List Nat} {n0 n1 : Nat} {w0 : World} (h : SeqOK P g lb xs n0 w0) (hn : n0 ≤ n1) (h1 : n1 ≤ w0.heap.size) : SeqOK P g lb xs n1 w0 :=
  ⟨h1, fun m l J Jx S W hW hJ hJx hS => h.2 m l J Jx S W (hW.mono hn) hJ hJx (fun k hk => Nat.le_trans hn (hS k hk))⟩
def setPost (I : List Nat → (Nat → Prop) → World → Prop) (Ix : Code → List Nat → (Nat → Prop) → World → Prop) (xs : List Nat) (S : Nat → Prop) (W : World) : Exit → Act → World → Prop
  | .normal, _, W2 => ∃ S2, Ext S S2 W W2 ∧ I xs S2 W2
  | .ret, _, W2 => ∃ S2, Ext S S2 W W2 ∧ Ix .ret xs S2 W2
  | .exit id, _, W2 => ∃ S2, Ext S S2 W W2 ∧ Ix (.exit id) xs S2 W2
  | .goto t, _, W2 => ∃ S2, Ext S S2 W W2 ∧ Ix (.goto t) xs S2 W2
  | .panic _, _, _ => False
  | .outgrown, _, _ => False
def plus2 (S : Nat → Prop) (a b : Nat) : Nat → Prop := fun k => S k ∨ k = a ∨ k = b
theorem wpIn_rangeFunc_set {n : Nat} {g : Operand} {ps : Array Tmp} {assign body : Code} {Q : Exit → Act → World → Prop} {a : Act} {w : World}
    {gf : Nat} {lb : Array Value} (hg : a.eval g = .func (.func gf) #[] lb) (eg : ∀ args w, (callFunc gf args).run P w = .ok (.enter gf args) w)
    {xs : List Nat} {n0 : Nat} {w0 : World} (hseq : SeqOK P gf lb xs n0 w0) (hb0 : Below n0 w0 w) (hps : ps.size = 1)
    (I : List Nat → (Nat → Prop) → World → Prop) (Ix : Code → List Nat → (Nat → Prop) → World → Prop) (hI : Dep I) (hIx : ∀ c, Dep (Ix c))
    (S0 : Nat → Prop) (hS0 : ∀ k, S0 k → n0 ≤ k) (h0 : I [] S0 w) (a₁ : Nat → Act)
    (hassign : ∀ (l x : Nat) (W : World) (K : Act → World → Prop), K (a₁ x) W →
      assign.wpIn (Fence.wide.inRound l) n P (Exit.then K (fun _ _ _ => False)) { tmps := (ps.zip #[.int .u8 (x : Int)]).foldl (fun t (p, v) => t.setIfInBounds p v) a.tmps, defers := [] } W)
    (hbody : ∀ (l : Nat) (pre : List Nat) (x : Nat) (S : Nat → Prop) (W : World), Ext S0 S w W → I pre S W → pre ++ [x] <+: xs → body.wpIn (Fence.wide.inRound l) n P (setPost I Ix (pre ++ [x]) S W) (a₁ x) W)
    (hdone : ∀ (D : Nat) (S2 : Nat → Prop) (W : World), w.heap.size ≤ D → ¬ S2 D → Ext S0 S2 w W → I xs S2 W → W.heap[D]? = some (.deferred (some [])) → Q .normal { a with defers := { target := .collected D, args := #[] } :: a.defers } W)
    (hstop : ∀ (D : Nat) (c : Code) (pre : List Nat) (S2 : Nat → Prop) (W : World), w.heap.size ≤ D → ¬ S2 D → Ext S0 S2 w W → pre <+: xs → Ix c pre S2 W → W.heap[D]? = some (.deferred (some [])) → c.wpIn Fence.wide n P Q { a with defers := { target := .collected D, args := #[] } :: a.defers } W) :
    (Code.rangeFunc g ps assign body).wpIn Fence.wide n P Q a w := by
  refine wpIn_rangeFunc ?_
  intro fn hfn
  obtain ⟨rec, hrec⟩ : ∃ rec : LoopState → Option Code → Loop, rec = fun st pe => { state := st, pending := pe, fn, tmps := a.tmps, params := ps, assign, body, defers := w.heap.size } := ⟨_, rfl⟩
  obtain ⟨W1, hW1⟩ : ∃ W1, (w.alloc (.deferred (some []))).alloc (.loop (rec .ready none)) = W1 := ⟨_, rfl⟩
  have hsz1 : W1.heap.size = w.heap.size + 2 := by rw [← hW1]; simp
  have hL1 : W1.heap[w.heap.size + 1]? = some (.loop (rec .ready none)) := by
    rw [← hW1]; have := World.alloc_heap_new (w.alloc (.deferred (some []))) (.loop (rec .ready none)); rwa [World.size_alloc] at this
  have hK1 : W1.heap[w.heap.size]? = some (.deferred (some [])) := by
    rw [← hW1]; exact (Below.heap_alloc _ _ _ (by simp)).trans (World.alloc_heap_new w _)
  have hI1 : I [] S0 W1 := by rw [← hW1]; exact hI.alloc _ (hI.alloc _ h0)
  have hbw : Below w.heap.size w W1 := by rw [← hW1]; exact ((Below.refl _ w).alloc (Nat.le_refl _) _).alloc (by simp) _
  have hn0 : n0 ≤ w.heap.size := Nat.le_trans hseq.1 hb0.size
  have hS0w : ∀ k, S0 k → k < w.heap.size := hI.lt _ _ _ h0
  have hE1 : Ext S0 S0 w W1 := Ext.of_below S0 hbw
  refine ⟨w.heap.size + 1, [{ target := .collected w.heap.size, args := #[] }], W1, { target := .fn (.func gf) lb, args := #[.func (.yield (w.heap.size + 1)) #[] #[]] }, W1, gf,
    #[.func (.yield (w.heap.size + 1)) #[] #[]] ++ lb, W1, ?_, ?_, ?_, ?_, fun h => (by cases h), ?_⟩
  · rw [← hW1, hrec]; exact run_enterLoop_outer _ _ _ _ _
  · simp only [resolve, hg]
    simp [go_sem]
  · intro f' _; trivial
  · simp [invoke, go_sem, eg]
  · refine (hseq.2 (n - 1) (w.heap.size + 1)
      (fun pre S W => ∃ SI, (∀ k, S k ↔ plus2 SI (w.heap.size + 1) w.heap.size k) ∧ ¬ SI (w.heap.size + 1) ∧ ¬ SI w.heap.size ∧ I pre SI W ∧ W.heap[w.heap.size + 1]? = some (.loop (rec .ready none)) ∧ W.heap[w.heap.size]? = some (.deferred (some [])))
      (fun pre S W => ∃ SI c, (∀ k, S k ↔ plus2 SI (w.heap.size + 1) w.heap.size k) ∧ ¬ SI (w.heap.size + 1) ∧ ¬ SI w.heap.size ∧ Ix c pre SI W ∧ W.heap[w.heap.size + 1]? = some (.loop (rec .done (some c))) ∧ W.heap[w.heap.size]? = some (.deferred (some [])))
      (plus2 S0 (w.heap.size + 1) w.heap.size) W1 (hb0.trans (hbw.mono hn0)) ?_ ?_ ?_ ?_ ?_).mono ?_
    · refine ⟨fun x S A B ⟨SI, hS, h1, h2, hi, hl, hk⟩ hsz hsame => ⟨SI, hS, h1, h2, hI.same _ _ _ _ hi hsz (fun k hk2 => hsame k ((hS k).2 (.inl hk2))), (hsame _ ((hS _).2 (.inr (.inl rfl)))).trans hl, (hsame _ ((hS _).2 (.inr (.inr rfl)))).trans hk⟩, ?_⟩
      rintro x S A ⟨SI, hS, h1, h2, hi, hl, hk⟩ k hk2
      rcases (hS k).1 hk2 with h | rfl | rfl
      · exact hI.lt _ _ _ hi k h
      · exact (Array.getElem?_eq_some_iff.1 hl).1
      · exact (Array.getElem?_eq_some_iff.1 hk).1
    · refine ⟨fun x S A B ⟨SI, c, hS, h1, h2, hi, hl, hk⟩ hsz hsame => ⟨SI, c, hS, h1, h2, (hIx c).same _ _ _ _ hi hsz (fun k hk2 => hsame k ((hS k).2 (.inl hk2))), (hsame _ ((hS _).2 (.inr (.inl rfl)))).trans hl, (hsame _ ((hS _).2 (.inr (.inr rfl)))).trans hk⟩, ?_⟩
      rintro x S A ⟨SI, c, hS, h1, h2, hi, hl, hk⟩ k hk2
      rcases (hS k).1 hk2 with h | rfl | rfl
      · exact (hIx c).lt _ _ _ hi k h
      · exact (Array.getElem?_eq_some_iff.1 hl).1
      · exact (Array.getElem?_eq_some_iff.1 hk).1
    · rintro k (h | rfl | rfl)
      · exact hS0 k h
      · omega
      · omega
    · -- one round
      rintro pre x S1 W hE ⟨SI, hS, hn1, hn2, hi, hl, hk⟩ hpre
      have hlt : w.heap.size + 1 < W.heap.size := (Array.getElem?_eq_some_iff.1 hl).1
      have hy := run_yield (P := P) (args := #[.int .u8 (x : Int)]) hl (by rw [hrec]; exact hps.symm)
      rw [hrec] at hy
      refine ⟨fn, _, assign, body, hy, anyDepthR (m := n) rfl (roundIn_of_wpIn hfn (hassign _ x W _ ⟨_, run_beginRound hl (by rw [hrec]), ?_⟩))⟩
      clear hy
      have hl2 : (W.putObj (w.heap.size + 1) (.loop { rec .ready none with state := .busy })).heap[w.heap.size + 1]? = some (.loop { rec .ready none with state := .busy }) := World.putObj_heap_same hlt
      have hk2 : (W.putObj (w.heap.size + 1) (.loop { rec .ready none with state := .busy })).heap[w.heap.size]? = some (.deferred (some [])) := (World.putObj_heap_other (by omega)).trans hk
      have hEw : Ext S0 SI w (W.putObj (w.heap.size + 1) (.loop { rec .ready none with state := .busy })) := by
        have h3 := grownBy_putObj' W (w.heap.size + 1) (.loop { rec .ready none with state := .busy })
        refine ⟨h3.os.trans (hE.os.trans hE1.os), h3.tape.trans (hE.tape.trans hE1.tape), h3.output.trans (hE.output.trans hE1.output), by simp; omega, fun k hk3 hs h4 => ?_, fun k hk3 hs => ?_⟩
        · exact hE.new k (by omega) (by rintro (h | h | h); exact hs h; omega; omega) ((hS k).2 (.inl h4))
        · rw [World.putObj_heap_other (by omega), hE.keep k (by omega) (by rintro (h | h | h); exact hs h; omega; omega)]
          exact hbw.block k hk3
      refine wpIn_mono (hbody _ pre x SI _ hEw (hI.put _ _ hn1 hi) hpre) ?_
      have fin : ∀ (jump : Option Code) (SJ : Nat → Prop) (W3 : World), Ext SI SJ (W.putObj (w.heap.size + 1) (.loop { rec .ready none with state := .busy })) W3 →
          (Instr.endRound (w.heap.size + 1) jump).run P W3 = .ok (.bool jump.isNone) (W3.putObj (w.heap.size + 1) (.loop (rec (if jump.isNone then .ready else .done) jump))) ∧
          ¬ SJ (w.heap.size + 1) ∧ ¬ SJ w.heap.size ∧
          (W3.putObj (w.heap.size + 1) (.loop (rec (if jump.isNone then .ready else .done) jump))).heap[w.heap.size + 1]? = some (.loop (rec (if jump.isNone then .ready else .done) jump)) ∧
          (W3.putObj (w.heap.size + 1) (.loop (rec (if jump.isNone then .ready else .done) jump))).heap[w.heap.size]? = some (.deferred (some [])) ∧
          Ext S1 (plus2 SJ (w.heap.size + 1) w.heap.size) W (W3.putObj (w.heap.size + 1) (.loop (rec (if jump.isNone then .ready else .done) jump))) := fun jump SJ W3 hk3 => by
        have hszp : (W.putObj (w.heap.size + 1) (.loop { rec .ready none with state := .busy })).heap.size = W.heap.size := by simp
        have hl3 := (hk3.keep _ (by omega) hn1).trans hl2
        have hr := run_endRound (P := P) jump hl3
        rw [hrec] at hr ⊢
        refine ⟨hr, hk3.new _ (by omega) hn1, hk3.new _ (by omega) hn2, World.putObj_heap_same (Array.getElem?_eq_some_iff.1 hl3).1, (World.putObj_heap_other (by omega)).trans ((hk3.keep _ (by omega) hn2).trans hk2), ?_⟩
        refine ⟨hk3.os, hk3.tape, hk3.output, by have := hk3.size; simp; omega, fun k hk4 hs => ?_, fun k hk4 hs => ?_⟩
        · rintro (h | rfl | rfl)
          · exact hk3.new k (by omega) (fun h5 => hs ((hS k).2 (.inl h5))) h
          · exact hs ((hS _).2 (.inr (.inl rfl)))
          · exact hs ((hS _).2 (.inr (.inr rfl)))
        · have hkl : k ≠ w.heap.size + 1 := fun e => hs ((hS k).2 (.inr (.inl e)))
          rw [World.putObj_heap_other hkl, hk3.keep k (by omega) (fun h5 => hs ((hS k).2 (.inl h5))), World.putObj_heap_other hkl]
      rintro e a3 W3 hp
      cases e with
      | normal =>
        obtain ⟨SJ, hk3, hi3⟩ := hp
        obtain ⟨hr, q1, q2, hl4, hk4, hE4⟩ := fin none SJ W3 hk3
        exact ⟨_, _, hr, _, hE4, .inl ⟨rfl, SJ, fun _ => Iff.rfl, q1, q2, hI.put _ _ q1 hi3, hl4, hk4⟩⟩
      | ret =>
        obtain ⟨SJ, hk3, hi3⟩ := hp
        obtain ⟨hr, q1, q2, hl4, hk4, hE4⟩ := fin (some .ret) SJ W3 hk3
        exact ⟨_, _, hr, _, hE4, .inr ⟨rfl, SJ, .ret, fun _ => Iff.rfl, q1, q2, (hIx _).put _ _ q1 hi3, hl4, hk4⟩⟩
      | exit id =>
        obtain ⟨SJ, hk3, hi3⟩ := hp
        obtain ⟨hr, q1, q2, hl4, hk4, hE4⟩ := fin (some (.exit id)) SJ W3 hk3
        exact ⟨_, _, hr, _, hE4, .inr ⟨rfl, SJ, .exit id, fun _ => Iff.rfl, q1, q2, (hIx _).put _ _ q1 hi3, hl4, hk4⟩⟩
      | goto t =>
        obtain ⟨SJ, hk3, hi3⟩ := hp
        obtain ⟨hr, q1, q2, hl4, hk4, hE4⟩ := fin (some (.goto t)) SJ W3 hk3
        exact ⟨_, _, hr, _, hE4, .inr ⟨rfl, SJ, .goto t, fun _ => Iff.rfl, q1, q2, (hIx _).put _ _ q1 hi3, hl4, hk4⟩⟩
      | panic ch => exact hp.elim
      | outgrown => exact hp.elim
    · exact ⟨S0, fun _ => Iff.rfl, fun h => by have := hS0w _ h; omega, fun h => by have := hS0w _ h; omega, hI1, hL1, hK1⟩
    · -- behind the iterator
      have out : ∀ (S2 SI : Nat → Prop) (W2 : World) (o : Obj), Ext (plus2 S0 (w.heap.size + 1) w.heap.size) S2 W1 W2 → (∀ k, S2 k ↔ plus2 SI (w.heap.size + 1) w.heap.size k) → Ext S0 SI w (W2.putObj (w.heap.size + 1) o) := fun S2 SI W2 o hE hS => by
        have h3 := grownBy_putObj' W2 (w.heap.size + 1) o
        refine ⟨h3.os.trans (hE.os.trans hE1.os), h3.tape.trans (hE.tape.trans hE1.tape), h3.output.trans (hE.output.trans hE1.output), by have := hE.size; simp; omega, fun k hk3 hs h4 => ?_, fun k hk3 hs => ?_⟩
        · exact hE.new k (by omega) (by rintro (h | h | h); exact hs h; omega; omega) ((hS k).2 (.inl h4))
        · rw [World.putObj_heap_other (by omega), hE.keep k (by omega) (by rintro (h | h | h); exact hs h; omega; omega)]
          exact hbw.block k hk3
      rintro e W2 ⟨⟨v, rfl⟩, S2, hE, (⟨SI, hS, hn1, hn2, hi, hl, hk⟩ | ⟨pre, hp, SI, c, hS, hn1, hn2, hi, hl, hk⟩)⟩
      · exact ⟨none, _, by have := run_endLoop (P := P) hl (by rw [hrec]; simp); rw [hrec] at this; exact this, hdone _ SI _ (Nat.le_refl _) hn2 (out _ _ _ _ hE hS) (hI.put _ _ hn1 hi) ((World.putObj_heap_other (by omega)).trans hk)⟩
      · exact ⟨some c, _, by have := run_endLoop (P := P) hl (by rw [hrec]; simp); rw [hrec] at this; exact this, hstop _ c pre SI _ (Nat.le_refl _) hn2 (out _ _ _ _ hE hS) hp ((hIx c).put _ _ hn1 hi) ((World.putObj_heap_other (by omega)).trans hk)⟩
end
end Go.Proofs.YtdajmekliodmcaaGreatDoor
namespace Go.Proofs.YtdajmekliodmcaaGreatDoor
set_option linter.unusedSimpArgs false
open Go.Proofs.YtdajmekliodmcaaGreatDoor.P8
open Go.RowKit
set_option linter.unusedVariables false
section
variable {F : Fence} {n : Nat} {P : Program} {ops : Array Oper} {Q : Exit → Act → World → Prop} {md : Region.Mode} {S : Nat → World → Prop}
variable {T : Nat → Bool} {k : Nat} {listed : Array Bool} {a : Act} {w w2 : World} {i : Nat} {rs : List Nat}
theorem AnyG.takeB (i : Nat) (d : Option Tmp) (c : Call) (v : Value) (hro : F.round = none) (ho : (ops[i]?).map (fun o => (o.dst, o.op, o.guard)) = some (d, .call c, none)) (hs : Region.noSelect ops = true) (hf : Region.free md ops listed i = true) (hr : (Region.ready md ops listed).contains i = true)
    (hc : closedB md ops listed = true) (hT : T i = true) (hQ : ∀ c a w, Q (.panic c) (a.put d v) w → Q (.panic c) a w)
    (hab : ∀ (o : Oper), o.op = .call c → ∀ w, o.about P w a.eval = none)
    (hy : ∀ (o : Oper), o.op = .call c → ∀ w, S i w → (execOp a.eval o).run P w = .ok (.value v) w) (hS : S i w)
    (h : AnyG F n P md ops Q T S k (listed.setIfInBounds i true) (a.put d v) w) : AnyG F n P md ops Q T S (k + 1) listed a w := by
  cases hq : ops[i]? with
  | none => simp [hq] at ho
  | some o =>
    simp [hq] at ho
    obtain ⟨rfl, hop, hg⟩ := ho
    exact AnyG.first hro hq hT (Region.noSelect_spec hs) hQ k listed a w (Region.free_spec hq hf) (closed_of hc) (by simpa using hr) ⟨⟨by simp [Region.wanted, hg], hy o hop⟩, hab o hop⟩ hS h
theorem tight_of {f : Nat} {A : Prop} (h : tightB md ops T f i = true) : ∀ x, x < ops.size → T x = true → waitsT md ops ops.size i x = false → x < f → A := by
  intro x _ hx hw h1
  have h2 := List.all_eq_true.1 h x (List.mem_range.2 h1)
  rw [hx, hw] at h2
  cases h2
variable {o : Oper}
theorem uponIn_unround {K : Act → World → Prop} (l : Nat) (r : Result Next) (h : o.uponIn F n P a K Q r) : o.uponIn (F.inRound l) n P a K Q r := by
  cases r with
  | ok x w => cases x <;> exact h
  | halt x w => exact h
theorem opIn_unround {K : Act → World → Prop} (l : Nat) (hro : F.round = none) (hnd : ∀ c, o.op ≠ .defer c) (h : Oper.wpIn F n P o a w K Q) : Oper.wpIn (F.inRound l) n P o a w K Q := by
  refine ⟨h.1, ?_⟩
  have h2 := h.2
  rw [hro, Oper.semAt_none] at h2
  rw [Fence.inRound_round, Oper.semAt_some l _ _ hnd]
  exact uponIn_unround l _ h2
theorem anyIn_unround (l : Nat) (hro : F.round = none) (hnd : noDefer ops = true) : ∀ (fuel : Nat) (listed : Array Bool) (a : Act) (w : World), wpAnyIn F n P md ops Q fuel listed a w → wpAnyIn (F.inRound l) n P md ops Q fuel listed a w
  | 0, _, _, _, h => h
  | fuel + 1, listed, a, w, h => by
    refine ⟨h.1, fun i hi => ?_⟩
    have h2 := h.2 i hi
    unfold wpOpIn at h2 ⊢
    cases hq : ops[i]? with
    | none => rw [hq] at h2; exact anyIn_unround l hro hnd _ _ _ _ h2
    | some o =>
      rw [hq] at h2
      simp only at h2 ⊢
      by_cases hw : Region.wanted o (yielded ops a.tmps) = true
      · rw [if_pos hw] at h2 ⊢
        exact Oper.wpIn_mono (fun a w h => anyIn_unround l hro hnd _ _ _ _ h) (opIn_unround l hro (noDefer_spec hnd i o hq) h2)
      · rw [if_neg hw] at h2 ⊢
        exact ⟨h2.1, anyIn_unround l hro hnd _ _ _ _ h2.2⟩
end
end Go.Proofs.YtdajmekliodmcaaGreatDoor
namespace Go.Proofs.YtdajmekliodmcaaGreatDoor
set_option linter.unusedSimpArgs false
open Go.Proofs.YtdajmekliodmcaaGreatDoor.P8
open Go.RowKit Go.Shelf
set_option linter.unusedVariables false
attribute [local go_sem] Oper.semAt_some
def natsOf (s : ByteArray) : List Nat := s.data.toList.map UInt8.toNat
theorem natsOf_length (s : ByteArray) : (natsOf s).length = s.size := by simp [natsOf]
theorem take_succ_get (l : List Nat) (k : Nat) (h : k < l.length) : l.take (k + 1) = l.take k ++ [l[k]] := by
  rw [List.take_add_one]; simp [h]
theorem natsOf_get (s : ByteArray) (k : Nat) (h : k < s.size) : (natsOf s)[k]'(by rw [natsOf_length]; exact h) = s[k].toNat := by
  simp [natsOf, ByteArray.getElem_eq_getElem_data]
theorem take_prefix (l : List Nat) (k : Nat) (h : k < l.length) : l.take k ++ [l[k]] <+: l := by
  rw [← take_succ_get l k h]; exact List.take_prefix _ _
set_option maxHeartbeats 1000000 in
theorem forward_seq (s : ByteArray) (n0 b : Nat) (w0 : World) (hb : b < n0) (hn : n0 ≤ w0.heap.size) (hc : w0.cell? ⟨b, 0, none⟩ = some (.string s)) (hs : s.size ≤ 9223372036854775807) :
    SeqOK Tryz.prog 147 #[.pointer (some ⟨b, 0, none⟩)] (natsOf s) n0 w0 := by
  refine ⟨hn, ?_⟩
  intro m l J Jx S W hW hJ hJx hS hY h0
  have hbW : b < W.heap.size := by have := hW.size; omega
  have hcW : W.cell? ⟨b, 0, none⟩ = some (.string s) := (hW.cell (p := ⟨b, 0, none⟩) hb).trans hc
  have hbS : ¬ S b := fun h => by have := hS b h; omega
  refine callsIn_of_wp Tryz.func147 rfl trivial ?_ rfl
  simp only [Tryz.ntmps147, List.size_toArray, List.length_cons, List.length_nil, Nat.reduceAdd, Nat.reduceSub, Array.replicate_succ, Array.replicate_zero, List.push_toArray, List.append_toArray, List.nil_append, List.cons_append]
  have hd : Fence.wide.depth = none := rfl
  clear hc hb
  gi_wp2
  gi_loopw [6] (fun i wr => ∃ (k : Nat) (S1 : Nat → Prop), i = .int .i64 k ∧ k ≤ s.size ∧ Ext S S1 W wr ∧ J ((natsOf s).take k) S1 wr)
    (fun i _ => s.size - (intOf i).toNat)
  case atStart => exact ⟨0, S, rfl, Nat.zero_le _, Ext.refl _ _, h0⟩
  case round =>
    obtain ⟨k, S1, rfl, hk, hE, hJs⟩ := hrel
    have hcr : wr.cell? ⟨b, 0, none⟩ = some (.string s) := (hE.cell (p := ⟨b, 0, none⟩) hbW hbS).trans hcW
    by_cases hlt : k < s.size
    · have hlen : k < (natsOf s).length := by rw [natsOf_length]; exact hlt
      have hstep := take_succ_get (natsOf s) k hlen
      obtain ⟨fn, tmps, assign, body, hy, hR⟩ := anyDepthY hd (m - 1) (hY _ (natsOf s)[k] S1 wr hE hJs (take_prefix _ k hlen))
      have hR2 := Lib.hid hR
      have hstep2 := Lib.hid hstep
      rw [natsOf_get s k hlt] at hy
      have hK := Lib.hid hY
      clear hY hJs hR hstep
      gi_wp2
      refine hR2.out.mono ?_
      rintro e W3 ⟨S2, hE2, (⟨rfl, hJ3⟩ | ⟨rfl, hJx3⟩)⟩
      · gi_wp2
        go_roundw
        case rel => exact ⟨k + 1, S2, by simp, by omega, hE.trans hE2, by rw [hstep2.out]; exact hJ3⟩
        case measure => simp [intOf]; omega
      · gi_wp2
        refine bodyPost_ret (results_none rfl _ _ _) rfl ?_
        exact ⟨⟨_, rfl⟩, S2, hE.trans hE2, .inr ⟨_, take_prefix _ k hlen, hJx3⟩⟩
    · have hkl : k = s.size := by omega
      have hJ2 : Hid (J (natsOf s) S1 wr) := by unfold Hid; rw [← List.take_length (l := natsOf s), natsOf_length, ← hkl]; exact hJs
      have hE2 := Lib.hid hE
      clear hY hJs hE
      subst hkl
      gi_wp2
      go_end0
      exact ⟨⟨_, rfl⟩, S1, hE2.out, .inl hJ2.out⟩
end Go.Proofs.YtdajmekliodmcaaGreatDoor
