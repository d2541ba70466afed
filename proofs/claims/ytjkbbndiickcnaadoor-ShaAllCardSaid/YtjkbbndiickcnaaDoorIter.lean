/- The iterator of package sha over the whole blocks of a text: what it hands its rounds, in order. No condition but that the text is no longer than any can be. -/
import Derived.Test.YtjkbbndiickcnaaDoorRound
namespace Go.Proofs.YtjkbbndiickcnaaDoor
open Go.RowKit Go.Shelf
set_option linter.unusedVariables false
attribute [local go_sem] Oper.semAt_some

/-- What the iterator hands its rounds: the x-th block. -/
def encIt (s : ByteArray) (x : Fin (s.size / 64)) : Array Value := #[.string (s.extract (64 * x.1) (64 * x.1 + 64))]
def KpIt (Bp : Nat) (W W' : World) : Prop := W.heap.size ≤ W'.heap.size ∧ W'.heap[Bp]? = W.heap[Bp]?
theorem KpIt.trans {Bp : Nat} {A B C : World} (h : KpIt Bp A B) (k : KpIt Bp B C) : KpIt Bp A C := ⟨Nat.le_trans h.1 k.1, k.2.trans h.2⟩
/-- The first k of them. -/
def firsts (m k : Nat) (hk : k ≤ m) : List (Fin m) := (List.finRange k).map fun x => ⟨x.1, by omega⟩
theorem firsts_length (m k : Nat) (hk : k ≤ m) : (firsts m k hk).length = k := by simp [firsts]
theorem firsts_succ (m k : Nat) (hk : k + 1 ≤ m) : firsts m (k + 1) hk = firsts m k (by omega) ++ [⟨k, by omega⟩] := by
  simp [firsts, List.finRange_succ_last]
theorem firsts_all (m : Nat) : firsts m m (Nat.le_refl _) = List.finRange m := by simp [firsts]

theorem blocks_in (s : ByteArray) (w : World) :
    CallsIn Fence.wide 4 Tryd.prog 30 #[.string s] w fun e w' => e = .returned (.func (.func 32) #[] #[.pointer (some ⟨w.heap.size, 0, none⟩)]) ∧ w.alloc (.cells #[.string s] 9) = w' := by
  refine callsIn_of_wp Tryd.func30 rfl trivial ?_ rfl
  simp only [Tryd.ntmps30, List.size_toArray, List.length_cons, List.length_nil, Nat.reduceAdd, Nat.reduceSub, Array.replicate_succ, Array.replicate_zero, List.push_toArray, List.append_toArray, List.nil_append, List.cons_append]
  gi_wp2
  go_ret
  exact ⟨rfl, rfl⟩

set_option maxHeartbeats 1000000 in
theorem iter_in (l Bp : Nat) (s : ByteArray) (hs : s.size ≤ 9223372036854775000) (J Jx : List (Fin (s.size / 64)) → World → Prop)
    (hY : ∀ pre x W, J pre W → pre.length < s.size / 64 → YieldAt Fence.wide 3 Tryd.prog l (encIt s x) W fun e W' =>
      (e = .returned (.bool true) ∧ J (pre ++ [x]) W' ∧ KpIt Bp W W') ∨ (e = .returned (.bool false) ∧ Jx (pre ++ [x]) W'))
    (W : World) (hbox : W.cell? ⟨Bp, 0, none⟩ = some (.string s)) (h0 : J [] W) :
    CallsIn Fence.wide 4 Tryd.prog 32 #[.func (.yield l) #[] #[], .pointer (some ⟨Bp, 0, none⟩)] W fun e W' => (∃ v, e = .returned v) ∧ ((∃ xs, xs = List.finRange (s.size / 64) ∧ J xs W') ∨ (∃ pre, True ∧ Jx pre W')) := by
  refine callsIn_of_wp Tryd.func32 rfl trivial ?_ rfl
  simp only [Tryd.ntmps32, List.size_toArray, List.length_cons, List.length_nil, Nat.reduceAdd, Nat.reduceSub, Array.replicate_succ, Array.replicate_zero, List.push_toArray, List.append_toArray, List.nil_append, List.cons_append]
  obtain ⟨m, hm⟩ : ∃ m, m = s.size / 64 := ⟨_, rfl⟩
  have hm1 : 64 * m ≤ s.size := by omega
  have hm2 : s.size < 64 * m + 64 := by omega
  gi_wp2
  gi_loopw [3] (fun i wr => ∃ k : Nat, ∃ hk : k ≤ s.size / 64, i = .int .i64 (64 * (k : Int)) ∧ J (firsts (s.size / 64) k hk) wr ∧ KpIt Bp W wr)
    (fun i _ => s.size + 64 - (intOf i).toNat)
  case atStart => exact ⟨0, Nat.zero_le _, rfl, h0, Nat.le_refl _, rfl⟩
  case round =>
    obtain ⟨k, hk, rfl, hJs, hsz, hb'⟩ := hrel
    have hbox2 : wr.cell? ⟨Bp, 0, none⟩ = some (.string s) := (World.cell?_of_block (w := W) (a := ⟨Bp, 0, none⟩) hb').trans hbox
    by_cases hlt : k < s.size / 64
    · have hk1 : 64 * (k : Int) + 64 ≤ (s.size : Int) := by omega
      have HY := Lib.hid (hY (firsts (s.size / 64) k hk) (⟨k, hlt⟩ : Fin (s.size / 64)) wr hJs (by rw [firsts_length]; exact hlt))
      have hKw : Hid (KpIt Bp W wr) := ⟨hsz, hb'⟩
      clear hJs hY h0 hbox hsz hb' hm hm2 hm1
      gi_wp2_with (refine wpListIn_yield rfl (.tmp 11) #[.tmp 16] #[9] rfl l rfl (encIt s ⟨k, hlt⟩) (by simp [Act.eval, encIt]) _ HY.out (by omega) (fun c w' h => by rcases h with ⟨h, -⟩ | ⟨h, -⟩ <;> cases h) (fun w' h => by rcases h with ⟨h, -⟩ | ⟨h, -⟩ <;> cases h) ?_)
      rintro v w3 (⟨rfl, hJ3, hk3⟩ | ⟨rfl, hJx3⟩)
      · have HJ3 := Lib.hid hJ3
        have HK3 := Lib.hid hk3
        clear hJ3 hk3
        gi_wp2
        go_roundw
        case rel => exact ⟨k + 1, by omega, congrArg (Value.int IntKind.i64) (by omega), by rw [firsts_succ]; exact HJ3.out, KpIt.trans hKw.out HK3.out⟩
        case measure => simp [intOf]; omega
      · have HJ3 := Lib.hid hJx3
        clear hJx3
        gi_wp2
        refine bodyPost_ret (results_none rfl _ _ _) rfl ?_
        exact ⟨⟨_, rfl⟩, Or.inr ⟨_, trivial, HJ3.out⟩⟩
    · have hkl : k = s.size / 64 := by omega
      have HJ : Hid (J (List.finRange (s.size / 64)) wr) := by subst hkl; unfold Hid; rw [← firsts_all]; exact hJs
      have hk1 : ¬ (64 * (k : Int) + 64 ≤ (s.size : Int)) := by omega
      clear hJs hY h0 hbox hb' hsz hkl hlt hm
      gi_wp2
      go_end0
      exact ⟨⟨_, rfl⟩, .inl HJ.out⟩
end Go.Proofs.YtjkbbndiickcnaaDoor
