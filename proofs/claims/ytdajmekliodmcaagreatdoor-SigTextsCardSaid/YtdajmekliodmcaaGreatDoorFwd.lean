/- The iterators of package codec over the bytes of a text, forward and backward: what they hand out. No condition but that the text is no longer than Go lets it be. -/
import Derived.Test.YtdajmekliodmcaaGreatDoorRounds
namespace Go.Proofs.YtdajmekliodmcaaGreatDoor
open Go.RowKit Go.Shelf
set_option linter.unusedVariables false
attribute [local go_sem] Oper.semAt_some

/-- The bytes of a text, as numbers. -/
def natsOf (s : ByteArray) : List Nat := s.data.toList.map UInt8.toNat
theorem natsOf_length (s : ByteArray) : (natsOf s).length = s.size := by simp [natsOf]
theorem take_succ_get (l : List Nat) (k : Nat) (h : k < l.length) : l.take (k + 1) = l.take k ++ [l[k]] := by
  rw [List.take_add_one]; simp [h]
theorem natsOf_get (s : ByteArray) (k : Nat) (h : k < s.size) : (natsOf s)[k]'(by rw [natsOf_length]; exact h) = s[k].toNat := by
  simp [natsOf, ByteArray.getElem_eq_getElem_data]
theorem take_prefix (l : List Nat) (k : Nat) (h : k < l.length) : l.take k ++ [l[k]] <+: l := by
  rw [← take_succ_get l k h]; exact List.take_prefix _ _

set_option maxHeartbeats 1000000 in
theorem forward_seq (s : ByteArray) (n0 b : Nat) (w0 : World) (hb : b < n0) (hn : n0 ≤ w0.heap.size) (hc : w0.cell? ⟨b, 0, none⟩ = some (.string s)) (hs : s.size ≤ 9223372036854775807) :
    SeqOK Tryz.prog 147 #[.pointer (some ⟨b, 0, none⟩)] (natsOf s) n0 w0 := by
  refine ⟨hn, ?_⟩
  intro m l J Jx S W hW hJ hJx hS hY h0
  have hbW : b < W.heap.size := by have := hW.size; omega
  have hcW : W.cell? ⟨b, 0, none⟩ = some (.string s) := (hW.cell (p := ⟨b, 0, none⟩) hb).trans hc
  have hbS : ¬ S b := fun h => by have := hS b h; omega
  refine callsIn_of_wp Tryz.func147 rfl trivial ?_ rfl
  simp only [Tryz.ntmps147, List.size_toArray, List.length_cons, List.length_nil, Nat.reduceAdd, Nat.reduceSub, Array.replicate_succ, Array.replicate_zero, List.push_toArray, List.append_toArray, List.nil_append, List.cons_append]
  have hd : Fence.wide.depth = none := rfl
  clear hc hb
  gi_wp2
  gi_loopw [6] (fun i wr => ∃ (k : Nat) (S1 : Nat → Prop), i = .int .i64 k ∧ k ≤ s.size ∧ Ext S S1 W wr ∧ J ((natsOf s).take k) S1 wr)
    (fun i _ => s.size - (intOf i).toNat)
  case atStart => exact ⟨0, S, rfl, Nat.zero_le _, Ext.refl _ _, h0⟩
  case round =>
    obtain ⟨k, S1, rfl, hk, hE, hJs⟩ := hrel
    have hcr : wr.cell? ⟨b, 0, none⟩ = some (.string s) := (hE.cell (p := ⟨b, 0, none⟩) hbW hbS).trans hcW
    by_cases hlt : k < s.size
    · have hlen : k < (natsOf s).length := by rw [natsOf_length]; exact hlt
      have hstep := take_succ_get (natsOf s) k hlen
      obtain ⟨fn, tmps, assign, body, hy, hR⟩ := anyDepthY hd (m - 1) (hY _ (natsOf s)[k] S1 wr hE hJs (take_prefix _ k hlen))
      have hR2 := Lib.hid hR
      have hstep2 := Lib.hid hstep
      rw [natsOf_get s k hlt] at hy
      have hK := Lib.hid hY
      clear hY hJs hR hstep
      gi_wp2
      refine hR2.out.mono ?_
      rintro e W3 ⟨S2, hE2, (⟨rfl, hJ3⟩ | ⟨rfl, hJx3⟩)⟩
      · gi_wp2
        go_roundw
        case rel => exact ⟨k + 1, S2, by simp, by omega, hE.trans hE2, by rw [hstep2.out]; exact hJ3⟩
        case measure => simp [intOf]; omega
      · gi_wp2
        refine bodyPost_ret (results_none rfl _ _ _) rfl ?_
        exact ⟨⟨_, rfl⟩, S2, hE.trans hE2, .inr ⟨_, take_prefix _ k hlen, hJx3⟩⟩
    · have hkl : k = s.size := by omega
      have hJ2 : Hid (J (natsOf s) S1 wr) := by unfold Hid; rw [← List.take_length (l := natsOf s), natsOf_length, ← hkl]; exact hJs
      have hE2 := Lib.hid hE
      clear hY hJs hE
      subst hkl
      gi_wp2
      go_end0
      exact ⟨⟨_, rfl⟩, S1, hE2.out, .inl hJ2.out⟩

end Go.Proofs.YtdajmekliodmcaaGreatDoor
