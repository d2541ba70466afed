/- Cut of Go's strings at a stroke, and the iterator of package sig over the pieces between strokes: what it hands its rounds, whatever they do. Its condition: a text of no more than 1,000 bytes. -/
import Derived.Test.YtdajmekliodmcaaGreatDoorSeed
import Derived.Test.YtdajmekliodmcaaGreatDoorG64
import Derived.Test.YtdajmekliodmcaaGreatDoorRG64
import Derived.RangeFuncBox
import Derived.RangeFuncFrom
namespace Go.Proofs.YtdajmekliodmcaaGreatDoor
open Go.RowKit Go.Shelf
set_option linter.unusedVariables false
set_option linter.unusedSimpArgs false
attribute [local go_sem] Oper.semAt_some
def cutL (s : List UInt8) : List UInt8 × List UInt8 × Bool := match colon s with
  | none => (s, [], false)
  | some (p, r) => (p, r, true)
theorem cut_cases (r : List UInt8) {x y : List UInt8} {f : Bool} (h : (x, y, f) = cutL r) : (f = true ∧ r.length = x.length + 1 + y.length ∧ pieces r = x :: pieces y) ∨ (f = false ∧ y = [] ∧ x = r ∧ pieces r = [x]) := by
  unfold cutL at h
  cases hc : colon r with
  | none =>
    rw [hc] at h
    simp only [Prod.mk.injEq] at h
    obtain ⟨rfl, rfl, rfl⟩ := h
    exact .inr ⟨rfl, rfl, rfl, pieces_none hc⟩
  | some q =>
    obtain ⟨a, b⟩ := q
    rw [hc] at h
    simp only [Prod.mk.injEq] at h
    obtain ⟨rfl, rfl, rfl⟩ := h
    refine .inl ⟨rfl, ?_, pieces_some hc⟩
    have := congrArg List.length (colon_some hc).1
    simp at this
    omega
theorem index_none : ∀ {s : List UInt8}, colon s = none → Lib.indexByte s 58 = -1
  | [], _ => rfl
  | c :: l, h => by
    unfold colon at h
    by_cases hc : c = 58
    · rw [if_pos hc] at h; cases h
    · rw [if_neg hc] at h
      cases hq : colon l with
      | some q => rw [hq] at h; simp at h
      | none =>
        have h2 := index_none hq
        unfold Lib.indexByte
        rw [h2]
        have : (c == 58) = false := by simpa using hc
        rw [this]
        rfl
theorem index_some : ∀ {s p r : List UInt8}, colon s = some (p, r) → Lib.indexByte s 58 = (p.length : Int)
  | [], p, r, h => by simp [colon] at h
  | c :: l, p, r, h => by
    unfold colon at h
    by_cases hc : c = 58
    · rw [if_pos hc] at h
      simp only [Option.some.injEq, Prod.mk.injEq] at h
      obtain ⟨rfl, rfl⟩ := h
      unfold Lib.indexByte
      rw [hc]
      rfl
    · rw [if_neg hc] at h
      cases hq : colon l with
      | none => rw [hq] at h; simp at h
      | some q =>
        obtain ⟨a, b⟩ := q
        rw [hq] at h
        simp only [Option.map_some, Option.some.injEq, Prod.mk.injEq] at h
        obtain ⟨rfl, rfl⟩ := h
        have h2 := index_some hq
        unfold Lib.indexByte
        rw [h2]
        have : (c == 58) = false := by simpa using hc
        rw [this]
        have h3 : ((a.length : Int) == -1) = false := by
          simp only [beq_eq_false_iff_ne, ne_eq]; omega
        simp only [h3, Bool.false_eq_true, if_false, List.length_cons]
        omega
set_option maxRecDepth 100000 in
set_option maxHeartbeats 1000000 in
theorem cut_in (s : ByteArray) (hs : s.size ≤ 1000) (w : World) : Calls Tryz.prog 137 #[.string s, .string ⟨#[58]⟩] w fun e w' => e = .returned (.tuple #[.string ⟨(cutL s.data.toList).1.toArray⟩, .string ⟨(cutL s.data.toList).2.1.toArray⟩, .bool (cutL s.data.toList).2.2]) ∧ ∃ n, w' = w.drewN n := by
  have HI := Lib.hid (fun w => stringslite_Index_one s 58 w)
  cases hc : colon s.data.toList with
  | none =>
    rw [index_none hc] at HI
    have e : cutL s.data.toList = (s.data.toList, [], false) := by unfold cutL; rw [hc]
    rw [e]
    clear hc e
    go_enter Tryz.func137, Tryz.ntmps137
    go_wp2_with (go_at_call 168; refine (HI.out _).mono ?_; rintro e w1 ⟨rfl, rfl⟩)
    go_ret3
    exact ⟨rfl, 0, rfl⟩
  | some q =>
    obtain ⟨p, r⟩ := q
    rw [index_some hc] at HI
    have e : cutL s.data.toList = (p, r, true) := by unfold cutL; rw [hc]
    have hl := (colon_some hc).1
    have hlen : s.size = p.length + 1 + r.length := by
      have h2 := congrArg List.length hl
      have h3 : s.data.toList.length = s.size := rfl
      simp at h2
      omega
    rw [e]
    obtain ⟨k, hk⟩ : ∃ k, k = p.length := ⟨_, rfl⟩
    rw [← hk] at HI
    have hp : Hid (s.extract 0 k = ⟨p.toArray⟩) := by
      unfold Hid
      apply ByteArray.ext
      apply Array.toList_inj.1
      rw [ByteArray.data_extract, Array.toList_extract, hl, hk]
      simp
    have hr : Hid (s.extract (k + 1) s.size = ⟨r.toArray⟩) := by
      unfold Hid
      apply ByteArray.ext
      apply Array.toList_inj.1
      rw [ByteArray.data_extract, Array.toList_extract, hl, hk, hlen]
      simp
    have hkb : k + 1 ≤ s.size := by omega
    have h1 : (k : Int) ≥ 0 := by omega
    have h2 : (k : Int) ≤ (s.size : Int) := by omega
    have h3 : (k : Int) + 1 ≤ (s.size : Int) := by omega
    have h4 : IntKind.i64.wrap ((k : Int) + 1) = (k : Int) + 1 := by rw [IntKind.wrap_i64]; omega
    clear hc e hl hlen hk
    go_enter Tryz.func137, Tryz.ntmps137
    go_wp2_with (go_at_call 168; refine (HI.out _).mono ?_; rintro e w1 ⟨rfl, rfl⟩)
    go_region
    go_wp2
    go_ret3
    rw [← hp.out, ← hr.out]
    exact ⟨rfl, 1, rfl⟩
set_option maxRecDepth 100000 in
set_option maxHeartbeats 1000000 in
theorem cut_any (s : ByteArray) (hs : s.size ≤ 1000) (w : World) : Calls Tryz.prog 101 #[.string s, .string ⟨#[58]⟩] w fun e w' => e = .returned (.tuple #[.string ⟨(cutL s.data.toList).1.toArray⟩, .string ⟨(cutL s.data.toList).2.1.toArray⟩, .bool (cutL s.data.toList).2.2]) ∧ ∃ n, w' = w.drewN n := by
  have HI := Lib.hid (fun w => cut_in s hs w)
  obtain ⟨q, hq⟩ : ∃ q, Hid (q = cutL s.data.toList) := ⟨_, Lib.hid rfl⟩
  obtain ⟨a, b, f⟩ := q
  rw [← hq.out] at HI ⊢
  go_enter Tryz.func101, Tryz.ntmps101
  go_wp2_with (go_at_call 137; refine (HI.out _).mono ?_; rintro e w1 ⟨rfl, n, rfl⟩)
  go_ret3
  exact ⟨rfl, n, rfl⟩
theorem grown_drewN (W : World) (n : Nat) : W.grownBy (W.drewN n) none := ⟨rfl, rfl, rfl, Nat.le_refl _, fun _ _ _ => rfl⟩
/-- A piece, of no more than 1,000 bytes. -/
abbrev Pc : Type := { x : List UInt8 // x.length ≤ 1000 }
def lists (l : List Pc) : List (List UInt8) := l.map fun x => x.1
theorem lists_snoc (l : List Pc) (x : Pc) : lists (l ++ [x]) = lists l ++ [x.1] := by simp [lists]
theorem lists_len (l : List Pc) : (lists l).length = l.length := by simp [lists]
def encS (x : Pc) : Array Value := #[.string ⟨x.1.toArray⟩]
def KpS (Bp : Nat) (A B : World) : Prop := B.heap[Bp]? = A.heap[Bp]?
theorem parts_in (n : Nat) (s : ByteArray) (w : World) :
    CallsIn Fence.wide n Tryz.prog 55 #[.string s] w fun e w' => e = .returned (.func (.func 100) #[] #[.pointer (some ⟨w.heap.size, 0, none⟩)]) ∧ w.alloc (.cells #[.string s] 9) = w' := by
  refine callsIn_of_wp Tryz.func55 rfl trivial ?_ rfl
  simp only [Tryz.ntmps55, List.size_toArray, List.length_cons, List.length_nil, Nat.reduceAdd, Nat.reduceSub, Array.replicate_succ, Array.replicate_zero, List.push_toArray, List.append_toArray, List.nil_append, List.cons_append]
  gi_wp2
  go_ret
  exact ⟨rfl, rfl⟩
theorem pieces_length : ∀ s : List UInt8, (pieces s).length ≤ s.length + 1
  | [] => by simp [pieces]
  | c :: l => by
    have h := pieces_length l
    unfold pieces
    split
    · simp; omega
    · split
      · simp
      · rename_i heq; rw [heq] at h; simp at h ⊢; omega
set_option maxRecDepth 100000 in
set_option maxHeartbeats 1000000 in
theorem parts1_in (m l Bp : Nat) (s : ByteArray) (hs : s.size ≤ 1000) (J Jx : List Pc → World → Prop) (W0 : Nat) (hJ : AbidesFrom W0 J)
    (hY : ∀ pre x W, J pre W → pre.length < 2000 → YieldAt Fence.wide (m - 1) Tryz.prog l (encS x) W fun e W' =>
      (e = .returned (.bool true) ∧ J (pre ++ [x]) W' ∧ KpS Bp W W') ∨ (e = .returned (.bool false) ∧ Jx (pre ++ [x]) W'))
    (W : World) (hbox : Boxed W Bp 9 (.string s)) (h0 : J [] W) (hm : 1 ≤ m) :
    CallsIn Fence.wide m Tryz.prog 100 #[.func (.yield l) #[] #[], .pointer (some ⟨Bp, 0, none⟩)] W fun e W' => (∃ v, e = .returned v) ∧ ((∃ xs, lists xs = pieces s.data.toList ∧ J xs W') ∨ (∃ pre, True ∧ Jx pre W')) := by
  have hsl : s.data.toList.length = s.size := rfl
  refine callsIn_of_wp Tryz.func100 rfl trivial ?_ rfl
  simp only [Tryz.ntmps100, List.size_toArray, List.length_cons, List.length_nil, Nat.reduceAdd, Nat.reduceSub, Array.replicate_succ, Array.replicate_zero, List.push_toArray, List.append_toArray, List.nil_append, List.cons_append]
  have cb := hbox.cell
  have hBX := Lib.hid hbox
  clear hbox
  gi_wp2
  clear cb
  gi_loopw [3, 4] (fun i f wr => ∃ (pre : List Pc) (r : List UInt8) (b : Bool), i = .string ⟨r.toArray⟩ ∧ f = .bool b ∧ r.length + pre.length ≤ s.size + 1 ∧ (b = true → r.length + pre.length ≤ s.size ∧ pieces s.data.toList = lists pre ++ pieces r) ∧ (b = false → r = [] ∧ pieces s.data.toList = lists pre) ∧ J pre wr ∧ Boxed wr Bp 9 (.string s))
    (fun i f _ => match i, f with | .string r, .bool b => r.size + (if b then 1 else 0) | _, _ => 0)
  case atStart => exact ⟨[], s.data.toList, true, rfl, rfl, by simp, fun _ => ⟨by simp, rfl⟩, (fun h => by cases h), h0, hBX.out⟩
  case round =>
    clear hBX h0
    obtain ⟨pre, r, b, rfl, rfl, hlen, ht, hf, hJs, hbx⟩ := hrel
    cases b with
    | true =>
      obtain ⟨hlen2, hp⟩ := ht rfl
      clear ht hf
      have HP := Lib.hid hp
      have HBX := Lib.hid hbx
      have HL := Lib.hid hlen2
      have hrs : (⟨r.toArray⟩ : ByteArray).size = r.length := by simp [ByteArray.size]
      have HC := Lib.hid (fun w => cut_any ⟨r.toArray⟩ (by rw [hrs]; omega) w)
      have hq0 : cutL (⟨r.toArray⟩ : ByteArray).data.toList = cutL r := rfl
      rw [hq0] at HC
      obtain ⟨q, hq⟩ : ∃ q, Hid (q = cutL r) := ⟨_, Lib.hid rfl⟩
      obtain ⟨x, y, f⟩ := q
      rw [← hq.out] at HC
      have hxl : x.length ≤ 1000 := by
        rcases cut_cases r hq.out with ⟨-, e1, -⟩ | ⟨-, -, e1, -⟩
        · omega
        · rw [e1]; omega
      have hYw := Lib.hid (fun n => hY pre ⟨x, hxl⟩ (wr.drewN n) (hJ _ _ _ none hJs (grown_drewN wr n) (fun _ e => by cases e)) (by omega))
      have HBX2 : Hid (∀ n, Boxed (wr.drewN n) Bp 9 (.string s)) := Lib.hid (fun n => hbx)
      clear hp hbx hlen2 hJs hrs hq0
      gi_wp2_with (refine ⟨trivial, ?_⟩; gi_at_call 101; refine (callsIn_wide.2 (HC.out _)).mono ?_; rintro e w1 ⟨rfl, n, rfl⟩)
      obtain ⟨fn, tmps, assign, body, hy, hR⟩ := hYw.out n
      have hR2 := Lib.hid hR
      have hyy : (Instr.yield l #[.string ⟨x.toArray⟩]).run Tryz.prog (wr.drewN n) = .ok (.round l fn tmps assign body) (wr.drewN n) := hy
      have HHY := Lib.hid hY
      clear hY hR hy hYw
      gi_wp2
      rw [hyy]
      gi_wp2
      refine hR2.out.mono ?_
      rintro e W3 (⟨rfl, hJ3, hk3⟩ | ⟨rfl, hJx3⟩)
      · have hbx3 : Boxed W3 Bp 9 (.string s) := Eq.trans hk3 (HBX2.out n)
        clear hk3 hyy
        gi_wp2
        go_roundw
        case rel =>
          have h1 := HP.out
          have h2 := HL.out
          rcases cut_cases r hq.out with ⟨rfl, e1, e2⟩ | ⟨rfl, e1, -, e2⟩
          · refine ⟨pre ++ [⟨x, hxl⟩], y, true, rfl, rfl, ?_, fun _ => ⟨?_, ?_⟩, (fun h => by cases h), hJ3, hbx3⟩
            · simp; omega
            · simp; omega
            · rw [h1, e2, lists_snoc]; simp
          · refine ⟨pre ++ [⟨x, hxl⟩], y, false, rfl, rfl, ?_, (fun h => by cases h), fun _ => ⟨e1, ?_⟩, hJ3, hbx3⟩
            · rw [e1]; simp; omega
            · rw [h1, e2, lists_snoc]
        case measure =>
          rcases cut_cases r hq.out with ⟨rfl, e1, e2⟩ | ⟨rfl, e1, -, e2⟩
          · simp [ByteArray.size]; omega
          · rw [e1]; simp [ByteArray.size]
      · clear hyy
        gi_wp2
        refine bodyPost_ret (results_none rfl _ _ _) rfl ?_
        exact ⟨⟨_, rfl⟩, Or.inr ⟨_, trivial, hJx3⟩⟩
    | false =>
      obtain ⟨rfl, hp⟩ := hf rfl
      have HP := Lib.hid hp
      have HJ := Lib.hid hJs
      clear hJs hY hbx ht hf hp
      gi_wp2
      go_end0
      exact ⟨⟨_, rfl⟩, .inl ⟨_, HP.out.symm, HJ.out⟩⟩
theorem parts_stops (m Bp : Nat) (s : ByteArray) (hs : s.size ≤ 1000) (w : World) (hbox : Boxed w Bp 9 (.string s)) (hm : 1 ≤ m) :
    SeqStopsK Fence.wide m Tryz.prog 100 #[.pointer (some ⟨Bp, 0, none⟩)] encS (KpS Bp) (fun xs => lists xs = pieces s.data.toList) (fun _ => True) 2000 w := by
  intro l J Jx W hW hJ hJx hY h0
  exact parts1_in m l Bp s hs J Jx _ hJ hY W ((hW.block Bp hbox.lt).trans hbox) h0 hm
end Go.Proofs.YtdajmekliodmcaaGreatDoor
