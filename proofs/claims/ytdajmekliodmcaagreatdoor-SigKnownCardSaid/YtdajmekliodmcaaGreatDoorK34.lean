/- Several texts, one behind the other; each says by itself what it proves, and on what conditions. -/
import Derived.Test.YtdajmekliodmcaaGreatDoorK33
import Derived.RangeFuncBox
import Derived.RangeFuncFrom
namespace Go.Proofs.YtdajmekliodmcaaGreatDoor
open Go.Proofs.YtdajmekliodmcaaGreatDoor.P8
open Go.RowKit Go.Shelf
set_option linter.unusedVariables false
set_option linter.unusedSimpArgs false
attribute [local go_sem] Oper.semAt_some
def cutL (s : List UInt8) : List UInt8 × List UInt8 × Bool := match colon s with
  | none => (s, [], false)
  | some (p, r) => (p, r, true)
theorem cut_cases (r : List UInt8) {x y : List UInt8} {f : Bool} (h : (x, y, f) = cutL r) : (f = true ∧ r.length = x.length + 1 + y.length ∧ pieces r = x :: pieces y) ∨ (f = false ∧ y = [] ∧ x = r ∧ pieces r = [x]) := by
  unfold cutL at h
  cases hc : colon r with
  | none =>
    rw [hc] at h
    simp only [Prod.mk.injEq] at h
    obtain ⟨rfl, rfl, rfl⟩ := h
    exact .inr ⟨rfl, rfl, rfl, pieces_none hc⟩
  | some q =>
    obtain ⟨a, b⟩ := q
    rw [hc] at h
    simp only [Prod.mk.injEq] at h
    obtain ⟨rfl, rfl, rfl⟩ := h
    refine .inl ⟨rfl, ?_, pieces_some hc⟩
    have := congrArg List.length (colon_some hc).1
    simp at this
    omega
theorem index_none : ∀ {s : List UInt8}, colon s = none → Lib.indexByte s 58 = -1
  | [], _ => rfl
  | c :: l, h => by
    unfold colon at h
    by_cases hc : c = 58
    · rw [if_pos hc] at h; cases h
    · rw [if_neg hc] at h
      cases hq : colon l with
      | some q => rw [hq] at h; simp at h
      | none =>
        have h2 := index_none hq
        unfold Lib.indexByte
        rw [h2]
        have : (c == 58) = false := by simpa using hc
        rw [this]
        rfl
theorem index_some : ∀ {s p r : List UInt8}, colon s = some (p, r) → Lib.indexByte s 58 = (p.length : Int)
  | [], p, r, h => by simp [colon] at h
  | c :: l, p, r, h => by
    unfold colon at h
    by_cases hc : c = 58
    · rw [if_pos hc] at h
      simp only [Option.some.injEq, Prod.mk.injEq] at h
      obtain ⟨rfl, rfl⟩ := h
      unfold Lib.indexByte
      rw [hc]
      rfl
    · rw [if_neg hc] at h
      cases hq : colon l with
      | none => rw [hq] at h; simp at h
      | some q =>
        obtain ⟨a, b⟩ := q
        rw [hq] at h
        simp only [Option.map_some, Option.some.injEq, Prod.mk.injEq] at h
        obtain ⟨rfl, rfl⟩ := h
        have h2 := index_some hq
        unfold Lib.indexByte
        rw [h2]
        have : (c == 58) = false := by simpa using hc
        rw [this]
        have h3 : ((a.length : Int) == -1) = false := by
          simp only [beq_eq_false_iff_ne, ne_eq]; omega
        simp only [h3, Bool.false_eq_true, if_false, List.length_cons]
        omega
set_option maxRecDepth 100000 in
set_option maxHeartbeats 1000000 in
theorem cut_in (s : ByteArray) (hs : s.size ≤ 1000) (w : World) : Calls Tryz.prog 137 #[.string s, .string ⟨#[58]⟩] w fun e w' => e = .returned (.tuple #[.string ⟨(cutL s.data.toList).1.toArray⟩, .string ⟨(cutL s.data.toList).2.1.toArray⟩, .bool (cutL s.data.toList).2.2]) ∧ ∃ n, w' = w.drewN n := by
  have HI := Lib.hid (fun w => stringslite_Index_one s 58 w)
  cases hc : colon s.data.toList with
  | none =>
    rw [index_none hc] at HI
    have e : cutL s.data.toList = (s.data.toList, [], false) := by unfold cutL; rw [hc]
    rw [e]
    clear hc e
    go_enter Tryz.func137, Tryz.ntmps137
    go_wp2_with (go_at_call 168; refine (HI.out _).mono ?_; rintro e w1 ⟨rfl, rfl⟩)
    go_ret3
    exact ⟨rfl, 0, rfl⟩
  | some q =>
    obtain ⟨p, r⟩ := q
    rw [index_some hc] at HI
    have e : cutL s.data.toList = (p, r, true) := by unfold cutL; rw [hc]
    have hl := (colon_some hc).1
    have hlen : s.size = p.length + 1 + r.length := by
      have h2 := congrArg List.length hl
      have h3 : s.data.toList.length = s.size := rfl
      simp at h2
      omega
    rw [e]
    obtain ⟨k, hk⟩ : ∃ k, k = p.length := ⟨_, rfl⟩
    rw [← hk] at HI
    have hp : Hid (s.extract 0 k = ⟨p.toArray⟩) := by
      unfold Hid
      apply ByteArray.ext
      apply Array.toList_inj.1
      rw [ByteArray.data_extract, Array.toList_extract, hl, hk]
      simp
    have hr : Hid (s.extract (k + 1) s.size = ⟨r.toArray⟩) := by
      unfold Hid
      apply ByteArray.ext
      apply Array.toList_inj.1
      rw [ByteArray.data_extract, Array.toList_extract, hl, hk, hlen]
      simp
    have hkb : k + 1 ≤ s.size := by omega
    have h1 : (k : Int) ≥ 0 := by omega
    have h2 : (k : Int) ≤ (s.size : Int) := by omega
    have h3 : (k : Int) + 1 ≤ (s.size : Int) := by omega
    have h4 : IntKind.i64.wrap ((k : Int) + 1) = (k : Int) + 1 := by rw [IntKind.wrap_i64]; omega
    clear hc e hl hlen hk
    go_enter Tryz.func137, Tryz.ntmps137
    go_wp2_with (go_at_call 168; refine (HI.out _).mono ?_; rintro e w1 ⟨rfl, rfl⟩)
    go_region
    go_wp2
    go_ret3
    rw [← hp.out, ← hr.out]
    exact ⟨rfl, 1, rfl⟩
set_option maxRecDepth 100000 in
set_option maxHeartbeats 1000000 in
theorem cut_any (s : ByteArray) (hs : s.size ≤ 1000) (w : World) : Calls Tryz.prog 101 #[.string s, .string ⟨#[58]⟩] w fun e w' => e = .returned (.tuple #[.string ⟨(cutL s.data.toList).1.toArray⟩, .string ⟨(cutL s.data.toList).2.1.toArray⟩, .bool (cutL s.data.toList).2.2]) ∧ ∃ n, w' = w.drewN n := by
  have HI := Lib.hid (fun w => cut_in s hs w)
  obtain ⟨q, hq⟩ : ∃ q, Hid (q = cutL s.data.toList) := ⟨_, Lib.hid rfl⟩
  obtain ⟨a, b, f⟩ := q
  rw [← hq.out] at HI ⊢
  go_enter Tryz.func101, Tryz.ntmps101
  go_wp2_with (go_at_call 137; refine (HI.out _).mono ?_; rintro e w1 ⟨rfl, n, rfl⟩)
  go_ret3
  exact ⟨rfl, n, rfl⟩
theorem grown_drewN (W : World) (n : Nat) : W.grownBy (W.drewN n) none := ⟨rfl, rfl, rfl, Nat.le_refl _, fun _ _ _ => rfl⟩
abbrev Pc : Type := { x : List UInt8 // x.length ≤ 1000 }
def lists (l : List Pc) : List (List UInt8) := l.map fun x => x.1
theorem lists_snoc (l : List Pc) (x : Pc) : lists (l ++ [x]) = lists l ++ [x.1] := by simp [lists]
theorem lists_len (l : List Pc) : (lists l).length = l.length := by simp [lists]
def encS (x : Pc) : Array Value := #[.string ⟨x.1.toArray⟩]
def KpS (Bp : Nat) (A B : World) : Prop := B.heap[Bp]? = A.heap[Bp]?
theorem parts_in (n : Nat) (s : ByteArray) (w : World) :
    CallsIn Fence.wide n Tryz.prog 55 #[.string s] w fun e w' => e = .returned (.func (.func 100) #[] #[.pointer (some ⟨w.heap.size, 0, none⟩)]) ∧ w.alloc (.cells #[.string s] 9) = w' := by
  refine callsIn_of_wp Tryz.func55 rfl trivial ?_ rfl
  simp only [Tryz.ntmps55, List.size_toArray, List.length_cons, List.length_nil, Nat.reduceAdd, Nat.reduceSub, Array.replicate_succ, Array.replicate_zero, List.push_toArray, List.append_toArray, List.nil_append, List.cons_append]
  gi_wp2
  go_ret
  exact ⟨rfl, rfl⟩
set_option maxRecDepth 100000 in
set_option maxHeartbeats 1000000 in
theorem parts1_in (m l Bp : Nat) (s : ByteArray) (hs : s.size ≤ 1000) (J Jx : List Pc → World → Prop) (W0 : Nat) (hJ : AbidesFrom W0 J)
    (hY : ∀ pre x W, J pre W → pre.length < 2000 → YieldAt Fence.wide (m - 1) Tryz.prog l (encS x) W fun e W' =>
      (e = .returned (.bool true) ∧ J (pre ++ [x]) W' ∧ KpS Bp W W') ∨ (e = .returned (.bool false) ∧ Jx (pre ++ [x]) W'))
    (W : World) (hbox : Boxed W Bp 9 (.string s)) (h0 : J [] W) (hm : 1 ≤ m) :
    CallsIn Fence.wide m Tryz.prog 100 #[.func (.yield l) #[] #[], .pointer (some ⟨Bp, 0, none⟩)] W fun e W' => (∃ v, e = .returned v) ∧ ((∃ xs, lists xs = pieces s.data.toList ∧ J xs W') ∨ (∃ pre, True ∧ Jx pre W')) := by
  have hsl : s.data.toList.length = s.size := rfl
  refine callsIn_of_wp Tryz.func100 rfl trivial ?_ rfl
  simp only [Tryz.ntmps100, List.size_toArray, List.length_cons, List.length_nil, Nat.reduceAdd, Nat.reduceSub, Array.replicate_succ, Array.replicate_zero, List.push_toArray, List.append_toArray, List.nil_append, List.cons_append]
  have cb := hbox.cell
  have hBX := Lib.hid hbox
  clear hbox
  gi_wp2
  clear cb
  gi_loopw [3, 4] (fun i f wr => ∃ (pre : List Pc) (r : List UInt8) (b : Bool), i = .string ⟨r.toArray⟩ ∧ f = .bool b ∧ r.length + pre.length ≤ s.size + 1 ∧ (b = true → r.length + pre.length ≤ s.size ∧ pieces s.data.toList = lists pre ++ pieces r) ∧ (b = false → r = [] ∧ pieces s.data.toList = lists pre) ∧ J pre wr ∧ Boxed wr Bp 9 (.string s))
    (fun i f _ => match i, f with | .string r, .bool b => r.size + (if b then 1 else 0) | _, _ => 0)
  case atStart => exact ⟨[], s.data.toList, true, rfl, rfl, by simp, fun _ => ⟨by simp, rfl⟩, (fun h => by cases h), h0, hBX.out⟩
  case round =>
    clear hBX h0
    obtain ⟨pre, r, b, rfl, rfl, hlen, ht, hf, hJs, hbx⟩ := hrel
    cases b with
    | true =>
      obtain ⟨hlen2, hp⟩ := ht rfl
      clear ht hf
      have HP := Lib.hid hp
      have HBX := Lib.hid hbx
      have HL := Lib.hid hlen2
      have hrs : (⟨r.toArray⟩ : ByteArray).size = r.length := by simp [ByteArray.size]
      have HC := Lib.hid (fun w => cut_any ⟨r.toArray⟩ (by rw [hrs]; omega) w)
      have hq0 : cutL (⟨r.toArray⟩ : ByteArray).data.toList = cutL r := rfl
      rw [hq0] at HC
      obtain ⟨q, hq⟩ : ∃ q, Hid (q = cutL r) := ⟨_, Lib.hid rfl⟩
      obtain ⟨x, y, f⟩ := q
      rw [← hq.out] at HC
      have hxl : x.length ≤ 1000 := by
        rcases cut_cases r hq.out with ⟨-, e1, -⟩ | ⟨-, -, e1, -⟩
        · omega
        · rw [e1]; omega
      have hYw := Lib.hid (fun n => hY pre ⟨x, hxl⟩ (wr.drewN n) (hJ _ _ _ none hJs (grown_drewN wr n) (fun _ e => by cases e)) (by omega))
      have HBX2 : Hid (∀ n, Boxed (wr.drewN n) Bp 9 (.string s)) := Lib.hid (fun n => hbx)
      clear hp hbx hlen2 hJs hrs hq0
      gi_wp2_with (refine ⟨trivial, ?_⟩; gi_at_call 101; refine (callsIn_wide.2 (HC.out _)).mono ?_; rintro e w1 ⟨rfl, n, rfl⟩)
      obtain ⟨fn, tmps, assign, body, hy, hR⟩ := hYw.out n
      have hR2 := Lib.hid hR
      have hyy : (Instr.yield l #[.string ⟨x.toArray⟩]).run Tryz.prog (wr.drewN n) = .ok (.round l fn tmps assign body) (wr.drewN n) := hy
      have HHY := Lib.hid hY
      clear hY hR hy hYw
      gi_wp2
      rw [hyy]
      gi_wp2
      refine hR2.out.mono ?_
      rintro e W3 (⟨rfl, hJ3, hk3⟩ | ⟨rfl, hJx3⟩)
      · have hbx3 : Boxed W3 Bp 9 (.string s) := Eq.trans hk3 (HBX2.out n)
        clear hk3 hyy
        gi_wp2
        go_roundw
        case rel =>
          have h1 := HP.out
          have h2 := HL.out
          rcases cut_cases r hq.out with ⟨rfl, e1, e2⟩ | ⟨rfl, e1, -, e2⟩
          · refine ⟨pre ++ [⟨x, hxl⟩], y, true, rfl, rfl, ?_, fun _ => ⟨?_, ?_⟩, (fun h => by cases h), hJ3, hbx3⟩
            · simp; omega
            · simp; omega
            · rw [h1, e2, lists_snoc]; simp
          · refine ⟨pre ++ [⟨x, hxl⟩], y, false, rfl, rfl, ?_, (fun h => by cases h), fun _ => ⟨e1, ?_⟩, hJ3, hbx3⟩
            · rw [e1]; simp; omega
            · rw [h1, e2, lists_snoc]
        case measure =>
          rcases cut_cases r hq.out with ⟨rfl, e1, e2⟩ | ⟨rfl, e1, -, e2⟩
          · simp [ByteArray.size]; omega
          · rw [e1]; simp [ByteArray.size]
      · clear hyy
        gi_wp2
        refine bodyPost_ret (results_none rfl _ _ _) rfl ?_
        exact ⟨⟨_, rfl⟩, Or.inr ⟨_, trivial, hJx3⟩⟩
    | false =>
      obtain ⟨rfl, hp⟩ := hf rfl
      have HP := Lib.hid hp
      have HJ := Lib.hid hJs
      clear hJs hY hbx ht hf hp
      gi_wp2
      go_end0
      exact ⟨⟨_, rfl⟩, .inl ⟨_, HP.out.symm, HJ.out⟩⟩
theorem parts_stops (m Bp : Nat) (s : ByteArray) (hs : s.size ≤ 1000) (w : World) (hbox : Boxed w Bp 9 (.string s)) (hm : 1 ≤ m) :
    SeqStopsK Fence.wide m Tryz.prog 100 #[.pointer (some ⟨Bp, 0, none⟩)] encS (KpS Bp) (fun xs => lists xs = pieces s.data.toList) (fun _ => True) 2000 w := by
  intro l J Jx W hW hJ hJx hY h0
  exact parts1_in m l Bp s hs J Jx _ hJ hY W ((hW.block Bp hbox.lt).trans hbox) h0 hm
end Go.Proofs.YtdajmekliodmcaaGreatDoor
namespace Go.Proofs.YtdajmekliodmcaaGreatDoor
open Go.Proofs.YtdajmekliodmcaaGreatDoor.P8
open Go.RowKit Go.Shelf
set_option linter.unusedVariables false
set_option linter.unusedSimpArgs false
attribute [local go_sem] Oper.semAt_some
theorem results_cells3 {fn : Func} {a b c : Tmp} {t u x : TypeId} (h : fn.results = #[.cell a t, .cell b u, .cell c x]) (tmps : Array Value) (P : Program) (w : World) (ad bd cd : Addr) (ha : tmps.getD a undef = .pointer (some ad)) (hb : tmps.getD b undef = .pointer (some bd)) (hc : tmps.getD c undef = .pointer (some cd)) (v1 v2 v3 : Value)
    (hl : (loadVar t ad).run P w = .ok v1 w) (hl2 : (loadVar u bd).run P w = .ok v2 w) (hl3 : (loadVar x cd).run P w = .ok v3 w) : (results fn tmps).run P w = .ok (.tuple #[v1, v2, v3]) w := by
  have ha2 : tmps[a]?.getD undef = .pointer (some ad) := by rw [← Array.getD_eq_getD_getElem?]; exact ha
  have hb2 : tmps[b]?.getD undef = .pointer (some bd) := by rw [← Array.getD_eq_getD_getElem?]; exact hb
  have hc2 : tmps[c]?.getD undef = .pointer (some cd) := by rw [← Array.getD_eq_getD_getElem?]; exact hc
  unfold results
  rw [h]
  simp [Array.mapM_eq_mapM_toList, ha2, hb2, hc2, asAddr, hl, hl2, hl3]
theorem load9 {W : World} {B : Nat} {v : ByteArray} (h : Boxed W B 9 (.string v)) : (loadVar 9 ⟨B, 0, none⟩).run Tryz.prog W = .ok (.string v) W := by
  have hc := h.cell
  have hu := Tryz.underlying9
  unfold loadVar
  go_simp
theorem load4 {W : World} {B : Nat} {v : Bool} (h : Boxed W B 4 (.bool v)) : (loadVar 4 ⟨B, 0, none⟩).run Tryz.prog W = .ok (.bool v) W := by
  have hc := h.cell
  have hu := Tryz.underlying4
  unfold loadVar
  go_simp
theorem Boxed.other {W : World} {B g : Nat} {t : TypeId} {v u : Value} (h : Boxed W B t v) (hne : B ≠ g) : Boxed (W.setCell ⟨g, 0, none⟩ u) B t v :=
  (Below.heap_setCell _ _ _ _ hne).trans h
theorem boxed_below {W W2 : World} {B : Nat} {t : TypeId} {v : Value} (h : Boxed W B t v) (hb : Below W.heap.size W W2) : Boxed W2 B t v := (hb.block B h.lt).trans h
def parseV (o : Option (List UInt8 × List UInt8)) : Value := match o with
  | some (n, g) => .tuple #[.string ⟨n.toArray⟩, .string ⟨g.toArray⟩, .bool true]
  | none => .tuple #[.string ⟨#[]⟩, .string ⟨#[]⟩, .bool false]
theorem parse_long {s : List UInt8} (h : 153 < s.length) : parseL s = none := by
  cases hp : parseL s with
  | none => rfl
  | some q =>
    obtain ⟨n, g⟩ := q
    have := (parse_some hp).1
    have h2 := textL_len n g
    rw [this] at h2
    omega
set_option maxRecDepth 100000 in
set_option maxHeartbeats 1000000 in
theorem parse_big (s : ByteArray) (hs : 153 < s.size) (w : World) : Calls Tryz.prog 23 #[.string s] w fun e w' => e = .returned (parseV none) ∧ Below w.heap.size w w' := by
  have hI : (s.size : Int) > 153 := by omega
  go_enter Tryz.func23, Tryz.ntmps23
  go_wp2
  have hb : Below w.heap.size w (((w.alloc (Obj.cells #[Value.string ⟨#[]⟩] 9)).alloc (Obj.cells #[Value.string ⟨#[]⟩] 9)).alloc (Obj.cells #[Value.bool false] 4)) :=
    (((Below.refl _ w).alloc (Nat.le_refl _) _).alloc (by simp) _).alloc (by simp; omega) _
  have f1 : Boxed (((w.alloc (Obj.cells #[Value.string ⟨#[]⟩] 9)).alloc (Obj.cells #[Value.string ⟨#[]⟩] 9)).alloc (Obj.cells #[Value.bool false] 4)) w.heap.size 9 (.string ⟨#[]⟩) := ((Boxed.new w 9 _).alloc _).alloc _
  have f2 : Boxed (((w.alloc (Obj.cells #[Value.string ⟨#[]⟩] 9)).alloc (Obj.cells #[Value.string ⟨#[]⟩] 9)).alloc (Obj.cells #[Value.bool false] 4)) (w.heap.size + 1) 9 (.string ⟨#[]⟩) := by
    have h := Boxed.new (w.alloc (Obj.cells #[Value.string ⟨#[]⟩] 9)) 9 (.string ⟨#[]⟩)
    simp only [World.size_alloc] at h
    exact h.alloc _
  have f3 : Boxed (((w.alloc (Obj.cells #[Value.string ⟨#[]⟩] 9)).alloc (Obj.cells #[Value.string ⟨#[]⟩] 9)).alloc (Obj.cells #[Value.bool false] 4)) (w.heap.size + 1 + 1) 4 (.bool false) := by
    have h := Boxed.new ((w.alloc (Obj.cells #[Value.string ⟨#[]⟩] 9)).alloc (Obj.cells #[Value.string ⟨#[]⟩] 9)) 4 (.bool false)
    simp only [World.size_alloc] at h
    exact h
  generalize ((w.alloc (Obj.cells #[Value.string ⟨#[]⟩] 9)).alloc (Obj.cells #[Value.string ⟨#[]⟩] 9)).alloc (Obj.cells #[Value.bool false] 4) = W at *
  exact bodyPost_ret (results_cells3 rfl _ _ _ ⟨w.heap.size, 0, none⟩ ⟨w.heap.size + 1, 0, none⟩ ⟨w.heap.size + 1 + 1, 0, none⟩ rfl rfl rfl _ _ _ (load9 f1) (load9 f2) (load4 f3)) rfl ⟨rfl, hb⟩
def PV (w : World) (n g : ByteArray) (o : Bool) (c : Int) (W : World) : Prop := Below w.heap.size w W ∧ Boxed W w.heap.size 9 (.string n) ∧ Boxed W (w.heap.size + 1) 9 (.string g) ∧ Boxed W (w.heap.size + 1 + 1) 4 (.bool o) ∧ Boxed W (w.heap.size + 1 + 1 + 1) 3 (.int .i64 c) ∧ w.heap.size + 5 ≤ W.heap.size
def PI (w : World) (l : List Pc) (W : World) : Prop := PV w ⟨(nameOf (lists l)).toArray⟩ ⟨((sigOf (lists l)).getD []).toArray⟩ (sigOf (lists l)).isSome (l.length : Int) W
theorem setCell_size (W : World) (p : Addr) (v : Value) : (W.setCell p v).heap.size = W.heap.size := by simp [World.setCell]
theorem PV.setN {w W : World} {n g : ByteArray} {o : Bool} {c : Int} (h : PV w n g o c W) (v : ByteArray) : PV w v g o c (W.setCell ⟨w.heap.size, 0, none⟩ (.string v)) := by
  obtain ⟨h0, h1, h2, h3, h4, h5⟩ := h
  exact ⟨h0.setCell (p := ⟨_, 0, none⟩) (Nat.le_refl _) _, h1.set _, Boxed.other h2 (by omega), Boxed.other h3 (by omega), Boxed.other h4 (by omega), by rw [setCell_size]; exact h5⟩
theorem PV.setG {w W : World} {n g : ByteArray} {o : Bool} {c : Int} (h : PV w n g o c W) (v : ByteArray) : PV w n v o c (W.setCell ⟨w.heap.size + 1, 0, none⟩ (.string v)) := by
  obtain ⟨h0, h1, h2, h3, h4, h5⟩ := h
  exact ⟨h0.setCell (p := ⟨_, 0, none⟩) (by simp only; omega) _, Boxed.other h1 (by omega), h2.set _, Boxed.other h3 (by omega), Boxed.other h4 (by omega), by rw [setCell_size]; exact h5⟩
theorem PV.setK {w W : World} {n g : ByteArray} {o : Bool} {c : Int} (h : PV w n g o c W) (v : Bool) : PV w n g v c (W.setCell ⟨w.heap.size + 1 + 1, 0, none⟩ (.bool v)) := by
  obtain ⟨h0, h1, h2, h3, h4, h5⟩ := h
  exact ⟨h0.setCell (p := ⟨_, 0, none⟩) (by simp only; omega) _, Boxed.other h1 (by omega), Boxed.other h2 (by omega), h3.set _, Boxed.other h4 (by omega), by rw [setCell_size]; exact h5⟩
theorem PV.setC {w W : World} {n g : ByteArray} {o : Bool} {c : Int} (h : PV w n g o c W) (v : Int) : PV w n g o v (W.setCell ⟨w.heap.size + 1 + 1 + 1, 0, none⟩ (.int .i64 v)) := by
  obtain ⟨h0, h1, h2, h3, h4, h5⟩ := h
  exact ⟨h0.setCell (p := ⟨_, 0, none⟩) (by simp only; omega) _, Boxed.other h1 (by omega), Boxed.other h2 (by omega), Boxed.other h3 (by omega), h4.set _, by rw [setCell_size]; exact h5⟩
theorem PV.call {w W W2 : World} {n g : ByteArray} {o : Bool} {c : Int} (h : PV w n g o c W) (hb : Below W.heap.size W W2) : PV w n g o c W2 := by
  obtain ⟨h0, h1, h2, h3, h4, h5⟩ := h
  exact ⟨h0.trans (hb.mono h0.size), boxed_below h1 hb, boxed_below h2 hb, boxed_below h3 hb, boxed_below h4 hb, Nat.le_trans h5 hb.size⟩
theorem pI_own (w : World) (B : Nat) (hB : w.heap.size + 4 ≤ B) : OwnFrom B (PI w) := by
  rintro s W W' row ⟨h0, h1, h2, h3, h4, h5⟩ hg hr
  have ne : ∀ k, k < B → some k ≠ row := fun k hk e => by have := (hr k e.symm).1; omega
  refine ⟨h0.grown hg (by omega) (fun k e => by have := (hr k e).1; omega), h1.kept hg (ne _ (by omega)), h2.kept hg (ne _ (by omega)), h3.kept hg (ne _ (by omega)), h4.kept hg (ne _ (by omega)), Nat.le_trans h5 hg.size⟩
theorem keeps_setCell {W : World} {g : Nat} {t : TypeId} {v u : Value} (hg : Boxed W g t v) : KeepsOthers W (W.setCell ⟨g, 0, none⟩ u) :=
  KeepsOthers.of_grownBy (row := some g) ⟨rfl, rfl, rfl, by simp [World.setCell], fun k _ hk => Below.heap_setCell _ _ _ _ (fun e => hk (by rw [e]))⟩ (fun j o e ho => by cases e; rw [show W.heap[g]? = _ from hg] at ho; cases ho; rfl)
theorem name_more {pre : List (List UInt8)} (x : List UInt8) (h : 1 ≤ pre.length) : nameOf (pre ++ [x]) = nameOf pre := by
  unfold nameOf
  rw [List.getD_eq_getElem?_getD, List.getD_eq_getElem?_getD, List.getElem?_append_left (by omega)]
theorem sig_less {pre : List (List UInt8)} (x : List UInt8) (h : pre.length = 0) : sigOf (pre ++ [x]) = sigOf pre := by
  unfold sigOf
  rw [if_neg (by rw [List.length_append, h]; simp), if_neg (by omega)]
theorem sig_one {pre : List (List UInt8)} (x : List UInt8) (h : pre.length = 1) : sigOf (pre ++ [x]) = get64 x := by
  unfold sigOf
  rw [if_pos (by simp; omega), List.getD_eq_getElem?_getD, List.getElem?_append_right (by omega), h]
  rfl
theorem sig_more {pre : List (List UInt8)} (x : List UInt8) (h : 2 ≤ pre.length) : sigOf (pre ++ [x]) = sigOf pre := by
  unfold sigOf
  rw [if_pos (by simp; omega), if_pos h, List.getD_eq_getElem?_getD, List.getD_eq_getElem?_getD, List.getElem?_append_left (by omega)]
theorem clone_any (s : ByteArray) (hs : s.size ≤ 1000) (w : World) : Calls Tryz.prog 57 #[.string s] w fun e w' => e = .returned (.string s) ∧ Below w.heap.size w w' := by
  have HC := Lib.hid (fun w => stringslite_Clone s w (by omega))
  go_enter Tryz.func57, Tryz.ntmps57
  go_wp2_with (go_at_call 108; refine (HC.out _).mono ?_; rintro e w1 ⟨rfl, hb⟩)
  go_ret
  exact ⟨rfl, hb⟩
theorem lists_le (xs : List Pc) : ∀ x ∈ lists xs, x.length ≤ 1000 := by
  intro x hx
  unfold lists at hx
  rw [List.mem_map] at hx
  obtain ⟨a, -, rfl⟩ := hx
  exact a.2
theorem sig_le {xs : List Pc} {g : List UInt8} (h : sigOf (lists xs) = some g) : g.length ≤ 1000 := by
  unfold sigOf at h
  by_cases h2 : 2 ≤ (lists xs).length
  · rw [if_pos h2, get64_iff] at h
    have hb := b64_len g
    have hm : (lists xs).getD 1 [] ∈ lists xs := by
      rw [List.getD_eq_getElem?_getD, List.getElem?_eq_getElem (by omega)]
      exact List.getElem_mem _
    have := lists_le xs _ hm
    rw [← h] at this
    omega
  · rw [if_neg h2] at h; cases h
theorem name_le {xs : List Pc} : (nameOf (lists xs)).length ≤ 1000 := by
  unfold nameOf
  cases hl : lists xs with
  | nil => simp
  | cons a l =>
    have := lists_le xs a (by rw [hl]; simp)
    simpa using this
theorem PV.fin {w V : World} {n g : ByteArray} {o : Bool} {c : Int} {D : Nat} (h : PV w n g o c V) (hD : w.heap.size + 5 ≤ D) (hd : V.heap[D]? = some (.deferred (some []))) : PV w n g o c (V.putObj D (.deferred none)) := by
  obtain ⟨h0, h1, h2, h3, h4, h5⟩ := h
  have e : ∀ k, k < w.heap.size + 5 → (V.putObj D (.deferred none)).heap[k]? = V.heap[k]? := fun k hk => World.putObj_heap_other (by omega)
  exact ⟨h0.trans (belowK_b (w := w) (Nat.le_refl _) V D _ _ (by omega) hd rfl rfl), (e _ (by omega)).trans h1, (e _ (by omega)).trans h2, (e _ (by omega)).trans h3, (e _ (by omega)).trans h4, by simpa using h5⟩
set_option maxRecDepth 100000 in
set_option maxHeartbeats 2000000 in
theorem parse_any (s : ByteArray) (w : World) : Calls Tryz.prog 23 #[.string s] w fun e w' => e = .returned (parseV (parseL s.data.toList)) ∧ Below w.heap.size w w' := by
  have hsl : s.data.toList.length = s.size := rfl
  by_cases hlong : 153 < s.size
  · rw [parse_long (by omega)]
    exact parse_big s hlong w
  obtain ⟨o, ho⟩ : ∃ o, Hid (o = parseL s.data.toList) := ⟨_, Lib.hid rfl⟩
  rw [← ho.out]
  have hI : ¬ (s.size : Int) > 153 := by omega
  refine (callsIn_wide (n := 6)).1 ?_
  refine callsIn_of_wp_marks Tryz.func23 rfl trivial ?_ rfl
  simp only [Tryz.ntmps23, List.size_toArray, List.length_cons, List.length_nil, Nat.reduceAdd, Nat.reduceSub, Array.replicate_succ, Array.replicate_zero, List.push_toArray, List.append_toArray, List.nil_append, List.cons_append]
  have hI0 : PI w [] (((((w.alloc (Obj.cells #[Value.string ⟨#[]⟩] 9)).alloc (Obj.cells #[Value.string ⟨#[]⟩] 9)).alloc (Obj.cells #[Value.bool false] 4)).alloc (Obj.cells #[Value.int IntKind.i64 0] 3)).alloc (Obj.cells #[Value.string s] 9)) := by
    refine ⟨(((((Below.refl _ w).alloc (Nat.le_refl _) _).alloc (by simp) _).alloc (by simp; omega) _).alloc (by simp; omega) _).alloc (by simp; omega) _, ((((Boxed.new w 9 _).alloc _).alloc _).alloc _).alloc _, ?_, ?_, ?_, by simp⟩
    · have h := Boxed.new (w.alloc (Obj.cells #[Value.string ⟨#[]⟩] 9)) 9 (.string ⟨#[]⟩)
      simp only [World.size_alloc] at h
      exact ((h.alloc _).alloc _).alloc _
    · have h := Boxed.new ((w.alloc (Obj.cells #[Value.string ⟨#[]⟩] 9)).alloc (Obj.cells #[Value.string ⟨#[]⟩] 9)) 4 (.bool false)
      simp only [World.size_alloc] at h
      exact (h.alloc _).alloc _
    · have h := Boxed.new (((w.alloc (Obj.cells #[Value.string ⟨#[]⟩] 9)).alloc (Obj.cells #[Value.string ⟨#[]⟩] 9)).alloc (Obj.cells #[Value.bool false] 4)) 3 (.int .i64 0)
      simp only [World.size_alloc] at h
      exact h.alloc _
  have hbx : Boxed (((((w.alloc (Obj.cells #[Value.string ⟨#[]⟩] 9)).alloc (Obj.cells #[Value.string ⟨#[]⟩] 9)).alloc (Obj.cells #[Value.bool false] 4)).alloc (Obj.cells #[Value.int IntKind.i64 0] 3)).alloc (Obj.cells #[Value.string s] 9)) (w.heap.size + 1 + 1 + 1 + 1) 9 (.string s) := by
    have h := Boxed.new ((((w.alloc (Obj.cells #[Value.string ⟨#[]⟩] 9)).alloc (Obj.cells #[Value.string ⟨#[]⟩] 9)).alloc (Obj.cells #[Value.bool false] 4)).alloc (Obj.cells #[Value.int IntKind.i64 0] 3)) 9 (.string s)
    simp only [World.size_alloc] at h
    exact h
  have HI0 := Lib.hid hI0
  have HBX := Lib.hid hbx
  clear hI0 hbx
  gi_wp2_with (refine ⟨trivial, ?_⟩; gi_at_call 55; refine (parts_in _ _ _).mono ?_; rintro e w' ⟨rfl, rfl⟩)
  generalize ((((w.alloc (Obj.cells #[Value.string ⟨#[]⟩] 9)).alloc (Obj.cells #[Value.string ⟨#[]⟩] 9)).alloc (Obj.cells #[Value.bool false] 4)).alloc (Obj.cells #[Value.int IntKind.i64 0] 3)).alloc (Obj.cells #[Value.string s] 9) = W0 at *
  have hsz : w.heap.size + 5 ≤ W0.heap.size := HI0.out.2.2.2.2.2
  refine wpIn_rangeFunc_ownF rfl (by omega) (gf := 100) (lb := #[.pointer (some ⟨w.heap.size + 1 + 1 + 1 + 1, 0, none⟩)]) rfl trivial (enters_of Tryz.func100 (by kernel_rfl) rfl) (parts_stops 5 (w.heap.size + 1 + 1 + 1 + 1) s (by omega) W0 HBX.out (by omega))
    (fun h1 h2 => Eq.trans h2 h1) (fun W l o o' hl ho hoc _ => World.putObj_heap_other (by omega)) (Below.refl _ _) (fun _ => rfl)
    (PI w) (fun _ _ _ => False) (pI_own w _ (by omega)) (fun _ _ _ _ _ hs _ _ => hs) HI0.out
    (fun (x : Pc) => { tmps := #[.string s, undef, .pointer (some ⟨w.heap.size, 0, none⟩), .pointer (some ⟨w.heap.size + 1, 0, none⟩), .pointer (some ⟨w.heap.size + 1 + 1, 0, none⟩), .pointer (some ⟨w.heap.size + 1 + 1 + 1, 0, none⟩), .string ⟨x.1.toArray⟩, .string s, .int .i64 (s.size : Int), .bool false, .string s, .func (.func 100) #[] #[.pointer (some ⟨w.heap.size + 1 + 1 + 1 + 1, 0, none⟩)], .string ⟨x.1.toArray⟩, undef, undef, undef, undef, undef, undef, undef, undef, undef, undef, undef, undef, undef, undef, undef, undef, undef, undef, undef, undef, undef, undef, undef, undef, undef], defers := [] }) ?assign ?body ?done ?stop
  case assign =>
    intro l x W K hK
    unfold encS
    gi_wp2
    exact hK
  case stop =>
    rintro D c pre W _ _ h _
    exact h.elim
  case body =>
    rintro l pre ⟨x, hx⟩ W ⟨h0, h1, h2, h3, h4, h5⟩ _
    have hll := lists_len pre
    have hsn : lists (pre ++ [⟨x, hx⟩]) = lists pre ++ [x] := lists_snoc _ _
    have HSN := Lib.hid hsn
    dsimp only
    clear hsn
    have c4 := h4.cell
    have g4 := h4.frozen
    have c1 := h1.cell
    have g1 := h1.frozen
    clear HI0 HBX hI
    rcases (show pre.length = 0 ∨ pre.length = 1 ∨ 2 ≤ pre.length by omega) with hn | hn | hn
    · have hnI : (pre.length : Int) = 0 := by omega
      rw [hnI] at c4
      have e1 : nameOf (lists pre ++ [x]) = x := by
        cases pre with
        | nil => rfl
        | cons a b => simp at hn
      have hfin : PI w (pre ++ [⟨x, hx⟩]) ((W.setCell ⟨w.heap.size, 0, none⟩ (.string ⟨x.toArray⟩)).setCell ⟨w.heap.size + 1 + 1 + 1, 0, none⟩ (.int .i64 1)) := by
        unfold PI
        rw [HSN.out, e1, sig_less x (by omega), show ((pre ++ [(⟨x, hx⟩ : Pc)]).length : Int) = 1 by rw [List.length_append]; simp; omega]
        exact (PV.setN ⟨h0, h1, h2, h3, h4, h5⟩ _).setC 1
      have hk : KeepsOthers W ((W.setCell ⟨w.heap.size, 0, none⟩ (.string ⟨x.toArray⟩)).setCell ⟨w.heap.size + 1 + 1 + 1, 0, none⟩ (.int .i64 1)) := (keeps_setCell h1).trans (keeps_setCell (Boxed.other h4 (by omega)))
      have hp : KpS (w.heap.size + 1 + 1 + 1 + 1) W ((W.setCell ⟨w.heap.size, 0, none⟩ (.string ⟨x.toArray⟩)).setCell ⟨w.heap.size + 1 + 1 + 1, 0, none⟩ (.int .i64 1)) := (Below.heap_setCell _ _ _ _ (by simp only; omega)).trans (Below.heap_setCell _ _ _ _ (by simp only; omega))
      have HF := Lib.hid hfin
      have HK := Lib.hid hk
      have HP := Lib.hid hp
      clear hfin hk hp h0 h1 h2 h3 h4
      gi_wp2
      exact ⟨HK.out, HP.out, HF.out⟩
    · have hnI : (pre.length : Int) = 1 := by omega
      rw [hnI] at c4
      have hxl : (⟨x.toArray⟩ : ByteArray).size ≤ 549755813888 := by simp [ByteArray.size]; omega
      have HG := Lib.hid (fun w => getBase64_any ⟨x.toArray⟩ w hxl)
      have hq0 : get64 (⟨x.toArray⟩ : ByteArray).data.toList = get64 x := rfl
      rw [hq0] at HG
      have hfin : ∀ v, v = get64 x → ∀ W1, Below W.heap.size W W1 → PI w (pre ++ [⟨x, hx⟩]) (((W1.setCell ⟨w.heap.size + 1, 0, none⟩ (.string ⟨(v.getD []).toArray⟩)).setCell ⟨w.heap.size + 1 + 1, 0, none⟩ (.bool v.isSome)).setCell ⟨w.heap.size + 1 + 1 + 1, 0, none⟩ (.int .i64 2)) ∧
          KeepsOthers W (((W1.setCell ⟨w.heap.size + 1, 0, none⟩ (.string ⟨(v.getD []).toArray⟩)).setCell ⟨w.heap.size + 1 + 1, 0, none⟩ (.bool v.isSome)).setCell ⟨w.heap.size + 1 + 1 + 1, 0, none⟩ (.int .i64 2)) ∧
          KpS (w.heap.size + 1 + 1 + 1 + 1) W (((W1.setCell ⟨w.heap.size + 1, 0, none⟩ (.string ⟨(v.getD []).toArray⟩)).setCell ⟨w.heap.size + 1 + 1, 0, none⟩ (.bool v.isSome)).setCell ⟨w.heap.size + 1 + 1 + 1, 0, none⟩ (.int .i64 2)) := by
        intro v hv W1 hb
        have hc := PV.call ⟨h0, h1, h2, h3, h4, h5⟩ hb
        refine ⟨?_, ?_, ?_⟩
        · unfold PI
          rw [HSN.out, name_more x (by omega), sig_one x (by omega), ← hv, show ((pre ++ [(⟨x, hx⟩ : Pc)]).length : Int) = 2 by rw [List.length_append]; simp; omega]
          exact ((hc.setG _).setK _).setC 2
        · obtain ⟨q0, q1, q2, q3, q4, q5⟩ := hc
          exact (((keeps_of_below hb).trans (keeps_setCell q2)).trans (keeps_setCell (Boxed.other q3 (by omega)))).trans (keeps_setCell (Boxed.other (Boxed.other q4 (by omega)) (by omega)))
        · exact (((Below.heap_setCell _ _ _ _ (by simp only; omega)).trans (Below.heap_setCell _ _ _ _ (by simp only; omega))).trans (Below.heap_setCell _ _ _ _ (by simp only; omega))).trans (hb.block _ (by omega))
      have HF := Lib.hid hfin
      have hc4 : ∀ W1, Below W.heap.size W W1 → W1.cell? ⟨w.heap.size + 1 + 1 + 1, 0, none⟩ = some (.int .i64 1) ∧ W1.frozen? ⟨w.heap.size + 1 + 1 + 1, 0, none⟩ = false ∧ (∃ v, W1.cell? ⟨w.heap.size + 1, 0, none⟩ = some v) ∧ W1.frozen? ⟨w.heap.size + 1, 0, none⟩ = false ∧ (∃ v, W1.cell? ⟨w.heap.size + 1 + 1, 0, none⟩ = some v) ∧ W1.frozen? ⟨w.heap.size + 1 + 1, 0, none⟩ = false := fun W1 hb => by
        obtain ⟨q0, q1, q2, q3, q4, q5⟩ := PV.call ⟨h0, h1, h2, h3, h4, h5⟩ hb
        exact ⟨by rw [q4.cell, hnI], q4.frozen, ⟨_, q2.cell⟩, q2.frozen, ⟨_, q3.cell⟩, q3.frozen⟩
      have HC4 := Lib.hid hc4
      clear hfin hc4 h0 h1 h2 h3 h4 hq0
      obtain ⟨v, hv⟩ : ∃ v, Hid (v = get64 x) := ⟨_, Lib.hid rfl⟩
      rw [← hv.out] at HG
      gi_wp2
      refine ⟨trivial, ?_⟩
      refine (CallsIn.inRound l (callsIn_wide.2 (HG.out W))).mono ?_
      rintro e W1 ⟨rfl, hb⟩
      obtain ⟨d4, k4, ⟨v2, d2⟩, k2, ⟨v3, d3⟩, k3⟩ := HC4.out W1 hb
      have HB := Lib.hid hb
      clear hb c4 g4 c1 g1
      cases v with
      | none =>
        unfold told
        gi_wp2
        exact ⟨(HF.out _ hv.out W1 HB.out).2.1, (HF.out _ hv.out W1 HB.out).2.2, (HF.out _ hv.out W1 HB.out).1⟩
      | some v =>
        unfold told
        gi_wp2
        exact ⟨(HF.out _ hv.out W1 HB.out).2.1, (HF.out _ hv.out W1 HB.out).2.2, (HF.out _ hv.out W1 HB.out).1⟩
    · have hnI : ¬ (pre.length : Int) = 0 := by omega
      have hnI2 : ¬ (pre.length : Int) = 1 := by omega
      have hw : IntKind.i64.wrap ((pre.length : Int) + 1) = ((pre.length + 1 : Nat) : Int) := by rw [IntKind.wrap_i64]; omega
      have hfin : PI w (pre ++ [⟨x, hx⟩]) (W.setCell ⟨w.heap.size + 1 + 1 + 1, 0, none⟩ (.int .i64 ((pre.length + 1 : Nat) : Int))) := by
        unfold PI
        rw [HSN.out, name_more x (by omega), sig_more x (by omega), show (pre ++ [(⟨x, hx⟩ : Pc)]).length = pre.length + 1 by simp]
        exact PV.setC ⟨h0, h1, h2, h3, h4, h5⟩ _
      have hk : KeepsOthers W (W.setCell ⟨w.heap.size + 1 + 1 + 1, 0, none⟩ (.int .i64 ((pre.length + 1 : Nat) : Int))) := keeps_setCell h4
      have hp : KpS (w.heap.size + 1 + 1 + 1 + 1) W (W.setCell ⟨w.heap.size + 1 + 1 + 1, 0, none⟩ (.int .i64 ((pre.length + 1 : Nat) : Int))) := Below.heap_setCell _ _ _ _ (by simp only; omega)
      have HF := Lib.hid hfin
      have HK := Lib.hid hk
      have HP := Lib.hid hp
      clear hfin hk hp h0 h1 h2 h3 h4
      generalize ((pre.length + 1 : Nat) : Int) = m at *
      gi_wp2
      exact ⟨HK.out, HP.out, HF.out⟩
  case done =>
    rintro D xs W hD hxs hP hDf
    have hsg : ∀ g, sigOf (lists xs) = some g → g.length ≤ 1000 := fun g h => sig_le h
    have hnm : (nameOf (lists xs)).length ≤ 1000 := name_le
    have hpar := parse_pieces s.data.toList
    rw [← hxs] at hpar
    unfold PI at hP
    generalize nameOf (lists xs) = nm at *
    obtain ⟨sg, hsgv⟩ : ∃ sg, sg = sigOf (lists xs) := ⟨_, rfl⟩
    rw [← hsgv] at hpar hP hsg
    rw [← ho.out] at hpar
    clear hxs hsgv HI0 HBX hI
    obtain ⟨N, hN⟩ : ∃ N : ByteArray, Hid (N = ⟨nm.toArray⟩) := ⟨_, Lib.hid rfl⟩
    obtain ⟨cn, hcn⟩ : ∃ cn : Int, cn = (xs.length : Int) := ⟨_, rfl⟩
    rw [← hN.out, ← hcn] at hP
    clear hcn
    have hDl : w.heap.size + 5 ≤ D := by omega
    have c3 := hP.2.2.2.1.cell
    have g3 := hP.2.2.2.1.frozen
    have c1 := hP.2.1.cell
    have g1 := hP.2.1.frozen
    have c2 := hP.2.2.1.cell
    have g2 := hP.2.2.1.frozen
    have HD := Lib.hid hDl
    have HDF := Lib.hid hDf
    have HPV := Lib.hid hP
    clear hDl hDf hP
    cases sg with
    | none =>
      have hon : Hid (o = none) := Lib.hid hpar
      clear hpar hsg
      simp only [Option.getD_none, Option.isSome_none] at *
      have HF := Lib.hid (((HPV.out.setN ⟨#[]⟩).setG ⟨#[]⟩).setK false)
      have HDF2 : Hid ((((W.setCell ⟨w.heap.size, 0, none⟩ (.string ⟨#[]⟩)).setCell ⟨w.heap.size + 1, 0, none⟩ (.string ⟨#[]⟩)).setCell ⟨w.heap.size + 1 + 1, 0, none⟩ (.bool false)).heap[D]? = some (.deferred (some []))) :=
        Lib.hid ((((Below.heap_setCell _ _ _ _ (by have := HD.out; simp only; omega)).trans (Below.heap_setCell _ _ _ _ (by have := HD.out; simp only; omega))).trans (Below.heap_setCell _ _ _ _ (by have := HD.out; simp only; omega))).trans HDF.out)
      gi_wp2_with (refine ⟨trivial, ?_⟩)
      gi_wp2
      have HR := HF.out.fin HD.out HDF2.out
      refine ⟨by simp, .inl ⟨_, _, rfl, run_takeDeferred HDF2.out, ?_⟩⟩
      exact ⟨_, results_cells3 rfl _ _ _ ⟨w.heap.size, 0, none⟩ ⟨w.heap.size + 1, 0, none⟩ ⟨w.heap.size + 1 + 1, 0, none⟩ rfl rfl rfl _ _ _ (load9 HR.2.1) (load9 HR.2.2.1) (load4 HR.2.2.2.1), by rw [hon.out]; rfl, HR.1⟩
    | some g =>
      have hgl := hsg g rfl
      simp only [Option.getD_some, Option.isSome_some] at *
      obtain ⟨G, hGv⟩ : ∃ G : ByteArray, Hid (G = ⟨g.toArray⟩) := ⟨_, Lib.hid rfl⟩
      rw [← hGv.out] at c2 HPV
      have hGs : G.size ≤ 549755813888 := by rw [hGv.out]; simp [ByteArray.size]; omega
      have HT := Lib.hid (fun w => text_any N G hGs w)
      obtain ⟨T, hT⟩ : ∃ T : ByteArray, Hid (T = ⟨(textL N.data.toList G.data.toList).toArray⟩) := ⟨_, Lib.hid rfl⟩
      rw [← hT.out] at HT
      have hTe : T = ⟨(textL nm g).toArray⟩ := by rw [hT.out, hN.out, hGv.out]
      have HCL := Lib.hid (fun w => clone_any N (by rw [hN.out]; simp [ByteArray.size]; omega) w)
      clear hGs hsg
      by_cases ht : textL nm g = s.data.toList
      · have hTs : T = s := by rw [hTe, ht]
        have hon : Hid (o = some (nm, g)) := by unfold Hid; rw [hpar]; exact if_pos ht
        rw [hTs] at HT
        clear hT hTe hTs hpar ht
        gi_wp2
        refine ⟨trivial, ?_⟩
        gi_at_call 27
        refine (callsIn_wide.2 (HT.out _)).mono ?_
        rintro e W1 ⟨rfl, hb⟩
        have HD1 : Hid (W1.heap[D]? = some (.deferred (some []))) := Lib.hid ((hb.block D (Array.getElem?_eq_some_iff.1 HDF.out).1).trans HDF.out)
        have HP1 := Lib.hid (HPV.out.call hb)
        clear hb c1 c2 c3 g1 g2 g3 HDF HPV HT
        gi_wp2
        have mixed : Tryz.prog.follows .mixedOrders = true := by kernel_rfl
        have HPd : Hid (PV w N G true cn W1.drew) := Lib.hid ⟨HP1.out.1.drew, HP1.out.2.1, HP1.out.2.2.1, HP1.out.2.2.2.1, HP1.out.2.2.2.2.1, HP1.out.2.2.2.2.2⟩
        have c1 := HP1.out.2.1.cell
        have c2 := HP1.out.2.2.1.cell
        have g1 := HP1.out.2.1.frozen
        have g2 := HP1.out.2.2.1.frozen
        have c3 := HP1.out.2.2.2.1.cell
        have g3 := HP1.out.2.2.2.1.frozen
        gi_region_with_o (refine ⟨trivial, ?_⟩; gi_at_call 57; refine (callsIn_wide.2 (HCL.out _)).mono ?_; rintro e w9 ⟨rfl, hb9⟩; have HP9 := Lib.hid (HPd.out.call hb9); have HD9 := Lib.hid ((hb9.block D (Array.getElem?_eq_some_iff.1 HD1.out).1).trans HD1.out); have d1 := HP9.out.2.1.cell; have k1 := HP9.out.2.1.frozen; have d2 := HP9.out.2.2.1.cell; have k2 := HP9.out.2.2.1.frozen; have d3 := HP9.out.2.2.2.1.cell; have k3 := HP9.out.2.2.2.1.frozen)
        all_goals
          have HF := Lib.hid (((HP9.out.setN N).setG G).setK true)
          have HDF2 : Hid ((((w9.setCell ⟨w.heap.size, 0, none⟩ (.string N)).setCell ⟨w.heap.size + 1, 0, none⟩ (.string G)).setCell ⟨w.heap.size + 1 + 1, 0, none⟩ (.bool true)).heap[D]? = some (.deferred (some []))) :=
            Lib.hid ((((Below.heap_setCell _ _ _ _ (by have := HD.out; simp only; omega)).trans (Below.heap_setCell _ _ _ _ (by have := HD.out; simp only; omega))).trans (Below.heap_setCell _ _ _ _ (by have := HD.out; simp only; omega))).trans HD9.out)
          clear c1 c2 c3 g1 g2 g3 d1 d2 d3 k1 k2 k3 hb9
          gi_wp2
          have HR := HF.out.fin HD.out HDF2.out
          refine ⟨by simp, .inl ⟨_, _, rfl, run_takeDeferred HDF2.out, ?_⟩⟩
          exact ⟨_, results_cells3 rfl _ _ _ ⟨w.heap.size, 0, none⟩ ⟨w.heap.size + 1, 0, none⟩ ⟨w.heap.size + 1 + 1, 0, none⟩ rfl rfl rfl _ _ _ (load9 HR.2.1) (load9 HR.2.2.1) (load4 HR.2.2.2.1), by rw [hon.out, hN.out, hGv.out]; rfl, HR.1⟩
      · have hTs : T ≠ s := by
          intro e
          apply ht
          rw [hTe] at e
          rw [← e]
        have hon : Hid (o = none) := by unfold Hid; rw [hpar]; exact if_neg ht
        have hbq : Hid ((T.toList == s.toList) = false) := by
          unfold Hid
          rw [Lib.toList_data, Lib.toList_data]
          simp only [beq_eq_false_iff_ne, ne_eq]
          exact fun h => hTs (ByteArray.ext (Array.toList_inj.1 h))
        have hbq2 := hbq.out
        clear hT hTe hTs hpar ht
        gi_wp2
        refine ⟨trivial, ?_⟩
        gi_at_call 27
        refine (callsIn_wide.2 (HT.out _)).mono ?_
        rintro e W1 ⟨rfl, hb⟩
        have HD1 : Hid (W1.heap[D]? = some (.deferred (some []))) := Lib.hid ((hb.block D (Array.getElem?_eq_some_iff.1 HDF.out).1).trans HDF.out)
        have HP1 := Lib.hid (HPV.out.call hb)
        clear hb c1 c2 c3 g1 g2 g3 HDF HPV HT
        have c1 := HP1.out.2.1.cell
        have c2 := HP1.out.2.2.1.cell
        have g1 := HP1.out.2.1.frozen
        have g2 := HP1.out.2.2.1.frozen
        have c3 := HP1.out.2.2.2.1.cell
        have g3 := HP1.out.2.2.2.1.frozen
        have HF := Lib.hid (((HP1.out.setN ⟨#[]⟩).setG ⟨#[]⟩).setK false)
        have HDF2 : Hid ((((W1.setCell ⟨w.heap.size, 0, none⟩ (.string ⟨#[]⟩)).setCell ⟨w.heap.size + 1, 0, none⟩ (.string ⟨#[]⟩)).setCell ⟨w.heap.size + 1 + 1, 0, none⟩ (.bool false)).heap[D]? = some (.deferred (some []))) :=
          Lib.hid ((((Below.heap_setCell _ _ _ _ (by have := HD.out; simp only; omega)).trans (Below.heap_setCell _ _ _ _ (by have := HD.out; simp only; omega))).trans (Below.heap_setCell _ _ _ _ (by have := HD.out; simp only; omega))).trans HD1.out)
        gi_wp2
        have HR := HF.out.fin HD.out HDF2.out
        refine ⟨by simp, .inl ⟨_, _, rfl, run_takeDeferred HDF2.out, ?_⟩⟩
        exact ⟨_, results_cells3 rfl _ _ _ ⟨w.heap.size, 0, none⟩ ⟨w.heap.size + 1, 0, none⟩ ⟨w.heap.size + 1 + 1, 0, none⟩ rfl rfl rfl _ _ _ (load9 HR.2.1) (load9 HR.2.2.1) (load4 HR.2.2.2.1), by rw [hon.out]; rfl, HR.1⟩
end Go.Proofs.YtdajmekliodmcaaGreatDoor
