/- Several texts, one behind the other; each says by itself what it proves, and on what conditions. -/
import Derived.Test.YtgbaaiedpiiepaaDoorV16
import Derived.RangeFuncCalls
import Derived.LoopIn
/- The nodes of a directory by their places, and as lists: the bytes are one. No condition. -/
namespace Go.Proofs.YtgbaaiedpiiepaaDoor
open Go.RowKit
set_option linter.unusedVariables false
set_option linter.unusedSimpArgs false
theorem sub_len (c : Nd) (r : List Nd) : (subT c r).length ≤ r.length ∧ (subD c r).length ≤ r.length := ⟨(List.takeWhile_sublist _).length_le, (List.dropWhile_sublist _).length_le⟩
theorem prog_fuel : ∀ f g, (∀ d r, 2 * r.length + 2 ≤ f → 2 * r.length + 2 ≤ g → progU f d r = progU g d r) ∧ (∀ r, 2 * r.length + 1 ≤ f → 2 * r.length + 1 ≤ g → entsP f r = entsP g r)
  | 0, g => ⟨fun d r h => by omega, fun r h => by omega⟩
  | f + 1, 0 => ⟨fun d r _ h => by omega, fun r _ h => by omega⟩
  | f + 1, g + 1 => by
    obtain ⟨h1, h2⟩ := prog_fuel f g
    constructor
    · intro d r hf hg
      rw [progU_succ, progU_succ, h2 r (by omega) (by omega)]
    · intro r hf hg
      cases r with
      | nil => rw [entsP_nil, entsP_nil]
      | cons c r =>
        simp only [List.length_cons] at hf hg
        obtain ⟨q1, q2⟩ := sub_len c r
        rw [entsP_cons, entsP_cons, h1 c _ (by omega) (by omega), h2 _ (by omega) (by omega)]
/-- The bytes of a node with all below it; of a directory's nodes. -/
def progX (d : Nd) (r : List Nd) : List UInt8 := progU (fuelN r) d r
def entsX (r : List Nd) : List UInt8 := entsP (2 * r.length + 1) r
theorem progX_eq (d : Nd) (r : List Nd) : progX d r = strsL [tOpen, tType] ++ ((if d.kind = 1 then strsL [tReg, tCont, d.data] else if d.kind = 2 then strsL [tReg, tExec, [], tCont, d.data] else if d.kind = 3 then strsL [tSym, tTarg, d.data] else strsL [tDir] ++ entsX r) ++ strsL [tClose]) := by
  unfold progX entsX fuelN
  rw [progU_succ]
theorem entsX_nil : entsX [] = [] := by unfold entsX; rw [entsP_nil]
theorem entsX_cons (c : Nd) (r : List Nd) : entsX (c :: r) = strsL [tEntry, tOpen, tName, (cutL c.path).2, tNode] ++ (progX c (subT c r) ++ (strsL [tClose] ++ entsX (subD c r))) := by
  unfold entsX progX fuelN
  obtain ⟨q1, q2⟩ := sub_len c r
  rw [entsP_cons, (prog_fuel _ (2 * (subT c r).length + 2)).1 c _ (by simp; omega) (by omega), (prog_fuel _ (2 * (subD c r).length + 1)).2 _ (by simp; omega) (by omega)]
theorem strsL_app (a b : List (List UInt8)) : strsL (a ++ b) = strsL a ++ strsL b := by simp [strsL]
/-! ### By places -/
theorem run_take (l : List Nd) (j : Nat) (hne : (ndf l j).path ≠ []) : ∀ m k, j + k + m = l.length → runN (ndf l) j m k = k + ((l.drop (j + k)).takeWhile (wh (ndf l j).path)).length
  | 0, k, h => by
    rw [List.drop_of_length_le (by omega)]
    rfl
  | m + 1, k, h => by
    have hlt : j + k < l.length := by omega
    rw [List.drop_eq_getElem_cons hlt, List.takeWhile_cons]
    have e1 : ndf l (E.addN j k) = l[j + k] := by rw [E.addN_eq, ndf_at l _ hlt]
    have e2 : wh (ndf l j).path l[j + k] = ((ndf l j).path ++ [47]).isPrefixOf l[j + k].path := by
      unfold wh
      rw [show ((ndf l j).path == []) = false by simpa using hne, Bool.false_or]
    unfold runN
    rw [e1, e2]
    by_cases hw : ((ndf l j).path ++ [47]).isPrefixOf l[j + k].path = true
    · rw [if_pos hw, if_pos hw, run_take l j hne m (k + 1) (by omega), List.length_cons, show j + (k + 1) = j + k + 1 by omega]
      omega
    · rw [if_neg hw, if_neg hw]; rfl
theorem span_take (l : List Nd) (j m : Nat) (hm : 0 < m) (h : j + m = l.length) (hne : (ndf l j).path ≠ []) : spanN (ndf l) j m = 1 + (subT (ndf l j) (l.drop (j + 1))).length := by
  unfold spanN subT
  rw [run_take l j hne (m - 1) 1 (by omega)]
/-- A piece of a list of nodes. -/
def subl (l : List Nd) (j s : Nat) : List Nd := (l.drop (j + 1)).take (s - 1)
theorem take_len {α : Type} (p : α → Bool) : ∀ l : List α, l.take (l.takeWhile p).length = l.takeWhile p ∧ l.drop (l.takeWhile p).length = l.dropWhile p
  | [] => ⟨rfl, rfl⟩
  | x :: l => by
    by_cases h : p x = true
    · rw [List.takeWhile_cons, if_pos h, List.dropWhile_cons, if_pos h]
      have := take_len p l
      exact ⟨by rw [List.length_cons, List.take_succ_cons, this.1], by rw [List.length_cons, List.drop_succ_cons, this.2]⟩
    · rw [List.takeWhile_cons, if_neg h, List.dropWhile_cons, if_neg h]
      exact ⟨rfl, rfl⟩
theorem subl_span (l : List Nd) (j m : Nat) (hm : 0 < m) (h : j + m = l.length) (hne : (ndf l j).path ≠ []) : subl l j (spanN (ndf l) j m) = subT (ndf l j) (l.drop (j + 1)) ∧ l.drop (j + spanN (ndf l) j m) = subD (ndf l j) (l.drop (j + 1)) := by
  rw [span_take l j m hm h hne]
  unfold subl subT subD
  have := take_len (wh (ndf l j).path) (l.drop (j + 1))
  refine ⟨by rw [Nat.add_sub_cancel_left]; exact this.1, ?_⟩
  rw [← this.2, List.drop_drop]
  congr 1
  omega
/-- What one node's round writes. -/
def roundB (l : List Nd) (x : Nat × Nat) : List UInt8 := strsL [tEntry, tOpen, tName, (cutL (ndf l x.1).path).2, tNode] ++ (progX (ndf l x.1) (subl l x.1 x.2) ++ strsL [tClose])
theorem ents_round (l : List Nd) (hne : ∀ j, 1 ≤ j → j < l.length → (ndf l j).path ≠ []) : ∀ f j m, 1 ≤ j → m ≤ f → j + m = l.length → (entsN (ndf l) f j m).flatMap (roundB l) = entsX (l.drop j)
  | 0, j, m, hj, hf, h => by
    obtain rfl : m = 0 := by omega
    rw [List.drop_of_length_le (by omega), entsX_nil]
    rfl
  | f + 1, j, m, hj, hf, h => by
    unfold entsN
    by_cases hm : m = 0
    · rw [if_pos hm, List.drop_of_length_le (by omega), entsX_nil]; rfl
    · have hsg := span_ge (ndf l) j m (by omega)
      have hs := subl_span l j m (by omega) h (hne j hj (by omega))
      rw [if_neg hm, List.flatMap_cons, ents_round l hne f _ _ (by omega) (by omega) (by omega), hs.2, List.drop_eq_getElem_cons (show j < l.length by omega), entsX_cons]
      unfold roundB
      rw [hs.1, ndf_at l j (by omega)]
      simp only [List.append_assoc]
theorem ents_mem (nd : Nat → Nd) : ∀ f j m (x : Nat × Nat), x ∈ entsN nd f j m → j ≤ x.1 ∧ 1 ≤ x.2 ∧ x.1 + x.2 ≤ j + m
  | 0, j, m, x, h => by cases h
  | f + 1, j, m, x, h => by
    unfold entsN at h
    split at h
    · cases h
    · rename_i hm
      have hsg := span_ge nd j m (by omega)
      rcases List.mem_cons.1 h with rfl | h
      · simp only; omega
      · have := ents_mem nd f _ _ x h
        omega
end Go.Proofs.YtgbaaiedpiiepaaDoor
/- Of the program: the bytes of a node with all below it go into a builder. Its conditions: lengths that fit; kinds that there are; no node below another one with an empty path. -/
namespace Go.Proofs.YtgbaaiedpiiepaaDoor
open Go.RowKit Go.Shelf
set_option linter.unusedVariables false
set_option linter.unusedSimpArgs false
attribute [local go_sem] Oper.semAt_some
/-- Where a builder's writer stands: what has been written, its variable. -/
structure PS (w0 : World) (B gb bx : Nat) (L : List UInt8) (W : World) : Prop where
  bl : Bl B gb L W
  kp : Kp B gb w0 W
  box : Boxed W bx 52 (.pointer (some ⟨gb, 0, none⟩))
  big : B ≤ W.heap.size
  ne : bx ≠ gb
theorem PS.put {w0 W : World} {B gb bx : Nat} {L : List UInt8} (h : PS w0 B gb bx L W) (ts : List (List UInt8)) (n : Nat) (hn : ts.length = n) (hN : n ≤ 1000) (hl : ∀ t ∈ ts, t.length ≤ 1000000) (hlen : L.length + (strsL ts).length ≤ 140737488355328) :
    Calls Tryd.prog 27 #[.pointer (some ⟨gb, 0, none⟩), .slice (some ⟨W.heap.size, 0, none⟩) n n] (W.alloc (.cells (sRow ts) 9)) fun e w' => e = .returned (.tuple #[]) ∧ PS w0 B gb bx (L ++ strsL ts) w' := by
  have hb : Below W.heap.size W (W.alloc (.cells (sRow ts) 9)) := (Below.refl _ _).alloc (Nat.le_refl _) _
  refine (put_any B gb W.heap.size L ts n hn hN hl hlen _ (Nat.le_trans h.big (by simp)) (h.bl.below hb) (World.alloc_heap_new W _)).mono ?_
  rintro e w' ⟨rfl, h1, h2⟩
  have hk : Kp B gb W w' := (Kp.of_below hb h.big).trans h2
  exact ⟨rfl, h1, h.kp.trans hk, hk.row h.box (by decide) h.ne, Nat.le_trans h.big hk.1.size, h.ne⟩
theorem PS.own {w0 W W' : World} {B gb bx n0 : Nat} {L : List UInt8} {row : Option Nat} (h : PS w0 B gb bx L W) (hg : W.grownBy W' row) (hr : ∀ r, row = some r → n0 ≤ r ∧ ∃ o : Obj, W.heap[r]? = some o ∧ o.isCells = false) (hn : w0.heap.size ≤ n0) (hB : B ≤ n0) : PS w0 B gb bx L W' := by
  have cells : ∀ k (o : Obj), W.heap[k]? = some o → o.isCells = true → W'.heap[k]? = some o := fun k o hk ho =>
    (hg.block k (Array.getElem?_eq_some_iff.1 hk).1 (fun e => by
      obtain ⟨_, o2, h2, h3⟩ := hr k e.symm
      rw [hk] at h2; cases h2; rw [ho] at h3; cases h3)).trans hk
  have bld : ∀ p, Lib.BuilderAtF 54 5 B gb p (Lib.byteCells L) W → Lib.BuilderAtF 54 5 B gb p (Lib.byteCells L) W' := by
    rintro p ⟨h1, v, h2, h3, h4⟩
    refine ⟨h1, v, cells _ _ h2 rfl, ⟨h3.1, ?_⟩, h4⟩
    rcases h3.2 with h | ⟨g, cap, cur, fz, e1, e2, e3, e4⟩
    · exact .inl h
    · exact .inr ⟨g, cap, cur, fz, e1, e2, cells _ _ e3 rfl, e4⟩
  refine ⟨?_, ⟨h.kp.1.grown hg h.big (fun k e => by have := (hr k e).1; omega), ?_⟩, cells _ _ h.box rfl, Nat.le_trans h.big hg.size, h.ne⟩
  · rcases h.bl with q | q
    · exact .inl (bld _ q)
    · exact .inr (bld _ q)
  · intro k o hk hb ho
    have h1 := h.kp.2 k o hk hb ho
    have hlt := (Array.getElem?_eq_some_iff.1 hk).1
    exact (hg.block k (Array.getElem?_eq_some_iff.1 h1).1 (fun e => by have := (hr k e.symm).1; omega)).trans h1
/-- A node's cells. -/
theorem node0 {W : World} {b o : Nat} {d : Nd} {r : List Nd} (h : Nodes W b o (d :: r)) : W.cell? ⟨b, o, none⟩ = some (strV d.path) ∧ W.cell? ⟨b, o + 1, none⟩ = some (.int .i64 d.kind) ∧ W.cell? ⟨b, o + 2, none⟩ = some (strV d.data) := by
  have := h.2 0 (by simp)
  simpa using this
theorem Nodes.kept {W W2 : World} {B b o : Nat} {l : List Nd} (h : Nodes W b o l) (hb : Below B W W2) (hlt : b < B) : Nodes W2 b o l :=
  ⟨Nat.lt_of_lt_of_le h.1 hb.size, fun i hi => ⟨(hb.cell hlt).trans (h.2 i hi).1, (hb.cell hlt).trans (h.2 i hi).2.1, (hb.cell hlt).trans (h.2 i hi).2.2⟩⟩
theorem strsL_cat (a b : List (List UInt8)) : strsL a ++ strsL b = strsL (a ++ b) := (strsL_app a b).symm
theorem row_open : sRow [tOpen, tType] = #[.string { data := #[40] }, .string { data := #[116, 121, 112, 101] }] := rfl
theorem row_close : sRow [tClose] = #[.string { data := #[41] }] := rfl
theorem row_reg (D : ByteArray) (l : List UInt8) (h : D = ⟨l.toArray⟩) : sRow [tReg, tCont, l] = #[.string { data := #[114, 101, 103, 117, 108, 97, 114] }, .string { data := #[99, 111, 110, 116, 101, 110, 116, 115] }, .string D] := by rw [h]; rfl
theorem row_exec (D : ByteArray) (l : List UInt8) (h : D = ⟨l.toArray⟩) : sRow [tReg, tExec, [], tCont, l] = #[.string { data := #[114, 101, 103, 117, 108, 97, 114] }, .string { data := #[101, 120, 101, 99, 117, 116, 97, 98, 108, 101] }, .string { data := #[] }, .string { data := #[99, 111, 110, 116, 101, 110, 116, 115] }, .string D] := by rw [h]; rfl
theorem row_link (D : ByteArray) (l : List UInt8) (h : D = ⟨l.toArray⟩) : sRow [tSym, tTarg, l] = #[.string { data := #[115, 121, 109, 108, 105, 110, 107] }, .string { data := #[116, 97, 114, 103, 101, 116] }, .string D] := by rw [h]; rfl
theorem row_dir : sRow [tDir] = #[.string { data := #[100, 105, 114, 101, 99, 116, 111, 114, 121] }] := rfl
theorem row_entry (D : ByteArray) (l : List UInt8) (h : D = ⟨l.toArray⟩) : sRow [tEntry, tOpen, tName, l, tNode] = #[.string { data := #[101, 110, 116, 114, 121] }, .string { data := #[40] }, .string { data := #[110, 97, 109, 101] }, .string D, .string { data := #[110, 111, 100, 101] }] := by rw [h]; rfl
set_option maxRecDepth 100000 in
set_option maxHeartbeats 4000000 in
theorem putNode_leaf (B gb b o cap : Nat) (d : Nd) (r : List Nd) (L : List UInt8) (w : World) (hB : B ≤ w.heap.size) (hbB : b < B) (hN : Nodes w b o (d :: r)) (hd : d.data.length ≤ 1000000) (hk : d.kind = 1 ∨ d.kind = 2 ∨ d.kind = 3)
    (hlen : L.length + (progX d r).length ≤ 140737488355328) (hb : Bl B gb L w) :
    Calls Tryd.prog 28 #[.pointer (some ⟨gb, 0, none⟩), slV b o (r.length + 1) cap] w fun e w' => e = .returned (.tuple #[]) ∧ Bl B gb (L ++ progX d r) w' ∧ Kp B gb w w' := by
  obtain ⟨mid, hmid⟩ : ∃ mid : List (List UInt8), mid = if d.kind = 1 then [tReg, tCont, d.data] else if d.kind = 2 then [tReg, tExec, [], tCont, d.data] else [tSym, tTarg, d.data] := ⟨_, rfl⟩
  have hX : progX d r = strsL [tOpen, tType] ++ (strsL mid ++ strsL [tClose]) := by
    rw [progX_eq, hmid]
    rcases hk with h | h | h <;> simp [h]
  have hml : ∀ t ∈ mid, t.length ≤ 1000000 := by
    rw [hmid]
    intro t ht
    rcases hk with h | h | h <;> simp [h, tReg, tCont, tExec, tSym, tTarg] at ht
    · rcases ht with rfl | rfl | rfl <;> first | exact hd | decide
    · rcases ht with rfl | rfl | rfl | rfl | rfl <;> first | exact hd | decide
    · rcases ht with rfl | rfl | rfl <;> first | exact hd | decide
  rw [hX] at hlen ⊢
  have hl3 : L.length + ((strsL [tOpen, tType]).length + ((strsL mid).length + (strsL [tClose]).length)) ≤ 140737488355328 := by simpa using hlen
  have hgb : gb < w.heap.size := by obtain ⟨c, h2⟩ := hb.block; exact (Array.getElem?_eq_some_iff.1 h2).1
  obtain ⟨W0, hW0⟩ : ∃ W0, W0 = w.alloc (.cells #[.pointer (some ⟨gb, 0, none⟩)] 52) := ⟨_, rfl⟩
  have hbw : Below w.heap.size w W0 := by rw [hW0]; exact (Below.refl _ _).alloc (Nat.le_refl _) _
  have hP0 : PS w B gb w.heap.size L W0 := ⟨hb.below hbw, Kp.of_below hbw hB, by rw [hW0]; exact Boxed.new _ _ _, Nat.le_trans hB hbw.size, by omega⟩
  have HP1 := Lib.hid (hP0.put [tOpen, tType] 2 rfl (by omega) (by intro t ht; simp only [List.mem_cons, List.not_mem_nil, or_false] at ht; rcases ht with rfl | rfl <;> decide) (by omega))
  have HP2 : Hid (∀ (W : World) (n : Nat) (A : Array Value), A = sRow mid → mid.length = n → n ≤ 1000 → PS w B gb w.heap.size (L ++ strsL [tOpen, tType]) W → Calls Tryd.prog 27 #[.pointer (some ⟨gb, 0, none⟩), .slice (some ⟨W.heap.size, 0, none⟩) n n] (W.alloc (.cells A 9)) fun e w' => e = .returned (.tuple #[]) ∧ PS w B gb w.heap.size (L ++ strsL [tOpen, tType] ++ strsL mid) w') := Lib.hid (fun W n A hA hn hN h => by rw [hA]; exact h.put mid n hn hN hml (by rw [List.length_append]; omega))
  have HP3 : Hid (∀ (W : World), PS w B gb w.heap.size (L ++ strsL [tOpen, tType] ++ strsL mid) W → Calls Tryd.prog 27 #[.pointer (some ⟨gb, 0, none⟩), .slice (some ⟨W.heap.size, 0, none⟩) 1 1] (W.alloc (.cells (sRow [tClose]) 9)) fun e w' => e = .returned (.tuple #[]) ∧ PS w B gb w.heap.size (L ++ strsL [tOpen, tType] ++ strsL mid ++ strsL [tClose]) w') := Lib.hid (fun W h => h.put [tClose] 1 rfl (by omega) (by intro t ht; simp only [List.mem_cons, List.not_mem_nil, or_false] at ht; subst ht; decide) (by rw [List.length_append, List.length_append]; omega))
  obtain ⟨k, hkk⟩ : ∃ k, k = d.kind := ⟨_, rfl⟩
  obtain ⟨D, hD⟩ : ∃ x : ByteArray, Hid (x = ⟨d.data.toArray⟩) := ⟨_, Lib.hid rfl⟩
  have hDv : strV d.data = .string D := by rw [hD.out]; rfl
  have hcell : ∀ W, PS w B gb w.heap.size (L ++ strsL [tOpen, tType]) W → W.cell? ⟨b, o + 1, none⟩ = some (.int .i64 k) ∧ W.cell? ⟨b, o + 2, none⟩ = some (.string D) := fun W h => by
    obtain ⟨q1, q2, q3⟩ := node0 (hN.kept h.kp.1 hbB)
    rw [← hDv, hkk]
    exact ⟨q2, q3⟩
  have c0 : W0.cell? ⟨w.heap.size, 0, none⟩ = some (.pointer (some ⟨gb, 0, none⟩)) := hP0.box.cell
  have HCL := Lib.hid hcell
  have hmk : ∀ K, K = k → (K = 1 → mid = [tReg, tCont, d.data]) ∧ (K = 2 → mid = [tReg, tExec, [], tCont, d.data]) ∧ (K = 3 → mid = [tSym, tTarg, d.data]) := by
    rintro K rfl
    rw [hmid, ← hkk]
    exact ⟨fun h => by rw [if_pos h], fun h => by rw [if_neg (by omega), if_pos h], fun h => by rw [if_neg (by omega), if_neg (by omega)]⟩
  have HMK := Lib.hid (hmk k rfl)
  have hk3 : k = 1 ∨ k = 2 ∨ k = 3 := by rw [hkk]; exact hk
  have HW0 := Lib.hid hW0
  clear hmid hX hml hlen hl3 hN hcell hmk hk hP0 hbw hb hkk hd
  unfold slV
  obtain ⟨n, hn⟩ : ∃ n, n = r.length + 1 := ⟨_, rfl⟩
  have hn0 : 0 < n := by omega
  rw [← hn]
  clear hn
  go_enter Tryd.func28, Tryd.ntmps28
  go_wp2_with fail
  rw [row_open, show W0.heap.size = w.heap.size + 1 by rw [HW0.out]; simp] at HP1
  rw [row_close] at HP3
  rw [← HW0.out]
  refine HP1.out.mono ?_
  rintro e w1 ⟨rfl, h1⟩
  obtain ⟨c2, c3⟩ := HCL.out w1 h1
  have c1 := h1.box.cell
  have H1 := Lib.hid h1
  clear h1 c0 HP1
  have fin : ∀ w2, PS w B gb w.heap.size (L ++ strsL [tOpen, tType] ++ strsL mid ++ strsL [tClose]) w2 → Bl B gb (L ++ (strsL [tOpen, tType] ++ (strsL mid ++ strsL [tClose]))) w2 ∧ Kp B gb w w2 := fun w2 h => by
    refine ⟨?_, h.kp⟩
    have := h.bl
    rwa [List.append_assoc, List.append_assoc] at this
  have HF := Lib.hid fin
  clear fin
  have HM1 := Lib.hid HMK.out.1
  have HM2 := Lib.hid HMK.out.2.1
  have HM3 := Lib.hid HMK.out.2.2
  clear HMK
  rcases hk3 with rfl | rfl | rfl
  · have h4 := Lib.hid (HP2.out w1 3 (sRow [tReg, tCont, d.data]) (by rw [HM1.out rfl]) (by rw [HM1.out rfl]; rfl) (by omega) H1.out)
    rw [row_reg D _ hD.out] at h4
    go_wp2_with fail
    refine h4.out.mono ?_
    rintro e w2 ⟨rfl, h2⟩
    have c1 := h2.box.cell
    have H3 := Lib.hid (HP3.out w2 h2)
    clear h4 h2 c2 c3
    go_wp2_with fail
    refine H3.out.mono ?_
    rintro e w3 ⟨rfl, h3⟩
    have H5 := Lib.hid (HF.out w3 h3)
    clear h3 H3
    go_wp2_with fail
    go_end0
    exact ⟨rfl, H5.out⟩
  · have h4 := Lib.hid (HP2.out w1 5 (sRow [tReg, tExec, [], tCont, d.data]) (by rw [HM2.out rfl]) (by rw [HM2.out rfl]; rfl) (by omega) H1.out)
    rw [row_exec D _ hD.out] at h4
    go_wp2_with fail
    refine h4.out.mono ?_
    rintro e w2 ⟨rfl, h2⟩
    have c1 := h2.box.cell
    have H3 := Lib.hid (HP3.out w2 h2)
    clear h4 h2 c2 c3
    go_wp2_with fail
    refine H3.out.mono ?_
    rintro e w3 ⟨rfl, h3⟩
    have H5 := Lib.hid (HF.out w3 h3)
    clear h3 H3
    go_wp2_with fail
    go_end0
    exact ⟨rfl, H5.out⟩
  · have h4 := Lib.hid (HP2.out w1 3 (sRow [tSym, tTarg, d.data]) (by rw [HM3.out rfl]) (by rw [HM3.out rfl]; rfl) (by omega) H1.out)
    rw [row_link D _ hD.out] at h4
    go_wp2_with fail
    refine h4.out.mono ?_
    rintro e w2 ⟨rfl, h2⟩
    have c1 := h2.box.cell
    have H3 := Lib.hid (HP3.out w2 h2)
    clear h4 h2 c2 c3
    go_wp2_with fail
    refine H3.out.mono ?_
    rintro e w3 ⟨rfl, h3⟩
    have H5 := Lib.hid (HF.out w3 h3)
    clear h3 H3
    go_wp2_with fail
    go_end0
    exact ⟨rfl, H5.out⟩
end Go.Proofs.YtgbaaiedpiiepaaDoor
/- Of the program: the bytes of a directory, and so of any node, go into a builder. Its conditions: lengths that fit; kinds that there are; no node below another one with an empty path. -/
namespace Go.Proofs.YtgbaaiedpiiepaaDoor
open Go.RowKit Go.Shelf
set_option linter.unusedVariables false
set_option linter.unusedSimpArgs false
attribute [local go_sem] Oper.semAt_some
theorem costs_app (a b : List Nd) : costs (a ++ b) = costs a + costs b := by simp [costs]
theorem prog_cost : ∀ f, (∀ d r, (progU f d r).length ≤ costB d + costs r) ∧ (∀ r, (entsP f r).length ≤ costs r)
  | 0 => ⟨fun d r => by rw [progU]; simp, fun r => by rw [entsP]; simp⟩
  | f + 1 => by
    obtain ⟨h1, h2⟩ := prog_cost f
    have k1 : (strL tOpen).length = 16 := rfl
    have k2 : (strL tType).length = 16 := rfl
    have k3 : (strL tReg).length = 16 := rfl
    have k4 : (strL tCont).length = 16 := rfl
    have k5 : (strL tExec).length = 24 := rfl
    have k6 : (strL ([] : List UInt8)).length = 8 := rfl
    have k7 : (strL tSym).length = 16 := rfl
    have k8 : (strL tTarg).length = 16 := rfl
    have k9 : (strL tDir).length = 24 := rfl
    have k10 : (strL tEntry).length = 16 := rfl
    have k11 : (strL tName).length = 16 := rfl
    have k12 : (strL tNode).length = 16 := rfl
    have k13 : (strL tClose).length = 16 := rfl
    constructor
    · intro d r
      have kd := strL_le d.data
      have he := h2 r
      rw [progU_succ]
      unfold costB
      split
      · simp only [strsL_cons, strsL_nil, List.length_append, List.append_nil]; omega
      · split
        · simp only [strsL_cons, strsL_nil, List.length_append, List.append_nil]; omega
        · split
          · simp only [strsL_cons, strsL_nil, List.length_append, List.append_nil]; omega
          · simp only [strsL_cons, strsL_nil, List.length_append, List.append_nil]; omega
    · intro r
      cases r with
      | nil => rw [entsP_nil]; simp
      | cons c r =>
        have q1 := h1 c (subT c r)
        have q2 := h2 (subD c r)
        have q3 : costs (subT c r) + costs (subD c r) = costs r := by
          rw [← costs_app]; unfold subT subD; rw [List.takeWhile_append_dropWhile]
        have q4 := strL_le (cutL c.path).2
        have q5 := cut_len c.path
        rw [entsP_cons, costs_cons]
        unfold costB at q1
        simp only [strsL_cons, strsL_nil, List.length_append, List.append_nil]
        omega
theorem costs_le (l : List Nd) (P D : Nat) (hp : ∀ c ∈ l, c.path.length ≤ P) (hd : ∀ c ∈ l, c.data.length ≤ D) : costs l ≤ l.length * (300 + P + D) := by
  induction l with
  | nil => simp [costs]
  | cons c l ih =>
    have h1 := ih (fun x hx => hp x (List.mem_cons_of_mem _ hx)) (fun x hx => hd x (List.mem_cons_of_mem _ hx))
    have h2 := hp c (by simp)
    have h3 := hd c (by simp)
    rw [costs_cons, List.length_cons, Nat.succ_mul]
    omega
theorem entries_in (n : Nat) (a : Option Addr) (m cap : Nat) (w : World) :
    CallsIn Fence.wide n Tryd.prog 48 #[.slice a m cap] w fun e w' => e = .returned (.func (.func 63) #[] #[.pointer (some ⟨w.heap.size, 0, none⟩)]) ∧ w.alloc (.cells #[.slice a m cap] 22) = w' := by
  refine callsIn_of_wp Tryd.func48 rfl trivial ?_ rfl
  simp only [Tryd.ntmps48, List.size_toArray, List.length_cons, List.length_nil, Nat.reduceAdd, Nat.reduceSub, Array.replicate_succ, Array.replicate_zero, List.push_toArray, List.append_toArray, List.nil_append, List.cons_append]
  gi_wp2
  go_ret
  exact ⟨rfl, rfl⟩
/-- A writer between two rounds of a directory. -/
def DI (w : World) (B gb b o cap bE : Nat) (l : List Nd) (L : List UInt8) (pre : List (Spot l.length)) (W : World) : Prop :=
  PS w B gb w.heap.size (L ++ ((spots pre).flatMap (roundB l))) W ∧ Boxed W bE 22 (.slice (some ⟨b, o, none⟩) l.length cap)
theorem DI_own {w : World} {B gb b o cap bE n0 : Nat} {l : List Nd} {L : List UInt8} (hn : w.heap.size ≤ n0) (hB : B ≤ n0) : OwnFrom n0 (DI w B gb b o cap bE l L) := by
  rintro s W W' row ⟨h1, h2⟩ hg hr
  refine ⟨h1.own hg hr hn hB, h2.kept hg (fun e => ?_)⟩
  obtain ⟨_, o2, h3, h4⟩ := hr bE e.symm
  rw [show W.heap[bE]? = _ from h2] at h3; cases h3; cases h4
/-- The rows of the iterator, by their blocks. -/
def envE (b o bE : Nat) : E.Env := fun r => if r = 0 then ⟨b, o, 0⟩ else ⟨bE, 0, 0⟩
def KpE (b bE : Nat) (W W' : World) : Prop := W'.heap[b]? = W.heap[b]? ∧ W'.heap[bE]? = W.heap[bE]?
theorem ents_seq (b o cap bE : Nat) (l : List Nd) (h0 : 0 < l.length) (hl : l.length ≤ 300) (hc : l.length ≤ cap) (hp : ∀ c ∈ l, c.path.length ≤ 10000) (W : World) (hN : Nodes W b o l) (hbx : Boxed W bE 22 (.slice (some ⟨b, o, none⟩) l.length cap)) :
    SeqStopsK Fence.wide 5 Tryd.prog 63 #[.pointer (some ⟨bE, 0, none⟩)] (encE (envE b o bE) (ndf l) l.length cap) (KpE b bE) (fun xs => spots xs = entsN (ndf l) l.length 1 (l.length - 1)) (fun _ => True) (l.length + 1) W := by
  have h := entries_stops (ndf l) l.length cap h0 (by omega) hc (fun i hi => by rw [ndf_at l i hi]; have := hp _ (List.getElem_mem hi); omega) W (envE b o bE) (fun W2 hb => ?_) (fun W2 hb => ?_)
  · intro l2 J Jx W2 hW hJ hJx hY hj
    refine h l2 J Jx W2 hW hJ hJx (fun pre x W3 h1 h2 => ?_) hj
    have := hY pre x W3 h1 h2
    obtain ⟨fn, tmps, assign, body, g1, g2⟩ := this
    refine ⟨fn, tmps, assign, body, g1, RoundIn.mono g2 ?_⟩
    rintro e W4 (⟨q1, q2, q3⟩ | q)
    · refine .inl ⟨q1, q2, fun r hr => ?_⟩
      simp only [List.mem_cons, List.not_mem_nil, or_false] at hr
      rcases hr with rfl | rfl
      · exact q3.1
      · exact q3.2
    · exact .inr q
  · exact nodes_row (hN.below hb) h0 0
  · have hb2 : Boxed W2 bE 22 (.slice (some ⟨b, o, none⟩) l.length cap) := (hb.block bE hbx.lt).trans hbx
    refine ⟨hb2.lt, fun j v hv => ⟨?_, fun hw => by cases hw⟩, (fun e k hc => by cases hc), ⟨_, _, _, hb2⟩⟩
    have hv2 : [Value.slice (some ⟨b, o, none⟩) l.length cap][j]? = some v := by
      have e : E.lst (envE b o bE) (bxS l.length cap).ps = [Value.slice (some ⟨b, o, none⟩) l.length cap] := by
        simp [E.lst, E.Pc.arrV, E.Lf.val, envE, E.capOf]
      rw [← e]; exact hv
    cases j with
    | zero =>
      simp at hv2
      subst hv2
      exact hb2.cell
    | succ j => simp at hv2
/-- Nodes as the bytes are made of them. -/
structure OkT (l : List Nd) : Prop where
  len : l.length ≤ 300
  path : ∀ c ∈ l, c.path.length ≤ 10000
  data : ∀ c ∈ l, c.data.length ≤ 100000
  kind : ∀ c ∈ l, c.kind = 1 ∨ c.kind = 2 ∨ c.kind = 3 ∨ c.kind = 4
  ne : ∀ j, 1 ≤ j → j < l.length → (ndf l j).path ≠ []
def NodeOk (B gb b k : Nat) : Prop := ∀ (d : Nd) (r : List Nd), r.length < k → OkT (d :: r) → ∀ (o cap : Nat) (L : List UInt8) (w : World), B ≤ w.heap.size → Nodes w b o (d :: r) → r.length + 1 ≤ cap →
  L.length + (r.length + 1) * 20000000000 ≤ 140737488355328 → Bl B gb L w →
  Calls Tryd.prog 28 #[.pointer (some ⟨gb, 0, none⟩), .slice (some ⟨b, o, none⟩) (r.length + 1) cap] w fun e w' => e = .returned (.tuple #[]) ∧ Bl B gb (L ++ progX d r) w' ∧ Kp B gb w w'
theorem OkT.prog {d : Nd} {r : List Nd} (h : OkT (d :: r)) : (progX d r).length ≤ 40000000 := by
  have h1 := (prog_cost (fuelN r)).1 d r
  have h2 := costs_le r 10000 100000 (fun c hc => h.path c (List.mem_cons_of_mem _ hc)) (fun c hc => h.data c (List.mem_cons_of_mem _ hc))
  have h3 := h.data d (by simp)
  have h4 := h.len
  simp only [List.length_cons] at h4
  unfold costB at h1
  have h5 : r.length * (300 + 10000 + 100000) ≤ 299 * (300 + 10000 + 100000) := Nat.mul_le_mul_right _ (by omega)
  unfold progX
  omega
theorem ndf_sub (l : List Nd) (j s i : Nat) (h1 : 1 ≤ s) (hj : j + s ≤ l.length) (hi : i < s) : ndf (ndf l j :: subl l j s) i = ndf l (j + i) := by
  cases i with
  | zero => rfl
  | succ i =>
    show (subl l j s).getD i nd0 = l.getD (j + (i + 1)) nd0
    unfold subl
    rw [List.getD_eq_getElem?_getD, List.getD_eq_getElem?_getD, List.getElem?_take_of_lt (by omega), List.getElem?_drop]
    congr 2
    omega
theorem subl_len (l : List Nd) (j s : Nat) (h1 : 1 ≤ s) (hj : j + s ≤ l.length) : (subl l j s).length = s - 1 := by
  unfold subl
  rw [List.length_take, List.length_drop]
  omega
theorem sub_mem (l : List Nd) (j s : Nat) (h1 : 1 ≤ s) (hj : j + s ≤ l.length) : ∀ c ∈ ndf l j :: subl l j s, c ∈ l := by
  intro c hc
  rcases List.mem_cons.1 hc with rfl | hc
  · rw [ndf_at l j (by omega)]; exact List.getElem_mem _
  · exact List.mem_of_mem_drop (List.mem_of_mem_take hc)
theorem OkT.sub {l : List Nd} (h : OkT l) (j s : Nat) (h1 : 1 ≤ s) (hj0 : 1 ≤ j) (hj : j + s ≤ l.length) : OkT (ndf l j :: subl l j s) := by
  have hm := sub_mem l j s h1 hj
  have hl := subl_len l j s h1 hj
  refine ⟨by rw [List.length_cons, hl]; have := h.len; omega, fun c hc => h.path c (hm c hc), fun c hc => h.data c (hm c hc), fun c hc => h.kind c (hm c hc), fun i hi hil => ?_⟩
  rw [List.length_cons, hl] at hil
  rw [ndf_sub l j s i h1 hj (by omega)]
  exact h.ne _ (by omega) (by omega)
theorem nodes_sub {W : World} {b o : Nat} {l : List Nd} (h : Nodes W b o l) (j s : Nat) (h1 : 1 ≤ s) (hj : j + s ≤ l.length) : Nodes W b (o + (0 + j * 3)) (ndf l j :: subl l j s) := by
  have hl := subl_len l j s h1 hj
  refine ⟨h.1, fun i hi => ?_⟩
  have hi2 : i < s := by rw [List.length_cons, hl] at hi; omega
  have e : (ndf l j :: subl l j s)[i] = l[j + i]'(by omega) := by
    have := ndf_sub l j s i h1 hj hi2
    rw [ndf_at _ i hi, ndf_at l (j + i) (by omega)] at this
    exact this
  rw [e]
  have q := h.2 (j + i) (by omega)
  have e2 : o + (0 + j * 3) + i * 3 = o + (j + i) * 3 := by rw [Nat.add_mul]; omega
  rw [e2]
  exact q
theorem rounds_len {l : List Nd} (h : OkT l) : ∀ (pre : List (Spot l.length)), ((spots pre).flatMap (roundB l)).length ≤ pre.length * 41000000
  | [] => by simp [spots]
  | x :: pre => by
    have ih := rounds_len h pre
    have h1 := (h.sub x.1.1 x.1.2 x.2.2.1 x.2.1 x.2.2.2).prog
    have hx := x.2
    have h2 := cut_len (ndf l x.1.1).path
    have h3 := strL_le (cutL (ndf l x.1.1).path).2
    have h4 : (ndf l x.1.1).path.length ≤ 10000 := by rw [ndf_at l _ (by omega)]; exact h.path _ (List.getElem_mem _)
    have e : (spots (x :: pre)).flatMap (roundB l) = roundB l x.1 ++ (spots pre).flatMap (roundB l) := by simp [spots]
    have k1 : (strL tEntry).length = 16 := rfl
    have k2 : (strL tOpen).length = 16 := rfl
    have k3 : (strL tName).length = 16 := rfl
    have k4 : (strL tNode).length = 16 := rfl
    have k5 : (strL tClose).length = 16 := rfl
    have hR : (roundB l x.1).length ≤ 41000000 := by
      unfold roundB
      simp only [strsL_cons, strsL_nil, List.length_append, List.append_nil]
      omega
    rw [e, List.length_append, List.length_cons, Nat.succ_mul]
    omega
theorem ents_len (nd : Nat → Nd) : ∀ f j m, (entsN nd f j m).length ≤ f
  | 0, j, m => Nat.le_refl _
  | f + 1, j, m => by
    unfold entsN
    split
    · exact Nat.zero_le _
    · rw [List.length_cons]; exact Nat.succ_le_succ (ents_len nd f _ _)
theorem round_split (l : List Nd) (x : Nat × Nat) (L : List UInt8) : L ++ strsL [tEntry, tOpen, tName, (cutL (ndf l x.1).path).2, tNode] ++ progX (ndf l x.1) (subl l x.1 x.2) ++ strsL [tClose] = L ++ roundB l x := by
  unfold roundB
  simp only [List.append_assoc]
theorem kp_others {B gb : Nat} {W W2 : World} {c : Array Value} (hg : W.heap[gb]? = some (.cells c 54 (0, 0))) (h : Kp B gb W W2) : KeepsOthers W W2 := ⟨h.1.size, fun k o hk ho => h.2 k o hk (fun e => by
  cases e
  rw [hg] at hk; cases hk; cases ho) (fun c2 fz e => by cases e; cases ho)⟩
theorem PS.alloc {w0 W : World} {B gb bx : Nat} {L : List UInt8} (h : PS w0 B gb bx L W) (hB : B ≤ w0.heap.size) (o : Obj) : PS w0 B gb bx L (W.alloc o) :=
  h.own (n0 := w0.heap.size) (World.grownBy_alloc W o none) (fun r e => by cases e) (Nat.le_refl _) hB
set_option maxRecDepth 100000 in
set_option maxHeartbeats 4000000 in
theorem putNode_dir (B gb b k : Nat) (hbB : b < B) (IH : NodeOk B gb b k) (d : Nd) (r : List Nd) (hr : r.length < k + 1) (hT : OkT (d :: r)) (h4 : d.kind = 4) (o cap : Nat) (L : List UInt8) (w : World) (hB : B ≤ w.heap.size) (hN : Nodes w b o (d :: r)) (hc : r.length + 1 ≤ cap)
    (hlen : L.length + (r.length + 1) * 20000000000 ≤ 140737488355328) (hb : Bl B gb L w) :
    Calls Tryd.prog 28 #[.pointer (some ⟨gb, 0, none⟩), .slice (some ⟨b, o, none⟩) (r.length + 1) cap] w fun e w' => e = .returned (.tuple #[]) ∧ Bl B gb (L ++ progX d r) w' ∧ Kp B gb w w' := by
  have hX : progX d r = strsL [tOpen, tType] ++ (strsL [tDir] ++ (entsX r ++ strsL [tClose])) := by
    rw [progX_eq, if_neg (by omega), if_neg (by omega), if_neg (by omega), List.append_assoc]
  have hgb : gb < w.heap.size := by obtain ⟨c, h2⟩ := hb.block; exact (Array.getElem?_eq_some_iff.1 h2).1
  obtain ⟨l, hl⟩ : ∃ l, l = d :: r := ⟨_, rfl⟩
  have hll : l.length = r.length + 1 := by rw [hl]; rfl
  obtain ⟨W0, hW0⟩ : ∃ W0, W0 = w.alloc (.cells #[.pointer (some ⟨gb, 0, none⟩)] 52) := ⟨_, rfl⟩
  have hbw : Below w.heap.size w W0 := by rw [hW0]; exact (Below.refl _ _).alloc (Nat.le_refl _) _
  have hs0 : W0.heap.size = w.heap.size + 1 := by rw [hW0]; simp
  have hP0 : PS w B gb w.heap.size L W0 := ⟨hb.below hbw, Kp.of_below hbw hB, by rw [hW0]; exact Boxed.new _ _ _, Nat.le_trans hB hbw.size, by omega⟩
  have HP1 := Lib.hid (hP0.put [tOpen, tType] 2 rfl (by omega) (by intro t ht; simp only [List.mem_cons, List.not_mem_nil, or_false] at ht; rcases ht with rfl | rfl <;> decide) (by have : (strsL [tOpen, tType]).length = 32 := rfl; omega))
  rw [row_open, hs0] at HP1
  have HP2 : Hid (∀ (W : World), PS w B gb w.heap.size (L ++ strsL [tOpen, tType]) W → Calls Tryd.prog 27 #[.pointer (some ⟨gb, 0, none⟩), .slice (some ⟨W.heap.size, 0, none⟩) 1 1] (W.alloc (.cells (sRow [tDir]) 9)) fun e w' => e = .returned (.tuple #[]) ∧ PS w B gb w.heap.size (L ++ strsL [tOpen, tType] ++ strsL [tDir]) w') := Lib.hid (fun W h => h.put [tDir] 1 rfl (by omega) (by intro t ht; simp only [List.mem_cons, List.not_mem_nil, or_false] at ht; subst ht; decide) (by have : (strsL [tOpen, tType]).length = 32 := rfl; have : (strsL [tDir]).length = 24 := rfl; rw [List.length_append]; omega))
  rw [row_dir] at HP2
  obtain ⟨L2, hL2⟩ : ∃ L2, L2 = L ++ strsL [tOpen, tType] ++ strsL [tDir] := ⟨_, rfl⟩
  have hL2l : L2.length = L.length + 56 := by
    rw [hL2, List.length_append, List.length_append]; rfl
  have HCell : Hid (∀ W, PS w B gb w.heap.size (L ++ strsL [tOpen, tType]) W → W.cell? ⟨b, o + 1, none⟩ = some (.int .i64 4) ∧ ∃ D, W.cell? ⟨b, o + 2, none⟩ = some (.string D)) := Lib.hid (fun W h => by
    obtain ⟨q1, q2, q3⟩ := node0 (hN.kept h.kp.1 hbB)
    rw [h4] at q2
    exact ⟨q2, _, q3⟩)
  have c0 : W0.cell? ⟨w.heap.size, 0, none⟩ = some (.pointer (some ⟨gb, 0, none⟩)) := hP0.box.cell
  obtain ⟨n, hn⟩ : ∃ n, n = r.length + 1 := ⟨_, rfl⟩
  have hn0 : 0 < n := by omega
  rw [← hn]
  rw [← hL2] at HP2
  have HW0 := Lib.hid hW0
  have HB := Lib.hid hb
  clear hP0 hbw hb hW0
  refine (callsIn_wide (n := 6)).1 ?_
  refine callsIn_of_wp_marks Tryd.func28 rfl trivial ?_ rfl
  simp only [Tryd.ntmps28, List.size_toArray, List.length_cons, List.length_nil, Nat.reduceAdd, Nat.reduceSub, Array.replicate_succ, Array.replicate_zero, List.push_toArray, List.append_toArray, List.nil_append, List.cons_append]
  gi_wp2
  refine ⟨trivial, ?_⟩
  rw [← HW0.out]
  refine (callsIn_wide.2 HP1.out).mono ?_
  rintro e w1 ⟨rfl, h1⟩
  obtain ⟨c2, D, c3⟩ := HCell.out w1 h1
  have c1 := h1.box.cell
  have H2 := Lib.hid (HP2.out w1 h1)
  clear h1 c0 HP1 HP2
  gi_wp2
  refine ⟨trivial, ?_⟩
  refine (callsIn_wide.2 H2.out).mono ?_
  rintro e w2 ⟨rfl, h2⟩
  clear c1 c2 c3 H2
  have c1 := h2.box.cell
  have H3 := Lib.hid h2
  clear h2
  gi_wp2_with (refine ⟨trivial, ?_⟩; gi_at_call 48; refine (entries_in _ _ _ _ _).mono ?_; rintro e w' ⟨rfl, rfl⟩)
  have hbE : Boxed (w2.alloc (Obj.cells #[Value.slice (some { block := b, off := o }) (r.length + 1) cap] 22)) w2.heap.size 22 (.slice (some ⟨b, o, none⟩) (r.length + 1) cap) := Boxed.new _ _ _
  have hP3 := H3.out.alloc hB (Obj.cells #[Value.slice (some { block := b, off := o }) (r.length + 1) cap] 22)
  have hsz : (w2.alloc (Obj.cells #[Value.slice (some { block := b, off := o }) (r.length + 1) cap] 22)).heap.size = w2.heap.size + 1 := by simp
  have hw2 : w.heap.size ≤ w2.heap.size := H3.out.kp.1.size
  obtain ⟨bE, hbEq⟩ : ∃ bE, bE = w2.heap.size := ⟨_, rfl⟩
  rw [← hbEq] at hbE hsz
  generalize w2.alloc (Obj.cells #[Value.slice (some { block := b, off := o }) (r.length + 1) cap] 22) = W3 at *
  have hN3 : Nodes W3 b o l := by rw [hl]; exact hN.kept hP3.kp.1 hbB
  rw [← hll] at hbE
  have hT2 : OkT l := by rw [hl]; exact hT
  have hI0 : DI w B gb b o cap bE l L2 [] W3 := ⟨by simpa [spots] using hP3, hbE⟩
  have hbbE : b ≠ bE := by omega
  have HI0 := Lib.hid hI0
  rw [← hbEq, ← hll]
  have hbel : w.heap.size ≤ bE := by omega
  have hbl2 : bE + 1 = W3.heap.size := by omega
  have HLL := Lib.hid hll
  have HL := Lib.hid hl
  have HX := Lib.hid hX
  have HL2 := Lib.hid hL2
  clear hI0 H3 hP3 c1 hl hX hL2 hn hbEq
  refine wpIn_rangeFunc_ownF rfl (by omega) (gf := 63) (lb := #[.pointer (some ⟨bE, 0, none⟩)]) rfl trivial (enters_of Tryd.func63 (by kernel_rfl) rfl) (ents_seq b o cap bE l (by omega) hT2.len (by omega) hT2.path W3 hN3 hbE)
    (fun h1 h2 => ⟨Eq.trans h2.1 h1.1, Eq.trans h2.2 h1.2⟩) (fun W l2 o2 o' hl2 ho hoc _ => ⟨World.putObj_heap_other (by omega), World.putObj_heap_other (by omega)⟩) (Below.refl _ _) (fun _ => rfl)
    (DI w B gb b o cap bE l L2) (fun _ _ _ => False) (DI_own (by omega) (by omega)) (fun _ _ _ _ _ hs _ _ => hs) HI0.out
    (fun (x : Spot l.length) => { tmps := #[.pointer (some ⟨gb, 0, none⟩), .slice (some ⟨b, o, none⟩) l.length cap, .pointer (some ⟨w.heap.size, 0, none⟩), undef, .string D, strV (cutL (ndf l x.1.1).path).2, .slice (some ⟨b, o + x.1.1 * 3, none⟩) x.1.2 (cap - x.1.1), .pointer (some ⟨gb, 0, none⟩), .slice (some ⟨w.heap.size + 1, 0, none⟩) 2 2, .tuple #[], .slice (some ⟨b, o, none⟩) l.length cap, .pointer (some ⟨b, o, none⟩), .pointer (some ⟨b, o + 2, none⟩), .string D, .slice (some ⟨b, o, none⟩) l.length cap, .pointer (some ⟨b, o, none⟩), .pointer (some ⟨b, o + 1, none⟩), .int .i64 4, .bool false, .bool false, undef, undef, undef, undef, .bool false, .bool false, undef, undef, undef, undef, .bool false, .bool false, undef, undef, undef, undef, .bool true, .bool true, .pointer (some ⟨gb, 0, none⟩), .slice (some ⟨w1.heap.size, 0, none⟩) 1 1, .tuple #[], .slice (some ⟨b, o, none⟩) l.length cap, .func (.func 63) #[] #[.pointer (some ⟨bE, 0, none⟩)], strV (cutL (ndf l x.1.1).path).2, .slice (some ⟨b, o + x.1.1 * 3, none⟩) x.1.2 (cap - x.1.1), undef, undef, undef, undef, undef, undef, undef, undef, undef, undef, undef, undef, undef], defers := [] })
    ?assign ?body ?done ?stop
  case assign =>
    clear hll
    intro l2 x W K hK
    have e : encE (envE b o bE) (ndf l) l.length cap x = #[strV (cutL (ndf l x.1.1).path).2, .slice (some ⟨b, o + x.1.1 * 3, none⟩) x.1.2 (cap - x.1.1)] := by simp [encE, envE]
    rw [e]
    gi_wp2
    exact hK
  case stop =>
    rintro D2 c pre W _ _ h _
    exact h.elim
  case done =>
    rintro D2 xs W hD hS ⟨hps, hbx⟩ hDf
    have hfl : (spots xs).flatMap (roundB l) = entsX r := by
      rw [hS, ents_round l hT2.ne _ 1 _ (Nat.le_refl _) (by omega) (by omega), HL.out]
      rfl
    rw [hfl] at hps
    have hxl := rounds_len hT2 xs
    rw [hfl] at hxl
    have hxn : xs.length ≤ 301 := by
      have h1 := congrArg List.length hS
      have h2 := ents_len (ndf l) l.length 1 (l.length - 1)
      have h3 := hT2.len
      unfold spots at h1
      rw [List.length_map] at h1
      omega
    have hcl : (strsL [tClose]).length = 16 := rfl
    have hpW : PS W B gb w.heap.size (L2 ++ entsX r) W := ⟨hps.bl, Kp.refl _ _ _, hps.box, hps.big, hps.ne⟩
    have H4 := Lib.hid (hpW.put [tClose] 1 rfl (by omega) (by intro t ht; simp only [List.mem_cons, List.not_mem_nil, or_false] at ht; subst ht; decide) (by rw [List.length_append]; omega))
    rw [row_close] at H4
    have c1 := hps.box.cell
    obtain ⟨cB, hcB⟩ := hps.bl.block
    have hDg : D2 ≠ gb := fun e => by rw [e, hcB] at hDf; cases hDf
    have HPS := Lib.hid hps
    have hend : ∀ w5, PS W B gb w.heap.size (L2 ++ entsX r ++ strsL [tClose]) w5 → w5.heap[D2]? = some (.deferred (some [])) ∧ Bl B gb (L ++ progX d r) (w5.putObj D2 (.deferred none)) ∧ Kp B gb w (w5.putObj D2 (.deferred none)) := fun w5 h5 => by
      have hd5 : w5.heap[D2]? = some (.deferred (some [])) := h5.kp.2 D2 _ hDf (fun e => hDg (Option.some.inj e)) (fun c fz e => by cases e)
      have h6 : PS w B gb w.heap.size (L2 ++ entsX r ++ strsL [tClose]) w5 := ⟨h5.bl, HPS.out.kp.trans h5.kp, h5.box, h5.big, h5.ne⟩
      have h7 := h6.own (n0 := w.heap.size) (grownBy_putObj' w5 D2 (.deferred none)) (fun r e => by cases e; exact ⟨by omega, _, hd5, rfl⟩) (Nat.le_refl _) hB
      refine ⟨hd5, ?_, h7.kp⟩
      have h8 := h7.bl
      rw [HL2.out] at h8
      rw [HX.out]
      simp only [List.append_assoc] at h8 ⊢
      exact h8
    have HE := Lib.hid hend
    clear hDf hps hbx hcB hfl hS hend hpW hll
    gi_wp2
    refine ⟨trivial, ?_⟩
    refine (callsIn_wide.2 H4.out).mono ?_
    rintro e w5 ⟨rfl, h5⟩
    obtain ⟨q1, q2, q3⟩ := HE.out w5 h5
    have Q1 := Lib.hid q1
    have Q2 := Lib.hid q2
    have Q3 := Lib.hid q3
    clear h5 q1 q2 q3
    gi_wp2
    refine ⟨by simp, .inl ⟨_, _, rfl, run_takeDeferred Q1.out, ?_⟩⟩
    exact ⟨_, results_none rfl _ _ _, rfl, Q2.out, Q3.out⟩
  case body =>
    rintro l2 pre x W ⟨hps, hbx⟩ hpre
    obtain ⟨⟨j, s⟩, hj1, hs1, hjs⟩ := x
    simp only at hj1 hs1 hjs ⊢
    have hcells := hps.bl.block
    have hbgb : bE ≠ gb := by
      rintro rfl
      obtain ⟨c, h2⟩ := hcells
      rw [show W.heap[bE]? = _ from hbx] at h2
      cases h2
    obtain ⟨L3, hL3⟩ : ∃ L3, L3 = L2 ++ (spots pre).flatMap (roundB l) := ⟨_, rfl⟩
    have hL3l : L3.length ≤ L.length + 56 + 301 * 41000000 := by
      have h1 := rounds_len hT2 pre
      have h2 := hT2.len
      have h3 : pre.length * 41000000 ≤ 301 * 41000000 := Nat.mul_le_mul_right _ (by omega)
      rw [hL3, List.length_append]
      omega
    have hpW : PS W B gb w.heap.size L3 W := ⟨by rw [hL3]; exact hps.bl, Kp.refl _ _ _, hps.box, hps.big, hps.ne⟩
    obtain ⟨nm, hnm⟩ : ∃ nm, nm = (cutL (ndf l j).path).2 := ⟨_, rfl⟩
    have hnml : nm.length ≤ 10000 := by
      rw [hnm]
      have h1 := cut_len (ndf l j).path
      have h2 : (ndf l j).path.length ≤ 10000 := by rw [ndf_at l _ (by omega)]; exact hT2.path _ (List.getElem_mem _)
      omega
    have hel : (strsL [tEntry, tOpen, tName, nm, tNode]).length ≤ 80 + 10000 := by
      have h3 := strL_le nm
      have k1 : (strL tEntry).length = 16 := rfl
      have k2 : (strL tOpen).length = 16 := rfl
      have k3 : (strL tName).length = 16 := rfl
      have k4 : (strL tNode).length = 16 := rfl
      simp only [strsL_cons, strsL_nil, List.length_append, List.append_nil]
      omega
    have H4 := Lib.hid (hpW.put [tEntry, tOpen, tName, nm, tNode] 5 rfl (by omega) (by intro t ht; simp only [List.mem_cons, List.not_mem_nil, or_false] at ht; rcases ht with rfl | rfl | rfl | rfl | rfl <;> first | decide | omega) (by omega))
    obtain ⟨NM, hNM⟩ : ∃ x : ByteArray, Hid (x = ⟨nm.toArray⟩) := ⟨_, Lib.hid rfl⟩
    rw [row_entry NM nm hNM.out] at H4
    have hNMv : strV nm = .string NM := by rw [hNM.out]; rfl
    obtain ⟨L4, hL4⟩ : ∃ L4, L4 = L3 ++ strsL [tEntry, tOpen, tName, nm, tNode] := ⟨_, rfl⟩
    rw [← hL4] at H4
    have hL4l : L4.length ≤ L.length + 56 + 301 * 41000000 + 10080 := by rw [hL4, List.length_append]; omega
    obtain ⟨sb, hsb⟩ : ∃ sb, sb = subl l j s := ⟨_, rfl⟩
    have hsbl : sb.length + 1 = s := by rw [hsb, subl_len l j s hs1 hjs]; omega
    have hpr := (hT2.sub j s hs1 hj1 hjs).prog
    rw [← hsb] at hpr
    have hNW : Nodes W b o l := by rw [HL.out]; exact hN.kept hps.kp.1 hbB
    have h5 : ∀ w3, PS W B gb w.heap.size L4 w3 → Calls Tryd.prog 28 #[.pointer (some ⟨gb, 0, none⟩), .slice (some ⟨b, o + j * 3, none⟩) s (cap - j)] w3 fun e w' => e = .returned (.tuple #[]) ∧ PS W B gb w.heap.size (L4 ++ progX (ndf l j) sb) w' := fun w3 h3 => by
      have hn3 := nodes_sub (hNW.kept h3.kp.1 hbB) j s hs1 hjs
      rw [Nat.zero_add, ← hsb] at hn3
      have h6 := IH (ndf l j) sb (by omega) (by rw [hsb]; exact hT2.sub j s hs1 hj1 hjs) (o + j * 3) (cap - j) L4 w3 h3.big hn3 (by omega) (by omega) h3.bl
      rw [hsbl] at h6
      refine h6.mono ?_
      rintro e w4 ⟨rfl, q1, q2⟩
      exact ⟨rfl, q1, h3.kp.trans q2, q2.row h3.box (by decide) h3.ne, Nat.le_trans h3.big q2.1.size, h3.ne⟩
    have h6 : ∀ w4, PS W B gb w.heap.size (L4 ++ progX (ndf l j) sb) w4 → Calls Tryd.prog 27 #[.pointer (some ⟨gb, 0, none⟩), .slice (some ⟨w4.heap.size, 0, none⟩) 1 1] (w4.alloc (.cells (sRow [tClose]) 9)) fun e w' => e = .returned (.tuple #[]) ∧ PS W B gb w.heap.size (L4 ++ progX (ndf l j) sb ++ strsL [tClose]) w' := fun w4 h => h.put [tClose] 1 rfl (by omega) (by intro t ht; simp only [List.mem_cons, List.not_mem_nil, or_false] at ht; subst ht; decide) (by have : (strsL [tClose]).length = 16 := rfl; rw [List.length_append]; omega)
    have hend : ∀ w5, PS W B gb w.heap.size (L4 ++ progX (ndf l j) sb ++ strsL [tClose]) w5 → KeepsOthers W w5 ∧ KpE b bE W w5 ∧ DI w B gb b o cap bE l L2 (pre ++ [⟨(j, s), hj1, hs1, hjs⟩]) w5 := fun w5 h5 => by
      obtain ⟨cc, hcc⟩ := hcells
      refine ⟨kp_others hcc h5.kp, ⟨h5.kp.1.block b hbB, ?_⟩, ⟨?_, hps.kp.trans h5.kp, h5.box, h5.big, h5.ne⟩, ?_⟩
      · rw [show W.heap[bE]? = _ from hbx]
        exact h5.kp.row hbx (by decide) hbgb
      · have e : L2 ++ (spots (pre ++ [(⟨(j, s), hj1, hs1, hjs⟩ : Spot l.length)])).flatMap (roundB l) = L4 ++ progX (ndf l j) sb ++ strsL [tClose] := by
          rw [spots_snoc, List.flatMap_append, List.flatMap_singleton, ← List.append_assoc, ← hL3, ← round_split l (j, s) L3, hL4, hnm, hsb]
        rw [e]
        exact h5.bl
      · exact h5.kp.row hbx (by decide) hbgb
    have c1 := hps.box.cell
    have H5 := Lib.hid h5
    have H6 := Lib.hid h6
    have HE := Lib.hid hend
    rw [row_close] at H6
    rw [← hnm, hNMv]
    clear h5 h6 hend hps hbx hcells hL3 hL4 hnm hNMv hNW hpW hsb HI0 hbE hN3 hll
    gi_wp2
    refine ⟨trivial, ?_⟩
    refine (CallsIn.inRound l2 (callsIn_wide.2 H4.out)).mono ?_
    rintro e w3 ⟨rfl, h3⟩
    have H7 := Lib.hid (H5.out w3 h3)
    have c2 := h3.box.cell
    clear H4 c1 h3
    gi_wp2
    refine ⟨trivial, ?_⟩
    refine (CallsIn.inRound l2 (callsIn_wide.2 H7.out)).mono ?_
    rintro e w4 ⟨rfl, h4⟩
    have H8 := Lib.hid (H6.out w4 h4)
    have c1 := h4.box.cell
    clear H7 c2 h4
    gi_wp2
    refine ⟨trivial, ?_⟩
    refine (CallsIn.inRound l2 (callsIn_wide.2 H8.out)).mono ?_
    rintro e w5 ⟨rfl, h5⟩
    have H9 := Lib.hid (HE.out w5 h5)
    clear H8 c1 h5
    gi_wp2
    exact H9.out
end Go.Proofs.YtgbaaiedpiiepaaDoor
/- Of the program: Pack of nodes is the document's. Its conditions: lengths that fit. -/
namespace Go.Proofs.YtgbaaiedpiiepaaDoor
open Go.RowKit Go.Shelf
set_option linter.unusedVariables false
set_option linter.unusedSimpArgs false
theorem node_ok (B gb b : Nat) (hbB : b < B) : ∀ k, NodeOk B gb b k
  | 0, d, r, hr, _ => absurd hr (Nat.not_lt_zero _)
  | k + 1, d, r, hr, hT => fun o cap L w hB hN hc hlen hb => by
    rcases hT.kind d (by simp) with h | h | h | h
    · exact putNode_leaf B gb b o cap d r L w hB hbB hN (by have := hT.data d (by simp); omega) (by omega) (by have := hT.prog; omega) hb
    · exact putNode_leaf B gb b o cap d r L w hB hbB hN (by have := hT.data d (by simp); omega) (by omega) (by have := hT.prog; omega) hb
    · exact putNode_leaf B gb b o cap d r L w hB hbB hN (by have := hT.data d (by simp); omega) (by omega) (by have := hT.prog; omega) hb
    · exact putNode_dir B gb b k hbB (node_ok B gb b hbB k) d r hr hT h o cap L w hB hN hc hlen hb
/-- What Pack answers. -/
def ppackV (l : List Nd) : Value := match packL l with
  | some s => .tuple #[strV s, .int .i64 0]
  | none => .tuple #[strV [], .int .i64 1]
theorem may_okT {d : Nd} {r : List Nd} (h : mayL (d :: r) = true) (hp : ∀ c ∈ d :: r, c.path.length ≤ 10000) (hd : ∀ c ∈ d :: r, c.data.length ≤ 100000) : OkT (d :: r) := by
  have hq := mayP_eq d r
  rw [h] at hq
  unfold mayP at hq
  simp only [Bool.and_eq_true, decide_eq_true_eq, beq_iff_eq, List.all_eq_true, List.mem_range, List.length_cons] at hq
  obtain ⟨hl, h0, hall⟩ := hq
  refine ⟨by rw [List.length_cons]; omega, hp, hd, fun c hc => ?_, fun j hj hjl => ?_⟩
  · obtain ⟨i, hi, rfl⟩ := List.getElem_of_mem hc
    rw [← ndf_at _ i hi]
    have := hall i (by simpa using hi)
    apply kinds
    cases i with
    | zero => exact this
    | succ i =>
      simp only [okAt, Bool.and_eq_true] at this
      exact this.1
  · cases j with
    | zero => omega
    | succ j =>
      have := hall (j + 1) (by simpa using hjl)
      simp only [okAt, Bool.and_eq_true] at this
      obtain ⟨n, re, he, hn, _⟩ := valid_path this.2.1
      rw [he]
      intro q
      have := (pathR_nil (fun x hx => may_gn (hn x hx))).1 q
      cases this
theorem row_magic : sRow [tMagic] = #[.string { data := #[110, 105, 120, 45, 97, 114, 99, 104, 105, 118, 101, 45, 49] }] := rfl
set_option maxRecDepth 100000 in
set_option maxHeartbeats 2000000 in
theorem ppack_pos (b o cap : Nat) (d : Nd) (r : List Nd) (hl : r.length + 1 ≤ 1000000) (hc : r.length + 1 ≤ cap) (hp : ∀ c ∈ d :: r, c.path.length ≤ 10000) (hd : ∀ c ∈ d :: r, c.data.length ≤ 100000) (w : World) (hN : Nodes w b o (d :: r)) :
    Calls Tryd.prog 12 #[slV b o (r.length + 1) cap] w fun e w' => e = .returned (ppackV (d :: r)) ∧ Below w.heap.size w w' := by
  have HM := Lib.hid (fun w (hN : Nodes w b o (d :: r)) => pmay_any b o cap d r hl (fun c hc => by have := hp c hc; omega) (fun c hc => by have := hd c hc; omega) w hN)
  have hHM := Lib.hid (HM.out w hN)
  unfold slV at hHM ⊢
  obtain ⟨v, hv⟩ : ∃ v, Hid (v = ppackV (d :: r)) := ⟨_, Lib.hid rfl⟩
  rw [← hv.out]
  obtain ⟨m, hm⟩ : ∃ m, Hid (m = mayL (d :: r)) := ⟨_, Lib.hid rfl⟩
  rw [← hm.out] at hHM
  have HN := Lib.hid hN
  clear hN HM
  cases m with
  | false =>
    have hz : Hid (v = .tuple #[.string { data := #[] }, .int .i64 1]) := Lib.hid (by rw [hv.out]; unfold ppackV packL; rw [← hm.out]; rfl)
    clear hv hm
    go_enter Tryd.func12, Tryd.ntmps12
    go_wp2_with fail
    refine hHM.out.mono ?_
    rintro e w1 ⟨rfl, hb⟩
    have HB := Lib.hid hb
    clear hb
    go_wp2_with fail
    go_ret2
    exact ⟨by rw [hz.out]; rfl, HB.out⟩
  | true =>
    have hT := may_okT hm.out.symm hp hd
    have hz : Hid (v = .tuple #[strV (treeL (d :: r)), .int .i64 0]) := Lib.hid (by rw [hv.out]; unfold ppackV packL; rw [← hm.out]; rfl)
    have htree : Hid (strsL [tMagic] ++ progX d r = treeL (d :: r)) := Lib.hid (prog_tree d r hm.out.symm)
    clear hv hm
    go_enter Tryd.func12, Tryd.ntmps12
    go_wp2_with fail
    refine hHM.out.mono ?_
    rintro e w1 ⟨rfl, hb⟩
    have hN1 := HN.out.below hb
    have HB := Lib.hid hb
    have hbw1 : b < w1.heap.size := hN1.1
    obtain ⟨W0, hW0⟩ : ∃ W0, W0 = w1.alloc (.cells #[.pointer none, .slice none 0 0] 54) := ⟨_, rfl⟩
    have hs0 : W0.heap.size = w1.heap.size + 1 := by rw [hW0]; simp
    have hbl0 : Bl w1.heap.size w1.heap.size [] W0 := by rw [hW0]; exact Lib.IsBuilderF.of (Lib.fresh_isBuilder 54 5 w1)
    have hb0 : Below w1.heap.size w1 W0 := by rw [hW0]; exact (Below.refl _ _).alloc (Nat.le_refl _) _
    have hrow : ∀ A, (W0.alloc (.cells A 9)).heap[w1.heap.size + 1]? = some (.cells A 9 (0, 0)) := fun A => by
      have := World.alloc_heap_new W0 (.cells A 9)
      rwa [hs0] at this
    have hb1 : Below W0.heap.size W0 (W0.alloc (.cells (sRow [tMagic]) 9)) := (Below.refl _ _).alloc (Nat.le_refl _) _
    have H1 := Lib.hid (put_any w1.heap.size w1.heap.size (w1.heap.size + 1) [] [tMagic] 1 rfl (by omega) (by intro t ht; simp only [List.mem_cons, List.not_mem_nil, or_false] at ht; subst ht; decide) (by decide) (W0.alloc (.cells (sRow [tMagic]) 9)) (by have := hb1.size; omega) (hbl0.below hb1) (hrow _))
    have hk1 : Kp w1.heap.size w1.heap.size W0 (W0.alloc (.cells (sRow [tMagic]) 9)) := Kp.of_below hb1 (by omega)
    rw [row_magic] at H1 hk1
    have HW0 := Lib.hid hW0
    have HK1 := Lib.hid hk1
    have HB0 := Lib.hid hb0
    have HN1 := Lib.hid hN1
    clear hW0 hbl0 hb0 hrow hb1 hk1 hb hN1 HN hHM
    go_wp2_with fail
    rw [← HW0.out]
    refine H1.out.mono ?_
    rintro e w2 ⟨rfl, h2, k2⟩
    have hkk : Kp w1.heap.size w1.heap.size W0 w2 := HK1.out.trans k2
    have hlen : (strsL [tMagic]).length = 24 := rfl
    have H2 := Lib.hid (node_ok w1.heap.size w1.heap.size b hbw1 (r.length + 1) d r (by omega) hT o cap ([] ++ strsL [tMagic]) w2 (by have := hkk.1.size; omega) ((HN1.out.kept HB0.out hbw1).kept hkk.1 hbw1) hc (by have := hT.len; simp only [List.length_cons] at this; rw [List.nil_append]; omega) h2)
    have HKK := Lib.hid hkk
    clear h2 k2 hkk H1 HK1
    go_wp2_with fail
    refine H2.out.mono ?_
    rintro e w3 ⟨rfl, h3, k3⟩
    rw [List.nil_append, htree.out] at h3
    have hk3 : Kp w1.heap.size w1.heap.size W0 w3 := HKK.out.trans k3
    have H3 := Lib.hid (Builder_String_any_k w1.heap.size w1.heap.size (treeL (d :: r)) w3 h3 (by have := hk3.1.size; omega))
    have HBl : Hid (Below w.heap.size w w3) := Lib.hid (HB.out.trans ((HB0.out.trans hk3.1).mono HB.out.size))
    have hsz : w1.heap.size ≥ w.heap.size := HB.out.size
    clear h3 k3 hk3 H2
    go_wp2_with fail
    refine H3.out.mono ?_
    rintro e w4 ⟨rfl, _, hb4, _⟩
    have HB4 : Hid (Below w.heap.size w w4) := Lib.hid (HBl.out.trans (hb4.mono hsz))
    clear hb4
    go_wp2_with fail
    go_ret2
    exact ⟨by rw [hz.out]; rfl, HB4.out⟩
end Go.Proofs.YtgbaaiedpiiepaaDoor
/- Same of the document: whether two lists of nodes are alike. Its condition: lengths that fit. -/
namespace Go.Proofs.YtgbaaiedpiiepaaDoor
open Go.RowKit Go.Shelf
set_option linter.unusedVariables false
set_option linter.unusedSimpArgs false
def sameN (c d : Nd) : Bool := decide (c.path = d.path) && (decide (c.kind = d.kind) && decide (c.data = d.data))
def sameL : List Nd → List Nd → Bool
  | [], [] => true
  | c :: l, d :: m => sameN c d && sameL l m
  | _, _ => false
set_option maxRecDepth 100000 in
set_option maxHeartbeats 2000000 in
theorem eq42 (P D P2 D2 : ByteArray) (k k2 : Int) (w : World) : (Op.equalIn 10000 42 (.agg #[.string P, .int .i64 k, .string D]) (.agg #[.string P2, .int .i64 k2, .string D2])).run Tryd.prog w = .ok (P.toList == P2.toList && (k == k2 && D.toList == D2.toList)) w := by
  have u1 := Tryd.underlying42
  have u2 := Tryd.underlying9
  have u3 := Tryd.underlying3
  rw [show (10000 : Nat) = 9999 + 1 from rfl, Op.equalIn]
  simp only [Sem.run_bind, run_underlying Tryd.underlying42, Result.andThen_ok]
  go_simp
  by_cases h1 : P.toList = P2.toList <;> by_cases h2 : k = k2 <;> by_cases h3 : D.toList = D2.toList <;> simp [h1, h2, h3]
theorem same_len : ∀ l m : List Nd, l.length ≠ m.length → sameL l m = false
  | [], [], h => absurd rfl h
  | [], _ :: _, _ => rfl
  | _ :: _, [], _ => rfl
  | c :: l, d :: m, h => by
    rw [sameL, same_len l m (by simpa using h), Bool.and_false]
theorem same_drop (l m : List Nd) (k : Nat) (h : k < l.length) (h2 : k < m.length) : sameL (l.drop k) (m.drop k) = (sameN l[k] m[k] && sameL (l.drop (k + 1)) (m.drop (k + 1))) := by
  rw [List.drop_eq_getElem_cons h, List.drop_eq_getElem_cons h2, sameL]
theorem same_iff : ∀ l m : List Nd, sameL l m = true ↔ l = m
  | [], [] => by simp [sameL]
  | [], _ :: _ => by simp [sameL]
  | _ :: _, [] => by simp [sameL]
  | c :: l, d :: m => by
    rw [sameL, Bool.and_eq_true, same_iff l m]
    have hc : sameN c d = true ↔ c = d := by
      unfold sameN
      simp only [Bool.and_eq_true, decide_eq_true_eq]
      constructor
      · rintro ⟨h1, h2, h3⟩; exact Nd.ext' h1 h2 h3
      · rintro rfl; exact ⟨rfl, rfl, rfl⟩
    rw [hc, List.cons.injEq]
set_option maxRecDepth 100000 in
set_option maxHeartbeats 2000000 in
theorem same_any (b o cap b2 o2 cap2 : Nat) (l m : List Nd) (hl : l.length ≤ 9223372036854775807) (hm : m.length ≤ 9223372036854775807) (w : World) (hN : Nodes w b o l) (hN2 : Nodes w b2 o2 m) :
    Calls Tryd.prog 24 #[slV b o l.length cap, slV b2 o2 m.length cap2] w fun e w' => e = .returned (.bool (sameL l m)) ∧ Below w.heap.size w w' := by
  have HN := Lib.hid hN
  have HM := Lib.hid hN2
  clear hN hN2
  obtain ⟨B, hB⟩ : ∃ B, Hid (B = sameL l m) := ⟨_, Lib.hid rfl⟩
  rw [← hB.out]
  unfold slV
  by_cases he : l.length = m.length
  · obtain ⟨n, hn⟩ : ∃ n, Hid (n = l.length) := ⟨_, Lib.hid rfl⟩
    have hn2 : Hid (n = m.length) := Lib.hid (hn.out.trans he)
    rw [← he, ← hn.out]
    rw [← hn.out] at hl
    clear he hm
    go_enter Tryd.func24, Tryd.ntmps24
    go_wp2_with fail
    go_loopw [5] (fun x wr => ∃ k : Nat, k ≤ n ∧ x = .int .i64 (k : Int) ∧ B = sameL (l.drop k) (m.drop k) ∧ Below w.heap.size w wr) (fun x _ => n - (intOf x).toNat)
    case atStart => exact ⟨0, Nat.zero_le _, rfl, hB.out, Below.refl _ w⟩
    case round =>
      obtain ⟨k, hk, rfl, hinv, hb⟩ := hrel
      have HI := Lib.hid hinv
      have HBr := Lib.hid hb
      clear hinv hb
      by_cases hlt : k < n
      · have hltI : (k : Int) < (n : Int) := by omega
        have hkl : k < l.length := by have := hn.out; omega
        have hkm : k < m.length := by have := hn2.out; omega
        have a0 := ((HN.out.below (W2 := wr) HBr.out).2 k hkl)
        have a1 := ((HM.out.below (W2 := wr) HBr.out).2 k hkm)
        have hst := Lib.hid (same_drop l m k hkl hkm)
        rw [← HI.out] at hst
        obtain ⟨c, hc⟩ : ∃ c, Hid (c = l[k]) := ⟨_, Lib.hid rfl⟩
        obtain ⟨d, hd⟩ : ∃ c, Hid (c = m[k]) := ⟨_, Lib.hid rfl⟩
        rw [← hc.out] at a0 hst
        rw [← hd.out] at a1 hst
        obtain ⟨c0, c1, c2⟩ := a0
        obtain ⟨d0, d1, d2⟩ := a1
        obtain ⟨P, hP⟩ : ∃ x : ByteArray, Hid (x = ⟨c.path.toArray⟩) := ⟨_, Lib.hid rfl⟩
        obtain ⟨D, hD⟩ : ∃ x : ByteArray, Hid (x = ⟨c.data.toArray⟩) := ⟨_, Lib.hid rfl⟩
        obtain ⟨P2, hP2⟩ : ∃ x : ByteArray, Hid (x = ⟨d.path.toArray⟩) := ⟨_, Lib.hid rfl⟩
        obtain ⟨D2, hD2⟩ : ∃ x : ByteArray, Hid (x = ⟨d.data.toArray⟩) := ⟨_, Lib.hid rfl⟩
        rw [show strV c.path = .string P by rw [hP.out]; rfl] at c0
        rw [show strV c.data = .string D by rw [hD.out]; rfl] at c2
        rw [show strV d.path = .string P2 by rw [hP2.out]; rfl] at d0
        rw [show strV d.data = .string D2 by rw [hD2.out]; rfl] at d2
        obtain ⟨q, hq⟩ : ∃ q, Hid (q = sameN c d) := ⟨_, Lib.hid rfl⟩
        have hE : ∀ w, (Op.equalIn 10000 42 (.agg #[.string P, .int .i64 c.kind, .string D]) (.agg #[.string P2, .int .i64 d.kind, .string D2])).run Tryd.prog w = .ok q w := fun w => by
          rw [eq42]
          congr 1
          rw [hq.out, ByteArray.toList_eq, ByteArray.toList_eq, ByteArray.toList_eq, ByteArray.toList_eq, hP.out, hD.out, hP2.out, hD2.out]
          unfold sameN
          by_cases h1 : c.path = d.path <;> by_cases h2 : c.kind = d.kind <;> by_cases h3 : c.data = d.data <;> simp [h1, h2, h3]
        rw [← hq.out] at hst
        clear hP hD hP2 hD2 hc hd hq hkl hkm
        cases q
        · rw [Bool.false_and] at hst
          go_wp2_with fail
          go_region
          go_wp2_with fail
          go_ret
          exact ⟨by rw [hst.out]; rfl, HBr.out.drew⟩
        · rw [Bool.true_and] at hst
          go_wp2_with fail
          go_region
          go_wp2_with fail
          refine ⟨⟨k + 1, by omega, by first | rfl | simp | go_num, hst.out, HBr.out.drew⟩, ?_⟩
          simp [intOf] <;> omega
      · have hltI : ¬ (k : Int) < (n : Int) := by omega
        have hz : Hid (B = true) := Lib.hid (by
          rw [HI.out, List.drop_of_length_le (by have := hn.out; omega), List.drop_of_length_le (by have := hn2.out; omega)]
          rfl)
        go_wp2_with fail
        go_ret
        exact ⟨by rw [hz.out]; rfl, HBr.out⟩
  · have heI : ¬ (l.length : Int) = (m.length : Int) := by omega
    have hz : Hid (B = false) := Lib.hid (by rw [hB.out, same_len l m he])
    clear he
    go_enter Tryd.func24, Tryd.ntmps24
    go_wp2_with fail
    go_ret
    exact ⟨by rw [hz.out]; rfl, Below.refl _ _⟩
end Go.Proofs.YtgbaaiedpiiepaaDoor
