/- Several texts, one behind the other; each says by itself what it proves, and on what conditions. -/
import Derived.Test.YtdbbcngolcnniaaGreatDoorY09
import Derived.Shelf.Strings.Builder1
import Derived.Shelf.Strings.Builder2
import Derived.Shelf.Small.Strs
import Derived.Shelf.Strings.BuilderF
import Derived.Shelf.Strings.BuilderK
import Derived.Shelf.Strings.Builder2Cap
import Derived.Shelf.LaysM
import Derived.Shelf.Strconv.Clone
import Derived.Shelf.Strings.Search1
import Derived.Shelf.Bits.Mul64
import Derived.Shelf.Strings.BuilderCap
import Derived.Test.YtdbbcngolcnniaaGreatDoorProg
import Derived.Laws.BitsAllLaws
/- The iterators of package codec over the bytes of a text, forward and backward: what they hand out. No condition but that the text is no longer than Go lets it be. -/
namespace Go.Proofs.YtdbbcngolcnniaaGreatDoor
set_option linter.unusedSimpArgs false
open Go.RowKit Go.Shelf
set_option linter.unusedVariables false
attribute [local go_sem] Oper.semAt_some
def natsOf (s : ByteArray) : List Nat := s.data.toList.map UInt8.toNat
theorem natsOf_length (s : ByteArray) : (natsOf s).length = s.size := by simp [natsOf]
theorem take_succ_get (l : List Nat) (k : Nat) (h : k < l.length) : l.take (k + 1) = l.take k ++ [l[k]] := by
 rw [List.take_add_one]; simp [h]
theorem natsOf_get (s : ByteArray) (k : Nat) (h : k < s.size) : (natsOf s)[k]'(by rw [natsOf_length]; exact h) = s[k].toNat := by
 simp [natsOf, ByteArray.getElem_eq_getElem_data]
theorem take_prefix (l : List Nat) (k : Nat) (h : k < l.length) : l.take k ++ [l[k]] <+: l := by
 rw [← take_succ_get l k h]; exact List.take_prefix _ _
set_option maxHeartbeats 1000000 in
theorem forward_seq (s : ByteArray) (n0 b : Nat) (w0 : World) (hb : b < n0) (hn : n0 ≤ w0.heap.size) (hc : w0.cell? ⟨b, 0, none⟩ = some (.string s)) (hs : s.size ≤ 9223372036854775807) :
  SeqOK Tryz.prog 82 #[.pointer (some ⟨b, 0, none⟩)] (natsOf s) n0 w0 := by
 refine ⟨hn, ?_⟩
 intro m l J Jx S W hW hJ hJx hS hY h0
 have hbW : b < W.heap.size := by have := hW.size; omega
 have hcW : W.cell? ⟨b, 0, none⟩ = some (.string s) := (hW.cell (p := ⟨b, 0, none⟩) hb).trans hc
 have hbS : ¬ S b := fun h => by have := hS b h; omega
 refine callsIn_of_wp Tryz.func82 rfl trivial ?_ rfl
 simp only [Tryz.ntmps82, List.size_toArray, List.length_cons, List.length_nil, Nat.reduceAdd, Nat.reduceSub, Array.replicate_succ, Array.replicate_zero, List.push_toArray, List.append_toArray, List.nil_append, List.cons_append]
 have hd : Fence.wide.depth = none := rfl
 clear hc hb
 gi_wp2
 gi_loopw [6] (fun i wr => ∃ (k : Nat) (S1 : Nat → Prop), i = .int .i64 k ∧ k ≤ s.size ∧ Ext S S1 W wr ∧ J ((natsOf s).take k) S1 wr)
  (fun i _ => s.size - (intOf i).toNat)
 case atStart => exact ⟨0, S, rfl, Nat.zero_le _, Ext.refl _ _, h0⟩
 case round =>
  obtain ⟨k, S1, rfl, hk, hE, hJs⟩ := hrel
  have hcr : wr.cell? ⟨b, 0, none⟩ = some (.string s) := (hE.cell (p := ⟨b, 0, none⟩) hbW hbS).trans hcW
  by_cases hlt : k < s.size
  ·have hlen : k < (natsOf s).length := by rw [natsOf_length]; exact hlt
   have hstep := take_succ_get (natsOf s) k hlen
   obtain ⟨fn, tmps, assign, body, hy, hR⟩ := anyDepthY hd (m - 1) (hY _ (natsOf s)[k] S1 wr hE hJs (take_prefix _ k hlen))
   have hR2 := Lib.hid hR
   have hstep2 := Lib.hid hstep
   rw [natsOf_get s k hlt] at hy
   have hK := Lib.hid hY
   clear hY hJs hR hstep
   gi_wp2
   refine hR2.out.mono ?_
   rintro e W3 ⟨S2, hE2, (⟨rfl, hJ3⟩ | ⟨rfl, hJx3⟩)⟩
   ·gi_wp2
    go_roundw
    case rel => exact ⟨k + 1, S2, by simp, by omega, hE.trans hE2, by rw [hstep2.out]; exact hJ3⟩
    case measure => simp [intOf]; omega
   ·gi_wp2
    refine bodyPost_ret (results_none rfl _ _ _) rfl ?_
    exact ⟨⟨_, rfl⟩, S2, hE.trans hE2, .inr ⟨_, take_prefix _ k hlen, hJx3⟩⟩
  ·have hkl : k = s.size := by omega
   have hJ2 : Hid (J (natsOf s) S1 wr) := by unfold Hid; rw [← List.take_length (l := natsOf s), natsOf_length, ← hkl]; exact hJs
   have hE2 := Lib.hid hE
   clear hY hJs hE
   subst hkl
   gi_wp2
   go_end0
   exact ⟨⟨_, rfl⟩, S1, hE2.out, .inl hJ2.out⟩
theorem rev_get (s : ByteArray) (k : Nat) (h : k < s.size) : (natsOf s).reverse[k]'(by rw [List.length_reverse, natsOf_length]; exact h) = (s[s.size - 1 - k]'(by omega)).toNat := by
 rw [List.getElem_reverse, ← natsOf_get s (s.size - 1 - k) (by omega)]
 congr 1
 rw [natsOf_length]
set_option maxHeartbeats 1000000 in
theorem backward_seq (s : ByteArray) (n0 b : Nat) (w0 : World) (hb : b < n0) (hn : n0 ≤ w0.heap.size) (hc : w0.cell? ⟨b, 0, none⟩ = some (.string s)) (hs : s.size ≤ 9223372036854775807) :
  SeqOK Tryz.prog 84 #[.pointer (some ⟨b, 0, none⟩)] (natsOf s).reverse n0 w0 := by
 refine ⟨hn, ?_⟩
 intro m l J Jx S W hW hJ hJx hS hY h0
 have hbW : b < W.heap.size := by have := hW.size; omega
 have hcW : W.cell? ⟨b, 0, none⟩ = some (.string s) := (hW.cell (p := ⟨b, 0, none⟩) hb).trans hc
 have hbS : ¬ S b := fun h => by have := hS b h; omega
 refine callsIn_of_wp Tryz.func84 rfl trivial ?_ rfl
 simp only [Tryz.ntmps84, List.size_toArray, List.length_cons, List.length_nil, Nat.reduceAdd, Nat.reduceSub, Array.replicate_succ, Array.replicate_zero, List.push_toArray, List.append_toArray, List.nil_append, List.cons_append]
 have hd : Fence.wide.depth = none := rfl
 clear hc hb
 gi_wp2
 gi_loopw [3] (fun i wr => ∃ (k : Nat) (S1 : Nat → Prop), i = .int .i64 ((s.size : Int) - 1 - k) ∧ k ≤ s.size ∧ Ext S S1 W wr ∧ J ((natsOf s).reverse.take k) S1 wr)
  (fun i _ => (intOf i + 1).toNat)
 case atStart => exact ⟨0, S, by simp, Nat.zero_le _, Ext.refl _ _, h0⟩
 case round =>
  obtain ⟨k, S1, rfl, hk, hE, hJs⟩ := hrel
  have hcr : wr.cell? ⟨b, 0, none⟩ = some (.string s) := (hE.cell (p := ⟨b, 0, none⟩) hbW hbS).trans hcW
  by_cases hlt : k < s.size
  ·have hlen : k < (natsOf s).reverse.length := by rw [List.length_reverse, natsOf_length]; exact hlt
   have hstep := take_succ_get (natsOf s).reverse k hlen
   obtain ⟨fn, tmps, assign, body, hy, hR⟩ := anyDepthY hd (m - 1) (hY _ ((natsOf s).reverse[k]) S1 wr hE hJs (take_prefix _ k hlen))
   have hR2 := Lib.hid hR
   have hstep2 := Lib.hid hstep
   rw [rev_get s k hlt] at hy
   have hpre := Lib.hid (take_prefix (natsOf s).reverse k hlen)
   clear hY hJs hR hstep
   obtain ⟨q, hq⟩ : ∃ q, q = s.size - 1 - k := ⟨_, rfl⟩
   have hqs : q < s.size := by omega
   have hqi : (s.size : Int) - 1 - k = (q : Int) := by omega
   have hqn : ((q : Int) - 1) = (s.size : Int) - 1 - ((k + 1 : Nat) : Int) := by omega
   have hqH := Lib.hid hqn
   have hy2 : (Instr.yield l #[.int .u8 ((s[q].toNat : Nat) : Int)]).run Tryz.prog wr = .ok (.round l fn tmps assign body) wr := by subst hq; exact hy
   clear hy hq hqn
   rw [hqi]
   gi_wp2
   refine hR2.out.mono ?_
   rintro e W3 ⟨S2, hE2, (⟨rfl, hJ3⟩ | ⟨rfl, hJx3⟩)⟩
   ·gi_wp2
    go_roundw
    case rel => exact ⟨k + 1, S2, by rw [← hqH.out], by omega, hE.trans hE2, by rw [hstep2.out]; exact hJ3⟩
    case measure => (simp [intOf] <;> omega)
   ·gi_wp2
    refine bodyPost_ret (results_none rfl _ _ _) rfl ?_
    exact ⟨⟨_, rfl⟩, S2, hE.trans hE2, .inr ⟨_, hpre.out, hJx3⟩⟩
  ·have hkl : k = s.size := by omega
   have hJ2 : Hid (J (natsOf s).reverse S1 wr) := by
    unfold Hid
    have : (natsOf s).reverse.take k = (natsOf s).reverse := List.take_of_length_le (by rw [List.length_reverse, natsOf_length]; omega)
    rw [← this]; exact hJs
   have hE2 := Lib.hid hE
   clear hY hJs hE
   have hki : (s.size : Int) - 1 - k = -1 := by omega
   rw [hki]
   gi_wp2
   go_end0
   exact ⟨⟨_, rfl⟩, S1, hE2.out, .inl hJ2.out⟩
end Go.Proofs.YtdbbcngolcnniaaGreatDoor
/- The iterators of package codec that tell letters by numbers, and numbers by letters: what they hand out, whatever hands them theirs. -/
namespace Go.Proofs.YtdbbcngolcnniaaGreatDoor
set_option linter.unusedSimpArgs false
open Go.RowKit Go.Shelf
set_option linter.unusedVariables false
attribute [local go_sem] Oper.semAt_some
theorem Ext.late {S T : Nat → Prop} {A B : World} (h : Ext S T A B) {D : Nat} (hD : A.heap.size ≤ D) (o : Obj) : Ext S T A (B.putObj D o) := by
 have h3 := grownBy_putObj' B D o
 exact ⟨h3.os.trans h.os, h3.tape.trans h.tape, h3.output.trans h.output, by have := h.size; simp; omega, h.new, fun k hk hs => (World.putObj_heap_other (by omega)).trans (h.keep k hk hs)⟩
theorem prefix_map {l m : List Nat} (f : Nat → Nat) (h : l <+: m) : l.map f <+: m.map f := by
 obtain ⟨t, rfl⟩ := h
 exact ⟨t.map f, by simp⟩
theorem Ext.cellb {S T : Nat → Prop} {A B : World} (h : Ext S T A B) {b o : Nat} (hp : b < A.heap.size) (hs : ¬ S b) : B.cell? ⟨b, o, none⟩ = A.cell? ⟨b, o, none⟩ := h.cell (p := ⟨b, o, none⟩) hp hs
def setAt (set : ByteArray) (y : Nat) : Nat := (natsOf set).getD y 0
set_option maxHeartbeats 1000000 in
theorem letters_seq (set : ByteArray) (gf : Nat) (lb : Array Value) (ys : List Nat) (n0 n1 b1 b2 : Nat) (w0 : World) (hq : SeqOK Tryz.prog gf lb ys n1 w0) (hn1 : n1 ≤ n0) (hn : n0 ≤ w0.heap.size) (hb1 : b1 < n0) (hb2 : b2 < n0)
  (hc1 : w0.cell? ⟨b1, 0, none⟩ = some (.func (.func gf) #[] lb)) (hc2 : w0.cell? ⟨b2, 0, none⟩ = some (.string set))
  (eg : ∀ args w, (callFunc gf args).run Tryz.prog w = .ok (.enter gf args) w) (hys : ∀ y ∈ ys, y < set.size) :
  SeqOK Tryz.prog 80 #[.pointer (some ⟨b1, 0, none⟩), .pointer (some ⟨b2, 0, none⟩)] (ys.map (setAt set)) n0 w0 := by
 refine ⟨hn, ?_⟩
 intro m l J Jx S W hW hJ hJx hS hY h0
 have hs1 := hW.size
 have d1 : W.cell? ⟨b1, 0, none⟩ = some (.func (.func gf) #[] lb) := (hW.cell (p := ⟨b1, 0, none⟩) hb1).trans hc1
 have d2 : W.cell? ⟨b2, 0, none⟩ = some (.string set) := (hW.cell (p := ⟨b2, 0, none⟩) hb2).trans hc2
 refine callsIn_of_wp_marks Tryz.func80 rfl trivial ?_ rfl
 simp only [Tryz.ntmps80, List.size_toArray, List.length_cons, List.length_nil, Nat.reduceAdd, Nat.reduceSub, Array.replicate_succ, Array.replicate_zero, List.push_toArray, List.append_toArray, List.nil_append, List.cons_append]
 have hd : Fence.wide.depth = none := rfl
 clear hc1 hc2
 have dd1 : (W.alloc (.cells #[.func (.yield l) #[] #[]] 81)).cell? ⟨b1, 0, none⟩ = some (.func (.func gf) #[] lb) := ((Below.refl n0 W).alloc (by omega) _).cell (p := ⟨b1, 0, none⟩) hb1 |>.trans d1
 gi_wp2
 have hE1 : Ext S S W (W.alloc (.cells #[.func (.yield l) #[] #[]] 81)) := Ext.of_below S ((Below.refl _ W).alloc (Nat.le_refl _) _)
 refine wpIn_rangeFunc_set (gf := gf) (lb := lb) rfl eg (hq.up hn1 hn) ((hW.alloc (by omega) _)) rfl
  (fun pre S2 W2 => J (pre.map (setAt set)) S2 W2) (fun c pre S2 W2 => c = .ret ∧ Jx (pre.map (setAt set)) S2 W2)
  ⟨fun x => hJ.same (x.map (setAt set)), fun x => hJ.lt (x.map (setAt set))⟩
  (fun c => ⟨fun x S W W2 h hs hk => ⟨h.1, hJx.same _ S W W2 h.2 hs hk⟩, fun x S W h => hJx.lt _ S W h.2⟩) S hS (hJ.alloc _ h0)
  (fun x => { tmps := #[.func (.yield l) #[] #[], .pointer (some ⟨b1, 0, none⟩), .pointer (some ⟨b2, 0, none⟩), .pointer (some ⟨W.heap.size, 0, none⟩), .int .u8 (x : Int), .func (.func gf) #[] lb, .int .u8 (x : Int), undef, undef, undef, undef, undef, undef], defers := [] }) ?assign ?body ?done ?stop
 case assign =>
  intro l x W K hK
  gi_wp2
  exact hK
 case body =>
  intro lr pre x S2 W2 hE hJ2 hpre
  have hx : x < set.size := hys x (by obtain ⟨t, rfl⟩ := hpre; simp)
  have e1 : W2.cell? ⟨W.heap.size, 0, none⟩ = some (.func (.yield l) #[] #[]) := (hE.cellb (by simp) (fun h => by have := hJ.lt _ _ _ h0 _ h; omega)).trans (Boxed.new W 81 _).cell
  have e2 : W2.cell? ⟨b2, 0, none⟩ = some (.string set) := by
   refine (hE.cellb (by simp; omega) (fun h => by have := hS _ h; omega)).trans ?_
   exact (World.cell?_of_block (w := W) (a := ⟨b2, 0, none⟩) (Below.heap_alloc W _ b2 (by omega))).trans d2
  have hyy := hY (pre.map (setAt set)) (setAt set x) S2 W2.drew (hE1.trans hE).drew (hJ.drew hJ2) (by have := prefix_map (setAt set) hpre; simpa using this)
  have hv : setAt set x = set[x].toNat := by rw [setAt, List.getD_eq_getElem?_getD, List.getElem?_eq_getElem (by rw [natsOf_length]; exact hx), Option.getD_some, natsOf_get set x hx]
  have HY := Lib.hid hyy
  have HV := Lib.hid hv
  clear hyy hv hY hys
  gi_wp2
  refine wpIn_region_any (by kernel_rfl) ?_
  change wpAnyIn _ _ _ _ _ _ _ _ _ (World.drew _)
  refine anyIn_unround lr rfl (by kernel_rfl) _ _ _ _ ?_
  refine anyIn_of_G (T := fun i => i < 4 || i == 5) (S := fun i w => i < 4 → w.cell? ⟨W.heap.size, 0, none⟩ = some (.func (.yield l) #[] #[]) ∧ w.cell? ⟨b2, 0, none⟩ = some (.string set)) _ _ _ _ ?_
  have HS : ∀ i : Nat, i < 4 → W2.drew.cell? ⟨W.heap.size, 0, none⟩ = some (.func (.yield l) #[] #[]) ∧ W2.drew.cell? ⟨b2, 0, none⟩ = some (.string set) := fun _ _ => ⟨e1, e2⟩
  have HSH := Lib.hid HS
  clear HS
  refine AnyG.take 0 (some 7) (.load 81 (.tmp 3)) (.func (.yield l) #[] #[]) rfl rfl (fun _ e => by cases e) (by kernel_rfl) (by kernel_rfl) (by kernel_rfl) (by kernel_rfl) rfl (fun _ _ _ h => h) (fun o ho w hw => by obtain ⟨q1, q2⟩ := hw (by decide); unfold execOp; rw [ho]; go_simp) (HSH.out 0) ?_
  simp only [Act.put, sT, sS, sZ]
  refine AnyG.take 1 (some 8) (.load 9 (.tmp 2)) (.string set) rfl rfl (fun _ e => by cases e) (by kernel_rfl) (by kernel_rfl) (by kernel_rfl) (by kernel_rfl) rfl (fun _ _ _ h => h) (fun o ho w hw => by obtain ⟨q1, q2⟩ := hw (by decide); unfold execOp; rw [ho]; go_simp) (HSH.out 1) ?_
  simp only [Act.put, sT, sS, sZ]
  refine AnyG.take 2 (some 9) (.move (.tmp 4)) (.int .u8 (x : Int)) rfl rfl (fun _ e => by cases e) (by kernel_rfl) (by kernel_rfl) (by kernel_rfl) (by kernel_rfl) rfl (fun _ _ _ h => h) (fun o ho w hw => by obtain ⟨q1, q2⟩ := hw (by decide); unfold execOp; rw [ho]; go_simp) (HSH.out 2) ?_
  simp only [Act.put, sT, sS, sZ]
  refine AnyG.take 3 (some 10) (.index 9 (.tmp 8) (.tmp 9)) (.int .u8 (set[x].toNat : Int)) rfl rfl (fun _ e => by cases e) (by kernel_rfl) (by kernel_rfl) (by kernel_rfl) (by kernel_rfl) rfl (fun _ _ _ h => h) (fun o ho w hw => by obtain ⟨q1, q2⟩ := hw (by decide); unfold execOp; rw [ho]; go_simp) (HSH.out 3) ?_
  simp only [Act.put, sT, sS, sZ]
  have HY2 := HY.out
  rw [HV.out] at HY2
  refine AnyG.ready (rs := [4]) (by kernel_rfl) (by simp) (ReadyG.yield (some 11) (.tmp 7) #[.tmp 10] #[5] rfl rfl rfl l rfl #[.int .u8 (set[x].toNat : Int)] (by simp [Act.eval]) _ HY2 rfl ?_ (fun c w' h => by obtain ⟨_, _, ⟨h, -⟩ | ⟨h, -⟩⟩ := h <;> cases h) (fun w' h => by obtain ⟨_, _, ⟨h, -⟩ | ⟨h, -⟩⟩ := h <;> cases h) ReadyG.nil)
  rintro v W3 ⟨S3, hE3, hv3⟩
  refine ⟨tight_of (f := 4) ?_, ?_⟩
  ·kernel_rfl
  have hE4 := Lib.hid hE3.undrew
  rcases hv3 with ⟨he, hJ3⟩ | ⟨he, hJx3⟩
  ·obtain rfl : v = .bool true := by injection he
   simp only [Act.put, sT, sS, sZ]
   refine AnyG.take 5 (some 12) (.unOp .not 4 (.tmp 11)) (.bool false) rfl rfl (fun _ e => by cases e) (by kernel_rfl) (by kernel_rfl) (by kernel_rfl) (by kernel_rfl) rfl (fun _ _ _ h => h) (fun o ho w hw => by unfold execOp; rw [ho]; go_simp) (fun h => by omega) ?_
   simp only [Act.put, sT, sS, sZ]
   refine AnyG.done (by kernel_rfl) ?_ _
   have HJ3 := Lib.hid hJ3
   clear hJ3 he
   gi_wp2
   refine ⟨S3, hE4.out, ?_⟩
   rw [HV.out.symm] at HJ3
   simpa using HJ3.out
  ·obtain rfl : v = .bool false := by injection he
   simp only [Act.put, sT, sS, sZ]
   refine AnyG.take 5 (some 12) (.unOp .not 4 (.tmp 11)) (.bool true) rfl rfl (fun _ e => by cases e) (by kernel_rfl) (by kernel_rfl) (by kernel_rfl) (by kernel_rfl) rfl (fun _ _ _ h => h) (fun o ho w hw => by unfold execOp; rw [ho]; go_simp) (fun h => by omega) ?_
   simp only [Act.put, sT, sS, sZ]
   refine AnyG.done (by kernel_rfl) ?_ _
   have HJ3 := Lib.hid hJx3
   clear hJx3 he
   gi_wp2
   rw [HV.out.symm] at HJ3
   exact ⟨S3, hE4.out, rfl, by simpa using HJ3.out⟩
 case done =>
  rintro D S2 W2 hD hnD hE hJ2 hK
  have HE := Lib.hid ((hE1.trans hE).late (D := D) (by simp at hD; omega) (.deferred none))
  have HJ := Lib.hid (hJ.put D (.deferred none) hnD hJ2)
  clear hY hE1 hE hJ2
  gi_wp2
  refine ⟨by simp, .inl ⟨_, _, rfl, run_takeDeferred hK, ?_⟩⟩
  exact ⟨_, results_none rfl _ _ _, ⟨_, rfl⟩, S2, HE.out, .inl HJ.out⟩
 case stop =>
  rintro D c pre S2 W2 hD hnD hE hpre ⟨rfl, hJ2⟩ hK
  have HE := Lib.hid ((hE1.trans hE).late (D := D) (by simp at hD; omega) (.deferred none))
  have HJ := Lib.hid (hJx.put D (.deferred none) hnD hJ2)
  have HP := Lib.hid (prefix_map (setAt set) hpre)
  clear hY hE1 hE hJ2 hpre
  gi_wp2
  refine ⟨by simp, .inl ⟨_, _, rfl, run_takeDeferred hK, ?_⟩⟩
  exact ⟨_, results_none rfl _ _ _, ⟨_, rfl⟩, S2, HE.out, .inr ⟨_, HP.out, HJ.out⟩⟩
end Go.Proofs.YtdbbcngolcnniaaGreatDoor
/- What the library's functions hand back that package codec calls: its Builder, IndexByte, Repeat, TrimRight. -/
namespace Go.Proofs.YtdbbcngolcnniaaGreatDoor
set_option linter.unusedSimpArgs false
set_option linter.unusedVariables false
open Go.RowKit
open Go.Shelf
def lays169_ren : Go.Shelf.Ren := ⟨fun | 169 => 42 | n => n, fun | 70 => 56 | 9 => 9 | 0 => 0 | 72 => 58 | 37 => 22 | 127 => 97 | 3 => 3 | 5 => 5 | n => n, fun | n => n⟩
theorem lays169 : Go.Proofs.Lays.n169 Tryz.prog lays169_ren := {
 mixed := by kernel_rfl
 f169 := Tryz.func42.trans (congrArg some (by kernel_rfl))
 t0 := Tryz.underlying0
 a0 := Tryz.isAgg0
 z0 := Tryz.sizeOf0
 v0 := Tryz.zeroValue0
 t3 := Tryz.underlying3
 a3 := Tryz.isAgg3
 z3 := Tryz.sizeOf3
 v3 := Tryz.zeroValue3
 t9 := Tryz.underlying9
 a9 := Tryz.isAgg9
 z9 := Tryz.sizeOf9
 v9 := Tryz.zeroValue9
 t37 := Tryz.underlying22
 a37 := Tryz.isAgg22
 z37 := Tryz.sizeOf22
 v37 := Tryz.zeroValue22
 t70 := Tryz.underlying56
 a70 := Tryz.isAgg56
 z70 := Tryz.sizeOf56
 v70 := Tryz.zeroValue56
 t72 := Tryz.underlying58
 a72 := Tryz.isAgg58
 z72 := Tryz.sizeOf58
 v72 := Tryz.zeroValue58
 t127 := Tryz.underlying97
 a127 := Tryz.isAgg97
 z127 := Tryz.sizeOf97
 v127 := Tryz.zeroValue97 }
theorem Builder_Extra_169 : Builder.Extra Tryz.prog lays169_ren := {
 sizeBuilder := by kernel_rfl
 liesBuilder := by kernel_rfl
 t5 := Tryz.underlying5
 a5 := Tryz.isAgg5
 z5 := Tryz.sizeOf5
 v5 := Tryz.zeroValue5
 infoByte := by kernel_rfl
 cellsByte := by kernel_rfl
 sizeByte := by kernel_rfl
 neB5 := by decide }
def lays165_ren : Go.Shelf.Ren := ⟨fun | 165 => 39 | 240 => 71 | 241 => 72 | 276 => 90 | 277 => 91 | n => n, fun | 70 => 56 | 3 => 3 | 0 => 0 | 4 => 4 | 9 => 9 | 20 => 20 | 72 => 58 | 37 => 22 | 164 => 108 | 5 => 5 | n => n, fun | n => n⟩
theorem lays165 : Go.Proofs.Lays.n165 Tryz.prog lays165_ren := {
 mixed := by kernel_rfl
 f165 := Tryz.func39.trans (congrArg some (by kernel_rfl))
 f240 := Tryz.func71.trans (congrArg some (by kernel_rfl))
 f241 := Tryz.func72.trans (congrArg some (by kernel_rfl))
 f276 := Tryz.func90.trans (congrArg some (by kernel_rfl))
 f277 := Tryz.func91.trans (congrArg some (by kernel_rfl))
 t0 := Tryz.underlying0
 a0 := Tryz.isAgg0
 z0 := Tryz.sizeOf0
 v0 := Tryz.zeroValue0
 t3 := Tryz.underlying3
 a3 := Tryz.isAgg3
 z3 := Tryz.sizeOf3
 v3 := Tryz.zeroValue3
 t4 := Tryz.underlying4
 a4 := Tryz.isAgg4
 z4 := Tryz.sizeOf4
 v4 := Tryz.zeroValue4
 t9 := Tryz.underlying9
 a9 := Tryz.isAgg9
 z9 := Tryz.sizeOf9
 v9 := Tryz.zeroValue9
 t20 := Tryz.underlying20
 a20 := Tryz.isAgg20
 z20 := Tryz.sizeOf20
 v20 := Tryz.zeroValue20
 t37 := Tryz.underlying22
 a37 := Tryz.isAgg22
 z37 := Tryz.sizeOf22
 v37 := Tryz.zeroValue22
 t70 := Tryz.underlying56
 a70 := Tryz.isAgg56
 z70 := Tryz.sizeOf56
 v70 := Tryz.zeroValue56
 t72 := Tryz.underlying58
 a72 := Tryz.isAgg58
 z72 := Tryz.sizeOf58
 v72 := Tryz.zeroValue58
 t164 := Tryz.underlying108
 a164 := Tryz.isAgg108
 z164 := Tryz.sizeOf108
 v164 := Tryz.zeroValue108 }
theorem Builder_Extra_165 : Builder.Extra Tryz.prog lays165_ren := {
 sizeBuilder := by kernel_rfl
 liesBuilder := by kernel_rfl
 t5 := Tryz.underlying5
 a5 := Tryz.isAgg5
 z5 := Tryz.sizeOf5
 v5 := Tryz.zeroValue5
 infoByte := by kernel_rfl
 cellsByte := by kernel_rfl
 sizeByte := by kernel_rfl
 neB5 := by decide }
def lays137_ren : Go.Shelf.Ren := ⟨fun | 137 => 86 | 217 => 96 | 266 => 105 | n => n, fun | 9 => 9 | 5 => 5 | 3 => 3 | n => n, fun | n => n⟩
theorem lays137 : Go.Proofs.Lays.n137 Tryz.prog lays137_ren := {
 mixed := by kernel_rfl
 f137 := Tryz.func86.trans (congrArg some (by kernel_rfl))
 f217 := Tryz.func96.trans (congrArg some (by kernel_rfl))
 f266 := Tryz.func105.trans (congrArg some (by kernel_rfl))
 t3 := Tryz.underlying3
 a3 := Tryz.isAgg3
 z3 := Tryz.sizeOf3
 v3 := Tryz.zeroValue3
 t5 := Tryz.underlying5
 a5 := Tryz.isAgg5
 z5 := Tryz.sizeOf5
 v5 := Tryz.zeroValue5
 t9 := Tryz.underlying9
 a9 := Tryz.isAgg9
 z9 := Tryz.sizeOf9
 v9 := Tryz.zeroValue9 }
theorem strings_IndexByte (s : ByteArray) (c : Int) (w : World) :
  Calls Tryz.prog 86 #[.string s, .int .u8 c] w fun e w' => e = .returned (.int .i64 (Lib.indexByte s.data.toList c.toNat.toUInt8)) ∧ w' = w := Any.strings_IndexByte lays137 s c w
theorem Builder_String_any_k (B b : Nat) (l : List UInt8) (w : World) (h : Lib.IsBuilderF 58 5 B b (Lib.byteCells l) w) (hBw : B ≤ w.heap.size) :
  Calls Tryz.prog 42 #[.pointer (some ⟨b, 0, none⟩)] w fun e w' => e = .returned (.string ⟨l.toArray⟩) ∧ (Lib.IsBuilderF 58 5 B b (Lib.byteCells l) w' ∧ Below B w w' ∧ Lib.OthersKept 5 (some b) w w') := Any.Builder_String_any_k lays169 Builder_Extra_169 B b l w h hBw
theorem Builder_Grow_fresh_cap (B b n : Nat) (w : World) (hB : B ≤ b) (hbk : w.heap[b]? = some (.cells #[.pointer none, .slice none 0 0] 58 (0, 0))) (hBw : B ≤ w.heap.size) (hn : n ≤ 281474976710656) :
  Calls Tryz.prog 39 #[.pointer (some ⟨b, 0, none⟩), .int .i64 n] w fun e w' => e = .returned (.tuple #[]) ∧ (Lib.BuilderAt 58 5 B b (.pointer (some ⟨b, 0, none⟩)) [] w' ∧ Below B w w') ∧ ∃ p cap, w'.cell? ⟨b, 1, none⟩ = some (.slice p 0 cap) ∧ n ≤ cap := Any.Builder_Grow_fresh_cap lays165 Builder_Extra_165 B b n w hB hbk hBw hn
def laysM316_ren : Go.Shelf.Ren := ⟨fun | 316 => 57 | n => n, fun | 9 => 9 | 3 => 3 | 4 => 4 | 37 => 22 | 0 => 0 | 127 => 97 | 5 => 5 | n => n, fun | n => n⟩
theorem laysM316 : Go.Proofs.LaysM.n316 Tryz.prog laysM316_ren := {
 mixed := by kernel_rfl
 f316 := Tryz.func57.trans (congrArg some (by kernel_rfl))
 t0 := Tryz.underlying0
 a0 := Tryz.isAgg0
 z0 := Tryz.sizeOf0
 v0 := Tryz.zeroValue0
 t3 := Tryz.underlying3
 a3 := Tryz.isAgg3
 z3 := Tryz.sizeOf3
 v3 := Tryz.zeroValue3
 t4 := Tryz.underlying4
 a4 := Tryz.isAgg4
 z4 := Tryz.sizeOf4
 v4 := Tryz.zeroValue4
 t9 := Tryz.underlying9
 a9 := Tryz.isAgg9
 z9 := Tryz.sizeOf9
 v9 := Tryz.zeroValue9
 t37 := Tryz.underlying22
 a37 := Tryz.isAgg22
 z37 := Tryz.sizeOf22
 v37 := Tryz.zeroValue22
 t127 := Tryz.underlying97
 a127 := Tryz.isAgg97
 z127 := Tryz.sizeOf97
 v127 := Tryz.zeroValue97
 t5 := Tryz.underlying5
 a5 := Tryz.isAgg5
 z5 := Tryz.sizeOf5
 v5 := Tryz.zeroValue5
 i0 := by kernel_rfl
 i3 := by kernel_rfl
 i4 := by kernel_rfl
 i5 := by kernel_rfl
 i9 := by kernel_rfl
 i37 := by kernel_rfl
 i127 := by kernel_rfl }
theorem stringslite_Clone (s : ByteArray) (w : World) (hlim : s.size ≤ 281474976710656) :
  Calls Tryz.prog 57 #[.string s] w fun e w' => e = .returned (.string s) ∧ Below w.heap.size w w' := Any.stringslite_Clone laysM316 s w hlim
open Go.RowKit Go.Lib in
def lays212_ren : Go.Shelf.Ren := ⟨fun | 212 => 37 | 263 => 68 | 264 => 69 | n => n, fun | 46 => 52 | 51 => 46 | 146 => 93 | 53 => 73 | 148 => 95 | n => n, fun | n => n⟩
theorem lays212 : Go.Proofs.Lays.n212 Tryz.prog lays212_ren := {
 mixed := by kernel_rfl
 f212 := Tryz.func37.trans (congrArg some (by kernel_rfl))
 f263 := Tryz.func68.trans (congrArg some (by kernel_rfl))
 f264 := Tryz.func69.trans (congrArg some (by kernel_rfl))
 t46 := Tryz.underlying52
 a46 := Tryz.isAgg52
 z46 := Tryz.sizeOf52
 v46 := Tryz.zeroValue52
 t51 := Tryz.underlying46
 a51 := Tryz.isAgg46
 z51 := Tryz.sizeOf46
 v51 := Tryz.zeroValue46
 t53 := Tryz.underlying73
 a53 := Tryz.isAgg73
 z53 := Tryz.sizeOf73
 v53 := Tryz.zeroValue73
 t146 := Tryz.underlying93
 a146 := Tryz.isAgg93
 z146 := Tryz.sizeOf93
 v146 := Tryz.zeroValue93
 t148 := Tryz.underlying95
 a148 := Tryz.isAgg95
 z148 := Tryz.sizeOf95
 v148 := Tryz.zeroValue95 }
open Go.RowKit Go.Lib in
theorem bits_Mul (x y : Nat) (hx : x < 18446744073709551616) (hy : y < 18446744073709551616) (w : World) :
  Calls Tryz.prog 37 #[.int .u64 x, .int .u64 y] w fun e w' => e = .returned (.tuple #[.int .u64 ((x * y / 18446744073709551616 : Nat) : Int), .int .u64 ((x * y % 18446744073709551616 : Nat) : Int)]) ∧ w' = w := Any.bits_Mul lays212 x y hx hy w
end Go.Proofs.YtdbbcngolcnniaaGreatDoor
/- The iterator of package codec that tells numbers by letters: what it hands out, whatever hands it its letters. -/
namespace Go.Proofs.YtdbbcngolcnniaaGreatDoor
set_option linter.unusedSimpArgs false
open Go.RowKit Go.Shelf
set_option linter.unusedVariables false
attribute [local go_sem] Oper.semAt_some
def numAt (set : ByteArray) (c : Nat) : Nat := (Lib.indexByte set.data.toList (Nat.toUInt8 c)).toNat
set_option maxHeartbeats 1000000 in
theorem numbers_seq (set : ByteArray) (gf : Nat) (lb : Array Value) (ys : List Nat) (n0 n1 b1 b2 : Nat) (w0 : World) (hq : SeqOK Tryz.prog gf lb ys n1 w0) (hn1 : n1 ≤ n0) (hn : n0 ≤ w0.heap.size) (hb1 : b1 < n0) (hb2 : b2 < n0)
  (hc1 : w0.cell? ⟨b1, 0, none⟩ = some (.func (.func gf) #[] lb)) (hc2 : w0.cell? ⟨b2, 0, none⟩ = some (.string set))
  (eg : ∀ args w, (callFunc gf args).run Tryz.prog w = .ok (.enter gf args) w) (hys : ∀ y ∈ ys, y < 256) (hset : ∀ c, (Lib.indexByte set.data.toList c).toNat < 256) :
  SeqOK Tryz.prog 85 #[.pointer (some ⟨b1, 0, none⟩), .pointer (some ⟨b2, 0, none⟩)] (ys.map (numAt set)) n0 w0 := by
 refine ⟨hn, ?_⟩
 intro m l J Jx S W hW hJ hJx hS hY h0
 have hs1 := hW.size
 have d1 : W.cell? ⟨b1, 0, none⟩ = some (.func (.func gf) #[] lb) := (hW.cell (p := ⟨b1, 0, none⟩) hb1).trans hc1
 have d2 : W.cell? ⟨b2, 0, none⟩ = some (.string set) := (hW.cell (p := ⟨b2, 0, none⟩) hb2).trans hc2
 refine callsIn_of_wp_marks Tryz.func85 rfl trivial ?_ rfl
 simp only [Tryz.ntmps85, List.size_toArray, List.length_cons, List.length_nil, Nat.reduceAdd, Nat.reduceSub, Array.replicate_succ, Array.replicate_zero, List.push_toArray, List.append_toArray, List.nil_append, List.cons_append]
 have hd : Fence.wide.depth = none := rfl
 clear hc1 hc2
 have dd1 : (W.alloc (.cells #[.func (.yield l) #[] #[]] 81)).cell? ⟨b1, 0, none⟩ = some (.func (.func gf) #[] lb) := ((Below.refl n0 W).alloc (by omega) _).cell (p := ⟨b1, 0, none⟩) hb1 |>.trans d1
 gi_wp2
 have hE1 : Ext S S W (W.alloc (.cells #[.func (.yield l) #[] #[]] 81)) := Ext.of_below S ((Below.refl _ W).alloc (Nat.le_refl _) _)
 refine wpIn_rangeFunc_set (gf := gf) (lb := lb) rfl eg (hq.up hn1 hn) ((hW.alloc (by omega) _)) rfl
  (fun pre S2 W2 => J (pre.map (numAt set)) S2 W2) (fun c pre S2 W2 => c = .ret ∧ Jx (pre.map (numAt set)) S2 W2)
  ⟨fun x => hJ.same (x.map (numAt set)), fun x => hJ.lt (x.map (numAt set))⟩
  (fun c => ⟨fun x S W W2 h hs hk => ⟨h.1, hJx.same _ S W W2 h.2 hs hk⟩, fun x S W h => hJx.lt _ S W h.2⟩) S hS (hJ.alloc _ h0)
  (fun x => { tmps := #[.func (.yield l) #[] #[], .pointer (some ⟨b1, 0, none⟩), .pointer (some ⟨b2, 0, none⟩), .pointer (some ⟨W.heap.size, 0, none⟩), .int .u8 (x : Int), .func (.func gf) #[] lb, .int .u8 (x : Int), undef, undef, undef, undef, undef, undef, undef, undef], defers := [] }) ?assign ?body ?done ?stop
 case assign =>
  intro l x W K hK
  gi_wp2
  exact hK
 case body =>
  intro lr pre x S2 W2 hE hJ2 hpre
  have hx : x < 256 := hys x (by obtain ⟨t, rfl⟩ := hpre; simp)
  have e1 : W2.cell? ⟨W.heap.size, 0, none⟩ = some (.func (.yield l) #[] #[]) := (hE.cellb (by simp) (fun h => by have := hJ.lt _ _ _ h0 _ h; omega)).trans (Boxed.new W 81 _).cell
  have e2 : W2.cell? ⟨b2, 0, none⟩ = some (.string set) := by
   refine (hE.cellb (by simp; omega) (fun h => by have := hS _ h; omega)).trans ?_
   exact (World.cell?_of_block (w := W) (a := ⟨b2, 0, none⟩) (Below.heap_alloc W _ b2 (by omega))).trans d2
  have hyy := hY (pre.map (numAt set)) (numAt set x) S2 W2.drew (hE1.trans hE).drew (hJ.drew hJ2) (by have := prefix_map (numAt set) hpre; simpa using this)
  have HY := Lib.hid hyy
  clear hyy hY hys
  gi_wp2
  refine wpIn_region_any (by kernel_rfl) ?_
  change wpAnyIn _ _ _ _ _ _ _ _ _ (World.drew _)
  refine anyIn_unround lr rfl (by kernel_rfl) _ _ _ _ ?_
  refine anyIn_of_G (T := fun i => i < 3 || i == 4 || i == 5 || i == 7) (S := fun i w => i < 3 → w.cell? ⟨W.heap.size, 0, none⟩ = some (.func (.yield l) #[] #[]) ∧ w.cell? ⟨b2, 0, none⟩ = some (.string set)) _ _ _ _ ?_
  have HS : ∀ i : Nat, i < 3 → W2.drew.cell? ⟨W.heap.size, 0, none⟩ = some (.func (.yield l) #[] #[]) ∧ W2.drew.cell? ⟨b2, 0, none⟩ = some (.string set) := fun _ _ => ⟨e1, e2⟩
  have HSH := Lib.hid HS
  clear HS
  refine AnyG.take 0 (some 7) (.load 81 (.tmp 3)) (.func (.yield l) #[] #[]) rfl rfl (fun _ e => by cases e) (by kernel_rfl) (by kernel_rfl) (by kernel_rfl) (by kernel_rfl) rfl (fun _ _ _ h => h) (fun o ho w hw => by obtain ⟨q1, q2⟩ := hw (by decide); unfold execOp; rw [ho]; go_simp) (HSH.out 0) ?_
  simp only [Act.put, sT, sS, sZ]
  refine AnyG.take 1 (some 8) (.load 9 (.tmp 2)) (.string set) rfl rfl (fun _ e => by cases e) (by kernel_rfl) (by kernel_rfl) (by kernel_rfl) (by kernel_rfl) rfl (fun _ _ _ h => h) (fun o ho w hw => by obtain ⟨q1, q2⟩ := hw (by decide); unfold execOp; rw [ho]; go_simp) (HSH.out 1) ?_
  simp only [Act.put, sT, sS, sZ]
  refine AnyG.take 2 (some 9) (.move (.tmp 4)) (.int .u8 (x : Int)) rfl rfl (fun _ e => by cases e) (by kernel_rfl) (by kernel_rfl) (by kernel_rfl) (by kernel_rfl) rfl (fun _ _ _ h => h) (fun o ho w hw => by obtain ⟨q1, q2⟩ := hw (by decide); unfold execOp; rw [ho]; go_simp) (HSH.out 2) ?_
  simp only [Act.put, sT, sS, sZ]
  obtain ⟨p, hp⟩ : ∃ p, p = Lib.indexByte set.data.toList (Nat.toUInt8 x) := ⟨_, rfl⟩
  have hpn : (numAt set x : Int) = max 0 p := by rw [numAt, ← hp]; omega
  have hp2 : numAt set x < 256 := by rw [numAt]; exact hset _
  have hp3 : p ≤ 255 := by omega
  have HC : CallsIn Fence.wide (m - 1) Tryz.prog 86 #[.string set, .int .u8 (x : Int)] W2.drew fun e w2 => e = .returned (.int .i64 p) ∧ w2 = W2.drew := by
   refine callsIn_wide.2 ?_
   have := strings_IndexByte set (x : Int) W2.drew
   rw [hp]
   simpa using this
  refine AnyG.ready (rs := [3]) (by kernel_rfl) (by simp) (ReadyG.call (some 10) 86 #[.tmp 8, .tmp 9] #[9, 5] rfl rfl rfl (fun _ => trivial) #[.string set, .int .u8 (x : Int)] (by simp [Act.eval]) (enters_of Tryz.func86 (by kernel_rfl) rfl) _ HC rfl ?_ (fun c w' h => by cases h.1) (fun w' h => by cases h.1) ReadyG.nil)
  rintro v W3 ⟨he, rfl⟩
  refine ⟨fun i _ _ _ => HSH.out i, ?_⟩
  obtain rfl : v = .int .i64 p := by injection he
  simp only [Act.put, sT, sS, sZ]
  refine AnyG.takeB 4 (some 11) { callee := .builtin .max, args := #[.const (.int .i64 0), .tmp 10], argTypes := #[3, 3] } (.int .i64 (numAt set x : Int)) rfl rfl (by kernel_rfl) (by kernel_rfl) (by kernel_rfl) (by kernel_rfl) rfl (fun _ _ _ h => h) (fun o ho w => by unfold Oper.about; simp [ho, resolve, Target.leads]) (fun o ho w hw => by unfold execOp; rw [ho, hpn]; go_simp) (fun h => by omega) ?_
  simp only [Act.put, sT, sS, sZ]
  have hwr : IntKind.u8.wrap ((numAt set x : Nat) : Int) = (numAt set x : Int) := by rw [IntKind.wrap_u8]; omega
  obtain ⟨z, hz⟩ : ∃ z, z = numAt set x := ⟨_, rfl⟩
  rw [← hz] at hwr ⊢
  have HZ := Lib.hid hz
  clear hz hpn hp hp2 hp3
  refine AnyG.take 5 (some 12) (.convert 3 5 (.tmp 11)) (.int .u8 (z : Int)) rfl rfl (fun _ e => by cases e) (by kernel_rfl) (by kernel_rfl) (by kernel_rfl) (by kernel_rfl) rfl (fun _ _ _ h => h) (fun o ho w hw => by unfold execOp; rw [ho]; go_simp) (fun h => by omega) ?_
  simp only [Act.put, sT, sS, sZ]
  have HY2 := HY.out
  rw [← HZ.out] at HY2
  refine AnyG.ready (rs := [6]) (by kernel_rfl) (by simp) (ReadyG.yield (some 13) (.tmp 7) #[.tmp 12] #[5] rfl rfl rfl l rfl #[.int .u8 (z : Int)] (by simp [Act.eval]) _ HY2 rfl ?_ (fun c w' h => by obtain ⟨_, _, ⟨h, -⟩ | ⟨h, -⟩⟩ := h <;> cases h) (fun w' h => by obtain ⟨_, _, ⟨h, -⟩ | ⟨h, -⟩⟩ := h <;> cases h) ReadyG.nil)
  rintro v W3 ⟨S3, hE3, hv3⟩
  refine ⟨tight_of (f := 3) ?_, ?_⟩
  ·kernel_rfl
  have hE4 := Lib.hid hE3.undrew
  rcases hv3 with ⟨he, hJ3⟩ | ⟨he, hJx3⟩
  ·obtain rfl : v = .bool true := by injection he
   simp only [Act.put, sT, sS, sZ]
   refine AnyG.take 7 (some 14) (.unOp .not 4 (.tmp 13)) (.bool false) rfl rfl (fun _ e => by cases e) (by kernel_rfl) (by kernel_rfl) (by kernel_rfl) (by kernel_rfl) rfl (fun _ _ _ h => h) (fun o ho w hw => by unfold execOp; rw [ho]; go_simp) (fun h => by omega) ?_
   simp only [Act.put, sT, sS, sZ]
   refine AnyG.done (by kernel_rfl) ?_ _
   rw [HZ.out] at hJ3
   have HJ3 := Lib.hid hJ3
   clear hJ3 he
   gi_wp2
   exact ⟨S3, hE4.out, by simpa using HJ3.out⟩
  ·obtain rfl : v = .bool false := by injection he
   simp only [Act.put, sT, sS, sZ]
   refine AnyG.take 7 (some 14) (.unOp .not 4 (.tmp 13)) (.bool true) rfl rfl (fun _ e => by cases e) (by kernel_rfl) (by kernel_rfl) (by kernel_rfl) (by kernel_rfl) rfl (fun _ _ _ h => h) (fun o ho w hw => by unfold execOp; rw [ho]; go_simp) (fun h => by omega) ?_
   simp only [Act.put, sT, sS, sZ]
   refine AnyG.done (by kernel_rfl) ?_ _
   rw [HZ.out] at hJx3
   have HJ3 := Lib.hid hJx3
   clear hJx3 he
   gi_wp2
   exact ⟨S3, hE4.out, rfl, by simpa using HJ3.out⟩
 case done =>
  rintro D S2 W2 hD hnD hE hJ2 hK
  have HE := Lib.hid ((hE1.trans hE).late (D := D) (by simp at hD; omega) (.deferred none))
  have HJ := Lib.hid (hJ.put D (.deferred none) hnD hJ2)
  clear hY hE1 hE hJ2
  gi_wp2
  refine ⟨by simp, .inl ⟨_, _, rfl, run_takeDeferred hK, ?_⟩⟩
  exact ⟨_, results_none rfl _ _ _, ⟨_, rfl⟩, S2, HE.out, .inl HJ.out⟩
 case stop =>
  rintro D c pre S2 W2 hD hnD hE hpre ⟨rfl, hJ2⟩ hK
  have HE := Lib.hid ((hE1.trans hE).late (D := D) (by simp at hD; omega) (.deferred none))
  have HJ := Lib.hid (hJx.put D (.deferred none) hnD hJ2)
  have HP := Lib.hid (prefix_map (numAt set) hpre)
  clear hY hE1 hE hJ2 hpre
  gi_wp2
  refine ⟨by simp, .inl ⟨_, _, rfl, run_takeDeferred hK, ?_⟩⟩
  exact ⟨_, results_none rfl _ _ _, ⟨_, rfl⟩, S2, HE.out, .inr ⟨_, HP.out, HJ.out⟩⟩
end Go.Proofs.YtdbbcngolcnniaaGreatDoor
/- Single operations of package codec's iterators: what each yields. -/
namespace Go.Proofs.YtdbbcngolcnniaaGreatDoor
set_option linter.unusedSimpArgs false
open Go.RowKit Go.Shelf
set_option linter.unusedVariables false
theorem exec_shl49 {ρ : Operand → Value} {o : Oper} (x y : Operand) (ho : o.op = .binOp .shl 52 x y 3) (a n : Nat) (hx : ρ x = .int .u64 (a : Int)) (hy : ρ y = .int .i64 (n : Int)) (hn : n ≤ 64) (w : World) : (execOp ρ o).run Tryz.prog w = .ok (.value (.int .u64 ((a * 2 ^ n % 18446744073709551616 : Nat) : Int))) w := by
 unfold execOp; rw [ho]; go_simp
 rw [IntKind.wrap_u64]
theorem exec_shr49 {ρ : Operand → Value} {o : Oper} (x y : Operand) (ho : o.op = .binOp .shr 52 x y 3) (a n : Nat) (hx : ρ x = .int .u64 (a : Int)) (hy : ρ y = .int .i64 (n : Int)) (hn : n ≤ 64) (w : World) : (execOp ρ o).run Tryz.prog w = .ok (.value (.int .u64 ((a / 2 ^ n : Nat) : Int))) w := by
 unfold execOp; rw [ho]; go_simp
theorem exec_or49 {ρ : Operand → Value} {o : Oper} (x y : Operand) (ho : o.op = .binOp .or 52 x y 52) (a b : Nat) (hx : ρ x = .int .u64 (a : Int)) (hy : ρ y = .int .u64 (b : Int)) (ha : a < 18446744073709551616) (hb : b < 18446744073709551616) (w : World) : (execOp ρ o).run Tryz.prog w = .ok (.value (.int .u64 ((a ||| b : Nat) : Int))) w := by
 unfold execOp; rw [ho]; go_simp
 exact u64_or_nat a b ha hb
theorem exec_and49 {ρ : Operand → Value} {o : Oper} (x y : Operand) (ho : o.op = .binOp .and 52 x y 52) (a b : Nat) (hx : ρ x = .int .u64 (a : Int)) (hy : ρ y = .int .u64 (b : Int)) (ha : a < 18446744073709551616) (hb : b < 18446744073709551616) (w : World) : (execOp ρ o).run Tryz.prog w = .ok (.value (.int .u64 ((a &&& b : Nat) : Int))) w := by
 unfold execOp; rw [ho]; go_simp
 exact u64_and_nat a b ha hb
theorem exec_conv59 {ρ : Operand → Value} {o : Oper} (x : Operand) (ho : o.op = .convert 5 52 x) (a : Nat) (hx : ρ x = .int .u8 (a : Int)) (ha : a < 18446744073709551616) (w : World) : (execOp ρ o).run Tryz.prog w = .ok (.value (.int .u64 (a : Int))) w := by
 unfold execOp; rw [ho]; go_simp
 rw [IntKind.wrap_u64]; omega
theorem exec_conv495 {ρ : Operand → Value} {o : Oper} (x : Operand) (ho : o.op = .convert 52 5 x) (a : Nat) (hx : ρ x = .int .u64 (a : Int)) (w : World) : (execOp ρ o).run Tryz.prog w = .ok (.value (.int .u8 ((a % 256 : Nat) : Int))) w := by
 unfold execOp; rw [ho]; go_simp
 rw [IntKind.wrap_u8]
theorem exec_add3 {ρ : Operand → Value} {o : Oper} (x y : Operand) (ho : o.op = .binOp .add 3 x y 3) (a b : Nat) (hx : ρ x = .int .i64 (a : Int)) (hy : ρ y = .int .i64 (b : Int)) (hn : a + b < 9223372036854775808) (w : World) : (execOp ρ o).run Tryz.prog w = .ok (.value (.int .i64 ((a + b : Nat) : Int))) w := by
 unfold execOp; rw [ho]; go_simp
 rw [IntKind.wrap_i64]; omega
theorem exec_sub3 {ρ : Operand → Value} {o : Oper} (x y : Operand) (ho : o.op = .binOp .sub 3 x y 3) (a b : Nat) (hx : ρ x = .int .i64 (a : Int)) (hy : ρ y = .int .i64 (b : Int)) (hn : b ≤ a) (h2 : a < 9223372036854775808) (w : World) : (execOp ρ o).run Tryz.prog w = .ok (.value (.int .i64 ((a - b : Nat) : Int))) w := by
 unfold execOp; rw [ho]; go_simp
 rw [IntKind.wrap_i64]; omega
theorem exec_loadB {ρ : Operand → Value} {o : Oper} {t : TypeId} (x : Operand) (ho : o.op = .load t x) (b : Nat) (v : Value) (hx : ρ x = .pointer (some ⟨b, 0, none⟩)) (w : World) (hc : w.cell? ⟨b, 0, none⟩ = some v) (h1 : v.oneCell' = true) (ht : t = 3 ∨ t = 52 ∨ t = 81) : (execOp ρ o).run Tryz.prog w = .ok (.value v) w := by
 unfold execOp
 rw [ho]
 rcases ht with rfl | rfl | rfl <;> go_simp
end Go.Proofs.YtdbbcngolcnniaaGreatDoor
