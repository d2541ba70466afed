/- Several texts, one behind the other; each says by itself what it proves, and on what conditions. -/
import Derived.Test.YtdbbcngolcnniaaDoorY09
import Derived.Shelf.Strings.Builder1
import Derived.Shelf.Strings.Builder2
import Derived.Shelf.Small.Strs
import Derived.Shelf.Strings.BuilderF
import Derived.Shelf.Strings.BuilderK
import Derived.Shelf.Strings.Builder2Cap
import Derived.Shelf.LaysM
import Derived.Shelf.Strconv.Clone
import Derived.Shelf.Strings.Search1
import Derived.Shelf.Strings.BuilderCap
import Derived.Test.YtdbbcngolcnniaaDoorProg
import Derived.Laws.BitsAllLaws
/- The iterators of package codec that tell letters by numbers, and numbers by letters: what they hand out, whatever hands them theirs. -/
namespace Go.Proofs.YtdbbcngolcnniaaDoor
set_option linter.unusedSimpArgs false
open Go.RowKit Go.Shelf
set_option linter.unusedVariables false
attribute [local go_sem] Oper.semAt_some
theorem Ext.late {S T : Nat → Prop} {A B : World} (h : Ext S T A B) {D : Nat} (hD : A.heap.size ≤ D) (o : Obj) : Ext S T A (B.putObj D o) := by
 have h3 := grownBy_putObj' B D o
 exact ⟨h3.os.trans h.os, h3.tape.trans h.tape, h3.output.trans h.output, by have := h.size; simp; omega, h.new, fun k hk hs => (World.putObj_heap_other (by omega)).trans (h.keep k hk hs)⟩
theorem prefix_map {l m : List Nat} (f : Nat → Nat) (h : l <+: m) : l.map f <+: m.map f := by
 obtain ⟨t, rfl⟩ := h
 exact ⟨t.map f, by simp⟩
theorem Ext.cellb {S T : Nat → Prop} {A B : World} (h : Ext S T A B) {b o : Nat} (hp : b < A.heap.size) (hs : ¬ S b) : B.cell? ⟨b, o, none⟩ = A.cell? ⟨b, o, none⟩ := h.cell (p := ⟨b, o, none⟩) hp hs
def setAt (set : ByteArray) (y : Nat) : Nat := (natsOf set).getD y 0
set_option maxHeartbeats 1000000 in
theorem letters_seq (set : ByteArray) (gf : Nat) (lb : Array Value) (ys : List Nat) (n0 n1 b1 b2 : Nat) (w0 : World) (hq : SeqOK Tryd.prog gf lb ys n1 w0) (hn1 : n1 ≤ n0) (hn : n0 ≤ w0.heap.size) (hb1 : b1 < n0) (hb2 : b2 < n0)
  (hc1 : w0.cell? ⟨b1, 0, none⟩ = some (.func (.func gf) #[] lb)) (hc2 : w0.cell? ⟨b2, 0, none⟩ = some (.string set))
  (eg : ∀ args w, (callFunc gf args).run Tryd.prog w = .ok (.enter gf args) w) (hys : ∀ y ∈ ys, y < set.size) :
  SeqOK Tryd.prog 68 #[.pointer (some ⟨b1, 0, none⟩), .pointer (some ⟨b2, 0, none⟩)] (ys.map (setAt set)) n0 w0 := by
 refine ⟨hn, ?_⟩
 intro m l J Jx S W hW hJ hJx hS hY h0
 have hs1 := hW.size
 have d1 : W.cell? ⟨b1, 0, none⟩ = some (.func (.func gf) #[] lb) := (hW.cell (p := ⟨b1, 0, none⟩) hb1).trans hc1
 have d2 : W.cell? ⟨b2, 0, none⟩ = some (.string set) := (hW.cell (p := ⟨b2, 0, none⟩) hb2).trans hc2
 refine callsIn_of_wp_marks Tryd.func68 rfl trivial ?_ rfl
 simp only [Tryd.ntmps68, List.size_toArray, List.length_cons, List.length_nil, Nat.reduceAdd, Nat.reduceSub, Array.replicate_succ, Array.replicate_zero, List.push_toArray, List.append_toArray, List.nil_append, List.cons_append]
 have hd : Fence.wide.depth = none := rfl
 clear hc1 hc2
 have dd1 : (W.alloc (.cells #[.func (.yield l) #[] #[]] 57)).cell? ⟨b1, 0, none⟩ = some (.func (.func gf) #[] lb) := ((Below.refl n0 W).alloc (by omega) _).cell (p := ⟨b1, 0, none⟩) hb1 |>.trans d1
 gi_wp2
 have hE1 : Ext S S W (W.alloc (.cells #[.func (.yield l) #[] #[]] 57)) := Ext.of_below S ((Below.refl _ W).alloc (Nat.le_refl _) _)
 refine wpIn_rangeFunc_set (gf := gf) (lb := lb) rfl eg (hq.up hn1 hn) ((hW.alloc (by omega) _)) rfl
  (fun pre S2 W2 => J (pre.map (setAt set)) S2 W2) (fun c pre S2 W2 => c = .ret ∧ Jx (pre.map (setAt set)) S2 W2)
  ⟨fun x => hJ.same (x.map (setAt set)), fun x => hJ.lt (x.map (setAt set))⟩
  (fun c => ⟨fun x S W W2 h hs hk => ⟨h.1, hJx.same _ S W W2 h.2 hs hk⟩, fun x S W h => hJx.lt _ S W h.2⟩) S hS (hJ.alloc _ h0)
  (fun x => { tmps := #[.func (.yield l) #[] #[], .pointer (some ⟨b1, 0, none⟩), .pointer (some ⟨b2, 0, none⟩), .pointer (some ⟨W.heap.size, 0, none⟩), .int .u8 (x : Int), .func (.func gf) #[] lb, .int .u8 (x : Int), undef, undef, undef, undef, undef, undef], defers := [] }) ?assign ?body ?done ?stop
 case assign =>
  intro l x W K hK
  gi_wp2
  exact hK
 case body =>
  intro lr pre x S2 W2 hE hJ2 hpre
  have hx : x < set.size := hys x (by obtain ⟨t, rfl⟩ := hpre; simp)
  have e1 : W2.cell? ⟨W.heap.size, 0, none⟩ = some (.func (.yield l) #[] #[]) := (hE.cellb (by simp) (fun h => by have := hJ.lt _ _ _ h0 _ h; omega)).trans (Boxed.new W 57 _).cell
  have e2 : W2.cell? ⟨b2, 0, none⟩ = some (.string set) := by
   refine (hE.cellb (by simp; omega) (fun h => by have := hS _ h; omega)).trans ?_
   exact (World.cell?_of_block (w := W) (a := ⟨b2, 0, none⟩) (Below.heap_alloc W _ b2 (by omega))).trans d2
  have hyy := hY (pre.map (setAt set)) (setAt set x) S2 W2.drew (hE1.trans hE).drew (hJ.drew hJ2) (by have := prefix_map (setAt set) hpre; simpa using this)
  have hv : setAt set x = set[x].toNat := by rw [setAt, List.getD_eq_getElem?_getD, List.getElem?_eq_getElem (by rw [natsOf_length]; exact hx), Option.getD_some, natsOf_get set x hx]
  have HY := Lib.hid hyy
  have HV := Lib.hid hv
  clear hyy hv hY hys
  gi_wp2
  refine wpIn_region_any (by kernel_rfl) ?_
  change wpAnyIn _ _ _ _ _ _ _ _ _ (World.drew _)
  refine anyIn_unround lr rfl (by kernel_rfl) _ _ _ _ ?_
  refine anyIn_of_G (T := fun i => i < 4 || i == 5) (S := fun i w => i < 4 → w.cell? ⟨W.heap.size, 0, none⟩ = some (.func (.yield l) #[] #[]) ∧ w.cell? ⟨b2, 0, none⟩ = some (.string set)) _ _ _ _ ?_
  have HS : ∀ i : Nat, i < 4 → W2.drew.cell? ⟨W.heap.size, 0, none⟩ = some (.func (.yield l) #[] #[]) ∧ W2.drew.cell? ⟨b2, 0, none⟩ = some (.string set) := fun _ _ => ⟨e1, e2⟩
  have HSH := Lib.hid HS
  clear HS
  refine AnyG.take 0 (some 7) (.load 57 (.tmp 3)) (.func (.yield l) #[] #[]) rfl rfl (fun _ e => by cases e) (by kernel_rfl) (by kernel_rfl) (by kernel_rfl) (by kernel_rfl) rfl (fun _ _ _ h => h) (fun o ho w hw => by obtain ⟨q1, q2⟩ := hw (by decide); unfold execOp; rw [ho]; go_simp) (HSH.out 0) ?_
  simp only [Act.put, sT, sS, sZ]
  refine AnyG.take 1 (some 8) (.load 9 (.tmp 2)) (.string set) rfl rfl (fun _ e => by cases e) (by kernel_rfl) (by kernel_rfl) (by kernel_rfl) (by kernel_rfl) rfl (fun _ _ _ h => h) (fun o ho w hw => by obtain ⟨q1, q2⟩ := hw (by decide); unfold execOp; rw [ho]; go_simp) (HSH.out 1) ?_
  simp only [Act.put, sT, sS, sZ]
  refine AnyG.take 2 (some 9) (.move (.tmp 4)) (.int .u8 (x : Int)) rfl rfl (fun _ e => by cases e) (by kernel_rfl) (by kernel_rfl) (by kernel_rfl) (by kernel_rfl) rfl (fun _ _ _ h => h) (fun o ho w hw => by obtain ⟨q1, q2⟩ := hw (by decide); unfold execOp; rw [ho]; go_simp) (HSH.out 2) ?_
  simp only [Act.put, sT, sS, sZ]
  refine AnyG.take 3 (some 10) (.index 9 (.tmp 8) (.tmp 9)) (.int .u8 (set[x].toNat : Int)) rfl rfl (fun _ e => by cases e) (by kernel_rfl) (by kernel_rfl) (by kernel_rfl) (by kernel_rfl) rfl (fun _ _ _ h => h) (fun o ho w hw => by obtain ⟨q1, q2⟩ := hw (by decide); unfold execOp; rw [ho]; go_simp) (HSH.out 3) ?_
  simp only [Act.put, sT, sS, sZ]
  have HY2 := HY.out
  rw [HV.out] at HY2
  refine AnyG.ready (rs := [4]) (by kernel_rfl) (by simp) (ReadyG.yield (some 11) (.tmp 7) #[.tmp 10] #[5] rfl rfl rfl l rfl #[.int .u8 (set[x].toNat : Int)] (by simp [Act.eval]) _ HY2 rfl ?_ (fun c w' h => by obtain ⟨_, _, ⟨h, -⟩ | ⟨h, -⟩⟩ := h <;> cases h) (fun w' h => by obtain ⟨_, _, ⟨h, -⟩ | ⟨h, -⟩⟩ := h <;> cases h) ReadyG.nil)
  rintro v W3 ⟨S3, hE3, hv3⟩
  refine ⟨tight_of (f := 4) ?_, ?_⟩
  ·kernel_rfl
  have hE4 := Lib.hid hE3.undrew
  rcases hv3 with ⟨he, hJ3⟩ | ⟨he, hJx3⟩
  ·obtain rfl : v = .bool true := by injection he
   simp only [Act.put, sT, sS, sZ]
   refine AnyG.take 5 (some 12) (.unOp .not 4 (.tmp 11)) (.bool false) rfl rfl (fun _ e => by cases e) (by kernel_rfl) (by kernel_rfl) (by kernel_rfl) (by kernel_rfl) rfl (fun _ _ _ h => h) (fun o ho w hw => by unfold execOp; rw [ho]; go_simp) (fun h => by omega) ?_
   simp only [Act.put, sT, sS, sZ]
   refine AnyG.done (by kernel_rfl) ?_ _
   have HJ3 := Lib.hid hJ3
   clear hJ3 he
   gi_wp2
   refine ⟨S3, hE4.out, ?_⟩
   rw [HV.out.symm] at HJ3
   simpa using HJ3.out
  ·obtain rfl : v = .bool false := by injection he
   simp only [Act.put, sT, sS, sZ]
   refine AnyG.take 5 (some 12) (.unOp .not 4 (.tmp 11)) (.bool true) rfl rfl (fun _ e => by cases e) (by kernel_rfl) (by kernel_rfl) (by kernel_rfl) (by kernel_rfl) rfl (fun _ _ _ h => h) (fun o ho w hw => by unfold execOp; rw [ho]; go_simp) (fun h => by omega) ?_
   simp only [Act.put, sT, sS, sZ]
   refine AnyG.done (by kernel_rfl) ?_ _
   have HJ3 := Lib.hid hJx3
   clear hJx3 he
   gi_wp2
   rw [HV.out.symm] at HJ3
   exact ⟨S3, hE4.out, rfl, by simpa using HJ3.out⟩
 case done =>
  rintro D S2 W2 hD hnD hE hJ2 hK
  have HE := Lib.hid ((hE1.trans hE).late (D := D) (by simp at hD; omega) (.deferred none))
  have HJ := Lib.hid (hJ.put D (.deferred none) hnD hJ2)
  clear hY hE1 hE hJ2
  gi_wp2
  refine ⟨by simp, .inl ⟨_, _, rfl, run_takeDeferred hK, ?_⟩⟩
  exact ⟨_, results_none rfl _ _ _, ⟨_, rfl⟩, S2, HE.out, .inl HJ.out⟩
 case stop =>
  rintro D c pre S2 W2 hD hnD hE hpre ⟨rfl, hJ2⟩ hK
  have HE := Lib.hid ((hE1.trans hE).late (D := D) (by simp at hD; omega) (.deferred none))
  have HJ := Lib.hid (hJx.put D (.deferred none) hnD hJ2)
  have HP := Lib.hid (prefix_map (setAt set) hpre)
  clear hY hE1 hE hJ2 hpre
  gi_wp2
  refine ⟨by simp, .inl ⟨_, _, rfl, run_takeDeferred hK, ?_⟩⟩
  exact ⟨_, results_none rfl _ _ _, ⟨_, rfl⟩, S2, HE.out, .inr ⟨_, HP.out, HJ.out⟩⟩
end Go.Proofs.YtdbbcngolcnniaaDoor
/- What the library's functions hand back that package codec calls: its Builder, IndexByte, Repeat, TrimRight. -/
namespace Go.Proofs.YtdbbcngolcnniaaDoor
set_option linter.unusedSimpArgs false
set_option linter.unusedVariables false
open Go.RowKit
open Go.Shelf
def lays169_ren : Go.Shelf.Ren := ⟨fun | 169 => 33 | n => n, fun | 70 => 48 | 9 => 9 | 0 => 0 | 72 => 50 | 37 => 41 | 127 => 87 | 3 => 3 | 5 => 5 | n => n, fun | n => n⟩
theorem lays169 : Go.Proofs.Lays.n169 Tryd.prog lays169_ren := {
 mixed := by kernel_rfl
 f169 := Tryd.func33.trans (congrArg some (by kernel_rfl))
 t0 := Tryd.underlying0
 a0 := Tryd.isAgg0
 z0 := Tryd.sizeOf0
 v0 := Tryd.zeroValue0
 t3 := Tryd.underlying3
 a3 := Tryd.isAgg3
 z3 := Tryd.sizeOf3
 v3 := Tryd.zeroValue3
 t9 := Tryd.underlying9
 a9 := Tryd.isAgg9
 z9 := Tryd.sizeOf9
 v9 := Tryd.zeroValue9
 t37 := Tryd.underlying41
 a37 := Tryd.isAgg41
 z37 := Tryd.sizeOf41
 v37 := Tryd.zeroValue41
 t70 := Tryd.underlying48
 a70 := Tryd.isAgg48
 z70 := Tryd.sizeOf48
 v70 := Tryd.zeroValue48
 t72 := Tryd.underlying50
 a72 := Tryd.isAgg50
 z72 := Tryd.sizeOf50
 v72 := Tryd.zeroValue50
 t127 := Tryd.underlying87
 a127 := Tryd.isAgg87
 z127 := Tryd.sizeOf87
 v127 := Tryd.zeroValue87 }
theorem Builder_Extra_169 : Builder.Extra Tryd.prog lays169_ren := {
 sizeBuilder := by kernel_rfl
 liesBuilder := by kernel_rfl
 t5 := Tryd.underlying5
 a5 := Tryd.isAgg5
 z5 := Tryd.sizeOf5
 v5 := Tryd.zeroValue5
 infoByte := by kernel_rfl
 cellsByte := by kernel_rfl
 sizeByte := by kernel_rfl
 neB5 := by decide }
def lays165_ren : Go.Shelf.Ren := ⟨fun | 165 => 65 | 240 => 58 | 241 => 82 | 276 => 77 | 277 => 87 | n => n, fun | 70 => 48 | 3 => 3 | 0 => 0 | 4 => 4 | 9 => 9 | 20 => 20 | 72 => 50 | 37 => 41 | 164 => 99 | 5 => 5 | n => n, fun | n => n⟩
theorem lays165 : Go.Proofs.Lays.n165 Tryd.prog lays165_ren := {
 mixed := by kernel_rfl
 f165 := Tryd.func65.trans (congrArg some (by kernel_rfl))
 f240 := Tryd.func58.trans (congrArg some (by kernel_rfl))
 f241 := Tryd.func82.trans (congrArg some (by kernel_rfl))
 f276 := Tryd.func77.trans (congrArg some (by kernel_rfl))
 f277 := Tryd.func87.trans (congrArg some (by kernel_rfl))
 t0 := Tryd.underlying0
 a0 := Tryd.isAgg0
 z0 := Tryd.sizeOf0
 v0 := Tryd.zeroValue0
 t3 := Tryd.underlying3
 a3 := Tryd.isAgg3
 z3 := Tryd.sizeOf3
 v3 := Tryd.zeroValue3
 t4 := Tryd.underlying4
 a4 := Tryd.isAgg4
 z4 := Tryd.sizeOf4
 v4 := Tryd.zeroValue4
 t9 := Tryd.underlying9
 a9 := Tryd.isAgg9
 z9 := Tryd.sizeOf9
 v9 := Tryd.zeroValue9
 t20 := Tryd.underlying20
 a20 := Tryd.isAgg20
 z20 := Tryd.sizeOf20
 v20 := Tryd.zeroValue20
 t37 := Tryd.underlying41
 a37 := Tryd.isAgg41
 z37 := Tryd.sizeOf41
 v37 := Tryd.zeroValue41
 t70 := Tryd.underlying48
 a70 := Tryd.isAgg48
 z70 := Tryd.sizeOf48
 v70 := Tryd.zeroValue48
 t72 := Tryd.underlying50
 a72 := Tryd.isAgg50
 z72 := Tryd.sizeOf50
 v72 := Tryd.zeroValue50
 t164 := Tryd.underlying99
 a164 := Tryd.isAgg99
 z164 := Tryd.sizeOf99
 v164 := Tryd.zeroValue99 }
theorem Builder_Extra_165 : Builder.Extra Tryd.prog lays165_ren := {
 sizeBuilder := by kernel_rfl
 liesBuilder := by kernel_rfl
 t5 := Tryd.underlying5
 a5 := Tryd.isAgg5
 z5 := Tryd.sizeOf5
 v5 := Tryd.zeroValue5
 infoByte := by kernel_rfl
 cellsByte := by kernel_rfl
 sizeByte := by kernel_rfl
 neB5 := by decide }
def lays137_ren : Go.Shelf.Ren := ⟨fun | 137 => 79 | 217 => 83 | 266 => 88 | n => n, fun | 9 => 9 | 5 => 5 | 3 => 3 | n => n, fun | n => n⟩
theorem lays137 : Go.Proofs.Lays.n137 Tryd.prog lays137_ren := {
 mixed := by kernel_rfl
 f137 := Tryd.func79.trans (congrArg some (by kernel_rfl))
 f217 := Tryd.func83.trans (congrArg some (by kernel_rfl))
 f266 := Tryd.func88.trans (congrArg some (by kernel_rfl))
 t3 := Tryd.underlying3
 a3 := Tryd.isAgg3
 z3 := Tryd.sizeOf3
 v3 := Tryd.zeroValue3
 t5 := Tryd.underlying5
 a5 := Tryd.isAgg5
 z5 := Tryd.sizeOf5
 v5 := Tryd.zeroValue5
 t9 := Tryd.underlying9
 a9 := Tryd.isAgg9
 z9 := Tryd.sizeOf9
 v9 := Tryd.zeroValue9 }
theorem strings_IndexByte (s : ByteArray) (c : Int) (w : World) :
  Calls Tryd.prog 79 #[.string s, .int .u8 c] w fun e w' => e = .returned (.int .i64 (Lib.indexByte s.data.toList c.toNat.toUInt8)) ∧ w' = w := Any.strings_IndexByte lays137 s c w
theorem Builder_String_any_k (B b : Nat) (l : List UInt8) (w : World) (h : Lib.IsBuilderF 50 5 B b (Lib.byteCells l) w) (hBw : B ≤ w.heap.size) :
  Calls Tryd.prog 33 #[.pointer (some ⟨b, 0, none⟩)] w fun e w' => e = .returned (.string ⟨l.toArray⟩) ∧ (Lib.IsBuilderF 50 5 B b (Lib.byteCells l) w' ∧ Below B w w' ∧ Lib.OthersKept 5 (some b) w w') := Any.Builder_String_any_k lays169 Builder_Extra_169 B b l w h hBw
theorem Builder_Grow_fresh_cap (B b n : Nat) (w : World) (hB : B ≤ b) (hbk : w.heap[b]? = some (.cells #[.pointer none, .slice none 0 0] 50 (0, 0))) (hBw : B ≤ w.heap.size) (hn : n ≤ 281474976710656) :
  Calls Tryd.prog 65 #[.pointer (some ⟨b, 0, none⟩), .int .i64 n] w fun e w' => e = .returned (.tuple #[]) ∧ (Lib.BuilderAt 50 5 B b (.pointer (some ⟨b, 0, none⟩)) [] w' ∧ Below B w w') ∧ ∃ p cap, w'.cell? ⟨b, 1, none⟩ = some (.slice p 0 cap) ∧ n ≤ cap := Any.Builder_Grow_fresh_cap lays165 Builder_Extra_165 B b n w hB hbk hBw hn
def laysM316_ren : Go.Shelf.Ren := ⟨fun | 316 => 41 | n => n, fun | 9 => 9 | 3 => 3 | 4 => 4 | 37 => 41 | 0 => 0 | 127 => 87 | 5 => 5 | n => n, fun | n => n⟩
theorem laysM316 : Go.Proofs.LaysM.n316 Tryd.prog laysM316_ren := {
 mixed := by kernel_rfl
 f316 := Tryd.func41.trans (congrArg some (by kernel_rfl))
 t0 := Tryd.underlying0
 a0 := Tryd.isAgg0
 z0 := Tryd.sizeOf0
 v0 := Tryd.zeroValue0
 t3 := Tryd.underlying3
 a3 := Tryd.isAgg3
 z3 := Tryd.sizeOf3
 v3 := Tryd.zeroValue3
 t4 := Tryd.underlying4
 a4 := Tryd.isAgg4
 z4 := Tryd.sizeOf4
 v4 := Tryd.zeroValue4
 t9 := Tryd.underlying9
 a9 := Tryd.isAgg9
 z9 := Tryd.sizeOf9
 v9 := Tryd.zeroValue9
 t37 := Tryd.underlying41
 a37 := Tryd.isAgg41
 z37 := Tryd.sizeOf41
 v37 := Tryd.zeroValue41
 t127 := Tryd.underlying87
 a127 := Tryd.isAgg87
 z127 := Tryd.sizeOf87
 v127 := Tryd.zeroValue87
 t5 := Tryd.underlying5
 a5 := Tryd.isAgg5
 z5 := Tryd.sizeOf5
 v5 := Tryd.zeroValue5
 i0 := by kernel_rfl
 i3 := by kernel_rfl
 i4 := by kernel_rfl
 i5 := by kernel_rfl
 i9 := by kernel_rfl
 i37 := by kernel_rfl
 i127 := by kernel_rfl }
theorem stringslite_Clone (s : ByteArray) (w : World) (hlim : s.size ≤ 281474976710656) :
  Calls Tryd.prog 41 #[.string s] w fun e w' => e = .returned (.string s) ∧ Below w.heap.size w w' := Any.stringslite_Clone laysM316 s w hlim
end Go.Proofs.YtdbbcngolcnniaaDoor
/- The iterator of package codec that tells numbers by letters: what it hands out, whatever hands it its letters. -/
namespace Go.Proofs.YtdbbcngolcnniaaDoor
set_option linter.unusedSimpArgs false
open Go.RowKit Go.Shelf
set_option linter.unusedVariables false
attribute [local go_sem] Oper.semAt_some
def numAt (set : ByteArray) (c : Nat) : Nat := (Lib.indexByte set.data.toList (Nat.toUInt8 c)).toNat
set_option maxHeartbeats 1000000 in
theorem numbers_seq (set : ByteArray) (gf : Nat) (lb : Array Value) (ys : List Nat) (n0 n1 b1 b2 : Nat) (w0 : World) (hq : SeqOK Tryd.prog gf lb ys n1 w0) (hn1 : n1 ≤ n0) (hn : n0 ≤ w0.heap.size) (hb1 : b1 < n0) (hb2 : b2 < n0)
  (hc1 : w0.cell? ⟨b1, 0, none⟩ = some (.func (.func gf) #[] lb)) (hc2 : w0.cell? ⟨b2, 0, none⟩ = some (.string set))
  (eg : ∀ args w, (callFunc gf args).run Tryd.prog w = .ok (.enter gf args) w) (hys : ∀ y ∈ ys, y < 256) (hset : ∀ c, (Lib.indexByte set.data.toList c).toNat < 256) :
  SeqOK Tryd.prog 78 #[.pointer (some ⟨b1, 0, none⟩), .pointer (some ⟨b2, 0, none⟩)] (ys.map (numAt set)) n0 w0 := by
 refine ⟨hn, ?_⟩
 intro m l J Jx S W hW hJ hJx hS hY h0
 have hs1 := hW.size
 have d1 : W.cell? ⟨b1, 0, none⟩ = some (.func (.func gf) #[] lb) := (hW.cell (p := ⟨b1, 0, none⟩) hb1).trans hc1
 have d2 : W.cell? ⟨b2, 0, none⟩ = some (.string set) := (hW.cell (p := ⟨b2, 0, none⟩) hb2).trans hc2
 refine callsIn_of_wp_marks Tryd.func78 rfl trivial ?_ rfl
 simp only [Tryd.ntmps78, List.size_toArray, List.length_cons, List.length_nil, Nat.reduceAdd, Nat.reduceSub, Array.replicate_succ, Array.replicate_zero, List.push_toArray, List.append_toArray, List.nil_append, List.cons_append]
 have hd : Fence.wide.depth = none := rfl
 clear hc1 hc2
 have dd1 : (W.alloc (.cells #[.func (.yield l) #[] #[]] 57)).cell? ⟨b1, 0, none⟩ = some (.func (.func gf) #[] lb) := ((Below.refl n0 W).alloc (by omega) _).cell (p := ⟨b1, 0, none⟩) hb1 |>.trans d1
 gi_wp2
 have hE1 : Ext S S W (W.alloc (.cells #[.func (.yield l) #[] #[]] 57)) := Ext.of_below S ((Below.refl _ W).alloc (Nat.le_refl _) _)
 refine wpIn_rangeFunc_set (gf := gf) (lb := lb) rfl eg (hq.up hn1 hn) ((hW.alloc (by omega) _)) rfl
  (fun pre S2 W2 => J (pre.map (numAt set)) S2 W2) (fun c pre S2 W2 => c = .ret ∧ Jx (pre.map (numAt set)) S2 W2)
  ⟨fun x => hJ.same (x.map (numAt set)), fun x => hJ.lt (x.map (numAt set))⟩
  (fun c => ⟨fun x S W W2 h hs hk => ⟨h.1, hJx.same _ S W W2 h.2 hs hk⟩, fun x S W h => hJx.lt _ S W h.2⟩) S hS (hJ.alloc _ h0)
  (fun x => { tmps := #[.func (.yield l) #[] #[], .pointer (some ⟨b1, 0, none⟩), .pointer (some ⟨b2, 0, none⟩), .pointer (some ⟨W.heap.size, 0, none⟩), .int .u8 (x : Int), .func (.func gf) #[] lb, .int .u8 (x : Int), undef, undef, undef, undef, undef, undef, undef, undef], defers := [] }) ?assign ?body ?done ?stop
 case assign =>
  intro l x W K hK
  gi_wp2
  exact hK
 case body =>
  intro lr pre x S2 W2 hE hJ2 hpre
  have hx : x < 256 := hys x (by obtain ⟨t, rfl⟩ := hpre; simp)
  have e1 : W2.cell? ⟨W.heap.size, 0, none⟩ = some (.func (.yield l) #[] #[]) := (hE.cellb (by simp) (fun h => by have := hJ.lt _ _ _ h0 _ h; omega)).trans (Boxed.new W 57 _).cell
  have e2 : W2.cell? ⟨b2, 0, none⟩ = some (.string set) := by
   refine (hE.cellb (by simp; omega) (fun h => by have := hS _ h; omega)).trans ?_
   exact (World.cell?_of_block (w := W) (a := ⟨b2, 0, none⟩) (Below.heap_alloc W _ b2 (by omega))).trans d2
  have hyy := hY (pre.map (numAt set)) (numAt set x) S2 W2.drew (hE1.trans hE).drew (hJ.drew hJ2) (by have := prefix_map (numAt set) hpre; simpa using this)
  have HY := Lib.hid hyy
  clear hyy hY hys
  gi_wp2
  refine wpIn_region_any (by kernel_rfl) ?_
  change wpAnyIn _ _ _ _ _ _ _ _ _ (World.drew _)
  refine anyIn_unround lr rfl (by kernel_rfl) _ _ _ _ ?_
  refine anyIn_of_G (T := fun i => i < 3 || i == 4 || i == 5 || i == 7) (S := fun i w => i < 3 → w.cell? ⟨W.heap.size, 0, none⟩ = some (.func (.yield l) #[] #[]) ∧ w.cell? ⟨b2, 0, none⟩ = some (.string set)) _ _ _ _ ?_
  have HS : ∀ i : Nat, i < 3 → W2.drew.cell? ⟨W.heap.size, 0, none⟩ = some (.func (.yield l) #[] #[]) ∧ W2.drew.cell? ⟨b2, 0, none⟩ = some (.string set) := fun _ _ => ⟨e1, e2⟩
  have HSH := Lib.hid HS
  clear HS
  refine AnyG.take 0 (some 7) (.load 57 (.tmp 3)) (.func (.yield l) #[] #[]) rfl rfl (fun _ e => by cases e) (by kernel_rfl) (by kernel_rfl) (by kernel_rfl) (by kernel_rfl) rfl (fun _ _ _ h => h) (fun o ho w hw => by obtain ⟨q1, q2⟩ := hw (by decide); unfold execOp; rw [ho]; go_simp) (HSH.out 0) ?_
  simp only [Act.put, sT, sS, sZ]
  refine AnyG.take 1 (some 8) (.load 9 (.tmp 2)) (.string set) rfl rfl (fun _ e => by cases e) (by kernel_rfl) (by kernel_rfl) (by kernel_rfl) (by kernel_rfl) rfl (fun _ _ _ h => h) (fun o ho w hw => by obtain ⟨q1, q2⟩ := hw (by decide); unfold execOp; rw [ho]; go_simp) (HSH.out 1) ?_
  simp only [Act.put, sT, sS, sZ]
  refine AnyG.take 2 (some 9) (.move (.tmp 4)) (.int .u8 (x : Int)) rfl rfl (fun _ e => by cases e) (by kernel_rfl) (by kernel_rfl) (by kernel_rfl) (by kernel_rfl) rfl (fun _ _ _ h => h) (fun o ho w hw => by obtain ⟨q1, q2⟩ := hw (by decide); unfold execOp; rw [ho]; go_simp) (HSH.out 2) ?_
  simp only [Act.put, sT, sS, sZ]
  obtain ⟨p, hp⟩ : ∃ p, p = Lib.indexByte set.data.toList (Nat.toUInt8 x) := ⟨_, rfl⟩
  have hpn : (numAt set x : Int) = max 0 p := by rw [numAt, ← hp]; omega
  have hp2 : numAt set x < 256 := by rw [numAt]; exact hset _
  have hp3 : p ≤ 255 := by omega
  have HC : CallsIn Fence.wide (m - 1) Tryd.prog 79 #[.string set, .int .u8 (x : Int)] W2.drew fun e w2 => e = .returned (.int .i64 p) ∧ w2 = W2.drew := by
   refine callsIn_wide.2 ?_
   have := strings_IndexByte set (x : Int) W2.drew
   rw [hp]
   simpa using this
  refine AnyG.ready (rs := [3]) (by kernel_rfl) (by simp) (ReadyG.call (some 10) 79 #[.tmp 8, .tmp 9] #[9, 5] rfl rfl rfl (fun _ => trivial) #[.string set, .int .u8 (x : Int)] (by simp [Act.eval]) (enters_of Tryd.func79 (by kernel_rfl) rfl) _ HC rfl ?_ (fun c w' h => by cases h.1) (fun w' h => by cases h.1) ReadyG.nil)
  rintro v W3 ⟨he, rfl⟩
  refine ⟨fun i _ _ _ => HSH.out i, ?_⟩
  obtain rfl : v = .int .i64 p := by injection he
  simp only [Act.put, sT, sS, sZ]
  refine AnyG.takeB 4 (some 11) { callee := .builtin .max, args := #[.const (.int .i64 0), .tmp 10], argTypes := #[3, 3] } (.int .i64 (numAt set x : Int)) rfl rfl (by kernel_rfl) (by kernel_rfl) (by kernel_rfl) (by kernel_rfl) rfl (fun _ _ _ h => h) (fun o ho w => by unfold Oper.about; simp [ho, resolve, Target.leads]) (fun o ho w hw => by unfold execOp; rw [ho, hpn]; go_simp) (fun h => by omega) ?_
  simp only [Act.put, sT, sS, sZ]
  have hwr : IntKind.u8.wrap ((numAt set x : Nat) : Int) = (numAt set x : Int) := by rw [IntKind.wrap_u8]; omega
  obtain ⟨z, hz⟩ : ∃ z, z = numAt set x := ⟨_, rfl⟩
  rw [← hz] at hwr ⊢
  have HZ := Lib.hid hz
  clear hz hpn hp hp2 hp3
  refine AnyG.take 5 (some 12) (.convert 3 5 (.tmp 11)) (.int .u8 (z : Int)) rfl rfl (fun _ e => by cases e) (by kernel_rfl) (by kernel_rfl) (by kernel_rfl) (by kernel_rfl) rfl (fun _ _ _ h => h) (fun o ho w hw => by unfold execOp; rw [ho]; go_simp) (fun h => by omega) ?_
  simp only [Act.put, sT, sS, sZ]
  have HY2 := HY.out
  rw [← HZ.out] at HY2
  refine AnyG.ready (rs := [6]) (by kernel_rfl) (by simp) (ReadyG.yield (some 13) (.tmp 7) #[.tmp 12] #[5] rfl rfl rfl l rfl #[.int .u8 (z : Int)] (by simp [Act.eval]) _ HY2 rfl ?_ (fun c w' h => by obtain ⟨_, _, ⟨h, -⟩ | ⟨h, -⟩⟩ := h <;> cases h) (fun w' h => by obtain ⟨_, _, ⟨h, -⟩ | ⟨h, -⟩⟩ := h <;> cases h) ReadyG.nil)
  rintro v W3 ⟨S3, hE3, hv3⟩
  refine ⟨tight_of (f := 3) ?_, ?_⟩
  ·kernel_rfl
  have hE4 := Lib.hid hE3.undrew
  rcases hv3 with ⟨he, hJ3⟩ | ⟨he, hJx3⟩
  ·obtain rfl : v = .bool true := by injection he
   simp only [Act.put, sT, sS, sZ]
   refine AnyG.take 7 (some 14) (.unOp .not 4 (.tmp 13)) (.bool false) rfl rfl (fun _ e => by cases e) (by kernel_rfl) (by kernel_rfl) (by kernel_rfl) (by kernel_rfl) rfl (fun _ _ _ h => h) (fun o ho w hw => by unfold execOp; rw [ho]; go_simp) (fun h => by omega) ?_
   simp only [Act.put, sT, sS, sZ]
   refine AnyG.done (by kernel_rfl) ?_ _
   rw [HZ.out] at hJ3
   have HJ3 := Lib.hid hJ3
   clear hJ3 he
   gi_wp2
   exact ⟨S3, hE4.out, by simpa using HJ3.out⟩
  ·obtain rfl : v = .bool false := by injection he
   simp only [Act.put, sT, sS, sZ]
   refine AnyG.take 7 (some 14) (.unOp .not 4 (.tmp 13)) (.bool true) rfl rfl (fun _ e => by cases e) (by kernel_rfl) (by kernel_rfl) (by kernel_rfl) (by kernel_rfl) rfl (fun _ _ _ h => h) (fun o ho w hw => by unfold execOp; rw [ho]; go_simp) (fun h => by omega) ?_
   simp only [Act.put, sT, sS, sZ]
   refine AnyG.done (by kernel_rfl) ?_ _
   rw [HZ.out] at hJx3
   have HJ3 := Lib.hid hJx3
   clear hJx3 he
   gi_wp2
   exact ⟨S3, hE4.out, rfl, by simpa using HJ3.out⟩
 case done =>
  rintro D S2 W2 hD hnD hE hJ2 hK
  have HE := Lib.hid ((hE1.trans hE).late (D := D) (by simp at hD; omega) (.deferred none))
  have HJ := Lib.hid (hJ.put D (.deferred none) hnD hJ2)
  clear hY hE1 hE hJ2
  gi_wp2
  refine ⟨by simp, .inl ⟨_, _, rfl, run_takeDeferred hK, ?_⟩⟩
  exact ⟨_, results_none rfl _ _ _, ⟨_, rfl⟩, S2, HE.out, .inl HJ.out⟩
 case stop =>
  rintro D c pre S2 W2 hD hnD hE hpre ⟨rfl, hJ2⟩ hK
  have HE := Lib.hid ((hE1.trans hE).late (D := D) (by simp at hD; omega) (.deferred none))
  have HJ := Lib.hid (hJx.put D (.deferred none) hnD hJ2)
  have HP := Lib.hid (prefix_map (numAt set) hpre)
  clear hY hE1 hE hJ2 hpre
  gi_wp2
  refine ⟨by simp, .inl ⟨_, _, rfl, run_takeDeferred hK, ?_⟩⟩
  exact ⟨_, results_none rfl _ _ _, ⟨_, rfl⟩, S2, HE.out, .inr ⟨_, HP.out, HJ.out⟩⟩
end Go.Proofs.YtdbbcngolcnniaaDoor
/- Single operations of package codec's iterators: what each yields. -/
namespace Go.Proofs.YtdbbcngolcnniaaDoor
set_option linter.unusedSimpArgs false
open Go.RowKit Go.Shelf
set_option linter.unusedVariables false
theorem exec_shl49 {ρ : Operand → Value} {o : Oper} (x y : Operand) (ho : o.op = .binOp .shl 85 x y 3) (a n : Nat) (hx : ρ x = .int .u64 (a : Int)) (hy : ρ y = .int .i64 (n : Int)) (hn : n ≤ 64) (w : World) : (execOp ρ o).run Tryd.prog w = .ok (.value (.int .u64 ((a * 2 ^ n % 18446744073709551616 : Nat) : Int))) w := by
 unfold execOp; rw [ho]; go_simp
 rw [IntKind.wrap_u64]
theorem exec_shr49 {ρ : Operand → Value} {o : Oper} (x y : Operand) (ho : o.op = .binOp .shr 85 x y 3) (a n : Nat) (hx : ρ x = .int .u64 (a : Int)) (hy : ρ y = .int .i64 (n : Int)) (hn : n ≤ 64) (w : World) : (execOp ρ o).run Tryd.prog w = .ok (.value (.int .u64 ((a / 2 ^ n : Nat) : Int))) w := by
 unfold execOp; rw [ho]; go_simp
theorem exec_or49 {ρ : Operand → Value} {o : Oper} (x y : Operand) (ho : o.op = .binOp .or 85 x y 85) (a b : Nat) (hx : ρ x = .int .u64 (a : Int)) (hy : ρ y = .int .u64 (b : Int)) (ha : a < 18446744073709551616) (hb : b < 18446744073709551616) (w : World) : (execOp ρ o).run Tryd.prog w = .ok (.value (.int .u64 ((a ||| b : Nat) : Int))) w := by
 unfold execOp; rw [ho]; go_simp
 exact u64_or_nat a b ha hb
theorem exec_and49 {ρ : Operand → Value} {o : Oper} (x y : Operand) (ho : o.op = .binOp .and 85 x y 85) (a b : Nat) (hx : ρ x = .int .u64 (a : Int)) (hy : ρ y = .int .u64 (b : Int)) (ha : a < 18446744073709551616) (hb : b < 18446744073709551616) (w : World) : (execOp ρ o).run Tryd.prog w = .ok (.value (.int .u64 ((a &&& b : Nat) : Int))) w := by
 unfold execOp; rw [ho]; go_simp
 exact u64_and_nat a b ha hb
theorem exec_conv59 {ρ : Operand → Value} {o : Oper} (x : Operand) (ho : o.op = .convert 5 85 x) (a : Nat) (hx : ρ x = .int .u8 (a : Int)) (ha : a < 18446744073709551616) (w : World) : (execOp ρ o).run Tryd.prog w = .ok (.value (.int .u64 (a : Int))) w := by
 unfold execOp; rw [ho]; go_simp
 rw [IntKind.wrap_u64]; omega
theorem exec_conv495 {ρ : Operand → Value} {o : Oper} (x : Operand) (ho : o.op = .convert 85 5 x) (a : Nat) (hx : ρ x = .int .u64 (a : Int)) (w : World) : (execOp ρ o).run Tryd.prog w = .ok (.value (.int .u8 ((a % 256 : Nat) : Int))) w := by
 unfold execOp; rw [ho]; go_simp
 rw [IntKind.wrap_u8]
theorem exec_add3 {ρ : Operand → Value} {o : Oper} (x y : Operand) (ho : o.op = .binOp .add 3 x y 3) (a b : Nat) (hx : ρ x = .int .i64 (a : Int)) (hy : ρ y = .int .i64 (b : Int)) (hn : a + b < 9223372036854775808) (w : World) : (execOp ρ o).run Tryd.prog w = .ok (.value (.int .i64 ((a + b : Nat) : Int))) w := by
 unfold execOp; rw [ho]; go_simp
 rw [IntKind.wrap_i64]; omega
theorem exec_sub3 {ρ : Operand → Value} {o : Oper} (x y : Operand) (ho : o.op = .binOp .sub 3 x y 3) (a b : Nat) (hx : ρ x = .int .i64 (a : Int)) (hy : ρ y = .int .i64 (b : Int)) (hn : b ≤ a) (h2 : a < 9223372036854775808) (w : World) : (execOp ρ o).run Tryd.prog w = .ok (.value (.int .i64 ((a - b : Nat) : Int))) w := by
 unfold execOp; rw [ho]; go_simp
 rw [IntKind.wrap_i64]; omega
theorem exec_loadB {ρ : Operand → Value} {o : Oper} {t : TypeId} (x : Operand) (ho : o.op = .load t x) (b : Nat) (v : Value) (hx : ρ x = .pointer (some ⟨b, 0, none⟩)) (w : World) (hc : w.cell? ⟨b, 0, none⟩ = some v) (h1 : v.oneCell' = true) (ht : t = 3 ∨ t = 85 ∨ t = 57) : (execOp ρ o).run Tryd.prog w = .ok (.value v) w := by
 unfold execOp
 rw [ho]
 rcases ht with rfl | rfl | rfl <;> go_simp
end Go.Proofs.YtdbbcngolcnniaaDoor
