/- Several texts, one behind the other; each says by itself what it proves, and on what conditions. -/
import Derived.Test.YtlofoeapfmcolaaX10
import Derived.Test.YtlofoeapfmcolaaX12
import Derived.Laws.BitsAllLaws
/- The iterators of package codec that tell letters by numbers, and numbers by letters: what they hand out, whatever hands them theirs. -/
namespace Go.Proofs.Ytlofoeapfmcolaa
set_option linter.unusedSimpArgs false
open Go.RowKit Go.Shelf
set_option linter.unusedVariables false
attribute [local go_sem] Oper.semAt_some

theorem Ext.late {S T : Nat → Prop} {A B : World} (h : Ext S T A B) {D : Nat} (hD : A.heap.size ≤ D) (o : Obj) : Ext S T A (B.putObj D o) := by
  have h3 := grownBy_putObj' B D o
  exact ⟨h3.os.trans h.os, h3.tape.trans h.tape, h3.output.trans h.output, by have := h.size; simp; omega, h.new, fun k hk hs => (World.putObj_heap_other (by omega)).trans (h.keep k hk hs)⟩
theorem prefix_map {l m : List Nat} (f : Nat → Nat) (h : l <+: m) : l.map f <+: m.map f := by
  obtain ⟨t, rfl⟩ := h
  exact ⟨t.map f, by simp⟩
theorem Ext.cellb {S T : Nat → Prop} {A B : World} (h : Ext S T A B) {b o : Nat} (hp : b < A.heap.size) (hs : ¬ S b) : B.cell? ⟨b, o, none⟩ = A.cell? ⟨b, o, none⟩ := h.cell (p := ⟨b, o, none⟩) hp hs

/-- What stands at place y of the set. -/
def setAt (set : ByteArray) (y : Nat) : Nat := (natsOf set).getD y 0

set_option maxHeartbeats 1000000 in
theorem letters_seq (set : ByteArray) (gf : Nat) (lb : Array Value) (ys : List Nat) (n0 n1 b1 b2 : Nat) (w0 : World) (hq : SeqOK Try.prog gf lb ys n1 w0) (hn1 : n1 ≤ n0) (hn : n0 ≤ w0.heap.size) (hb1 : b1 < n0) (hb2 : b2 < n0)
    (hc1 : w0.cell? ⟨b1, 0, none⟩ = some (.func (.func gf) #[] lb)) (hc2 : w0.cell? ⟨b2, 0, none⟩ = some (.string set))
    (eg : ∀ args w, (callFunc gf args).run Try.prog w = .ok (.enter gf args) w) (hys : ∀ y ∈ ys, y < set.size) :
    SeqOK Try.prog 52 #[.pointer (some ⟨b1, 0, none⟩), .pointer (some ⟨b2, 0, none⟩)] (ys.map (setAt set)) n0 w0 := by
  refine ⟨hn, ?_⟩
  intro m l J Jx S W hW hJ hJx hS hY h0
  have hs1 := hW.size
  have d1 : W.cell? ⟨b1, 0, none⟩ = some (.func (.func gf) #[] lb) := (hW.cell (p := ⟨b1, 0, none⟩) hb1).trans hc1
  have d2 : W.cell? ⟨b2, 0, none⟩ = some (.string set) := (hW.cell (p := ⟨b2, 0, none⟩) hb2).trans hc2
  refine callsIn_of_wp_marks Try.func52 rfl trivial ?_ rfl
  simp only [Try.ntmps52, List.size_toArray, List.length_cons, List.length_nil, Nat.reduceAdd, Nat.reduceSub, Array.replicate_succ, Array.replicate_zero, List.push_toArray, List.append_toArray, List.nil_append, List.cons_append]
  have hd : Fence.wide.depth = none := rfl
  clear hc1 hc2
  have dd1 : (W.alloc (.cells #[.func (.yield l) #[] #[]] 75)).cell? ⟨b1, 0, none⟩ = some (.func (.func gf) #[] lb) := ((Below.refl n0 W).alloc (by omega) _).cell (p := ⟨b1, 0, none⟩) hb1 |>.trans d1
  gi_wp2
  have hE1 : Ext S S W (W.alloc (.cells #[.func (.yield l) #[] #[]] 75)) := Ext.of_below S ((Below.refl _ W).alloc (Nat.le_refl _) _)
  refine wpIn_rangeFunc_set (gf := gf) (lb := lb) rfl eg (hq.up hn1 hn) ((hW.alloc (by omega) _)) rfl
    (fun pre S2 W2 => J (pre.map (setAt set)) S2 W2) (fun c pre S2 W2 => c = .ret ∧ Jx (pre.map (setAt set)) S2 W2)
    ⟨fun x => hJ.same (x.map (setAt set)), fun x => hJ.lt (x.map (setAt set))⟩
    (fun c => ⟨fun x S W W2 h hs hk => ⟨h.1, hJx.same _ S W W2 h.2 hs hk⟩, fun x S W h => hJx.lt _ S W h.2⟩) S hS (hJ.alloc _ h0)
    (fun x => { tmps := #[.func (.yield l) #[] #[], .pointer (some ⟨b1, 0, none⟩), .pointer (some ⟨b2, 0, none⟩), .pointer (some ⟨W.heap.size, 0, none⟩), .int .u8 (x : Int), .func (.func gf) #[] lb, .int .u8 (x : Int), undef, undef, undef, undef, undef, undef], defers := [] }) ?assign ?body ?done ?stop
  case assign =>
    intro l x W K hK
    gi_wp2
    exact hK
  case body =>
    intro lr pre x S2 W2 hE hJ2 hpre
    have hx : x < set.size := hys x (by obtain ⟨t, rfl⟩ := hpre; simp)
    have e1 : W2.cell? ⟨W.heap.size, 0, none⟩ = some (.func (.yield l) #[] #[]) := (hE.cellb (by simp) (fun h => by have := hJ.lt _ _ _ h0 _ h; omega)).trans (Boxed.new W 75 _).cell
    have e2 : W2.cell? ⟨b2, 0, none⟩ = some (.string set) := by
      refine (hE.cellb (by simp; omega) (fun h => by have := hS _ h; omega)).trans ?_
      exact (World.cell?_of_block (w := W) (a := ⟨b2, 0, none⟩) (Below.heap_alloc W _ b2 (by omega))).trans d2
    have hyy := hY (pre.map (setAt set)) (setAt set x) S2 W2.drew (hE1.trans hE).drew (hJ.drew hJ2) (by have := prefix_map (setAt set) hpre; simpa using this)
    have hv : setAt set x = set[x].toNat := by rw [setAt, List.getD_eq_getElem?_getD, List.getElem?_eq_getElem (by rw [natsOf_length]; exact hx), Option.getD_some, natsOf_get set x hx]
    have HY := Lib.hid hyy
    have HV := Lib.hid hv
    clear hyy hv hY hys
    gi_wp2
    refine wpIn_region_any (by kernel_rfl) ?_
    change wpAnyIn _ _ _ _ _ _ _ _ _ (World.drew _)
    refine anyIn_unround lr rfl (by kernel_rfl) _ _ _ _ ?_
    refine anyIn_of_G (T := fun i => i < 4 || i == 5) (S := fun i w => i < 4 → w.cell? ⟨W.heap.size, 0, none⟩ = some (.func (.yield l) #[] #[]) ∧ w.cell? ⟨b2, 0, none⟩ = some (.string set)) _ _ _ _ ?_
    have HS : ∀ i : Nat, i < 4 → W2.drew.cell? ⟨W.heap.size, 0, none⟩ = some (.func (.yield l) #[] #[]) ∧ W2.drew.cell? ⟨b2, 0, none⟩ = some (.string set) := fun _ _ => ⟨e1, e2⟩
    have HSH := Lib.hid HS
    clear HS
    refine AnyG.take 0 (some 7) (.load 75 (.tmp 3)) (.func (.yield l) #[] #[]) rfl rfl (fun _ e => by cases e) (by kernel_rfl) (by kernel_rfl) (by kernel_rfl) (by kernel_rfl) rfl (fun _ _ _ h => h) (fun o ho w hw => by obtain ⟨q1, q2⟩ := hw (by decide); unfold execOp; rw [ho]; go_simp) (HSH.out 0) ?_
    simp only [Act.put, List.setIfInBounds_toArray, List.set_cons_succ, List.set_cons_zero]
    refine AnyG.take 1 (some 8) (.load 9 (.tmp 2)) (.string set) rfl rfl (fun _ e => by cases e) (by kernel_rfl) (by kernel_rfl) (by kernel_rfl) (by kernel_rfl) rfl (fun _ _ _ h => h) (fun o ho w hw => by obtain ⟨q1, q2⟩ := hw (by decide); unfold execOp; rw [ho]; go_simp) (HSH.out 1) ?_
    simp only [Act.put, List.setIfInBounds_toArray, List.set_cons_succ, List.set_cons_zero]
    refine AnyG.take 2 (some 9) (.move (.tmp 4)) (.int .u8 (x : Int)) rfl rfl (fun _ e => by cases e) (by kernel_rfl) (by kernel_rfl) (by kernel_rfl) (by kernel_rfl) rfl (fun _ _ _ h => h) (fun o ho w hw => by obtain ⟨q1, q2⟩ := hw (by decide); unfold execOp; rw [ho]; go_simp) (HSH.out 2) ?_
    simp only [Act.put, List.setIfInBounds_toArray, List.set_cons_succ, List.set_cons_zero]
    refine AnyG.take 3 (some 10) (.index 9 (.tmp 8) (.tmp 9)) (.int .u8 (set[x].toNat : Int)) rfl rfl (fun _ e => by cases e) (by kernel_rfl) (by kernel_rfl) (by kernel_rfl) (by kernel_rfl) rfl (fun _ _ _ h => h) (fun o ho w hw => by obtain ⟨q1, q2⟩ := hw (by decide); unfold execOp; rw [ho]; go_simp) (HSH.out 3) ?_
    simp only [Act.put, List.setIfInBounds_toArray, List.set_cons_succ, List.set_cons_zero]
    have HY2 := HY.out
    rw [HV.out] at HY2
    refine AnyG.ready (rs := [4]) (by kernel_rfl) (by simp) (ReadyG.yield (some 11) (.tmp 7) #[.tmp 10] #[5] rfl rfl rfl l rfl #[.int .u8 (set[x].toNat : Int)] (by simp [Act.eval]) _ HY2 rfl ?_ (fun c w' h => by obtain ⟨_, _, ⟨h, -⟩ | ⟨h, -⟩⟩ := h <;> cases h) (fun w' h => by obtain ⟨_, _, ⟨h, -⟩ | ⟨h, -⟩⟩ := h <;> cases h) ReadyG.nil)
    rintro v W3 ⟨S3, hE3, hv3⟩
    refine ⟨tight_of (f := 4) ?_, ?_⟩
    · kernel_rfl
    have hE4 := Lib.hid hE3.undrew
    rcases hv3 with ⟨he, hJ3⟩ | ⟨he, hJx3⟩
    · obtain rfl : v = .bool true := by injection he
      simp only [Act.put, List.setIfInBounds_toArray, List.set_cons_succ, List.set_cons_zero]
      refine AnyG.take 5 (some 12) (.unOp .not 4 (.tmp 11)) (.bool false) rfl rfl (fun _ e => by cases e) (by kernel_rfl) (by kernel_rfl) (by kernel_rfl) (by kernel_rfl) rfl (fun _ _ _ h => h) (fun o ho w hw => by unfold execOp; rw [ho]; go_simp) (fun h => by omega) ?_
      simp only [Act.put, List.setIfInBounds_toArray, List.set_cons_succ, List.set_cons_zero]
      refine AnyG.done (by kernel_rfl) ?_ _
      have HJ3 := Lib.hid hJ3
      clear hJ3 he
      gi_wp2
      refine ⟨S3, hE4.out, ?_⟩
      rw [HV.out.symm] at HJ3
      simpa using HJ3.out
    · obtain rfl : v = .bool false := by injection he
      simp only [Act.put, List.setIfInBounds_toArray, List.set_cons_succ, List.set_cons_zero]
      refine AnyG.take 5 (some 12) (.unOp .not 4 (.tmp 11)) (.bool true) rfl rfl (fun _ e => by cases e) (by kernel_rfl) (by kernel_rfl) (by kernel_rfl) (by kernel_rfl) rfl (fun _ _ _ h => h) (fun o ho w hw => by unfold execOp; rw [ho]; go_simp) (fun h => by omega) ?_
      simp only [Act.put, List.setIfInBounds_toArray, List.set_cons_succ, List.set_cons_zero]
      refine AnyG.done (by kernel_rfl) ?_ _
      have HJ3 := Lib.hid hJx3
      clear hJx3 he
      gi_wp2
      rw [HV.out.symm] at HJ3
      exact ⟨S3, hE4.out, rfl, by simpa using HJ3.out⟩
  case done =>
    rintro D S2 W2 hD hnD hE hJ2 hK
    have HE := Lib.hid ((hE1.trans hE).late (D := D) (by simp at hD; omega) (.deferred none))
    have HJ := Lib.hid (hJ.put D (.deferred none) hnD hJ2)
    clear hY hE1 hE hJ2
    gi_wp2
    refine ⟨by simp, .inl ⟨_, _, rfl, run_takeDeferred hK, ?_⟩⟩
    exact ⟨_, results_none rfl _ _ _, ⟨_, rfl⟩, S2, HE.out, .inl HJ.out⟩
  case stop =>
    rintro D c pre S2 W2 hD hnD hE hpre ⟨rfl, hJ2⟩ hK
    have HE := Lib.hid ((hE1.trans hE).late (D := D) (by simp at hD; omega) (.deferred none))
    have HJ := Lib.hid (hJx.put D (.deferred none) hnD hJ2)
    have HP := Lib.hid (prefix_map (setAt set) hpre)
    clear hY hE1 hE hJ2 hpre
    gi_wp2
    refine ⟨by simp, .inl ⟨_, _, rfl, run_takeDeferred hK, ?_⟩⟩
    exact ⟨_, results_none rfl _ _ _, ⟨_, rfl⟩, S2, HE.out, .inr ⟨_, HP.out, HJ.out⟩⟩
end Go.Proofs.Ytlofoeapfmcolaa
/- The iterator of package codec that tells numbers by letters: what it hands out, whatever hands it its letters. -/
namespace Go.Proofs.Ytlofoeapfmcolaa
set_option linter.unusedSimpArgs false
open Go.RowKit Go.Shelf
set_option linter.unusedVariables false
attribute [local go_sem] Oper.semAt_some

/-- The place of a letter in the set; 0 if it is none. -/
def numAt (set : ByteArray) (c : Nat) : Nat := (Lib.indexByte set.data.toList (Nat.toUInt8 c)).toNat

set_option maxHeartbeats 1000000 in
theorem numbers_seq (set : ByteArray) (gf : Nat) (lb : Array Value) (ys : List Nat) (n0 n1 b1 b2 : Nat) (w0 : World) (hq : SeqOK Try.prog gf lb ys n1 w0) (hn1 : n1 ≤ n0) (hn : n0 ≤ w0.heap.size) (hb1 : b1 < n0) (hb2 : b2 < n0)
    (hc1 : w0.cell? ⟨b1, 0, none⟩ = some (.func (.func gf) #[] lb)) (hc2 : w0.cell? ⟨b2, 0, none⟩ = some (.string set))
    (eg : ∀ args w, (callFunc gf args).run Try.prog w = .ok (.enter gf args) w) (hys : ∀ y ∈ ys, y < 256) (hset : ∀ c, (Lib.indexByte set.data.toList c).toNat < 256) :
    SeqOK Try.prog 44 #[.pointer (some ⟨b1, 0, none⟩), .pointer (some ⟨b2, 0, none⟩)] (ys.map (numAt set)) n0 w0 := by
  refine ⟨hn, ?_⟩
  intro m l J Jx S W hW hJ hJx hS hY h0
  have hs1 := hW.size
  have d1 : W.cell? ⟨b1, 0, none⟩ = some (.func (.func gf) #[] lb) := (hW.cell (p := ⟨b1, 0, none⟩) hb1).trans hc1
  have d2 : W.cell? ⟨b2, 0, none⟩ = some (.string set) := (hW.cell (p := ⟨b2, 0, none⟩) hb2).trans hc2
  refine callsIn_of_wp_marks Try.func44 rfl trivial ?_ rfl
  simp only [Try.ntmps44, List.size_toArray, List.length_cons, List.length_nil, Nat.reduceAdd, Nat.reduceSub, Array.replicate_succ, Array.replicate_zero, List.push_toArray, List.append_toArray, List.nil_append, List.cons_append]
  have hd : Fence.wide.depth = none := rfl
  clear hc1 hc2
  have dd1 : (W.alloc (.cells #[.func (.yield l) #[] #[]] 75)).cell? ⟨b1, 0, none⟩ = some (.func (.func gf) #[] lb) := ((Below.refl n0 W).alloc (by omega) _).cell (p := ⟨b1, 0, none⟩) hb1 |>.trans d1
  gi_wp2
  have hE1 : Ext S S W (W.alloc (.cells #[.func (.yield l) #[] #[]] 75)) := Ext.of_below S ((Below.refl _ W).alloc (Nat.le_refl _) _)
  refine wpIn_rangeFunc_set (gf := gf) (lb := lb) rfl eg (hq.up hn1 hn) ((hW.alloc (by omega) _)) rfl
    (fun pre S2 W2 => J (pre.map (numAt set)) S2 W2) (fun c pre S2 W2 => c = .ret ∧ Jx (pre.map (numAt set)) S2 W2)
    ⟨fun x => hJ.same (x.map (numAt set)), fun x => hJ.lt (x.map (numAt set))⟩
    (fun c => ⟨fun x S W W2 h hs hk => ⟨h.1, hJx.same _ S W W2 h.2 hs hk⟩, fun x S W h => hJx.lt _ S W h.2⟩) S hS (hJ.alloc _ h0)
    (fun x => { tmps := #[.func (.yield l) #[] #[], .pointer (some ⟨b1, 0, none⟩), .pointer (some ⟨b2, 0, none⟩), .pointer (some ⟨W.heap.size, 0, none⟩), .int .u8 (x : Int), .func (.func gf) #[] lb, .int .u8 (x : Int), undef, undef, undef, undef, undef, undef, undef, undef], defers := [] }) ?assign ?body ?done ?stop
  case assign =>
    intro l x W K hK
    gi_wp2
    exact hK
  case body =>
    intro lr pre x S2 W2 hE hJ2 hpre
    have hx : x < 256 := hys x (by obtain ⟨t, rfl⟩ := hpre; simp)
    have e1 : W2.cell? ⟨W.heap.size, 0, none⟩ = some (.func (.yield l) #[] #[]) := (hE.cellb (by simp) (fun h => by have := hJ.lt _ _ _ h0 _ h; omega)).trans (Boxed.new W 75 _).cell
    have e2 : W2.cell? ⟨b2, 0, none⟩ = some (.string set) := by
      refine (hE.cellb (by simp; omega) (fun h => by have := hS _ h; omega)).trans ?_
      exact (World.cell?_of_block (w := W) (a := ⟨b2, 0, none⟩) (Below.heap_alloc W _ b2 (by omega))).trans d2
    have hyy := hY (pre.map (numAt set)) (numAt set x) S2 W2.drew (hE1.trans hE).drew (hJ.drew hJ2) (by have := prefix_map (numAt set) hpre; simpa using this)
    have HY := Lib.hid hyy
    clear hyy hY hys
    gi_wp2
    refine wpIn_region_any (by kernel_rfl) ?_
    change wpAnyIn _ _ _ _ _ _ _ _ _ (World.drew _)
    refine anyIn_unround lr rfl (by kernel_rfl) _ _ _ _ ?_
    refine anyIn_of_G (T := fun i => i < 3 || i == 4 || i == 5 || i == 7) (S := fun i w => i < 3 → w.cell? ⟨W.heap.size, 0, none⟩ = some (.func (.yield l) #[] #[]) ∧ w.cell? ⟨b2, 0, none⟩ = some (.string set)) _ _ _ _ ?_
    have HS : ∀ i : Nat, i < 3 → W2.drew.cell? ⟨W.heap.size, 0, none⟩ = some (.func (.yield l) #[] #[]) ∧ W2.drew.cell? ⟨b2, 0, none⟩ = some (.string set) := fun _ _ => ⟨e1, e2⟩
    have HSH := Lib.hid HS
    clear HS
    refine AnyG.take 0 (some 7) (.load 75 (.tmp 3)) (.func (.yield l) #[] #[]) rfl rfl (fun _ e => by cases e) (by kernel_rfl) (by kernel_rfl) (by kernel_rfl) (by kernel_rfl) rfl (fun _ _ _ h => h) (fun o ho w hw => by obtain ⟨q1, q2⟩ := hw (by decide); unfold execOp; rw [ho]; go_simp) (HSH.out 0) ?_
    simp only [Act.put, List.setIfInBounds_toArray, List.set_cons_succ, List.set_cons_zero]
    refine AnyG.take 1 (some 8) (.load 9 (.tmp 2)) (.string set) rfl rfl (fun _ e => by cases e) (by kernel_rfl) (by kernel_rfl) (by kernel_rfl) (by kernel_rfl) rfl (fun _ _ _ h => h) (fun o ho w hw => by obtain ⟨q1, q2⟩ := hw (by decide); unfold execOp; rw [ho]; go_simp) (HSH.out 1) ?_
    simp only [Act.put, List.setIfInBounds_toArray, List.set_cons_succ, List.set_cons_zero]
    refine AnyG.take 2 (some 9) (.move (.tmp 4)) (.int .u8 (x : Int)) rfl rfl (fun _ e => by cases e) (by kernel_rfl) (by kernel_rfl) (by kernel_rfl) (by kernel_rfl) rfl (fun _ _ _ h => h) (fun o ho w hw => by obtain ⟨q1, q2⟩ := hw (by decide); unfold execOp; rw [ho]; go_simp) (HSH.out 2) ?_
    simp only [Act.put, List.setIfInBounds_toArray, List.set_cons_succ, List.set_cons_zero]
    obtain ⟨p, hp⟩ : ∃ p, p = Lib.indexByte set.data.toList (Nat.toUInt8 x) := ⟨_, rfl⟩
    have hpn : (numAt set x : Int) = max 0 p := by rw [numAt, ← hp]; omega
    have hp2 : numAt set x < 256 := by rw [numAt]; exact hset _
    have hp3 : p ≤ 255 := by omega
    have HC : CallsIn Fence.wide (m - 1) Try.prog 45 #[.string set, .int .u8 (x : Int)] W2.drew fun e w2 => e = .returned (.int .i64 p) ∧ w2 = W2.drew := by
      refine callsIn_wide.2 ?_
      have := strings_IndexByte set (x : Int) W2.drew
      rw [hp]
      simpa using this
    refine AnyG.ready (rs := [3]) (by kernel_rfl) (by simp) (ReadyG.call (some 10) 45 #[.tmp 8, .tmp 9] #[9, 5] rfl rfl rfl (fun _ => trivial) #[.string set, .int .u8 (x : Int)] (by simp [Act.eval]) (enters_of Try.func45 (by kernel_rfl) rfl) _ HC rfl ?_ (fun c w' h => by cases h.1) (fun w' h => by cases h.1) ReadyG.nil)
    rintro v W3 ⟨he, rfl⟩
    refine ⟨fun i _ _ _ => HSH.out i, ?_⟩
    obtain rfl : v = .int .i64 p := by injection he
    simp only [Act.put, List.setIfInBounds_toArray, List.set_cons_succ, List.set_cons_zero]
    refine AnyG.takeB 4 (some 11) { callee := .builtin .max, args := #[.const (.int .i64 0), .tmp 10], argTypes := #[3, 3] } (.int .i64 (numAt set x : Int)) rfl rfl (by kernel_rfl) (by kernel_rfl) (by kernel_rfl) (by kernel_rfl) rfl (fun _ _ _ h => h) (fun o ho w => by unfold Oper.about; simp [ho, resolve, Target.leads]) (fun o ho w hw => by unfold execOp; rw [ho, hpn]; go_simp) (fun h => by omega) ?_
    simp only [Act.put, List.setIfInBounds_toArray, List.set_cons_succ, List.set_cons_zero]
    have hwr : IntKind.u8.wrap ((numAt set x : Nat) : Int) = (numAt set x : Int) := by rw [IntKind.wrap_u8]; omega
    obtain ⟨z, hz⟩ : ∃ z, z = numAt set x := ⟨_, rfl⟩
    rw [← hz] at hwr ⊢
    have HZ := Lib.hid hz
    clear hz hpn hp hp2 hp3
    refine AnyG.take 5 (some 12) (.convert 3 5 (.tmp 11)) (.int .u8 (z : Int)) rfl rfl (fun _ e => by cases e) (by kernel_rfl) (by kernel_rfl) (by kernel_rfl) (by kernel_rfl) rfl (fun _ _ _ h => h) (fun o ho w hw => by unfold execOp; rw [ho]; go_simp) (fun h => by omega) ?_
    simp only [Act.put, List.setIfInBounds_toArray, List.set_cons_succ, List.set_cons_zero]
    have HY2 := HY.out
    rw [← HZ.out] at HY2
    refine AnyG.ready (rs := [6]) (by kernel_rfl) (by simp) (ReadyG.yield (some 13) (.tmp 7) #[.tmp 12] #[5] rfl rfl rfl l rfl #[.int .u8 (z : Int)] (by simp [Act.eval]) _ HY2 rfl ?_ (fun c w' h => by obtain ⟨_, _, ⟨h, -⟩ | ⟨h, -⟩⟩ := h <;> cases h) (fun w' h => by obtain ⟨_, _, ⟨h, -⟩ | ⟨h, -⟩⟩ := h <;> cases h) ReadyG.nil)
    rintro v W3 ⟨S3, hE3, hv3⟩
    refine ⟨tight_of (f := 3) ?_, ?_⟩
    · kernel_rfl
    have hE4 := Lib.hid hE3.undrew
    rcases hv3 with ⟨he, hJ3⟩ | ⟨he, hJx3⟩
    · obtain rfl : v = .bool true := by injection he
      simp only [Act.put, List.setIfInBounds_toArray, List.set_cons_succ, List.set_cons_zero]
      refine AnyG.take 7 (some 14) (.unOp .not 4 (.tmp 13)) (.bool false) rfl rfl (fun _ e => by cases e) (by kernel_rfl) (by kernel_rfl) (by kernel_rfl) (by kernel_rfl) rfl (fun _ _ _ h => h) (fun o ho w hw => by unfold execOp; rw [ho]; go_simp) (fun h => by omega) ?_
      simp only [Act.put, List.setIfInBounds_toArray, List.set_cons_succ, List.set_cons_zero]
      refine AnyG.done (by kernel_rfl) ?_ _
      rw [HZ.out] at hJ3
      have HJ3 := Lib.hid hJ3
      clear hJ3 he
      gi_wp2
      exact ⟨S3, hE4.out, by simpa using HJ3.out⟩
    · obtain rfl : v = .bool false := by injection he
      simp only [Act.put, List.setIfInBounds_toArray, List.set_cons_succ, List.set_cons_zero]
      refine AnyG.take 7 (some 14) (.unOp .not 4 (.tmp 13)) (.bool true) rfl rfl (fun _ e => by cases e) (by kernel_rfl) (by kernel_rfl) (by kernel_rfl) (by kernel_rfl) rfl (fun _ _ _ h => h) (fun o ho w hw => by unfold execOp; rw [ho]; go_simp) (fun h => by omega) ?_
      simp only [Act.put, List.setIfInBounds_toArray, List.set_cons_succ, List.set_cons_zero]
      refine AnyG.done (by kernel_rfl) ?_ _
      rw [HZ.out] at hJx3
      have HJ3 := Lib.hid hJx3
      clear hJx3 he
      gi_wp2
      exact ⟨S3, hE4.out, rfl, by simpa using HJ3.out⟩
  case done =>
    rintro D S2 W2 hD hnD hE hJ2 hK
    have HE := Lib.hid ((hE1.trans hE).late (D := D) (by simp at hD; omega) (.deferred none))
    have HJ := Lib.hid (hJ.put D (.deferred none) hnD hJ2)
    clear hY hE1 hE hJ2
    gi_wp2
    refine ⟨by simp, .inl ⟨_, _, rfl, run_takeDeferred hK, ?_⟩⟩
    exact ⟨_, results_none rfl _ _ _, ⟨_, rfl⟩, S2, HE.out, .inl HJ.out⟩
  case stop =>
    rintro D c pre S2 W2 hD hnD hE hpre ⟨rfl, hJ2⟩ hK
    have HE := Lib.hid ((hE1.trans hE).late (D := D) (by simp at hD; omega) (.deferred none))
    have HJ := Lib.hid (hJx.put D (.deferred none) hnD hJ2)
    have HP := Lib.hid (prefix_map (numAt set) hpre)
    clear hY hE1 hE hJ2 hpre
    gi_wp2
    refine ⟨by simp, .inl ⟨_, _, rfl, run_takeDeferred hK, ?_⟩⟩
    exact ⟨_, results_none rfl _ _ _, ⟨_, rfl⟩, S2, HE.out, .inr ⟨_, HP.out, HJ.out⟩⟩
end Go.Proofs.Ytlofoeapfmcolaa
/- Single operations of package codec's iterators: what each yields. -/
namespace Go.Proofs.Ytlofoeapfmcolaa
set_option linter.unusedSimpArgs false
open Go.RowKit Go.Shelf
set_option linter.unusedVariables false
theorem exec_shl49 {ρ : Operand → Value} {o : Oper} (x y : Operand) (ho : o.op = .binOp .shl 76 x y 3) (a n : Nat) (hx : ρ x = .int .u64 (a : Int)) (hy : ρ y = .int .i64 (n : Int)) (hn : n ≤ 64) (w : World) : (execOp ρ o).run Try.prog w = .ok (.value (.int .u64 ((a * 2 ^ n % 18446744073709551616 : Nat) : Int))) w := by
  unfold execOp; rw [ho]; go_simp
  rw [IntKind.wrap_u64]
theorem exec_shr49 {ρ : Operand → Value} {o : Oper} (x y : Operand) (ho : o.op = .binOp .shr 76 x y 3) (a n : Nat) (hx : ρ x = .int .u64 (a : Int)) (hy : ρ y = .int .i64 (n : Int)) (hn : n ≤ 64) (w : World) : (execOp ρ o).run Try.prog w = .ok (.value (.int .u64 ((a / 2 ^ n : Nat) : Int))) w := by
  unfold execOp; rw [ho]; go_simp
theorem exec_or49 {ρ : Operand → Value} {o : Oper} (x y : Operand) (ho : o.op = .binOp .or 76 x y 76) (a b : Nat) (hx : ρ x = .int .u64 (a : Int)) (hy : ρ y = .int .u64 (b : Int)) (ha : a < 18446744073709551616) (hb : b < 18446744073709551616) (w : World) : (execOp ρ o).run Try.prog w = .ok (.value (.int .u64 ((a ||| b : Nat) : Int))) w := by
  unfold execOp; rw [ho]; go_simp
  exact u64_or_nat a b ha hb
theorem exec_and49 {ρ : Operand → Value} {o : Oper} (x y : Operand) (ho : o.op = .binOp .and 76 x y 76) (a b : Nat) (hx : ρ x = .int .u64 (a : Int)) (hy : ρ y = .int .u64 (b : Int)) (ha : a < 18446744073709551616) (hb : b < 18446744073709551616) (w : World) : (execOp ρ o).run Try.prog w = .ok (.value (.int .u64 ((a &&& b : Nat) : Int))) w := by
  unfold execOp; rw [ho]; go_simp
  exact u64_and_nat a b ha hb
theorem exec_conv59 {ρ : Operand → Value} {o : Oper} (x : Operand) (ho : o.op = .convert 5 76 x) (a : Nat) (hx : ρ x = .int .u8 (a : Int)) (ha : a < 18446744073709551616) (w : World) : (execOp ρ o).run Try.prog w = .ok (.value (.int .u64 (a : Int))) w := by
  unfold execOp; rw [ho]; go_simp
  rw [IntKind.wrap_u64]; omega
theorem exec_conv495 {ρ : Operand → Value} {o : Oper} (x : Operand) (ho : o.op = .convert 76 5 x) (a : Nat) (hx : ρ x = .int .u64 (a : Int)) (w : World) : (execOp ρ o).run Try.prog w = .ok (.value (.int .u8 ((a % 256 : Nat) : Int))) w := by
  unfold execOp; rw [ho]; go_simp
  rw [IntKind.wrap_u8]
theorem exec_add3 {ρ : Operand → Value} {o : Oper} (x y : Operand) (ho : o.op = .binOp .add 3 x y 3) (a b : Nat) (hx : ρ x = .int .i64 (a : Int)) (hy : ρ y = .int .i64 (b : Int)) (hn : a + b < 9223372036854775808) (w : World) : (execOp ρ o).run Try.prog w = .ok (.value (.int .i64 ((a + b : Nat) : Int))) w := by
  unfold execOp; rw [ho]; go_simp
  rw [IntKind.wrap_i64]; omega
theorem exec_sub3 {ρ : Operand → Value} {o : Oper} (x y : Operand) (ho : o.op = .binOp .sub 3 x y 3) (a b : Nat) (hx : ρ x = .int .i64 (a : Int)) (hy : ρ y = .int .i64 (b : Int)) (hn : b ≤ a) (h2 : a < 9223372036854775808) (w : World) : (execOp ρ o).run Try.prog w = .ok (.value (.int .i64 ((a - b : Nat) : Int))) w := by
  unfold execOp; rw [ho]; go_simp
  rw [IntKind.wrap_i64]; omega
theorem exec_loadB {ρ : Operand → Value} {o : Oper} {t : TypeId} (x : Operand) (ho : o.op = .load t x) (b : Nat) (v : Value) (hx : ρ x = .pointer (some ⟨b, 0, none⟩)) (w : World) (hc : w.cell? ⟨b, 0, none⟩ = some v) (h1 : v.oneCell' = true) (ht : t = 3 ∨ t = 76 ∨ t = 75) : (execOp ρ o).run Try.prog w = .ok (.value v) w := by
  unfold execOp
  rw [ho]
  rcases ht with rfl | rfl | rfl <;> go_simp
end Go.Proofs.Ytlofoeapfmcolaa
/- The iterator of package codec that goes through bits, the highest first: what it hands out, whatever hands it its numbers. -/
namespace Go.Proofs.Ytlofoeapfmcolaa
set_option linter.unusedSimpArgs false
open Go.RowKit Go.Shelf
set_option linter.unusedVariables false
attribute [local go_sem] Oper.semAt_some

/-- What m bits, of which h's lowest ones are the lowest, tell in whole numbers of t bits. -/
def hiEmit (t h m : Nat) : List Nat := (List.range (m / t)).map fun i => h / 2 ^ (m - t * (i + 1)) % 2 ^ t
/-- The bits held, how many of them are yet to be told, what has been told. -/
def hiStep (f t : Nat) (s : Nat × Nat × List Nat) (x : Nat) : Nat × Nat × List Nat :=
  (s.1 * 2 ^ f % 18446744073709551616 ||| x, (s.2.1 + f) % t, s.2.2 ++ hiEmit t (s.1 * 2 ^ f % 18446744073709551616 ||| x) (s.2.1 + f))
def hiRun (f t : Nat) (l : List Nat) : Nat × Nat × List Nat := l.foldl (hiStep f t) (0, 0, [])
def hiAll (f t : Nat) (l : List Nat) : List Nat :=
  (hiRun f t l).2.2 ++ if 0 < (hiRun f t l).2.1 then [(hiRun f t l).1 * 2 ^ (t - (hiRun f t l).2.1) % 18446744073709551616 % 2 ^ t] else []
theorem hiRun_snoc (f t : Nat) (l : List Nat) (x : Nat) : hiRun f t (l ++ [x]) = hiStep f t (hiRun f t l) x := by simp [hiRun, List.foldl_append]
theorem hiRun_out (f t : Nat) (l m : List Nat) : (hiRun f t l).2.2 <+: (hiRun f t (l ++ m)).2.2 := by
  induction m generalizing l with
  | nil => simp
  | cons x m ih =>
    have h1 := ih (l ++ [x])
    rw [List.append_assoc, List.singleton_append, hiRun_snoc] at h1
    exact List.IsPrefix.trans ⟨_, rfl⟩ h1
theorem hiRun_all {f t : Nat} {l m : List Nat} (h : l <+: m) : (hiRun f t l).2.2 <+: hiAll f t m := by
  obtain ⟨k, rfl⟩ := h
  exact List.IsPrefix.trans (hiRun_out f t l k) ⟨_, rfl⟩
theorem hiEmit_length (t h m : Nat) : (hiEmit t h m).length = m / t := by simp [hiEmit]
theorem hiEmit_get (t h m i : Nat) (hi : i < m / t) : (hiEmit t h m)[i]'(by rw [hiEmit_length]; exact hi) = h / 2 ^ (m - t * (i + 1)) % 2 ^ t := by simp [hiEmit]
theorem hi_lt (f t : Nat) (ht : 0 < t) : ∀ (l : List Nat) (s : Nat × Nat × List Nat), s.1 < 18446744073709551616 → s.2.1 < t → (∀ x ∈ l, x < 256) → (l.foldl (hiStep f t) s).1 < 18446744073709551616 ∧ (l.foldl (hiStep f t) s).2.1 < t
  | [], _, h1, h2, _ => ⟨h1, h2⟩
  | x :: l, s, _, _, h => hi_lt f t ht l _ (Nat.or_lt_two_pow (n := 64) (Nat.mod_lt _ (by decide)) (by have := h x (by simp); omega)) (Nat.mod_lt _ ht) (fun y hy => h y (by simp [hy]))
theorem hiRun_lt (f t : Nat) (ht : 0 < t) (l : List Nat) (h : ∀ x ∈ l, x < 256) : (hiRun f t l).1 < 18446744073709551616 ∧ (hiRun f t l).2.1 < t := hi_lt f t ht l _ (by decide) ht h

/-- Between two rounds: what has been told is J's; the bits held and how many they are stand in two blocks of one's own. -/
def OwnI (J : List Nat → (Nat → Prop) → World → Prop) (b5 b6 : Nat) (run : List Nat → Nat × Nat × List Nat) (pre : List Nat) (S2 : Nat → Prop) (W2 : World) : Prop :=
  ∃ SJ : Nat → Prop, (∀ k, S2 k ↔ plus2 SJ b5 b6 k) ∧ ¬ SJ b5 ∧ ¬ SJ b6 ∧ J (run pre).2.2 SJ W2 ∧ Boxed W2 b5 76 (.int .u64 ((run pre).1 : Int)) ∧ Boxed W2 b6 3 (.int .i64 ((run pre).2.1 : Int))
def OwnX (Jx : List Nat → (Nat → Prop) → World → Prop) (b5 b6 : Nat) (xs : List Nat) (c : Code) (pre : List Nat) (S2 : Nat → Prop) (W2 : World) : Prop :=
  c = .ret ∧ ∃ (SJ : Nat → Prop) (q : List Nat), (∀ k, S2 k ↔ plus2 SJ b5 b6 k) ∧ b5 < W2.heap.size ∧ b6 < W2.heap.size ∧ q <+: xs ∧ Jx q SJ W2
theorem dep_ownI {J : List Nat → (Nat → Prop) → World → Prop} (hJ : Dep J) (b5 b6 : Nat) (run : List Nat → Nat × Nat × List Nat) : Dep (OwnI J b5 b6 run) := by
  refine ⟨?_, ?_⟩
  · rintro x S A C ⟨SJ, hS, h1, h2, hj, p5, p6⟩ hsz hk
    exact ⟨SJ, hS, h1, h2, hJ.same _ SJ A C hj hsz (fun k h => hk k ((hS k).2 (.inl h))), (hk b5 ((hS b5).2 (.inr (.inl rfl)))).trans p5, (hk b6 ((hS b6).2 (.inr (.inr rfl)))).trans p6⟩
  · rintro x S A ⟨SJ, hS, h1, h2, hj, p5, p6⟩ k hk
    rcases (hS k).1 hk with h | rfl | rfl
    · exact hJ.lt _ _ _ hj k h
    · exact p5.lt
    · exact p6.lt
theorem dep_ownX {Jx : List Nat → (Nat → Prop) → World → Prop} (hJ : Dep Jx) (b5 b6 : Nat) (xs : List Nat) (c : Code) : Dep (OwnX Jx b5 b6 xs c) := by
  refine ⟨?_, ?_⟩
  · rintro x S A C ⟨hc, SJ, q, hS, h1, h2, hq, hj⟩ hsz hk
    exact ⟨hc, SJ, q, hS, by omega, by omega, hq, hJ.same _ SJ A C hj hsz (fun k h => hk k ((hS k).2 (.inl h)))⟩
  · rintro x S A ⟨hc, SJ, q, hS, h1, h2, hq, hj⟩ k hk
    rcases (hS k).1 hk with h | rfl | rfl
    · exact hJ.lt _ _ _ hj k h
    · exact h1
    · exact h2
/-- The number in a block. -/
def boxN (w : World) (b : Nat) : Nat := match w.cell? ⟨b, 0, none⟩ with
  | some (.int _ q) => q.toNat
  | _ => 0
theorem boxN_eq {w : World} {b : Nat} {t : TypeId} {k : IntKind} {q : Nat} (h : Boxed w b t (.int k (q : Int))) : boxN w b = q := by
  unfold boxN; rw [h.cell]; simp
theorem Ext.box {S T : Nat → Prop} {A C : World} (h : Ext S T A C) {b : Nat} {t : TypeId} {v : Value} (hb : Boxed A b t v) (hs : ¬ S b) : Boxed C b t v := (h.keep b hb.lt hs).trans hb

/-- The end of a region that goes through. -/
def onlyK (K : Act → World → Prop) : Exit → Act → World → Prop
  | .normal, a, w => K a w
  | _, _, _ => False
theorem onlyK_then {K : Act → World → Prop} {Q : Exit → Act → World → Prop} (e : Exit) (a : Act) (w : World) (h : onlyK K e a w) : Exit.then K Q e a w := by
  cases e <;> first | exact h | exact h.elim

/-- One more block of one's own beside what J says. -/
theorem Ext.plus {S T : Nat → Prop} {A B : World} (h : Ext S T A B) (a b : Nat) : Ext (plus2 S a b) (plus2 T a b) A B :=
  h.weaken (fun k _ hk hs => hk (.inl hs)) (fun k _ hk ht => by rintro (h1 | h1 | h1); exact ht h1; exact hk (.inr (.inl h1)); exact hk (.inr (.inr h1)))
theorem ext_set (S : Nat → Prop) (W : World) (b : Nat) (v : Value) (hS : S b) : Ext S S W (W.setCell ⟨b, 0, none⟩ v) :=
  ⟨rfl, rfl, rfl, by simp [World.setCell], fun _ _ h => h, fun k _ hk => Below.heap_setCell _ _ _ _ (fun e => hk (by rw [e]; exact hS))⟩
/-- What has turned since a call began, told without the call's own two blocks. -/
theorem Ext.own {S0 S SJ0 SJ : Nat → Prop} {W w1 w2 : World} {a b : Nat} (h : Ext S0 S w1 w2) (hb : Below W.heap.size W w1) (ha : W.heap.size ≤ a) (hb2 : W.heap.size ≤ b) (h0 : ∀ k, S0 k → plus2 SJ0 a b k) (h1 : ∀ k, SJ k → S k) : Ext SJ0 SJ W w2 := by
  refine ⟨h.os.trans hb.os, h.tape.trans hb.tape, h.output.trans hb.output, Nat.le_trans hb.size h.size, fun k hk hs hj => ?_, fun k hk hs => ?_⟩
  · exact h.new k (by have := hb.size; omega) (fun h2 => by rcases h0 k h2 with h3 | h3 | h3; exact hs h3; omega; omega) (h1 k hj)
  · rw [h.keep k (by have := hb.size; omega) (fun h2 => by rcases h0 k h2 with h3 | h3 | h3; exact hs h3; omega; omega)]
    exact hb.block k hk

/-- What every step of the beginning keeps. -/
def Base (W : World) (B l bt t : Nat) (w : World) : Prop := bt < B ∧ B < w.heap.size ∧ Below B W w ∧ Boxed w B 75 (.func (.yield l) #[] #[]) ∧ w.cell? ⟨bt, 0, none⟩ = some (.int .i64 (t : Int))
theorem Base.alloc {W : World} {B l bt t : Nat} {w : World} (h : Base W B l bt t w) (o : Obj) : Base W B l bt t (w.alloc o) := by
  obtain ⟨h1, h2, h3, h4, h5⟩ := h
  refine ⟨h1, by simp; omega, h3.alloc (by omega) o, h4.alloc o, ?_⟩
  exact (World.cell?_of_block (w := w) (a := ⟨bt, 0, none⟩) (Below.heap_alloc w o bt (by omega))).trans h5
theorem Base.set {W : World} {B l bt t : Nat} {w : World} (h : Base W B l bt t w) (b : Nat) (hb : B < b) (v : Value) : Base W B l bt t (w.setCell ⟨b, 0, none⟩ v) := by
  obtain ⟨h1, h2, h3, h4, h5⟩ := h
  refine ⟨h1, by simp [World.setCell]; omega, h3.setCell (p := ⟨b, 0, none⟩) (by simp; omega) v, h4.other (by omega) v, ?_⟩
  exact (World.cell?_of_block (w := w) (a := ⟨bt, 0, none⟩) (Below.heap_setCell w ⟨b, 0, none⟩ v bt (by simp; omega))).trans h5
theorem exec_alloc49 {ρ : Operand → Value} {o : Oper} (ho : o.op = .alloc 76) (w : World) : (execOp ρ o).run Try.prog w = .ok (.value (.pointer (some ⟨w.heap.size, 0, none⟩))) (w.alloc (.cells #[.int .u64 0] 76)) := by
  unfold execOp; rw [ho]; go_simp
theorem exec_alloc3 {ρ : Operand → Value} {o : Oper} (ho : o.op = .alloc 3) (w : World) : (execOp ρ o).run Try.prog w = .ok (.value (.pointer (some ⟨w.heap.size, 0, none⟩))) (w.alloc (.cells #[.int .i64 0] 3)) := by
  unfold execOp; rw [ho]; go_simp
theorem exec_store49 {ρ : Operand → Value} {o : Oper} (x y : Operand) (ho : o.op = .store 76 x y) (b : Nat) (q u : Int) (hx : ρ x = .pointer (some ⟨b, 0, none⟩)) (hy : ρ y = .int .u64 q) (w : World) (hb : Boxed w b 76 (.int .u64 u)) : (execOp ρ o).run Try.prog w = .ok .skip (w.setCell ⟨b, 0, none⟩ (.int .u64 q)) := by
  have h1 := hb.cell
  have h2 := hb.frozen
  unfold execOp; rw [ho]; go_simp
theorem exec_store3 {ρ : Operand → Value} {o : Oper} (x y : Operand) (ho : o.op = .store 3 x y) (b : Nat) (q u : Int) (hx : ρ x = .pointer (some ⟨b, 0, none⟩)) (hy : ρ y = .int .i64 q) (w : World) (hb : Boxed w b 3 (.int .i64 u)) : (execOp ρ o).run Try.prog w = .ok .skip (w.setCell ⟨b, 0, none⟩ (.int .i64 q)) := by
  have h1 := hb.cell
  have h2 := hb.frozen
  unfold execOp; rw [ho]; go_simp

end Go.Proofs.Ytlofoeapfmcolaa
