/- The iterator of package codec that goes through bits, the lowest first: what it hands out, whatever hands it its numbers. -/
import Derived.Test.YtdbbcngolcnniaaGreatDoorY11
namespace Go.Proofs.YtdbbcngolcnniaaGreatDoor
set_option linter.unusedSimpArgs false
open Go.RowKit Go.Shelf
set_option linter.unusedVariables false
attribute [local go_sem] Oper.semAt_some
def loEmit (t h m : Nat) : List Nat := (List.range (m / t)).map fun i => h / 2 ^ (t * i) % 2 ^ t
def loStep (f t : Nat) (s : Nat × Nat × List Nat) (x : Nat) : Nat × Nat × List Nat :=
 ((s.1 ||| x * 2 ^ s.2.1 % 18446744073709551616) / 2 ^ (t * ((s.2.1 + f) / t)), (s.2.1 + f) % t, s.2.2 ++ loEmit t (s.1 ||| x * 2 ^ s.2.1 % 18446744073709551616) (s.2.1 + f))
def loRun (f t : Nat) (l : List Nat) : Nat × Nat × List Nat := l.foldl (loStep f t) (0, 0, [])
def loAll (f t : Nat) (l : List Nat) : List Nat := (loRun f t l).2.2 ++ if 0 < (loRun f t l).2.1 then [(loRun f t l).1 % 256] else []
theorem loRun_snoc (f t : Nat) (l : List Nat) (x : Nat) : loRun f t (l ++ [x]) = loStep f t (loRun f t l) x := by simp [loRun, List.foldl_append]
theorem loRun_out (f t : Nat) (l m : List Nat) : (loRun f t l).2.2 <+: (loRun f t (l ++ m)).2.2 := by
 induction m generalizing l with
 | nil => simp
 | cons x m ih =>
  have h1 := ih (l ++ [x])
  rw [List.append_assoc, List.singleton_append, loRun_snoc] at h1
  exact List.IsPrefix.trans ⟨_, rfl⟩ h1
theorem loRun_all {f t : Nat} {l m : List Nat} (h : l <+: m) : (loRun f t l).2.2 <+: loAll f t m := by
 obtain ⟨k, rfl⟩ := h
 exact List.IsPrefix.trans (loRun_out f t l k) ⟨_, rfl⟩
theorem loEmit_length (t h m : Nat) : (loEmit t h m).length = m / t := by simp [loEmit]
theorem loEmit_get (t h m i : Nat) (hi : i < m / t) : (loEmit t h m)[i]'(by rw [loEmit_length]; exact hi) = h / 2 ^ (t * i) % 2 ^ t := by simp [loEmit]
theorem lo_lt (f t : Nat) (ht : 0 < t) : ∀ (l : List Nat) (s : Nat × Nat × List Nat), s.1 < 18446744073709551616 → s.2.1 < t → (∀ x ∈ l, x < 256) → (l.foldl (loStep f t) s).1 < 18446744073709551616 ∧ (l.foldl (loStep f t) s).2.1 < t
 | [], _, h1, h2, _ => ⟨h1, h2⟩
 | x :: l, s, h1, _, h => lo_lt f t ht l _ (Nat.lt_of_le_of_lt (Nat.div_le_self _ _) (Nat.or_lt_two_pow (n := 64) h1 (Nat.mod_lt _ (by decide)))) (Nat.mod_lt _ ht) (fun y hy => h y (by simp [hy]))
theorem loRun_lt (f t : Nat) (ht : 0 < t) (l : List Nat) (h : ∀ x ∈ l, x < 256) : (loRun f t l).1 < 18446744073709551616 ∧ (loRun f t l).2.1 < t := lo_lt f t ht l _ (by decide) ht h
set_option maxHeartbeats 2000000 in
theorem lowest_seq (f t : Nat) (gf : Nat) (lb : Array Value) (ys : List Nat) (n0 n1 bt bl bf : Nat) (w0 : World) (hq : SeqOK Tryz.prog gf lb ys n1 w0) (hn1 : n1 ≤ n0) (hn : n0 ≤ w0.heap.size) (hbt : bt < n0) (hbl : bl < n0) (hbf : bf < n0)
  (ht1 : 1 ≤ t) (ht8 : t ≤ 8) (hf1 : 1 ≤ f) (hf8 : f ≤ 8)
  (hct : w0.cell? ⟨bt, 0, none⟩ = some (.int .i64 (t : Int))) (hcl : w0.cell? ⟨bl, 0, none⟩ = some (.func (.func gf) #[] lb)) (hcf : w0.cell? ⟨bf, 0, none⟩ = some (.int .i64 (f : Int)))
  (eg : ∀ args w, (callFunc gf args).run Tryz.prog w = .ok (.enter gf args) w) (hys : ∀ y ∈ ys, y < 256) :
  SeqOK Tryz.prog 83 #[.pointer (some ⟨bt, 0, none⟩), .pointer (some ⟨bl, 0, none⟩), .pointer (some ⟨bf, 0, none⟩)] (loAll f t ys) n0 w0 := by
 refine ⟨hn, ?_⟩
 intro m l J Jx S W hW hJ hJx hS hY h0
 have hs1 := hW.size
 have dt : W.cell? ⟨bt, 0, none⟩ = some (.int .i64 (t : Int)) := (hW.cell (p := ⟨bt, 0, none⟩) hbt).trans hct
 have dl : W.cell? ⟨bl, 0, none⟩ = some (.func (.func gf) #[] lb) := (hW.cell (p := ⟨bl, 0, none⟩) hbl).trans hcl
 have df : W.cell? ⟨bf, 0, none⟩ = some (.int .i64 (f : Int)) := (hW.cell (p := ⟨bf, 0, none⟩) hbf).trans hcf
 refine callsIn_of_wp_marks Tryz.func83 rfl trivial ?_ rfl
 simp only [Tryz.ntmps83, List.size_toArray, List.length_cons, List.length_nil, Nat.reduceAdd, Nat.reduceSub, Array.replicate_succ, Array.replicate_zero, List.push_toArray, List.append_toArray, List.nil_append, List.cons_append]
 have hd : Fence.wide.depth = none := rfl
 clear hct hcl hcf
 gi_wp2
 rename_i Q1 K hK
 obtain ⟨B, hB⟩ : ∃ B, B = W.heap.size := ⟨_, rfl⟩
 obtain ⟨P, hP⟩ : ∃ P : Nat, P = 2 ^ t := ⟨_, rfl⟩
 obtain ⟨M, hM⟩ : ∃ M : Nat, M = 2 ^ t - 1 := ⟨_, rfl⟩
 have hPe := Lib.hid hP
 have hMe := Lib.hid hM
 clear hP hM
 have hBH := Lib.hid hB
 have main : ∀ (b5 b6 b7 : Nat) (W3 : World), b5 ≠ b6 → b5 ≠ b7 → b6 ≠ b7 → B < b5 → B < b6 → B < b7 → Below B W W3 → Boxed W3 B 81 (.func (.yield l) #[] #[]) → Boxed W3 b5 52 (.int .u64 0) → Boxed W3 b6 3 (.int .i64 0) → Boxed W3 b7 52 (.int .u64 (M : Int)) →
   K { tmps := (.func (.yield l) #[] #[] :: .pointer (some ⟨bt, 0, none⟩) :: .pointer (some ⟨bl, 0, none⟩) :: .pointer (some ⟨bf, 0, none⟩) :: .pointer (some ⟨B, 0, none⟩) :: .pointer (some ⟨b5, 0, none⟩) :: .pointer (some ⟨b6, 0, none⟩) :: .pointer (some ⟨b7, 0, none⟩) :: undef :: .int .i64 (t : Int) :: .int .u64 (P : Int) :: .int .u64 (M : Int) :: undef :: undef :: undef :: undef :: undef :: undef :: undef :: undef :: undef :: undef :: undef :: undef :: undef :: undef :: undef :: undef :: undef :: undef :: undef :: undef :: undef :: undef :: undef :: undef :: undef :: undef :: undef :: undef :: undef :: undef :: undef :: undef :: undef :: []).toArray, defers := [] } W3 := by
  intro b5 b6 b7 W3 n56 n57 n67 g5 g6 g7 hBel q4 q5 q6 q7
  have cl3 : W3.cell? ⟨bl, 0, none⟩ = some (.func (.func gf) #[] lb) := (hBel.cell (p := ⟨bl, 0, none⟩) (by simp; omega)).trans dl
  have ct3 : W3.cell? ⟨bt, 0, none⟩ = some (.int .i64 (t : Int)) := (hBel.cell (p := ⟨bt, 0, none⟩) (by simp; omega)).trans dt
  have cf3 : W3.cell? ⟨bf, 0, none⟩ = some (.int .i64 (f : Int)) := (hBel.cell (p := ⟨bf, 0, none⟩) (by simp; omega)).trans df
  have hSB : ∀ k, S k → k < B := fun k hk => by rw [hB]; exact hJ.lt _ _ _ h0 k hk
  have hBW : B ≤ W3.heap.size := by have := q4.lt; omega
  have hBn : n0 ≤ B := by omega
  clear hB
  refine hK _ _ ?_
  gi_wp2
  refine wpIn_rangeFunc_set (gf := gf) (lb := lb) rfl eg (hq.up hn1 hn) (hW.trans (hBel.mono (by omega))) rfl
   (OwnI J b5 b6 (loRun f t)) (OwnX Jx b5 b6 (loAll f t ys)) (dep_ownI hJ _ _ _) (fun c => dep_ownX hJx _ _ _ c) (plus2 S b5 b6)
   (fun k hk => by rcases hk with h | h | h; exact hS k h; omega; omega)
   ⟨S, fun _ => Iff.rfl, fun h => by have := hSB _ h; omega, fun h => by have := hSB _ h; omega, hJ.same _ S W W3 h0 hBel.size (fun k hk => hBel.block k (hSB k hk)), q5, q6⟩
   (fun x => { tmps := (.func (.yield l) #[] #[] :: .pointer (some ⟨bt, 0, none⟩) :: .pointer (some ⟨bl, 0, none⟩) :: .pointer (some ⟨bf, 0, none⟩) :: .pointer (some ⟨B, 0, none⟩) :: .pointer (some ⟨b5, 0, none⟩) :: .pointer (some ⟨b6, 0, none⟩) :: .pointer (some ⟨b7, 0, none⟩) :: .int .u8 (x : Int) :: .int .i64 (t : Int) :: .int .u64 (P : Int) :: .int .u64 (M : Int) :: .func (.func gf) #[] lb :: .int .u8 (x : Int) :: undef :: undef :: undef :: undef :: undef :: undef :: undef :: undef :: undef :: undef :: undef :: undef :: undef :: undef :: undef :: undef :: undef :: undef :: undef :: undef :: undef :: undef :: undef :: undef :: undef :: undef :: undef :: undef :: undef :: undef :: undef :: []).toArray, defers := [] }) ?assign ?body ?done ?stop
  case assign =>
   intro l x W K hK
   gi_wp2
   exact hK
  case body =>
   rintro lr pre x S2 W2 hE ⟨SJ, hS2, n5, n6, hJ2, p5, p6⟩ hpre
   have hx : x < 256 := hys x (by obtain ⟨u, rfl⟩ := hpre; simp)
   have nB : ¬ plus2 S b5 b6 B := by rintro (h | h | h); have := hSB _ h; omega; omega; omega
   have nt : ¬ plus2 S b5 b6 bt := by rintro (h | h | h); have := hS _ h; omega; omega; omega
   have nf : ¬ plus2 S b5 b6 bf := by rintro (h | h | h); have := hS _ h; omega; omega; omega
   have n7 : ¬ plus2 S b5 b6 b7 := by rintro (h | h | h); have := hSB _ h; omega; omega; omega
   have p4 : Boxed W2 B 81 (.func (.yield l) #[] #[]) := hE.box q4 nB
   have p7 : Boxed W2 b7 52 (.int .u64 (M : Int)) := hE.box q7 n7
   have et : W2.cell? ⟨bt, 0, none⟩ = some (.int .i64 (t : Int)) := (hE.cellb (by omega) nt).trans ct3
   have ef : W2.cell? ⟨bf, 0, none⟩ = some (.int .i64 (f : Int)) := (hE.cellb (by omega) nf).trans cf3
   obtain ⟨hlt, hnt⟩ := loRun_lt f t (by omega) pre (fun y hy => hys y (by obtain ⟨u, rfl⟩ := hpre; simp [hy]))
   have hrun := loRun_snoc f t pre x
   have hall : (loRun f t (pre ++ [x])).2.2 <+: loAll f t ys := loRun_all hpre
   obtain ⟨h, hh⟩ : ∃ h, h = (loRun f t pre).1 := ⟨_, rfl⟩
   obtain ⟨n, hn⟩ : ∃ n, n = (loRun f t pre).2.1 := ⟨_, rfl⟩
   obtain ⟨out, hout⟩ : ∃ out, out = (loRun f t pre).2.2 := ⟨_, rfl⟩
   obtain ⟨h1, hh1⟩ : ∃ h1, h1 = x * 2 ^ n % 18446744073709551616 := ⟨_, rfl⟩
   obtain ⟨h2, hh2⟩ : ∃ h2, h2 = h ||| h1 := ⟨_, rfl⟩
   obtain ⟨mm, hmm⟩ : ∃ mm, mm = n + f := ⟨_, rfl⟩
   rw [← hh] at p5 hlt
   rw [← hn] at p6 hnt
   rw [← hout] at hJ2
   have hrun2 : loRun f t (pre ++ [x]) = (h2 / 2 ^ (t * (mm / t)), mm % t, out ++ loEmit t h2 mm) := by rw [hrun, loStep, ← hh, ← hn, ← hout, hh2, hh1, hmm]
   rw [hrun2] at hall
   have h1lt : h1 < 18446744073709551616 := by rw [hh1]; exact Nat.mod_lt _ (by decide)
   have h2lt : h2 < 18446744073709551616 := by rw [hh2]; exact Nat.or_lt_two_pow (n := 64) hlt h1lt
   have hnf : n + f < 9223372036854775808 := by omega
   have hmm16 : mm < 16 := by omega
   clear hh hn hout hrun
   have HRUN := Lib.hid hrun2
   have HALL := Lib.hid hall
   clear hrun2 hall hpre
   gi_wp2
   rename_i Q2 K2 hK2
   have n5t : bt ≠ b5 := by omega
   refine wpIn_region_any (by kernel_rfl) ?_
   change wpAnyIn _ _ _ _ _ _ _ _ _ (World.drew _)
   refine anyIn_unround lr rfl (by kernel_rfl) _ _ _ _ ?_
   refine anyIn_of_G (T := fun i => i < 9) (S := fun i w => (i = 0 → Boxed w b5 52 (.int .u64 (h : Int))) ∧ Boxed w b6 3 (.int .i64 (n : Int)) ∧ w.cell? ⟨bf, 0, none⟩ = some (.int .i64 (f : Int))) _ _ _ _ ?_
   have HSH : Hid (∀ i : Nat, (i = 0 → Boxed W2.drew b5 52 (.int .u64 (h : Int))) ∧ Boxed W2.drew b6 3 (.int .i64 (n : Int)) ∧ W2.drew.cell? ⟨bf, 0, none⟩ = some (.int .i64 (f : Int))) := fun _ => ⟨fun _ => p5, p6, ef⟩
   refine AnyG.take 0 (some 14) (.load 52 (.tmp 5)) (.int .u64 (h : Int)) rfl rfl (fun _ e => by cases e) (by kernel_rfl) (by kernel_rfl) (by kernel_rfl) (by kernel_rfl) rfl (fun _ _ _ h => h) (fun o ho w hw => exec_loadB (.tmp 5) ho b5 _ rfl w (hw.1 rfl).cell rfl (by simp)) (HSH.out 0) ?_
   simp only [Act.put, sT, sS, sZ]
   refine AnyG.take 1 (some 15) (.move (.tmp 8)) (.int .u8 (x : Int)) rfl rfl (fun _ e => by cases e) (by kernel_rfl) (by kernel_rfl) (by kernel_rfl) (by kernel_rfl) rfl (fun _ _ _ h => h) (fun o ho w hw => by unfold execOp; rw [ho]; go_simp) (HSH.out 1) ?_
   simp only [Act.put, sT, sS, sZ]
   refine AnyG.take 2 (some 16) (.convert 5 52 (.tmp 15)) (.int .u64 (x : Int)) rfl rfl (fun _ e => by cases e) (by kernel_rfl) (by kernel_rfl) (by kernel_rfl) (by kernel_rfl) rfl (fun _ _ _ h => h) (fun o ho w hw => exec_conv59 (.tmp 15) ho x rfl (by omega) w) (HSH.out 2) ?_
   simp only [Act.put, sT, sS, sZ]
   refine AnyG.take 3 (some 17) (.load 3 (.tmp 6)) (.int .i64 (n : Int)) rfl rfl (fun _ e => by cases e) (by kernel_rfl) (by kernel_rfl) (by kernel_rfl) (by kernel_rfl) rfl (fun _ _ _ h => h) (fun o ho w hw => exec_loadB (.tmp 6) ho b6 _ rfl w hw.2.1.cell rfl (by simp)) (HSH.out 3) ?_
   simp only [Act.put, sT, sS, sZ]
   refine AnyG.take 4 (some 18) (.binOp .shl 52 (.tmp 16) (.tmp 17) 3) (.int .u64 (h1 : Int)) rfl rfl (fun _ e => by cases e) (by kernel_rfl) (by kernel_rfl) (by kernel_rfl) (by kernel_rfl) rfl (fun _ _ _ h => h) (fun o ho w hw => by rw [hh1]; exact exec_shl49 (.tmp 16) (.tmp 17) ho x n rfl rfl (by omega) w) (HSH.out 4) ?_
   simp only [Act.put, sT, sS, sZ]
   refine AnyG.take 5 (some 19) (.binOp .or 52 (.tmp 14) (.tmp 18) 52) (.int .u64 (h2 : Int)) rfl rfl (fun _ e => by cases e) (by kernel_rfl) (by kernel_rfl) (by kernel_rfl) (by kernel_rfl) rfl (fun _ _ _ h => h) (fun o ho w hw => by rw [hh2]; exact exec_or49 (.tmp 14) (.tmp 18) ho h h1 rfl rfl hlt h1lt w) (HSH.out 5) ?_
   simp only [Act.put, sT, sS, sZ]
   refine AnyG.take 6 (some 20) (.load 3 (.tmp 6)) (.int .i64 (n : Int)) rfl rfl (fun _ e => by cases e) (by kernel_rfl) (by kernel_rfl) (by kernel_rfl) (by kernel_rfl) rfl (fun _ _ _ h => h) (fun o ho w hw => exec_loadB (.tmp 6) ho b6 _ rfl w hw.2.1.cell rfl (by simp)) (HSH.out 6) ?_
   simp only [Act.put, sT, sS, sZ]
   refine AnyG.take 7 (some 21) (.load 3 (.tmp 3)) (.int .i64 (f : Int)) rfl rfl (fun _ e => by cases e) (by kernel_rfl) (by kernel_rfl) (by kernel_rfl) (by kernel_rfl) rfl (fun _ _ _ h => h) (fun o ho w hw => exec_loadB (.tmp 3) ho bf _ rfl w hw.2.2 rfl (by simp)) (HSH.out 7) ?_
   simp only [Act.put, sT, sS, sZ]
   refine AnyG.take 8 (some 22) (.binOp .add 3 (.tmp 20) (.tmp 21) 3) (.int .i64 (mm : Int)) rfl rfl (fun _ e => by cases e) (by kernel_rfl) (by kernel_rfl) (by kernel_rfl) (by kernel_rfl) rfl (fun _ _ _ h => h) (fun o ho w hw => by rw [hmm]; exact exec_add3 (.tmp 20) (.tmp 21) ho n f rfl rfl hnf w) (HSH.out 8) ?_
   simp only [Act.put, sT, sS, sZ]
   have hbf5 : bf ≠ b5 := by omega
   refine AnyG.ready (rs := [9]) (by kernel_rfl) (by simp) (ReadyG.skip (.store 52 (.tmp 5) (.tmp 19)) rfl rfl (fun _ e => by cases e) (fun o ho => exec_store49 (.tmp 5) (.tmp 19) ho b5 (h2 : Int) (h : Int) rfl rfl _ p5) rfl ?_ ?_ ReadyG.nil)
   ·intro i hi hT hw
    refine ⟨fun h0 => ?_, Boxed.other (W := W2.drew) p6 (by omega) _, ?_⟩
    ·subst h0
     exact no_wait hw (by kernel_rfl)
    ·exact (World.cell?_of_block (w := W2.drew) (a := ⟨bf, 0, none⟩) (Below.heap_setCell W2.drew ⟨b5, 0, none⟩ _ bf hbf5)).trans ef
   refine AnyG.ready (rs := [10]) (by kernel_rfl) (by simp) (ReadyG.skip (.store 3 (.tmp 6) (.tmp 22)) rfl rfl (fun _ e => by cases e) (fun o ho => exec_store3 (.tmp 6) (.tmp 22) ho b6 (mm : Int) (n : Int) rfl rfl _ (Boxed.other (W := W2.drew) p6 (by omega) _)) rfl ?_ ?_ ReadyG.nil)
   ·exact tight_any (f := 11) (by kernel_rfl) (Nat.le_refl _)
   refine AnyG.done (by kernel_rfl) ?_ _
   have E4 : Ext S2 S2 W2 ((W2.drew.setCell ⟨b5, 0, none⟩ (.int .u64 (h2 : Int))).setCell ⟨b6, 0, none⟩ (.int .i64 (mm : Int))) :=
    ((ext_set S2 W2.drew b5 _ ((hS2 b5).2 (.inr (.inl rfl)))).trans (ext_set S2 _ b6 _ ((hS2 b6).2 (.inr (.inr rfl))))).undrew
   have J4 : J out SJ ((W2.drew.setCell ⟨b5, 0, none⟩ (.int .u64 (h2 : Int))).setCell ⟨b6, 0, none⟩ (.int .i64 (mm : Int))) := hJ.setCell ⟨b6, 0, none⟩ _ n6 (hJ.setCell ⟨b5, 0, none⟩ _ n5 (hJ.drew hJ2))
   have r5 : Boxed ((W2.drew.setCell ⟨b5, 0, none⟩ (.int .u64 (h2 : Int))).setCell ⟨b6, 0, none⟩ (.int .i64 (mm : Int))) b5 52 (.int .u64 (h2 : Int)) := (Boxed.set (W := W2.drew) _ p5).other n56 _
   have r6 : Boxed ((W2.drew.setCell ⟨b5, 0, none⟩ (.int .u64 (h2 : Int))).setCell ⟨b6, 0, none⟩ (.int .i64 (mm : Int))) b6 3 (.int .i64 (mm : Int)) := (Boxed.other (W := W2.drew) p6 (by omega) _).set _
   generalize (W2.drew.setCell ⟨b5, 0, none⟩ (.int .u64 (h2 : Int))).setCell ⟨b6, 0, none⟩ (.int .i64 (mm : Int)) = W4 at *
   have q4lt := q4.lt
   have s5 : ¬ S2 B := hE.new B q4lt nB
   have s7 : ¬ S2 b7 := hE.new b7 q7.lt n7
   have st : ¬ S2 bt := hE.new bt (by omega) nt
   have hsz := hE.size
   have p7lt := p7.lt
   have p4lt := p4.lt
   have s5a := n5
   have s6a := n6
   clear HSH p5 p6 hh1 hh2 h1lt n5 n6 hJ2
   clear nB nt nf n7
   show K2 _ W4
   refine hK2 _ _ ?_
   clear hK2
   have E0 : Ext (plus2 S b5 b6) S2 W3 W2 := hE
   have HE0 := Lib.hid E0
   have HS2 := Lib.hid hS2
   have HJdep := Lib.hid hJ
   clear hE hS2 E0 hmm
   gi_wp2
   gi_loopw [] (fun wr => ∃ (i : Nat) (SJ1 S3 : Nat → Prop), i ≤ mm / t ∧ (∀ k, S3 k ↔ plus2 SJ1 b5 b6 k) ∧ ¬ SJ1 b5 ∧ ¬ SJ1 b6 ∧ Ext S2 S3 W2 wr ∧ J (out ++ (loEmit t h2 mm).take i) SJ1 wr ∧ Boxed wr b5 52 (.int .u64 ((h2 / 2 ^ (t * i) : Nat) : Int)) ∧ Boxed wr b6 3 (.int .i64 ((mm - t * i : Nat) : Int)))
    (fun wr => boxN wr b6)
   case atStart =>
    exact ⟨0, SJ, S2, Nat.zero_le _, HS2.out, fun h => s5a h, fun h => s6a h, E4, by simpa using J4, by simpa using r5, by simpa using r6⟩
   case round =>
    obtain ⟨i, SJ1, S3, hi, hS3, n51, n61, E5, J5, r51, r61⟩ := hrel
    have f4 : Boxed wr B 81 (.func (.yield l) #[] #[]) := E5.box p4 s5
    have f7 : Boxed wr b7 52 (.int .u64 (M : Int)) := E5.box p7 s7
    have ft : wr.cell? ⟨bt, 0, none⟩ = some (.int .i64 (t : Int)) := (E5.cellb (by omega) st).trans et
    obtain ⟨q, hq⟩ : ∃ q, q = mm - t * i := ⟨_, rfl⟩
    rw [← hq] at r61
    have hmd : t * (mm / t) + mm % t = mm := Nat.div_add_mod mm t
    have hmt : mm % t < t := Nat.mod_lt _ (by omega)
    have hil : t * i ≤ t * (mm / t) := Nat.mul_le_mul_left t hi
    have hq15 : q < 16 := by omega
    by_cases hlt : i < mm / t
    ·have hi1 : t * (i + 1) ≤ t * (mm / t) := Nat.mul_le_mul_left t hlt
     have hm1 : t * (i + 1) = t * i + t := Nat.mul_succ t i
     have htq : t ≤ q := by omega
     obtain ⟨e, he⟩ : ∃ e, e = q - t := ⟨_, rfl⟩
     obtain ⟨g, hg⟩ : ∃ g, g = h2 / 2 ^ (t * i) := ⟨_, rfl⟩
     obtain ⟨v, hv⟩ : ∃ v, v = g % 2 ^ t := ⟨_, rfl⟩
     obtain ⟨g2, hg2⟩ : ∃ g2, g2 = g / 2 ^ t := ⟨_, rfl⟩
     rw [← hg] at r51
     have hvM : g &&& M = v := by rw [hv, hMe.out]; exact Nat.and_two_pow_sub_one_eq_mod g t
     have hp8 : 2 ^ t ≤ 2 ^ 8 := Nat.pow_le_pow_right (by decide) ht8
     have hv8 : v < 256 := by rw [hv]; exact Nat.lt_of_lt_of_le (Nat.mod_lt _ (Nat.two_pow_pos t)) hp8
     have hM8 : M < 18446744073709551616 := by rw [hMe.out]; omega
     have hg8 : g < 18446744073709551616 := by rw [hg]; exact Nat.lt_of_le_of_lt (Nat.div_le_self _ _) h2lt
     have hlen : i < (loEmit t h2 mm).length := by rw [loEmit_length]; exact hlt
     have hem : (loEmit t h2 mm)[i] = v := by rw [loEmit_get t h2 mm i hlt, hv, hg]
     have hstep := take_succ_get (loEmit t h2 mm) i hlen
     rw [hem] at hstep
     have hpre2 : (out ++ (loEmit t h2 mm).take i) ++ [v] <+: loAll f t ys := by
      have h5 := take_prefix (loEmit t h2 mm) i hlen
      rw [hem] at h5
      obtain ⟨u, hu⟩ := h5
      refine List.IsPrefix.trans ⟨u, ?_⟩ HALL.out
      show out ++ List.take i (loEmit t h2 mm) ++ [v] ++ u = out ++ loEmit t h2 mm
      rw [show out ++ List.take i (loEmit t h2 mm) ++ [v] ++ u = out ++ (List.take i (loEmit t h2 mm) ++ [v] ++ u) by simp, hu]
     have hEJ : Ext S SJ1 W wr := (HE0.out.trans E5).own (hBH.out ▸ hBel) (by have := hBH.out; omega) (by have := hBH.out; omega) (fun k h => h) (fun k h => (hS3 k).2 (.inl h))
     obtain ⟨fn, tmps, assign, body, hy, hR⟩ := anyDepthY hd (m - 1) (hY (out ++ (loEmit t h2 mm).take i) v SJ1 wr hEJ J5 hpre2)
     have HR := Lib.hid hR
     have HP2 := Lib.hid hpre2
     have HST := Lib.hid hstep
     have HQ := Lib.hid (show mm - t * (i + 1) = e by rw [he, hq, hm1]; omega)
     have HG2 := Lib.hid (show h2 / 2 ^ (t * (i + 1)) = g2 by rw [hg2, hg, hm1, Nat.pow_add, Nat.div_div_eq_div_mul])
     have hband : bits .and .u64 (g : Int) (M : Int) = (v : Int) := by rw [u64_and_nat g M hg8 hM8, hvM]
     have hwv : IntKind.u8.wrap (v : Int) = (v : Int) := by rw [IntKind.wrap_u8]; omega
     have hshr : (g : Int) / 2 ^ t = (g2 : Int) := by rw [hg2]; simp
     have c4 := f4.cell
     have c5 := r51.cell
     have c6 := r61.cell
     have c7 := f7.cell
     have t5 : ¬ S3 bt := E5.new bt (by omega) st
     clear hR hstep hpre2 hEJ hmd hi1 hm1 hY hq hil hvM hg hg2 hv hM8 hg8 hp8 hem hlen J5
     gi_wp2
     refine HR.out.mono ?_
     rintro u W5 ⟨SJ2, hE6, hv3⟩
     have E6 := hE6
     have E7 : Ext S3 (plus2 SJ2 b5 b6) wr W5 := (E6.plus b5 b6).weaken (fun k _ h h2 => h ((hS3 k).2 h2)) (fun k _ _ h h2 => h h2)
     have r52 : Boxed W5 b5 52 (.int .u64 (g : Int)) := E6.box r51 n51
     have r62 : Boxed W5 b6 3 (.int .i64 (q : Int)) := E6.box r61 n61
     have n52 : ¬ SJ2 b5 := E6.new b5 r51.lt n51
     have n62 : ¬ SJ2 b6 := E6.new b6 r61.lt n61
     have ft2 : W5.cell? ⟨bt, 0, none⟩ = some (.int .i64 (t : Int)) := (E7.cellb (by have := E5.size; omega) t5).trans ft
     have E8 := Lib.hid (E5.trans E7)
     have w61 := Lib.hid r61
     clear hE6 E6 E7 f4 f7 ft c4 c5 c6 c7 r51 r61 E5
     have d6 := r62.cell
     have d6f := r62.frozen
     have d5 := r52.cell
     have d5f := r52.frozen
     rcases hv3 with ⟨rfl, hJ3⟩ | ⟨rfl, hJx3⟩
     ·have HJ3 := Lib.hid hJ3
      have hsub : (q : Int) - t = (e : Int) := by omega
      have HE := Lib.hid he
      have x6 : (W5.setCell ⟨b5, 0, none⟩ (.int .u64 (g2 : Int))).cell? ⟨b6, 0, none⟩ = some (.int .i64 (q : Int)) := (r62.other (by omega) _).cell
      have x6f : (W5.setCell ⟨b5, 0, none⟩ (.int .u64 (g2 : Int))).frozen? ⟨b6, 0, none⟩ = false := (r62.other (by omega) _).frozen
      have xt : (W5.setCell ⟨b5, 0, none⟩ (.int .u64 (g2 : Int))).cell? ⟨bt, 0, none⟩ = some (.int .i64 (t : Int)) := (World.cell?_of_block (w := W5) (a := ⟨bt, 0, none⟩) (Below.heap_setCell W5 ⟨b5, 0, none⟩ _ bt (by simp; omega))).trans ft2
      clear hJ3 he
      gi_wp2
      go_roundw
      case rel =>
       refine ⟨i + 1, SJ2, plus2 SJ2 b5 b6, hlt, fun _ => Iff.rfl, n52, n62, (E8.out.trans (ext_set _ W5 b5 _ (.inr (.inl rfl)))).trans (ext_set _ _ b6 _ (.inr (.inr rfl))), ?_, ?_, ?_⟩
       ·rw [HST.out, ← List.append_assoc]; exact HJdep.out.setCell ⟨b6, 0, none⟩ _ n62 (HJdep.out.setCell ⟨b5, 0, none⟩ _ n52 HJ3.out)
       ·rw [HG2.out]; exact (r52.set _).other n56 _
       ·rw [HQ.out]; exact (r62.other (by omega) _).set _
      case measure =>
       rw [boxN_eq ((r62.other (B' := b5) (by omega) (.int .u64 (g2 : Int))).set _), boxN_eq w61.out]
       have := HE.out
       omega
     ·have HJ3 := Lib.hid hJx3
      clear hJx3
      gi_wp2
      exact ⟨plus2 SJ2 b5 b6, E8.out, rfl, SJ2, _, fun _ => Iff.rfl, r52.lt, r62.lt, HP2.out, HJ3.out⟩
    ·have hie : i = mm / t := by omega
     have hqr : q = mm % t := by subst hie; omega
     have htk : (loEmit t h2 mm).take i = loEmit t h2 mm := List.take_of_length_le (by rw [loEmit_length]; omega)
     rw [htk] at J5
     have HJ5 := Lib.hid J5
     have HE5 := Lib.hid E5
     have HQ := Lib.hid hqr
     have hqt : q < t := by omega
     have c6 := r61.cell
     have HIE := Lib.hid hie
     clear J5 E5 htk hY hq hil hmd hqr hie hi
     gi_wp2
     refine ⟨S3, HE5.out, SJ1, hS3, n51, n61, ?_, ?_, ?_⟩
     ·rw [HRUN.out]; exact HJ5.out
     ·rw [HRUN.out, ← HIE.out]; exact r51
     ·rw [HRUN.out, ← HQ.out]; exact r61
  case done =>
   rintro D S2 W2 hD hnD hE ⟨SJ, hS2, n5, n6, hJ2, p5, p6⟩ hKd
   have nB : ¬ plus2 S b5 b6 B := by rintro (h | h | h); have := hSB _ h; omega; omega; omega
   have nt : ¬ plus2 S b5 b6 bt := by rintro (h | h | h); have := hS _ h; omega; omega; omega
   have n7 : ¬ plus2 S b5 b6 b7 := by rintro (h | h | h); have := hSB _ h; omega; omega; omega
   have q4lt := q4.lt
   have p4 : Boxed W2 B 81 (.func (.yield l) #[] #[]) := hE.box q4 nB
   have p7 : Boxed W2 b7 52 (.int .u64 (M : Int)) := hE.box q7 n7
   have et : W2.cell? ⟨bt, 0, none⟩ = some (.int .i64 (t : Int)) := (hE.cellb (by omega) nt).trans ct3
   have nDJ : ¬ SJ D := fun h => hnD ((hS2 D).2 (.inl h))
   obtain ⟨hlt, hnt⟩ := loRun_lt f t (by omega) ys hys
   have hall : loAll f t ys = (loRun f t ys).2.2 ++ if 0 < (loRun f t ys).2.1 then [(loRun f t ys).1 % 256] else [] := rfl
   have hEJ : Ext S SJ W W2 := hE.own (hBH.out ▸ hBel) (by have := hBH.out; omega) (by have := hBH.out; omega) (fun k h => h) (fun k h => (hS2 k).2 (.inl h))
   have hDW : W.heap.size ≤ D := by have := hBel.size; omega
   obtain ⟨h, hh⟩ : ∃ h, h = (loRun f t ys).1 := ⟨_, rfl⟩
   obtain ⟨n, hn⟩ : ∃ n, n = (loRun f t ys).2.1 := ⟨_, rfl⟩
   obtain ⟨out, hout⟩ : ∃ out, out = (loRun f t ys).2.2 := ⟨_, rfl⟩
   rw [← hh] at p5 hlt
   rw [← hn] at p6 hnt
   rw [← hout] at hJ2
   rw [← hh, ← hn, ← hout] at hall
   clear hh hn hout
   have HALL := Lib.hid hall
   have HEJ := Lib.hid hEJ
   have HDW := Lib.hid hDW
   have HY := Lib.hid hY
   have HJ2 := Lib.hid hJ2
   have HJd := Lib.hid hJ
   have HJxd := Lib.hid hJx
   have c6 := p6.cell
   clear hall hEJ hY hJ2 hJ hJx hDW
   by_cases hpos : 0 < n
   ·obtain ⟨v, hv⟩ : ∃ v, v = h % 256 := ⟨_, rfl⟩
    have HALL2 : Hid (loAll f t ys = out ++ [v]) := by unfold Hid; rw [HALL.out, if_pos hpos, hv]
    obtain ⟨fn, tmps, assign, body, hy, hR⟩ := anyDepthY hd (m - 1) (HY.out out v SJ W2 HEJ.out HJ2.out (by rw [HALL2.out]; exact List.prefix_rfl))
    have HR := Lib.hid hR
    have hwv : IntKind.u8.wrap (h : Int) = (v : Int) := by rw [IntKind.wrap_u8, hv]; simp
    have c4 := p4.cell
    have c5 := p5.cell
    clear HY hR hv
    gi_wp2
    refine HR.out.mono ?_
    rintro u W5 ⟨SJ2, E6, hv3⟩
    have hDlt : D < W2.heap.size := (Array.getElem?_eq_some_iff.1 hKd).1
    have hKd2 : W5.heap[D]? = some (.deferred (some [])) := (E6.keep D hDlt nDJ).trans hKd
    have nD2 : ¬ SJ2 D := E6.new D hDlt nDJ
    have EF := Lib.hid ((HEJ.out.trans E6).late (D := D) HDW.out (.deferred none))
    have HV : Hid ((∃ v, u = .returned v) ∧ (J (loAll f t ys) SJ2 (W5.putObj D (.deferred none)) ∨ ∃ pre, pre <+: loAll f t ys ∧ Jx pre SJ2 (W5.putObj D (.deferred none)))) := by
     rcases hv3 with ⟨hu, hJ3⟩ | ⟨hu, hJx3⟩
     ·exact ⟨⟨_, hu⟩, .inl (by rw [HALL2.out]; exact HJd.out.put D _ nD2 hJ3)⟩
     ·exact ⟨⟨_, hu⟩, .inr ⟨_, by rw [HALL2.out]; exact List.prefix_rfl, HJxd.out.put D _ nD2 hJx3⟩⟩
    clear hv3 E6
    obtain ⟨u2, rfl⟩ := HV.out.1
    gi_wp2
    refine ⟨by simp, .inl ⟨_, _, rfl, run_takeDeferred hKd2, ?_⟩⟩
    exact ⟨_, results_none rfl _ _ _, ⟨_, rfl⟩, SJ2, EF.out, HV.out.2⟩
   ·have hn0 : n = 0 := by omega
    have HALL2 : Hid (loAll f t ys = out) := by unfold Hid; rw [HALL.out, if_neg hpos, List.append_nil]
    have EF := Lib.hid (HEJ.out.late (D := D) HDW.out (.deferred none))
    have HV : Hid (J (loAll f t ys) SJ (W2.putObj D (.deferred none))) := by unfold Hid; rw [HALL2.out]; exact HJd.out.put D _ nDJ HJ2.out
    subst hn0
    clear HY
    gi_wp2
    refine ⟨by simp, .inl ⟨_, _, rfl, run_takeDeferred hKd, ?_⟩⟩
    exact ⟨_, results_none rfl _ _ _, ⟨_, rfl⟩, SJ, EF.out, .inl HV.out⟩
  case stop =>
   rintro D c pre S2 W2 hD hnD hE hpre ⟨rfl, SJ, q, hS2, n5, n6, hq2, hj2⟩ hKd
   have nDJ : ¬ SJ D := fun h => hnD ((hS2 D).2 (.inl h))
   have hEJ : Ext S SJ W W2 := hE.own (hBH.out ▸ hBel) (by have := hBH.out; omega) (by have := hBH.out; omega) (fun k h => h) (fun k h => (hS2 k).2 (.inl h))
   have hDW : W.heap.size ≤ D := by have := hBel.size; omega
   have EF := Lib.hid (hEJ.late (D := D) hDW (.deferred none))
   have HX := Lib.hid (hJx.put D (.deferred none) nDJ hj2)
   have HQ2 := Lib.hid hq2
   clear hY hEJ hj2 hpre hq2
   gi_wp2
   refine ⟨by simp, .inl ⟨_, _, rfl, run_takeDeferred hKd, ?_⟩⟩
   exact ⟨_, results_none rfl _ _ _, ⟨_, rfl⟩, SJ, EF.out, .inr ⟨q, HQ2.out, HX.out⟩⟩
 have hp8 : 2 ^ t ≤ 2 ^ 8 := Nat.pow_le_pow_right (by decide) ht8
 have hp0 : 1 ≤ 2 ^ t := Nat.one_le_two_pow
 have e1 : IntKind.u64.wrap (2 ^ t) = ((2 ^ t : Nat) : Int) := by
  have : ((2 : Int) ^ t) = ((2 ^ t : Nat) : Int) := by simp
  rw [this, IntKind.wrap_u64]; omega
 have e2 : IntKind.u64.wrap (2 ^ t - 1) = ((2 ^ t - 1 : Nat) : Int) := by
  have : ((2 : Int) ^ t) = ((2 ^ t : Nat) : Int) := by simp
  rw [this, IntKind.wrap_u64]; omega
 refine wpIn_mono (Q := onlyK K) ?_ onlyK_then
 refine wpIn_region_any (by kernel_rfl) ?_
 change wpAnyIn _ _ _ _ _ _ _ _ _ (World.drew _)
 refine anyIn_of_G (T := fun i => i < 3) (S := fun i w => w.cell? ⟨bt, 0, none⟩ = some (.int .i64 (t : Int))) _ _ _ _ ?_
 have HS : ∀ i : Nat, (W.alloc (.cells #[.func (.yield l) #[] #[]] 81)).drew.cell? ⟨bt, 0, none⟩ = some (.int .i64 (t : Int)) := fun _ => (((Below.refl n0 W).alloc (by omega) _).cell (p := ⟨bt, 0, none⟩) hbt).trans dt
 have HSH := Lib.hid HS
 have HM := Lib.hid main
 clear HS main
 rw [← hPe.out] at e1
 rw [← hMe.out] at e2
 clear hp8 hp0
 refine AnyG.take 0 (some 9) (.load 3 (.tmp 1)) (.int .i64 (t : Int)) rfl rfl (fun _ e => by cases e) (by kernel_rfl) (by kernel_rfl) (by kernel_rfl) (by kernel_rfl) rfl (fun _ _ _ h => h) (fun o ho w hw => by unfold execOp; rw [ho]; go_simp) (HSH.out 0) ?_
 simp only [Act.put, sT, sS, sZ]
 refine AnyG.take 1 (some 10) (.binOp .shl 52 (.const (.int .u64 1)) (.tmp 9) 3) (.int .u64 (P : Int)) rfl rfl (fun _ e => by cases e) (by kernel_rfl) (by kernel_rfl) (by kernel_rfl) (by kernel_rfl) rfl (fun _ _ _ h => h) (fun o ho w hw => by unfold execOp; rw [ho]; go_simp) (HSH.out 1) ?_
 simp only [Act.put, sT, sS, sZ]
 have e2 : IntKind.u64.wrap ((P : Int) - 1) = (M : Int) := by rw [hPe.out]; have := e2; simpa using this
 refine AnyG.take 2 (some 11) (.binOp .sub 52 (.tmp 10) (.const (.int .u64 1)) 52) (.int .u64 (M : Int)) rfl rfl (fun _ e => by cases e) (by kernel_rfl) (by kernel_rfl) (by kernel_rfl) (by kernel_rfl) rfl (fun _ _ _ h => h) (fun o ho w hw => by unfold execOp; rw [ho]; go_simp) (HSH.out 2) ?_
 simp only [Act.put, sT, sS, sZ]
 obtain ⟨w0, hw0⟩ : ∃ w0, w0 = (W.alloc (.cells #[.func (.yield l) #[] #[]] 81)).drew := ⟨_, rfl⟩
 have hs0 : w0.heap.size = B + 1 := by rw [hw0, hB]; simp
 have HB0 : Base W B l bt t w0 := by
  refine ⟨by omega, by omega, ?_, ?_, ?_⟩
  ·rw [hw0]; exact ((Below.refl B W).alloc (by omega) _).drew
  ·rw [hw0, hB]; exact Boxed.new W 81 _
  ·rw [hw0]; exact HSH.out 0
 rw [← hw0]
 rw [← hB]
 clear hw0 HSH
 refine AnyG.ready (rs := [3, 4, 5]) (by kernel_rfl) (by simp) (ReadyG.op (some 5) (.alloc 52) rfl rfl (fun _ e => by cases e) (.pointer (some ⟨B + 1, 0, none⟩)) (fun o ho => by rw [exec_alloc49 ho, hs0]) rfl (fun _ _ _ _ => (HB0.alloc _).2.2.2.2) ?_ (ReadyG.op (some 6) (.alloc 3) rfl rfl (fun _ e => by cases e) (.pointer (some ⟨B + 1, 0, none⟩)) (fun o ho => by rw [exec_alloc3 ho, hs0]) rfl (fun _ _ _ _ => (HB0.alloc _).2.2.2.2) ?_ (ReadyG.op (some 7) (.alloc 52) rfl rfl (fun _ e => by cases e) (.pointer (some ⟨B + 1, 0, none⟩)) (fun o ho => by rw [exec_alloc49 ho, hs0]) rfl (fun _ _ _ _ => (HB0.alloc _).2.2.2.2) ?_ (ReadyG.nil))))
 ·simp only [Act.put, sT, sS, sZ]
  have HB1 := HB0.alloc (.cells #[.int .u64 0] 52)
  have hs1 : (w0.alloc (.cells #[.int .u64 0] 52)).heap.size = B + 2 := by rw [World.size_alloc, hs0]
  have q5 : Boxed (w0.alloc (.cells #[.int .u64 0] 52)) (B + 1) 52 (.int .u64 0) := by have := Boxed.new w0 52 (.int .u64 0); rwa [hs0] at this
  generalize w0.alloc (.cells #[.int .u64 0] 52) = w1 at *
  refine AnyG.ready (rs := [4, 5]) (by kernel_rfl) (by simp) (ReadyG.op (some 6) (.alloc 3) rfl rfl (fun _ e => by cases e) (.pointer (some ⟨B + 2, 0, none⟩)) (fun o ho => by rw [exec_alloc3 ho, hs1]) rfl (fun _ _ _ _ => (HB1.alloc _).2.2.2.2) ?_ (ReadyG.op (some 7) (.alloc 52) rfl rfl (fun _ e => by cases e) (.pointer (some ⟨B + 2, 0, none⟩)) (fun o ho => by rw [exec_alloc49 ho, hs1]) rfl (fun _ _ _ _ => (HB1.alloc _).2.2.2.2) ?_ (ReadyG.nil)))
  ·simp only [Act.put, sT, sS, sZ]
   have HB2 := HB1.alloc (.cells #[.int .i64 0] 3)
   have hs2 : (w1.alloc (.cells #[.int .i64 0] 3)).heap.size = B + 3 := by rw [World.size_alloc, hs1]
   have q5 := q5.alloc (.cells #[.int .i64 0] 3)
   have q6 : Boxed (w1.alloc (.cells #[.int .i64 0] 3)) (B + 2) 3 (.int .i64 0) := by have := Boxed.new w1 3 (.int .i64 0); rwa [hs1] at this
   generalize w1.alloc (.cells #[.int .i64 0] 3) = w2 at *
   refine AnyG.ready (rs := [5]) (by kernel_rfl) (by simp) (ReadyG.op (some 7) (.alloc 52) rfl rfl (fun _ e => by cases e) (.pointer (some ⟨B + 3, 0, none⟩)) (fun o ho => by rw [exec_alloc49 ho, hs2]) rfl (fun _ _ _ _ => (HB2.alloc _).2.2.2.2) ?_ (ReadyG.nil))
   ·simp only [Act.put, sT, sS, sZ]
    have HB3 := HB2.alloc (.cells #[.int .u64 0] 52)
    have hs3 : (w2.alloc (.cells #[.int .u64 0] 52)).heap.size = B + 4 := by rw [World.size_alloc, hs2]
    have q5 := q5.alloc (.cells #[.int .u64 0] 52)
    have q6 := q6.alloc (.cells #[.int .u64 0] 52)
    have q7 : Boxed (w2.alloc (.cells #[.int .u64 0] 52)) (B + 3) 52 (.int .u64 0) := by have := Boxed.new w2 52 (.int .u64 0); rwa [hs2] at this
    generalize w2.alloc (.cells #[.int .u64 0] 52) = w3 at *
    refine AnyG.ready (rs := [6]) (by kernel_rfl) (by simp) (ReadyG.skip (.store 52 (.tmp 5) (.const (.int .u64 0))) rfl rfl (fun _ e => by cases e) (fun o ho => exec_store49 (.tmp 5) (.const (.int .u64 0)) ho (B + 1) 0 0 rfl rfl _ q5) rfl (fun _ _ _ _ => (HB3.set (B + 1) (by omega) _).2.2.2.2) ?_ ReadyG.nil)
    have HB4 := HB3.set (B + 1) (by omega) (.int .u64 0)
    have q5 := q5.set (.int .u64 0)
    have q6 := q6.other (B' := B + 1) (by omega) (.int .u64 0)
    have q7 := q7.other (B' := B + 1) (by omega) (.int .u64 0)
    generalize w3.setCell ⟨B + 1, 0, none⟩ (.int .u64 0) = w4 at *
    refine AnyG.ready (rs := [7]) (by kernel_rfl) (by simp) (ReadyG.skip (.store 3 (.tmp 6) (.const (.int .i64 0))) rfl rfl (fun _ e => by cases e) (fun o ho => exec_store3 (.tmp 6) (.const (.int .i64 0)) ho (B + 2) 0 0 rfl rfl _ q6) rfl (fun _ _ _ _ => (HB4.set (B + 2) (by omega) _).2.2.2.2) ?_ ReadyG.nil)
    have HB5 := HB4.set (B + 2) (by omega) (.int .i64 0)
    have q5 := q5.other (B' := B + 2) (by omega) (.int .i64 0)
    have q6 := q6.set (.int .i64 0)
    have q7 := q7.other (B' := B + 2) (by omega) (.int .i64 0)
    generalize w4.setCell ⟨B + 2, 0, none⟩ (.int .i64 0) = w5 at *
    refine AnyG.ready (rs := [8]) (by kernel_rfl) (by simp) (ReadyG.skip (.store 52 (.tmp 7) (.tmp 11)) rfl rfl (fun _ e => by cases e) (fun o ho => exec_store49 (.tmp 7) (.tmp 11) ho (B + 3) (M : Int) 0 rfl rfl _ q7) rfl (fun _ _ _ _ => (HB5.set (B + 3) (by omega) _).2.2.2.2) ?_ ReadyG.nil)
    have HB6 := HB5.set (B + 3) (by omega) (.int .u64 (M : Int))
    have q5 := q5.other (B' := B + 3) (by omega) (.int .u64 (M : Int))
    have q6 := q6.other (B' := B + 3) (by omega) (.int .u64 (M : Int))
    have q7 := q7.set (.int .u64 (M : Int))
    generalize w5.setCell ⟨B + 3, 0, none⟩ (.int .u64 (M : Int)) = w6 at *
    refine AnyG.done (by kernel_rfl) ?_ _
    have h9 := HM.out (B + 1) (B + 2) (B + 3) w6 (by omega) (by omega) (by omega) (by omega) (by omega) (by omega) HB6.2.2.1 HB6.2.2.2.1 q5 q6 q7
    exact h9
  ·simp only [Act.put, sT, sS, sZ]
   have HB2 := HB1.alloc (.cells #[.int .u64 0] 52)
   have hs2 : (w1.alloc (.cells #[.int .u64 0] 52)).heap.size = B + 3 := by rw [World.size_alloc, hs1]
   have q5 := q5.alloc (.cells #[.int .u64 0] 52)
   have q7 : Boxed (w1.alloc (.cells #[.int .u64 0] 52)) (B + 2) 52 (.int .u64 0) := by have := Boxed.new w1 52 (.int .u64 0); rwa [hs1] at this
   generalize w1.alloc (.cells #[.int .u64 0] 52) = w2 at *
   refine AnyG.ready (rs := [4]) (by kernel_rfl) (by simp) (ReadyG.op (some 6) (.alloc 3) rfl rfl (fun _ e => by cases e) (.pointer (some ⟨B + 3, 0, none⟩)) (fun o ho => by rw [exec_alloc3 ho, hs2]) rfl (fun _ _ _ _ => (HB2.alloc _).2.2.2.2) ?_ (ReadyG.nil))
   ·simp only [Act.put, sT, sS, sZ]
    have HB3 := HB2.alloc (.cells #[.int .i64 0] 3)
    have hs3 : (w2.alloc (.cells #[.int .i64 0] 3)).heap.size = B + 4 := by rw [World.size_alloc, hs2]
    have q5 := q5.alloc (.cells #[.int .i64 0] 3)
    have q7 := q7.alloc (.cells #[.int .i64 0] 3)
    have q6 : Boxed (w2.alloc (.cells #[.int .i64 0] 3)) (B + 3) 3 (.int .i64 0) := by have := Boxed.new w2 3 (.int .i64 0); rwa [hs2] at this
    generalize w2.alloc (.cells #[.int .i64 0] 3) = w3 at *
    refine AnyG.ready (rs := [6]) (by kernel_rfl) (by simp) (ReadyG.skip (.store 52 (.tmp 5) (.const (.int .u64 0))) rfl rfl (fun _ e => by cases e) (fun o ho => exec_store49 (.tmp 5) (.const (.int .u64 0)) ho (B + 1) 0 0 rfl rfl _ q5) rfl (fun _ _ _ _ => (HB3.set (B + 1) (by omega) _).2.2.2.2) ?_ ReadyG.nil)
    have HB4 := HB3.set (B + 1) (by omega) (.int .u64 0)
    have q5 := q5.set (.int .u64 0)
    have q6 := q6.other (B' := B + 1) (by omega) (.int .u64 0)
    have q7 := q7.other (B' := B + 1) (by omega) (.int .u64 0)
    generalize w3.setCell ⟨B + 1, 0, none⟩ (.int .u64 0) = w4 at *
    refine AnyG.ready (rs := [7]) (by kernel_rfl) (by simp) (ReadyG.skip (.store 3 (.tmp 6) (.const (.int .i64 0))) rfl rfl (fun _ e => by cases e) (fun o ho => exec_store3 (.tmp 6) (.const (.int .i64 0)) ho (B + 3) 0 0 rfl rfl _ q6) rfl (fun _ _ _ _ => (HB4.set (B + 3) (by omega) _).2.2.2.2) ?_ ReadyG.nil)
    have HB5 := HB4.set (B + 3) (by omega) (.int .i64 0)
    have q5 := q5.other (B' := B + 3) (by omega) (.int .i64 0)
    have q6 := q6.set (.int .i64 0)
    have q7 := q7.other (B' := B + 3) (by omega) (.int .i64 0)
    generalize w4.setCell ⟨B + 3, 0, none⟩ (.int .i64 0) = w5 at *
    refine AnyG.ready (rs := [8]) (by kernel_rfl) (by simp) (ReadyG.skip (.store 52 (.tmp 7) (.tmp 11)) rfl rfl (fun _ e => by cases e) (fun o ho => exec_store49 (.tmp 7) (.tmp 11) ho (B + 2) (M : Int) 0 rfl rfl _ q7) rfl (fun _ _ _ _ => (HB5.set (B + 2) (by omega) _).2.2.2.2) ?_ ReadyG.nil)
    have HB6 := HB5.set (B + 2) (by omega) (.int .u64 (M : Int))
    have q5 := q5.other (B' := B + 2) (by omega) (.int .u64 (M : Int))
    have q6 := q6.other (B' := B + 2) (by omega) (.int .u64 (M : Int))
    have q7 := q7.set (.int .u64 (M : Int))
    generalize w5.setCell ⟨B + 2, 0, none⟩ (.int .u64 (M : Int)) = w6 at *
    refine AnyG.done (by kernel_rfl) ?_ _
    have h9 := HM.out (B + 1) (B + 3) (B + 2) w6 (by omega) (by omega) (by omega) (by omega) (by omega) (by omega) HB6.2.2.1 HB6.2.2.2.1 q5 q6 q7
    exact h9
 ·simp only [Act.put, sT, sS, sZ]
  have HB1 := HB0.alloc (.cells #[.int .i64 0] 3)
  have hs1 : (w0.alloc (.cells #[.int .i64 0] 3)).heap.size = B + 2 := by rw [World.size_alloc, hs0]
  have q6 : Boxed (w0.alloc (.cells #[.int .i64 0] 3)) (B + 1) 3 (.int .i64 0) := by have := Boxed.new w0 3 (.int .i64 0); rwa [hs0] at this
  generalize w0.alloc (.cells #[.int .i64 0] 3) = w1 at *
  refine AnyG.ready (rs := [3, 5]) (by kernel_rfl) (by simp) (ReadyG.op (some 5) (.alloc 52) rfl rfl (fun _ e => by cases e) (.pointer (some ⟨B + 2, 0, none⟩)) (fun o ho => by rw [exec_alloc49 ho, hs1]) rfl (fun _ _ _ _ => (HB1.alloc _).2.2.2.2) ?_ (ReadyG.op (some 7) (.alloc 52) rfl rfl (fun _ e => by cases e) (.pointer (some ⟨B + 2, 0, none⟩)) (fun o ho => by rw [exec_alloc49 ho, hs1]) rfl (fun _ _ _ _ => (HB1.alloc _).2.2.2.2) ?_ (ReadyG.nil)))
  ·simp only [Act.put, sT, sS, sZ]
   have HB2 := HB1.alloc (.cells #[.int .u64 0] 52)
   have hs2 : (w1.alloc (.cells #[.int .u64 0] 52)).heap.size = B + 3 := by rw [World.size_alloc, hs1]
   have q6 := q6.alloc (.cells #[.int .u64 0] 52)
   have q5 : Boxed (w1.alloc (.cells #[.int .u64 0] 52)) (B + 2) 52 (.int .u64 0) := by have := Boxed.new w1 52 (.int .u64 0); rwa [hs1] at this
   generalize w1.alloc (.cells #[.int .u64 0] 52) = w2 at *
   refine AnyG.ready (rs := [5]) (by kernel_rfl) (by simp) (ReadyG.op (some 7) (.alloc 52) rfl rfl (fun _ e => by cases e) (.pointer (some ⟨B + 3, 0, none⟩)) (fun o ho => by rw [exec_alloc49 ho, hs2]) rfl (fun _ _ _ _ => (HB2.alloc _).2.2.2.2) ?_ (ReadyG.nil))
   ·simp only [Act.put, sT, sS, sZ]
    have HB3 := HB2.alloc (.cells #[.int .u64 0] 52)
    have hs3 : (w2.alloc (.cells #[.int .u64 0] 52)).heap.size = B + 4 := by rw [World.size_alloc, hs2]
    have q6 := q6.alloc (.cells #[.int .u64 0] 52)
    have q5 := q5.alloc (.cells #[.int .u64 0] 52)
    have q7 : Boxed (w2.alloc (.cells #[.int .u64 0] 52)) (B + 3) 52 (.int .u64 0) := by have := Boxed.new w2 52 (.int .u64 0); rwa [hs2] at this
    generalize w2.alloc (.cells #[.int .u64 0] 52) = w3 at *
    refine AnyG.ready (rs := [6]) (by kernel_rfl) (by simp) (ReadyG.skip (.store 52 (.tmp 5) (.const (.int .u64 0))) rfl rfl (fun _ e => by cases e) (fun o ho => exec_store49 (.tmp 5) (.const (.int .u64 0)) ho (B + 2) 0 0 rfl rfl _ q5) rfl (fun _ _ _ _ => (HB3.set (B + 2) (by omega) _).2.2.2.2) ?_ ReadyG.nil)
    have HB4 := HB3.set (B + 2) (by omega) (.int .u64 0)
    have q5 := q5.set (.int .u64 0)
    have q6 := q6.other (B' := B + 2) (by omega) (.int .u64 0)
    have q7 := q7.other (B' := B + 2) (by omega) (.int .u64 0)
    generalize w3.setCell ⟨B + 2, 0, none⟩ (.int .u64 0) = w4 at *
    refine AnyG.ready (rs := [7]) (by kernel_rfl) (by simp) (ReadyG.skip (.store 3 (.tmp 6) (.const (.int .i64 0))) rfl rfl (fun _ e => by cases e) (fun o ho => exec_store3 (.tmp 6) (.const (.int .i64 0)) ho (B + 1) 0 0 rfl rfl _ q6) rfl (fun _ _ _ _ => (HB4.set (B + 1) (by omega) _).2.2.2.2) ?_ ReadyG.nil)
    have HB5 := HB4.set (B + 1) (by omega) (.int .i64 0)
    have q5 := q5.other (B' := B + 1) (by omega) (.int .i64 0)
    have q6 := q6.set (.int .i64 0)
    have q7 := q7.other (B' := B + 1) (by omega) (.int .i64 0)
    generalize w4.setCell ⟨B + 1, 0, none⟩ (.int .i64 0) = w5 at *
    refine AnyG.ready (rs := [8]) (by kernel_rfl) (by simp) (ReadyG.skip (.store 52 (.tmp 7) (.tmp 11)) rfl rfl (fun _ e => by cases e) (fun o ho => exec_store49 (.tmp 7) (.tmp 11) ho (B + 3) (M : Int) 0 rfl rfl _ q7) rfl (fun _ _ _ _ => (HB5.set (B + 3) (by omega) _).2.2.2.2) ?_ ReadyG.nil)
    have HB6 := HB5.set (B + 3) (by omega) (.int .u64 (M : Int))
    have q5 := q5.other (B' := B + 3) (by omega) (.int .u64 (M : Int))
    have q6 := q6.other (B' := B + 3) (by omega) (.int .u64 (M : Int))
    have q7 := q7.set (.int .u64 (M : Int))
    generalize w5.setCell ⟨B + 3, 0, none⟩ (.int .u64 (M : Int)) = w6 at *
    refine AnyG.done (by kernel_rfl) ?_ _
    have h9 := HM.out (B + 2) (B + 1) (B + 3) w6 (by omega) (by omega) (by omega) (by omega) (by omega) (by omega) HB6.2.2.1 HB6.2.2.2.1 q5 q6 q7
    exact h9
  ·simp only [Act.put, sT, sS, sZ]
   have HB2 := HB1.alloc (.cells #[.int .u64 0] 52)
   have hs2 : (w1.alloc (.cells #[.int .u64 0] 52)).heap.size = B + 3 := by rw [World.size_alloc, hs1]
   have q6 := q6.alloc (.cells #[.int .u64 0] 52)
   have q7 : Boxed (w1.alloc (.cells #[.int .u64 0] 52)) (B + 2) 52 (.int .u64 0) := by have := Boxed.new w1 52 (.int .u64 0); rwa [hs1] at this
   generalize w1.alloc (.cells #[.int .u64 0] 52) = w2 at *
   refine AnyG.ready (rs := [3]) (by kernel_rfl) (by simp) (ReadyG.op (some 5) (.alloc 52) rfl rfl (fun _ e => by cases e) (.pointer (some ⟨B + 3, 0, none⟩)) (fun o ho => by rw [exec_alloc49 ho, hs2]) rfl (fun _ _ _ _ => (HB2.alloc _).2.2.2.2) ?_ (ReadyG.nil))
   ·simp only [Act.put, sT, sS, sZ]
    have HB3 := HB2.alloc (.cells #[.int .u64 0] 52)
    have hs3 : (w2.alloc (.cells #[.int .u64 0] 52)).heap.size = B + 4 := by rw [World.size_alloc, hs2]
    have q6 := q6.alloc (.cells #[.int .u64 0] 52)
    have q7 := q7.alloc (.cells #[.int .u64 0] 52)
    have q5 : Boxed (w2.alloc (.cells #[.int .u64 0] 52)) (B + 3) 52 (.int .u64 0) := by have := Boxed.new w2 52 (.int .u64 0); rwa [hs2] at this
    generalize w2.alloc (.cells #[.int .u64 0] 52) = w3 at *
    refine AnyG.ready (rs := [6]) (by kernel_rfl) (by simp) (ReadyG.skip (.store 52 (.tmp 5) (.const (.int .u64 0))) rfl rfl (fun _ e => by cases e) (fun o ho => exec_store49 (.tmp 5) (.const (.int .u64 0)) ho (B + 3) 0 0 rfl rfl _ q5) rfl (fun _ _ _ _ => (HB3.set (B + 3) (by omega) _).2.2.2.2) ?_ ReadyG.nil)
    have HB4 := HB3.set (B + 3) (by omega) (.int .u64 0)
    have q5 := q5.set (.int .u64 0)
    have q6 := q6.other (B' := B + 3) (by omega) (.int .u64 0)
    have q7 := q7.other (B' := B + 3) (by omega) (.int .u64 0)
    generalize w3.setCell ⟨B + 3, 0, none⟩ (.int .u64 0) = w4 at *
    refine AnyG.ready (rs := [7]) (by kernel_rfl) (by simp) (ReadyG.skip (.store 3 (.tmp 6) (.const (.int .i64 0))) rfl rfl (fun _ e => by cases e) (fun o ho => exec_store3 (.tmp 6) (.const (.int .i64 0)) ho (B + 1) 0 0 rfl rfl _ q6) rfl (fun _ _ _ _ => (HB4.set (B + 1) (by omega) _).2.2.2.2) ?_ ReadyG.nil)
    have HB5 := HB4.set (B + 1) (by omega) (.int .i64 0)
    have q5 := q5.other (B' := B + 1) (by omega) (.int .i64 0)
    have q6 := q6.set (.int .i64 0)
    have q7 := q7.other (B' := B + 1) (by omega) (.int .i64 0)
    generalize w4.setCell ⟨B + 1, 0, none⟩ (.int .i64 0) = w5 at *
    refine AnyG.ready (rs := [8]) (by kernel_rfl) (by simp) (ReadyG.skip (.store 52 (.tmp 7) (.tmp 11)) rfl rfl (fun _ e => by cases e) (fun o ho => exec_store49 (.tmp 7) (.tmp 11) ho (B + 2) (M : Int) 0 rfl rfl _ q7) rfl (fun _ _ _ _ => (HB5.set (B + 2) (by omega) _).2.2.2.2) ?_ ReadyG.nil)
    have HB6 := HB5.set (B + 2) (by omega) (.int .u64 (M : Int))
    have q5 := q5.other (B' := B + 2) (by omega) (.int .u64 (M : Int))
    have q6 := q6.other (B' := B + 2) (by omega) (.int .u64 (M : Int))
    have q7 := q7.set (.int .u64 (M : Int))
    generalize w5.setCell ⟨B + 2, 0, none⟩ (.int .u64 (M : Int)) = w6 at *
    refine AnyG.done (by kernel_rfl) ?_ _
    have h9 := HM.out (B + 3) (B + 1) (B + 2) w6 (by omega) (by omega) (by omega) (by omega) (by omega) (by omega) HB6.2.2.1 HB6.2.2.2.1 q5 q6 q7
    exact h9
 ·simp only [Act.put, sT, sS, sZ]
  have HB1 := HB0.alloc (.cells #[.int .u64 0] 52)
  have hs1 : (w0.alloc (.cells #[.int .u64 0] 52)).heap.size = B + 2 := by rw [World.size_alloc, hs0]
  have q7 : Boxed (w0.alloc (.cells #[.int .u64 0] 52)) (B + 1) 52 (.int .u64 0) := by have := Boxed.new w0 52 (.int .u64 0); rwa [hs0] at this
  generalize w0.alloc (.cells #[.int .u64 0] 52) = w1 at *
  refine AnyG.ready (rs := [3, 4]) (by kernel_rfl) (by simp) (ReadyG.op (some 5) (.alloc 52) rfl rfl (fun _ e => by cases e) (.pointer (some ⟨B + 2, 0, none⟩)) (fun o ho => by rw [exec_alloc49 ho, hs1]) rfl (fun _ _ _ _ => (HB1.alloc _).2.2.2.2) ?_ (ReadyG.op (some 6) (.alloc 3) rfl rfl (fun _ e => by cases e) (.pointer (some ⟨B + 2, 0, none⟩)) (fun o ho => by rw [exec_alloc3 ho, hs1]) rfl (fun _ _ _ _ => (HB1.alloc _).2.2.2.2) ?_ (ReadyG.nil)))
  ·simp only [Act.put, sT, sS, sZ]
   have HB2 := HB1.alloc (.cells #[.int .u64 0] 52)
   have hs2 : (w1.alloc (.cells #[.int .u64 0] 52)).heap.size = B + 3 := by rw [World.size_alloc, hs1]
   have q7 := q7.alloc (.cells #[.int .u64 0] 52)
   have q5 : Boxed (w1.alloc (.cells #[.int .u64 0] 52)) (B + 2) 52 (.int .u64 0) := by have := Boxed.new w1 52 (.int .u64 0); rwa [hs1] at this
   generalize w1.alloc (.cells #[.int .u64 0] 52) = w2 at *
   refine AnyG.ready (rs := [4]) (by kernel_rfl) (by simp) (ReadyG.op (some 6) (.alloc 3) rfl rfl (fun _ e => by cases e) (.pointer (some ⟨B + 3, 0, none⟩)) (fun o ho => by rw [exec_alloc3 ho, hs2]) rfl (fun _ _ _ _ => (HB2.alloc _).2.2.2.2) ?_ (ReadyG.nil))
   ·simp only [Act.put, sT, sS, sZ]
    have HB3 := HB2.alloc (.cells #[.int .i64 0] 3)
    have hs3 : (w2.alloc (.cells #[.int .i64 0] 3)).heap.size = B + 4 := by rw [World.size_alloc, hs2]
    have q7 := q7.alloc (.cells #[.int .i64 0] 3)
    have q5 := q5.alloc (.cells #[.int .i64 0] 3)
    have q6 : Boxed (w2.alloc (.cells #[.int .i64 0] 3)) (B + 3) 3 (.int .i64 0) := by have := Boxed.new w2 3 (.int .i64 0); rwa [hs2] at this
    generalize w2.alloc (.cells #[.int .i64 0] 3) = w3 at *
    refine AnyG.ready (rs := [6]) (by kernel_rfl) (by simp) (ReadyG.skip (.store 52 (.tmp 5) (.const (.int .u64 0))) rfl rfl (fun _ e => by cases e) (fun o ho => exec_store49 (.tmp 5) (.const (.int .u64 0)) ho (B + 2) 0 0 rfl rfl _ q5) rfl (fun _ _ _ _ => (HB3.set (B + 2) (by omega) _).2.2.2.2) ?_ ReadyG.nil)
    have HB4 := HB3.set (B + 2) (by omega) (.int .u64 0)
    have q5 := q5.set (.int .u64 0)
    have q6 := q6.other (B' := B + 2) (by omega) (.int .u64 0)
    have q7 := q7.other (B' := B + 2) (by omega) (.int .u64 0)
    generalize w3.setCell ⟨B + 2, 0, none⟩ (.int .u64 0) = w4 at *
    refine AnyG.ready (rs := [7]) (by kernel_rfl) (by simp) (ReadyG.skip (.store 3 (.tmp 6) (.const (.int .i64 0))) rfl rfl (fun _ e => by cases e) (fun o ho => exec_store3 (.tmp 6) (.const (.int .i64 0)) ho (B + 3) 0 0 rfl rfl _ q6) rfl (fun _ _ _ _ => (HB4.set (B + 3) (by omega) _).2.2.2.2) ?_ ReadyG.nil)
    have HB5 := HB4.set (B + 3) (by omega) (.int .i64 0)
    have q5 := q5.other (B' := B + 3) (by omega) (.int .i64 0)
    have q6 := q6.set (.int .i64 0)
    have q7 := q7.other (B' := B + 3) (by omega) (.int .i64 0)
    generalize w4.setCell ⟨B + 3, 0, none⟩ (.int .i64 0) = w5 at *
    refine AnyG.ready (rs := [8]) (by kernel_rfl) (by simp) (ReadyG.skip (.store 52 (.tmp 7) (.tmp 11)) rfl rfl (fun _ e => by cases e) (fun o ho => exec_store49 (.tmp 7) (.tmp 11) ho (B + 1) (M : Int) 0 rfl rfl _ q7) rfl (fun _ _ _ _ => (HB5.set (B + 1) (by omega) _).2.2.2.2) ?_ ReadyG.nil)
    have HB6 := HB5.set (B + 1) (by omega) (.int .u64 (M : Int))
    have q5 := q5.other (B' := B + 1) (by omega) (.int .u64 (M : Int))
    have q6 := q6.other (B' := B + 1) (by omega) (.int .u64 (M : Int))
    have q7 := q7.set (.int .u64 (M : Int))
    generalize w5.setCell ⟨B + 1, 0, none⟩ (.int .u64 (M : Int)) = w6 at *
    refine AnyG.done (by kernel_rfl) ?_ _
    have h9 := HM.out (B + 2) (B + 3) (B + 1) w6 (by omega) (by omega) (by omega) (by omega) (by omega) (by omega) HB6.2.2.1 HB6.2.2.2.1 q5 q6 q7
    exact h9
  ·simp only [Act.put, sT, sS, sZ]
   have HB2 := HB1.alloc (.cells #[.int .i64 0] 3)
   have hs2 : (w1.alloc (.cells #[.int .i64 0] 3)).heap.size = B + 3 := by rw [World.size_alloc, hs1]
   have q7 := q7.alloc (.cells #[.int .i64 0] 3)
   have q6 : Boxed (w1.alloc (.cells #[.int .i64 0] 3)) (B + 2) 3 (.int .i64 0) := by have := Boxed.new w1 3 (.int .i64 0); rwa [hs1] at this
   generalize w1.alloc (.cells #[.int .i64 0] 3) = w2 at *
   refine AnyG.ready (rs := [3]) (by kernel_rfl) (by simp) (ReadyG.op (some 5) (.alloc 52) rfl rfl (fun _ e => by cases e) (.pointer (some ⟨B + 3, 0, none⟩)) (fun o ho => by rw [exec_alloc49 ho, hs2]) rfl (fun _ _ _ _ => (HB2.alloc _).2.2.2.2) ?_ (ReadyG.nil))
   ·simp only [Act.put, sT, sS, sZ]
    have HB3 := HB2.alloc (.cells #[.int .u64 0] 52)
    have hs3 : (w2.alloc (.cells #[.int .u64 0] 52)).heap.size = B + 4 := by rw [World.size_alloc, hs2]
    have q7 := q7.alloc (.cells #[.int .u64 0] 52)
    have q6 := q6.alloc (.cells #[.int .u64 0] 52)
    have q5 : Boxed (w2.alloc (.cells #[.int .u64 0] 52)) (B + 3) 52 (.int .u64 0) := by have := Boxed.new w2 52 (.int .u64 0); rwa [hs2] at this
    generalize w2.alloc (.cells #[.int .u64 0] 52) = w3 at *
    refine AnyG.ready (rs := [6]) (by kernel_rfl) (by simp) (ReadyG.skip (.store 52 (.tmp 5) (.const (.int .u64 0))) rfl rfl (fun _ e => by cases e) (fun o ho => exec_store49 (.tmp 5) (.const (.int .u64 0)) ho (B + 3) 0 0 rfl rfl _ q5) rfl (fun _ _ _ _ => (HB3.set (B + 3) (by omega) _).2.2.2.2) ?_ ReadyG.nil)
    have HB4 := HB3.set (B + 3) (by omega) (.int .u64 0)
    have q5 := q5.set (.int .u64 0)
    have q6 := q6.other (B' := B + 3) (by omega) (.int .u64 0)
    have q7 := q7.other (B' := B + 3) (by omega) (.int .u64 0)
    generalize w3.setCell ⟨B + 3, 0, none⟩ (.int .u64 0) = w4 at *
    refine AnyG.ready (rs := [7]) (by kernel_rfl) (by simp) (ReadyG.skip (.store 3 (.tmp 6) (.const (.int .i64 0))) rfl rfl (fun _ e => by cases e) (fun o ho => exec_store3 (.tmp 6) (.const (.int .i64 0)) ho (B + 2) 0 0 rfl rfl _ q6) rfl (fun _ _ _ _ => (HB4.set (B + 2) (by omega) _).2.2.2.2) ?_ ReadyG.nil)
    have HB5 := HB4.set (B + 2) (by omega) (.int .i64 0)
    have q5 := q5.other (B' := B + 2) (by omega) (.int .i64 0)
    have q6 := q6.set (.int .i64 0)
    have q7 := q7.other (B' := B + 2) (by omega) (.int .i64 0)
    generalize w4.setCell ⟨B + 2, 0, none⟩ (.int .i64 0) = w5 at *
    refine AnyG.ready (rs := [8]) (by kernel_rfl) (by simp) (ReadyG.skip (.store 52 (.tmp 7) (.tmp 11)) rfl rfl (fun _ e => by cases e) (fun o ho => exec_store49 (.tmp 7) (.tmp 11) ho (B + 1) (M : Int) 0 rfl rfl _ q7) rfl (fun _ _ _ _ => (HB5.set (B + 1) (by omega) _).2.2.2.2) ?_ ReadyG.nil)
    have HB6 := HB5.set (B + 1) (by omega) (.int .u64 (M : Int))
    have q5 := q5.other (B' := B + 1) (by omega) (.int .u64 (M : Int))
    have q6 := q6.other (B' := B + 1) (by omega) (.int .u64 (M : Int))
    have q7 := q7.set (.int .u64 (M : Int))
    generalize w5.setCell ⟨B + 1, 0, none⟩ (.int .u64 (M : Int)) = w6 at *
    refine AnyG.done (by kernel_rfl) ?_ _
    have h9 := HM.out (B + 3) (B + 2) (B + 1) w6 (by omega) (by omega) (by omega) (by omega) (by omega) (by omega) HB6.2.2.1 HB6.2.2.2.1 q5 q6 q7
    exact h9
end Go.Proofs.YtdbbcngolcnniaaGreatDoor
