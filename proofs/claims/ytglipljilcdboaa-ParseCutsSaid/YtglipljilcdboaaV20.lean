/- Several texts, one behind the other; each says by itself what it proves, and on what conditions. -/
import Derived.Test.YtglipljilcdboaaV19
/- Of the program: feeding's end; the region that makes the iterator. No condition but what each names. -/
namespace Go.Proofs.Ytglipljilcdboaa
open Go.RowKit Go.Shelf
set_option linter.unusedVariables false
set_option linter.unusedSimpArgs false
section
open E
theorem tl20 : (rg Try.f20 0).tail = [.inBlock 0, .code (.seq (.region 11 (hdOps (rp Try.f20 11)) false) .ret)] := by kernel_rfl
theorem ops11 : (hdOps (rp Try.f20 11)).toList.map (fun o => (o.op, o.guard, o.dst)) = [(.store 24 (.tmp 4) (.const (.int .i64 0)), none, none)] := by kernel_rfl
theorem row_int {w : World} {B : Blk} {x : Int} (y : Int) (h : RowAt (fun _ => B) 0 (intR x) w) : RowAt (fun _ => B) 0 (intR y) (w.setCell ⟨B.1, B.2, none⟩ (.int .i64 y)) ∧ Fr w [B.1] (w.setCell ⟨B.1, B.2, none⟩ (.int .i64 y)) ∧ w.cell? ⟨B.1, B.2, none⟩ = some (.int .i64 x) ∧ w.frozen? ⟨B.1, B.2, none⟩ = false := by
  obtain ⟨h1, h2, h3, cur, t, fz, h4⟩ := h
  have h20 := h2 0 (.int .i64 x) rfl
  have e : B.2 + 0 = B.2 := Nat.add_zero _
  simp only [e] at h20
  refine ⟨⟨by simpa [World.setCell] using h1, fun j v hv => ?_, (fun e k h => by cases h), ?_⟩, ⟨rfl, rfl, rfl, by simp [World.setCell], fun k hk hn => Below.heap_setCell _ _ _ _ (fun e => hn (by rw [e]; simp))⟩, h20.1, h20.2 trivial⟩
  · have hv2 : [Value.int .i64 y][j]? = some v := hv
    match j, hv2 with
    | 0, hv2 =>
      cases hv2
      show (w.setCell ⟨B.1, B.2, none⟩ (.int .i64 y)).cell? ⟨B.1, B.2 + 0, none⟩ = _ ∧ (_ → (w.setCell ⟨B.1, B.2, none⟩ (.int .i64 y)).frozen? ⟨B.1, B.2 + 0, none⟩ = false)
      rw [e, cell_setCell, if_pos rfl, frozen_setCell, h20.1]
      exact ⟨rfl, fun _ => h20.2 trivial⟩
    | j + 1, hv2 => cases hv2
  · exact ⟨_, _, _, heap_setCell_self h4⟩
/-- The result told, the loop's mark taken. -/
theorem end_cell {W : World} {a : Act} {b D : Nat} {pr pc : Blk} {x : Int} {R : Ending → World → Prop} (hsz : a.tmps.size = Try.f20.ntmps) (h4 : a.tmps[4]? = some ((ptrTo 2).val (envF b pr pc))) (hdf : a.defers = [markD D]) (hD : W.heap[D]? = some (.deferred (some []))) (hc : RowAt (fun _ => pc) 0 (intR x) W) (hR : R (.returned (.int .i64 x)) (W.putObj D (.deferred none))) : EndX Try.prog Try.f20 R .ret a W := by
  refine ⟨.inr rfl, ?_⟩
  rw [hdf]
  have hne : pc.1 ∉ [D] := fun hm => by
    obtain ⟨cur, t, fz, h5⟩ := hc.2.2.2
    simp only at h5
    rw [List.mem_singleton.1 hm, hD] at h5
    cases h5
  have hc2 := rowAt_fr hc (fr_put W D (.deferred none)) hne
  refine leaves_marks (n0 := 0) [D] W ⟨by simp, fun E hE => by obtain rfl := List.mem_singleton.1 hE; exact ⟨Nat.zero_le _, hD⟩⟩ ?_
  have hden : Den (W.putObj D (.deferred none)) ⟨[], envF b pr pc, []⟩ (envF b pr pc) (mkSt Try.f20.ntmps [(4, ptrTo 2)] [(2, roR (intR x))] []) { tmps := a.tmps, defers := [] } (W.putObj D (.deferred none)) := by
    refine den_new hsz rfl ⟨List.nodup_nil, fun D hD => by cases hD⟩ (KeepsOthers.refl _) (Fr.refl _ _) (fun p hp => ?_) rfl (fun p hp => ?_) (fun p hp q hq hpq hw => ?_) (fun p hp hw => ?_) rfl rfl
    · obtain rfl := List.mem_singleton.1 hp; exact ⟨h4, trivial⟩
    · obtain rfl := List.mem_singleton.1 hp; exact ⟨ro_row hc2, fun p hp => by obtain rfl := List.mem_singleton.1 hp; rfl⟩
    · obtain rfl := List.mem_singleton.1 hp; cases hw
    · obtain rfl := List.mem_singleton.1 hp; cases hw
  obtain ⟨g1, g2⟩ := resT_ok (P := Try.prog) (x := .int .i64 x) (fn := Try.f20) (ob := []) hden (by kernel_rfl) trivial
  exact ⟨_, g1, hR⟩
/-- Behind the loop. -/
theorem tail_any {W : World} {a : Act} {b D : Nat} {pr pc : Blk} {R : Ending → World → Prop} (hsz : a.tmps.size = Try.f20.ntmps) (h4 : a.tmps[4]? = some ((ptrTo 2).val (envF b pr pc))) (hdf : a.defers = [markD D]) (hD : W.heap[D]? = some (.deferred (some []))) (hc : RowAt (fun _ => pc) 0 (intR 0) W) (hR : ∀ W', Fr W [pc.1, D] W' → R (.returned (.int .i64 0)) W') : KX Try.prog none (rg Try.f20 0).tail (EndX Try.prog Try.f20 R) a W := by
  rw [tl20]
  refine KX.step (t' := [.code (.seq (.region 11 (hdOps (rp Try.f20 11)) false) .ret)]) (fun b k cs _ => stepR_inBlock) (KX.step (t' := [.code (.region 11 (hdOps (rp Try.f20 11)) false), .code .ret]) (fun b k cs _ => stepR_seq) ?_)
  obtain ⟨k1, k2, k3, k4⟩ := row_int 0 hc
  have hD2 : (W.setCell ⟨pc.1, pc.2, none⟩ (.int .i64 0)).heap[D]? = some (.deferred (some [])) := (Below.heap_setCell _ _ _ _ (fun e => by
    obtain ⟨cur, t, fz, h5⟩ := hc.2.2.2
    simp only at h5 e
    rw [← e, hD] at h5
    cases h5)).trans hD
  refine KX.code (n := 5) (K := fun a' w' => a' = a ∧ w' = W.setCell ⟨pc.1, pc.2, none⟩ (.int .i64 0)) (wpIn_region ?_) ?_
  · have hops := ops11
    obtain ⟨o, ho⟩ : ∃ o, (hdOps (rp Try.f20 11)).toList = [o] := by
      have := congrArg List.length hops
      simp only [List.length_map, List.length_singleton] at this
      exact List.length_eq_one_iff.1 this
    rw [ho] at hops
    simp only [List.map_cons, List.map_nil, List.cons.injEq, Prod.mk.injEq, and_true] at hops
    obtain ⟨o1, o2, o3⟩ := hops
    have hs : (hdOps (rp Try.f20 11)).size = 1 := by rw [← Array.length_toList, ho]; rfl
    have h0 : (hdOps (rp Try.f20 11))[0]? = some o := by rw [← Array.getElem?_toList, ho]; rfl
    rw [hs]
    show wpOpsIn _ _ _ _ _ [0] a W
    rw [wpOpsIn_cons]
    unfold wpOpIn
    rw [h0]
    simp only
    rw [if_pos (by simp [Region.wanted, o2])]
    refine ⟨fun _ _ => trivial, ?_⟩
    rw [Oper.semAt_eq _ _ _ (by rw [o1]; intro c hc; cases hc)]
    have hev : a.eval (.tmp 4) = .pointer (some ⟨pc.1, pc.2, none⟩) := by
      show a.tmps.getD 4 undef = _
      rw [Array.getD_eq_getD_getElem?, h4]; rfl
    have hrun : (execOp a.eval o).run Try.prog W = .ok .skip (W.setCell ⟨pc.1, pc.2, none⟩ (.int .i64 0)) := by
      unfold execOp; rw [o1]; simp only [hev]; go_simp
    rw [hrun]
    exact ⟨rfl, by rw [o3]; rfl, rfl⟩
  · rintro a' w' ⟨rfl, rfl⟩
    refine KX.ret (end_cell hsz h4 hdf hD2 k1 (hR _ ((k2.widen (fun x hx => ?_)).comp (fr_put _ _ _) fun x hx => .inl ?_)))
    · obtain rfl := List.mem_singleton.1 hx; simp
    · obtain rfl := List.mem_singleton.1 hx; simp
theorem ops5 : (hdOps (rp Try.f20 5)).pop.toList.map (·.op) = [.load 42 (.tmp 2), .nilCheck (.tmp 13), .fieldAddr 74 (.tmp 14) 0, .move (.tmp 1), .load 42 (.tmp 2), .nilCheck (.tmp 17), .fieldAddr 74 (.tmp 18) 1, .makeFunc (.func 33) #[.tmp 19] #[]] := by kernel_rfl
theorem dst5 : (hdOps (rp Try.f20 5)).pop.toList.map (fun o => (o.dst, o.guard)) = [(some 13, none), (some 14, none), (some 15, none), (some 16, none), (some 17, none), (some 18, none), (some 19, none), (some 20, none)] := by kernel_rfl
theorem dep5 : (hdOps (rp Try.f20 5)).pop.toList.map (fun x => (x.after.toList.filter (Region.binds .any ·)).map (·.on)) = [[], [0], [1], [], [], [4], [5], [6]] := by kernel_rfl
theorem last5 : lastOk (hdOps (rp Try.f20 5)) = true := by kernel_rfl
theorem fwd5 : fwd (hdOps (rp Try.f20 5)).pop = true := by kernel_rfl
theorem size5 : (hdOps (rp Try.f20 5)).size = 9 := by kernel_rfl
/-- What the operations that make the iterator come to. -/
abbrev D5 (b : Nat) (s : List UInt8) : List (Tmp × Value) := [(13, .pointer (some ⟨b, 0, none⟩)), (14, .pointer (some ⟨b, 0, none⟩)), (15, .pointer (some ⟨b, 0, none⟩)), (16, stv s), (17, .pointer (some ⟨b, 0, none⟩)), (18, .pointer (some ⟨b, 0, none⟩)), (19, .pointer (some ⟨b, 1, none⟩)), (20, mfv b)]
abbrev B5 (s : List UInt8) (q2 q4 : Addr) : List (Tmp × Value) := [(1, stv s), (2, .pointer (some q2)), (4, .pointer (some q4))]
theorem pure5 (m : Nat) {b : Nat} {s : List UInt8} {q2 q4 : Addr} {w : World} {a : Act} (hsz : a.tmps.size = Try.f20.ntmps) (hdf : a.defers = []) (hB : ∀ p ∈ B5 s q2 q4, a.tmps[p.1]? = some p.2) (hc : w.cell? q2 = some (.pointer (some ⟨b, 0, none⟩))) :
    wpAnyIn (FW none) m Try.prog .any (hdOps (rp Try.f20 5)).pop (fun e a w' => e = .normal ∧ w' = w ∧ Kn Try.f20.ntmps [] (B5 s q2 q4) (D5 b s) (fun _ => true) a) 8 (Array.replicate 8 false) a w := by
  have hps : (hdOps (rp Try.f20 5)).pop.size = 8 := by rw [Array.size_pop, size5]
  have hgetM : ∀ {β : Type} (f : Oper → β) (l : List β), (hdOps (rp Try.f20 5)).pop.toList.map f = l → ∀ (i : Nat) (x : Oper), (hdOps (rp Try.f20 5)).pop[i]? = some x → l[i]? = some (f x) := fun f l hl i x hx => by rw [← hl, List.getElem?_map, Array.getElem?_toList, hx]; rfl
  refine any_pure (D := D5 b s) fwd5 hps.symm (show [13, 14, 15, 16, 17, 18, 19, 20].Nodup by decide) (fun q hq p hp => ?_) (fun p hp => ?_) (fun i x hx => ?_) (fun i x p L a2 hx hp hL hk => ?_) 8 _ a (by rw [hps]; rfl) (by rw [hps]; decide) ⟨hsz, hdf, hB, fun i p hp hl => ?_⟩
  · simp only [List.mem_cons, List.not_mem_nil, or_false] at hq hp
    rcases hq with rfl | rfl | rfl <;> rcases hp with rfl | rfl | rfl | rfl | rfl | rfl | rfl | rfl <;> simp
  · simp only [List.mem_cons, List.not_mem_nil, or_false] at hp
    rcases hp with rfl | rfl | rfl | rfl | rfl | rfl | rfl | rfl <;> simp [show Try.f20.ntmps = 37 from rfl]
  · have h1 := hgetM _ _ dst5 i x hx
    have h2 := hgetM _ _ ops5 i x hx
    have hi : i < 8 := (List.getElem?_eq_some_iff.1 h1).1
    have : i = 0 ∨ i = 1 ∨ i = 2 ∨ i = 3 ∨ i = 4 ∨ i = 5 ∨ i = 6 ∨ i = 7 := by omega
    rcases this with rfl | rfl | rfl | rfl | rfl | rfl | rfl | rfl <;>
    · simp only [List.getElem?_cons_zero, List.getElem?_cons_succ, Option.some.injEq, Prod.mk.injEq] at h1 h2
      refine ⟨h1.2.symm, (fun c hc => by rw [hc] at h2; cases h2), fun p hp => ?_⟩
      simp only [List.getElem?_cons_zero, List.getElem?_cons_succ, Option.some.injEq] at hp
      rw [← h1.1, ← hp]
  · have h2 := hgetM _ _ ops5 i x hx
    have h3 := hgetM _ _ dep5 i x hx
    have hev : ∀ t v, a2.tmps[t]? = some v → a2.eval (.tmp t) = v := fun t v h => by
      show a2.tmps.getD t undef = v
      rw [Array.getD_eq_getD_getElem?, h]; rfl
    have hdep : ∀ k, k ∈ ((x.after.toList.filter (Region.binds .any ·)).map (·.on)) → L k = true := fun k hk2 => by
      obtain ⟨e, he, rfl⟩ := List.mem_map.1 hk2
      rw [List.mem_filter] at he
      exact hL e (by simpa using he.1) he.2
    have t1 := hev _ _ (hk.b (1, stv s) (by simp))
    have t2 := hev _ _ (hk.b (2, .pointer (some q2)) (by simp))
    have hi : i < 8 := (List.getElem?_eq_some_iff.1 h2).1
    have : i = 0 ∨ i = 1 ∨ i = 2 ∨ i = 3 ∨ i = 4 ∨ i = 5 ∨ i = 6 ∨ i = 7 := by omega
    rcases this with rfl | rfl | rfl | rfl | rfl | rfl | rfl | rfl <;>
      simp only [List.getElem?_cons_zero, List.getElem?_cons_succ, Option.some.injEq] at h2 h3 hp <;> rw [← hp]
    · unfold execOp; rw [← h2]; simp only [t2]; go_simp
    · have t13 := hev _ _ (hk.d 0 _ rfl (hdep 0 (by rw [← h3]; simp)))
      unfold execOp; rw [← h2]; simp only [t13]; go_simp
    · have t14 := hev _ _ (hk.d 1 _ rfl (hdep 1 (by rw [← h3]; simp)))
      unfold execOp; rw [← h2]; simp only [t14]; go_simp
    · unfold execOp; rw [← h2]; simp only [t1]; go_simp
    · unfold execOp; rw [← h2]; simp only [t2]; go_simp
    · have t17 := hev _ _ (hk.d 4 _ rfl (hdep 4 (by rw [← h3]; simp)))
      unfold execOp; rw [← h2]; simp only [t17]; go_simp
    · have t18 := hev _ _ (hk.d 5 _ rfl (hdep 5 (by rw [← h3]; simp)))
      unfold execOp; rw [← h2]; simp only [t18]; go_simp
    · have t19 := hev _ _ (hk.d 6 _ rfl (hdep 6 (by rw [← h3]; simp)))
      unfold execOp; rw [← h2]; simp [Instr.makeFunc, t19]
  · rw [Array.getD_eq_getD_getElem?, Array.getElem?_replicate] at hl
    split at hl <;> cases hl
end
end Go.Proofs.Ytglipljilcdboaa
/- Of the program: feeding, whole. Its conditions: what a tree keeps, what is begun, lengths that fit. -/
namespace Go.Proofs.Ytglipljilcdboaa
open Go.RowKit Go.Shelf
set_option linter.unusedVariables false
set_option linter.unusedSimpArgs false
section
open E
theorem E.any_last {P : Program} {r : Option Nat} {m rid : Nat} {ops : Array Oper} {a : Act} {w : World} {Q : Exit → Act → World → Prop} {K : Act → World → Prop} (hm : P.follows .mixedOrders = true) (hl : lastOk ops = true)
    (h8 : wpAnyIn (FW r) m P .any ops.pop (fun e a w' => e = .normal ∧ K a w') ops.pop.size (Array.replicate ops.pop.size false) a { w with drawn := w.drawn + 1 })
    (hlast : ∀ a w, K a w → wpOpIn (FW r) m P ops Q ops.pop.size (fun a w => Q .normal a w) a w) : (Code.region rid ops true).wpIn (FW r) m P Q a w := by
  simp only [lastOk, Bool.and_eq_true] at hl
  obtain ⟨hsz, hf, hanc, hgd⟩ := hl
  have hsz := Nat.le_of_ble_eq_true hsz
  have hback : ops.pop.push (ops.back (by omega)) = ops := by
    apply Array.ext'
    rw [Array.toList_push, Array.toList_pop, ← Array.getLast_toList]
    exact List.dropLast_concat_getLast (by intro h; have := congrArg List.length h; simp at this; simp [this] at hsz)
  refine wpIn_region_any hm ?_
  have key := any_push (F := FW r) (n := m) (P := P) (ops := ops.pop) (o := ops.back (by omega)) (A := ancs ops.toList []) (Q := Q) (fun i x hx => ?_) (by
      rw [hback]
      intro j o hj i hi
      exact ancs_ok ops.toList [] j o (by simpa using hj) i (by simpa using hi)) (fun i hi => hasN_iff.1 (List.all_eq_true.1 hanc i (List.mem_range.2 hi))) (by rw [hback]; exact hf) (K := K) (fun a w hk => by rw [hback]; exact hlast a w hk) _ _ _ _ (by simp) ?_ h8
  · rw [hback] at key
    have e : (Array.replicate ops.pop.size false).push false = Array.replicate ops.size false := by
      apply Array.ext'
      rw [Array.toList_push, Array.toList_replicate, Array.toList_replicate, ← List.replicate_succ', Array.size_pop]
      congr 1
      omega
    rw [e] at key
    rwa [show ops.pop.size + 1 = ops.size by rw [Array.size_pop]; omega] at key
  · have := List.all_eq_true.1 hgd x (List.mem_of_getElem? (by rw [Array.getElem?_toList]; exact hx))
    split at this
    · assumption
    · cases this
  · intro k hk i hi
    rw [getD_push] at hk
    rcases Nat.lt_or_ge k ops.pop.size with h | h
    · rw [Array.getD_eq_getD_getElem?, Array.getElem?_replicate, if_pos h] at hk; cases hk
    · rw [Array.getD_eq_getD_getElem?, Array.getElem?_replicate, if_neg (by omega)] at hk; cases hk
theorem stuck_of {t t' : TS} {r bs : List UInt8} (h : runM t r = some (t', bs)) : Stuck t' bs := by
  obtain ⟨h1, h2⟩ := run_stuck _ t r t' bs (Nat.le_refl _) h
  by_cases hb : bs = []
  · exact .inl hb
  · exact .inr (h2 hb)
/-- What feeding comes to. -/
def FdQ (W : World) (b : Nat) (D0 : List Nat) (r : Option (TS × List UInt8)) : Ending → World → Prop := fun e W' => Fr W (b :: D0) W' ∧ match r with
  | some (t, bs) => e = .returned (.int .i64 0) ∧ Good t ∧ Stuck t bs ∧ ∃ D, RdAt W' b t bs D ∧ ∀ y ∈ D, y ∈ D0 ∨ W.heap.size ≤ y
  | none => e = .returned (.int .i64 4) ∧ RowAt (fun _ => ⟨b, 0, 0⟩) 0 wrongR W'
theorem rg20 : rg Try.f20 0 = .code (.rangeFunc (.tmp 21) #[22, 23] asgF bodyF) :: (rg Try.f20 0).tail := by kernel_rfl
set_option maxRecDepth 100000 in
theorem range_at {W W2 : World} {b : Nat} {pr pc : Blk} {t : TS} {bs s : List UInt8} {D0 : List Nat} {p1 p2 p3 : Nat} (hf0 : Fr W [] W2) (hpr : W.heap.size ≤ pr.1) (hpc : W.heap.size ≤ pc.1) (hrd : RdAt W b t bs D0) (ow : Own W2 b pr pc 0)
    (r1 : RowAt (fun _ => ⟨p1, 0, 0⟩) 0 ⟨[.one (.v (stv s))], false, none⟩ W2) (r2 : RowAt (fun _ => ⟨p2, 0, 0⟩) 0 ⟨[.one (.v (mfv b))], false, none⟩ W2) (r3 : RowAt (fun _ => ⟨p3, 0, 0⟩) 0 ⟨[.one (.v (.pointer (some ⟨b, 0, none⟩)))], false, none⟩ W2)
    (n1 : W.heap.size ≤ p1) (n2 : W.heap.size ≤ p2 ∧ p2 ≠ pr.1 ∧ p2 ≠ pc.1) (n3 : W.heap.size ≤ p3 ∧ p3 ≠ pr.1 ∧ p3 ≠ pc.1) (hg : Good t) (hst : Stuck t bs) (hlen : bs.length + s.length ≤ 100000000000) :
    At Try.prog W2 nB Try.f20.ntmps [] (rg Try.f20 0) (EndX Try.prog Try.f20 (FdQ W b D0 (runM t (bs ++ s)))) [(2, .v ((ptrTo 1).val (envF b pr pc))), (4, .v ((ptrTo 2).val (envF b pr pc))), (21, .v (cloV p1 p2 p3))] [] := by
  intro a w ρ hden
  have hf := hden.fr
  have hlt := hrd.lt
  have hnb : ∀ p, W.heap.size ≤ p → p ∉ b :: D0 := fun p hp hm => by have := hlt p hm; omega
  have hno : ∀ p, W.heap.size ≤ p → p ≠ pr.1 → p ≠ pc.1 → p ∉ b :: (D0 ++ [pr.1, pc.1]) := fun p hp h1 h2 hm => by
    simp only [List.mem_cons, List.mem_append, List.not_mem_nil, or_false] at hm
    rcases hm with h | h | h | h
    · exact hnb p hp (by rw [h]; simp)
    · exact hnb p hp (List.mem_cons_of_mem _ h)
    · exact h1 h
    · exact h2 h
  have hfw : Fr W [] w := hf0.comp hf (fun x hx => by cases hx)
  have h : RgPre a w b pr pc t bs s D0 p1 p2 p3 := ⟨hden.sz, hden.df, (hden.tm 2 _ rfl).1, (hden.tm 4 _ rfl).1, (hden.tm 21 _ rfl).1, hrd.fr hfw (fun x _ hx => by cases hx), ow.fr hf (by simp) (by simp), rowAt_fr r1 hf (by simp), rowAt_fr r2 hf (by simp), rowAt_fr r3 hf (by simp), hnb p1 n1, hno p2 n2.1 n2.2.1 n2.2.2, hno p3 n3.1 n3.2.1 n3.2.2, hnb _ hpr, hnb _ hpc⟩
  have hpc3 : pc.1 < w.heap.size := h.ow.c.1
  have hwW : W.heap.size ≤ w.heap.size := hfw.size
  have hout : ∀ {W' : World}, Fr w (b :: (D0 ++ [pr.1, pc.1])) W' → Fr W (b :: D0) W' := fun h2 => (hfw.widen (fun x hx => by cases hx)).comp h2 fun x hx => by
    simp only [List.mem_cons, List.mem_append, List.not_mem_nil, or_false] at hx
    rcases hx with h | h | h | h
    · exact .inl (by rw [h]; simp)
    · exact .inl (List.mem_cons_of_mem _ h)
    · exact .inr (by omega)
    · exact .inr (by omega)
  rw [rg20]
  refine range_any h hg hst hlen (fun t' bs' D' W' a' hR e1 e2 hg' hrd' how hfr hD hdd => ?_) (fun W' a' hR e1 e2 hw hc hfr hdd => ?_)
  · refine tail_any (b := b) (pr := pr) (by rw [e1]; exact h.sz) (by rw [e1]; exact h.t4) e2 hdd how.c fun W'' hf2 => ⟨(hout hfr).comp hf2 fun x hx => ?_, ?_⟩
    · simp only [List.mem_cons, List.not_mem_nil, or_false] at hx
      rcases hx with rfl | rfl <;> exact .inr (by omega)
    · rw [hR]
      refine ⟨rfl, hg', stuck_of hR, D', hrd'.fr hf2 fun x hx hm => ?_, fun y hy => ?_⟩
      · simp only [List.mem_cons, List.not_mem_nil, or_false] at hm
        rcases List.mem_cons.1 hx with h2 | h2
        · have := hlt b (List.mem_cons_self ..)
          rcases hm with hm | hm <;> omega
        · have := (hD x h2).2
          simp only [List.mem_cons, List.not_mem_nil, or_false, not_or] at this
          rcases hm with hm | hm
          · exact this.2.2.2 hm
          · exact this.2.1 hm
      · rcases (hD y hy).1 with h2 | h2
        · exact .inl h2
        · exact .inr (by omega)
  · refine end_cell (b := b) (pr := pr) (by rw [e1]; exact h.sz) (by rw [e1]; exact h.t4) e2 hdd hc ⟨(hout hfr).comp (fr_put _ _ _) fun x hx => ?_, ?_⟩
    · obtain rfl := List.mem_singleton.1 hx; exact .inr hwW
    · rw [hR]
      refine ⟨rfl, rowAt_fr hw (fr_put _ _ _) fun hm => ?_⟩
      have := List.mem_singleton.1 hm
      have h2 := hlt b (List.mem_cons_self ..)
      simp only at this
      omega
end
end Go.Proofs.Ytglipljilcdboaa
/- Of the program: feeding, whole; a reader that is wrong. Its conditions: what a tree keeps, what is begun, lengths that fit. -/
namespace Go.Proofs.Ytglipljilcdboaa
open Go.RowKit Go.Shelf
set_option linter.unusedVariables false
set_option linter.unusedSimpArgs false
section
open E
set_option maxRecDepth 100000 in
theorem feed_any (W : World) (b : Nat) (t : TS) (bs s : List UInt8) (D0 : List Nat) (hg : Good t) (hst : Stuck t bs) (hlen : bs.length + s.length ≤ 100000000000) (hrd : RdAt W b t bs D0) : Calls Try.prog 20 #[.pointer (some ⟨b, 0, none⟩), stv s] W (FdQ W b D0 (runM t (bs ++ s))) := by
  have hrd0 := hrd
  obtain ⟨vb, E, D', rfl, hby, ⟨vn, vo, h1, hv, hn1⟩, hn⟩ := hrd
  obtain ⟨hvn, hvo⟩ := trv_cells hv
  have hvb := hby.cell
  refine At.calls (args := [ptrTo 0, .v (stv s)]) (rows := [(0, roR (rdP (.v vb) (.v vn) (.v vo) t.pl t.path false))]) (gl := []) (wr := []) (ρ := fun _ => (⟨b, 0, 0⟩ : Blk)) Try.func20 rfl rfl (init_ro1 ⟨trivial, rfl, trivial⟩ rfl rfl ⟨⟨ro_row h1, rdP_ok _ _ _ hvb hvn hvo⟩, trivial⟩) rfl ?_
  refine At.run rfl [] trivial [.n, .n] (tm2 := [(1, .v (stv s)), (2, ptrTo 1000), (4, ptrTo 1001)]) (rows2 := [(0, roR (rdP (.v vb) (.v vn) (.v vo) t.pl t.path false)), (1000, ⟨[.one (.ptr 0 0 0 0 0)], true, none⟩), (1001, intR 0)]) (ob := [false = false, false = false]) (td := rp Try.f20 5) (by kernel_rfl) ⟨rfl, rfl, trivial⟩ rfl rfl (by intro h; cases h) ?_
  intro a w ρ hden
  have e0 : ρ 0 = ⟨b, 0, 0⟩ := hden.e0 0 (.inl (by decide))
  obtain ⟨q1, _, _, _, q1w⟩ := hden.rw 1000 _ rfl
  obtain ⟨q2, _, _, _, q2w⟩ := hden.rw 1001 _ rfl
  have q12 := hden.ds 1000 1001 _ _ rfl rfl (by decide) rfl
  obtain ⟨pr, hpr⟩ : ∃ pr, pr = ρ 1000 := ⟨_, rfl⟩
  obtain ⟨pc, hpc⟩ : ∃ pc, pc = ρ 1001 := ⟨_, rfl⟩
  have hprW : W.heap.size ≤ pr.1 := by rw [hpr]; exact (q1w rfl).resolve_right (by simp)
  have hpcW : W.heap.size ≤ pc.1 := by rw [hpc]; exact (q2w rfl).resolve_right (by simp)
  have hbW : b < W.heap.size := hrd0.lt b (List.mem_cons_self ..)
  have ow : Own w b pr pc 0 := by
    refine ⟨?_, ?_, by omega, by omega, by rw [hpr, hpc]; exact q12⟩
    · have := ro_row q1
      unfold RowAt at this ⊢
      rw [← hpr] at this
      have e : lst ρ (roR (⟨[.one (.ptr 0 0 0 0 0)], true, none⟩ : Row)).ps = lst (fun _ => pr) (⟨[.one (.v (.pointer (some ⟨b, 0, none⟩)))], false, none⟩ : Row).ps := by
        show [Value.pointer (some ⟨(ρ 0).1, (ρ 0).2 + (0 + 0 * 0 + 0), none⟩)] = [Value.pointer (some ⟨b, 0, none⟩)]
        rw [e0]
      rw [e] at this
      exact this
    · have := q2
      unfold RowAt at this ⊢
      rw [← hpc] at this
      exact this
  have t1 := (hden.tm 1 _ rfl).1
  have t2 : a.tmps[2]? = some (.pointer (some ⟨pr.1, pr.2 + (0 + 0 * 0 + 0), none⟩)) := by rw [hpr]; exact (hden.tm 2 _ rfl).1
  have t4 : a.tmps[4]? = some (.pointer (some ⟨pc.1, pc.2 + (0 + 0 * 0 + 0), none⟩)) := by rw [hpc]; exact (hden.tm 4 _ rfl).1
  have hcell : w.cell? ⟨pr.1, pr.2 + (0 + 0 * 0 + 0), none⟩ = some (.pointer (some ⟨b, 0, none⟩)) := (ow.r.2.1 0 _ rfl).1
  obtain ⟨wd, hwd⟩ : ∃ wd : World, wd = { w with drawn := w.drawn + 1 } := ⟨_, rfl⟩
  have fd : Fr w [] wd := by rw [hwd]; exact ⟨rfl, rfl, rfl, Nat.le_refl _, fun _ _ _ => rfl⟩
  rw [isRegD_ok (t := rp Try.f20 5) rfl]
  refine KX.code (n := 5) (K := fun a w => KX Try.prog none (rp Try.f20 5).tail (EndX Try.prog Try.f20 (FdQ W b (E ++ D') (runM t (bs ++ s)))) a w) (any_last (K := fun a' w' => w' = wd ∧ Kn Try.f20.ntmps [] (B5 s ⟨pr.1, pr.2 + (0 + 0 * 0 + 0), none⟩ ⟨pc.1, pc.2 + (0 + 0 * 0 + 0), none⟩) (D5 b s) (fun _ => true) a') rfl last5 ?_ ?_) fun a w h => h
  · rw [← hwd]
    have h5 := pure5 5 (w := wd) (a := a) hden.sz hden.df (fun p hp => by
      simp only [List.mem_cons, List.not_mem_nil, or_false] at hp
      rcases hp with rfl | rfl | rfl
      · exact t1
      · exact t2
      · exact t4) (by rw [hwd]; exact hcell)
    have h8 : (hdOps (rp Try.f20 5)).pop.size = 8 := by rw [Array.size_pop, size5]
    rw [h8]
    exact h5
  · rintro a' w' ⟨hw', hk⟩
    rw [hw']
    have hd2 : Den wd nB (fun _ => ⟨0, 0, 0⟩) (mkSt Try.f20.ntmps [(15, .v (.pointer (some ⟨b, 0, none⟩))), (16, .v (stv s)), (20, .v (mfv b))] [] []) a' wd := by
      refine den_new hk.sz hk.df ⟨List.nodup_nil, fun D hD => by cases hD⟩ (KeepsOthers.refl _) (Fr.refl _ _) (fun p hp => ?_) rfl (fun p hp => by cases hp) (fun p hp => by cases hp) (fun p hp => by cases hp) rfl rfl
      simp only [List.mem_cons, List.not_mem_nil, or_false] at hp
      rcases hp with rfl | rfl | rfl
      · exact ⟨hk.d 2 _ rfl rfl, rfl⟩
      · exact ⟨hk.d 3 _ rfl rfl, rfl⟩
      · exact ⟨hk.d 7 _ rfl rfl, rfl⟩
    have h8 : (hdOps (rp Try.f20 5)).pop.size = 8 := by rw [Array.size_pop, size5]
    rw [h8]
    refine xCall_ok (d := 21) (f := 32) (vs := [.v (.pointer (some ⟨b, 0, none⟩)), .v (stv s), .v (mfv b)]) (by kernel_rfl) hd2 ent32 ((mk_any b s wd).mono ?_)
    rintro e w2 ⟨p1, p2, p3, rfl, hf2, l1, l2, l3, r1, r2, r3⟩
    refine ⟨_, rfl, rfl, ?_⟩
    have hsz : W.heap.size ≤ wd.heap.size := by rw [hwd]; exact hden.fr.size
    have hprw : pr.1 < wd.heap.size := by rw [hwd]; exact ow.r.1
    have hpcw : pc.1 < wd.heap.size := by rw [hwd]; exact ow.c.1
    have hW2 : Fr W [] w2 := ((hden.fr).comp fd (fun x hx => by cases hx)).comp hf2 (fun x hx => by cases hx)
    have ow2 : Own w2 b pr pc 0 := (ow.fr fd (by simp) (by simp)).fr hf2 (by simp) (by simp)
    have main := range_at (D0 := E ++ D') (t := t) (bs := bs) (s := s) hW2 hprW hpcW hrd0 ow2 r1 r2 r3 (by omega) ⟨by omega, by omega, by omega⟩ ⟨by omega, by omega, by omega⟩ hg hst hlen
    have key : At Try.prog w2 nB Try.f20.ntmps [] (rp Try.f20 5).tail (EndX Try.prog Try.f20 (FdQ W b (E ++ D') (runM t (bs ++ s)))) [(2, .v ((ptrTo 1).val (envF b pr pc))), (4, .v ((ptrTo 2).val (envF b pr pc))), (21, .v (cloV p1 p2 p3))] [] :=
      At.run rfl [] trivial [] (tm2 := [(2, .v ((ptrTo 1).val (envF b pr pc))), (4, .v ((ptrTo 2).val (envF b pr pc))), (21, .v (cloV p1 p2 p3))]) (rows2 := []) (ob := []) (td := rg Try.f20 0) (by kernel_rfl) trivial rfl rfl (by intro h; cases h) main
    refine key _ w2 (fun _ => ⟨0, 0, 0⟩) ?_
    have hput : ∀ t, t ≠ 21 → (a'.put (some 21) (cloV p1 p2 p3)).tmps[t]? = a'.tmps[t]? := fun t ht => by
      show (a'.tmps.setIfInBounds 21 _)[t]? = _
      rw [Array.getElem?_setIfInBounds, if_neg (Ne.symm ht)]
    refine den_new (by rw [put_size]; exact hk.sz) (by rw [put_defers]; exact hk.df) ⟨List.nodup_nil, fun D hD => by cases hD⟩ (KeepsOthers.refl _) (Fr.refl _ _) (fun p hp => ?_) rfl (fun p hp => by cases hp) (fun p hp => by cases hp) (fun p hp => by cases hp) rfl rfl
    simp only [List.mem_cons, List.not_mem_nil, or_false] at hp
    rcases hp with rfl | rfl | rfl
    · exact ⟨(hput 2 (by decide)).trans (hk.b (2, .pointer (some ⟨pr.1, pr.2 + (0 + 0 * 0 + 0), none⟩)) (List.mem_cons_of_mem _ (List.mem_cons_self ..))), rfl⟩
    · exact ⟨(hput 4 (by decide)).trans (hk.b (4, .pointer (some ⟨pc.1, pc.2 + (0 + 0 * 0 + 0), none⟩)) (List.mem_cons_of_mem _ (List.mem_cons_of_mem _ (List.mem_cons_self ..)))), rfl⟩
    · refine ⟨?_, rfl⟩
      show (a'.tmps.setIfInBounds 21 _)[21]? = _
      have : a'.tmps.size = 37 := hk.sz
      rw [Array.getElem?_setIfInBounds, if_pos rfl, if_pos (by rw [this]; decide)]
      rfl
set_option maxRecDepth 100000 in
theorem feed_wrong (W : World) (b : Nat) (s : List UInt8) (h : RowAt (fun _ => ⟨b, 0, 0⟩) 0 wrongR W) : Calls Try.prog 20 #[.pointer (some ⟨b, 0, none⟩), stv s] W fun e w' => e = .returned (.int .i64 4) ∧ Fr W [] w' := by
  refine At.calls (args := [ptrTo 0, .v (stv s)]) (rows := [(0, roR wrongR)]) (gl := []) (wr := []) (ρ := fun _ => (⟨b, 0, 0⟩ : Blk)) Try.func20 rfl rfl (init_ro1 ⟨trivial, rfl, trivial⟩ rfl rfl ⟨⟨ro_row h, rdP_ok _ _ _ rfl rfl rfl⟩, trivial⟩) rfl ?_
  exact At.fin rfl [] trivial [.n, .y] (x := .int .i64 4) (ob := [false = false, true = true]) (by kernel_rfl) ⟨rfl, rfl, trivial⟩ fun ρ' w' hf _ => ⟨rfl, hf⟩
end
end Go.Proofs.Ytglipljilcdboaa
/- Of the program: a reader made, fed, asked for its tree. Its conditions: lengths that fit. -/
namespace Go.Proofs.Ytglipljilcdboaa
open Go.RowKit Go.Shelf
set_option linter.unusedVariables false
set_option linter.unusedSimpArgs false
section
open E
attribute [local go_sem] Oper.semAt_some
/-- A reader in memory: a tree as far as it came and what is begun, or wrong. -/
def RdS (W : World) (b : Nat) (r : Option (TS × List UInt8)) (D : List Nat) : Prop := match r with
  | some (t, bs) => Good t ∧ Stuck t bs ∧ RdAt W b t bs D
  | none => RowAt (fun _ => ⟨b, 0, 0⟩) 0 wrongR W
def feedO (r : Option (TS × List UInt8)) (s : List UInt8) : Option (TS × List UInt8) := match r with
  | some (t, bs) => runM t (bs ++ s)
  | none => none
def begO (r : Option (TS × List UInt8)) : Nat := match r with
  | some (_, bs) => bs.length
  | none => 0
def errO (r : Option (TS × List UInt8)) : Int := match r with
  | some _ => 0
  | none => 4
theorem ent19 : Enters Try.prog 19 := enters_of Try.func19 (by kernel_rfl) rfl
theorem ent20 : Enters Try.prog 20 := enters_of Try.func20 (by kernel_rfl) rfl
theorem ent21 : Enters Try.prog 21 := enters_of Try.func21 (by kernel_rfl) rfl
theorem ent35 : Enters Try.prog 35 := enters_of Try.func35 (by kernel_rfl) rfl
theorem new_in (n : Nat) (w : World) : CallsIn Fence.wide n Try.prog 19 #[] w fun e w' => e = .returned (.pointer (some ⟨w.heap.size, 0, none⟩)) ∧ w.alloc (.cells #[nilS, .int .i64 0, .string ⟨#[]⟩, nilS, nilS, .bool false] 74) = w' := by
  refine callsIn_of_wp Try.func19 rfl trivial ?_ rfl
  simp only [Try.ntmps19, List.size_toArray, List.length_cons, List.length_nil, Nat.reduceAdd, Nat.reduceSub, Array.replicate_succ, Array.replicate_zero, List.push_toArray, List.append_toArray, List.nil_append, List.cons_append]
  gi_wp2
  go_ret
  exact ⟨rfl, rfl⟩
theorem row_new6 (w : World) (l : List Value) (ty : TypeId) (ps : List Pc) (h : lst (fun _ => ⟨w.heap.size, 0, 0⟩) ps = l) : RowAt (fun _ => ⟨w.heap.size, 0, 0⟩) 0 ⟨ps, true, none⟩ (w.alloc (.cells l.toArray ty)) := by
  refine ⟨by show w.heap.size < (w.alloc _).heap.size; rw [World.size_alloc]; omega, fun j x hx => ⟨?_, fun _ => ?_⟩, (fun e k h => by cases h), ⟨l.toArray, ty, _, Go.heap_alloc_new w _⟩⟩
  · rw [h] at hx
    show (w.alloc (.cells l.toArray ty)).cell? ⟨w.heap.size, 0 + j, none⟩ = some x
    rw [Nat.zero_add, cell_alloc_new]
    simpa using hx
  · show (w.alloc (.cells l.toArray ty)).frozen? ⟨w.heap.size, 0 + j, none⟩ = false
    unfold World.frozen?
    rw [show (w.alloc (.cells l.toArray ty)).heap[w.heap.size]? = some (.cells l.toArray ty (0, 0)) from Go.heap_alloc_new w _]
    simp
theorem good_t0 : Good t0 := good0
theorem new_any (w : World) : Calls Try.prog 19 #[] w fun e w' => ∃ b, e = .returned (.pointer (some ⟨b, 0, none⟩)) ∧ w.heap.size ≤ b ∧ Fr w [] w' ∧ RdS w' b (some (t0, [])) [] := by
  refine ((callsIn_wide (n := 6)).1 (new_in 6 w)).mono ?_
  rintro e w' ⟨rfl, rfl⟩
  exact ⟨w.heap.size, rfl, Nat.le_refl _, fr_alloc _ _, good_t0, .inl rfl, nilS, [], [], rfl, .inl ⟨rfl, rfl, rfl⟩, ⟨nilS, nilS, row_new6 w _ 74 (rdP (.v nilS) (.v nilS) (.v nilS) 0 [] false).ps rfl, .inl ⟨rfl, rfl, rfl, rfl⟩, by simp⟩, by simp⟩
theorem feedS (W : World) (b : Nat) (r : Option (TS × List UInt8)) (D : List Nat) (s : List UInt8) (hlen : begO r + s.length ≤ 100000000000) (h : RdS W b r D) : Calls Try.prog 20 #[.pointer (some ⟨b, 0, none⟩), stv s] W fun e W' => e = .returned (.int .i64 (errO (feedO r s))) ∧ Fr W (b :: D) W' ∧ ∃ D', RdS W' b (feedO r s) D' ∧ ∀ y ∈ D', y ∈ D ∨ W.heap.size ≤ y := by
  cases r with
  | some r =>
    obtain ⟨t, bs⟩ := r
    obtain ⟨h1, h2, h3⟩ := h
    refine (feed_any W b t bs s D h1 h2 hlen h3).mono ?_
    rintro e W' ⟨hf, hm⟩
    show _ = Ending.returned (.int .i64 (errO (runM t (bs ++ s)))) ∧ _ ∧ ∃ D', RdS W' b (runM t (bs ++ s)) D' ∧ _
    cases hR : runM t (bs ++ s) with
    | some r' =>
      obtain ⟨t', bs'⟩ := r'
      rw [hR] at hm
      obtain ⟨rfl, g1, g2, D', g3, g4⟩ := hm
      exact ⟨rfl, hf, D', ⟨g1, g2, g3⟩, g4⟩
    | none =>
      rw [hR] at hm
      obtain ⟨rfl, g1⟩ := hm
      exact ⟨rfl, hf, [], g1, fun y hy => by cases hy⟩
  | none =>
    refine (feed_wrong W b s h).mono ?_
    rintro e W' ⟨rfl, hf⟩
    exact ⟨rfl, hf.widen (fun x hx => by cases hx), [], rowAt_fr (show RowAt (fun _ => ⟨b, 0, 0⟩) 0 wrongR W from h) hf (by simp), fun y hy => by cases hy⟩
/-! ### The tree asked for -/
set_option maxRecDepth 100000 in
theorem clone_any (L : List Nd) (hL : L.length ≤ 256) (ρ : Env) (w : World) (h : RowAt ρ 1 (roR (rowN L L.length)) w) : Calls Try.prog 35 #[(TV.s (.lf (slN 1 L.length))).val ρ] w fun e w' => ∃ B : Blk, e = .returned (.slice (some ⟨B.1, 0, none⟩) L.length B.3) ∧ B.2 = 0 ∧ Fr w [] w' ∧ w.heap.size ≤ B.1 ∧ RowAt (fun _ => B) 0 (rowN L L.length) w' := by
  refine At.calls (args := [.s (.lf (slN 1 L.length))]) (rows := [(1, roR (rowN L L.length))]) (gl := []) (wr := []) (ρ := ρ) Try.func35 rfl rfl (init_ro1 ⟨trivial, trivial⟩ rfl rfl ⟨⟨h, rowN_ok _ _⟩, trivial⟩) rfl ?_
  refine At.finR rfl [] trivial [.n] (rows2 := [(4002, ⟨[.fnc (appF (chunkF [] 3 0) 0 fun q => ndc L (addN 0 q)) 3 (0 + L.length)], true, some (55, 3)⟩)]) (x := .s (.lf (.sl 4002 0 0 3 (0 + L.length) none))) (ob := [false = false, (0 : Nat) = 0, 0 + L.length ≤ 9223372036854775807, (0 + L.length) * 40 ≤ 140737488355328, 0 + L.length ≤ L.length]) (by kernel_rfl) ⟨rfl, rfl, by omega, by omega, by omega, trivial⟩ fun ρ' w' hf he _ hq => ?_
  obtain ⟨g1, _, g3⟩ := hq _ (List.mem_singleton.2 rfl)
  have g2 : RowAt ρ' 4002 (rowN L L.length) w' := row_eq g1 (Nat.zero_add _) fun i hi => by
    rw [appF_hi (Nat.zero_le _), addN_eq, Nat.sub_zero, Nat.zero_add]
  refine ⟨ρ' 4002, ?_, rowN_z g2, hf, (g3 rfl).resolve_right (by simp), rowAt_mv g2 rfl⟩
  show Ending.returned (.slice (some ⟨(ρ' 4002).1, (ρ' 4002).2 + (0 + 0 * 3), none⟩) (0 + L.length) ((ρ' 4002).3 - 0)) = _
  rw [rowN_z g2, show 0 + L.length = L.length from Nat.zero_add _]; rfl
abbrev hCl (r id : Nat) (L : List Nd) : Hint := .call ⟨35, fun ρ => #[(TV.s (.lf (slN r L.length))).val ρ], .s (.lf (slN id L.length)), [(r, roR (rowN L L.length))], [], some (rowN L L.length), []⟩
theorem hCl_ok (id : Nat) (L : List Nd) (hL : L.length ≤ 256) : HintOk Try.prog id (hCl 1 id L) := by
  refine call_ok ent35 trivial (fun p hp => by cases hp) fun ρ w hr => (clone_any L hL ρ w (hr (1, _) (by simp))).mono ?_
  rintro e w' ⟨B, rfl, h0, hf, hb, hrow⟩
  refine ⟨B, ?_, hf, (fun p hp => by cases hp), fun row hrw => ?_⟩
  · show _ = Ending.returned (.slice (some ⟨(setE ρ id B id).1, (setE ρ id B id).2 + (0 + 0 * 3), none⟩) L.length ((setE ρ id B id).3 - 0))
    rw [setE_same, h0]
    rfl
  · cases hrw
    exact ⟨hb, rowAt_mv hrow (setE_same ρ id B), rowN_ok _ _⟩
abbrev mkT : Value → Int → Value := fun v e => .tuple #[v, .int .i64 e]
set_option maxRecDepth 100000 in
/-- End. -/
theorem endS (W : World) (b : Nat) (r : Option (TS × List UInt8)) (D : List Nat) (h : RdS W b r D) : Calls Try.prog 21 #[.pointer (some ⟨b, 0, none⟩)] W (GOut mkT W (finM r)) := by
  cases r with
  | none =>
    have h : RowAt (fun _ => ⟨b, 0, 0⟩) 0 wrongR W := h
    refine At.calls (args := [ptrTo 0]) (rows := [(0, roR wrongR)]) (gl := []) (wr := []) (ρ := fun _ => (⟨b, 0, 0⟩ : Blk)) Try.func21 rfl rfl (init_ro1 ⟨trivial, trivial⟩ rfl rfl ⟨⟨ro_row h, rdP_ok _ _ _ rfl rfl rfl⟩, trivial⟩) rfl ?_
    exact At.fin rfl [] trivial [.n, .y] (x := .tup [.lf (.v nilS), .lf (.v (.int .i64 4))]) (ob := [false = false, true = true]) (by kernel_rfl) ⟨rfl, rfl, trivial⟩ fun ρ' w' hf _ => .inr ⟨(by decide : (4 : Int) ≠ 0), rfl, rfl, hf⟩
  | some r =>
    obtain ⟨t, bs⟩ := r
    obtain ⟨hg, hst, vb, E, D', rfl, hby, ⟨vn, vo, h1, hv, hn1⟩, hn⟩ := h
    obtain ⟨hvn, hvo⟩ := trv_cells hv
    by_cases h17 : t.pl = 17
    · have hne : t.nodes ≠ [] := good_ne hg (by omega) (by omega)
      have hn256 := hg.n
      rcases hv with ⟨e, _⟩ | ⟨_, Bn, Bo, rfl, rfl, r1, r2, rfl⟩
      · exact absurd e hne
      have z1 := rowN_z r1
      have d1 : b ≠ Bn.1 := fun e => (List.nodup_cons.1 hn1).1 (by rw [e]; simp)
      have hpt : #[Value.pointer (some ⟨b, 0, none⟩)] = (List.map (TV.val (envT b Bn Bo)) [ptrTo 0]).toArray := rfl
      refine At.calls (args := [ptrTo 0]) (rows := [(0, roR (rdP (.v vb) (slN 1 t.nodes.length) (.v (.slice (some ⟨Bo.1, 0, none⟩) t.opens.length Bo.3)) t.pl t.path false)), (1, roR (rowN t.nodes t.nodes.length))]) (gl := []) (wr := []) (ρ := envT b Bn Bo) Try.func21 rfl rfl (init_ro1 ⟨trivial, trivial⟩ rfl rfl ⟨⟨ro_row (rdP_mv h1 rfl rfl (slN_val env1 z1) rfl), rdP_ok _ _ _ hby.cell trivial rfl⟩, ⟨ro_row (rowAt_mv r1 env1), rowN_ok _ _⟩, trivial⟩) hpt ?_
      refine At.finR rfl [(8005, hCl 1 8005 t.nodes)] ⟨hCl_ok _ _ hn256, trivial⟩ [.n, .n, .n] (rows2 := [(8005, rowN t.nodes t.nodes.length)]) (x := .tup [.lf (slN 8005 t.nodes.length), .lf (.v (.int .i64 0))]) (ob := [[false = false, false = false, (!((t.pl : Int) == 17)) = false], qL (hCl 1 8005 t.nodes)].flatten) (by kernel_rfl) (all_flat ⟨⟨rfl, rfl, by rw [h17]; rfl, trivial⟩, all_qL _, trivial⟩) fun ρ' w' hf he _ hq => ?_
      obtain ⟨g1, _, g3⟩ := hq _ (List.mem_singleton.2 rfl)
      have hfin : finM (some (t, bs)) = (t.nodes, 0) := by simp [finM, h17]
      rw [hfin]
      refine .inl ⟨rfl, ρ' 8005, ?_, rowN_z g1, hf, (g3 rfl).resolve_right (by simp), rowAt_mv g1 rfl⟩
      show Ending.returned (.tuple #[.slice (some ⟨(ρ' 8005).1, (ρ' 8005).2 + (0 + 0 * 3), none⟩) t.nodes.length ((ρ' 8005).3 - 0), .int .i64 0]) = _
      rw [rowN_z g1]; rfl
    · have hfin : finM (some (t, bs)) = ([], 5) := by simp [finM, h17]
      rw [hfin]
      refine At.calls (args := [ptrTo 0]) (rows := [(0, roR (rdP (.v vb) (.v vn) (.v vo) t.pl t.path false))]) (gl := []) (wr := []) (ρ := fun _ => (⟨b, 0, 0⟩ : Blk)) Try.func21 rfl rfl (init_ro1 ⟨trivial, trivial⟩ rfl rfl ⟨⟨ro_row h1, rdP_ok _ _ _ hby.cell hvn hvo⟩, trivial⟩) rfl ?_
      exact At.fin rfl [] trivial [.n, .n, .y] (x := .tup [.lf (.v nilS), .lf (.v (.int .i64 5))]) (ob := [false = false, false = false, (!((t.pl : Int) == 17)) = true]) (by kernel_rfl) ⟨rfl, rfl, by simpa using (by omega : ¬ (t.pl : Int) = 17), trivial⟩ fun ρ' w' hf _ => .inr ⟨(by decide : (5 : Int) ≠ 0), rfl, rfl, hf⟩
end
end Go.Proofs.Ytglipljilcdboaa
/- Of the program: Get. Its condition: bytes that fit. -/
namespace Go.Proofs.Ytglipljilcdboaa
open Go.RowKit Go.Shelf
set_option linter.unusedVariables false
set_option linter.unusedSimpArgs false
section
open E
theorem GOut.before {mk : Value → Int → Value} {W w w' : World} {r : List Nd × Int} {e : Ending} (hf : Fr W [] w) (h : GOut mk w r e w') : GOut mk W r e w' := by
  rcases h with ⟨h1, B, h2, h3, h4, h5, h6⟩ | ⟨h1, h2, h3, h4⟩
  · exact .inl ⟨h1, B, h2, h3, hf.comp h4 (fun x hx => by cases hx), Nat.le_trans hf.size h5, h6⟩
  · exact .inr ⟨h1, h2, h3, hf.comp h4 (fun x hx => by cases hx)⟩
theorem GOut.after {mk : Value → Int → Value} {W w w' : World} {r : List Nd × Int} {e : Ending} (h : GOut mk W r e w) (hf : Fr w [] w') : GOut mk W r e w' := by
  rcases h with ⟨h1, B, h2, h3, h4, h5, h6⟩ | ⟨h1, h2, h3, h4⟩
  · exact .inl ⟨h1, B, h2, h3, h4.comp hf (fun x hx => by cases hx), h5, rowAt_fr h6 hf (by simp)⟩
  · exact .inr ⟨h1, h2, h3, h4.comp hf (fun x hx => by cases hx)⟩
theorem GOut.val {mk : Value → Int → Value} {w w' : World} {r : List Nd × Int} {e : Ending} (h : GOut mk w r e w') : ∃ v, v.oneCell' = true ∧ e = .returned (mk v r.2) := by
  rcases h with ⟨h1, B, rfl, _⟩ | ⟨h1, h2, rfl, _⟩
  · exact ⟨_, rfl, by rw [h1]⟩
  · exact ⟨_, rfl, rfl⟩
abbrev ptV (b : Nat) : Value := .pointer (some ⟨b, 0, none⟩)
set_option maxRecDepth 100000 in
theorem pget_any (s : List UInt8) (hs : s.length ≤ 100000000000) (W : World) : Calls Try.prog 12 #[stv s] W (GOut mkT W (getL s)) := by
  refine At.calls (args := [.v (stv s)]) (rows := []) (gl := []) (wr := []) (ρ := fun _ => (⟨0, 0, 0⟩ : Blk)) Try.func12 rfl rfl (init_rw ⟨rfl, trivial⟩ rfl rfl rfl (fun p hp => by cases hp) (fun p hp => by cases hp) (fun p hp => by cases hp)) rfl ?_
  refine At.run rfl [] trivial [] (tm2 := [(0, .v (stv s))]) (rows2 := []) (ob := []) (td := rp Try.f12 1) (by kernel_rfl) trivial rfl rfl (by intro h; cases h) ?_
  refine At.opX (α := World × Nat) 0 5 [] trivial (fun x => x.1) (fun _ => nB) (fun x => [(0, .v (stv s)), (5, .v (ptV x.2))]) (fun x => [(0, .v (stv s)), (4, .v (ptV x.2))]) (fun _ => []) (fun _ => []) (fun x => W.heap.size ≤ x.2 ∧ Fr W [] x.1 ∧ RdS x.1 x.2 (some (t0, [])) []) rfl (tm1 := [(0, .v (stv s))]) (rows1 := []) (o1 := []) (o2 := fun _ => []) (by kernel_rfl) trivial rfl ?_ (fun x _ => by kernel_rfl) (fun x _ => trivial) (fun x => rfl) (fun x hx => ?_)
  · intro a w ρ K QQ hden hk
    refine xCall_ok (d := 5) (f := 19) (vs := []) (by kernel_rfl) hden ent19 ((new_any w).mono ?_)
    rintro e w' ⟨b, rfl, h1, h2, h3⟩
    refine ⟨_, rfl, hk (w', b) (ptV b) w' (fun _ => ⟨0, 0, 0⟩) ⟨Nat.le_trans hden.fr.size h1, hden.fr.comp h2 (fun x hx => by cases hx), h3⟩ (den_again (d := 5) (tm' := [(0, .v (stv s)), (5, .v (ptV b))]) (rows2 := []) (K := []) hden (by decide) (fun p hp => ?_) rfl (fun p hp => by cases hp) (fun p hp => by cases hp) rfl rfl)⟩
    simp only [List.mem_cons, List.not_mem_nil, or_false] at hp
    rcases hp with rfl | rfl
    · exact .inr ⟨(show (0 : Nat) ≠ 5 by decide), rfl, fun r hr => by cases hr⟩
    · exact .inl ⟨rfl, rfl, rfl⟩
  obtain ⟨W1, b⟩ := x
  obtain ⟨hb, hf1, hr1⟩ := hx
  simp only at hb hf1 hr1 ⊢
  refine At.run rfl [] trivial [] (tm2 := [(0, .v (stv s)), (4, .v (ptV b))]) (rows2 := []) (ob := []) (td := rp Try.f12 2) (by kernel_rfl) trivial rfl rfl (by intro h; cases h) ?_
  refine At.opX (α := World) 2 8 [] trivial (fun x => x) (fun _ => nB) (fun x => [(4, .v (ptV b))]) (fun x => [(4, .v (ptV b))]) (fun _ => []) (fun _ => []) (fun x => Fr W [] x ∧ ∃ D, RdS x b (runM t0 s) D) rfl (tm1 := [(4, .v (ptV b)), (6, .v (ptV b)), (7, .v (stv s))]) (rows1 := []) (o1 := []) (o2 := fun _ => []) (by kernel_rfl) trivial rfl ?_ (fun x _ => by kernel_rfl) (fun x _ => trivial) (fun x => rfl) (fun x hx => ?_)
  · intro a w ρ K QQ hden hk
    have hr2 : RdS w b (some (t0, [])) [] := by
      obtain ⟨g1, g2, g3⟩ := hr1
      exact ⟨g1, g2, g3.fr hden.fr (fun x _ hx => by cases hx)⟩
    refine xCall_ok (d := 8) (f := 20) (vs := [.v (ptV b), .v (stv s)]) (by kernel_rfl) hden ent20 ((feedS w b (some (t0, [])) [] s (by show 0 + s.length ≤ _; omega) hr2).mono ?_)
    rintro e w' ⟨rfl, h2, D', h3, h4⟩
    refine ⟨_, rfl, hk w' _ w' (fun _ => ⟨0, 0, 0⟩) ⟨(hf1.comp hden.fr (fun x hx => by cases hx)).comp h2 (fun x hx => ?_), D', h3⟩ (den_again (d := 8) (tm' := [(4, .v (ptV b))]) (rows2 := []) (K := []) hden (by decide) (fun p hp => ?_) rfl (fun p hp => by cases hp) (fun p hp => by cases hp) rfl rfl)⟩
    · obtain rfl := List.mem_singleton.1 hx; exact .inr hb
    · obtain rfl := List.mem_singleton.1 hp
      exact .inr ⟨(show (4 : Nat) ≠ 8 by decide), rfl, fun r hr => by cases hr⟩
  obtain ⟨hf2, D, hr3⟩ := hx
  refine At.run rfl [] trivial [] (tm2 := [(4, .v (ptV b))]) (rows2 := []) (ob := []) (td := rp Try.f12 3) (by kernel_rfl) trivial rfl rfl (by intro h; cases h) ?_
  refine At.opX (α := World × Value) 1 10 [] trivial (fun x => x.1) (fun _ => nB) (fun x => [(10, .tup [.lf (.v x.2), .lf (.v (.int .i64 (getL s).2))])]) (fun x => [(2, .v x.2), (3, .int .i64 (getL s).2)]) (fun _ => []) (fun _ => []) (fun x => x.2.oneCell' = true ∧ GOut mkT W (getL s) (.returned (mkT x.2 (getL s).2)) x.1) rfl (tm1 := [(9, .v (ptV b))]) (rows1 := []) (o1 := []) (o2 := fun _ => []) (by kernel_rfl) trivial rfl ?_ (fun x _ => by kernel_rfl) (fun x _ => trivial) (fun x => rfl) (fun y hy => ?_)
  · intro a w ρ K QQ hden hk
    have hr4 : RdS w b (runM t0 s) D := by
      revert hr3
      cases runM t0 s with
      | none => intro hr3; exact rowAt_fr (show RowAt (fun _ => ⟨b, 0, 0⟩) 0 wrongR x from hr3) hden.fr (by simp)
      | some r =>
        obtain ⟨t, bs⟩ := r
        rintro ⟨g1, g2, g3⟩
        exact ⟨g1, g2, g3.fr hden.fr (fun x _ hx => by cases hx)⟩
    refine xCall_ok (d := 10) (f := 21) (vs := [.v (ptV b)]) (by kernel_rfl) hden ent21 ((endS w b (runM t0 s) D hr4).mono ?_)
    intro e w' hq
    have hq2 : GOut mkT W (getL s) e w' := GOut.before (hf2.comp hden.fr (fun x hx => by cases hx)) hq
    obtain ⟨v, hv, rfl⟩ := hq2.val
    refine ⟨_, rfl, hk (w', v) (mkT v (getL s).2) w' (fun _ => ⟨0, 0, 0⟩) ⟨hv, hq2⟩ (den_again (d := 10) (tm' := [(10, .tup [.lf (.v v), .lf (.v (.int .i64 (getL s).2))])]) (rows2 := []) (K := []) hden (by decide) (fun p hp => ?_) rfl (fun p hp => by cases hp) (fun p hp => by cases hp) rfl rfl)⟩
    obtain rfl := List.mem_singleton.1 hp
    refine .inl ⟨rfl, rfl, fun x hx => ?_⟩
    simp only [List.mem_cons, List.not_mem_nil, or_false] at hx
    rcases hx with rfl | rfl
    · exact hv
    · rfl
  · obtain ⟨W3, v⟩ := y
    exact At.fin rfl [] trivial [] (x := .tup [.lf (.v v), .lf (.v (.int .i64 (getL s).2))]) (ob := []) (by kernel_rfl) trivial fun ρ' w' hf _ => hy.2.after hf
end
end Go.Proofs.Ytglipljilcdboaa
