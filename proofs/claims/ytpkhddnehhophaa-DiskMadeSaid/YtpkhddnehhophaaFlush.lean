/- What Flush of package disk does to a disk that lies in memory. -/
import Derived.Test.YtpkhddnehhophaaIter
namespace Go.Proofs.Ytpkhddnehhophaa
open Go.RowKit Go.Shelf
set_option linter.unusedVariables false
attribute [local go_sem] Oper.semAt_some

theorem iter_nil_in (l Bp b : Nat) (p : Option Addr) (c : Nat) (W : World) (J : World → Prop) (hbox : W.cell? ⟨Bp, 0, none⟩ = some (.pointer (some ⟨b, 0, none⟩))) (c1 : W.cell? ⟨b, 1, none⟩ = some (.slice p 0 c)) (h0 : J W) :
    CallsIn Fence.wide 4 Try.prog 34 #[.func (.yield l) #[] #[], .pointer (some ⟨Bp, 0, none⟩)] W fun e W' => (∃ v, e = .returned v) ∧ J W' := by
  refine callsIn_of_wp Try.func34 rfl trivial ?_ rfl
  simp only [Try.ntmps34, List.size_toArray, List.length_cons, List.length_nil, Nat.reduceAdd, Nat.reduceSub, Array.replicate_succ, Array.replicate_zero, List.push_toArray, List.append_toArray, List.nil_append, List.cons_append]
  have HJ := Lib.hid h0
  clear h0
  gi_wp2
  gi_loopw [10] (fun i wr => i = .int .i64 0 ∧ J wr) (fun _ _ => 0)
  case atStart => exact ⟨rfl, HJ.out⟩
  case round =>
    obtain ⟨rfl, hJs⟩ := hrel
    have HJ2 := Lib.hid hJs
    clear hJs
    gi_wp2
    go_end0
    exact ⟨⟨_, rfl⟩, HJ2.out⟩

theorem lcells_get (l : List (Nat × List UInt8)) (hl : ∀ x ∈ l, x.2.length = 64) : ∀ (k : Nat) (hk : k < l.length) (j : Nat), j < 65 → (lcells l)[k * 65 + j]? = (wrow l[k].1 l[k].2)[j]? := by
  induction l with
  | nil => intro k hk; simp at hk
  | cons x l ih =>
    intro k hk j hj
    have hx : (wrow x.1 x.2).length = 65 := by rw [wrow_length, hl x (by simp)]
    have hc : lcells (x :: l) = wrow x.1 x.2 ++ lcells l := by simp [lcells, wrow]
    rw [hc]
    cases k with
    | zero => simp only [Nat.zero_mul, Nat.zero_add, List.getElem_cons_zero]; rw [List.getElem?_append_left (by omega)]
    | succ k =>
      rw [List.getElem?_append_right (by omega), hx, show (k + 1) * 65 + j - 65 = k * 65 + j by omega]
      simpa using ih (fun y hy => hl y (by simp [hy])) k (by simpa using hk) j hj

/-- The disk's iterator over its loose writes, whatever the rounds do, as long as they leave the disk's head and its loose writes alone. -/
theorem iter_stops {w : World} {B b bs : Nat} {lv : Value} {D : DS} (h : Rep w B b bs lv D) (o : Obj) (ho : o = .cells #[.pointer (some ⟨b, 0, none⟩)] 28) (g : Nat) (hg : ∀ k, lv.ownBlock = some k → k = g) (hgN : g < w.heap.size) :
    SeqStopsK Fence.wide 4 Try.prog 34 #[.pointer (some ⟨w.heap.size, 0, none⟩)] (encIt bs D.loose) (KpIt b g w.heap.size) (fun xs => xs = List.finRange D.loose.length) (fun _ => True) D.loose.length (w.alloc o) := by
  intro l J Jx W hW hJ hJx hY h0
  subst ho
  obtain ⟨c0, c1, -, -⟩ := h.c
  have hbN : b < w.heap.size := (Array.getElem?_eq_some_iff.1 h.hd).1
  have hbox : W.cell? ⟨w.heap.size, 0, none⟩ = some (.pointer (some ⟨b, 0, none⟩)) := by
    rw [hW.cell (p := ⟨w.heap.size, 0, none⟩) (by simp)]
    rw [cell_of_row _ w.heap.size 0 _ _ _ (heap_alloc_new w _)]
    rfl
  have hold : ∀ k, k < w.heap.size → W.heap[k]? = w.heap[k]? := fun k hk => (hW.block k (by simp; omega)).trans (Below.heap_alloc w _ k hk)
  have c0' : W.cell? ⟨b, 0, none⟩ = some (.slice (some ⟨bs, 0, none⟩) D.n D.n) := (World.cell?_of_block (w := w) (a := ⟨b, 0, none⟩) (hold b hbN)).trans c0
  have c1' : W.cell? ⟨b, 1, none⟩ = some lv := (World.cell?_of_block (w := w) (a := ⟨b, 1, none⟩) (hold b hbN)).trans c1
  have hsz := hW.size
  simp only [World.size_alloc] at hsz
  rcases h.hl.2 with ⟨hlv, h0l⟩ | ⟨g', cap, cur, hlv, -, hgg, hnc, hcm, hcs, htake⟩
  · have hnil : D.loose = [] := List.eq_nil_of_length_eq_zero h0l
    subst hlv
    refine (iter_nil_in l w.heap.size b none 0 W (J []) hbox c1' h0).mono ?_
    rintro e W' ⟨he, hj⟩
    exact ⟨he, Or.inl ⟨[], (List.eq_nil_of_length_eq_zero (by rw [List.length_finRange, h0l])).symm, hj⟩⟩
  · have hgg' : g' = g := hg g' (by rw [hlv]; rfl)
    subst hgg'
    rw [hlv] at c1'
    refine iter_in l w.heap.size b bs g' D.n cap D.loose h.hx h.hn h.hm J Jx (fun pre W2 o hj => hJ _ _ _ none hj (World.grownBy_alloc W2 o none) (fun r e => by cases e))
      (fun pre W2 hj => hJ _ _ _ none hj ⟨rfl, rfl, rfl, Nat.le_refl _, fun _ _ _ => rfl⟩ (fun r e => by cases e)) hY W hbox c0' c1' ?_ h0 (by omega) (by omega) (by omega)
    intro k hk j v hv
    have hj : j < 65 := by
      have := (List.getElem?_eq_some_iff.1 hv).1
      rw [wrow_length, (h.hx _ (List.getElem_mem hk)).2] at this
      omega
    have h1 := lcells_get D.loose (fun x hx => (h.hx x hx).2) k hk j hj
    rw [World.cell?_of_block (w := w) (a := ⟨g', k * 65 + j, none⟩) (hold g' hgN), cell_of_row w g' _ _ _ _ hgg]
    rw [hv, ← htake, List.getElem?_take] at h1
    split at h1
    · simpa using h1
    · cases h1

/-- The sectors' firm bytes behind some rounds. -/
def firmed (loose : List (Nat × List UInt8)) (now : Nat → List UInt8) (firm : Nat → List UInt8) (pre : List (Fin loose.length)) : Nat → List UInt8 :=
  pre.foldl (fun f x => upd f loose[x].1 (now loose[x].1)) firm
theorem firmed_snoc (loose : List (Nat × List UInt8)) (now firm : Nat → List UInt8) (pre : List (Fin loose.length)) (x : Fin loose.length) : firmed loose now firm (pre ++ [x]) = upd (firmed loose now firm pre) loose[x].1 (now loose[x].1) := by simp [firmed]

/-- The rounds' invariant: but for the sectors' block nothing that was there has turned; the sectors hold what they hold behind the rounds. -/
def InvF {α : Type} (w0 : World) (bs n : Nat) (firm now : List α → Nat → List UInt8) (pre : List α) (W : World) : Prop :=
  Fr (fun k => k = bs) w0 W ∧ ∃ cur, W.heap[bs]? = some (.cells cur 69 (0, 0)) ∧ Secs cur n (firm pre) (now pre)

theorem invF_own {α : Type} {w0 : World} {bs n : Nat} {firm now : List α → Nat → List UInt8} (hbs : bs < w0.heap.size) : OwnFrom w0.heap.size (InvF w0 bs n firm now) := by
  rintro s W W' row ⟨hf, cur, hc, hS⟩ hg hr
  have hne : ∀ k, k < w0.heap.size → W'.heap[k]? = W.heap[k]? := fun k hk => hg.block k (Nat.lt_of_lt_of_le hk hf.size) (fun e => by have := (hr k e.symm).1; omega)
  exact ⟨⟨hg.os.trans hf.os, hg.tape.trans hf.tape, hg.output.trans hf.output, Nat.le_trans hf.size hg.size, fun k hk hS => (hne k hk).trans (hf.block k hk hS)⟩, cur, (hne bs hbs).trans hc, hS⟩

theorem kpIt_b {b g Bp : Nat} {w0 : World} (hb : b < w0.heap.size) (hg : g < w0.heap.size) (hB : Bp < w0.heap.size) (W : World) (l : Nat) (o o' : Obj) (hl : w0.heap.size ≤ l) (_ : W.heap[l]? = some o) (_ : o.isCells = false) (_ : o.isWalk = false) : KpIt b g Bp W (W.putObj l o') := by
  have hk := grownBy_putObj' W l o'
  have h2 : ∀ k, k < w0.heap.size → (W.putObj l o').heap[k]? = W.heap[k]? := fun k hk => World.putObj_heap_other (by omega)
  exact ⟨hk.size, h2 b hb, h2 g hg, h2 Bp hB⟩

theorem setRow_others {W : World} {g : Nat} {cs : Array Value} {cur : Array Value} {t : TypeId} {fr : Nat × Nat} (hg : W.heap[g]? = some (.cells cur t fr)) : KeepsOthers W (W.setRow g cs) :=
  KeepsOthers.of_grownBy (row := some g) ⟨rfl, rfl, rfl, by simp, fun k _ hk => setRow_other _ _ _ _ (fun e => hk (by rw [e]))⟩ (fun j o e ho => by cases e; rw [hg] at ho; cases ho; rfl)

theorem upd_self (f : Nat → List UInt8) (i : Nat) : upd f i (f i) = f := by funext k; unfold upd; split; (rename_i e; rw [e]); rfl

set_option maxRecDepth 100000 in
set_option maxHeartbeats 1000000 in
theorem flush_walk {w : World} {B b bs : Nat} {lv : Value} {D : DS} (h : Rep w B b bs lv D) (hd : D.down = false) (R : World → Prop)
    (hR : ∀ W, Fr (fun k => k = bs ∨ k = b) w W → W.heap[b]? = some (.cells #[.slice (some ⟨bs, 0, none⟩) D.n D.n, .slice none 0 0, .int .i64 D.fuse, .bool D.down] 62 (0, 0)) →
      (∃ cur, W.heap[bs]? = some (.cells cur 69 (0, 0)) ∧ Secs cur D.n (firmed D.loose D.now D.firm (List.finRange D.loose.length)) D.now) → R W) :
    Calls Try.prog 16 #[.pointer (some ⟨b, 0, none⟩)] w fun e w' => e = .returned (.int .i64 0) ∧ R w' := by
  refine (callsIn_wide (n := 5)).1 ?_
  obtain ⟨c0, c1, -, c3⟩ := h.c
  rw [hd] at c3
  have f1 := h.f 1
  obtain ⟨hne1, hne2, hne3⟩ := h.ne
  have hbN : b < w.heap.size := (Array.getElem?_eq_some_iff.1 h.hd).1
  obtain ⟨cur, hg, hS⟩ := h.hs
  have hbsN : bs < w.heap.size := (Array.getElem?_eq_some_iff.1 hg).1
  obtain ⟨g, hgo, hgN, hgbs⟩ : ∃ g, (∀ k, lv.ownBlock = some k → k = g) ∧ g < w.heap.size ∧ g ≠ bs := by
    cases hlv : lv.ownBlock with
    | none => exact ⟨b, fun k e => (by cases e), hbN, Ne.symm hne1⟩
    | some k => exact ⟨k, fun k' e => (by cases e; rfl), (h.hl.lt k hlv).2, fun e => hne3 (by rw [hlv, e])⟩
  have STOPS := iter_stops h _ rfl g hgo hgN
  refine callsIn_of_wp_marks Try.func16 rfl trivial ?_ rfl
  simp only [Try.ntmps16, List.size_toArray, List.length_cons, List.length_nil, Nat.reduceAdd, Nat.reduceSub, Array.replicate_succ, Array.replicate_zero, List.push_toArray, List.append_toArray, List.nil_append, List.cons_append]
  gi_wp2_with (refine ⟨trivial, ?_⟩; gi_at_call 31; refine (written_in _ _).mono ?_; rintro e w' ⟨rfl, rfl⟩)
  refine wpIn_rangeFunc_ownF rfl (by omega) (gf := 34) (lb := #[.pointer (some ⟨w.heap.size, 0, none⟩)]) rfl trivial (enters_of Try.func34 (by kernel_rfl) rfl) STOPS
    (fun h1 h2 => KpIt.trans h1 h2) (kpIt_b (by simp; omega) (by simp; omega) (by simp)) (Below.refl _ _) (fun _ => rfl)
    (InvF (w.alloc (.cells #[.pointer (some ⟨b, 0, none⟩)] 28)) bs D.n (fun pre => firmed D.loose D.now D.firm pre) (fun _ => D.now)) (fun _ _ _ => False)
    (invF_own (by simp; omega)) (fun _ _ _ _ _ hs _ _ => hs)
    ⟨Fr.refl _ _, cur, (Below.heap_alloc w _ bs hbsN).trans hg, hS⟩
    (fun x => { tmps := #[.pointer (some ⟨b, 0, none⟩), undef, .int .i64 0, undef, .pointer (some ⟨bs, D.loose[x].1 * 128, none⟩), .bool false, .pointer (some ⟨b, 0, none⟩), .bool false, .bool false, .pointer (some ⟨b, 0, none⟩), .pointer (some ⟨b, 0, none⟩), .pointer (some ⟨b, 3, none⟩), .bool false, .pointer (some ⟨b, 0, none⟩),
      .func (.func 34) #[] #[.pointer (some ⟨w.heap.size, 0, none⟩)], .int .i64 (x.1 : Int), .pointer (some ⟨bs, D.loose[x].1 * 128, none⟩), undef, undef, undef, undef, undef, undef, undef, undef, undef, undef], defers := [] }) ?assign ?body ?done ?stop
  case assign =>
    intro l x W K hK
    clear STOPS
    unfold encIt
    gi_wp2
    exact hK
  case body =>
    rintro l pre x W ⟨hf, cur2, hc2, hS2⟩ _
    have hx := h.hx _ (List.getElem_mem x.2)
    have hat : D.loose[x].1 < D.n := hx.1
    clear STOPS
    generalize hA : D.loose[x].1 = at_ at *
    have hnl : (D.now at_).length = 64 := hS2.ln at_ hat
    have hfl := hS2.lf at_ hat
    have hcs2 := hS2.size
    have hsz65 : Hid ((Try.prog.info? 65).map (·.size) = some (bv (D.now at_)).length) := by unfold Hid; rw [size65, bv_length, hnl]
    have hseg : Hid (∀ j v, (bv (D.now at_))[j]? = some v → W.cell? ⟨bs, at_ * 128 + 64 + j, none⟩ = some v) := by
      intro j v hv
      rw [bv_get] at hv
      split at hv
      · rename_i hj
        rw [cell_of_row W bs _ _ _ _ hc2, hS2.cn at_ hat j (by omega)]
        exact hv
      · cases hv
    have hfit : at_ * 128 + (bv (D.now at_)).length ≤ cur2.size := by rw [bv_length, hnl, hcs2]; omega
    have hfit' := Lib.hid hfit
    have hc2' := Lib.hid hc2
    have hpost : Hid (KeepsOthers W (W.setRow bs (splice cur2 (at_ * 128) (bv (D.now at_)))) ∧ KpIt b g w.heap.size W (W.setRow bs (splice cur2 (at_ * 128) (bv (D.now at_)))) ∧
        InvF (w.alloc (.cells #[.pointer (some ⟨b, 0, none⟩)] 28)) bs D.n (fun pre => firmed D.loose D.now D.firm pre) (fun _ => D.now) (pre ++ [x]) (W.setRow bs (splice cur2 (at_ * 128) (bv (D.now at_))))) := by
      refine ⟨setRow_others hc2, ⟨by simp, setRow_other _ _ _ _ (Ne.symm hne1), setRow_other _ _ _ _ hgbs, setRow_other _ _ _ _ (by omega)⟩, hf.setRow rfl _, _, setRow_heap _ _ _ _ _ _ hc2, ?_⟩
      have hset : Secs (splice cur2 (at_ * 128) (bv (D.now at_))) D.n (upd (firmed D.loose D.now D.firm pre) at_ (D.now at_)) (upd D.now at_ (D.now at_)) := by
        refine hS2.set (by rw [splice_size _ _ _ hfit, hcs2]) ?_ ?_ ?_ hnl hnl
        · intro j hj
          rw [splice_get _ _ _ hfit, bv_length, hnl, if_neg (by omega)]
        · intro j hj
          rw [splice_get _ _ _ hfit, bv_length, hnl, if_pos (by omega), bv_get, if_pos (by omega)]
          congr 2; omega
        · intro j hj
          rw [splice_get _ _ _ hfit, bv_length, hnl, if_neg (by omega), hS2.cn at_ hat j hj]
      rw [upd_self] at hset
      show Secs _ _ (firmed D.loose D.now D.firm (pre ++ [x])) D.now
      rw [firmed_snoc, hA]
      exact hset
    clear hfit hc2 hS2 hnl hfl hcs2 hf h hS hg hA hx
    gi_wp2_with (first | (refine wpListIn_run rfl rfl rfl _ (exec_load_seg _ 65 (.tmp 20) rfl bs (at_ * 128 + 64) rfl (bv (D.now at_)) _ hseg.out Try.underlying65 rfl hsz65.out) ?_) | (refine wpListIn_run0 rfl rfl rfl (exec_store_seg _ 65 (.tmp 23) (.tmp 21) rfl bs (at_ * 128) rfl (bv (D.now at_)) rfl cur2 69 hc2'.out hfit'.out (bv_one _) hsz65.out) ?_))
    exact hpost.out
  case done =>
    rintro D' ys W hD rfl ⟨hf, cur2, hc2, hS2⟩ hK
    have hDN : w.heap.size + 1 ≤ D' := by simpa using hD
    have hWb : W.heap[b]? = w.heap[b]? := (hf.block b (by simp; omega) (Ne.symm hne1)).trans (Below.heap_alloc w _ b hbN)
    have k1 : W.cell? ⟨b, 1, none⟩ = some lv := (World.cell?_of_block (w := w) (a := ⟨b, 1, none⟩) hWb).trans c1
    have k2 : W.frozen? ⟨b, 1, none⟩ = false := (World.frozen?_of_block (w := w) (a := ⟨b, 1, none⟩) hWb).trans f1
    have hK' : (W.setCell ⟨b, 1, none⟩ (.slice none 0 0)).heap[D']? = some (.deferred (some [])) := (Below.heap_setCell W _ _ D' (by show D' ≠ b; omega)).trans hK
    have hfin : R ((W.setCell ⟨b, 1, none⟩ (.slice none 0 0)).putObj D' (.deferred none)) := by
      have ho : ∀ k, k ≠ D' → k ≠ b → ((W.setCell ⟨b, 1, none⟩ (.slice none 0 0)).putObj D' (.deferred none)).heap[k]? = W.heap[k]? := fun k h1 h2 => (World.putObj_heap_other h1).trans (Below.heap_setCell W _ _ k h2)
      refine hR _ ⟨hf.os, hf.tape, hf.output, ?_, ?_⟩ ?_ ⟨cur2, (ho bs (by omega) hne1).trans hc2, hS2⟩
      · have := hf.size; simp at this ⊢; omega
      · intro k hk hk2
        have h1 : k ≠ bs := fun e => hk2 (Or.inl e)
        have h2 : k ≠ b := fun e => hk2 (Or.inr e)
        rw [ho k (by omega) h2, hf.block k (by simp; omega) h1]
        exact Below.heap_alloc w _ k hk
      · rw [World.putObj_heap_other (by omega), heap_setCell_same W b 1 _ 62 _ (hWb.trans h.hd)]
        rfl
    have HF := Lib.hid hfin
    have HK := Lib.hid hK'
    clear hfin hK' hK hf hS2 hc2 hWb STOPS hR c0 c1 c3 f1 h hS hg
    gi_wp2
    refine ⟨by simp, .inl ⟨_, _, rfl, run_takeDeferred HK.out, ?_⟩⟩
    exact ⟨_, results_tmp rfl _ _ _, rfl, HF.out⟩
  case stop =>
    rintro D' c pre W _ _ h' _
    exact h'.elim

theorem firmed_apply (loose : List (Nat × List UInt8)) (now : Nat → List UInt8) (i : Nat) : ∀ (pre : List (Fin loose.length)) (firm : Nat → List UInt8),
    firmed loose now firm pre i = if ∃ x ∈ pre, loose[x].1 = i then now i else firm i := by
  intro pre
  induction pre with
  | nil => intro firm; simp [firmed]
  | cons x pre ih =>
    intro firm
    have h1 : firmed loose now firm (x :: pre) = firmed loose now (upd firm loose[x].1 (now loose[x].1)) pre := rfl
    rw [h1, ih]
    by_cases hx : loose[x].1 = i
    · have h2 : upd firm loose[x].1 (now loose[x].1) i = now i := by unfold upd; rw [if_pos hx.symm, hx]
      rw [h2, if_pos (⟨x, List.mem_cons_self, hx⟩ : ∃ y ∈ x :: pre, loose[y].1 = i)]
      split <;> rfl
    · have h2 : upd firm loose[x].1 (now loose[x].1) i = firm i := by unfold upd; rw [if_neg (Ne.symm hx)]
      rw [h2]
      by_cases hy : ∃ y ∈ pre, loose[y].1 = i
      · rw [if_pos hy]
        obtain ⟨y, hy1, hy2⟩ := hy
        rw [if_pos (⟨y, List.mem_cons_of_mem _ hy1, hy2⟩ : ∃ y ∈ x :: pre, loose[y].1 = i)]
      · rw [if_neg hy, if_neg]
        rintro ⟨y, hy1, hy2⟩
        rcases List.mem_cons.1 hy1 with rfl | hy1
        · exact hx hy2
        · exact hy ⟨y, hy1, hy2⟩

/-- Behind a Flush: a sector that bears a loose write is firm as it is. -/
def DS.flush (D : DS) : DS := { D with firm := fun i => if ∃ x ∈ D.loose, x.1 = i then D.now i else D.firm i, loose := [] }

theorem firmed_finRange (loose : List (Nat × List UInt8)) (now firm : Nat → List UInt8) : firmed loose now firm (List.finRange loose.length) = fun i => if ∃ x ∈ loose, x.1 = i then now i else firm i := by
  funext i
  rw [firmed_apply]
  congr 1
  apply propext
  constructor
  · rintro ⟨x, _, hx⟩; exact ⟨_, List.getElem_mem x.2, hx⟩
  · rintro ⟨y, hy, hx⟩
    obtain ⟨k, hk, rfl⟩ := List.getElem_of_mem hy
    exact ⟨⟨k, hk⟩, List.mem_finRange _, hx⟩

theorem flush_ok {w : World} {B b bs : Nat} {lv : Value} {D : DS} (h : Rep w B b bs lv D) (hd : D.down = false) :
    Calls Try.prog 16 #[.pointer (some ⟨b, 0, none⟩)] w fun e w' => e = .returned (.int .i64 0) ∧ (Rep w' B b bs (.slice none 0 0) D.flush ∧ Fr (Foot b bs lv) w w') := by
  refine flush_walk h hd _ ?_
  rintro W hf hb ⟨cur, hc, hS⟩
  rw [firmed_finRange] at hS
  exact ⟨⟨h.hb, h.hbs, hb, h.hn, ⟨cur, hc, hS⟩, World.ownsRow_nil _ _ _ _, by simp [DS.flush], by simp [DS.flush], h.hf⟩, hf.mono (fun k _ hk => by rcases hk with rfl | rfl; exact Or.inr (Or.inl rfl); exact Or.inl rfl)⟩

theorem flush_down {w : World} {B b bs : Nat} {lv : Value} {D : DS} (h : Rep w B b bs lv D) (hd : D.down = true) :
    Calls Try.prog 16 #[.pointer (some ⟨b, 0, none⟩)] w fun e w' => e = .returned (.int .i64 7) ∧ w = w' := by
  obtain ⟨-, -, -, c3⟩ := h.c
  rw [hd] at c3
  clear h hd
  go_enter Try.func16, Try.ntmps16
  go_wp2
  go_ret
  exact ⟨rfl, rfl⟩

theorem flush_nil (w : World) : Calls Try.prog 16 #[.pointer none] w fun e w' => e = .returned (.int .i64 1) ∧ w = w' := by
  go_enter Try.func16, Try.ntmps16
  go_wp2
  go_ret
  exact ⟨rfl, rfl⟩

end Go.Proofs.Ytpkhddnehhophaa
