/- What the text of Crash of package disk does, step by step. No condition but that the disk lies in memory and the list reads as numbers. -/
import Derived.Test.YtpkhddnehhophaaErrs
namespace Go.Proofs.Ytpkhddnehhophaa
open Go.RowKit Go.Shelf
set_option linter.unusedVariables false
attribute [local go_sem] Oper.semAt_some

theorem Rep.sectors {w W : World} {B b bs : Nat} {lv : Value} {D : DS} (h : Rep w B b bs lv D) (hf : Fr (fun k => k = bs) w W) (f2 n2 : Nat → List UInt8) (hs : ∃ cur, W.heap[bs]? = some (.cells cur 69 (0, 0)) ∧ Secs cur D.n f2 n2) :
    Rep W B b bs lv { D with firm := f2, now := n2 } := by
  obtain ⟨hne1, hne2, hne3⟩ := h.ne
  have hbN : b < w.heap.size := (Array.getElem?_eq_some_iff.1 h.hd).1
  refine ⟨h.hb, h.hbs, (hf.block b hbN (Ne.symm hne1)).trans h.hd, h.hn, hs, ?_, h.hx, h.hm, h.hf⟩
  refine ⟨h.hl.1, ?_⟩
  rcases h.hl.2 with h1 | ⟨g, cap, cur, hv, hb, hgg, rest⟩
  · exact Or.inl h1
  · exact Or.inr ⟨g, cap, cur, hv, hb, (hf.block g (Array.getElem?_eq_some_iff.1 hgg).1 (fun e => hne3 (by rw [hv, ← e]; rfl))).trans hgg, rest⟩

/-- The sectors' firm bytes behind some rounds of a Crash: those loose writes whose numbers are kept. -/
def kept1 (loose : List (Nat × List UInt8)) (kp : Nat → Bool) (firm : Nat → List UInt8) (pre : List (Fin loose.length)) : Nat → List UInt8 :=
  pre.foldl (fun f x => if kp x.1 then upd f loose[x].1 loose[x].2 else f) firm
theorem kept1_snoc (loose : List (Nat × List UInt8)) (kp : Nat → Bool) (firm : Nat → List UInt8) (pre : List (Fin loose.length)) (x : Fin loose.length) :
    kept1 loose kp firm (pre ++ [x]) = if kp x.1 then upd (kept1 loose kp firm pre) loose[x].1 loose[x].2 else kept1 loose kp firm pre := by simp [kept1]

theorem marks_in (n : Nat) (hn : n ≤ 1000000) (p : Option Addr) (zs : List Int) (hzl : zs.length ≤ 9223372036854775807) (c : Nat) (w : World)
    (hp : Hid (∀ j (h : j < zs.length), ∃ g off, p = some ⟨g, off, none⟩ ∧ w.cell? ⟨g, off + j, none⟩ = some (.int .i64 zs[j]))) :
    CallsIn Fence.wide 4 Try.prog 32 #[.slice p zs.length c, .int .i64 n] w fun e w' => e = .returned (.slice (some ⟨w.heap.size, 0, none⟩) n n) ∧ ∃ cur, w' = w.alloc (.cells cur 4) ∧ cur.size = n ∧ ∀ j, j < n → cur[j]? = some (.bool (marked zs j)) :=
  callsIn_wide.2 (marks_walk n hn p zs hzl c w hp)

theorem zero74 (w : World) : (zeroValue 74).run Try.prog w = .ok (.slice none 0 0) w := by kernel_rfl

set_option maxRecDepth 100000 in
set_option maxHeartbeats 2000000 in
theorem crash_walk {w : World} {B b bs : Nat} {lv : Value} {D : DS} (h : Rep w B b bs lv D) (p : Option Addr) (zs : List Int) (hzl : zs.length ≤ 9223372036854775807) (c : Nat)
    (hp : Hid (∀ j (h : j < zs.length), ∃ g off, p = some ⟨g, off, none⟩ ∧ w.cell? ⟨g, off + j, none⟩ = some (.int .i64 zs[j]))) (R : World → Prop)
    (hR : Hid (∀ W, Fr (fun k => k = bs ∨ k = b) w W → W.heap[b]? = some (.cells #[.slice (some ⟨bs, 0, none⟩) D.n D.n, .slice none 0 0, .int .i64 (-1), .bool false] 62 (0, 0)) →
      (∃ cur, W.heap[bs]? = some (.cells cur 69 (0, 0)) ∧ Secs cur D.n (kept1 D.loose (marked zs) D.firm (List.finRange D.loose.length)) (firmed D.loose (kept1 D.loose (marked zs) D.firm (List.finRange D.loose.length)) D.now (List.finRange D.loose.length))) → R W)) :
    Calls Try.prog 18 #[.pointer (some ⟨b, 0, none⟩), .slice p zs.length c] w fun e w' => e = .returned (.tuple #[]) ∧ R w' := by
  refine (callsIn_wide (n := 5)).1 ?_
  obtain ⟨c0, c1, c2, c3⟩ := h.c
  obtain ⟨hne1, hne2, hne3⟩ := h.ne
  obtain ⟨ps, cs, hlv⟩ := h.sl
  have hbN : b < w.heap.size := (Array.getElem?_eq_some_iff.1 h.hd).1
  obtain ⟨cur, hg, hS⟩ := h.hs
  have hbsN : bs < w.heap.size := (Array.getElem?_eq_some_iff.1 hg).1
  have hp1 : Hid (∀ j (h : j < zs.length), ∃ g off, p = some ⟨g, off, none⟩ ∧ (w.alloc (.cells #[.pointer (some ⟨b, 0, none⟩)] 28)).cell? ⟨g, off + j, none⟩ = some (.int .i64 zs[j])) := by
    intro j hj
    obtain ⟨g, off, h1, h2⟩ := hp.out j hj
    exact ⟨g, off, h1, (World.cell?_of_block (w := w) (a := ⟨g, off + j, none⟩) (Below.heap_alloc w _ g (block_lt_of_cell h2))).trans h2⟩
  have hM := marks_in D.loose.length h.hm p zs hzl c _ hp1
  rw [hlv] at c1
  refine callsIn_of_wp_marks Try.func18 rfl trivial ?_ rfl
  simp only [Try.ntmps18, List.size_toArray, List.length_cons, List.length_nil, Nat.reduceAdd, Nat.reduceSub, Array.replicate_succ, Array.replicate_zero, List.push_toArray, List.append_toArray, List.nil_append, List.cons_append]
  have hm := h.hm
  gi_wp2_with (refine ⟨trivial, ?_⟩; gi_at_call 32; refine hM.mono ?_; clear hM; rintro e w' ⟨rfl, cur2, rfl, hcs2, hcur2⟩)
  obtain ⟨w3, h3⟩ : ∃ w3, w3 = (((w.alloc (.cells #[.pointer (some ⟨b, 0, none⟩)] 28)).alloc (.cells cur2 4)).alloc (.cells #[.slice (some ⟨w.heap.size + 1, 0, none⟩) D.loose.length D.loose.length] 74)) := ⟨_, rfl⟩
  rw [← h3]
  have hs3 : w3.heap.size = w.heap.size + 3 := by rw [h3]; simp
  have ho3 : ∀ k, k < w.heap.size → w3.heap[k]? = w.heap[k]? := by
    intro k hk
    rw [h3, Below.heap_alloc _ _ _ (by simp; omega), Below.heap_alloc _ _ _ (by simp; omega), Below.heap_alloc _ _ _ hk]
  have hx1 : w3.heap[w.heap.size]? = some (.cells #[.pointer (some ⟨b, 0, none⟩)] 28) := by
    rw [h3, Below.heap_alloc _ _ _ (by simp; omega), Below.heap_alloc _ _ _ (by simp)]
    exact heap_alloc_new w _
  have hx2 : w3.heap[w.heap.size + 1]? = some (.cells cur2 4) := by
    rw [h3, Below.heap_alloc _ _ _ (by simp)]
    have := heap_alloc_new (w.alloc (.cells #[.pointer (some ⟨b, 0, none⟩)] 28)) (.cells cur2 4)
    rwa [World.size_alloc] at this
  have hx3 : w3.heap[w.heap.size + 2]? = some (.cells #[.slice (some ⟨w.heap.size + 1, 0, none⟩) D.loose.length D.loose.length] 74) := by
    rw [h3]
    have := heap_alloc_new ((w.alloc (.cells #[.pointer (some ⟨b, 0, none⟩)] 28)).alloc (.cells cur2 4)) (.cells #[.slice (some ⟨w.heap.size + 1, 0, none⟩) D.loose.length D.loose.length] 74)
    rwa [World.size_alloc, World.size_alloc] at this
  have R3 : Rep w3 B b bs lv D := by rw [h3]; exact ((h.frame_new _).frame_new _).frame_new _
  have F3 : Fr (fun _ => False) w w3 := by rw [h3]; exact (((Fr.refl _ w).alloc _).alloc _).alloc _
  clear h3
  have hcr := hcur2
  have HCR := Lib.hid hcur2
  clear hcur2 hcr
  obtain ⟨g, hgo, hgN, hgbs⟩ : ∃ g, (∀ k, lv.ownBlock = some k → k = g) ∧ g < w.heap.size ∧ g ≠ bs := by
    cases hlv : lv.ownBlock with
    | none => exact ⟨b, fun k e => (by cases e), hbN, Ne.symm hne1⟩
    | some k => exact ⟨k, fun k' e => (by cases e; rfl), (h.hl.lt k hlv).2, fun e => hne3 (by rw [hlv, e])⟩
  have STOPS := iter_stops R3 _ rfl g hgo (by omega)
  gi_wp2_with (refine ⟨trivial, ?_⟩; gi_at_call 31; refine (written_in _ _).mono ?_; rintro e w' ⟨rfl, rfl⟩)
  -- LOOP1
  rw [hs3] at STOPS
  have hlv' := hlv
  refine wpIn_rangeFunc_ownF rfl (by omega) (gf := 34) (lb := #[.pointer (some ⟨w.heap.size + 3, 0, none⟩)]) rfl trivial (enters_of Try.func34 (by kernel_rfl) rfl) STOPS
    (fun h1 h2 => KpIt.trans h1 h2) (kpIt_b (by simp; omega) (by simp; omega) (by simp; omega)) (Below.refl _ _) (fun _ => rfl)
    (InvF (w3.alloc (.cells #[.pointer (some ⟨b, 0, none⟩)] 28)) bs D.n (fun pre => kept1 D.loose (marked zs) D.firm pre) (fun _ => D.now)) (fun _ _ _ => False)
    (invF_own (by simp; omega)) (fun _ _ _ _ _ hs _ _ => hs)
    ⟨Fr.refl _ _, cur, (Below.heap_alloc w3 _ bs (by omega)).trans ((ho3 bs hbsN).trans hg), hS⟩
    (fun x => { tmps := #[.pointer (some ⟨b, 0, none⟩), .slice p zs.length c, .pointer (some ⟨w.heap.size, 0, none⟩), undef, .pointer (some ⟨w.heap.size + 1 + 1, 0, none⟩), .int .i64 (x.1 : Int), .pointer (some ⟨bs, D.loose[x].1 * 128, none⟩), undef, undef, .pointer (some ⟨b, 0, none⟩), .bool false, .slice p zs.length c, .pointer (some ⟨b, 0, none⟩), .pointer (some ⟨b, 0, none⟩), .pointer (some ⟨b, 1, none⟩), .slice ps D.loose.length cs, .int .i64 D.loose.length, .slice (some ⟨w.heap.size + 1, 0, none⟩) D.loose.length D.loose.length, .pointer (some ⟨b, 0, none⟩), .func (.func 34) #[] #[.pointer (some ⟨w.heap.size + 3, 0, none⟩)], .int .i64 (x.1 : Int), .pointer (some ⟨bs, D.loose[x].1 * 128, none⟩), undef, undef, undef, undef, undef, undef, undef, undef, undef, undef, undef, undef, undef, undef, undef, undef, undef, undef, undef, undef, undef, undef, undef, undef, undef, undef, undef, undef, undef, undef, undef, undef, undef, undef, undef], defers := [] }) ?assign ?body ?done ?stop
  case assign =>
    intro l x W K hK
    clear STOPS
    unfold encIt
    gi_wp2
    exact hK
  case body =>
    rintro l pre x W ⟨hf, cur3, hc3, hS3⟩ _
    have hxx := h.hx _ (List.getElem_mem x.2)
    have hat : D.loose[x].1 < D.n := hxx.1
    have hsl : D.loose[x].2.length = 64 := hxx.2
    have hxm := x.2
    have hold : ∀ k, k < w3.heap.size → k ≠ bs → W.heap[k]? = w3.heap[k]? := fun k hk hkb => (hf.block k (by simp; omega) hkb).trans (Below.heap_alloc w3 _ k hk)
    obtain ⟨g', cap, curl, hlv2, hgg, htake⟩ : ∃ g' cap curl, lv = .slice (some ⟨g', 0, none⟩) D.loose.length cap ∧ w.heap[g']? = some (.cells curl 67 (0, 0)) ∧ curl.toList.take (D.loose.length * 65) = lcells D.loose := by
      rcases h.hl.2 with ⟨_, h0⟩ | ⟨g', cap, curl, hv, _, hgg, _, _, _, htk⟩
      · omega
      · exact ⟨g', cap, curl, hv, hgg, htk⟩
    have hg'bs : g' ≠ bs := fun e => hne3 (by rw [hlv2, ← e]; rfl)
    have hg'N : g' < w.heap.size := (Array.getElem?_eq_some_iff.1 hgg).1
    rw [hlv'] at hlv2
    injection hlv2 with hps _ hcs
    have k1 : W.cell? ⟨w.heap.size + 1 + 1, 0, none⟩ = some (.slice (some ⟨w.heap.size + 1, 0, none⟩) D.loose.length D.loose.length) := by
      rw [cell_of_row W _ 0 _ _ _ ((hold (w.heap.size + 1 + 1) (by omega) (by omega)).trans hx3)]; rfl
    have k2 : W.cell? ⟨w.heap.size + 1, x.1, none⟩ = some (.bool (marked zs x.1)) := by
      rw [cell_of_row W _ _ _ _ _ ((hold (w.heap.size + 1) (by omega) (by omega)).trans hx2)]; exact HCR.out x.1 hxm
    have k3 : W.cell? ⟨w.heap.size, 0, none⟩ = some (.pointer (some ⟨b, 0, none⟩)) := by
      rw [cell_of_row W _ 0 _ _ _ ((hold w.heap.size (by omega) (by omega)).trans hx1)]; rfl
    have k4 : W.cell? ⟨b, 1, none⟩ = some (.slice ps D.loose.length cs) := (World.cell?_of_block (w := w) (a := ⟨b, 1, none⟩) ((hold b (by omega) (Ne.symm hne1)).trans (ho3 b hbN))).trans c1
    have hseg : Hid (∀ j v, (bv D.loose[x].2)[j]? = some v → W.cell? ⟨g', x.1 * 65 + 1 + j, none⟩ = some v) := by
      intro j v hv
      have hj : j < 64 := by
        have := (List.getElem?_eq_some_iff.1 hv).1
        rwa [bv_length, hsl] at this
      have h1 := lcells_get D.loose (fun y hy => (h.hx y hy).2) x.1 hxm (j + 1) (by omega)
      rw [World.cell?_of_block (w := w) (a := ⟨g', x.1 * 65 + 1 + j, none⟩) ((hold g' (by omega) hg'bs).trans (ho3 g' hg'N)), cell_of_row w g' _ _ _ _ hgg]
      have h2 : (wrow D.loose[x.1].1 D.loose[x.1].2)[j + 1]? = some v := hv
      rw [h2, ← htake, List.getElem?_take] at h1
      rw [show x.1 * 65 + 1 + j = x.1 * 65 + (j + 1) by omega]
      split at h1
      · simpa using h1
      · cases h1
    clear STOPS
    have hpost : Hid ((marked zs x.1 = true → KeepsOthers W (W.setRow bs (splice cur3 (D.loose[x].1 * 128) (bv D.loose[x].2))) ∧ KpIt b g (w.heap.size + 3) W (W.setRow bs (splice cur3 (D.loose[x].1 * 128) (bv D.loose[x].2))) ∧
        InvF (w3.alloc (.cells #[.pointer (some ⟨b, 0, none⟩)] 28)) bs D.n (fun pre => kept1 D.loose (marked zs) D.firm pre) (fun _ => D.now) (pre ++ [x]) (W.setRow bs (splice cur3 (D.loose[x].1 * 128) (bv D.loose[x].2)))) ∧
        (marked zs x.1 = false → InvF (w3.alloc (.cells #[.pointer (some ⟨b, 0, none⟩)] 28)) bs D.n (fun pre => kept1 D.loose (marked zs) D.firm pre) (fun _ => D.now) (pre ++ [x]) W)) := by
      have hcs3 := hS3.size
      have hfit : D.loose[x].1 * 128 + (bv D.loose[x].2).length ≤ cur3.size := by rw [bv_length, hsl, hcs3]; omega
      have hnl : (D.now D.loose[x].1).length = 64 := hS3.ln _ hat
      refine ⟨fun hk => ⟨setRow_others hc3, ⟨by simp, setRow_other _ _ _ _ (Ne.symm hne1), setRow_other _ _ _ _ hgbs, setRow_other _ _ _ _ (by omega)⟩, hf.setRow rfl _, _, setRow_heap _ _ _ _ _ _ hc3, ?_⟩, fun hk => ⟨hf, cur3, hc3, ?_⟩⟩
      · have hset : Secs (splice cur3 (D.loose[x].1 * 128) (bv D.loose[x].2)) D.n (upd (kept1 D.loose (marked zs) D.firm pre) D.loose[x].1 D.loose[x].2) (upd D.now D.loose[x].1 (D.now D.loose[x].1)) := by
          refine hS3.set (by rw [splice_size _ _ _ hfit, hcs3]) ?_ ?_ ?_ hsl hnl
          · intro j hj
            rw [splice_get _ _ _ hfit, bv_length, hsl, if_neg (by omega)]
          · intro j hj
            rw [splice_get _ _ _ hfit, bv_length, hsl, if_pos (by omega), bv_get, if_pos (by omega)]
            congr 2; omega
          · intro j hj
            rw [splice_get _ _ _ hfit, bv_length, hsl, if_neg (by omega), hS3.cn _ hat j hj]
        rw [upd_self] at hset
        show Secs _ _ (kept1 D.loose (marked zs) D.firm (pre ++ [x])) D.now
        rw [kept1_snoc, if_pos hk]
        exact hset
      · show Secs _ _ (kept1 D.loose (marked zs) D.firm (pre ++ [x])) D.now
        rw [kept1_snoc, if_neg (by rw [hk]; decide)]
        exact hS3
    have hsz65 : Hid ((Try.prog.info? 65).map (·.size) = some (bv D.loose[x].2).length) := by unfold Hid; rw [size65, bv_length, hsl]
    have hfit' : Hid (D.loose[x].1 * 128 + (bv D.loose[x].2).length ≤ cur3.size) := by unfold Hid; rw [bv_length, hsl, hS3.size]; omega
    have hc3' := Lib.hid hc3
    have hmm := h.hm
    subst hps
    clear hold hxx hsl hf hS3 hc3 h hS hg R3 F3 hx1 hx2 hx3 HCR c0 c2 c3 hp hp1 hgg htake hlv hlv' ho3 hgo
    generalize D.loose[x].1 = at_ at *
    generalize D.loose[x].2 = sx at *
    generalize x.1 = q at *
    by_cases hk : marked zs q = true
    · have hpost2 := Lib.hid (hpost.out.1 hk)
      rw [hk] at k2
      clear hk hpost
      gi_wp2_with (first | (refine wpListIn_run rfl rfl rfl _ (exec_load_seg _ 65 (.tmp 33) rfl g' (q * 65 + 1) rfl (bv sx) _ hseg.out Try.underlying65 rfl hsz65.out) ?_) | (refine wpListIn_run0 rfl rfl rfl (exec_store_seg _ 65 (.tmp 36) (.tmp 34) rfl bs (at_ * 128) rfl (bv sx) rfl cur3 69 hc3'.out hfit'.out (bv_one _) hsz65.out) ?_))
      exact hpost2.out
    · have hk' : marked zs q = false := by simpa using hk
      have hpost2 := Lib.hid (hpost.out.2 hk')
      rw [hk'] at k2
      clear hk hk' hpost
      gi_wp2
      exact ⟨KeepsOthers.refl _, ⟨Nat.le_refl _, rfl, rfl, rfl⟩, hpost2.out⟩
  case done =>
    rintro D' ys W hD rfl ⟨hf, cur3, hc3, hS3⟩ hK
    have hDN : w3.heap.size + 1 ≤ D' := by simpa using hD
    have hDW : D' < W.heap.size := (Array.getElem?_eq_some_iff.1 hK).1
    have hold : ∀ k, k < w3.heap.size → k ≠ bs → W.heap[k]? = w3.heap[k]? := fun k hk hkb => (hf.block k (by simp; omega) hkb).trans (Below.heap_alloc w3 _ k hk)
    obtain ⟨F1, hF1⟩ : ∃ F1, F1 = kept1 D.loose (marked zs) D.firm (List.finRange D.loose.length) := ⟨_, rfl⟩
    have hS3' : Secs cur3 D.n F1 D.now := by rw [hF1]; exact hS3
    have HF1 := Lib.hid hF1
    clear hF1 hS3
    have hfw : Fr (fun k => k = bs) w3 W := ⟨hf.os, hf.tape, hf.output, by have := hf.size; simp at this; omega, fun k hk hkb => hold k hk hkb⟩
    have R4 : Rep W B b bs lv { D with firm := F1, now := D.now } := R3.sectors hfw F1 D.now ⟨cur3, hc3, hS3'⟩
    have STOPS2 : SeqStopsK Fence.wide 4 Try.prog 34 #[.pointer (some ⟨W.heap.size, 0, none⟩)] (encIt bs D.loose) (KpIt b g W.heap.size) (fun xs => xs = List.finRange D.loose.length) (fun _ => True) D.loose.length (W.alloc (.cells #[.pointer (some ⟨b, 0, none⟩)] 28)) := iter_stops R4 _ rfl g hgo (by omega)
    have k3 : W.cell? ⟨w.heap.size, 0, none⟩ = some (.pointer (some ⟨b, 0, none⟩)) := by
      rw [cell_of_row W _ 0 _ _ _ ((hold w.heap.size (by omega) (by omega)).trans hx1)]; rfl
    clear STOPS
    gi_wp2_with (refine ⟨trivial, ?_⟩; gi_at_call 31; refine (written_in _ _).mono ?_; rintro e w' ⟨rfl, rfl⟩)
    refine wpIn_rangeFunc_ownF rfl (by omega) (gf := 34) (lb := #[.pointer (some ⟨W.heap.size, 0, none⟩)]) rfl trivial (enters_of Try.func34 (by kernel_rfl) rfl) STOPS2
      (fun h1 h2 => KpIt.trans h1 h2) (kpIt_b (by simp; omega) (by simp; omega) (by simp)) (Below.refl _ _) (fun _ => rfl)
      (InvF (W.alloc (.cells #[.pointer (some ⟨b, 0, none⟩)] 28)) bs D.n (fun _ => F1) (fun pre => firmed D.loose F1 D.now pre)) (fun _ _ _ => False)
      (invF_own (by simp; omega)) (fun _ _ _ _ _ hs _ _ => hs)
      ⟨Fr.refl _ _, cur3, (Below.heap_alloc W _ bs (by omega)).trans hc3, hS3'⟩
      (fun x => { tmps := #[.pointer (some ⟨b, 0, none⟩), .slice p zs.length c, .pointer (some ⟨w.heap.size, 0, none⟩), undef, .pointer (some ⟨w.heap.size + 1 + 1, 0, none⟩), undef, undef, undef, .pointer (some ⟨bs, D.loose[x].1 * 128, none⟩), .pointer (some ⟨b, 0, none⟩), .bool false, .slice p zs.length c, .pointer (some ⟨b, 0, none⟩), .pointer (some ⟨b, 0, none⟩), .pointer (some ⟨b, 1, none⟩), .slice ps D.loose.length cs, .int .i64 D.loose.length, .slice (some ⟨w.heap.size + 1, 0, none⟩) D.loose.length D.loose.length, .pointer (some ⟨b, 0, none⟩), .func (.func 34) #[] #[.pointer (some ⟨w.heap.size + 3, 0, none⟩)], undef, undef, undef, undef, undef, undef, undef, undef, undef, undef, undef, undef, undef, undef, undef, undef, undef, .pointer (some ⟨b, 0, none⟩), .func (.func 34) #[] #[.pointer (some ⟨W.heap.size, 0, none⟩)], .int .i64 (x.1 : Int), .pointer (some ⟨bs, D.loose[x].1 * 128, none⟩), undef, undef, undef, undef, undef, undef, undef, undef, undef, undef, undef, undef, undef, undef, undef, undef], defers := [] }) ?assign2 ?body2 ?done2 ?stop2
    case assign2 =>
      intro l x W K hK
      clear STOPS2
      unfold encIt
      gi_wp2
      exact hK
    case body2 =>
      rintro l pre x W2 ⟨hf2, cur4, hc4, hS4⟩ _
      have hat : D.loose[x].1 < D.n := (h.hx _ (List.getElem_mem x.2)).1
      clear STOPS2
      generalize hA : D.loose[x].1 = at_ at *
      have hnl : (F1 at_).length = 64 := hS4.lf at_ hat
      have hcs4 := hS4.size
      have hsz65 : Hid ((Try.prog.info? 65).map (·.size) = some (bv (F1 at_)).length) := by unfold Hid; rw [size65, bv_length, hnl]
      have hseg : Hid (∀ j v, (bv (F1 at_))[j]? = some v → W2.cell? ⟨bs, at_ * 128 + j, none⟩ = some v) := by
        intro j v hv
        rw [bv_get] at hv
        split at hv
        · rename_i hj
          rw [cell_of_row W2 bs _ _ _ _ hc4, hS4.cf at_ hat j (by omega)]
          exact hv
        · cases hv
      have hfit : at_ * 128 + 64 + (bv (F1 at_)).length ≤ cur4.size := by rw [bv_length, hnl, hcs4]; omega
      have hpost : Hid (KeepsOthers W2 (W2.setRow bs (splice cur4 (at_ * 128 + 64) (bv (F1 at_)))) ∧ KpIt b g W.heap.size W2 (W2.setRow bs (splice cur4 (at_ * 128 + 64) (bv (F1 at_)))) ∧
          InvF (W.alloc (.cells #[.pointer (some ⟨b, 0, none⟩)] 28)) bs D.n (fun _ => F1) (fun pre => firmed D.loose F1 D.now pre) (pre ++ [x]) (W2.setRow bs (splice cur4 (at_ * 128 + 64) (bv (F1 at_))))) := by
        refine ⟨setRow_others hc4, ⟨by simp, setRow_other _ _ _ _ (Ne.symm hne1), setRow_other _ _ _ _ hgbs, setRow_other _ _ _ _ (by omega)⟩, hf2.setRow rfl _, _, setRow_heap _ _ _ _ _ _ hc4, ?_⟩
        have hset : Secs (splice cur4 (at_ * 128 + 64) (bv (F1 at_))) D.n (upd F1 at_ (F1 at_)) (upd (firmed D.loose F1 D.now pre) at_ (F1 at_)) := by
          refine hS4.set (by rw [splice_size _ _ _ hfit, hcs4]) ?_ ?_ ?_ hnl hnl
          · intro j hj
            rw [splice_get _ _ _ hfit, bv_length, hnl, if_neg (by omega)]
          · intro j hj
            rw [splice_get _ _ _ hfit, bv_length, hnl, if_neg (by omega), hS4.cf at_ hat j hj]
          · intro j hj
            rw [splice_get _ _ _ hfit, bv_length, hnl, if_pos (by omega), bv_get, if_pos (by omega)]
            congr 2; omega
        rw [upd_self] at hset
        show Secs _ _ F1 (firmed D.loose F1 D.now (pre ++ [x]))
        rw [firmed_snoc, hA]
        exact hset
      have hfit' := Lib.hid hfit
      have hc4' := Lib.hid hc4
      clear hfit hc4 hS4 hnl hcs4 hf2 h hS hg hA R3 R4 F3 hx1 hx2 hx3 HCR c0 c1 c2 c3 hp hp1 hlv hlv' ho3 hgo hold hf hc3 hS3' hfw k3 hK
      gi_wp2_with (first | (refine wpListIn_run rfl rfl rfl _ (exec_load_seg _ 65 (.tmp 44) rfl bs (at_ * 128) rfl (bv (F1 at_)) _ hseg.out Try.underlying65 rfl hsz65.out) ?_) | (refine wpListIn_run0 rfl rfl rfl (exec_store_seg _ 65 (.tmp 47) (.tmp 45) rfl bs (at_ * 128 + 64) rfl (bv (F1 at_)) rfl cur4 69 hc4'.out hfit'.out (bv_one _) hsz65.out) ?_))
      exact hpost.out
    case done2 =>
      rintro D2 ys W2 hD2 rfl ⟨hf2, cur4, hc4, hS4⟩ hK2
      have hD2N : W.heap.size + 1 ≤ D2 := by simpa using hD2
      have hold2 : ∀ k, k < W.heap.size → k ≠ bs → W2.heap[k]? = W.heap[k]? := fun k hk hkb => (hf2.block k (by simp; omega) hkb).trans (Below.heap_alloc W _ k hk)
      have hWb : W2.heap[b]? = w.heap[b]? := ((hold2 b (by omega) (Ne.symm hne1)).trans (hold b (by omega) (Ne.symm hne1))).trans (ho3 b hbN)
      have m0 : W2.cell? ⟨w.heap.size, 0, none⟩ = some (.pointer (some ⟨b, 0, none⟩)) := (World.cell?_of_block (w := W) (a := ⟨w.heap.size, 0, none⟩) (hold2 w.heap.size (by omega) (by omega))).trans k3
      have m1 : W2.cell? ⟨b, 1, none⟩ = some (.slice ps D.loose.length cs) := (World.cell?_of_block (w := w) (a := ⟨b, 1, none⟩) hWb).trans c1
      have m2 : W2.cell? ⟨b, 2, none⟩ = some (.int .i64 D.fuse) := (World.cell?_of_block (w := w) (a := ⟨b, 2, none⟩) hWb).trans c2
      have m3 : W2.cell? ⟨b, 3, none⟩ = some (.bool D.down) := (World.cell?_of_block (w := w) (a := ⟨b, 3, none⟩) hWb).trans c3
      have n1 : W2.frozen? ⟨b, 1, none⟩ = false := (World.frozen?_of_block (w := w) (a := ⟨b, 1, none⟩) hWb).trans (h.f 1)
      have n2 : W2.frozen? ⟨b, 2, none⟩ = false := (World.frozen?_of_block (w := w) (a := ⟨b, 2, none⟩) hWb).trans (h.f 2)
      have n3 : W2.frozen? ⟨b, 3, none⟩ = false := (World.frozen?_of_block (w := w) (a := ⟨b, 3, none⟩) hWb).trans (h.f 3)
      clear STOPS2
      have hDb : D' ≠ b := by omega
      have hD2b : D2 ≠ b := by omega
      have hDbs : D' ≠ bs := by omega
      obtain ⟨W5, h5⟩ : ∃ W5, W5 = (((W2.setCell ⟨b, 1, none⟩ (.slice none 0 0)).setCell ⟨b, 2, none⟩ (.int .i64 (-1))).setCell ⟨b, 3, none⟩ (.bool false)).drew := ⟨_, rfl⟩
      have h5o : ∀ k, k ≠ b → W5.heap[k]? = W2.heap[k]? := by
        intro k hk
        rw [h5]
        exact ((Below.heap_setCell _ ⟨b, 3, none⟩ _ k hk).trans (Below.heap_setCell _ ⟨b, 2, none⟩ _ k hk)).trans (Below.heap_setCell _ ⟨b, 1, none⟩ _ k hk)
      have h5b : W5.heap[b]? = some (.cells #[.slice (some ⟨bs, 0, none⟩) D.n D.n, .slice none 0 0, .int .i64 (-1), .bool false] 62 (0, 0)) := by
        rw [h5]
        exact heap_setCell_same _ b 3 _ 62 _ (heap_setCell_same _ b 2 _ 62 _ (heap_setCell_same W2 b 1 _ 62 _ (hWb.trans h.hd)))
      have h5s : W5.heap.size = W2.heap.size := by rw [h5]; simp
      have h5f : W5.os = W2.os ∧ W5.tape = W2.tape ∧ W5.output = W2.output := by rw [h5]; exact ⟨rfl, rfl, rfl⟩
      have HK2 : Hid (W5.heap[D2]? = some (.deferred (some []))) := (h5o D2 hD2b).trans hK2
      have HK1 : Hid ((W5.putObj D2 (.deferred none)).heap[D']? = some (.deferred (some []))) :=
        (World.putObj_heap_other (by omega)).trans ((h5o D' hDb).trans ((hold2 D' hDW hDbs).trans hK))
      have hfin : Hid (R ((W5.putObj D2 (.deferred none)).putObj D' (.deferred none))) := by
        have ho : ∀ k, k ≠ D' → k ≠ D2 → ((W5.putObj D2 (.deferred none)).putObj D' (.deferred none)).heap[k]? = W5.heap[k]? := fun k h1 h2 => (World.putObj_heap_other h1).trans (World.putObj_heap_other h2)
        have hs1 := hf.size
        have hs2 := hf2.size
        simp only [World.size_alloc] at hs1 hs2
        refine hR.out _ ⟨h5f.1.trans (hf2.os.trans (hf.os.trans F3.os)), h5f.2.1.trans (hf2.tape.trans (hf.tape.trans F3.tape)), h5f.2.2.trans (hf2.output.trans (hf.output.trans F3.output)), ?_, ?_⟩ ?_ ?_
        · simp; omega
        · intro k hk hk2
          have h1 : k ≠ bs := fun e => hk2 (Or.inl e)
          have h2 : k ≠ b := fun e => hk2 (Or.inr e)
          rw [ho k (by omega) (by omega), h5o k h2, hold2 k (by omega) h1, hold k (by omega) h1, ho3 k hk]
        · rw [ho b (by omega) (by omega), h5b]
        · refine ⟨cur4, ?_, ?_⟩
          · rw [ho bs (by omega) (by omega), h5o bs hne1, hc4]
          · rw [← HF1.out]; exact hS4
      gi_wp2
      gi_region
      rw [← h5]
      clear h5 h5o h5b h5s h5f hR hS4 hc4 hf2 hf hK hK2 hold hold2 m0 m1 m2 m3 n1 n2 n3 k3
      refine ⟨by simp, .inl ⟨_, _, rfl, run_takeDeferred HK2.out, ?_⟩⟩
      refine ⟨by simp, .inl ⟨_, _, rfl, run_takeDeferred HK1.out, ?_⟩⟩
      exact ⟨_, results_none rfl _ _ _, rfl, hfin.out⟩
    case stop2 =>
      rintro D2 c pre W2 _ _ h' _
      exact h'.elim
  case stop =>
    rintro D' c pre W _ _ h' _
    exact h'.elim
end Go.Proofs.Ytpkhddnehhophaa
