/- Package codec's first: the first letters of an iterator as a text. Its condition: that no more than 2^40 are asked for. -/
import Derived.Test.YtdajmekliodmcaaGreatDoorFirst
namespace Go.Proofs.YtdajmekliodmcaaGreatDoor
open Go.RowKit Go.Shelf
set_option linter.unusedVariables false
attribute [local go_sem] Oper.semAt_some

theorem prefix_take {q l : List Nat} {n : Nat} (h : q <+: l) (hn : q.length = n) : q = l.take n := by
  subst hn
  exact List.prefix_iff_eq_take.1 h

theorem FSt.buf {n b g cap : Nat} {pre : List Nat} {W : World} (h : FSt n b g cap pre W) : ∃ (q : Option Addr) (c : Nat), W.heap[b]? = some (.cells #[.pointer (some ⟨b, 0, none⟩), .slice q pre.length c] 132 (0, 0)) := by
  rcases h.2 with ⟨h0, h1⟩ | ⟨cur, ⟨h1, h2⟩, h3⟩
  · have : pre.length = 0 := by have := h.1; omega
    rw [this]
    exact ⟨_, _, h1⟩
  · exact ⟨_, _, h1⟩
theorem exec_eql3 {ρ : Operand → Value} {o : Oper} (x y : Operand) (ho : o.op = .binOp .eql 3 x y 3) (a b : Nat) (hx : ρ x = .int .i64 (a : Int)) (hy : ρ y = .int .i64 (b : Int)) (w : World) : (execOp ρ o).run Tryz.prog w = .ok (.value (.bool (decide (a = b)))) w := by
  unfold execOp; rw [ho]
  by_cases h : a = b
  · subst h; go_simp
  · have h2 : ¬ ((a : Int) = (b : Int)) := by omega
    go_simp

set_option maxHeartbeats 2000000 in
theorem first_any (n gf : Nat) (lb : Array Value) (xs : List Nat) (n0 : Nat) (w0 w : World) (hq : SeqOK Tryz.prog gf lb xs n0 w0) (hw : Below n0 w0 w) (hn : n ≤ 1099511627776) (eg : ∀ args w, (callFunc gf args).run Tryz.prog w = .ok (.enter gf args) w) (hxs : ∀ x ∈ xs, x < 256) :
    Calls Tryz.prog 103 #[.int .i64 (n : Int), .func (.func gf) #[] lb] w fun e w2 => e = .returned (.string ⟨((xs.take n).map UInt8.ofNat).toArray⟩) ∧ Below w.heap.size w w2 := by
  obtain ⟨A, hA⟩ : ∃ A, A = w.heap.size := ⟨_, rfl⟩
  have hn0 : n0 ≤ A := by have := hw.size; have := hq.1; omega
  refine (callsIn_wide (n := 5)).1 ?_
  refine callsIn_of_wp_marks Tryz.func103 rfl trivial ?_ rfl
  simp only [Tryz.ntmps103, List.size_toArray, List.length_cons, List.length_nil, Nat.reduceAdd, Nat.reduceSub, Array.replicate_succ, Array.replicate_zero, List.push_toArray, List.append_toArray, List.nil_append, List.cons_append]
  have hd : Fence.wide.depth = none := rfl
  have hbk : ((w.alloc (.cells #[.int .i64 (n : Int)] 3)).alloc (.cells #[.pointer none, .slice none 0 0] 132)).heap[A + 1]? = some (.cells #[.pointer none, .slice none 0 0] 132 (0, 0)) := by
    have := World.alloc_heap_new (w.alloc (.cells #[.int .i64 (n : Int)] 3)) (.cells #[.pointer none, .slice none 0 0] 132)
    rwa [World.size_alloc, ← hA] at this
  have hG := Builder_Grow_fresh_cap (A + 1) (A + 1) n ((w.alloc (.cells #[.int .i64 (n : Int)] 3)).alloc (.cells #[.pointer none, .slice none 0 0] 132)) (by omega) hbk (by simp; omega) (by omega)
  have hBel : Below A w ((w.alloc (.cells #[.int .i64 (n : Int)] 3)).alloc (.cells #[.pointer none, .slice none 0 0] 132)) := ((Below.refl A w).alloc (by omega) _).alloc (by simp; omega) _
  have hbn : Boxed ((w.alloc (.cells #[.int .i64 (n : Int)] 3)).alloc (.cells #[.pointer none, .slice none 0 0] 132)) A 3 (.int .i64 (n : Int)) := by rw [hA]; exact (Boxed.new w 3 _).alloc _
  rw [hA] at hG hbn
  gi_wp2_with (refine ⟨trivial, ?_⟩; gi_at_call 121; refine (callsIn_wide.2 hG).mono ?_; rintro e w1 ⟨rfl, ⟨hAt, hB1⟩, p, cap, hc1, hncap⟩)
  have hBel1 : Below A w w1 := hBel.trans (hB1.mono (by omega))
  have q3 : Boxed w1 A 3 (.int .i64 (n : Int)) := by rw [hA]; exact (hB1.block _ (by omega)).trans hbn
  rw [← hA] at hAt hc1
  clear hG hbk hbn hBel hB1
  obtain ⟨-, v, hb1, hown, hne⟩ := hAt
  have hc2 : w1.cell? ⟨A + 1, 1, none⟩ = some v := by rw [Lib.cell_of_heap hb1]; rfl
  obtain rfl : v = .slice p 0 cap := by rw [hc1] at hc2; exact (Option.some.inj hc2).symm
  have hb1lt : A + 1 < w1.heap.size := (Array.getElem?_eq_some_iff.1 hb1).1
  obtain ⟨g, hgw, hgB, hcapM, hFS⟩ : ∃ g, g < w1.heap.size ∧ A + 1 ≤ g ∧ cap ≤ maxLen ∧ FSt n (A + 1) g cap [] w1 := by
    rcases hown.2 with ⟨hv, -⟩ | ⟨g, c2, cur, hv, hg, hgg, -, hcm, hcs, -⟩
    · obtain ⟨rfl, -, rfl⟩ : p = none ∧ True ∧ cap = 0 := by injection hv with h1 h2 h3; exact ⟨h1, trivial, h3⟩
      exact ⟨A + 1, hb1lt, Nat.le_refl _, Nat.zero_le _, Nat.zero_le _, .inl ⟨by omega, hb1⟩⟩
    · obtain ⟨rfl, rfl⟩ : p = some ⟨g, 0, none⟩ ∧ cap = c2 := by injection hv with h1 h2 h3; exact ⟨h1, h3⟩
      refine ⟨g, (Array.getElem?_eq_some_iff.1 hgg).1, hg, hcm, Nat.zero_le _, .inr ⟨cur, ⟨hb1, hgg⟩, by omega, hncap, ?_, by simp⟩⟩
      intro e
      exact hne (by simp [Value.ownBlock, e])
  clear hown hne hc1 hc2
  have hAH := Lib.hid hA
  have hW1 : Below n0 w0 w1 := hw.trans (hBel1.mono hn0)
  rw [← hA]
  clear hA
  gi_wp2
  refine wpIn_rangeFunc_set (gf := gf) (lb := lb) rfl eg hq hW1 rfl
    (FI n (A + 1) g cap) (FX n (A + 1) g cap) (dep_FI _ _ _ _) (fun c => dep_FX _ _ _ _ c) (fun k => k = A + 1 ∨ k = g)
    (fun k hk => by rcases hk with rfl | rfl; omega; omega) ⟨fun _ => Iff.rfl, hgw, hFS⟩
    (fun x => { tmps := (.int .i64 (n : Int) :: .func (.func gf) #[] lb :: .pointer (some ⟨A, 0, none⟩) :: undef :: .string ⟨#[]⟩ :: .pointer (some ⟨A + 1, 0, none⟩) :: .int .u8 (x : Int) :: .int .i64 (n : Int) :: .tuple #[] :: .func (.func gf) #[] lb :: .int .u8 (x : Int) :: undef :: undef :: undef :: undef :: undef :: undef :: []).toArray, defers := [] }) ?assign ?body ?done ?stop
  case assign =>
    intro l x W K hK
    gi_wp2
    exact hK
  case body =>
    rintro lr pre x S2 W2 hE ⟨hS2, hg2, hF⟩ hpre
    have hx : x < 256 := hxs x (by obtain ⟨u, rfl⟩ := hpre; simp)
    have p3 : Boxed W2 A 3 (.int .i64 (n : Int)) := hE.box q3 (by rintro (h | h); omega; omega)
    obtain ⟨bq, bc, hbuf⟩ := hF.buf
    have HL : CallsIn Fence.wide (5 - 1) Tryz.prog 142 #[.pointer (some ⟨A + 1, 0, none⟩)] W2.drew fun e w2 => e = .returned (.int .i64 (pre.length : Int)) ∧ w2 = W2.drew := callsIn_wide.2 (len_any (A + 1) pre.length bc _ bq W2.drew hbuf)
    obtain ⟨k, hk⟩ : ∃ k, k = pre.length := ⟨_, rfl⟩
    rw [← hk] at HL
    have HF := Lib.hid hF
    have HS2 := Lib.hid hS2
    have HK := Lib.hid hk
    clear hF hS2 hbuf hpre hk
    gi_wp2
    rename_i K2 hK2
    refine wpIn_region_any (by kernel_rfl) ?_
    change wpAnyIn _ _ _ _ _ _ _ _ _ (World.drew _)
    refine anyIn_unround lr rfl (by kernel_rfl) _ _ _ _ ?_
    refine anyIn_of_G (T := fun i => i == 1 || i == 2) (S := fun i w => Boxed w A 3 (.int .i64 (n : Int))) _ _ _ _ ?_
    refine AnyG.take 1 (some 12) (.load 3 (.tmp 2)) (.int .i64 (n : Int)) rfl rfl (fun _ e => by cases e) (by kernel_rfl) (by kernel_rfl) (by kernel_rfl) (by kernel_rfl) rfl (fun _ _ _ h => h) (fun o ho w hw => exec_loadB (.tmp 2) ho A _ rfl w hw.cell rfl (by simp)) p3 ?_
    simp only [Act.put, List.setIfInBounds_toArray, List.set_cons_succ, List.set_cons_zero]
    refine AnyG.ready (rs := [0]) (by kernel_rfl) (by simp) (ReadyG.call (some 11) 142 #[.tmp 5] #[132] rfl rfl rfl (fun _ => trivial) #[.pointer (some ⟨A + 1, 0, none⟩)] (by simp [Act.eval]) (enters_of Tryz.func142 (by kernel_rfl) rfl) _ HL rfl ?_ (fun c w' h => by cases h.1) (fun w' h => by cases h.1) ReadyG.nil)
    rintro v W3 ⟨he, rfl⟩
    refine ⟨fun i _ _ _ => p3, ?_⟩
    obtain rfl : v = .int .i64 (k : Int) := by injection he
    simp only [Act.put, List.setIfInBounds_toArray, List.set_cons_succ, List.set_cons_zero]
    refine AnyG.take 2 (some 13) (.binOp .eql 3 (.tmp 11) (.tmp 12) 3) (.bool (decide (k = n))) rfl rfl (fun _ e => by cases e) (by kernel_rfl) (by kernel_rfl) (by kernel_rfl) (by kernel_rfl) rfl (fun _ _ _ h => h) (fun o ho w hw => exec_eql3 (.tmp 11) (.tmp 12) ho k n rfl rfl w) p3 ?_
    simp only [Act.put, List.setIfInBounds_toArray, List.set_cons_succ, List.set_cons_zero]
    refine AnyG.done (by kernel_rfl) ?_ _
    show K2 _ W2.drew
    refine hK2 _ _ ?_
    clear hK2 HL he
    by_cases hkn : k = n
    · have hdec : decide (k = n) = true := by simp [hkn]
      rw [hdec]
      have HKN := Lib.hid hkn
      clear hkn hdec
      gi_wp2
      refine ⟨S2, (Ext.refl S2 W2).drew, rfl, pre, ⟨HS2.out, hg2, HF.out.same rfl rfl⟩, ?_, ⟨[x], rfl⟩⟩
      have := HK.out; have := HKN.out; omega
    · have hdec : decide (k = n) = false := by simp [hkn]
      rw [hdec]
      obtain ⟨cur, hBl, hcs, hnc, hbg, htk⟩ : ∃ cur : Array Value, Bld (A + 1) g k cap cur W2 ∧ cur.size = cap ∧ n ≤ cap ∧ A + 1 ≠ g ∧ cur.toList.take k = pre.map u8v := by
        rcases HF.out.2 with ⟨h0, -⟩ | h
        · have h1 := HF.out.1; rw [← HK.out] at h1; omega
        · rw [← HK.out] at h; exact h
      have hkle : k < n := by have h1 := HF.out.1; rw [← HK.out] at h1; omega
      have HWr := write_any (A + 1) g k cap x cur W2.drew hBl hbg hcs (by omega)
      have HC := Lib.hid hkle
      have HTK := Lib.hid htk
      have HCS := Lib.hid hcs
      have HNC := Lib.hid hnc
      have HBG := Lib.hid hbg
      clear hdec hkn hkle htk hcs hnc hbg hBl
      gi_wp2_with (refine ⟨trivial, ?_⟩; gi_at_call 143; refine (CallsIn.inRound lr (callsIn_wide.2 HWr)).mono ?_; rintro e w5 ⟨rfl, hB5, ho5, ht5, hu5, hz5, hk5⟩)
      refine ⟨S2, ⟨ho5, ht5, hu5, hz5, fun _ _ h => h, fun j hj hs => hk5 j hj (fun e => hs ((HS2.out j).2 (.inl e))) (fun e => hs ((HS2.out j).2 (.inr e)))⟩, HS2.out, Nat.lt_of_lt_of_le hg2 hz5, ?_, .inr ⟨(cur.toList.take k ++ [Value.int .u8 (x : Int)] ++ cur.toList.drop (k + 1)).toArray, ?_, ?_, HNC.out, HBG.out, ?_⟩⟩
      · have := HK.out; have := HC.out; simp; omega
      · have := hB5; rw [List.length_append, ← HK.out]; exact this
      · have := HCS.out; have := HC.out; have := HNC.out; simp; omega
      · have h1 := HTK.out
        have hl : (cur.toList.take k).length = k := by have := HCS.out; have := HC.out; have := HNC.out; simp; omega
        have h2 : (cur.toList.take k ++ [Value.int .u8 (x : Int)] ++ cur.toList.drop (k + 1)).take (k + 1) = cur.toList.take k ++ [Value.int .u8 (x : Int)] := List.take_left' (by rw [List.length_append, hl]; rfl)
        rw [List.length_append, ← HK.out, List.map_append, ← h1]
        exact h2
  case done =>
    rintro D S2 W2 hD hnD hE ⟨hS2, hg2, hF⟩ hKd
    have hres : xs.take n = xs := List.take_of_length_le hF.1
    have hDb : D ≠ A + 1 := by omega
    have hST := Builder_String_any_k (A + 1) (A + 1) (xs.map UInt8.ofNat) W2 (hF.builder (Nat.le_refl _) hgB hxs hcapM) (by have := hE.size; omega)
    have HB := Lib.hid (hBel1.trans (hE.below (n := A) (by omega) (by rintro k (rfl | rfl); omega; omega)))
    have HR := Lib.hid hres
    have HDD := Lib.hid hD
    clear hF hS2 hres hD hE
    gi_wp2_with (refine ⟨trivial, ?_⟩; gi_at_call 123; refine (callsIn_wide.2 hST).mono ?_; rintro e w5 ⟨rfl, -, hb5, hk5⟩)
    have hKd2 : w5.heap[D]? = some (.deferred (some [])) := hk5 D _ hKd (by simpa using hDb) (fun _ _ e => by cases e)
    refine ⟨by simp, .inl ⟨_, _, rfl, run_takeDeferred hKd2, ?_⟩⟩
    refine ⟨_, results_tmp rfl _ _ _, by rw [HR.out]; rfl, ?_⟩
    rw [← hAH.out]
    exact (HB.out.trans (hb5.mono (by omega))).trans (belowK_b (w := w1) (by omega) w5 D _ _ HDD.out hKd2 rfl rfl)
  case stop =>
    rintro D c pre S2 W2 hD hnD hE hpre ⟨rfl, q, ⟨hS2, hg2, hF⟩, hqn, hqp⟩ hKd
    have hqx : q <+: xs := List.IsPrefix.trans hqp hpre
    have hres : q = xs.take n := prefix_take hqx hqn
    have hDb : D ≠ A + 1 := by omega
    have hST := Builder_String_any_k (A + 1) (A + 1) (q.map UInt8.ofNat) W2 (hF.builder (Nat.le_refl _) hgB (fun x hx => hxs x (hqx.subset hx)) hcapM) (by have := hE.size; omega)
    rw [hres] at hST
    obtain ⟨R, hR⟩ : ∃ R, R = (xs.take n).map UInt8.ofNat := ⟨_, rfl⟩
    rw [← hR] at hST
    have HR := Lib.hid hR
    clear hR
    have HB := Lib.hid (hBel1.trans (hE.below (n := A) (by omega) (by rintro k (rfl | rfl); omega; omega)))
    have HDD := Lib.hid hD
    clear hF hS2 hres hD hE hqx hqp hqn hpre
    gi_wp2_with (refine ⟨trivial, ?_⟩; gi_at_call 123; refine (callsIn_wide.2 hST).mono ?_; rintro e w5 ⟨rfl, -, hb5, hk5⟩)
    have hKd2 : w5.heap[D]? = some (.deferred (some [])) := hk5 D _ hKd (by simpa using hDb) (fun _ _ e => by cases e)
    refine ⟨by simp, .inl ⟨_, _, rfl, run_takeDeferred hKd2, ?_⟩⟩
    refine ⟨_, results_tmp rfl _ _ _, by rw [← HR.out]; rfl, ?_⟩
    rw [← hAH.out]
    exact (HB.out.trans (hb5.mono (by omega))).trans (belowK_b (w := w1) (by omega) w5 D _ _ HDD.out hKd2 rfl rfl)
end Go.Proofs.YtdajmekliodmcaaGreatDoor
