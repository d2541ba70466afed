/- FromPoint of the document: the point whose bytes a text is, or none. No condition but that the text is one. -/
import Derived.Test.YtgbliacncahooaaDoorGFrA
namespace Go.Proofs.YtgbliacncahooaaDoor
open Go.RowKit Go.Shelf
set_option linter.unusedVariables false
set_option linter.unusedSimpArgs false
set_option maxRecDepth 100000 in
set_option maxHeartbeats 2000000 in
theorem rfrom_a (s : ByteArray) (h : s.size ≠ 32) (w : World) :
    Calls Tryd.prog 12 #[.string s] w fun e w' => e = .returned (.agg (spotV (fun _ => 0) false)) ∧ Below w.heap.size w w' := by
  obtain ⟨n, hn⟩ : ∃ n, n = s.size := ⟨_, rfl⟩
  have hlen : Hid (s.size = n) := Lib.hid hn.symm
  have hnb : Hid (true = !((n : Int) == 32)) := Lib.hid (by simp; omega)
  clear hn h
  obtain ⟨ZR1, hZR1⟩ : ∃ zz9, Hid (zz9 = spotV (fun _ => 0) false) := ⟨_, Lib.hid rfl⟩
  have SZZR1 : ZR1.size = 9 := by rw [hZR1.out]; rfl
  have HZ31 : ∀ w, (zeroValue 31).run Tryd.prog w = .ok (.agg ZR1) w := by rw [hZR1.out]; exact zeroT31
  have BF2 : ∀ w, (Instr.build 31 #[]).run Tryd.prog w = .ok (.agg ZR1) w := by rw [hZR1.out]; exact bs_none
  have IZR1 : IsSpot ZR1 := by rw [hZR1.out]; exact ⟨_, _, rfl⟩
  try simp only [← hZR1.out] at  ⊢
  clear hZR1 
  go_enter Tryd.func12, Tryd.ntmps12
  have HS : Hid (Kt w [] w) := Lib.hid (Kt.nil w)
  go_upto_region 0 with fail
  refine wp_region_list ?_
  refine wpList_run rfl _ (exec_alloc_agg _ 31 rfl _ (HZ31 _)) ?_
  simp only [Act.put, sT, sS, sZ]
  have bg3 := HS.out.1.size
  have HS2 := Lib.hid (HS.out.new ZR1 31)
  clear HS
  generalize w.alloc (.cells ZR1 31) = w1 at *
  refine wpList_nil ?_
  go_upto_region 1 with fail
  refine wp_region_list ?_
  refine wpList_run rfl (.string s) (exec_move (.tmp 0) rfl _ rfl _) ?_
  simp only [Act.put, sT, sS, sZ]
  refine wpList_run rfl (.int .i64 (n : Int)) (exec_len9 (.tmp 7) rfl s n hlen.out rfl _) ?_
  simp only [Act.put, sT, sS, sZ]
  refine wpList_run rfl (.bool true) (exec_neq32 (.tmp 8) rfl rfl n true hnb.out rfl _) ?_
  simp only [Act.put, sT, sS, sZ]
  refine wpList_nil ?_
  go_upto_region 2 with fail
  refine wp_region_list ?_
  refine wpList_run rfl (.agg ZR1) (exec_buildN _ 31 #[] rfl #[] (by simp [Act.eval]) _ (BF2 _)) ?_
  simp only [Act.put, sT, sS, sZ]
  refine wpList_run0 rfl (exec_storeT31 _ (.tmp 2) (.tmp 10) rfl (w.heap.size) rfl ZR1 IZR1 rfl ZR1 31 (HS2.out.get (w.heap.size) ZR1 31 (by simp)) SZZR1) ?_
  simp only [Act.put, sT, sS, sZ]
  have HS5 : Hid (Kt w [(w.heap.size, ZR1, 31)] (w1.setRow (w.heap.size) ZR1)) := Lib.hid (HS2.out.set (w.heap.size) ZR1 ZR1 31 (HS2.out.get (w.heap.size) ZR1 31 (by simp)) (by omega) (fun p hp => by simp at hp; subst hp; exact .inl rfl))
  clear HS2
  generalize w1.setRow (w.heap.size) ZR1 = w4 at *
  refine wpList_nil ?_
  go_wp2
  exact bodyPost_ret (results_cell rfl _ _ _ ⟨w.heap.size, 0, none⟩ rfl _ (loadT31 IZR1 (HS5.out.get (w.heap.size) ZR1 31 (by simp)))) rfl ⟨rfl, HS5.out.1⟩
set_option maxRecDepth 100000 in
set_option maxHeartbeats 2000000 in
theorem rfrom_b0 (m : List UInt8) (b c : UInt8) (hm : m.length = 31) (hcb : c.toNat = b.toNat % 128) (y : Nat) (hy : y = leVal m + c.toNat * 256 ^ 31) (hyp : ¬ y < pp) (hq : b.toNat < 128) (w : World) :
    Calls Tryd.prog 12 #[.string ⟨(m ++ [b]).toArray⟩] w fun e w' => e = .returned (.agg (spotV (fun _ => 0) false)) ∧ Below w.heap.size w w' := by
  obtain ⟨n, hn0⟩ : ∃ n, n = leVal m + b.toNat * 256 ^ 31 := ⟨_, rfl⟩
  have hsz := len31 b hm
  have hv0 : leVal (m ++ [b]) = n := by rw [leVal_snoc, hm, hn0]
  have hn : n < 115792089237316195423570985008687907853269984665640564039457584007913129639936 := by
    have h := leVal_lt (m ++ [b])
    rw [hsz, hv0] at h
    exact h
  have HN := Lib.hid (number_any ⟨(m ++ [b]).toArray⟩ hsz)
  rw [show leVal (⟨(m ++ [b]).toArray⟩ : ByteArray).data.toList = n from hv0] at HN
  have hmod : n % hb = y := by rw [hn0, split_mod _ _ (leVal_31 m hm), hy, hcb]
  have hdiv : n / hb = 0 := by
    rw [hn0, split_div _ _ (leVal_31 m hm)]
    have := b.toNat_lt
    omega
  have hyn : y ≤ n := by rw [← hmod]; exact Nat.mod_le _ _
  have hset0 := cut_set n hn
  have htop := dig3_top n hn
  rw [hmod] at hset0
  rw [hdiv] at htop
  have hd64 := dig_lt n 3
  have hg3 := num_get n 3 (by decide)
  obtain ⟨d3, hd3⟩ : ∃ d3, d3 = dig n 3 := ⟨_, rfl⟩
  rw [← hd3] at hset0 htop hd64 hg3
  obtain ⟨r3, hr30⟩ : ∃ r3, r3 = d3 % 9223372036854775808 := ⟨_, rfl⟩
  obtain ⟨s3, hs30⟩ : ∃ s3, s3 = r3 * 2 := ⟨_, rfl⟩
  have h63 : Hid ((d3 : Int) / 2 ^ 63 = ((0 : Nat) : Int)) := Lib.hid (by show (d3 : Int) / 9223372036854775808 = _; omega)
  have hs3 : Hid ((d3 : Int) * 2 % 18446744073709551616 = (s3 : Int)) := Lib.hid (by omega)
  have hr3 : Hid ((s3 : Int) / 2 = (r3 : Int)) := Lib.hid (by omega)
  rw [← hr30] at hset0
  have hlen : Hid ((⟨(m ++ [b]).toArray⟩ : ByteArray).size = 32) := Lib.hid hsz
  have hnb : Hid (false = !(((32 : Nat) : Int) == 32)) := Lib.hid (by decide)
  have HC3 := Lib.hid (prime_any)
  have HC5 := Lib.hid (less_any (y) (pp) (Nat.lt_of_le_of_lt hyn hn) pp_b4)
  rw [show decide (y < pp) = false from decide_eq_false hyp] at HC5
  obtain ⟨Nn, hNn⟩ : ∃ zz9, Hid (zz9 = num (n)) := ⟨_, Lib.hid rfl⟩
  have INn : IsNum Nn := by rw [hNn.out]; exact isNum _
  obtain ⟨Yn, hYn⟩ : ∃ zz9, Hid (zz9 = num (y)) := ⟨_, Lib.hid rfl⟩
  have IYn : IsNum Yn := by rw [hYn.out]; exact isNum _
  obtain ⟨ZR1, hZR1⟩ : ∃ zz9, Hid (zz9 = spotV (fun _ => 0) false) := ⟨_, Lib.hid rfl⟩
  have SZZR1 : ZR1.size = 9 := by rw [hZR1.out]; rfl
  obtain ⟨NN2, hNN2⟩ : ∃ zz9, Hid (zz9 = num (0)) := ⟨_, Lib.hid rfl⟩
  have INN2 : IsNum NN2 := by rw [hNN2.out]; exact isNum _
  obtain ⟨NN4, hNN4⟩ : ∃ zz9, Hid (zz9 = num (pp)) := ⟨_, Lib.hid rfl⟩
  have INN4 : IsNum NN4 := by rw [hNN4.out]; exact isNum _
  have HZ31 : ∀ w, (zeroValue 31).run Tryd.prog w = .ok (.agg ZR1) w := by rw [hZR1.out]; exact zeroT31
  have HZ24 : ∀ w, (zeroValue 24).run Tryd.prog w = .ok (.agg NN2) w := by rw [hNN2.out]; exact zero_run
  have SZNN2 := INN2.size
  have BF6 : ∀ w, (Instr.build 31 #[]).run Tryd.prog w = .ok (.agg ZR1) w := by rw [hZR1.out]; exact bs_none
  have IZR1 : IsSpot ZR1 := by rw [hZR1.out]; exact ⟨_, _, rfl⟩
  try simp only [← hNn.out, ← hYn.out, ← hNN2.out, ← hNN4.out] at HC3 HC5 HN hset0 hg3 ⊢
  try simp only [← hZR1.out] at HC3 HC5 HN hset0 hg3 ⊢
  clear hNn hYn hZR1 hNN2 hNN4 hcb hy hn0 hsz hv0 hn hmod hdiv hyn htop hd64 hd3 hr30 hs30 hyp hq
  have hset := Lib.hid hset0
  have CNn_3 := hg3
  clear hset0 hg3
  go_enter Tryd.func12, Tryd.ntmps12
  have HS : Hid (Kt w [] w) := Lib.hid (Kt.nil w)
  go_upto_region 0 with fail
  refine wp_region_list ?_
  refine wpList_run rfl _ (exec_alloc_agg _ 31 rfl _ (HZ31 _)) ?_
  simp only [Act.put, sT, sS, sZ]
  have bg3 := HS.out.1.size
  have HS2 := Lib.hid (HS.out.new ZR1 31)
  clear HS
  generalize w.alloc (.cells ZR1 31) = w1 at *
  refine wpList_nil ?_
  go_upto_region 1 with fail
  refine wp_region_list ?_
  refine wpList_run rfl (.string ⟨(m ++ [b]).toArray⟩) (exec_move (.tmp 0) rfl _ rfl _) ?_
  simp only [Act.put, sT, sS, sZ]
  refine wpList_run rfl (.int .i64 (32 : Int)) (exec_len9 (.tmp 7) rfl ⟨(m ++ [b]).toArray⟩ 32 hlen.out rfl _) ?_
  simp only [Act.put, sT, sS, sZ]
  refine wpList_run rfl (.bool false) (exec_neq32 (.tmp 8) rfl rfl 32 false hnb.out rfl _) ?_
  simp only [Act.put, sT, sS, sZ]
  refine wpList_nil ?_
  go_upto_region 3 with fail
  refine wp_region_list ?_
  refine wpList_run rfl (.string ⟨(m ++ [b]).toArray⟩) (exec_move (.tmp 0) rfl _ rfl _) ?_
  simp only [Act.put, sT, sS, sZ]
  refine wpList_callF rfl 31 #[.tmp 11] #[9] rfl #[.string ⟨(m ++ [b]).toArray⟩] en31 (HN.out _) ?_
  rintro v w4 ⟨he, hb⟩
  cases he
  have HS5 := Lib.hid (HS2.out.below hb)
  clear hb HS2
  simp only [Act.put, sT, sS, sZ]
  refine wpList_run rfl _ (exec_alloc_agg _ 24 rfl _ (HZ24 _)) ?_
  simp only [Act.put, sT, sS, sZ]
  have lg8_0 := HS5.out.lt (w.heap.size) ZR1 31 (by simp)
  have bg8 := HS5.out.1.size
  have HS7 := Lib.hid (HS5.out.new NN2 24)
  clear HS5
  generalize w4.alloc (.cells NN2 24) = w6 at *
  generalize w4.heap.size = g8 at *
  refine wpList_run0 rfl (exec_store24 _ (.tmp 3) (.tmp 12) rfl (g8) rfl Nn INn rfl NN2 24 (HS7.out.get (g8) NN2 24 (by simp)) SZNN2) ?_
  simp only [Act.put, sT, sS, sZ]
  have HS10 : Hid (Kt w [(g8, Nn, 24), (w.heap.size, ZR1, 31)] (w6.setRow (g8) Nn)) := Lib.hid (HS7.out.set (g8) Nn NN2 24 (HS7.out.get (g8) NN2 24 (by simp)) (by omega) (fun p hp => by simp at hp; rcases hp with rfl | rfl <;> first | exact .inl rfl | exact .inr ⟨by simp, by simp only; omega⟩))
  clear HS7
  generalize w6.setRow (g8) Nn = w9 at *
  refine wpList_nil ?_
  go_upto_region 4 with fail
  refine wp_region_list ?_
  refine wpList_run rfl (.pointer (some ⟨g8, 3, none⟩)) (exec_indexAddr24 (.tmp 3) (.const (.int .i64 3)) rfl (g8) 3 rfl rfl (by decide) _) ?_
  simp only [Act.put, sT, sS, sZ]
  refine wpList_run rfl (.int .u64 (d3 : Int)) (exec_load_one _ 22 (.tmp 13) rfl ⟨g8, 3, none⟩ rfl _ (cell_part (HS10.out.get (g8) Nn 24 (by simp)) 3 _ CNn_3) _ Tryd.underlying22 rfl) ?_
  simp only [Act.put, sT, sS, sZ]
  refine wpList_run rfl (.int .u64 (0 : Int)) (exec_shr63 (.tmp 14) rfl rfl d3 0 h63.out rfl _) ?_
  simp only [Act.put, sT, sS, sZ]
  refine wpList_run rfl (.int .u64 (0 : Int)) (exec_assign (.tmp 15) rfl _ rfl _) ?_
  simp only [Act.put, sT, sS, sZ]
  refine wpList_nil ?_
  go_upto_region 5 with fail
  refine wp_region_list ?_
  refine wpList_run rfl (.pointer (some ⟨g8, 3, none⟩)) (exec_indexAddr24 (.tmp 3) (.const (.int .i64 3)) rfl (g8) 3 rfl rfl (by decide) _) ?_
  simp only [Act.put, sT, sS, sZ]
  refine wpList_run rfl (.int .u64 (d3 : Int)) (exec_load_one _ 22 (.tmp 16) rfl ⟨g8, 3, none⟩ rfl _ (cell_part (HS10.out.get (g8) Nn 24 (by simp)) 3 _ CNn_3) _ Tryd.underlying22 rfl) ?_
  simp only [Act.put, sT, sS, sZ]
  refine wpList_run rfl (.int .u64 (s3 : Int)) (exec_shl1 (.tmp 17) rfl rfl d3 s3 hs3.out rfl _) ?_
  simp only [Act.put, sT, sS, sZ]
  refine wpList_run rfl (.int .u64 (r3 : Int)) (exec_shr1 (.tmp 18) rfl rfl s3 r3 hr3.out rfl _) ?_
  simp only [Act.put, sT, sS, sZ]
  refine wpList_run rfl (.pointer (some ⟨g8, 3, none⟩)) (exec_indexAddr24 (.tmp 3) (.const (.int .i64 3)) rfl (g8) 3 rfl rfl (by decide) _) ?_
  simp only [Act.put, sT, sS, sZ]
  refine wpList_run0 rfl (exec_store22 _ (.tmp 20) (.tmp 19) rfl (g8) 3 rfl r3 rfl Nn Yn 24 (HS10.out.get (g8) Nn 24 (by simp)) CNn_3 hset.out) ?_
  simp only [Act.put, sT, sS, sZ]
  have HS12 : Hid (Kt w [(g8, Yn, 24), (w.heap.size, ZR1, 31)] (w9.setRow (g8) Yn)) := Lib.hid (HS10.out.set (g8) Yn Nn 24 (HS10.out.get (g8) Nn 24 (by simp)) (by omega) (fun p hp => by simp at hp; rcases hp with rfl | rfl <;> first | exact .inl rfl | exact .inr ⟨by simp, by simp only; omega⟩))
  clear HS10
  generalize w9.setRow (g8) Yn = w11 at *
  refine wpList_nil ?_
  go_upto_region 6 with fail
  refine wp_cut (fun a' W' => a' = { tmps := #[.string ⟨(m ++ [b]).toArray⟩, undef, .pointer (some ⟨w.heap.size, 0, none⟩), .pointer (some ⟨g8, 0, none⟩), .int .u64 (0 : Int), undef, undef, .string ⟨(m ++ [b]).toArray⟩, .int .i64 (32 : Int), .bool false, undef, .string ⟨(m ++ [b]).toArray⟩, .agg Nn, .pointer (some ⟨g8, 3, none⟩), .int .u64 (d3 : Int), .int .u64 (0 : Int), .pointer (some ⟨g8, 3, none⟩), .int .u64 (d3 : Int), .int .u64 (s3 : Int), .int .u64 (r3 : Int), .pointer (some ⟨g8, 3, none⟩), .agg Yn, .agg NN4, .bool false, .bool true, undef, undef, undef, undef, undef, undef, undef, undef, undef, undef, undef, undef, undef, undef, undef, undef, undef, undef, undef, undef, undef, undef, undef, undef, undef, undef, undef, undef, undef, undef, undef, undef, undef, undef, undef, undef, undef, undef, undef, undef, undef], defers := [] } ∧ Kt w [(w.heap.size, ZR1, 31)] W') ?_ ?_
  · refine wp_region_any (by kernel_rfl) ?_
    change wpAny _ _ _ _ _ _ _ (World.drew _)
    have HDq13x1 := HS12.out.drew
    clear HS12
    generalize w11.drew = wdq13x2 at *
    refine any_of_F (S := Kt w [(g8, Yn, 24), (w.heap.size, ZR1, 31)]) (f := 1000) _ _ _ _ ?_
    refine tkG 0 (some 21) (.load 24 (.tmp 3)) none (.agg Yn) (fun o ho w2 hw => exec_load_of _ 24 (.tmp 3) ho ⟨g8, 0, none⟩ rfl _ (loadA24 IYn (hw.get (g8) Yn 24 (by simp)))) HDq13x1 ?_
    simp only [Act.put, sT, sS, sZ]
    refine rdy [1] (rcl (some 22) 33 #[] #[] #[] en33 _ (HC3.out _) ?_ ReadyF.nil)
    rintro v wq13x11 ⟨he, hb⟩
    cases he
    have Hq13x12 := HDq13x1.below hb
    clear hb
    refine ⟨Hq13x12, ?_⟩
    simp only [Act.put, sT, sS, sZ]
    refine rdy [2] (rcl (some 23) 32 #[.tmp 21, .tmp 22] #[24, 24] #[.agg Yn, .agg NN4] en32 _ (HC5.out _) ?_ ReadyF.nil)
    rintro v wq13x13 ⟨he, hb⟩
    cases he
    have Hq13x14 := Hq13x12.below hb
    clear hb
    refine ⟨Hq13x14, ?_⟩
    simp only [Act.put, sT, sS, sZ]
    refine tkG 3 (some 24) (.unOp .not 4 (.tmp 23)) none (.bool true) (fun o ho w2 hw => exec_notv (.tmp 23) ho _ rfl true rfl w2) Hq13x14 ?_
    simp only [Act.put, sT, sS, sZ]
    refine AnyF.done (by kernel_rfl) ?_ _
    refine nrm_intro ⟨rfl, Hq13x14.sub (fun p hp => by simp at hp; subst hp; simp)⟩
  rintro a' w14 ⟨rfl, hk⟩
  have HS15 := Lib.hid hk
  clear hk HS12
  go_upto_region 7 with fail
  refine wp_region_list ?_
  refine wpList_run rfl (.agg ZR1) (exec_buildN _ 31 #[] rfl #[] (by simp [Act.eval]) _ (BF6 _)) ?_
  simp only [Act.put, sT, sS, sZ]
  refine wpList_run0 rfl (exec_storeT31 _ (.tmp 2) (.tmp 25) rfl (w.heap.size) rfl ZR1 IZR1 rfl ZR1 31 (HS15.out.get (w.heap.size) ZR1 31 (by simp)) SZZR1) ?_
  simp only [Act.put, sT, sS, sZ]
  have HS17 : Hid (Kt w [(w.heap.size, ZR1, 31)] (w14.setRow (w.heap.size) ZR1)) := Lib.hid (HS15.out.set (w.heap.size) ZR1 ZR1 31 (HS15.out.get (w.heap.size) ZR1 31 (by simp)) (by omega) (fun p hp => by simp at hp; subst hp; exact .inl rfl))
  clear HS15
  generalize w14.setRow (w.heap.size) ZR1 = w16 at *
  refine wpList_nil ?_
  go_wp2
  exact bodyPost_ret (results_cell rfl _ _ _ ⟨w.heap.size, 0, none⟩ rfl _ (loadT31 IZR1 (HS17.out.get (w.heap.size) ZR1 31 (by simp)))) rfl ⟨rfl, HS17.out.1⟩
set_option maxRecDepth 100000 in
set_option maxHeartbeats 2000000 in
theorem rfrom_b1 (m : List UInt8) (b c : UInt8) (hm : m.length = 31) (hcb : c.toNat = b.toNat % 128) (y : Nat) (hy : y = leVal m + c.toNat * 256 ^ 31) (hyp : ¬ y < pp) (hq : ¬ b.toNat < 128) (w : World) :
    Calls Tryd.prog 12 #[.string ⟨(m ++ [b]).toArray⟩] w fun e w' => e = .returned (.agg (spotV (fun _ => 0) false)) ∧ Below w.heap.size w w' := by
  obtain ⟨n, hn0⟩ : ∃ n, n = leVal m + b.toNat * 256 ^ 31 := ⟨_, rfl⟩
  have hsz := len31 b hm
  have hv0 : leVal (m ++ [b]) = n := by rw [leVal_snoc, hm, hn0]
  have hn : n < 115792089237316195423570985008687907853269984665640564039457584007913129639936 := by
    have h := leVal_lt (m ++ [b])
    rw [hsz, hv0] at h
    exact h
  have HN := Lib.hid (number_any ⟨(m ++ [b]).toArray⟩ hsz)
  rw [show leVal (⟨(m ++ [b]).toArray⟩ : ByteArray).data.toList = n from hv0] at HN
  have hmod : n % hb = y := by rw [hn0, split_mod _ _ (leVal_31 m hm), hy, hcb]
  have hdiv : n / hb = 1 := by
    rw [hn0, split_div _ _ (leVal_31 m hm)]
    have := b.toNat_lt
    omega
  have hyn : y ≤ n := by rw [← hmod]; exact Nat.mod_le _ _
  have hset0 := cut_set n hn
  have htop := dig3_top n hn
  rw [hmod] at hset0
  rw [hdiv] at htop
  have hd64 := dig_lt n 3
  have hg3 := num_get n 3 (by decide)
  obtain ⟨d3, hd3⟩ : ∃ d3, d3 = dig n 3 := ⟨_, rfl⟩
  rw [← hd3] at hset0 htop hd64 hg3
  obtain ⟨r3, hr30⟩ : ∃ r3, r3 = d3 % 9223372036854775808 := ⟨_, rfl⟩
  obtain ⟨s3, hs30⟩ : ∃ s3, s3 = r3 * 2 := ⟨_, rfl⟩
  have h63 : Hid ((d3 : Int) / 2 ^ 63 = ((1 : Nat) : Int)) := Lib.hid (by show (d3 : Int) / 9223372036854775808 = _; omega)
  have hs3 : Hid ((d3 : Int) * 2 % 18446744073709551616 = (s3 : Int)) := Lib.hid (by omega)
  have hr3 : Hid ((s3 : Int) / 2 = (r3 : Int)) := Lib.hid (by omega)
  rw [← hr30] at hset0
  have hlen : Hid ((⟨(m ++ [b]).toArray⟩ : ByteArray).size = 32) := Lib.hid hsz
  have hnb : Hid (false = !(((32 : Nat) : Int) == 32)) := Lib.hid (by decide)
  have HC3 := Lib.hid (prime_any)
  have HC5 := Lib.hid (less_any (y) (pp) (Nat.lt_of_le_of_lt hyn hn) pp_b4)
  rw [show decide (y < pp) = false from decide_eq_false hyp] at HC5
  obtain ⟨Nn, hNn⟩ : ∃ zz9, Hid (zz9 = num (n)) := ⟨_, Lib.hid rfl⟩
  have INn : IsNum Nn := by rw [hNn.out]; exact isNum _
  obtain ⟨Yn, hYn⟩ : ∃ zz9, Hid (zz9 = num (y)) := ⟨_, Lib.hid rfl⟩
  have IYn : IsNum Yn := by rw [hYn.out]; exact isNum _
  obtain ⟨ZR1, hZR1⟩ : ∃ zz9, Hid (zz9 = spotV (fun _ => 0) false) := ⟨_, Lib.hid rfl⟩
  have SZZR1 : ZR1.size = 9 := by rw [hZR1.out]; rfl
  obtain ⟨NN2, hNN2⟩ : ∃ zz9, Hid (zz9 = num (0)) := ⟨_, Lib.hid rfl⟩
  have INN2 : IsNum NN2 := by rw [hNN2.out]; exact isNum _
  obtain ⟨NN4, hNN4⟩ : ∃ zz9, Hid (zz9 = num (pp)) := ⟨_, Lib.hid rfl⟩
  have INN4 : IsNum NN4 := by rw [hNN4.out]; exact isNum _
  have HZ31 : ∀ w, (zeroValue 31).run Tryd.prog w = .ok (.agg ZR1) w := by rw [hZR1.out]; exact zeroT31
  have HZ24 : ∀ w, (zeroValue 24).run Tryd.prog w = .ok (.agg NN2) w := by rw [hNN2.out]; exact zero_run
  have SZNN2 := INN2.size
  have BF6 : ∀ w, (Instr.build 31 #[]).run Tryd.prog w = .ok (.agg ZR1) w := by rw [hZR1.out]; exact bs_none
  have IZR1 : IsSpot ZR1 := by rw [hZR1.out]; exact ⟨_, _, rfl⟩
  try simp only [← hNn.out, ← hYn.out, ← hNN2.out, ← hNN4.out] at HC3 HC5 HN hset0 hg3 ⊢
  try simp only [← hZR1.out] at HC3 HC5 HN hset0 hg3 ⊢
  clear hNn hYn hZR1 hNN2 hNN4 hcb hy hn0 hsz hv0 hn hmod hdiv hyn htop hd64 hd3 hr30 hs30 hyp hq
  have hset := Lib.hid hset0
  have CNn_3 := hg3
  clear hset0 hg3
  go_enter Tryd.func12, Tryd.ntmps12
  have HS : Hid (Kt w [] w) := Lib.hid (Kt.nil w)
  go_upto_region 0 with fail
  refine wp_region_list ?_
  refine wpList_run rfl _ (exec_alloc_agg _ 31 rfl _ (HZ31 _)) ?_
  simp only [Act.put, sT, sS, sZ]
  have bg3 := HS.out.1.size
  have HS2 := Lib.hid (HS.out.new ZR1 31)
  clear HS
  generalize w.alloc (.cells ZR1 31) = w1 at *
  refine wpList_nil ?_
  go_upto_region 1 with fail
  refine wp_region_list ?_
  refine wpList_run rfl (.string ⟨(m ++ [b]).toArray⟩) (exec_move (.tmp 0) rfl _ rfl _) ?_
  simp only [Act.put, sT, sS, sZ]
  refine wpList_run rfl (.int .i64 (32 : Int)) (exec_len9 (.tmp 7) rfl ⟨(m ++ [b]).toArray⟩ 32 hlen.out rfl _) ?_
  simp only [Act.put, sT, sS, sZ]
  refine wpList_run rfl (.bool false) (exec_neq32 (.tmp 8) rfl rfl 32 false hnb.out rfl _) ?_
  simp only [Act.put, sT, sS, sZ]
  refine wpList_nil ?_
  go_upto_region 3 with fail
  refine wp_region_list ?_
  refine wpList_run rfl (.string ⟨(m ++ [b]).toArray⟩) (exec_move (.tmp 0) rfl _ rfl _) ?_
  simp only [Act.put, sT, sS, sZ]
  refine wpList_callF rfl 31 #[.tmp 11] #[9] rfl #[.string ⟨(m ++ [b]).toArray⟩] en31 (HN.out _) ?_
  rintro v w4 ⟨he, hb⟩
  cases he
  have HS5 := Lib.hid (HS2.out.below hb)
  clear hb HS2
  simp only [Act.put, sT, sS, sZ]
  refine wpList_run rfl _ (exec_alloc_agg _ 24 rfl _ (HZ24 _)) ?_
  simp only [Act.put, sT, sS, sZ]
  have lg8_0 := HS5.out.lt (w.heap.size) ZR1 31 (by simp)
  have bg8 := HS5.out.1.size
  have HS7 := Lib.hid (HS5.out.new NN2 24)
  clear HS5
  generalize w4.alloc (.cells NN2 24) = w6 at *
  generalize w4.heap.size = g8 at *
  refine wpList_run0 rfl (exec_store24 _ (.tmp 3) (.tmp 12) rfl (g8) rfl Nn INn rfl NN2 24 (HS7.out.get (g8) NN2 24 (by simp)) SZNN2) ?_
  simp only [Act.put, sT, sS, sZ]
  have HS10 : Hid (Kt w [(g8, Nn, 24), (w.heap.size, ZR1, 31)] (w6.setRow (g8) Nn)) := Lib.hid (HS7.out.set (g8) Nn NN2 24 (HS7.out.get (g8) NN2 24 (by simp)) (by omega) (fun p hp => by simp at hp; rcases hp with rfl | rfl <;> first | exact .inl rfl | exact .inr ⟨by simp, by simp only; omega⟩))
  clear HS7
  generalize w6.setRow (g8) Nn = w9 at *
  refine wpList_nil ?_
  go_upto_region 4 with fail
  refine wp_region_list ?_
  refine wpList_run rfl (.pointer (some ⟨g8, 3, none⟩)) (exec_indexAddr24 (.tmp 3) (.const (.int .i64 3)) rfl (g8) 3 rfl rfl (by decide) _) ?_
  simp only [Act.put, sT, sS, sZ]
  refine wpList_run rfl (.int .u64 (d3 : Int)) (exec_load_one _ 22 (.tmp 13) rfl ⟨g8, 3, none⟩ rfl _ (cell_part (HS10.out.get (g8) Nn 24 (by simp)) 3 _ CNn_3) _ Tryd.underlying22 rfl) ?_
  simp only [Act.put, sT, sS, sZ]
  refine wpList_run rfl (.int .u64 (1 : Int)) (exec_shr63 (.tmp 14) rfl rfl d3 1 h63.out rfl _) ?_
  simp only [Act.put, sT, sS, sZ]
  refine wpList_run rfl (.int .u64 (1 : Int)) (exec_assign (.tmp 15) rfl _ rfl _) ?_
  simp only [Act.put, sT, sS, sZ]
  refine wpList_nil ?_
  go_upto_region 5 with fail
  refine wp_region_list ?_
  refine wpList_run rfl (.pointer (some ⟨g8, 3, none⟩)) (exec_indexAddr24 (.tmp 3) (.const (.int .i64 3)) rfl (g8) 3 rfl rfl (by decide) _) ?_
  simp only [Act.put, sT, sS, sZ]
  refine wpList_run rfl (.int .u64 (d3 : Int)) (exec_load_one _ 22 (.tmp 16) rfl ⟨g8, 3, none⟩ rfl _ (cell_part (HS10.out.get (g8) Nn 24 (by simp)) 3 _ CNn_3) _ Tryd.underlying22 rfl) ?_
  simp only [Act.put, sT, sS, sZ]
  refine wpList_run rfl (.int .u64 (s3 : Int)) (exec_shl1 (.tmp 17) rfl rfl d3 s3 hs3.out rfl _) ?_
  simp only [Act.put, sT, sS, sZ]
  refine wpList_run rfl (.int .u64 (r3 : Int)) (exec_shr1 (.tmp 18) rfl rfl s3 r3 hr3.out rfl _) ?_
  simp only [Act.put, sT, sS, sZ]
  refine wpList_run rfl (.pointer (some ⟨g8, 3, none⟩)) (exec_indexAddr24 (.tmp 3) (.const (.int .i64 3)) rfl (g8) 3 rfl rfl (by decide) _) ?_
  simp only [Act.put, sT, sS, sZ]
  refine wpList_run0 rfl (exec_store22 _ (.tmp 20) (.tmp 19) rfl (g8) 3 rfl r3 rfl Nn Yn 24 (HS10.out.get (g8) Nn 24 (by simp)) CNn_3 hset.out) ?_
  simp only [Act.put, sT, sS, sZ]
  have HS12 : Hid (Kt w [(g8, Yn, 24), (w.heap.size, ZR1, 31)] (w9.setRow (g8) Yn)) := Lib.hid (HS10.out.set (g8) Yn Nn 24 (HS10.out.get (g8) Nn 24 (by simp)) (by omega) (fun p hp => by simp at hp; rcases hp with rfl | rfl <;> first | exact .inl rfl | exact .inr ⟨by simp, by simp only; omega⟩))
  clear HS10
  generalize w9.setRow (g8) Yn = w11 at *
  refine wpList_nil ?_
  go_upto_region 6 with fail
  refine wp_cut (fun a' W' => a' = { tmps := #[.string ⟨(m ++ [b]).toArray⟩, undef, .pointer (some ⟨w.heap.size, 0, none⟩), .pointer (some ⟨g8, 0, none⟩), .int .u64 (1 : Int), undef, undef, .string ⟨(m ++ [b]).toArray⟩, .int .i64 (32 : Int), .bool false, undef, .string ⟨(m ++ [b]).toArray⟩, .agg Nn, .pointer (some ⟨g8, 3, none⟩), .int .u64 (d3 : Int), .int .u64 (1 : Int), .pointer (some ⟨g8, 3, none⟩), .int .u64 (d3 : Int), .int .u64 (s3 : Int), .int .u64 (r3 : Int), .pointer (some ⟨g8, 3, none⟩), .agg Yn, .agg NN4, .bool false, .bool true, undef, undef, undef, undef, undef, undef, undef, undef, undef, undef, undef, undef, undef, undef, undef, undef, undef, undef, undef, undef, undef, undef, undef, undef, undef, undef, undef, undef, undef, undef, undef, undef, undef, undef, undef, undef, undef, undef, undef, undef, undef], defers := [] } ∧ Kt w [(w.heap.size, ZR1, 31)] W') ?_ ?_
  · refine wp_region_any (by kernel_rfl) ?_
    change wpAny _ _ _ _ _ _ _ (World.drew _)
    have HDq13x1 := HS12.out.drew
    clear HS12
    generalize w11.drew = wdq13x2 at *
    refine any_of_F (S := Kt w [(g8, Yn, 24), (w.heap.size, ZR1, 31)]) (f := 1000) _ _ _ _ ?_
    refine tkG 0 (some 21) (.load 24 (.tmp 3)) none (.agg Yn) (fun o ho w2 hw => exec_load_of _ 24 (.tmp 3) ho ⟨g8, 0, none⟩ rfl _ (loadA24 IYn (hw.get (g8) Yn 24 (by simp)))) HDq13x1 ?_
    simp only [Act.put, sT, sS, sZ]
    refine rdy [1] (rcl (some 22) 33 #[] #[] #[] en33 _ (HC3.out _) ?_ ReadyF.nil)
    rintro v wq13x11 ⟨he, hb⟩
    cases he
    have Hq13x12 := HDq13x1.below hb
    clear hb
    refine ⟨Hq13x12, ?_⟩
    simp only [Act.put, sT, sS, sZ]
    refine rdy [2] (rcl (some 23) 32 #[.tmp 21, .tmp 22] #[24, 24] #[.agg Yn, .agg NN4] en32 _ (HC5.out _) ?_ ReadyF.nil)
    rintro v wq13x13 ⟨he, hb⟩
    cases he
    have Hq13x14 := Hq13x12.below hb
    clear hb
    refine ⟨Hq13x14, ?_⟩
    simp only [Act.put, sT, sS, sZ]
    refine tkG 3 (some 24) (.unOp .not 4 (.tmp 23)) none (.bool true) (fun o ho w2 hw => exec_notv (.tmp 23) ho _ rfl true rfl w2) Hq13x14 ?_
    simp only [Act.put, sT, sS, sZ]
    refine AnyF.done (by kernel_rfl) ?_ _
    refine nrm_intro ⟨rfl, Hq13x14.sub (fun p hp => by simp at hp; subst hp; simp)⟩
  rintro a' w14 ⟨rfl, hk⟩
  have HS15 := Lib.hid hk
  clear hk HS12
  go_upto_region 7 with fail
  refine wp_region_list ?_
  refine wpList_run rfl (.agg ZR1) (exec_buildN _ 31 #[] rfl #[] (by simp [Act.eval]) _ (BF6 _)) ?_
  simp only [Act.put, sT, sS, sZ]
  refine wpList_run0 rfl (exec_storeT31 _ (.tmp 2) (.tmp 25) rfl (w.heap.size) rfl ZR1 IZR1 rfl ZR1 31 (HS15.out.get (w.heap.size) ZR1 31 (by simp)) SZZR1) ?_
  simp only [Act.put, sT, sS, sZ]
  have HS17 : Hid (Kt w [(w.heap.size, ZR1, 31)] (w14.setRow (w.heap.size) ZR1)) := Lib.hid (HS15.out.set (w.heap.size) ZR1 ZR1 31 (HS15.out.get (w.heap.size) ZR1 31 (by simp)) (by omega) (fun p hp => by simp at hp; subst hp; exact .inl rfl))
  clear HS15
  generalize w14.setRow (w.heap.size) ZR1 = w16 at *
  refine wpList_nil ?_
  go_wp2
  exact bodyPost_ret (results_cell rfl _ _ _ ⟨w.heap.size, 0, none⟩ rfl _ (loadT31 IZR1 (HS17.out.get (w.heap.size) ZR1 31 (by simp)))) rfl ⟨rfl, HS17.out.1⟩
set_option maxRecDepth 100000 in
set_option maxHeartbeats 2000000 in
theorem rfrom_c0 (m : List UInt8) (b c : UInt8) (hm : m.length = 31) (hcb : c.toNat = b.toNat % 128) (y : Nat) (hy : y = leVal m + c.toNat * 256 ^ 31) (hyp : y < pp) (hth : (rootF (fromU y)).2 = false) (hq : b.toNat < 128) (w : World) :
    Calls Tryd.prog 12 #[.string ⟨(m ++ [b]).toArray⟩] w fun e w' => e = .returned (.agg (spotV (fun _ => 0) false)) ∧ Below w.heap.size w w' := by
  obtain ⟨n, hn0⟩ : ∃ n, n = leVal m + b.toNat * 256 ^ 31 := ⟨_, rfl⟩
  have hsz := len31 b hm
  have hv0 : leVal (m ++ [b]) = n := by rw [leVal_snoc, hm, hn0]
  have hn : n < 115792089237316195423570985008687907853269984665640564039457584007913129639936 := by
    have h := leVal_lt (m ++ [b])
    rw [hsz, hv0] at h
    exact h
  have HN := Lib.hid (number_any ⟨(m ++ [b]).toArray⟩ hsz)
  rw [show leVal (⟨(m ++ [b]).toArray⟩ : ByteArray).data.toList = n from hv0] at HN
  have hmod : n % hb = y := by rw [hn0, split_mod _ _ (leVal_31 m hm), hy, hcb]
  have hdiv : n / hb = 0 := by
    rw [hn0, split_div _ _ (leVal_31 m hm)]
    have := b.toNat_lt
    omega
  have hyn : y ≤ n := by rw [← hmod]; exact Nat.mod_le _ _
  have hset0 := cut_set n hn
  have htop := dig3_top n hn
  rw [hmod] at hset0
  rw [hdiv] at htop
  have hd64 := dig_lt n 3
  have hg3 := num_get n 3 (by decide)
  obtain ⟨d3, hd3⟩ : ∃ d3, d3 = dig n 3 := ⟨_, rfl⟩
  rw [← hd3] at hset0 htop hd64 hg3
  obtain ⟨r3, hr30⟩ : ∃ r3, r3 = d3 % 9223372036854775808 := ⟨_, rfl⟩
  obtain ⟨s3, hs30⟩ : ∃ s3, s3 = r3 * 2 := ⟨_, rfl⟩
  have h63 : Hid ((d3 : Int) / 2 ^ 63 = ((0 : Nat) : Int)) := Lib.hid (by show (d3 : Int) / 9223372036854775808 = _; omega)
  have hs3 : Hid ((d3 : Int) * 2 % 18446744073709551616 = (s3 : Int)) := Lib.hid (by omega)
  have hr3 : Hid ((s3 : Int) / 2 = (r3 : Int)) := Lib.hid (by omega)
  rw [← hr30] at hset0
  have hlen : Hid ((⟨(m ++ [b]).toArray⟩ : ByteArray).size = 32) := Lib.hid hsz
  have hnb : Hid (false = !(((32 : Nat) : Int) == 32)) := Lib.hid (by decide)
  have HC3 := Lib.hid (prime_any)
  have HC5 := Lib.hid (less_any (y) (pp) (Nat.lt_of_le_of_lt hyn hn) pp_b4)
  rw [show decide (y < pp) = true from decide_eq_true hyp] at HC5
  have HC7 := Lib.hid (rmulf_any (y) (y) (Nat.lt_of_le_of_lt hyn hn) (Nat.lt_of_le_of_lt hyn hn))
  have HC11 := Lib.hid (rsub_any (mulF (y) (y)) (1) (pp_lt (mulF_lt _ _)) (by decide))
  have HC13 := Lib.hid (rd_any)
  have HC16 := Lib.hid (rmulf_any (dN) (mulF (y) (y)) dN_b4 (pp_lt (mulF_lt _ _)))
  have HC18 := Lib.hid (radd_any (mulF (dN) (mulF (y) (y))) (1) (pp_lt (mulF_lt _ _)) (by decide))
  have HC20 := Lib.hid (rinv_any (addF (mulF (dN) (mulF (y) (y))) (1)) (pp_lt (addF_lt _ _)))
  have HC22 := Lib.hid (rmulf_any (subF (mulF (y) (y)) (1)) (invF (addF (mulF (dN) (mulF (y) (y))) (1))) (pp_lt (subF_lt _ _)) (pp_lt (invF_lt _)))
  rw [(show mulF (subF (mulF (y) (y)) (1)) (invF (addF (mulF (dN) (mulF (y) (y))) (1))) = fromU (y) from rfl)] at HC22
  have HC25 := Lib.hid (rroot_got (fromU (y)) (pp_lt (mulF_lt _ _)))
  rw [hth] at HC25
  obtain ⟨Nn, hNn⟩ : ∃ zz9, Hid (zz9 = num (n)) := ⟨_, Lib.hid rfl⟩
  have INn : IsNum Nn := by rw [hNn.out]; exact isNum _
  obtain ⟨Yn, hYn⟩ : ∃ zz9, Hid (zz9 = num (y)) := ⟨_, Lib.hid rfl⟩
  have IYn : IsNum Yn := by rw [hYn.out]; exact isNum _
  obtain ⟨ZR1, hZR1⟩ : ∃ zz9, Hid (zz9 = spotV (fun _ => 0) false) := ⟨_, Lib.hid rfl⟩
  have SZZR1 : ZR1.size = 9 := by rw [hZR1.out]; rfl
  obtain ⟨NN2, hNN2⟩ : ∃ zz9, Hid (zz9 = num (0)) := ⟨_, Lib.hid rfl⟩
  have INN2 : IsNum NN2 := by rw [hNN2.out]; exact isNum _
  obtain ⟨NN4, hNN4⟩ : ∃ zz9, Hid (zz9 = num (pp)) := ⟨_, Lib.hid rfl⟩
  have INN4 : IsNum NN4 := by rw [hNN4.out]; exact isNum _
  obtain ⟨NN6, hNN6⟩ : ∃ zz9, Hid (zz9 = num (mulF (y) (y))) := ⟨_, Lib.hid rfl⟩
  have INN6 : IsNum NN6 := by rw [hNN6.out]; exact isNum _
  obtain ⟨NN9, hNN9⟩ : ∃ zz9, Hid (zz9 = num (1)) := ⟨_, Lib.hid rfl⟩
  have INN9 : IsNum NN9 := by rw [hNN9.out]; exact isNum _
  obtain ⟨NN10, hNN10⟩ : ∃ zz9, Hid (zz9 = num (subF (mulF (y) (y)) (1))) := ⟨_, Lib.hid rfl⟩
  have INN10 : IsNum NN10 := by rw [hNN10.out]; exact isNum _
  obtain ⟨ZR12, hZR12⟩ : ∃ zz9, Hid (zz9 = gotV (fun _ => 0) false) := ⟨_, Lib.hid rfl⟩
  have SZZR12 : ZR12.size = 5 := by rw [hZR12.out]; rfl
  obtain ⟨NN14, hNN14⟩ : ∃ zz9, Hid (zz9 = num (dN)) := ⟨_, Lib.hid rfl⟩
  have INN14 : IsNum NN14 := by rw [hNN14.out]; exact isNum _
  obtain ⟨NN15, hNN15⟩ : ∃ zz9, Hid (zz9 = num (mulF (dN) (mulF (y) (y)))) := ⟨_, Lib.hid rfl⟩
  have INN15 : IsNum NN15 := by rw [hNN15.out]; exact isNum _
  obtain ⟨NN17, hNN17⟩ : ∃ zz9, Hid (zz9 = num (addF (mulF (dN) (mulF (y) (y))) (1))) := ⟨_, Lib.hid rfl⟩
  have INN17 : IsNum NN17 := by rw [hNN17.out]; exact isNum _
  obtain ⟨NN19, hNN19⟩ : ∃ zz9, Hid (zz9 = num (invF (addF (mulF (dN) (mulF (y) (y))) (1)))) := ⟨_, Lib.hid rfl⟩
  have INN19 : IsNum NN19 := by rw [hNN19.out]; exact isNum _
  obtain ⟨NN21, hNN21⟩ : ∃ zz9, Hid (zz9 = num (fromU (y))) := ⟨_, Lib.hid rfl⟩
  have INN21 : IsNum NN21 := by rw [hNN21.out]; exact isNum _
  obtain ⟨NN23, hNN23⟩ : ∃ zz9, Hid (zz9 = num ((rootF (fromU (y))).1)) := ⟨_, Lib.hid rfl⟩
  have INN23 : IsNum NN23 := by rw [hNN23.out]; exact isNum _
  obtain ⟨GT24, hGT24⟩ : ∃ zz9, Hid (zz9 = NN23 ++ #[.bool false]) := ⟨_, Lib.hid rfl⟩
  have IGT24 : IsGot GT24 := by rw [hGT24.out]; exact got_of INN23 false
  have SGT24_0 : Part GT24 0 NN23 := by rw [hGT24.out]; exact part_left 0 (part_all NN23) _
  have CGT24_4 : GT24[4]? = some (.bool false) := by rw [hGT24.out]; exact got_b INN23 false
  have HZ31 : ∀ w, (zeroValue 31).run Tryd.prog w = .ok (.agg ZR1) w := by rw [hZR1.out]; exact zeroT31
  have HZ24 : ∀ w, (zeroValue 24).run Tryd.prog w = .ok (.agg NN2) w := by rw [hNN2.out]; exact zero_run
  have SZNN2 := INN2.size
  have HZ60 : ∀ w, (zeroValue 60).run Tryd.prog w = .ok (.agg ZR12) w := by rw [hZR12.out]; exact zero29
  have BF8 : ∀ w, (Instr.build 24 #[(0, .int .u64 1)]).run Tryd.prog w = .ok (.agg NN9) w := by rw [hNN9.out]; exact build_run 1 (by decide)
  have BF26 : ∀ w, (Instr.build 31 #[]).run Tryd.prog w = .ok (.agg ZR1) w := by rw [hZR1.out]; exact bs_none
  have IZR1 : IsSpot ZR1 := by rw [hZR1.out]; exact ⟨_, _, rfl⟩
  try simp only [← hNn.out, ← hYn.out, ← hNN2.out, ← hNN4.out, ← hNN6.out, ← hNN9.out, ← hNN10.out, ← hNN14.out, ← hNN15.out, ← hNN17.out, ← hNN19.out, ← hNN21.out, ← hNN23.out] at HC3 HC5 HC7 HC11 HC13 HC16 HC18 HC20 HC22 HC25 HN hset0 hg3 ⊢
  try simp only [← hZR1.out] at HC3 HC5 HC7 HC11 HC13 HC16 HC18 HC20 HC22 HC25 HN hset0 hg3 ⊢
  try simp only [← hZR12.out] at HC3 HC5 HC7 HC11 HC13 HC16 HC18 HC20 HC22 HC25 HN hset0 hg3 ⊢
  try simp only [← hGT24.out] at HC3 HC5 HC7 HC11 HC13 HC16 HC18 HC20 HC22 HC25 HN hset0 hg3 ⊢
  clear hNn hYn hZR1 hNN2 hNN4 hNN6 hNN9 hNN10 hZR12 hNN14 hNN15 hNN17 hNN19 hNN21 hNN23 hGT24 hcb hy hn0 hsz hv0 hn hmod hdiv hyn htop hd64 hd3 hr30 hs30 hyp hq hth
  have hset := Lib.hid hset0
  have CNn_3 := hg3
  clear hset0 hg3
  go_enter Tryd.func12, Tryd.ntmps12
  have HS : Hid (Kt w [] w) := Lib.hid (Kt.nil w)
  go_upto_region 0 with fail
  refine wp_region_list ?_
  refine wpList_run rfl _ (exec_alloc_agg _ 31 rfl _ (HZ31 _)) ?_
  simp only [Act.put, sT, sS, sZ]
  have bg3 := HS.out.1.size
  have HS2 := Lib.hid (HS.out.new ZR1 31)
  clear HS
  generalize w.alloc (.cells ZR1 31) = w1 at *
  refine wpList_nil ?_
  go_upto_region 1 with fail
  refine wp_region_list ?_
  refine wpList_run rfl (.string ⟨(m ++ [b]).toArray⟩) (exec_move (.tmp 0) rfl _ rfl _) ?_
  simp only [Act.put, sT, sS, sZ]
  refine wpList_run rfl (.int .i64 (32 : Int)) (exec_len9 (.tmp 7) rfl ⟨(m ++ [b]).toArray⟩ 32 hlen.out rfl _) ?_
  simp only [Act.put, sT, sS, sZ]
  refine wpList_run rfl (.bool false) (exec_neq32 (.tmp 8) rfl rfl 32 false hnb.out rfl _) ?_
  simp only [Act.put, sT, sS, sZ]
  refine wpList_nil ?_
  go_upto_region 3 with fail
  refine wp_region_list ?_
  refine wpList_run rfl (.string ⟨(m ++ [b]).toArray⟩) (exec_move (.tmp 0) rfl _ rfl _) ?_
  simp only [Act.put, sT, sS, sZ]
  refine wpList_callF rfl 31 #[.tmp 11] #[9] rfl #[.string ⟨(m ++ [b]).toArray⟩] en31 (HN.out _) ?_
  rintro v w4 ⟨he, hb⟩
  cases he
  have HS5 := Lib.hid (HS2.out.below hb)
  clear hb HS2
  simp only [Act.put, sT, sS, sZ]
  refine wpList_run rfl _ (exec_alloc_agg _ 24 rfl _ (HZ24 _)) ?_
  simp only [Act.put, sT, sS, sZ]
  have lg8_0 := HS5.out.lt (w.heap.size) ZR1 31 (by simp)
  have bg8 := HS5.out.1.size
  have HS7 := Lib.hid (HS5.out.new NN2 24)
  clear HS5
  generalize w4.alloc (.cells NN2 24) = w6 at *
  generalize w4.heap.size = g8 at *
  refine wpList_run0 rfl (exec_store24 _ (.tmp 3) (.tmp 12) rfl (g8) rfl Nn INn rfl NN2 24 (HS7.out.get (g8) NN2 24 (by simp)) SZNN2) ?_
  simp only [Act.put, sT, sS, sZ]
  have HS10 : Hid (Kt w [(g8, Nn, 24), (w.heap.size, ZR1, 31)] (w6.setRow (g8) Nn)) := Lib.hid (HS7.out.set (g8) Nn NN2 24 (HS7.out.get (g8) NN2 24 (by simp)) (by omega) (fun p hp => by simp at hp; rcases hp with rfl | rfl <;> first | exact .inl rfl | exact .inr ⟨by simp, by simp only; omega⟩))
  clear HS7
  generalize w6.setRow (g8) Nn = w9 at *
  refine wpList_nil ?_
  go_upto_region 4 with fail
  refine wp_region_list ?_
  refine wpList_run rfl (.pointer (some ⟨g8, 3, none⟩)) (exec_indexAddr24 (.tmp 3) (.const (.int .i64 3)) rfl (g8) 3 rfl rfl (by decide) _) ?_
  simp only [Act.put, sT, sS, sZ]
  refine wpList_run rfl (.int .u64 (d3 : Int)) (exec_load_one _ 22 (.tmp 13) rfl ⟨g8, 3, none⟩ rfl _ (cell_part (HS10.out.get (g8) Nn 24 (by simp)) 3 _ CNn_3) _ Tryd.underlying22 rfl) ?_
  simp only [Act.put, sT, sS, sZ]
  refine wpList_run rfl (.int .u64 (0 : Int)) (exec_shr63 (.tmp 14) rfl rfl d3 0 h63.out rfl _) ?_
  simp only [Act.put, sT, sS, sZ]
  refine wpList_run rfl (.int .u64 (0 : Int)) (exec_assign (.tmp 15) rfl _ rfl _) ?_
  simp only [Act.put, sT, sS, sZ]
  refine wpList_nil ?_
  go_upto_region 5 with fail
  refine wp_region_list ?_
  refine wpList_run rfl (.pointer (some ⟨g8, 3, none⟩)) (exec_indexAddr24 (.tmp 3) (.const (.int .i64 3)) rfl (g8) 3 rfl rfl (by decide) _) ?_
  simp only [Act.put, sT, sS, sZ]
  refine wpList_run rfl (.int .u64 (d3 : Int)) (exec_load_one _ 22 (.tmp 16) rfl ⟨g8, 3, none⟩ rfl _ (cell_part (HS10.out.get (g8) Nn 24 (by simp)) 3 _ CNn_3) _ Tryd.underlying22 rfl) ?_
  simp only [Act.put, sT, sS, sZ]
  refine wpList_run rfl (.int .u64 (s3 : Int)) (exec_shl1 (.tmp 17) rfl rfl d3 s3 hs3.out rfl _) ?_
  simp only [Act.put, sT, sS, sZ]
  refine wpList_run rfl (.int .u64 (r3 : Int)) (exec_shr1 (.tmp 18) rfl rfl s3 r3 hr3.out rfl _) ?_
  simp only [Act.put, sT, sS, sZ]
  refine wpList_run rfl (.pointer (some ⟨g8, 3, none⟩)) (exec_indexAddr24 (.tmp 3) (.const (.int .i64 3)) rfl (g8) 3 rfl rfl (by decide) _) ?_
  simp only [Act.put, sT, sS, sZ]
  refine wpList_run0 rfl (exec_store22 _ (.tmp 20) (.tmp 19) rfl (g8) 3 rfl r3 rfl Nn Yn 24 (HS10.out.get (g8) Nn 24 (by simp)) CNn_3 hset.out) ?_
  simp only [Act.put, sT, sS, sZ]
  have HS12 : Hid (Kt w [(g8, Yn, 24), (w.heap.size, ZR1, 31)] (w9.setRow (g8) Yn)) := Lib.hid (HS10.out.set (g8) Yn Nn 24 (HS10.out.get (g8) Nn 24 (by simp)) (by omega) (fun p hp => by simp at hp; rcases hp with rfl | rfl <;> first | exact .inl rfl | exact .inr ⟨by simp, by simp only; omega⟩))
  clear HS10
  generalize w9.setRow (g8) Yn = w11 at *
  refine wpList_nil ?_
  go_upto_region 6 with fail
  refine wp_cut (fun a' W' => a' = { tmps := #[.string ⟨(m ++ [b]).toArray⟩, undef, .pointer (some ⟨w.heap.size, 0, none⟩), .pointer (some ⟨g8, 0, none⟩), .int .u64 (0 : Int), undef, undef, .string ⟨(m ++ [b]).toArray⟩, .int .i64 (32 : Int), .bool false, undef, .string ⟨(m ++ [b]).toArray⟩, .agg Nn, .pointer (some ⟨g8, 3, none⟩), .int .u64 (d3 : Int), .int .u64 (0 : Int), .pointer (some ⟨g8, 3, none⟩), .int .u64 (d3 : Int), .int .u64 (s3 : Int), .int .u64 (r3 : Int), .pointer (some ⟨g8, 3, none⟩), .agg Yn, .agg NN4, .bool true, .bool false, undef, undef, undef, undef, undef, undef, undef, undef, undef, undef, undef, undef, undef, undef, undef, undef, undef, undef, undef, undef, undef, undef, undef, undef, undef, undef, undef, undef, undef, undef, undef, undef, undef, undef, undef, undef, undef, undef, undef, undef, undef], defers := [] } ∧ Kt w [(g8, Yn, 24), (w.heap.size, ZR1, 31)] W') ?_ ?_
  · refine wp_region_any (by kernel_rfl) ?_
    change wpAny _ _ _ _ _ _ _ (World.drew _)
    have HDq13x1 := HS12.out.drew
    clear HS12
    generalize w11.drew = wdq13x2 at *
    refine any_of_F (S := Kt w [(g8, Yn, 24), (w.heap.size, ZR1, 31)]) (f := 1000) _ _ _ _ ?_
    refine tkG 0 (some 21) (.load 24 (.tmp 3)) none (.agg Yn) (fun o ho w2 hw => exec_load_of _ 24 (.tmp 3) ho ⟨g8, 0, none⟩ rfl _ (loadA24 IYn (hw.get (g8) Yn 24 (by simp)))) HDq13x1 ?_
    simp only [Act.put, sT, sS, sZ]
    refine rdy [1] (rcl (some 22) 33 #[] #[] #[] en33 _ (HC3.out _) ?_ ReadyF.nil)
    rintro v wq13x11 ⟨he, hb⟩
    cases he
    have Hq13x12 := HDq13x1.below hb
    clear hb
    refine ⟨Hq13x12, ?_⟩
    simp only [Act.put, sT, sS, sZ]
    refine rdy [2] (rcl (some 23) 32 #[.tmp 21, .tmp 22] #[24, 24] #[.agg Yn, .agg NN4] en32 _ (HC5.out _) ?_ ReadyF.nil)
    rintro v wq13x13 ⟨he, hb⟩
    cases he
    have Hq13x14 := Hq13x12.below hb
    clear hb
    refine ⟨Hq13x14, ?_⟩
    simp only [Act.put, sT, sS, sZ]
    refine tkG 3 (some 24) (.unOp .not 4 (.tmp 23)) none (.bool false) (fun o ho w2 hw => exec_notv (.tmp 23) ho _ rfl false rfl w2) Hq13x14 ?_
    simp only [Act.put, sT, sS, sZ]
    refine AnyF.done (by kernel_rfl) ?_ _
    refine nrm_intro ⟨rfl, Hq13x14.sub (fun p hp => by simp at hp; rcases hp with rfl | rfl <;> simp)⟩
  rintro a' w14 ⟨rfl, hk⟩
  have HS15 := Lib.hid hk
  clear hk HS12
  go_upto_region 8 with fail
  refine wp_region_list ?_
  refine wpList_run rfl (.agg Yn) (exec_load_of _ 24 (.tmp 3) rfl ⟨g8, 0, none⟩ rfl _ (loadA24 IYn (HS15.out.get (g8) Yn 24 (by simp)))) ?_
  simp only [Act.put, sT, sS, sZ]
  refine wpList_run rfl (.agg Yn) (exec_load_of _ 24 (.tmp 3) rfl ⟨g8, 0, none⟩ rfl _ (loadA24 IYn (HS15.out.get (g8) Yn 24 (by simp)))) ?_
  simp only [Act.put, sT, sS, sZ]
  refine wpList_callF rfl 34 #[.tmp 26, .tmp 27] #[24, 24] rfl #[.agg Yn, .agg Yn] en34 (HC7.out _) ?_
  rintro v w16 ⟨he, hb⟩
  cases he
  have HS17 := Lib.hid (HS15.out.below hb)
  clear hb HS15
  simp only [Act.put, sT, sS, sZ]
  refine wpList_run rfl _ (exec_alloc_agg _ 24 rfl _ (HZ24 _)) ?_
  simp only [Act.put, sT, sS, sZ]
  have lg20_0 := HS17.out.lt (g8) Yn 24 (by simp)
  have lg20_1 := HS17.out.lt (w.heap.size) ZR1 31 (by simp)
  have bg20 := HS17.out.1.size
  have HS19 := Lib.hid (HS17.out.new NN2 24)
  clear HS17
  generalize w16.alloc (.cells NN2 24) = w18 at *
  generalize w16.heap.size = g20 at *
  refine wpList_run0 rfl (exec_store24 _ (.tmp 5) (.tmp 28) rfl (g20) rfl NN6 INN6 rfl NN2 24 (HS19.out.get (g20) NN2 24 (by simp)) SZNN2) ?_
  simp only [Act.put, sT, sS, sZ]
  have HS22 : Hid (Kt w [(g20, NN6, 24), (g8, Yn, 24), (w.heap.size, ZR1, 31)] (w18.setRow (g20) NN6)) := Lib.hid (HS19.out.set (g20) NN6 NN2 24 (HS19.out.get (g20) NN2 24 (by simp)) (by omega) (fun p hp => by simp at hp; rcases hp with rfl | rfl | rfl <;> first | exact .inl rfl | exact .inr ⟨by simp, by simp only; omega⟩))
  clear HS19
  generalize w18.setRow (g20) NN6 = w21 at *
  refine wpList_nil ?_
  have HS23 : Hid (Kt w [(g20, NN6, 24), (w.heap.size, ZR1, 31)] w21) := Lib.hid (HS22.out.sub (fun p hp => by simp at hp; rcases hp with rfl | rfl <;> simp))
  clear HS22
  go_upto_region 9 with fail
  refine wp_cut (fun a' W' => ∃ gq24s0, a' = { tmps := #[.string ⟨(m ++ [b]).toArray⟩, undef, .pointer (some ⟨w.heap.size, 0, none⟩), .pointer (some ⟨g8, 0, none⟩), .int .u64 (0 : Int), .pointer (some ⟨g20, 0, none⟩), .pointer (some ⟨gq24s0, 0, none⟩), .string ⟨(m ++ [b]).toArray⟩, .int .i64 (32 : Int), .bool false, undef, .string ⟨(m ++ [b]).toArray⟩, .agg Nn, .pointer (some ⟨g8, 3, none⟩), .int .u64 (d3 : Int), .int .u64 (0 : Int), .pointer (some ⟨g8, 3, none⟩), .int .u64 (d3 : Int), .int .u64 (s3 : Int), .int .u64 (r3 : Int), .pointer (some ⟨g8, 3, none⟩), .agg Yn, .agg NN4, .bool true, .bool false, undef, .agg Yn, .agg Yn, .agg NN6, .agg NN6, .agg NN9, .agg NN10, .agg NN14, .agg NN6, .agg NN15, .agg NN9, .agg NN17, .agg NN19, .agg NN21, .agg GT24, undef, undef, undef, undef, undef, undef, undef, undef, undef, undef, undef, undef, undef, undef, undef, undef, undef, undef, undef, undef, undef, undef, undef, undef, undef, undef], defers := [] } ∧ Kt w [(w.heap.size, ZR1, 31), (gq24s0, GT24, 60)] W' ∧ w.heap.size ≤ gq24s0 ∧ gq24s0 ≠ g20 ∧ gq24s0 ≠ w.heap.size) ?_ ?_
  · refine wp_region_any (by kernel_rfl) ?_
    change wpAny _ _ _ _ _ _ _ (World.drew _)
    have HDq24x1 := HS23.out.drew
    clear HS23
    generalize w21.drew = wdq24x2 at *
    refine any_of_F (S := Kt w [(g20, NN6, 24), (w.heap.size, ZR1, 31)]) (f := 1000) _ _ _ _ ?_
    refine F_have 1 #[true, true, true, true, true, true, true, true, true, true, true, true, false] (fun a W => ∃ gjq24_0_0, a = { tmps := #[.string ⟨(m ++ [b]).toArray⟩, undef, .pointer (some ⟨w.heap.size, 0, none⟩), .pointer (some ⟨g8, 0, none⟩), .int .u64 (0 : Int), .pointer (some ⟨g20, 0, none⟩), .pointer (some ⟨gjq24_0_0, 0, none⟩), .string ⟨(m ++ [b]).toArray⟩, .int .i64 (32 : Int), .bool false, undef, .string ⟨(m ++ [b]).toArray⟩, .agg Nn, .pointer (some ⟨g8, 3, none⟩), .int .u64 (d3 : Int), .int .u64 (0 : Int), .pointer (some ⟨g8, 3, none⟩), .int .u64 (d3 : Int), .int .u64 (s3 : Int), .int .u64 (r3 : Int), .pointer (some ⟨g8, 3, none⟩), .agg Yn, .agg NN4, .bool true, .bool false, undef, .agg Yn, .agg Yn, .agg NN6, .agg NN6, .agg NN9, .agg NN10, .agg NN14, .agg NN6, .agg NN15, .agg NN9, .agg NN17, .agg NN19, .agg NN21, .agg GT24, undef, undef, undef, undef, undef, undef, undef, undef, undef, undef, undef, undef, undef, undef, undef, undef, undef, undef, undef, undef, undef, undef, undef, undef, undef, undef], defers := [] } ∧ Kt w [(g20, NN6, 24), (w.heap.size, ZR1, 31)] W ∧ Kt w [(gjq24_0_0, ZR12, 60)] W ∧ w.heap.size ≤ gjq24_0_0 ∧ gjq24_0_0 ≠ g20 ∧ gjq24_0_0 ≠ w.heap.size) ?_ ?_
    · rintro a wq24x11 ⟨gjq24_0_0, rfl, Hq24x12, Eq24x13, fJq24_0_0, fJq24_0_1, fJq24_0_2⟩
      refine rdy [12] (ReadyF.op0 (.store 60 (.tmp 6) (.tmp 39)) rfl (fun o ho => exec_store29 wq24x11 (.tmp 6) (.tmp 39) ho (gjq24_0_0) rfl GT24 IGT24 rfl ZR12 60 (Eq24x13.get (gjq24_0_0) ZR12 60 (by simp)) SZZR12) (Hq24x12.set (gjq24_0_0) GT24 ZR12 60 (Eq24x13.get (gjq24_0_0) ZR12 60 (by simp)) (by omega) (fun p hp => by simp at hp; rcases hp with rfl | rfl <;> exact .inr ⟨by simp, by simp only; omega⟩)) ?_ ReadyF.nil)
      have Hq24x15 := Hq24x12.set (gjq24_0_0) GT24 ZR12 60 (Eq24x13.get (gjq24_0_0) ZR12 60 (by simp)) (by omega) (m := [(g20, NN6, 24), (w.heap.size, ZR1, 31)]) (fun p hp => by simp at hp; rcases hp with rfl | rfl <;> exact .inr ⟨by simp, by simp only; omega⟩)
      have Eq24x16 := Eq24x13.set (gjq24_0_0) GT24 ZR12 60 (Eq24x13.get (gjq24_0_0) ZR12 60 (by simp)) (by omega) (m := [(gjq24_0_0, GT24, 60)]) (fun p hp => by simp at hp; subst hp; first | exact .inl rfl | exact .inr ⟨by simp, by simp only; omega⟩)
      generalize wq24x11.setRow (gjq24_0_0) GT24 = wq24x14 at *
      refine AnyF.done (by kernel_rfl) ?_ _
      refine nrm_intro ⟨gjq24_0_0, rfl, (Hq24x15.app Eq24x16).sub (fun p hp => by simp at hp; rcases hp with rfl | rfl <;> simp), by omega, by omega, by omega⟩
    intro Jq24_0
    refine F_have 2 #[true, true, true, true, true, true, true, true, true, true, false, true, false] (fun a W => ∃ gjq24_1_0, a = { tmps := #[.string ⟨(m ++ [b]).toArray⟩, undef, .pointer (some ⟨w.heap.size, 0, none⟩), .pointer (some ⟨g8, 0, none⟩), .int .u64 (0 : Int), .pointer (some ⟨g20, 0, none⟩), .pointer (some ⟨gjq24_1_0, 0, none⟩), .string ⟨(m ++ [b]).toArray⟩, .int .i64 (32 : Int), .bool false, undef, .string ⟨(m ++ [b]).toArray⟩, .agg Nn, .pointer (some ⟨g8, 3, none⟩), .int .u64 (d3 : Int), .int .u64 (0 : Int), .pointer (some ⟨g8, 3, none⟩), .int .u64 (d3 : Int), .int .u64 (s3 : Int), .int .u64 (r3 : Int), .pointer (some ⟨g8, 3, none⟩), .agg Yn, .agg NN4, .bool true, .bool false, undef, .agg Yn, .agg Yn, .agg NN6, .agg NN6, .agg NN9, .agg NN10, .agg NN14, .agg NN6, .agg NN15, .agg NN9, .agg NN17, .agg NN19, .agg NN21, undef, undef, undef, undef, undef, undef, undef, undef, undef, undef, undef, undef, undef, undef, undef, undef, undef, undef, undef, undef, undef, undef, undef, undef, undef, undef, undef], defers := [] } ∧ Kt w [(g20, NN6, 24), (w.heap.size, ZR1, 31)] W ∧ Kt w [(gjq24_1_0, ZR12, 60)] W ∧ w.heap.size ≤ gjq24_1_0 ∧ gjq24_1_0 ≠ g20 ∧ gjq24_1_0 ≠ w.heap.size) ?_ ?_
    · rintro a wq24x17 ⟨gjq24_1_0, rfl, Hq24x18, Eq24x19, fJq24_1_0, fJq24_1_1, fJq24_1_2⟩
      refine rdy [10] (rcl (some 39) 35 #[.tmp 38] #[24] #[.agg NN21] en35 _ (HC25.out _) ?_ ReadyF.nil)
      rintro v wq24x20 ⟨he, hb⟩
      cases he
      have Hq24x21 := Hq24x18.below hb
      have Eq24x22 := Eq24x19.below hb
      clear hb
      refine ⟨Hq24x21, ?_⟩
      simp only [Act.put, sT, sS, sZ]
      exact F_to (by kernel_rfl) (by kernel_rfl) (Jq24_0 _ _ ⟨gjq24_1_0, rfl, Hq24x21, Eq24x22, by omega, by omega, by omega⟩)
    intro Jq24_1
    refine F_have 3 #[true, true, true, true, true, true, true, true, true, false, false, true, false] (fun a W => ∃ gjq24_2_0, a = { tmps := #[.string ⟨(m ++ [b]).toArray⟩, undef, .pointer (some ⟨w.heap.size, 0, none⟩), .pointer (some ⟨g8, 0, none⟩), .int .u64 (0 : Int), .pointer (some ⟨g20, 0, none⟩), .pointer (some ⟨gjq24_2_0, 0, none⟩), .string ⟨(m ++ [b]).toArray⟩, .int .i64 (32 : Int), .bool false, undef, .string ⟨(m ++ [b]).toArray⟩, .agg Nn, .pointer (some ⟨g8, 3, none⟩), .int .u64 (d3 : Int), .int .u64 (0 : Int), .pointer (some ⟨g8, 3, none⟩), .int .u64 (d3 : Int), .int .u64 (s3 : Int), .int .u64 (r3 : Int), .pointer (some ⟨g8, 3, none⟩), .agg Yn, .agg NN4, .bool true, .bool false, undef, .agg Yn, .agg Yn, .agg NN6, .agg NN6, .agg NN9, .agg NN10, .agg NN14, .agg NN6, .agg NN15, .agg NN9, .agg NN17, .agg NN19, undef, undef, undef, undef, undef, undef, undef, undef, undef, undef, undef, undef, undef, undef, undef, undef, undef, undef, undef, undef, undef, undef, undef, undef, undef, undef, undef, undef], defers := [] } ∧ Kt w [(g20, NN6, 24), (w.heap.size, ZR1, 31)] W ∧ Kt w [(gjq24_2_0, ZR12, 60)] W ∧ w.heap.size ≤ gjq24_2_0 ∧ gjq24_2_0 ≠ g20 ∧ gjq24_2_0 ≠ w.heap.size) ?_ ?_
    · rintro a wq24x23 ⟨gjq24_2_0, rfl, Hq24x24, Eq24x25, fJq24_2_0, fJq24_2_1, fJq24_2_2⟩
      refine rdy [9] (rcl (some 38) 34 #[.tmp 31, .tmp 37] #[24, 24] #[.agg NN10, .agg NN19] en34 _ (HC22.out _) ?_ ReadyF.nil)
      rintro v wq24x26 ⟨he, hb⟩
      cases he
      have Hq24x27 := Hq24x24.below hb
      have Eq24x28 := Eq24x25.below hb
      clear hb
      refine ⟨Hq24x27, ?_⟩
      simp only [Act.put, sT, sS, sZ]
      exact F_to (by kernel_rfl) (by kernel_rfl) (Jq24_1 _ _ ⟨gjq24_2_0, rfl, Hq24x27, Eq24x28, by omega, by omega, by omega⟩)
    intro Jq24_2
    refine F_have 4 #[true, true, true, true, true, true, true, true, false, false, false, true, false] (fun a W => ∃ gjq24_3_0, a = { tmps := #[.string ⟨(m ++ [b]).toArray⟩, undef, .pointer (some ⟨w.heap.size, 0, none⟩), .pointer (some ⟨g8, 0, none⟩), .int .u64 (0 : Int), .pointer (some ⟨g20, 0, none⟩), .pointer (some ⟨gjq24_3_0, 0, none⟩), .string ⟨(m ++ [b]).toArray⟩, .int .i64 (32 : Int), .bool false, undef, .string ⟨(m ++ [b]).toArray⟩, .agg Nn, .pointer (some ⟨g8, 3, none⟩), .int .u64 (d3 : Int), .int .u64 (0 : Int), .pointer (some ⟨g8, 3, none⟩), .int .u64 (d3 : Int), .int .u64 (s3 : Int), .int .u64 (r3 : Int), .pointer (some ⟨g8, 3, none⟩), .agg Yn, .agg NN4, .bool true, .bool false, undef, .agg Yn, .agg Yn, .agg NN6, .agg NN6, .agg NN9, .agg NN10, .agg NN14, .agg NN6, .agg NN15, .agg NN9, .agg NN17, undef, undef, undef, undef, undef, undef, undef, undef, undef, undef, undef, undef, undef, undef, undef, undef, undef, undef, undef, undef, undef, undef, undef, undef, undef, undef, undef, undef, undef], defers := [] } ∧ Kt w [(g20, NN6, 24), (w.heap.size, ZR1, 31)] W ∧ Kt w [(gjq24_3_0, ZR12, 60)] W ∧ w.heap.size ≤ gjq24_3_0 ∧ gjq24_3_0 ≠ g20 ∧ gjq24_3_0 ≠ w.heap.size) ?_ ?_
    · rintro a wq24x29 ⟨gjq24_3_0, rfl, Hq24x30, Eq24x31, fJq24_3_0, fJq24_3_1, fJq24_3_2⟩
      refine rdy [8] (rcl (some 37) 36 #[.tmp 36] #[24] #[.agg NN17] en36 _ (HC20.out _) ?_ ReadyF.nil)
      rintro v wq24x32 ⟨he, hb⟩
      cases he
      have Hq24x33 := Hq24x30.below hb
      have Eq24x34 := Eq24x31.below hb
      clear hb
      refine ⟨Hq24x33, ?_⟩
      simp only [Act.put, sT, sS, sZ]
      exact F_to (by kernel_rfl) (by kernel_rfl) (Jq24_2 _ _ ⟨gjq24_3_0, rfl, Hq24x33, Eq24x34, by omega, by omega, by omega⟩)
    intro Jq24_3
    refine F_have 5 #[true, true, true, true, true, true, true, false, false, false, false, true, false] (fun a W => ∃ gjq24_4_0, a = { tmps := #[.string ⟨(m ++ [b]).toArray⟩, undef, .pointer (some ⟨w.heap.size, 0, none⟩), .pointer (some ⟨g8, 0, none⟩), .int .u64 (0 : Int), .pointer (some ⟨g20, 0, none⟩), .pointer (some ⟨gjq24_4_0, 0, none⟩), .string ⟨(m ++ [b]).toArray⟩, .int .i64 (32 : Int), .bool false, undef, .string ⟨(m ++ [b]).toArray⟩, .agg Nn, .pointer (some ⟨g8, 3, none⟩), .int .u64 (d3 : Int), .int .u64 (0 : Int), .pointer (some ⟨g8, 3, none⟩), .int .u64 (d3 : Int), .int .u64 (s3 : Int), .int .u64 (r3 : Int), .pointer (some ⟨g8, 3, none⟩), .agg Yn, .agg NN4, .bool true, .bool false, undef, .agg Yn, .agg Yn, .agg NN6, .agg NN6, .agg NN9, .agg NN10, .agg NN14, .agg NN6, .agg NN15, .agg NN9, undef, undef, undef, undef, undef, undef, undef, undef, undef, undef, undef, undef, undef, undef, undef, undef, undef, undef, undef, undef, undef, undef, undef, undef, undef, undef, undef, undef, undef, undef], defers := [] } ∧ Kt w [(g20, NN6, 24), (w.heap.size, ZR1, 31)] W ∧ Kt w [(gjq24_4_0, ZR12, 60)] W ∧ w.heap.size ≤ gjq24_4_0 ∧ gjq24_4_0 ≠ g20 ∧ gjq24_4_0 ≠ w.heap.size) ?_ ?_
    · rintro a wq24x35 ⟨gjq24_4_0, rfl, Hq24x36, Eq24x37, fJq24_4_0, fJq24_4_1, fJq24_4_2⟩
      refine rdy [7] (rcl (some 36) 37 #[.tmp 34, .tmp 35] #[24, 24] #[.agg NN15, .agg NN9] en37 _ (HC18.out _) ?_ ReadyF.nil)
      rintro v wq24x38 ⟨he, hb⟩
      cases he
      have Hq24x39 := Hq24x36.below hb
      have Eq24x40 := Eq24x37.below hb
      clear hb
      refine ⟨Hq24x39, ?_⟩
      simp only [Act.put, sT, sS, sZ]
      exact F_to (by kernel_rfl) (by kernel_rfl) (Jq24_3 _ _ ⟨gjq24_4_0, rfl, Hq24x39, Eq24x40, by omega, by omega, by omega⟩)
    intro Jq24_4
    refine F_have 6 #[true, true, true, true, true, false, true, false, false, false, false, true, false] (fun a W => ∃ gjq24_5_0, a = { tmps := #[.string ⟨(m ++ [b]).toArray⟩, undef, .pointer (some ⟨w.heap.size, 0, none⟩), .pointer (some ⟨g8, 0, none⟩), .int .u64 (0 : Int), .pointer (some ⟨g20, 0, none⟩), .pointer (some ⟨gjq24_5_0, 0, none⟩), .string ⟨(m ++ [b]).toArray⟩, .int .i64 (32 : Int), .bool false, undef, .string ⟨(m ++ [b]).toArray⟩, .agg Nn, .pointer (some ⟨g8, 3, none⟩), .int .u64 (d3 : Int), .int .u64 (0 : Int), .pointer (some ⟨g8, 3, none⟩), .int .u64 (d3 : Int), .int .u64 (s3 : Int), .int .u64 (r3 : Int), .pointer (some ⟨g8, 3, none⟩), .agg Yn, .agg NN4, .bool true, .bool false, undef, .agg Yn, .agg Yn, .agg NN6, .agg NN6, .agg NN9, .agg NN10, .agg NN14, .agg NN6, undef, .agg NN9, undef, undef, undef, undef, undef, undef, undef, undef, undef, undef, undef, undef, undef, undef, undef, undef, undef, undef, undef, undef, undef, undef, undef, undef, undef, undef, undef, undef, undef, undef], defers := [] } ∧ Kt w [(g20, NN6, 24), (w.heap.size, ZR1, 31)] W ∧ Kt w [(gjq24_5_0, ZR12, 60)] W ∧ w.heap.size ≤ gjq24_5_0 ∧ gjq24_5_0 ≠ g20 ∧ gjq24_5_0 ≠ w.heap.size) ?_ ?_
    · rintro a wq24x41 ⟨gjq24_5_0, rfl, Hq24x42, Eq24x43, fJq24_5_0, fJq24_5_1, fJq24_5_2⟩
      refine rdy [5] (rcl (some 34) 34 #[.tmp 32, .tmp 33] #[24, 24] #[.agg NN14, .agg NN6] en34 _ (HC16.out _) ?_ ReadyF.nil)
      rintro v wq24x44 ⟨he, hb⟩
      cases he
      have Hq24x45 := Hq24x42.below hb
      have Eq24x46 := Eq24x43.below hb
      clear hb
      refine ⟨Hq24x45, ?_⟩
      simp only [Act.put, sT, sS, sZ]
      exact F_to (by kernel_rfl) (by kernel_rfl) (Jq24_4 _ _ ⟨gjq24_5_0, rfl, Hq24x45, Eq24x46, by omega, by omega, by omega⟩)
    intro Jq24_5
    refine F_have 7 #[true, true, true, false, true, false, true, false, false, false, false, true, false] (fun a W => ∃ gjq24_6_0, a = { tmps := #[.string ⟨(m ++ [b]).toArray⟩, undef, .pointer (some ⟨w.heap.size, 0, none⟩), .pointer (some ⟨g8, 0, none⟩), .int .u64 (0 : Int), .pointer (some ⟨g20, 0, none⟩), .pointer (some ⟨gjq24_6_0, 0, none⟩), .string ⟨(m ++ [b]).toArray⟩, .int .i64 (32 : Int), .bool false, undef, .string ⟨(m ++ [b]).toArray⟩, .agg Nn, .pointer (some ⟨g8, 3, none⟩), .int .u64 (d3 : Int), .int .u64 (0 : Int), .pointer (some ⟨g8, 3, none⟩), .int .u64 (d3 : Int), .int .u64 (s3 : Int), .int .u64 (r3 : Int), .pointer (some ⟨g8, 3, none⟩), .agg Yn, .agg NN4, .bool true, .bool false, undef, .agg Yn, .agg Yn, .agg NN6, .agg NN6, .agg NN9, .agg NN10, undef, .agg NN6, undef, .agg NN9, undef, undef, undef, undef, undef, undef, undef, undef, undef, undef, undef, undef, undef, undef, undef, undef, undef, undef, undef, undef, undef, undef, undef, undef, undef, undef, undef, undef, undef, undef], defers := [] } ∧ Kt w [(g20, NN6, 24), (w.heap.size, ZR1, 31)] W ∧ Kt w [(gjq24_6_0, ZR12, 60)] W ∧ w.heap.size ≤ gjq24_6_0 ∧ gjq24_6_0 ≠ g20 ∧ gjq24_6_0 ≠ w.heap.size) ?_ ?_
    · rintro a wq24x47 ⟨gjq24_6_0, rfl, Hq24x48, Eq24x49, fJq24_6_0, fJq24_6_1, fJq24_6_2⟩
      refine rdy [3] (rcl (some 32) 38 #[] #[] #[] en38 _ (HC13.out _) ?_ ReadyF.nil)
      rintro v wq24x50 ⟨he, hb⟩
      cases he
      have Hq24x51 := Hq24x48.below hb
      have Eq24x52 := Eq24x49.below hb
      clear hb
      refine ⟨Hq24x51, ?_⟩
      simp only [Act.put, sT, sS, sZ]
      exact F_to (by kernel_rfl) (by kernel_rfl) (Jq24_5 _ _ ⟨gjq24_6_0, rfl, Hq24x51, Eq24x52, by omega, by omega, by omega⟩)
    intro Jq24_6
    refine tkG 0 (some 29) (.load 24 (.tmp 5)) none (.agg NN6) (fun o ho w2 hw => exec_load_of _ 24 (.tmp 5) ho ⟨g20, 0, none⟩ rfl _ (loadA24 INN6 (hw.get (g20) NN6 24 (by simp)))) HDq24x1 ?_
    simp only [Act.put, sT, sS, sZ]
    refine tkG 1 (some 30) (.build 24 #[(0, .const (.int .u64 1))]) none (.agg NN9) (fun o ho w2 hw => exec_buildN _ 24 #[(0, .const (.int .u64 1))] ho #[(0, .int .u64 1)] (by simp [Act.eval]) _ (BF8 _)) HDq24x1 ?_
    simp only [Act.put, sT, sS, sZ]
    refine tkG 4 (some 33) (.load 24 (.tmp 5)) none (.agg NN6) (fun o ho w2 hw => exec_load_of _ 24 (.tmp 5) ho ⟨g20, 0, none⟩ rfl _ (loadA24 INN6 (hw.get (g20) NN6 24 (by simp)))) HDq24x1 ?_
    simp only [Act.put, sT, sS, sZ]
    refine tkG 6 (some 35) (.build 24 #[(0, .const (.int .u64 1))]) none (.agg NN9) (fun o ho w2 hw => exec_buildN _ 24 #[(0, .const (.int .u64 1))] ho #[(0, .int .u64 1)] (by simp [Act.eval]) _ (BF8 _)) HDq24x1 ?_
    simp only [Act.put, sT, sS, sZ]
    refine rdy [2, 11] (rcl (some 31) 24 #[.tmp 29, .tmp 30] #[24, 24] #[.agg NN6, .agg NN9] en24 _ (HC11.out _) ?_ (ral 6 60 HZ60 (HDq24x1.alloc _) ?_ ReadyF.nil))
    · rintro v wq24x53 ⟨he, hb⟩
      cases he
      have Hq24x54 := HDq24x1.below hb
      clear hb
      refine ⟨Hq24x54, ?_⟩
      simp only [Act.put, sT, sS, sZ]
      refine rdy [3, 11] (rcl (some 32) 38 #[] #[] #[] en38 _ (HC13.out _) ?_ (ral 6 60 HZ60 (Hq24x54.alloc _) ?_ ReadyF.nil))
      · rintro v wq24x55 ⟨he, hb⟩
        cases he
        have Hq24x56 := Hq24x54.below hb
        clear hb
        refine ⟨Hq24x56, ?_⟩
        simp only [Act.put, sT, sS, sZ]
        refine rdy [5, 11] (rcl (some 34) 34 #[.tmp 32, .tmp 33] #[24, 24] #[.agg NN14, .agg NN6] en34 _ (HC16.out _) ?_ (ral 6 60 HZ60 (Hq24x56.alloc _) ?_ ReadyF.nil))
        · rintro v wq24x57 ⟨he, hb⟩
          cases he
          have Hq24x58 := Hq24x56.below hb
          clear hb
          refine ⟨Hq24x58, ?_⟩
          simp only [Act.put, sT, sS, sZ]
          refine rdy [7, 11] (rcl (some 36) 37 #[.tmp 34, .tmp 35] #[24, 24] #[.agg NN15, .agg NN9] en37 _ (HC18.out _) ?_ (ral 6 60 HZ60 (Hq24x58.alloc _) ?_ ReadyF.nil))
          · rintro v wq24x59 ⟨he, hb⟩
            cases he
            have Hq24x60 := Hq24x58.below hb
            clear hb
            refine ⟨Hq24x60, ?_⟩
            simp only [Act.put, sT, sS, sZ]
            refine rdy [8, 11] (rcl (some 37) 36 #[.tmp 36] #[24] #[.agg NN17] en36 _ (HC20.out _) ?_ (ral 6 60 HZ60 (Hq24x60.alloc _) ?_ ReadyF.nil))
            · rintro v wq24x61 ⟨he, hb⟩
              cases he
              have Hq24x62 := Hq24x60.below hb
              clear hb
              refine ⟨Hq24x62, ?_⟩
              simp only [Act.put, sT, sS, sZ]
              refine rdy [9, 11] (rcl (some 38) 34 #[.tmp 31, .tmp 37] #[24, 24] #[.agg NN10, .agg NN19] en34 _ (HC22.out _) ?_ (ral 6 60 HZ60 (Hq24x62.alloc _) ?_ ReadyF.nil))
              · rintro v wq24x63 ⟨he, hb⟩
                cases he
                have Hq24x64 := Hq24x62.below hb
                clear hb
                refine ⟨Hq24x64, ?_⟩
                simp only [Act.put, sT, sS, sZ]
                refine rdy [10, 11] (rcl (some 39) 35 #[.tmp 38] #[24] #[.agg NN21] en35 _ (HC25.out _) ?_ (ral 6 60 HZ60 (Hq24x64.alloc _) ?_ ReadyF.nil))
                · rintro v wq24x65 ⟨he, hb⟩
                  cases he
                  have Hq24x66 := Hq24x64.below hb
                  clear hb
                  refine ⟨Hq24x66, ?_⟩
                  simp only [Act.put, sT, sS, sZ]
                  refine rdy [11] (ral 6 60 HZ60 (Hq24x66.alloc _) ?_ ReadyF.nil)
                  have l0wq24x67 := Hq24x66.lt (g20) NN6 24 (by simp)
                  have l1wq24x67 := Hq24x66.lt (w.heap.size) ZR1 31 (by simp)
                  have bwq24x67 := Hq24x66.1.size
                  have Hq24x68 := Hq24x66.alloc (.cells ZR12 60)
                  have Eq24x69 := (Hq24x66.sub (m := []) (fun p hp => by cases hp)).new ZR12 60
                  simp only [Act.put, sT, sS, sZ]
                  obtain ⟨wq24x67, hwq24x67⟩ : ∃ W, W = wq24x65.alloc (.cells ZR12 60) := ⟨_, rfl⟩
                  rw [← hwq24x67] at Hq24x68 Eq24x69 ⊢
                  clear hwq24x67
                  exact F_to (by kernel_rfl) (by kernel_rfl) (Jq24_0 _ _ ⟨wq24x65.heap.size, rfl, Hq24x68, Eq24x69, by omega, by omega, by omega⟩)
                · have l0wq24x70 := Hq24x64.lt (g20) NN6 24 (by simp)
                  have l1wq24x70 := Hq24x64.lt (w.heap.size) ZR1 31 (by simp)
                  have bwq24x70 := Hq24x64.1.size
                  have Hq24x71 := Hq24x64.alloc (.cells ZR12 60)
                  have Eq24x72 := (Hq24x64.sub (m := []) (fun p hp => by cases hp)).new ZR12 60
                  simp only [Act.put, sT, sS, sZ]
                  obtain ⟨wq24x70, hwq24x70⟩ : ∃ W, W = wq24x63.alloc (.cells ZR12 60) := ⟨_, rfl⟩
                  rw [← hwq24x70] at Hq24x71 Eq24x72 ⊢
                  clear hwq24x70
                  exact F_to (by kernel_rfl) (by kernel_rfl) (Jq24_1 _ _ ⟨wq24x63.heap.size, rfl, Hq24x71, Eq24x72, by omega, by omega, by omega⟩)
              · have l0wq24x73 := Hq24x62.lt (g20) NN6 24 (by simp)
                have l1wq24x73 := Hq24x62.lt (w.heap.size) ZR1 31 (by simp)
                have bwq24x73 := Hq24x62.1.size
                have Hq24x74 := Hq24x62.alloc (.cells ZR12 60)
                have Eq24x75 := (Hq24x62.sub (m := []) (fun p hp => by cases hp)).new ZR12 60
                simp only [Act.put, sT, sS, sZ]
                obtain ⟨wq24x73, hwq24x73⟩ : ∃ W, W = wq24x61.alloc (.cells ZR12 60) := ⟨_, rfl⟩
                rw [← hwq24x73] at Hq24x74 Eq24x75 ⊢
                clear hwq24x73
                exact F_to (by kernel_rfl) (by kernel_rfl) (Jq24_2 _ _ ⟨wq24x61.heap.size, rfl, Hq24x74, Eq24x75, by omega, by omega, by omega⟩)
            · have l0wq24x76 := Hq24x60.lt (g20) NN6 24 (by simp)
              have l1wq24x76 := Hq24x60.lt (w.heap.size) ZR1 31 (by simp)
              have bwq24x76 := Hq24x60.1.size
              have Hq24x77 := Hq24x60.alloc (.cells ZR12 60)
              have Eq24x78 := (Hq24x60.sub (m := []) (fun p hp => by cases hp)).new ZR12 60
              simp only [Act.put, sT, sS, sZ]
              obtain ⟨wq24x76, hwq24x76⟩ : ∃ W, W = wq24x59.alloc (.cells ZR12 60) := ⟨_, rfl⟩
              rw [← hwq24x76] at Hq24x77 Eq24x78 ⊢
              clear hwq24x76
              exact F_to (by kernel_rfl) (by kernel_rfl) (Jq24_3 _ _ ⟨wq24x59.heap.size, rfl, Hq24x77, Eq24x78, by omega, by omega, by omega⟩)
          · have l0wq24x79 := Hq24x58.lt (g20) NN6 24 (by simp)
            have l1wq24x79 := Hq24x58.lt (w.heap.size) ZR1 31 (by simp)
            have bwq24x79 := Hq24x58.1.size
            have Hq24x80 := Hq24x58.alloc (.cells ZR12 60)
            have Eq24x81 := (Hq24x58.sub (m := []) (fun p hp => by cases hp)).new ZR12 60
            simp only [Act.put, sT, sS, sZ]
            obtain ⟨wq24x79, hwq24x79⟩ : ∃ W, W = wq24x57.alloc (.cells ZR12 60) := ⟨_, rfl⟩
            rw [← hwq24x79] at Hq24x80 Eq24x81 ⊢
            clear hwq24x79
            exact F_to (by kernel_rfl) (by kernel_rfl) (Jq24_4 _ _ ⟨wq24x57.heap.size, rfl, Hq24x80, Eq24x81, by omega, by omega, by omega⟩)
        · have l0wq24x82 := Hq24x56.lt (g20) NN6 24 (by simp)
          have l1wq24x82 := Hq24x56.lt (w.heap.size) ZR1 31 (by simp)
          have bwq24x82 := Hq24x56.1.size
          have Hq24x83 := Hq24x56.alloc (.cells ZR12 60)
          have Eq24x84 := (Hq24x56.sub (m := []) (fun p hp => by cases hp)).new ZR12 60
          simp only [Act.put, sT, sS, sZ]
          obtain ⟨wq24x82, hwq24x82⟩ : ∃ W, W = wq24x55.alloc (.cells ZR12 60) := ⟨_, rfl⟩
          rw [← hwq24x82] at Hq24x83 Eq24x84 ⊢
          clear hwq24x82
          exact F_to (by kernel_rfl) (by kernel_rfl) (Jq24_5 _ _ ⟨wq24x55.heap.size, rfl, Hq24x83, Eq24x84, by omega, by omega, by omega⟩)
      · have l0wq24x85 := Hq24x54.lt (g20) NN6 24 (by simp)
        have l1wq24x85 := Hq24x54.lt (w.heap.size) ZR1 31 (by simp)
        have bwq24x85 := Hq24x54.1.size
        have Hq24x86 := Hq24x54.alloc (.cells ZR12 60)
        have Eq24x87 := (Hq24x54.sub (m := []) (fun p hp => by cases hp)).new ZR12 60
        simp only [Act.put, sT, sS, sZ]
        obtain ⟨wq24x85, hwq24x85⟩ : ∃ W, W = wq24x53.alloc (.cells ZR12 60) := ⟨_, rfl⟩
        rw [← hwq24x85] at Hq24x86 Eq24x87 ⊢
        clear hwq24x85
        exact F_to (by kernel_rfl) (by kernel_rfl) (Jq24_6 _ _ ⟨wq24x53.heap.size, rfl, Hq24x86, Eq24x87, by omega, by omega, by omega⟩)
    · have l0wq24x88 := HDq24x1.lt (g20) NN6 24 (by simp)
      have l1wq24x88 := HDq24x1.lt (w.heap.size) ZR1 31 (by simp)
      have bwq24x88 := HDq24x1.1.size
      have Hq24x89 := HDq24x1.alloc (.cells ZR12 60)
      have Eq24x90 := (HDq24x1.sub (m := []) (fun p hp => by cases hp)).new ZR12 60
      simp only [Act.put, sT, sS, sZ]
      obtain ⟨wq24x88, hwq24x88⟩ : ∃ W, W = wdq24x2.alloc (.cells ZR12 60) := ⟨_, rfl⟩
      rw [← hwq24x88] at Hq24x89 Eq24x90 ⊢
      clear hwq24x88
      refine rdy [2] (rcl (some 31) 24 #[.tmp 29, .tmp 30] #[24, 24] #[.agg NN6, .agg NN9] en24 _ (HC11.out _) ?_ ReadyF.nil)
      rintro v wq24x91 ⟨he, hb⟩
      cases he
      have Hq24x92 := Hq24x89.below hb
      have Eq24x93 := Eq24x90.below hb
      clear hb
      refine ⟨Hq24x92, ?_⟩
      simp only [Act.put, sT, sS, sZ]
      exact F_to (by kernel_rfl) (by kernel_rfl) (Jq24_6 _ _ ⟨wdq24x2.heap.size, rfl, Hq24x92, Eq24x93, by omega, by omega, by omega⟩)
  rintro a' w25 ⟨gq24s0, rfl, hk, e27, e28, e29⟩
  have HS26 := Lib.hid hk
  clear hk HS23
  have cb4 := cell_part (HS26.out.get (gq24s0) GT24 60 (by simp)) 4 _ CGT24_4
  go_upto_region 11 with fail
  clear cb4
  have HS30 : Hid (Kt w [(w.heap.size, ZR1, 31)] w25) := Lib.hid (HS26.out.sub (fun p hp => by simp at hp; subst hp; simp))
  clear HS26
  go_upto_region 11 with fail
  refine wp_region_list ?_
  refine wpList_run rfl (.agg ZR1) (exec_buildN _ 31 #[] rfl #[] (by simp [Act.eval]) _ (BF26 _)) ?_
  simp only [Act.put, sT, sS, sZ]
  refine wpList_run0 rfl (exec_storeT31 _ (.tmp 2) (.tmp 53) rfl (w.heap.size) rfl ZR1 IZR1 rfl ZR1 31 (HS30.out.get (w.heap.size) ZR1 31 (by simp)) SZZR1) ?_
  simp only [Act.put, sT, sS, sZ]
  have HS32 : Hid (Kt w [(w.heap.size, ZR1, 31)] (w25.setRow (w.heap.size) ZR1)) := Lib.hid (HS30.out.set (w.heap.size) ZR1 ZR1 31 (HS30.out.get (w.heap.size) ZR1 31 (by simp)) (by omega) (fun p hp => by simp at hp; subst hp; exact .inl rfl))
  clear HS30
  generalize w25.setRow (w.heap.size) ZR1 = w31 at *
  refine wpList_nil ?_
  go_wp2
  exact bodyPost_ret (results_cell rfl _ _ _ ⟨w.heap.size, 0, none⟩ rfl _ (loadT31 IZR1 (HS32.out.get (w.heap.size) ZR1 31 (by simp)))) rfl ⟨rfl, HS32.out.1⟩
set_option maxRecDepth 100000 in
set_option maxHeartbeats 2000000 in
theorem rfrom_c1 (m : List UInt8) (b c : UInt8) (hm : m.length = 31) (hcb : c.toNat = b.toNat % 128) (y : Nat) (hy : y = leVal m + c.toNat * 256 ^ 31) (hyp : y < pp) (hth : (rootF (fromU y)).2 = false) (hq : ¬ b.toNat < 128) (w : World) :
    Calls Tryd.prog 12 #[.string ⟨(m ++ [b]).toArray⟩] w fun e w' => e = .returned (.agg (spotV (fun _ => 0) false)) ∧ Below w.heap.size w w' := by
  obtain ⟨n, hn0⟩ : ∃ n, n = leVal m + b.toNat * 256 ^ 31 := ⟨_, rfl⟩
  have hsz := len31 b hm
  have hv0 : leVal (m ++ [b]) = n := by rw [leVal_snoc, hm, hn0]
  have hn : n < 115792089237316195423570985008687907853269984665640564039457584007913129639936 := by
    have h := leVal_lt (m ++ [b])
    rw [hsz, hv0] at h
    exact h
  have HN := Lib.hid (number_any ⟨(m ++ [b]).toArray⟩ hsz)
  rw [show leVal (⟨(m ++ [b]).toArray⟩ : ByteArray).data.toList = n from hv0] at HN
  have hmod : n % hb = y := by rw [hn0, split_mod _ _ (leVal_31 m hm), hy, hcb]
  have hdiv : n / hb = 1 := by
    rw [hn0, split_div _ _ (leVal_31 m hm)]
    have := b.toNat_lt
    omega
  have hyn : y ≤ n := by rw [← hmod]; exact Nat.mod_le _ _
  have hset0 := cut_set n hn
  have htop := dig3_top n hn
  rw [hmod] at hset0
  rw [hdiv] at htop
  have hd64 := dig_lt n 3
  have hg3 := num_get n 3 (by decide)
  obtain ⟨d3, hd3⟩ : ∃ d3, d3 = dig n 3 := ⟨_, rfl⟩
  rw [← hd3] at hset0 htop hd64 hg3
  obtain ⟨r3, hr30⟩ : ∃ r3, r3 = d3 % 9223372036854775808 := ⟨_, rfl⟩
  obtain ⟨s3, hs30⟩ : ∃ s3, s3 = r3 * 2 := ⟨_, rfl⟩
  have h63 : Hid ((d3 : Int) / 2 ^ 63 = ((1 : Nat) : Int)) := Lib.hid (by show (d3 : Int) / 9223372036854775808 = _; omega)
  have hs3 : Hid ((d3 : Int) * 2 % 18446744073709551616 = (s3 : Int)) := Lib.hid (by omega)
  have hr3 : Hid ((s3 : Int) / 2 = (r3 : Int)) := Lib.hid (by omega)
  rw [← hr30] at hset0
  have hlen : Hid ((⟨(m ++ [b]).toArray⟩ : ByteArray).size = 32) := Lib.hid hsz
  have hnb : Hid (false = !(((32 : Nat) : Int) == 32)) := Lib.hid (by decide)
  have HC3 := Lib.hid (prime_any)
  have HC5 := Lib.hid (less_any (y) (pp) (Nat.lt_of_le_of_lt hyn hn) pp_b4)
  rw [show decide (y < pp) = true from decide_eq_true hyp] at HC5
  have HC7 := Lib.hid (rmulf_any (y) (y) (Nat.lt_of_le_of_lt hyn hn) (Nat.lt_of_le_of_lt hyn hn))
  have HC11 := Lib.hid (rsub_any (mulF (y) (y)) (1) (pp_lt (mulF_lt _ _)) (by decide))
  have HC13 := Lib.hid (rd_any)
  have HC16 := Lib.hid (rmulf_any (dN) (mulF (y) (y)) dN_b4 (pp_lt (mulF_lt _ _)))
  have HC18 := Lib.hid (radd_any (mulF (dN) (mulF (y) (y))) (1) (pp_lt (mulF_lt _ _)) (by decide))
  have HC20 := Lib.hid (rinv_any (addF (mulF (dN) (mulF (y) (y))) (1)) (pp_lt (addF_lt _ _)))
  have HC22 := Lib.hid (rmulf_any (subF (mulF (y) (y)) (1)) (invF (addF (mulF (dN) (mulF (y) (y))) (1))) (pp_lt (subF_lt _ _)) (pp_lt (invF_lt _)))
  rw [(show mulF (subF (mulF (y) (y)) (1)) (invF (addF (mulF (dN) (mulF (y) (y))) (1))) = fromU (y) from rfl)] at HC22
  have HC25 := Lib.hid (rroot_got (fromU (y)) (pp_lt (mulF_lt _ _)))
  rw [hth] at HC25
  obtain ⟨Nn, hNn⟩ : ∃ zz9, Hid (zz9 = num (n)) := ⟨_, Lib.hid rfl⟩
  have INn : IsNum Nn := by rw [hNn.out]; exact isNum _
  obtain ⟨Yn, hYn⟩ : ∃ zz9, Hid (zz9 = num (y)) := ⟨_, Lib.hid rfl⟩
  have IYn : IsNum Yn := by rw [hYn.out]; exact isNum _
  obtain ⟨ZR1, hZR1⟩ : ∃ zz9, Hid (zz9 = spotV (fun _ => 0) false) := ⟨_, Lib.hid rfl⟩
  have SZZR1 : ZR1.size = 9 := by rw [hZR1.out]; rfl
  obtain ⟨NN2, hNN2⟩ : ∃ zz9, Hid (zz9 = num (0)) := ⟨_, Lib.hid rfl⟩
  have INN2 : IsNum NN2 := by rw [hNN2.out]; exact isNum _
  obtain ⟨NN4, hNN4⟩ : ∃ zz9, Hid (zz9 = num (pp)) := ⟨_, Lib.hid rfl⟩
  have INN4 : IsNum NN4 := by rw [hNN4.out]; exact isNum _
  obtain ⟨NN6, hNN6⟩ : ∃ zz9, Hid (zz9 = num (mulF (y) (y))) := ⟨_, Lib.hid rfl⟩
  have INN6 : IsNum NN6 := by rw [hNN6.out]; exact isNum _
  obtain ⟨NN9, hNN9⟩ : ∃ zz9, Hid (zz9 = num (1)) := ⟨_, Lib.hid rfl⟩
  have INN9 : IsNum NN9 := by rw [hNN9.out]; exact isNum _
  obtain ⟨NN10, hNN10⟩ : ∃ zz9, Hid (zz9 = num (subF (mulF (y) (y)) (1))) := ⟨_, Lib.hid rfl⟩
  have INN10 : IsNum NN10 := by rw [hNN10.out]; exact isNum _
  obtain ⟨ZR12, hZR12⟩ : ∃ zz9, Hid (zz9 = gotV (fun _ => 0) false) := ⟨_, Lib.hid rfl⟩
  have SZZR12 : ZR12.size = 5 := by rw [hZR12.out]; rfl
  obtain ⟨NN14, hNN14⟩ : ∃ zz9, Hid (zz9 = num (dN)) := ⟨_, Lib.hid rfl⟩
  have INN14 : IsNum NN14 := by rw [hNN14.out]; exact isNum _
  obtain ⟨NN15, hNN15⟩ : ∃ zz9, Hid (zz9 = num (mulF (dN) (mulF (y) (y)))) := ⟨_, Lib.hid rfl⟩
  have INN15 : IsNum NN15 := by rw [hNN15.out]; exact isNum _
  obtain ⟨NN17, hNN17⟩ : ∃ zz9, Hid (zz9 = num (addF (mulF (dN) (mulF (y) (y))) (1))) := ⟨_, Lib.hid rfl⟩
  have INN17 : IsNum NN17 := by rw [hNN17.out]; exact isNum _
  obtain ⟨NN19, hNN19⟩ : ∃ zz9, Hid (zz9 = num (invF (addF (mulF (dN) (mulF (y) (y))) (1)))) := ⟨_, Lib.hid rfl⟩
  have INN19 : IsNum NN19 := by rw [hNN19.out]; exact isNum _
  obtain ⟨NN21, hNN21⟩ : ∃ zz9, Hid (zz9 = num (fromU (y))) := ⟨_, Lib.hid rfl⟩
  have INN21 : IsNum NN21 := by rw [hNN21.out]; exact isNum _
  obtain ⟨NN23, hNN23⟩ : ∃ zz9, Hid (zz9 = num ((rootF (fromU (y))).1)) := ⟨_, Lib.hid rfl⟩
  have INN23 : IsNum NN23 := by rw [hNN23.out]; exact isNum _
  obtain ⟨GT24, hGT24⟩ : ∃ zz9, Hid (zz9 = NN23 ++ #[.bool false]) := ⟨_, Lib.hid rfl⟩
  have IGT24 : IsGot GT24 := by rw [hGT24.out]; exact got_of INN23 false
  have SGT24_0 : Part GT24 0 NN23 := by rw [hGT24.out]; exact part_left 0 (part_all NN23) _
  have CGT24_4 : GT24[4]? = some (.bool false) := by rw [hGT24.out]; exact got_b INN23 false
  have HZ31 : ∀ w, (zeroValue 31).run Tryd.prog w = .ok (.agg ZR1) w := by rw [hZR1.out]; exact zeroT31
  have HZ24 : ∀ w, (zeroValue 24).run Tryd.prog w = .ok (.agg NN2) w := by rw [hNN2.out]; exact zero_run
  have SZNN2 := INN2.size
  have HZ60 : ∀ w, (zeroValue 60).run Tryd.prog w = .ok (.agg ZR12) w := by rw [hZR12.out]; exact zero29
  have BF8 : ∀ w, (Instr.build 24 #[(0, .int .u64 1)]).run Tryd.prog w = .ok (.agg NN9) w := by rw [hNN9.out]; exact build_run 1 (by decide)
  have BF26 : ∀ w, (Instr.build 31 #[]).run Tryd.prog w = .ok (.agg ZR1) w := by rw [hZR1.out]; exact bs_none
  have IZR1 : IsSpot ZR1 := by rw [hZR1.out]; exact ⟨_, _, rfl⟩
  try simp only [← hNn.out, ← hYn.out, ← hNN2.out, ← hNN4.out, ← hNN6.out, ← hNN9.out, ← hNN10.out, ← hNN14.out, ← hNN15.out, ← hNN17.out, ← hNN19.out, ← hNN21.out, ← hNN23.out] at HC3 HC5 HC7 HC11 HC13 HC16 HC18 HC20 HC22 HC25 HN hset0 hg3 ⊢
  try simp only [← hZR1.out] at HC3 HC5 HC7 HC11 HC13 HC16 HC18 HC20 HC22 HC25 HN hset0 hg3 ⊢
  try simp only [← hZR12.out] at HC3 HC5 HC7 HC11 HC13 HC16 HC18 HC20 HC22 HC25 HN hset0 hg3 ⊢
  try simp only [← hGT24.out] at HC3 HC5 HC7 HC11 HC13 HC16 HC18 HC20 HC22 HC25 HN hset0 hg3 ⊢
  clear hNn hYn hZR1 hNN2 hNN4 hNN6 hNN9 hNN10 hZR12 hNN14 hNN15 hNN17 hNN19 hNN21 hNN23 hGT24 hcb hy hn0 hsz hv0 hn hmod hdiv hyn htop hd64 hd3 hr30 hs30 hyp hq hth
  have hset := Lib.hid hset0
  have CNn_3 := hg3
  clear hset0 hg3
  go_enter Tryd.func12, Tryd.ntmps12
  have HS : Hid (Kt w [] w) := Lib.hid (Kt.nil w)
  go_upto_region 0 with fail
  refine wp_region_list ?_
  refine wpList_run rfl _ (exec_alloc_agg _ 31 rfl _ (HZ31 _)) ?_
  simp only [Act.put, sT, sS, sZ]
  have bg3 := HS.out.1.size
  have HS2 := Lib.hid (HS.out.new ZR1 31)
  clear HS
  generalize w.alloc (.cells ZR1 31) = w1 at *
  refine wpList_nil ?_
  go_upto_region 1 with fail
  refine wp_region_list ?_
  refine wpList_run rfl (.string ⟨(m ++ [b]).toArray⟩) (exec_move (.tmp 0) rfl _ rfl _) ?_
  simp only [Act.put, sT, sS, sZ]
  refine wpList_run rfl (.int .i64 (32 : Int)) (exec_len9 (.tmp 7) rfl ⟨(m ++ [b]).toArray⟩ 32 hlen.out rfl _) ?_
  simp only [Act.put, sT, sS, sZ]
  refine wpList_run rfl (.bool false) (exec_neq32 (.tmp 8) rfl rfl 32 false hnb.out rfl _) ?_
  simp only [Act.put, sT, sS, sZ]
  refine wpList_nil ?_
  go_upto_region 3 with fail
  refine wp_region_list ?_
  refine wpList_run rfl (.string ⟨(m ++ [b]).toArray⟩) (exec_move (.tmp 0) rfl _ rfl _) ?_
  simp only [Act.put, sT, sS, sZ]
  refine wpList_callF rfl 31 #[.tmp 11] #[9] rfl #[.string ⟨(m ++ [b]).toArray⟩] en31 (HN.out _) ?_
  rintro v w4 ⟨he, hb⟩
  cases he
  have HS5 := Lib.hid (HS2.out.below hb)
  clear hb HS2
  simp only [Act.put, sT, sS, sZ]
  refine wpList_run rfl _ (exec_alloc_agg _ 24 rfl _ (HZ24 _)) ?_
  simp only [Act.put, sT, sS, sZ]
  have lg8_0 := HS5.out.lt (w.heap.size) ZR1 31 (by simp)
  have bg8 := HS5.out.1.size
  have HS7 := Lib.hid (HS5.out.new NN2 24)
  clear HS5
  generalize w4.alloc (.cells NN2 24) = w6 at *
  generalize w4.heap.size = g8 at *
  refine wpList_run0 rfl (exec_store24 _ (.tmp 3) (.tmp 12) rfl (g8) rfl Nn INn rfl NN2 24 (HS7.out.get (g8) NN2 24 (by simp)) SZNN2) ?_
  simp only [Act.put, sT, sS, sZ]
  have HS10 : Hid (Kt w [(g8, Nn, 24), (w.heap.size, ZR1, 31)] (w6.setRow (g8) Nn)) := Lib.hid (HS7.out.set (g8) Nn NN2 24 (HS7.out.get (g8) NN2 24 (by simp)) (by omega) (fun p hp => by simp at hp; rcases hp with rfl | rfl <;> first | exact .inl rfl | exact .inr ⟨by simp, by simp only; omega⟩))
  clear HS7
  generalize w6.setRow (g8) Nn = w9 at *
  refine wpList_nil ?_
  go_upto_region 4 with fail
  refine wp_region_list ?_
  refine wpList_run rfl (.pointer (some ⟨g8, 3, none⟩)) (exec_indexAddr24 (.tmp 3) (.const (.int .i64 3)) rfl (g8) 3 rfl rfl (by decide) _) ?_
  simp only [Act.put, sT, sS, sZ]
  refine wpList_run rfl (.int .u64 (d3 : Int)) (exec_load_one _ 22 (.tmp 13) rfl ⟨g8, 3, none⟩ rfl _ (cell_part (HS10.out.get (g8) Nn 24 (by simp)) 3 _ CNn_3) _ Tryd.underlying22 rfl) ?_
  simp only [Act.put, sT, sS, sZ]
  refine wpList_run rfl (.int .u64 (1 : Int)) (exec_shr63 (.tmp 14) rfl rfl d3 1 h63.out rfl _) ?_
  simp only [Act.put, sT, sS, sZ]
  refine wpList_run rfl (.int .u64 (1 : Int)) (exec_assign (.tmp 15) rfl _ rfl _) ?_
  simp only [Act.put, sT, sS, sZ]
  refine wpList_nil ?_
  go_upto_region 5 with fail
  refine wp_region_list ?_
  refine wpList_run rfl (.pointer (some ⟨g8, 3, none⟩)) (exec_indexAddr24 (.tmp 3) (.const (.int .i64 3)) rfl (g8) 3 rfl rfl (by decide) _) ?_
  simp only [Act.put, sT, sS, sZ]
  refine wpList_run rfl (.int .u64 (d3 : Int)) (exec_load_one _ 22 (.tmp 16) rfl ⟨g8, 3, none⟩ rfl _ (cell_part (HS10.out.get (g8) Nn 24 (by simp)) 3 _ CNn_3) _ Tryd.underlying22 rfl) ?_
  simp only [Act.put, sT, sS, sZ]
  refine wpList_run rfl (.int .u64 (s3 : Int)) (exec_shl1 (.tmp 17) rfl rfl d3 s3 hs3.out rfl _) ?_
  simp only [Act.put, sT, sS, sZ]
  refine wpList_run rfl (.int .u64 (r3 : Int)) (exec_shr1 (.tmp 18) rfl rfl s3 r3 hr3.out rfl _) ?_
  simp only [Act.put, sT, sS, sZ]
  refine wpList_run rfl (.pointer (some ⟨g8, 3, none⟩)) (exec_indexAddr24 (.tmp 3) (.const (.int .i64 3)) rfl (g8) 3 rfl rfl (by decide) _) ?_
  simp only [Act.put, sT, sS, sZ]
  refine wpList_run0 rfl (exec_store22 _ (.tmp 20) (.tmp 19) rfl (g8) 3 rfl r3 rfl Nn Yn 24 (HS10.out.get (g8) Nn 24 (by simp)) CNn_3 hset.out) ?_
  simp only [Act.put, sT, sS, sZ]
  have HS12 : Hid (Kt w [(g8, Yn, 24), (w.heap.size, ZR1, 31)] (w9.setRow (g8) Yn)) := Lib.hid (HS10.out.set (g8) Yn Nn 24 (HS10.out.get (g8) Nn 24 (by simp)) (by omega) (fun p hp => by simp at hp; rcases hp with rfl | rfl <;> first | exact .inl rfl | exact .inr ⟨by simp, by simp only; omega⟩))
  clear HS10
  generalize w9.setRow (g8) Yn = w11 at *
  refine wpList_nil ?_
  go_upto_region 6 with fail
  refine wp_cut (fun a' W' => a' = { tmps := #[.string ⟨(m ++ [b]).toArray⟩, undef, .pointer (some ⟨w.heap.size, 0, none⟩), .pointer (some ⟨g8, 0, none⟩), .int .u64 (1 : Int), undef, undef, .string ⟨(m ++ [b]).toArray⟩, .int .i64 (32 : Int), .bool false, undef, .string ⟨(m ++ [b]).toArray⟩, .agg Nn, .pointer (some ⟨g8, 3, none⟩), .int .u64 (d3 : Int), .int .u64 (1 : Int), .pointer (some ⟨g8, 3, none⟩), .int .u64 (d3 : Int), .int .u64 (s3 : Int), .int .u64 (r3 : Int), .pointer (some ⟨g8, 3, none⟩), .agg Yn, .agg NN4, .bool true, .bool false, undef, undef, undef, undef, undef, undef, undef, undef, undef, undef, undef, undef, undef, undef, undef, undef, undef, undef, undef, undef, undef, undef, undef, undef, undef, undef, undef, undef, undef, undef, undef, undef, undef, undef, undef, undef, undef, undef, undef, undef, undef], defers := [] } ∧ Kt w [(g8, Yn, 24), (w.heap.size, ZR1, 31)] W') ?_ ?_
  · refine wp_region_any (by kernel_rfl) ?_
    change wpAny _ _ _ _ _ _ _ (World.drew _)
    have HDq13x1 := HS12.out.drew
    clear HS12
    generalize w11.drew = wdq13x2 at *
    refine any_of_F (S := Kt w [(g8, Yn, 24), (w.heap.size, ZR1, 31)]) (f := 1000) _ _ _ _ ?_
    refine tkG 0 (some 21) (.load 24 (.tmp 3)) none (.agg Yn) (fun o ho w2 hw => exec_load_of _ 24 (.tmp 3) ho ⟨g8, 0, none⟩ rfl _ (loadA24 IYn (hw.get (g8) Yn 24 (by simp)))) HDq13x1 ?_
    simp only [Act.put, sT, sS, sZ]
    refine rdy [1] (rcl (some 22) 33 #[] #[] #[] en33 _ (HC3.out _) ?_ ReadyF.nil)
    rintro v wq13x11 ⟨he, hb⟩
    cases he
    have Hq13x12 := HDq13x1.below hb
    clear hb
    refine ⟨Hq13x12, ?_⟩
    simp only [Act.put, sT, sS, sZ]
    refine rdy [2] (rcl (some 23) 32 #[.tmp 21, .tmp 22] #[24, 24] #[.agg Yn, .agg NN4] en32 _ (HC5.out _) ?_ ReadyF.nil)
    rintro v wq13x13 ⟨he, hb⟩
    cases he
    have Hq13x14 := Hq13x12.below hb
    clear hb
    refine ⟨Hq13x14, ?_⟩
    simp only [Act.put, sT, sS, sZ]
    refine tkG 3 (some 24) (.unOp .not 4 (.tmp 23)) none (.bool false) (fun o ho w2 hw => exec_notv (.tmp 23) ho _ rfl false rfl w2) Hq13x14 ?_
    simp only [Act.put, sT, sS, sZ]
    refine AnyF.done (by kernel_rfl) ?_ _
    refine nrm_intro ⟨rfl, Hq13x14.sub (fun p hp => by simp at hp; rcases hp with rfl | rfl <;> simp)⟩
  rintro a' w14 ⟨rfl, hk⟩
  have HS15 := Lib.hid hk
  clear hk HS12
  go_upto_region 8 with fail
  refine wp_region_list ?_
  refine wpList_run rfl (.agg Yn) (exec_load_of _ 24 (.tmp 3) rfl ⟨g8, 0, none⟩ rfl _ (loadA24 IYn (HS15.out.get (g8) Yn 24 (by simp)))) ?_
  simp only [Act.put, sT, sS, sZ]
  refine wpList_run rfl (.agg Yn) (exec_load_of _ 24 (.tmp 3) rfl ⟨g8, 0, none⟩ rfl _ (loadA24 IYn (HS15.out.get (g8) Yn 24 (by simp)))) ?_
  simp only [Act.put, sT, sS, sZ]
  refine wpList_callF rfl 34 #[.tmp 26, .tmp 27] #[24, 24] rfl #[.agg Yn, .agg Yn] en34 (HC7.out _) ?_
  rintro v w16 ⟨he, hb⟩
  cases he
  have HS17 := Lib.hid (HS15.out.below hb)
  clear hb HS15
  simp only [Act.put, sT, sS, sZ]
  refine wpList_run rfl _ (exec_alloc_agg _ 24 rfl _ (HZ24 _)) ?_
  simp only [Act.put, sT, sS, sZ]
  have lg20_0 := HS17.out.lt (g8) Yn 24 (by simp)
  have lg20_1 := HS17.out.lt (w.heap.size) ZR1 31 (by simp)
  have bg20 := HS17.out.1.size
  have HS19 := Lib.hid (HS17.out.new NN2 24)
  clear HS17
  generalize w16.alloc (.cells NN2 24) = w18 at *
  generalize w16.heap.size = g20 at *
  refine wpList_run0 rfl (exec_store24 _ (.tmp 5) (.tmp 28) rfl (g20) rfl NN6 INN6 rfl NN2 24 (HS19.out.get (g20) NN2 24 (by simp)) SZNN2) ?_
  simp only [Act.put, sT, sS, sZ]
  have HS22 : Hid (Kt w [(g20, NN6, 24), (g8, Yn, 24), (w.heap.size, ZR1, 31)] (w18.setRow (g20) NN6)) := Lib.hid (HS19.out.set (g20) NN6 NN2 24 (HS19.out.get (g20) NN2 24 (by simp)) (by omega) (fun p hp => by simp at hp; rcases hp with rfl | rfl | rfl <;> first | exact .inl rfl | exact .inr ⟨by simp, by simp only; omega⟩))
  clear HS19
  generalize w18.setRow (g20) NN6 = w21 at *
  refine wpList_nil ?_
  have HS23 : Hid (Kt w [(g20, NN6, 24), (w.heap.size, ZR1, 31)] w21) := Lib.hid (HS22.out.sub (fun p hp => by simp at hp; rcases hp with rfl | rfl <;> simp))
  clear HS22
  go_upto_region 9 with fail
  refine wp_cut (fun a' W' => ∃ gq24s0, a' = { tmps := #[.string ⟨(m ++ [b]).toArray⟩, undef, .pointer (some ⟨w.heap.size, 0, none⟩), .pointer (some ⟨g8, 0, none⟩), .int .u64 (1 : Int), .pointer (some ⟨g20, 0, none⟩), .pointer (some ⟨gq24s0, 0, none⟩), .string ⟨(m ++ [b]).toArray⟩, .int .i64 (32 : Int), .bool false, undef, .string ⟨(m ++ [b]).toArray⟩, .agg Nn, .pointer (some ⟨g8, 3, none⟩), .int .u64 (d3 : Int), .int .u64 (1 : Int), .pointer (some ⟨g8, 3, none⟩), .int .u64 (d3 : Int), .int .u64 (s3 : Int), .int .u64 (r3 : Int), .pointer (some ⟨g8, 3, none⟩), .agg Yn, .agg NN4, .bool true, .bool false, undef, .agg Yn, .agg Yn, .agg NN6, .agg NN6, .agg NN9, .agg NN10, .agg NN14, .agg NN6, .agg NN15, .agg NN9, .agg NN17, .agg NN19, .agg NN21, .agg GT24, undef, undef, undef, undef, undef, undef, undef, undef, undef, undef, undef, undef, undef, undef, undef, undef, undef, undef, undef, undef, undef, undef, undef, undef, undef, undef], defers := [] } ∧ Kt w [(w.heap.size, ZR1, 31), (gq24s0, GT24, 60)] W' ∧ w.heap.size ≤ gq24s0 ∧ gq24s0 ≠ g20 ∧ gq24s0 ≠ w.heap.size) ?_ ?_
  · refine wp_region_any (by kernel_rfl) ?_
    change wpAny _ _ _ _ _ _ _ (World.drew _)
    have HDq24x1 := HS23.out.drew
    clear HS23
    generalize w21.drew = wdq24x2 at *
    refine any_of_F (S := Kt w [(g20, NN6, 24), (w.heap.size, ZR1, 31)]) (f := 1000) _ _ _ _ ?_
    refine F_have 1 #[true, true, true, true, true, true, true, true, true, true, true, true, false] (fun a W => ∃ gjq24_0_0, a = { tmps := #[.string ⟨(m ++ [b]).toArray⟩, undef, .pointer (some ⟨w.heap.size, 0, none⟩), .pointer (some ⟨g8, 0, none⟩), .int .u64 (1 : Int), .pointer (some ⟨g20, 0, none⟩), .pointer (some ⟨gjq24_0_0, 0, none⟩), .string ⟨(m ++ [b]).toArray⟩, .int .i64 (32 : Int), .bool false, undef, .string ⟨(m ++ [b]).toArray⟩, .agg Nn, .pointer (some ⟨g8, 3, none⟩), .int .u64 (d3 : Int), .int .u64 (1 : Int), .pointer (some ⟨g8, 3, none⟩), .int .u64 (d3 : Int), .int .u64 (s3 : Int), .int .u64 (r3 : Int), .pointer (some ⟨g8, 3, none⟩), .agg Yn, .agg NN4, .bool true, .bool false, undef, .agg Yn, .agg Yn, .agg NN6, .agg NN6, .agg NN9, .agg NN10, .agg NN14, .agg NN6, .agg NN15, .agg NN9, .agg NN17, .agg NN19, .agg NN21, .agg GT24, undef, undef, undef, undef, undef, undef, undef, undef, undef, undef, undef, undef, undef, undef, undef, undef, undef, undef, undef, undef, undef, undef, undef, undef, undef, undef], defers := [] } ∧ Kt w [(g20, NN6, 24), (w.heap.size, ZR1, 31)] W ∧ Kt w [(gjq24_0_0, ZR12, 60)] W ∧ w.heap.size ≤ gjq24_0_0 ∧ gjq24_0_0 ≠ g20 ∧ gjq24_0_0 ≠ w.heap.size) ?_ ?_
    · rintro a wq24x11 ⟨gjq24_0_0, rfl, Hq24x12, Eq24x13, fJq24_0_0, fJq24_0_1, fJq24_0_2⟩
      refine rdy [12] (ReadyF.op0 (.store 60 (.tmp 6) (.tmp 39)) rfl (fun o ho => exec_store29 wq24x11 (.tmp 6) (.tmp 39) ho (gjq24_0_0) rfl GT24 IGT24 rfl ZR12 60 (Eq24x13.get (gjq24_0_0) ZR12 60 (by simp)) SZZR12) (Hq24x12.set (gjq24_0_0) GT24 ZR12 60 (Eq24x13.get (gjq24_0_0) ZR12 60 (by simp)) (by omega) (fun p hp => by simp at hp; rcases hp with rfl | rfl <;> exact .inr ⟨by simp, by simp only; omega⟩)) ?_ ReadyF.nil)
      have Hq24x15 := Hq24x12.set (gjq24_0_0) GT24 ZR12 60 (Eq24x13.get (gjq24_0_0) ZR12 60 (by simp)) (by omega) (m := [(g20, NN6, 24), (w.heap.size, ZR1, 31)]) (fun p hp => by simp at hp; rcases hp with rfl | rfl <;> exact .inr ⟨by simp, by simp only; omega⟩)
      have Eq24x16 := Eq24x13.set (gjq24_0_0) GT24 ZR12 60 (Eq24x13.get (gjq24_0_0) ZR12 60 (by simp)) (by omega) (m := [(gjq24_0_0, GT24, 60)]) (fun p hp => by simp at hp; subst hp; first | exact .inl rfl | exact .inr ⟨by simp, by simp only; omega⟩)
      generalize wq24x11.setRow (gjq24_0_0) GT24 = wq24x14 at *
      refine AnyF.done (by kernel_rfl) ?_ _
      refine nrm_intro ⟨gjq24_0_0, rfl, (Hq24x15.app Eq24x16).sub (fun p hp => by simp at hp; rcases hp with rfl | rfl <;> simp), by omega, by omega, by omega⟩
    intro Jq24_0
    refine F_have 2 #[true, true, true, true, true, true, true, true, true, true, false, true, false] (fun a W => ∃ gjq24_1_0, a = { tmps := #[.string ⟨(m ++ [b]).toArray⟩, undef, .pointer (some ⟨w.heap.size, 0, none⟩), .pointer (some ⟨g8, 0, none⟩), .int .u64 (1 : Int), .pointer (some ⟨g20, 0, none⟩), .pointer (some ⟨gjq24_1_0, 0, none⟩), .string ⟨(m ++ [b]).toArray⟩, .int .i64 (32 : Int), .bool false, undef, .string ⟨(m ++ [b]).toArray⟩, .agg Nn, .pointer (some ⟨g8, 3, none⟩), .int .u64 (d3 : Int), .int .u64 (1 : Int), .pointer (some ⟨g8, 3, none⟩), .int .u64 (d3 : Int), .int .u64 (s3 : Int), .int .u64 (r3 : Int), .pointer (some ⟨g8, 3, none⟩), .agg Yn, .agg NN4, .bool true, .bool false, undef, .agg Yn, .agg Yn, .agg NN6, .agg NN6, .agg NN9, .agg NN10, .agg NN14, .agg NN6, .agg NN15, .agg NN9, .agg NN17, .agg NN19, .agg NN21, undef, undef, undef, undef, undef, undef, undef, undef, undef, undef, undef, undef, undef, undef, undef, undef, undef, undef, undef, undef, undef, undef, undef, undef, undef, undef, undef], defers := [] } ∧ Kt w [(g20, NN6, 24), (w.heap.size, ZR1, 31)] W ∧ Kt w [(gjq24_1_0, ZR12, 60)] W ∧ w.heap.size ≤ gjq24_1_0 ∧ gjq24_1_0 ≠ g20 ∧ gjq24_1_0 ≠ w.heap.size) ?_ ?_
    · rintro a wq24x17 ⟨gjq24_1_0, rfl, Hq24x18, Eq24x19, fJq24_1_0, fJq24_1_1, fJq24_1_2⟩
      refine rdy [10] (rcl (some 39) 35 #[.tmp 38] #[24] #[.agg NN21] en35 _ (HC25.out _) ?_ ReadyF.nil)
      rintro v wq24x20 ⟨he, hb⟩
      cases he
      have Hq24x21 := Hq24x18.below hb
      have Eq24x22 := Eq24x19.below hb
      clear hb
      refine ⟨Hq24x21, ?_⟩
      simp only [Act.put, sT, sS, sZ]
      exact F_to (by kernel_rfl) (by kernel_rfl) (Jq24_0 _ _ ⟨gjq24_1_0, rfl, Hq24x21, Eq24x22, by omega, by omega, by omega⟩)
    intro Jq24_1
    refine F_have 3 #[true, true, true, true, true, true, true, true, true, false, false, true, false] (fun a W => ∃ gjq24_2_0, a = { tmps := #[.string ⟨(m ++ [b]).toArray⟩, undef, .pointer (some ⟨w.heap.size, 0, none⟩), .pointer (some ⟨g8, 0, none⟩), .int .u64 (1 : Int), .pointer (some ⟨g20, 0, none⟩), .pointer (some ⟨gjq24_2_0, 0, none⟩), .string ⟨(m ++ [b]).toArray⟩, .int .i64 (32 : Int), .bool false, undef, .string ⟨(m ++ [b]).toArray⟩, .agg Nn, .pointer (some ⟨g8, 3, none⟩), .int .u64 (d3 : Int), .int .u64 (1 : Int), .pointer (some ⟨g8, 3, none⟩), .int .u64 (d3 : Int), .int .u64 (s3 : Int), .int .u64 (r3 : Int), .pointer (some ⟨g8, 3, none⟩), .agg Yn, .agg NN4, .bool true, .bool false, undef, .agg Yn, .agg Yn, .agg NN6, .agg NN6, .agg NN9, .agg NN10, .agg NN14, .agg NN6, .agg NN15, .agg NN9, .agg NN17, .agg NN19, undef, undef, undef, undef, undef, undef, undef, undef, undef, undef, undef, undef, undef, undef, undef, undef, undef, undef, undef, undef, undef, undef, undef, undef, undef, undef, undef, undef], defers := [] } ∧ Kt w [(g20, NN6, 24), (w.heap.size, ZR1, 31)] W ∧ Kt w [(gjq24_2_0, ZR12, 60)] W ∧ w.heap.size ≤ gjq24_2_0 ∧ gjq24_2_0 ≠ g20 ∧ gjq24_2_0 ≠ w.heap.size) ?_ ?_
    · rintro a wq24x23 ⟨gjq24_2_0, rfl, Hq24x24, Eq24x25, fJq24_2_0, fJq24_2_1, fJq24_2_2⟩
      refine rdy [9] (rcl (some 38) 34 #[.tmp 31, .tmp 37] #[24, 24] #[.agg NN10, .agg NN19] en34 _ (HC22.out _) ?_ ReadyF.nil)
      rintro v wq24x26 ⟨he, hb⟩
      cases he
      have Hq24x27 := Hq24x24.below hb
      have Eq24x28 := Eq24x25.below hb
      clear hb
      refine ⟨Hq24x27, ?_⟩
      simp only [Act.put, sT, sS, sZ]
      exact F_to (by kernel_rfl) (by kernel_rfl) (Jq24_1 _ _ ⟨gjq24_2_0, rfl, Hq24x27, Eq24x28, by omega, by omega, by omega⟩)
    intro Jq24_2
    refine F_have 4 #[true, true, true, true, true, true, true, true, false, false, false, true, false] (fun a W => ∃ gjq24_3_0, a = { tmps := #[.string ⟨(m ++ [b]).toArray⟩, undef, .pointer (some ⟨w.heap.size, 0, none⟩), .pointer (some ⟨g8, 0, none⟩), .int .u64 (1 : Int), .pointer (some ⟨g20, 0, none⟩), .pointer (some ⟨gjq24_3_0, 0, none⟩), .string ⟨(m ++ [b]).toArray⟩, .int .i64 (32 : Int), .bool false, undef, .string ⟨(m ++ [b]).toArray⟩, .agg Nn, .pointer (some ⟨g8, 3, none⟩), .int .u64 (d3 : Int), .int .u64 (1 : Int), .pointer (some ⟨g8, 3, none⟩), .int .u64 (d3 : Int), .int .u64 (s3 : Int), .int .u64 (r3 : Int), .pointer (some ⟨g8, 3, none⟩), .agg Yn, .agg NN4, .bool true, .bool false, undef, .agg Yn, .agg Yn, .agg NN6, .agg NN6, .agg NN9, .agg NN10, .agg NN14, .agg NN6, .agg NN15, .agg NN9, .agg NN17, undef, undef, undef, undef, undef, undef, undef, undef, undef, undef, undef, undef, undef, undef, undef, undef, undef, undef, undef, undef, undef, undef, undef, undef, undef, undef, undef, undef, undef], defers := [] } ∧ Kt w [(g20, NN6, 24), (w.heap.size, ZR1, 31)] W ∧ Kt w [(gjq24_3_0, ZR12, 60)] W ∧ w.heap.size ≤ gjq24_3_0 ∧ gjq24_3_0 ≠ g20 ∧ gjq24_3_0 ≠ w.heap.size) ?_ ?_
    · rintro a wq24x29 ⟨gjq24_3_0, rfl, Hq24x30, Eq24x31, fJq24_3_0, fJq24_3_1, fJq24_3_2⟩
      refine rdy [8] (rcl (some 37) 36 #[.tmp 36] #[24] #[.agg NN17] en36 _ (HC20.out _) ?_ ReadyF.nil)
      rintro v wq24x32 ⟨he, hb⟩
      cases he
      have Hq24x33 := Hq24x30.below hb
      have Eq24x34 := Eq24x31.below hb
      clear hb
      refine ⟨Hq24x33, ?_⟩
      simp only [Act.put, sT, sS, sZ]
      exact F_to (by kernel_rfl) (by kernel_rfl) (Jq24_2 _ _ ⟨gjq24_3_0, rfl, Hq24x33, Eq24x34, by omega, by omega, by omega⟩)
    intro Jq24_3
    refine F_have 5 #[true, true, true, true, true, true, true, false, false, false, false, true, false] (fun a W => ∃ gjq24_4_0, a = { tmps := #[.string ⟨(m ++ [b]).toArray⟩, undef, .pointer (some ⟨w.heap.size, 0, none⟩), .pointer (some ⟨g8, 0, none⟩), .int .u64 (1 : Int), .pointer (some ⟨g20, 0, none⟩), .pointer (some ⟨gjq24_4_0, 0, none⟩), .string ⟨(m ++ [b]).toArray⟩, .int .i64 (32 : Int), .bool false, undef, .string ⟨(m ++ [b]).toArray⟩, .agg Nn, .pointer (some ⟨g8, 3, none⟩), .int .u64 (d3 : Int), .int .u64 (1 : Int), .pointer (some ⟨g8, 3, none⟩), .int .u64 (d3 : Int), .int .u64 (s3 : Int), .int .u64 (r3 : Int), .pointer (some ⟨g8, 3, none⟩), .agg Yn, .agg NN4, .bool true, .bool false, undef, .agg Yn, .agg Yn, .agg NN6, .agg NN6, .agg NN9, .agg NN10, .agg NN14, .agg NN6, .agg NN15, .agg NN9, undef, undef, undef, undef, undef, undef, undef, undef, undef, undef, undef, undef, undef, undef, undef, undef, undef, undef, undef, undef, undef, undef, undef, undef, undef, undef, undef, undef, undef, undef], defers := [] } ∧ Kt w [(g20, NN6, 24), (w.heap.size, ZR1, 31)] W ∧ Kt w [(gjq24_4_0, ZR12, 60)] W ∧ w.heap.size ≤ gjq24_4_0 ∧ gjq24_4_0 ≠ g20 ∧ gjq24_4_0 ≠ w.heap.size) ?_ ?_
    · rintro a wq24x35 ⟨gjq24_4_0, rfl, Hq24x36, Eq24x37, fJq24_4_0, fJq24_4_1, fJq24_4_2⟩
      refine rdy [7] (rcl (some 36) 37 #[.tmp 34, .tmp 35] #[24, 24] #[.agg NN15, .agg NN9] en37 _ (HC18.out _) ?_ ReadyF.nil)
      rintro v wq24x38 ⟨he, hb⟩
      cases he
      have Hq24x39 := Hq24x36.below hb
      have Eq24x40 := Eq24x37.below hb
      clear hb
      refine ⟨Hq24x39, ?_⟩
      simp only [Act.put, sT, sS, sZ]
      exact F_to (by kernel_rfl) (by kernel_rfl) (Jq24_3 _ _ ⟨gjq24_4_0, rfl, Hq24x39, Eq24x40, by omega, by omega, by omega⟩)
    intro Jq24_4
    refine F_have 6 #[true, true, true, true, true, false, true, false, false, false, false, true, false] (fun a W => ∃ gjq24_5_0, a = { tmps := #[.string ⟨(m ++ [b]).toArray⟩, undef, .pointer (some ⟨w.heap.size, 0, none⟩), .pointer (some ⟨g8, 0, none⟩), .int .u64 (1 : Int), .pointer (some ⟨g20, 0, none⟩), .pointer (some ⟨gjq24_5_0, 0, none⟩), .string ⟨(m ++ [b]).toArray⟩, .int .i64 (32 : Int), .bool false, undef, .string ⟨(m ++ [b]).toArray⟩, .agg Nn, .pointer (some ⟨g8, 3, none⟩), .int .u64 (d3 : Int), .int .u64 (1 : Int), .pointer (some ⟨g8, 3, none⟩), .int .u64 (d3 : Int), .int .u64 (s3 : Int), .int .u64 (r3 : Int), .pointer (some ⟨g8, 3, none⟩), .agg Yn, .agg NN4, .bool true, .bool false, undef, .agg Yn, .agg Yn, .agg NN6, .agg NN6, .agg NN9, .agg NN10, .agg NN14, .agg NN6, undef, .agg NN9, undef, undef, undef, undef, undef, undef, undef, undef, undef, undef, undef, undef, undef, undef, undef, undef, undef, undef, undef, undef, undef, undef, undef, undef, undef, undef, undef, undef, undef, undef], defers := [] } ∧ Kt w [(g20, NN6, 24), (w.heap.size, ZR1, 31)] W ∧ Kt w [(gjq24_5_0, ZR12, 60)] W ∧ w.heap.size ≤ gjq24_5_0 ∧ gjq24_5_0 ≠ g20 ∧ gjq24_5_0 ≠ w.heap.size) ?_ ?_
    · rintro a wq24x41 ⟨gjq24_5_0, rfl, Hq24x42, Eq24x43, fJq24_5_0, fJq24_5_1, fJq24_5_2⟩
      refine rdy [5] (rcl (some 34) 34 #[.tmp 32, .tmp 33] #[24, 24] #[.agg NN14, .agg NN6] en34 _ (HC16.out _) ?_ ReadyF.nil)
      rintro v wq24x44 ⟨he, hb⟩
      cases he
      have Hq24x45 := Hq24x42.below hb
      have Eq24x46 := Eq24x43.below hb
      clear hb
      refine ⟨Hq24x45, ?_⟩
      simp only [Act.put, sT, sS, sZ]
      exact F_to (by kernel_rfl) (by kernel_rfl) (Jq24_4 _ _ ⟨gjq24_5_0, rfl, Hq24x45, Eq24x46, by omega, by omega, by omega⟩)
    intro Jq24_5
    refine F_have 7 #[true, true, true, false, true, false, true, false, false, false, false, true, false] (fun a W => ∃ gjq24_6_0, a = { tmps := #[.string ⟨(m ++ [b]).toArray⟩, undef, .pointer (some ⟨w.heap.size, 0, none⟩), .pointer (some ⟨g8, 0, none⟩), .int .u64 (1 : Int), .pointer (some ⟨g20, 0, none⟩), .pointer (some ⟨gjq24_6_0, 0, none⟩), .string ⟨(m ++ [b]).toArray⟩, .int .i64 (32 : Int), .bool false, undef, .string ⟨(m ++ [b]).toArray⟩, .agg Nn, .pointer (some ⟨g8, 3, none⟩), .int .u64 (d3 : Int), .int .u64 (1 : Int), .pointer (some ⟨g8, 3, none⟩), .int .u64 (d3 : Int), .int .u64 (s3 : Int), .int .u64 (r3 : Int), .pointer (some ⟨g8, 3, none⟩), .agg Yn, .agg NN4, .bool true, .bool false, undef, .agg Yn, .agg Yn, .agg NN6, .agg NN6, .agg NN9, .agg NN10, undef, .agg NN6, undef, .agg NN9, undef, undef, undef, undef, undef, undef, undef, undef, undef, undef, undef, undef, undef, undef, undef, undef, undef, undef, undef, undef, undef, undef, undef, undef, undef, undef, undef, undef, undef, undef], defers := [] } ∧ Kt w [(g20, NN6, 24), (w.heap.size, ZR1, 31)] W ∧ Kt w [(gjq24_6_0, ZR12, 60)] W ∧ w.heap.size ≤ gjq24_6_0 ∧ gjq24_6_0 ≠ g20 ∧ gjq24_6_0 ≠ w.heap.size) ?_ ?_
    · rintro a wq24x47 ⟨gjq24_6_0, rfl, Hq24x48, Eq24x49, fJq24_6_0, fJq24_6_1, fJq24_6_2⟩
      refine rdy [3] (rcl (some 32) 38 #[] #[] #[] en38 _ (HC13.out _) ?_ ReadyF.nil)
      rintro v wq24x50 ⟨he, hb⟩
      cases he
      have Hq24x51 := Hq24x48.below hb
      have Eq24x52 := Eq24x49.below hb
      clear hb
      refine ⟨Hq24x51, ?_⟩
      simp only [Act.put, sT, sS, sZ]
      exact F_to (by kernel_rfl) (by kernel_rfl) (Jq24_5 _ _ ⟨gjq24_6_0, rfl, Hq24x51, Eq24x52, by omega, by omega, by omega⟩)
    intro Jq24_6
    refine tkG 0 (some 29) (.load 24 (.tmp 5)) none (.agg NN6) (fun o ho w2 hw => exec_load_of _ 24 (.tmp 5) ho ⟨g20, 0, none⟩ rfl _ (loadA24 INN6 (hw.get (g20) NN6 24 (by simp)))) HDq24x1 ?_
    simp only [Act.put, sT, sS, sZ]
    refine tkG 1 (some 30) (.build 24 #[(0, .const (.int .u64 1))]) none (.agg NN9) (fun o ho w2 hw => exec_buildN _ 24 #[(0, .const (.int .u64 1))] ho #[(0, .int .u64 1)] (by simp [Act.eval]) _ (BF8 _)) HDq24x1 ?_
    simp only [Act.put, sT, sS, sZ]
    refine tkG 4 (some 33) (.load 24 (.tmp 5)) none (.agg NN6) (fun o ho w2 hw => exec_load_of _ 24 (.tmp 5) ho ⟨g20, 0, none⟩ rfl _ (loadA24 INN6 (hw.get (g20) NN6 24 (by simp)))) HDq24x1 ?_
    simp only [Act.put, sT, sS, sZ]
    refine tkG 6 (some 35) (.build 24 #[(0, .const (.int .u64 1))]) none (.agg NN9) (fun o ho w2 hw => exec_buildN _ 24 #[(0, .const (.int .u64 1))] ho #[(0, .int .u64 1)] (by simp [Act.eval]) _ (BF8 _)) HDq24x1 ?_
    simp only [Act.put, sT, sS, sZ]
    refine rdy [2, 11] (rcl (some 31) 24 #[.tmp 29, .tmp 30] #[24, 24] #[.agg NN6, .agg NN9] en24 _ (HC11.out _) ?_ (ral 6 60 HZ60 (HDq24x1.alloc _) ?_ ReadyF.nil))
    · rintro v wq24x53 ⟨he, hb⟩
      cases he
      have Hq24x54 := HDq24x1.below hb
      clear hb
      refine ⟨Hq24x54, ?_⟩
      simp only [Act.put, sT, sS, sZ]
      refine rdy [3, 11] (rcl (some 32) 38 #[] #[] #[] en38 _ (HC13.out _) ?_ (ral 6 60 HZ60 (Hq24x54.alloc _) ?_ ReadyF.nil))
      · rintro v wq24x55 ⟨he, hb⟩
        cases he
        have Hq24x56 := Hq24x54.below hb
        clear hb
        refine ⟨Hq24x56, ?_⟩
        simp only [Act.put, sT, sS, sZ]
        refine rdy [5, 11] (rcl (some 34) 34 #[.tmp 32, .tmp 33] #[24, 24] #[.agg NN14, .agg NN6] en34 _ (HC16.out _) ?_ (ral 6 60 HZ60 (Hq24x56.alloc _) ?_ ReadyF.nil))
        · rintro v wq24x57 ⟨he, hb⟩
          cases he
          have Hq24x58 := Hq24x56.below hb
          clear hb
          refine ⟨Hq24x58, ?_⟩
          simp only [Act.put, sT, sS, sZ]
          refine rdy [7, 11] (rcl (some 36) 37 #[.tmp 34, .tmp 35] #[24, 24] #[.agg NN15, .agg NN9] en37 _ (HC18.out _) ?_ (ral 6 60 HZ60 (Hq24x58.alloc _) ?_ ReadyF.nil))
          · rintro v wq24x59 ⟨he, hb⟩
            cases he
            have Hq24x60 := Hq24x58.below hb
            clear hb
            refine ⟨Hq24x60, ?_⟩
            simp only [Act.put, sT, sS, sZ]
            refine rdy [8, 11] (rcl (some 37) 36 #[.tmp 36] #[24] #[.agg NN17] en36 _ (HC20.out _) ?_ (ral 6 60 HZ60 (Hq24x60.alloc _) ?_ ReadyF.nil))
            · rintro v wq24x61 ⟨he, hb⟩
              cases he
              have Hq24x62 := Hq24x60.below hb
              clear hb
              refine ⟨Hq24x62, ?_⟩
              simp only [Act.put, sT, sS, sZ]
              refine rdy [9, 11] (rcl (some 38) 34 #[.tmp 31, .tmp 37] #[24, 24] #[.agg NN10, .agg NN19] en34 _ (HC22.out _) ?_ (ral 6 60 HZ60 (Hq24x62.alloc _) ?_ ReadyF.nil))
              · rintro v wq24x63 ⟨he, hb⟩
                cases he
                have Hq24x64 := Hq24x62.below hb
                clear hb
                refine ⟨Hq24x64, ?_⟩
                simp only [Act.put, sT, sS, sZ]
                refine rdy [10, 11] (rcl (some 39) 35 #[.tmp 38] #[24] #[.agg NN21] en35 _ (HC25.out _) ?_ (ral 6 60 HZ60 (Hq24x64.alloc _) ?_ ReadyF.nil))
                · rintro v wq24x65 ⟨he, hb⟩
                  cases he
                  have Hq24x66 := Hq24x64.below hb
                  clear hb
                  refine ⟨Hq24x66, ?_⟩
                  simp only [Act.put, sT, sS, sZ]
                  refine rdy [11] (ral 6 60 HZ60 (Hq24x66.alloc _) ?_ ReadyF.nil)
                  have l0wq24x67 := Hq24x66.lt (g20) NN6 24 (by simp)
                  have l1wq24x67 := Hq24x66.lt (w.heap.size) ZR1 31 (by simp)
                  have bwq24x67 := Hq24x66.1.size
                  have Hq24x68 := Hq24x66.alloc (.cells ZR12 60)
                  have Eq24x69 := (Hq24x66.sub (m := []) (fun p hp => by cases hp)).new ZR12 60
                  simp only [Act.put, sT, sS, sZ]
                  obtain ⟨wq24x67, hwq24x67⟩ : ∃ W, W = wq24x65.alloc (.cells ZR12 60) := ⟨_, rfl⟩
                  rw [← hwq24x67] at Hq24x68 Eq24x69 ⊢
                  clear hwq24x67
                  exact F_to (by kernel_rfl) (by kernel_rfl) (Jq24_0 _ _ ⟨wq24x65.heap.size, rfl, Hq24x68, Eq24x69, by omega, by omega, by omega⟩)
                · have l0wq24x70 := Hq24x64.lt (g20) NN6 24 (by simp)
                  have l1wq24x70 := Hq24x64.lt (w.heap.size) ZR1 31 (by simp)
                  have bwq24x70 := Hq24x64.1.size
                  have Hq24x71 := Hq24x64.alloc (.cells ZR12 60)
                  have Eq24x72 := (Hq24x64.sub (m := []) (fun p hp => by cases hp)).new ZR12 60
                  simp only [Act.put, sT, sS, sZ]
                  obtain ⟨wq24x70, hwq24x70⟩ : ∃ W, W = wq24x63.alloc (.cells ZR12 60) := ⟨_, rfl⟩
                  rw [← hwq24x70] at Hq24x71 Eq24x72 ⊢
                  clear hwq24x70
                  exact F_to (by kernel_rfl) (by kernel_rfl) (Jq24_1 _ _ ⟨wq24x63.heap.size, rfl, Hq24x71, Eq24x72, by omega, by omega, by omega⟩)
              · have l0wq24x73 := Hq24x62.lt (g20) NN6 24 (by simp)
                have l1wq24x73 := Hq24x62.lt (w.heap.size) ZR1 31 (by simp)
                have bwq24x73 := Hq24x62.1.size
                have Hq24x74 := Hq24x62.alloc (.cells ZR12 60)
                have Eq24x75 := (Hq24x62.sub (m := []) (fun p hp => by cases hp)).new ZR12 60
                simp only [Act.put, sT, sS, sZ]
                obtain ⟨wq24x73, hwq24x73⟩ : ∃ W, W = wq24x61.alloc (.cells ZR12 60) := ⟨_, rfl⟩
                rw [← hwq24x73] at Hq24x74 Eq24x75 ⊢
                clear hwq24x73
                exact F_to (by kernel_rfl) (by kernel_rfl) (Jq24_2 _ _ ⟨wq24x61.heap.size, rfl, Hq24x74, Eq24x75, by omega, by omega, by omega⟩)
            · have l0wq24x76 := Hq24x60.lt (g20) NN6 24 (by simp)
              have l1wq24x76 := Hq24x60.lt (w.heap.size) ZR1 31 (by simp)
              have bwq24x76 := Hq24x60.1.size
              have Hq24x77 := Hq24x60.alloc (.cells ZR12 60)
              have Eq24x78 := (Hq24x60.sub (m := []) (fun p hp => by cases hp)).new ZR12 60
              simp only [Act.put, sT, sS, sZ]
              obtain ⟨wq24x76, hwq24x76⟩ : ∃ W, W = wq24x59.alloc (.cells ZR12 60) := ⟨_, rfl⟩
              rw [← hwq24x76] at Hq24x77 Eq24x78 ⊢
              clear hwq24x76
              exact F_to (by kernel_rfl) (by kernel_rfl) (Jq24_3 _ _ ⟨wq24x59.heap.size, rfl, Hq24x77, Eq24x78, by omega, by omega, by omega⟩)
          · have l0wq24x79 := Hq24x58.lt (g20) NN6 24 (by simp)
            have l1wq24x79 := Hq24x58.lt (w.heap.size) ZR1 31 (by simp)
            have bwq24x79 := Hq24x58.1.size
            have Hq24x80 := Hq24x58.alloc (.cells ZR12 60)
            have Eq24x81 := (Hq24x58.sub (m := []) (fun p hp => by cases hp)).new ZR12 60
            simp only [Act.put, sT, sS, sZ]
            obtain ⟨wq24x79, hwq24x79⟩ : ∃ W, W = wq24x57.alloc (.cells ZR12 60) := ⟨_, rfl⟩
            rw [← hwq24x79] at Hq24x80 Eq24x81 ⊢
            clear hwq24x79
            exact F_to (by kernel_rfl) (by kernel_rfl) (Jq24_4 _ _ ⟨wq24x57.heap.size, rfl, Hq24x80, Eq24x81, by omega, by omega, by omega⟩)
        · have l0wq24x82 := Hq24x56.lt (g20) NN6 24 (by simp)
          have l1wq24x82 := Hq24x56.lt (w.heap.size) ZR1 31 (by simp)
          have bwq24x82 := Hq24x56.1.size
          have Hq24x83 := Hq24x56.alloc (.cells ZR12 60)
          have Eq24x84 := (Hq24x56.sub (m := []) (fun p hp => by cases hp)).new ZR12 60
          simp only [Act.put, sT, sS, sZ]
          obtain ⟨wq24x82, hwq24x82⟩ : ∃ W, W = wq24x55.alloc (.cells ZR12 60) := ⟨_, rfl⟩
          rw [← hwq24x82] at Hq24x83 Eq24x84 ⊢
          clear hwq24x82
          exact F_to (by kernel_rfl) (by kernel_rfl) (Jq24_5 _ _ ⟨wq24x55.heap.size, rfl, Hq24x83, Eq24x84, by omega, by omega, by omega⟩)
      · have l0wq24x85 := Hq24x54.lt (g20) NN6 24 (by simp)
        have l1wq24x85 := Hq24x54.lt (w.heap.size) ZR1 31 (by simp)
        have bwq24x85 := Hq24x54.1.size
        have Hq24x86 := Hq24x54.alloc (.cells ZR12 60)
        have Eq24x87 := (Hq24x54.sub (m := []) (fun p hp => by cases hp)).new ZR12 60
        simp only [Act.put, sT, sS, sZ]
        obtain ⟨wq24x85, hwq24x85⟩ : ∃ W, W = wq24x53.alloc (.cells ZR12 60) := ⟨_, rfl⟩
        rw [← hwq24x85] at Hq24x86 Eq24x87 ⊢
        clear hwq24x85
        exact F_to (by kernel_rfl) (by kernel_rfl) (Jq24_6 _ _ ⟨wq24x53.heap.size, rfl, Hq24x86, Eq24x87, by omega, by omega, by omega⟩)
    · have l0wq24x88 := HDq24x1.lt (g20) NN6 24 (by simp)
      have l1wq24x88 := HDq24x1.lt (w.heap.size) ZR1 31 (by simp)
      have bwq24x88 := HDq24x1.1.size
      have Hq24x89 := HDq24x1.alloc (.cells ZR12 60)
      have Eq24x90 := (HDq24x1.sub (m := []) (fun p hp => by cases hp)).new ZR12 60
      simp only [Act.put, sT, sS, sZ]
      obtain ⟨wq24x88, hwq24x88⟩ : ∃ W, W = wdq24x2.alloc (.cells ZR12 60) := ⟨_, rfl⟩
      rw [← hwq24x88] at Hq24x89 Eq24x90 ⊢
      clear hwq24x88
      refine rdy [2] (rcl (some 31) 24 #[.tmp 29, .tmp 30] #[24, 24] #[.agg NN6, .agg NN9] en24 _ (HC11.out _) ?_ ReadyF.nil)
      rintro v wq24x91 ⟨he, hb⟩
      cases he
      have Hq24x92 := Hq24x89.below hb
      have Eq24x93 := Eq24x90.below hb
      clear hb
      refine ⟨Hq24x92, ?_⟩
      simp only [Act.put, sT, sS, sZ]
      exact F_to (by kernel_rfl) (by kernel_rfl) (Jq24_6 _ _ ⟨wdq24x2.heap.size, rfl, Hq24x92, Eq24x93, by omega, by omega, by omega⟩)
  rintro a' w25 ⟨gq24s0, rfl, hk, e27, e28, e29⟩
  have HS26 := Lib.hid hk
  clear hk HS23
  have cb4 := cell_part (HS26.out.get (gq24s0) GT24 60 (by simp)) 4 _ CGT24_4
  go_upto_region 11 with fail
  clear cb4
  have HS30 : Hid (Kt w [(w.heap.size, ZR1, 31)] w25) := Lib.hid (HS26.out.sub (fun p hp => by simp at hp; subst hp; simp))
  clear HS26
  go_upto_region 11 with fail
  refine wp_region_list ?_
  refine wpList_run rfl (.agg ZR1) (exec_buildN _ 31 #[] rfl #[] (by simp [Act.eval]) _ (BF26 _)) ?_
  simp only [Act.put, sT, sS, sZ]
  refine wpList_run0 rfl (exec_storeT31 _ (.tmp 2) (.tmp 53) rfl (w.heap.size) rfl ZR1 IZR1 rfl ZR1 31 (HS30.out.get (w.heap.size) ZR1 31 (by simp)) SZZR1) ?_
  simp only [Act.put, sT, sS, sZ]
  have HS32 : Hid (Kt w [(w.heap.size, ZR1, 31)] (w25.setRow (w.heap.size) ZR1)) := Lib.hid (HS30.out.set (w.heap.size) ZR1 ZR1 31 (HS30.out.get (w.heap.size) ZR1 31 (by simp)) (by omega) (fun p hp => by simp at hp; subst hp; exact .inl rfl))
  clear HS30
  generalize w25.setRow (w.heap.size) ZR1 = w31 at *
  refine wpList_nil ?_
  go_wp2
  exact bodyPost_ret (results_cell rfl _ _ _ ⟨w.heap.size, 0, none⟩ rfl _ (loadT31 IZR1 (HS32.out.get (w.heap.size) ZR1 31 (by simp)))) rfl ⟨rfl, HS32.out.1⟩
set_option maxRecDepth 100000 in
set_option maxHeartbeats 2000000 in
theorem rfrom_d1 (m : List UInt8) (b c : UInt8) (hm : m.length = 31) (hcb : c.toNat = b.toNat % 128) (y : Nat) (hy : y = leVal m + c.toNat * 256 ^ 31) (hyp : y < pp) (hth : (rootF (fromU y)).2 = true) (hr : ¬ (rootF (fromU y)).1 = 0) (hq : ¬ b.toNat < 128) (w : World) :
    Calls Tryd.prog 12 #[.string ⟨(m ++ [b]).toArray⟩] w fun e w' => e = .returned (.agg (num (subF 0 (rootF (fromU y)).1) ++ num y ++ #[.bool true])) ∧ Below w.heap.size w w' := by
  obtain ⟨n, hn0⟩ : ∃ n, n = leVal m + b.toNat * 256 ^ 31 := ⟨_, rfl⟩
  have hsz := len31 b hm
  have hv0 : leVal (m ++ [b]) = n := by rw [leVal_snoc, hm, hn0]
  have hn : n < 115792089237316195423570985008687907853269984665640564039457584007913129639936 := by
    have h := leVal_lt (m ++ [b])
    rw [hsz, hv0] at h
    exact h
  have HN := Lib.hid (number_any ⟨(m ++ [b]).toArray⟩ hsz)
  rw [show leVal (⟨(m ++ [b]).toArray⟩ : ByteArray).data.toList = n from hv0] at HN
  have hmod : n % hb = y := by rw [hn0, split_mod _ _ (leVal_31 m hm), hy, hcb]
  have hdiv : n / hb = 1 := by
    rw [hn0, split_div _ _ (leVal_31 m hm)]
    have := b.toNat_lt
    omega
  have hyn : y ≤ n := by rw [← hmod]; exact Nat.mod_le _ _
  have hset0 := cut_set n hn
  have htop := dig3_top n hn
  rw [hmod] at hset0
  rw [hdiv] at htop
  have hd64 := dig_lt n 3
  have hg3 := num_get n 3 (by decide)
  obtain ⟨d3, hd3⟩ : ∃ d3, d3 = dig n 3 := ⟨_, rfl⟩
  rw [← hd3] at hset0 htop hd64 hg3
  obtain ⟨r3, hr30⟩ : ∃ r3, r3 = d3 % 9223372036854775808 := ⟨_, rfl⟩
  obtain ⟨s3, hs30⟩ : ∃ s3, s3 = r3 * 2 := ⟨_, rfl⟩
  have h63 : Hid ((d3 : Int) / 2 ^ 63 = ((1 : Nat) : Int)) := Lib.hid (by show (d3 : Int) / 9223372036854775808 = _; omega)
  have hs3 : Hid ((d3 : Int) * 2 % 18446744073709551616 = (s3 : Int)) := Lib.hid (by omega)
  have hr3 : Hid ((s3 : Int) / 2 = (r3 : Int)) := Lib.hid (by omega)
  rw [← hr30] at hset0
  have hlen : Hid ((⟨(m ++ [b]).toArray⟩ : ByteArray).size = 32) := Lib.hid hsz
  have hnb : Hid (false = !(((32 : Nat) : Int) == 32)) := Lib.hid (by decide)
  have HC5 := Lib.hid (prime_any)
  have HC7 := Lib.hid (less_any (y) (pp) (Nat.lt_of_le_of_lt hyn hn) pp_b4)
  rw [show decide (y < pp) = true from decide_eq_true hyp] at HC7
  have HC9 := Lib.hid (rmulf_any (y) (y) (Nat.lt_of_le_of_lt hyn hn) (Nat.lt_of_le_of_lt hyn hn))
  have HC13 := Lib.hid (rsub_any (mulF (y) (y)) (1) (pp_lt (mulF_lt _ _)) (by decide))
  have HC15 := Lib.hid (rd_any)
  have HC18 := Lib.hid (rmulf_any (dN) (mulF (y) (y)) dN_b4 (pp_lt (mulF_lt _ _)))
  have HC20 := Lib.hid (radd_any (mulF (dN) (mulF (y) (y))) (1) (pp_lt (mulF_lt _ _)) (by decide))
  have HC22 := Lib.hid (rinv_any (addF (mulF (dN) (mulF (y) (y))) (1)) (pp_lt (addF_lt _ _)))
  have HC24 := Lib.hid (rmulf_any (subF (mulF (y) (y)) (1)) (invF (addF (mulF (dN) (mulF (y) (y))) (1))) (pp_lt (subF_lt _ _)) (pp_lt (invF_lt _)))
  rw [(show mulF (subF (mulF (y) (y)) (1)) (invF (addF (mulF (dN) (mulF (y) (y))) (1))) = fromU (y) from rfl)] at HC24
  have HC26 := Lib.hid (rroot_got (fromU (y)) (pp_lt (mulF_lt _ _)))
  rw [hth] at HC26
  have HC29 := Lib.hid (rsub_any (0) ((rootF (fromU (y))).1) (by decide) (pp_lt (rootF_lt _)))
  obtain ⟨Nn, hNn⟩ : ∃ zz9, Hid (zz9 = num (n)) := ⟨_, Lib.hid rfl⟩
  have INn : IsNum Nn := by rw [hNn.out]; exact isNum _
  obtain ⟨Yn, hYn⟩ : ∃ zz9, Hid (zz9 = num (y)) := ⟨_, Lib.hid rfl⟩
  have IYn : IsNum Yn := by rw [hYn.out]; exact isNum _
  obtain ⟨NN1, hNN1⟩ : ∃ zz9, Hid (zz9 = num ((rootF (fromU (y))).1)) := ⟨_, Lib.hid rfl⟩
  have INN1 : IsNum NN1 := by rw [hNN1.out]; exact isNum _
  obtain ⟨NN2, hNN2⟩ : ∃ zz9, Hid (zz9 = num (0)) := ⟨_, Lib.hid rfl⟩
  have INN2 : IsNum NN2 := by rw [hNN2.out]; exact isNum _
  obtain ⟨ZR4, hZR4⟩ : ∃ zz9, Hid (zz9 = spotV (fun _ => 0) false) := ⟨_, Lib.hid rfl⟩
  have SZZR4 : ZR4.size = 9 := by rw [hZR4.out]; rfl
  obtain ⟨NN6, hNN6⟩ : ∃ zz9, Hid (zz9 = num (pp)) := ⟨_, Lib.hid rfl⟩
  have INN6 : IsNum NN6 := by rw [hNN6.out]; exact isNum _
  obtain ⟨NN8, hNN8⟩ : ∃ zz9, Hid (zz9 = num (mulF (y) (y))) := ⟨_, Lib.hid rfl⟩
  have INN8 : IsNum NN8 := by rw [hNN8.out]; exact isNum _
  obtain ⟨NN11, hNN11⟩ : ∃ zz9, Hid (zz9 = num (1)) := ⟨_, Lib.hid rfl⟩
  have INN11 : IsNum NN11 := by rw [hNN11.out]; exact isNum _
  obtain ⟨NN12, hNN12⟩ : ∃ zz9, Hid (zz9 = num (subF (mulF (y) (y)) (1))) := ⟨_, Lib.hid rfl⟩
  have INN12 : IsNum NN12 := by rw [hNN12.out]; exact isNum _
  obtain ⟨ZR14, hZR14⟩ : ∃ zz9, Hid (zz9 = gotV (fun _ => 0) false) := ⟨_, Lib.hid rfl⟩
  have SZZR14 : ZR14.size = 5 := by rw [hZR14.out]; rfl
  obtain ⟨NN16, hNN16⟩ : ∃ zz9, Hid (zz9 = num (dN)) := ⟨_, Lib.hid rfl⟩
  have INN16 : IsNum NN16 := by rw [hNN16.out]; exact isNum _
  obtain ⟨NN17, hNN17⟩ : ∃ zz9, Hid (zz9 = num (mulF (dN) (mulF (y) (y)))) := ⟨_, Lib.hid rfl⟩
  have INN17 : IsNum NN17 := by rw [hNN17.out]; exact isNum _
  obtain ⟨NN19, hNN19⟩ : ∃ zz9, Hid (zz9 = num (addF (mulF (dN) (mulF (y) (y))) (1))) := ⟨_, Lib.hid rfl⟩
  have INN19 : IsNum NN19 := by rw [hNN19.out]; exact isNum _
  obtain ⟨NN21, hNN21⟩ : ∃ zz9, Hid (zz9 = num (invF (addF (mulF (dN) (mulF (y) (y))) (1)))) := ⟨_, Lib.hid rfl⟩
  have INN21 : IsNum NN21 := by rw [hNN21.out]; exact isNum _
  obtain ⟨NN23, hNN23⟩ : ∃ zz9, Hid (zz9 = num (fromU (y))) := ⟨_, Lib.hid rfl⟩
  have INN23 : IsNum NN23 := by rw [hNN23.out]; exact isNum _
  obtain ⟨GT25, hGT25⟩ : ∃ zz9, Hid (zz9 = NN1 ++ #[.bool true]) := ⟨_, Lib.hid rfl⟩
  have IGT25 : IsGot GT25 := by rw [hGT25.out]; exact got_of INN1 true
  have SGT25_0 : Part GT25 0 NN1 := by rw [hGT25.out]; exact part_left 0 (part_all NN1) _
  have CGT25_4 : GT25[4]? = some (.bool true) := by rw [hGT25.out]; exact got_b INN1 true
  obtain ⟨NN28, hNN28⟩ : ∃ zz9, Hid (zz9 = num (subF (0) ((rootF (fromU (y))).1))) := ⟨_, Lib.hid rfl⟩
  have INN28 : IsNum NN28 := by rw [hNN28.out]; exact isNum _
  obtain ⟨GT30, hGT30⟩ : ∃ zz9, Hid (zz9 = NN28 ++ #[.bool true]) := ⟨_, Lib.hid rfl⟩
  have IGT30 : IsGot GT30 := by rw [hGT30.out]; exact got_of INN28 true
  have SGT30_0 : Part GT30 0 NN28 := by rw [hGT30.out]; exact part_left 0 (part_all NN28) _
  have CGT30_4 : GT30[4]? = some (.bool true) := by rw [hGT30.out]; exact got_b INN28 true
  obtain ⟨PP32, hPP32⟩ : ∃ zz9, Hid (zz9 = NN28 ++ Yn) := ⟨_, Lib.hid rfl⟩
  have IPP32 : IsRw 8 PP32 := by rw [hPP32.out]; exact rw_app (isRw4 INN28) (isRw4 IYn)
  have SPP32_0 : Part PP32 0 NN28 := by rw [hPP32.out]; exact part_left 0 (part_all NN28) Yn
  have SPP32_4 : Part PP32 4 Yn := by rw [hPP32.out]; exact part_right (NN28) Yn 4 (by simp [INN28.size])
  obtain ⟨SP34, hSP34⟩ : ∃ zz9, Hid (zz9 = PP32 ++ #[.bool true]) := ⟨_, Lib.hid rfl⟩
  have ISP34 : IsSpot SP34 := by rw [hSP34.out]; exact spot_of IPP32 true
  have HZ31 : ∀ w, (zeroValue 31).run Tryd.prog w = .ok (.agg ZR4) w := by rw [hZR4.out]; exact zeroT31
  have HZ24 : ∀ w, (zeroValue 24).run Tryd.prog w = .ok (.agg NN2) w := by rw [hNN2.out]; exact zero_run
  have SZNN2 := INN2.size
  have HZ60 : ∀ w, (zeroValue 60).run Tryd.prog w = .ok (.agg ZR14) w := by rw [hZR14.out]; exact zero29
  have EQ3 : ∀ w, (Op.equalIn 10000 24 (.agg NN1) (.agg NN2)).run Tryd.prog w = .ok false w := by rw [hNN1.out, hNN2.out]; exact eq_num ((rootF (fromU (y))).1) (0) (pp_lt (rootF_lt _)) (by decide) false (decide_eq_false hr)
  have BF10 : ∀ w, (Instr.build 24 #[(0, .int .u64 1)]).run Tryd.prog w = .ok (.agg NN11) w := by rw [hNN11.out]; exact build_run 1 (by decide)
  have BF27 : ∀ w, (Instr.build 24 #[]).run Tryd.prog w = .ok (.agg NN2) w := by rw [hNN2.out]; exact build0_run
  have SPGT30 : splice GT25 0 NN28.toList = GT30 := by rw [hGT25.out, hGT30.out]; exact splice_left _ _ _ (by rw [INN1.size, INN28.size])
  have BF31 : ∀ w, (Instr.build 26 #[(0, .agg NN28), (1, .agg Yn)]).run Tryd.prog w = .ok (.agg PP32) w := by rw [hPP32.out]; exact bp01 INN28 IYn
  have BF33 : ∀ w, (Instr.build 31 #[(0, .agg PP32), (1, .bool true)]).run Tryd.prog w = .ok (.agg SP34) w := by rw [hSP34.out]; exact bs01 IPP32 true
  try simp only [← hNn.out, ← hYn.out, ← hNN1.out, ← hNN2.out, ← hNN6.out, ← hNN8.out, ← hNN11.out, ← hNN12.out, ← hNN16.out, ← hNN17.out, ← hNN19.out, ← hNN21.out, ← hNN23.out, ← hNN28.out] at HC5 HC7 HC9 HC13 HC15 HC18 HC20 HC22 HC24 HC26 HC29 HN hset0 hg3 ⊢
  try simp only [← hZR4.out] at HC5 HC7 HC9 HC13 HC15 HC18 HC20 HC22 HC24 HC26 HC29 HN hset0 hg3 ⊢
  try simp only [← hPP32.out] at HC5 HC7 HC9 HC13 HC15 HC18 HC20 HC22 HC24 HC26 HC29 HN hset0 hg3 ⊢
  try simp only [← hZR14.out] at HC5 HC7 HC9 HC13 HC15 HC18 HC20 HC22 HC24 HC26 HC29 HN hset0 hg3 ⊢
  try simp only [← hGT25.out] at HC5 HC7 HC9 HC13 HC15 HC18 HC20 HC22 HC24 HC26 HC29 HN hset0 hg3 ⊢
  try simp only [← hGT30.out] at HC5 HC7 HC9 HC13 HC15 HC18 HC20 HC22 HC24 HC26 HC29 HN hset0 hg3 ⊢
  try simp only [← hSP34.out] at HC5 HC7 HC9 HC13 HC15 HC18 HC20 HC22 HC24 HC26 HC29 HN hset0 hg3 ⊢
  clear hNn hYn hNN1 hNN2 hZR4 hNN6 hNN8 hNN11 hNN12 hZR14 hNN16 hNN17 hNN19 hNN21 hNN23 hGT25 hNN28 hGT30 hPP32 hSP34 hcb hy hn0 hsz hv0 hn hmod hdiv hyn htop hd64 hd3 hr30 hs30 hyp hq hth hr
  have hset := Lib.hid hset0
  have CNn_3 := hg3
  clear hset0 hg3
  go_enter Tryd.func12, Tryd.ntmps12
  have HS : Hid (Kt w [] w) := Lib.hid (Kt.nil w)
  go_upto_region 0 with fail
  refine wp_region_list ?_
  refine wpList_run rfl _ (exec_alloc_agg _ 31 rfl _ (HZ31 _)) ?_
  simp only [Act.put, sT, sS, sZ]
  have bg3 := HS.out.1.size
  have HS2 := Lib.hid (HS.out.new ZR4 31)
  clear HS
  generalize w.alloc (.cells ZR4 31) = w1 at *
  refine wpList_nil ?_
  go_upto_region 1 with fail
  refine wp_region_list ?_
  refine wpList_run rfl (.string ⟨(m ++ [b]).toArray⟩) (exec_move (.tmp 0) rfl _ rfl _) ?_
  simp only [Act.put, sT, sS, sZ]
  refine wpList_run rfl (.int .i64 (32 : Int)) (exec_len9 (.tmp 7) rfl ⟨(m ++ [b]).toArray⟩ 32 hlen.out rfl _) ?_
  simp only [Act.put, sT, sS, sZ]
  refine wpList_run rfl (.bool false) (exec_neq32 (.tmp 8) rfl rfl 32 false hnb.out rfl _) ?_
  simp only [Act.put, sT, sS, sZ]
  refine wpList_nil ?_
  go_upto_region 3 with fail
  refine wp_region_list ?_
  refine wpList_run rfl (.string ⟨(m ++ [b]).toArray⟩) (exec_move (.tmp 0) rfl _ rfl _) ?_
  simp only [Act.put, sT, sS, sZ]
  refine wpList_callF rfl 31 #[.tmp 11] #[9] rfl #[.string ⟨(m ++ [b]).toArray⟩] en31 (HN.out _) ?_
  rintro v w4 ⟨he, hb⟩
  cases he
  have HS5 := Lib.hid (HS2.out.below hb)
  clear hb HS2
  simp only [Act.put, sT, sS, sZ]
  refine wpList_run rfl _ (exec_alloc_agg _ 24 rfl _ (HZ24 _)) ?_
  simp only [Act.put, sT, sS, sZ]
  have lg8_0 := HS5.out.lt (w.heap.size) ZR4 31 (by simp)
  have bg8 := HS5.out.1.size
  have HS7 := Lib.hid (HS5.out.new NN2 24)
  clear HS5
  generalize w4.alloc (.cells NN2 24) = w6 at *
  generalize w4.heap.size = g8 at *
  refine wpList_run0 rfl (exec_store24 _ (.tmp 3) (.tmp 12) rfl (g8) rfl Nn INn rfl NN2 24 (HS7.out.get (g8) NN2 24 (by simp)) SZNN2) ?_
  simp only [Act.put, sT, sS, sZ]
  have HS10 : Hid (Kt w [(g8, Nn, 24), (w.heap.size, ZR4, 31)] (w6.setRow (g8) Nn)) := Lib.hid (HS7.out.set (g8) Nn NN2 24 (HS7.out.get (g8) NN2 24 (by simp)) (by omega) (fun p hp => by simp at hp; rcases hp with rfl | rfl <;> first | exact .inl rfl | exact .inr ⟨by simp, by simp only; omega⟩))
  clear HS7
  generalize w6.setRow (g8) Nn = w9 at *
  refine wpList_nil ?_
  go_upto_region 4 with fail
  refine wp_region_list ?_
  refine wpList_run rfl (.pointer (some ⟨g8, 3, none⟩)) (exec_indexAddr24 (.tmp 3) (.const (.int .i64 3)) rfl (g8) 3 rfl rfl (by decide) _) ?_
  simp only [Act.put, sT, sS, sZ]
  refine wpList_run rfl (.int .u64 (d3 : Int)) (exec_load_one _ 22 (.tmp 13) rfl ⟨g8, 3, none⟩ rfl _ (cell_part (HS10.out.get (g8) Nn 24 (by simp)) 3 _ CNn_3) _ Tryd.underlying22 rfl) ?_
  simp only [Act.put, sT, sS, sZ]
  refine wpList_run rfl (.int .u64 (1 : Int)) (exec_shr63 (.tmp 14) rfl rfl d3 1 h63.out rfl _) ?_
  simp only [Act.put, sT, sS, sZ]
  refine wpList_run rfl (.int .u64 (1 : Int)) (exec_assign (.tmp 15) rfl _ rfl _) ?_
  simp only [Act.put, sT, sS, sZ]
  refine wpList_nil ?_
  go_upto_region 5 with fail
  refine wp_region_list ?_
  refine wpList_run rfl (.pointer (some ⟨g8, 3, none⟩)) (exec_indexAddr24 (.tmp 3) (.const (.int .i64 3)) rfl (g8) 3 rfl rfl (by decide) _) ?_
  simp only [Act.put, sT, sS, sZ]
  refine wpList_run rfl (.int .u64 (d3 : Int)) (exec_load_one _ 22 (.tmp 16) rfl ⟨g8, 3, none⟩ rfl _ (cell_part (HS10.out.get (g8) Nn 24 (by simp)) 3 _ CNn_3) _ Tryd.underlying22 rfl) ?_
  simp only [Act.put, sT, sS, sZ]
  refine wpList_run rfl (.int .u64 (s3 : Int)) (exec_shl1 (.tmp 17) rfl rfl d3 s3 hs3.out rfl _) ?_
  simp only [Act.put, sT, sS, sZ]
  refine wpList_run rfl (.int .u64 (r3 : Int)) (exec_shr1 (.tmp 18) rfl rfl s3 r3 hr3.out rfl _) ?_
  simp only [Act.put, sT, sS, sZ]
  refine wpList_run rfl (.pointer (some ⟨g8, 3, none⟩)) (exec_indexAddr24 (.tmp 3) (.const (.int .i64 3)) rfl (g8) 3 rfl rfl (by decide) _) ?_
  simp only [Act.put, sT, sS, sZ]
  refine wpList_run0 rfl (exec_store22 _ (.tmp 20) (.tmp 19) rfl (g8) 3 rfl r3 rfl Nn Yn 24 (HS10.out.get (g8) Nn 24 (by simp)) CNn_3 hset.out) ?_
  simp only [Act.put, sT, sS, sZ]
  have HS12 : Hid (Kt w [(g8, Yn, 24), (w.heap.size, ZR4, 31)] (w9.setRow (g8) Yn)) := Lib.hid (HS10.out.set (g8) Yn Nn 24 (HS10.out.get (g8) Nn 24 (by simp)) (by omega) (fun p hp => by simp at hp; rcases hp with rfl | rfl <;> first | exact .inl rfl | exact .inr ⟨by simp, by simp only; omega⟩))
  clear HS10
  generalize w9.setRow (g8) Yn = w11 at *
  refine wpList_nil ?_
  go_upto_region 6 with fail
  refine wp_cut (fun a' W' => a' = { tmps := #[.string ⟨(m ++ [b]).toArray⟩, undef, .pointer (some ⟨w.heap.size, 0, none⟩), .pointer (some ⟨g8, 0, none⟩), .int .u64 (1 : Int), undef, undef, .string ⟨(m ++ [b]).toArray⟩, .int .i64 (32 : Int), .bool false, undef, .string ⟨(m ++ [b]).toArray⟩, .agg Nn, .pointer (some ⟨g8, 3, none⟩), .int .u64 (d3 : Int), .int .u64 (1 : Int), .pointer (some ⟨g8, 3, none⟩), .int .u64 (d3 : Int), .int .u64 (s3 : Int), .int .u64 (r3 : Int), .pointer (some ⟨g8, 3, none⟩), .agg Yn, .agg NN6, .bool true, .bool false, undef, undef, undef, undef, undef, undef, undef, undef, undef, undef, undef, undef, undef, undef, undef, undef, undef, undef, undef, undef, undef, undef, undef, undef, undef, undef, undef, undef, undef, undef, undef, undef, undef, undef, undef, undef, undef, undef, undef, undef, undef], defers := [] } ∧ Kt w [(g8, Yn, 24), (w.heap.size, ZR4, 31)] W') ?_ ?_
  · refine wp_region_any (by kernel_rfl) ?_
    change wpAny _ _ _ _ _ _ _ (World.drew _)
    have HDq13x1 := HS12.out.drew
    clear HS12
    generalize w11.drew = wdq13x2 at *
    refine any_of_F (S := Kt w [(g8, Yn, 24), (w.heap.size, ZR4, 31)]) (f := 1000) _ _ _ _ ?_
    refine tkG 0 (some 21) (.load 24 (.tmp 3)) none (.agg Yn) (fun o ho w2 hw => exec_load_of _ 24 (.tmp 3) ho ⟨g8, 0, none⟩ rfl _ (loadA24 IYn (hw.get (g8) Yn 24 (by simp)))) HDq13x1 ?_
    simp only [Act.put, sT, sS, sZ]
    refine rdy [1] (rcl (some 22) 33 #[] #[] #[] en33 _ (HC5.out _) ?_ ReadyF.nil)
    rintro v wq13x11 ⟨he, hb⟩
    cases he
    have Hq13x12 := HDq13x1.below hb
    clear hb
    refine ⟨Hq13x12, ?_⟩
    simp only [Act.put, sT, sS, sZ]
    refine rdy [2] (rcl (some 23) 32 #[.tmp 21, .tmp 22] #[24, 24] #[.agg Yn, .agg NN6] en32 _ (HC7.out _) ?_ ReadyF.nil)
    rintro v wq13x13 ⟨he, hb⟩
    cases he
    have Hq13x14 := Hq13x12.below hb
    clear hb
    refine ⟨Hq13x14, ?_⟩
    simp only [Act.put, sT, sS, sZ]
    refine tkG 3 (some 24) (.unOp .not 4 (.tmp 23)) none (.bool false) (fun o ho w2 hw => exec_notv (.tmp 23) ho _ rfl false rfl w2) Hq13x14 ?_
    simp only [Act.put, sT, sS, sZ]
    refine AnyF.done (by kernel_rfl) ?_ _
    refine nrm_intro ⟨rfl, Hq13x14.sub (fun p hp => by simp at hp; rcases hp with rfl | rfl <;> simp)⟩
  rintro a' w14 ⟨rfl, hk⟩
  have HS15 := Lib.hid hk
  clear hk HS12
  go_upto_region 8 with fail
  refine wp_region_list ?_
  refine wpList_run rfl (.agg Yn) (exec_load_of _ 24 (.tmp 3) rfl ⟨g8, 0, none⟩ rfl _ (loadA24 IYn (HS15.out.get (g8) Yn 24 (by simp)))) ?_
  simp only [Act.put, sT, sS, sZ]
  refine wpList_run rfl (.agg Yn) (exec_load_of _ 24 (.tmp 3) rfl ⟨g8, 0, none⟩ rfl _ (loadA24 IYn (HS15.out.get (g8) Yn 24 (by simp)))) ?_
  simp only [Act.put, sT, sS, sZ]
  refine wpList_callF rfl 34 #[.tmp 26, .tmp 27] #[24, 24] rfl #[.agg Yn, .agg Yn] en34 (HC9.out _) ?_
  rintro v w16 ⟨he, hb⟩
  cases he
  have HS17 := Lib.hid (HS15.out.below hb)
  clear hb HS15
  simp only [Act.put, sT, sS, sZ]
  refine wpList_run rfl _ (exec_alloc_agg _ 24 rfl _ (HZ24 _)) ?_
  simp only [Act.put, sT, sS, sZ]
  have lg20_0 := HS17.out.lt (g8) Yn 24 (by simp)
  have lg20_1 := HS17.out.lt (w.heap.size) ZR4 31 (by simp)
  have bg20 := HS17.out.1.size
  have HS19 := Lib.hid (HS17.out.new NN2 24)
  clear HS17
  generalize w16.alloc (.cells NN2 24) = w18 at *
  generalize w16.heap.size = g20 at *
  refine wpList_run0 rfl (exec_store24 _ (.tmp 5) (.tmp 28) rfl (g20) rfl NN8 INN8 rfl NN2 24 (HS19.out.get (g20) NN2 24 (by simp)) SZNN2) ?_
  simp only [Act.put, sT, sS, sZ]
  have HS22 : Hid (Kt w [(g20, NN8, 24), (g8, Yn, 24), (w.heap.size, ZR4, 31)] (w18.setRow (g20) NN8)) := Lib.hid (HS19.out.set (g20) NN8 NN2 24 (HS19.out.get (g20) NN2 24 (by simp)) (by omega) (fun p hp => by simp at hp; rcases hp with rfl | rfl | rfl <;> first | exact .inl rfl | exact .inr ⟨by simp, by simp only; omega⟩))
  clear HS19
  generalize w18.setRow (g20) NN8 = w21 at *
  refine wpList_nil ?_
  go_upto_region 9 with fail
  refine wp_cut (fun a' W' => ∃ gq23s0, a' = { tmps := #[.string ⟨(m ++ [b]).toArray⟩, undef, .pointer (some ⟨w.heap.size, 0, none⟩), .pointer (some ⟨g8, 0, none⟩), .int .u64 (1 : Int), .pointer (some ⟨g20, 0, none⟩), .pointer (some ⟨gq23s0, 0, none⟩), .string ⟨(m ++ [b]).toArray⟩, .int .i64 (32 : Int), .bool false, undef, .string ⟨(m ++ [b]).toArray⟩, .agg Nn, .pointer (some ⟨g8, 3, none⟩), .int .u64 (d3 : Int), .int .u64 (1 : Int), .pointer (some ⟨g8, 3, none⟩), .int .u64 (d3 : Int), .int .u64 (s3 : Int), .int .u64 (r3 : Int), .pointer (some ⟨g8, 3, none⟩), .agg Yn, .agg NN6, .bool true, .bool false, undef, .agg Yn, .agg Yn, .agg NN8, .agg NN8, .agg NN11, .agg NN12, .agg NN16, .agg NN8, .agg NN17, .agg NN11, .agg NN19, .agg NN21, .agg NN23, .agg GT25, undef, undef, undef, undef, undef, undef, undef, undef, undef, undef, undef, undef, undef, undef, undef, undef, undef, undef, undef, undef, undef, undef, undef, undef, undef, undef], defers := [] } ∧ Kt w [(g8, Yn, 24), (w.heap.size, ZR4, 31), (gq23s0, GT25, 60)] W' ∧ w.heap.size ≤ gq23s0 ∧ gq23s0 ≠ g20 ∧ gq23s0 ≠ g8 ∧ gq23s0 ≠ w.heap.size) ?_ ?_
  · refine wp_region_any (by kernel_rfl) ?_
    change wpAny _ _ _ _ _ _ _ (World.drew _)
    have HDq23x1 := HS22.out.drew
    clear HS22
    generalize w21.drew = wdq23x2 at *
    refine any_of_F (S := Kt w [(g20, NN8, 24), (g8, Yn, 24), (w.heap.size, ZR4, 31)]) (f := 1000) _ _ _ _ ?_
    refine F_have 1 #[true, true, true, true, true, true, true, true, true, true, true, true, false] (fun a W => ∃ gjq23_0_0, a = { tmps := #[.string ⟨(m ++ [b]).toArray⟩, undef, .pointer (some ⟨w.heap.size, 0, none⟩), .pointer (some ⟨g8, 0, none⟩), .int .u64 (1 : Int), .pointer (some ⟨g20, 0, none⟩), .pointer (some ⟨gjq23_0_0, 0, none⟩), .string ⟨(m ++ [b]).toArray⟩, .int .i64 (32 : Int), .bool false, undef, .string ⟨(m ++ [b]).toArray⟩, .agg Nn, .pointer (some ⟨g8, 3, none⟩), .int .u64 (d3 : Int), .int .u64 (1 : Int), .pointer (some ⟨g8, 3, none⟩), .int .u64 (d3 : Int), .int .u64 (s3 : Int), .int .u64 (r3 : Int), .pointer (some ⟨g8, 3, none⟩), .agg Yn, .agg NN6, .bool true, .bool false, undef, .agg Yn, .agg Yn, .agg NN8, .agg NN8, .agg NN11, .agg NN12, .agg NN16, .agg NN8, .agg NN17, .agg NN11, .agg NN19, .agg NN21, .agg NN23, .agg GT25, undef, undef, undef, undef, undef, undef, undef, undef, undef, undef, undef, undef, undef, undef, undef, undef, undef, undef, undef, undef, undef, undef, undef, undef, undef, undef], defers := [] } ∧ Kt w [(g20, NN8, 24), (g8, Yn, 24), (w.heap.size, ZR4, 31)] W ∧ Kt w [(gjq23_0_0, ZR14, 60)] W ∧ w.heap.size ≤ gjq23_0_0 ∧ gjq23_0_0 ≠ g20 ∧ gjq23_0_0 ≠ g8 ∧ gjq23_0_0 ≠ w.heap.size) ?_ ?_
    · rintro a wq23x11 ⟨gjq23_0_0, rfl, Hq23x12, Eq23x13, fJq23_0_0, fJq23_0_1, fJq23_0_2, fJq23_0_3⟩
      refine rdy [12] (ReadyF.op0 (.store 60 (.tmp 6) (.tmp 39)) rfl (fun o ho => exec_store29 wq23x11 (.tmp 6) (.tmp 39) ho (gjq23_0_0) rfl GT25 IGT25 rfl ZR14 60 (Eq23x13.get (gjq23_0_0) ZR14 60 (by simp)) SZZR14) (Hq23x12.set (gjq23_0_0) GT25 ZR14 60 (Eq23x13.get (gjq23_0_0) ZR14 60 (by simp)) (by omega) (fun p hp => by simp at hp; rcases hp with rfl | rfl | rfl <;> exact .inr ⟨by simp, by simp only; omega⟩)) ?_ ReadyF.nil)
      have Hq23x15 := Hq23x12.set (gjq23_0_0) GT25 ZR14 60 (Eq23x13.get (gjq23_0_0) ZR14 60 (by simp)) (by omega) (m := [(g20, NN8, 24), (g8, Yn, 24), (w.heap.size, ZR4, 31)]) (fun p hp => by simp at hp; rcases hp with rfl | rfl | rfl <;> exact .inr ⟨by simp, by simp only; omega⟩)
      have Eq23x16 := Eq23x13.set (gjq23_0_0) GT25 ZR14 60 (Eq23x13.get (gjq23_0_0) ZR14 60 (by simp)) (by omega) (m := [(gjq23_0_0, GT25, 60)]) (fun p hp => by simp at hp; subst hp; first | exact .inl rfl | exact .inr ⟨by simp, by simp only; omega⟩)
      generalize wq23x11.setRow (gjq23_0_0) GT25 = wq23x14 at *
      refine AnyF.done (by kernel_rfl) ?_ _
      refine nrm_intro ⟨gjq23_0_0, rfl, (Hq23x15.app Eq23x16).sub (fun p hp => by simp at hp; rcases hp with rfl | rfl | rfl <;> simp), by omega, by omega, by omega, by omega⟩
    intro Jq23_0
    refine F_have 2 #[true, true, true, true, true, true, true, true, true, true, false, true, false] (fun a W => ∃ gjq23_1_0, a = { tmps := #[.string ⟨(m ++ [b]).toArray⟩, undef, .pointer (some ⟨w.heap.size, 0, none⟩), .pointer (some ⟨g8, 0, none⟩), .int .u64 (1 : Int), .pointer (some ⟨g20, 0, none⟩), .pointer (some ⟨gjq23_1_0, 0, none⟩), .string ⟨(m ++ [b]).toArray⟩, .int .i64 (32 : Int), .bool false, undef, .string ⟨(m ++ [b]).toArray⟩, .agg Nn, .pointer (some ⟨g8, 3, none⟩), .int .u64 (d3 : Int), .int .u64 (1 : Int), .pointer (some ⟨g8, 3, none⟩), .int .u64 (d3 : Int), .int .u64 (s3 : Int), .int .u64 (r3 : Int), .pointer (some ⟨g8, 3, none⟩), .agg Yn, .agg NN6, .bool true, .bool false, undef, .agg Yn, .agg Yn, .agg NN8, .agg NN8, .agg NN11, .agg NN12, .agg NN16, .agg NN8, .agg NN17, .agg NN11, .agg NN19, .agg NN21, .agg NN23, undef, undef, undef, undef, undef, undef, undef, undef, undef, undef, undef, undef, undef, undef, undef, undef, undef, undef, undef, undef, undef, undef, undef, undef, undef, undef, undef], defers := [] } ∧ Kt w [(g20, NN8, 24), (g8, Yn, 24), (w.heap.size, ZR4, 31)] W ∧ Kt w [(gjq23_1_0, ZR14, 60)] W ∧ w.heap.size ≤ gjq23_1_0 ∧ gjq23_1_0 ≠ g20 ∧ gjq23_1_0 ≠ g8 ∧ gjq23_1_0 ≠ w.heap.size) ?_ ?_
    · rintro a wq23x17 ⟨gjq23_1_0, rfl, Hq23x18, Eq23x19, fJq23_1_0, fJq23_1_1, fJq23_1_2, fJq23_1_3⟩
      refine rdy [10] (rcl (some 39) 35 #[.tmp 38] #[24] #[.agg NN23] en35 _ (HC26.out _) ?_ ReadyF.nil)
      rintro v wq23x20 ⟨he, hb⟩
      cases he
      have Hq23x21 := Hq23x18.below hb
      have Eq23x22 := Eq23x19.below hb
      clear hb
      refine ⟨Hq23x21, ?_⟩
      simp only [Act.put, sT, sS, sZ]
      exact F_to (by kernel_rfl) (by kernel_rfl) (Jq23_0 _ _ ⟨gjq23_1_0, rfl, Hq23x21, Eq23x22, by omega, by omega, by omega, by omega⟩)
    intro Jq23_1
    refine F_have 3 #[true, true, true, true, true, true, true, true, true, false, false, true, false] (fun a W => ∃ gjq23_2_0, a = { tmps := #[.string ⟨(m ++ [b]).toArray⟩, undef, .pointer (some ⟨w.heap.size, 0, none⟩), .pointer (some ⟨g8, 0, none⟩), .int .u64 (1 : Int), .pointer (some ⟨g20, 0, none⟩), .pointer (some ⟨gjq23_2_0, 0, none⟩), .string ⟨(m ++ [b]).toArray⟩, .int .i64 (32 : Int), .bool false, undef, .string ⟨(m ++ [b]).toArray⟩, .agg Nn, .pointer (some ⟨g8, 3, none⟩), .int .u64 (d3 : Int), .int .u64 (1 : Int), .pointer (some ⟨g8, 3, none⟩), .int .u64 (d3 : Int), .int .u64 (s3 : Int), .int .u64 (r3 : Int), .pointer (some ⟨g8, 3, none⟩), .agg Yn, .agg NN6, .bool true, .bool false, undef, .agg Yn, .agg Yn, .agg NN8, .agg NN8, .agg NN11, .agg NN12, .agg NN16, .agg NN8, .agg NN17, .agg NN11, .agg NN19, .agg NN21, undef, undef, undef, undef, undef, undef, undef, undef, undef, undef, undef, undef, undef, undef, undef, undef, undef, undef, undef, undef, undef, undef, undef, undef, undef, undef, undef, undef], defers := [] } ∧ Kt w [(g20, NN8, 24), (g8, Yn, 24), (w.heap.size, ZR4, 31)] W ∧ Kt w [(gjq23_2_0, ZR14, 60)] W ∧ w.heap.size ≤ gjq23_2_0 ∧ gjq23_2_0 ≠ g20 ∧ gjq23_2_0 ≠ g8 ∧ gjq23_2_0 ≠ w.heap.size) ?_ ?_
    · rintro a wq23x23 ⟨gjq23_2_0, rfl, Hq23x24, Eq23x25, fJq23_2_0, fJq23_2_1, fJq23_2_2, fJq23_2_3⟩
      refine rdy [9] (rcl (some 38) 34 #[.tmp 31, .tmp 37] #[24, 24] #[.agg NN12, .agg NN21] en34 _ (HC24.out _) ?_ ReadyF.nil)
      rintro v wq23x26 ⟨he, hb⟩
      cases he
      have Hq23x27 := Hq23x24.below hb
      have Eq23x28 := Eq23x25.below hb
      clear hb
      refine ⟨Hq23x27, ?_⟩
      simp only [Act.put, sT, sS, sZ]
      exact F_to (by kernel_rfl) (by kernel_rfl) (Jq23_1 _ _ ⟨gjq23_2_0, rfl, Hq23x27, Eq23x28, by omega, by omega, by omega, by omega⟩)
    intro Jq23_2
    refine F_have 4 #[true, true, true, true, true, true, true, true, false, false, false, true, false] (fun a W => ∃ gjq23_3_0, a = { tmps := #[.string ⟨(m ++ [b]).toArray⟩, undef, .pointer (some ⟨w.heap.size, 0, none⟩), .pointer (some ⟨g8, 0, none⟩), .int .u64 (1 : Int), .pointer (some ⟨g20, 0, none⟩), .pointer (some ⟨gjq23_3_0, 0, none⟩), .string ⟨(m ++ [b]).toArray⟩, .int .i64 (32 : Int), .bool false, undef, .string ⟨(m ++ [b]).toArray⟩, .agg Nn, .pointer (some ⟨g8, 3, none⟩), .int .u64 (d3 : Int), .int .u64 (1 : Int), .pointer (some ⟨g8, 3, none⟩), .int .u64 (d3 : Int), .int .u64 (s3 : Int), .int .u64 (r3 : Int), .pointer (some ⟨g8, 3, none⟩), .agg Yn, .agg NN6, .bool true, .bool false, undef, .agg Yn, .agg Yn, .agg NN8, .agg NN8, .agg NN11, .agg NN12, .agg NN16, .agg NN8, .agg NN17, .agg NN11, .agg NN19, undef, undef, undef, undef, undef, undef, undef, undef, undef, undef, undef, undef, undef, undef, undef, undef, undef, undef, undef, undef, undef, undef, undef, undef, undef, undef, undef, undef, undef], defers := [] } ∧ Kt w [(g20, NN8, 24), (g8, Yn, 24), (w.heap.size, ZR4, 31)] W ∧ Kt w [(gjq23_3_0, ZR14, 60)] W ∧ w.heap.size ≤ gjq23_3_0 ∧ gjq23_3_0 ≠ g20 ∧ gjq23_3_0 ≠ g8 ∧ gjq23_3_0 ≠ w.heap.size) ?_ ?_
    · rintro a wq23x29 ⟨gjq23_3_0, rfl, Hq23x30, Eq23x31, fJq23_3_0, fJq23_3_1, fJq23_3_2, fJq23_3_3⟩
      refine rdy [8] (rcl (some 37) 36 #[.tmp 36] #[24] #[.agg NN19] en36 _ (HC22.out _) ?_ ReadyF.nil)
      rintro v wq23x32 ⟨he, hb⟩
      cases he
      have Hq23x33 := Hq23x30.below hb
      have Eq23x34 := Eq23x31.below hb
      clear hb
      refine ⟨Hq23x33, ?_⟩
      simp only [Act.put, sT, sS, sZ]
      exact F_to (by kernel_rfl) (by kernel_rfl) (Jq23_2 _ _ ⟨gjq23_3_0, rfl, Hq23x33, Eq23x34, by omega, by omega, by omega, by omega⟩)
    intro Jq23_3
    refine F_have 5 #[true, true, true, true, true, true, true, false, false, false, false, true, false] (fun a W => ∃ gjq23_4_0, a = { tmps := #[.string ⟨(m ++ [b]).toArray⟩, undef, .pointer (some ⟨w.heap.size, 0, none⟩), .pointer (some ⟨g8, 0, none⟩), .int .u64 (1 : Int), .pointer (some ⟨g20, 0, none⟩), .pointer (some ⟨gjq23_4_0, 0, none⟩), .string ⟨(m ++ [b]).toArray⟩, .int .i64 (32 : Int), .bool false, undef, .string ⟨(m ++ [b]).toArray⟩, .agg Nn, .pointer (some ⟨g8, 3, none⟩), .int .u64 (d3 : Int), .int .u64 (1 : Int), .pointer (some ⟨g8, 3, none⟩), .int .u64 (d3 : Int), .int .u64 (s3 : Int), .int .u64 (r3 : Int), .pointer (some ⟨g8, 3, none⟩), .agg Yn, .agg NN6, .bool true, .bool false, undef, .agg Yn, .agg Yn, .agg NN8, .agg NN8, .agg NN11, .agg NN12, .agg NN16, .agg NN8, .agg NN17, .agg NN11, undef, undef, undef, undef, undef, undef, undef, undef, undef, undef, undef, undef, undef, undef, undef, undef, undef, undef, undef, undef, undef, undef, undef, undef, undef, undef, undef, undef, undef, undef], defers := [] } ∧ Kt w [(g20, NN8, 24), (g8, Yn, 24), (w.heap.size, ZR4, 31)] W ∧ Kt w [(gjq23_4_0, ZR14, 60)] W ∧ w.heap.size ≤ gjq23_4_0 ∧ gjq23_4_0 ≠ g20 ∧ gjq23_4_0 ≠ g8 ∧ gjq23_4_0 ≠ w.heap.size) ?_ ?_
    · rintro a wq23x35 ⟨gjq23_4_0, rfl, Hq23x36, Eq23x37, fJq23_4_0, fJq23_4_1, fJq23_4_2, fJq23_4_3⟩
      refine rdy [7] (rcl (some 36) 37 #[.tmp 34, .tmp 35] #[24, 24] #[.agg NN17, .agg NN11] en37 _ (HC20.out _) ?_ ReadyF.nil)
      rintro v wq23x38 ⟨he, hb⟩
      cases he
      have Hq23x39 := Hq23x36.below hb
      have Eq23x40 := Eq23x37.below hb
      clear hb
      refine ⟨Hq23x39, ?_⟩
      simp only [Act.put, sT, sS, sZ]
      exact F_to (by kernel_rfl) (by kernel_rfl) (Jq23_3 _ _ ⟨gjq23_4_0, rfl, Hq23x39, Eq23x40, by omega, by omega, by omega, by omega⟩)
    intro Jq23_4
    refine F_have 6 #[true, true, true, true, true, false, true, false, false, false, false, true, false] (fun a W => ∃ gjq23_5_0, a = { tmps := #[.string ⟨(m ++ [b]).toArray⟩, undef, .pointer (some ⟨w.heap.size, 0, none⟩), .pointer (some ⟨g8, 0, none⟩), .int .u64 (1 : Int), .pointer (some ⟨g20, 0, none⟩), .pointer (some ⟨gjq23_5_0, 0, none⟩), .string ⟨(m ++ [b]).toArray⟩, .int .i64 (32 : Int), .bool false, undef, .string ⟨(m ++ [b]).toArray⟩, .agg Nn, .pointer (some ⟨g8, 3, none⟩), .int .u64 (d3 : Int), .int .u64 (1 : Int), .pointer (some ⟨g8, 3, none⟩), .int .u64 (d3 : Int), .int .u64 (s3 : Int), .int .u64 (r3 : Int), .pointer (some ⟨g8, 3, none⟩), .agg Yn, .agg NN6, .bool true, .bool false, undef, .agg Yn, .agg Yn, .agg NN8, .agg NN8, .agg NN11, .agg NN12, .agg NN16, .agg NN8, undef, .agg NN11, undef, undef, undef, undef, undef, undef, undef, undef, undef, undef, undef, undef, undef, undef, undef, undef, undef, undef, undef, undef, undef, undef, undef, undef, undef, undef, undef, undef, undef, undef], defers := [] } ∧ Kt w [(g20, NN8, 24), (g8, Yn, 24), (w.heap.size, ZR4, 31)] W ∧ Kt w [(gjq23_5_0, ZR14, 60)] W ∧ w.heap.size ≤ gjq23_5_0 ∧ gjq23_5_0 ≠ g20 ∧ gjq23_5_0 ≠ g8 ∧ gjq23_5_0 ≠ w.heap.size) ?_ ?_
    · rintro a wq23x41 ⟨gjq23_5_0, rfl, Hq23x42, Eq23x43, fJq23_5_0, fJq23_5_1, fJq23_5_2, fJq23_5_3⟩
      refine rdy [5] (rcl (some 34) 34 #[.tmp 32, .tmp 33] #[24, 24] #[.agg NN16, .agg NN8] en34 _ (HC18.out _) ?_ ReadyF.nil)
      rintro v wq23x44 ⟨he, hb⟩
      cases he
      have Hq23x45 := Hq23x42.below hb
      have Eq23x46 := Eq23x43.below hb
      clear hb
      refine ⟨Hq23x45, ?_⟩
      simp only [Act.put, sT, sS, sZ]
      exact F_to (by kernel_rfl) (by kernel_rfl) (Jq23_4 _ _ ⟨gjq23_5_0, rfl, Hq23x45, Eq23x46, by omega, by omega, by omega, by omega⟩)
    intro Jq23_5
    refine F_have 7 #[true, true, true, false, true, false, true, false, false, false, false, true, false] (fun a W => ∃ gjq23_6_0, a = { tmps := #[.string ⟨(m ++ [b]).toArray⟩, undef, .pointer (some ⟨w.heap.size, 0, none⟩), .pointer (some ⟨g8, 0, none⟩), .int .u64 (1 : Int), .pointer (some ⟨g20, 0, none⟩), .pointer (some ⟨gjq23_6_0, 0, none⟩), .string ⟨(m ++ [b]).toArray⟩, .int .i64 (32 : Int), .bool false, undef, .string ⟨(m ++ [b]).toArray⟩, .agg Nn, .pointer (some ⟨g8, 3, none⟩), .int .u64 (d3 : Int), .int .u64 (1 : Int), .pointer (some ⟨g8, 3, none⟩), .int .u64 (d3 : Int), .int .u64 (s3 : Int), .int .u64 (r3 : Int), .pointer (some ⟨g8, 3, none⟩), .agg Yn, .agg NN6, .bool true, .bool false, undef, .agg Yn, .agg Yn, .agg NN8, .agg NN8, .agg NN11, .agg NN12, undef, .agg NN8, undef, .agg NN11, undef, undef, undef, undef, undef, undef, undef, undef, undef, undef, undef, undef, undef, undef, undef, undef, undef, undef, undef, undef, undef, undef, undef, undef, undef, undef, undef, undef, undef, undef], defers := [] } ∧ Kt w [(g20, NN8, 24), (g8, Yn, 24), (w.heap.size, ZR4, 31)] W ∧ Kt w [(gjq23_6_0, ZR14, 60)] W ∧ w.heap.size ≤ gjq23_6_0 ∧ gjq23_6_0 ≠ g20 ∧ gjq23_6_0 ≠ g8 ∧ gjq23_6_0 ≠ w.heap.size) ?_ ?_
    · rintro a wq23x47 ⟨gjq23_6_0, rfl, Hq23x48, Eq23x49, fJq23_6_0, fJq23_6_1, fJq23_6_2, fJq23_6_3⟩
      refine rdy [3] (rcl (some 32) 38 #[] #[] #[] en38 _ (HC15.out _) ?_ ReadyF.nil)
      rintro v wq23x50 ⟨he, hb⟩
      cases he
      have Hq23x51 := Hq23x48.below hb
      have Eq23x52 := Eq23x49.below hb
      clear hb
      refine ⟨Hq23x51, ?_⟩
      simp only [Act.put, sT, sS, sZ]
      exact F_to (by kernel_rfl) (by kernel_rfl) (Jq23_5 _ _ ⟨gjq23_6_0, rfl, Hq23x51, Eq23x52, by omega, by omega, by omega, by omega⟩)
    intro Jq23_6
    refine tkG 0 (some 29) (.load 24 (.tmp 5)) none (.agg NN8) (fun o ho w2 hw => exec_load_of _ 24 (.tmp 5) ho ⟨g20, 0, none⟩ rfl _ (loadA24 INN8 (hw.get (g20) NN8 24 (by simp)))) HDq23x1 ?_
    simp only [Act.put, sT, sS, sZ]
    refine tkG 1 (some 30) (.build 24 #[(0, .const (.int .u64 1))]) none (.agg NN11) (fun o ho w2 hw => exec_buildN _ 24 #[(0, .const (.int .u64 1))] ho #[(0, .int .u64 1)] (by simp [Act.eval]) _ (BF10 _)) HDq23x1 ?_
    simp only [Act.put, sT, sS, sZ]
    refine tkG 4 (some 33) (.load 24 (.tmp 5)) none (.agg NN8) (fun o ho w2 hw => exec_load_of _ 24 (.tmp 5) ho ⟨g20, 0, none⟩ rfl _ (loadA24 INN8 (hw.get (g20) NN8 24 (by simp)))) HDq23x1 ?_
    simp only [Act.put, sT, sS, sZ]
    refine tkG 6 (some 35) (.build 24 #[(0, .const (.int .u64 1))]) none (.agg NN11) (fun o ho w2 hw => exec_buildN _ 24 #[(0, .const (.int .u64 1))] ho #[(0, .int .u64 1)] (by simp [Act.eval]) _ (BF10 _)) HDq23x1 ?_
    simp only [Act.put, sT, sS, sZ]
    refine rdy [2, 11] (rcl (some 31) 24 #[.tmp 29, .tmp 30] #[24, 24] #[.agg NN8, .agg NN11] en24 _ (HC13.out _) ?_ (ral 6 60 HZ60 (HDq23x1.alloc _) ?_ ReadyF.nil))
    · rintro v wq23x53 ⟨he, hb⟩
      cases he
      have Hq23x54 := HDq23x1.below hb
      clear hb
      refine ⟨Hq23x54, ?_⟩
      simp only [Act.put, sT, sS, sZ]
      refine rdy [3, 11] (rcl (some 32) 38 #[] #[] #[] en38 _ (HC15.out _) ?_ (ral 6 60 HZ60 (Hq23x54.alloc _) ?_ ReadyF.nil))
      · rintro v wq23x55 ⟨he, hb⟩
        cases he
        have Hq23x56 := Hq23x54.below hb
        clear hb
        refine ⟨Hq23x56, ?_⟩
        simp only [Act.put, sT, sS, sZ]
        refine rdy [5, 11] (rcl (some 34) 34 #[.tmp 32, .tmp 33] #[24, 24] #[.agg NN16, .agg NN8] en34 _ (HC18.out _) ?_ (ral 6 60 HZ60 (Hq23x56.alloc _) ?_ ReadyF.nil))
        · rintro v wq23x57 ⟨he, hb⟩
          cases he
          have Hq23x58 := Hq23x56.below hb
          clear hb
          refine ⟨Hq23x58, ?_⟩
          simp only [Act.put, sT, sS, sZ]
          refine rdy [7, 11] (rcl (some 36) 37 #[.tmp 34, .tmp 35] #[24, 24] #[.agg NN17, .agg NN11] en37 _ (HC20.out _) ?_ (ral 6 60 HZ60 (Hq23x58.alloc _) ?_ ReadyF.nil))
          · rintro v wq23x59 ⟨he, hb⟩
            cases he
            have Hq23x60 := Hq23x58.below hb
            clear hb
            refine ⟨Hq23x60, ?_⟩
            simp only [Act.put, sT, sS, sZ]
            refine rdy [8, 11] (rcl (some 37) 36 #[.tmp 36] #[24] #[.agg NN19] en36 _ (HC22.out _) ?_ (ral 6 60 HZ60 (Hq23x60.alloc _) ?_ ReadyF.nil))
            · rintro v wq23x61 ⟨he, hb⟩
              cases he
              have Hq23x62 := Hq23x60.below hb
              clear hb
              refine ⟨Hq23x62, ?_⟩
              simp only [Act.put, sT, sS, sZ]
              refine rdy [9, 11] (rcl (some 38) 34 #[.tmp 31, .tmp 37] #[24, 24] #[.agg NN12, .agg NN21] en34 _ (HC24.out _) ?_ (ral 6 60 HZ60 (Hq23x62.alloc _) ?_ ReadyF.nil))
              · rintro v wq23x63 ⟨he, hb⟩
                cases he
                have Hq23x64 := Hq23x62.below hb
                clear hb
                refine ⟨Hq23x64, ?_⟩
                simp only [Act.put, sT, sS, sZ]
                refine rdy [10, 11] (rcl (some 39) 35 #[.tmp 38] #[24] #[.agg NN23] en35 _ (HC26.out _) ?_ (ral 6 60 HZ60 (Hq23x64.alloc _) ?_ ReadyF.nil))
                · rintro v wq23x65 ⟨he, hb⟩
                  cases he
                  have Hq23x66 := Hq23x64.below hb
                  clear hb
                  refine ⟨Hq23x66, ?_⟩
                  simp only [Act.put, sT, sS, sZ]
                  refine rdy [11] (ral 6 60 HZ60 (Hq23x66.alloc _) ?_ ReadyF.nil)
                  have l0wq23x67 := Hq23x66.lt (g20) NN8 24 (by simp)
                  have l1wq23x67 := Hq23x66.lt (g8) Yn 24 (by simp)
                  have l2wq23x67 := Hq23x66.lt (w.heap.size) ZR4 31 (by simp)
                  have bwq23x67 := Hq23x66.1.size
                  have Hq23x68 := Hq23x66.alloc (.cells ZR14 60)
                  have Eq23x69 := (Hq23x66.sub (m := []) (fun p hp => by cases hp)).new ZR14 60
                  simp only [Act.put, sT, sS, sZ]
                  obtain ⟨wq23x67, hwq23x67⟩ : ∃ W, W = wq23x65.alloc (.cells ZR14 60) := ⟨_, rfl⟩
                  rw [← hwq23x67] at Hq23x68 Eq23x69 ⊢
                  clear hwq23x67
                  exact F_to (by kernel_rfl) (by kernel_rfl) (Jq23_0 _ _ ⟨wq23x65.heap.size, rfl, Hq23x68, Eq23x69, by omega, by omega, by omega, by omega⟩)
                · have l0wq23x70 := Hq23x64.lt (g20) NN8 24 (by simp)
                  have l1wq23x70 := Hq23x64.lt (g8) Yn 24 (by simp)
                  have l2wq23x70 := Hq23x64.lt (w.heap.size) ZR4 31 (by simp)
                  have bwq23x70 := Hq23x64.1.size
                  have Hq23x71 := Hq23x64.alloc (.cells ZR14 60)
                  have Eq23x72 := (Hq23x64.sub (m := []) (fun p hp => by cases hp)).new ZR14 60
                  simp only [Act.put, sT, sS, sZ]
                  obtain ⟨wq23x70, hwq23x70⟩ : ∃ W, W = wq23x63.alloc (.cells ZR14 60) := ⟨_, rfl⟩
                  rw [← hwq23x70] at Hq23x71 Eq23x72 ⊢
                  clear hwq23x70
                  exact F_to (by kernel_rfl) (by kernel_rfl) (Jq23_1 _ _ ⟨wq23x63.heap.size, rfl, Hq23x71, Eq23x72, by omega, by omega, by omega, by omega⟩)
              · have l0wq23x73 := Hq23x62.lt (g20) NN8 24 (by simp)
                have l1wq23x73 := Hq23x62.lt (g8) Yn 24 (by simp)
                have l2wq23x73 := Hq23x62.lt (w.heap.size) ZR4 31 (by simp)
                have bwq23x73 := Hq23x62.1.size
                have Hq23x74 := Hq23x62.alloc (.cells ZR14 60)
                have Eq23x75 := (Hq23x62.sub (m := []) (fun p hp => by cases hp)).new ZR14 60
                simp only [Act.put, sT, sS, sZ]
                obtain ⟨wq23x73, hwq23x73⟩ : ∃ W, W = wq23x61.alloc (.cells ZR14 60) := ⟨_, rfl⟩
                rw [← hwq23x73] at Hq23x74 Eq23x75 ⊢
                clear hwq23x73
                exact F_to (by kernel_rfl) (by kernel_rfl) (Jq23_2 _ _ ⟨wq23x61.heap.size, rfl, Hq23x74, Eq23x75, by omega, by omega, by omega, by omega⟩)
            · have l0wq23x76 := Hq23x60.lt (g20) NN8 24 (by simp)
              have l1wq23x76 := Hq23x60.lt (g8) Yn 24 (by simp)
              have l2wq23x76 := Hq23x60.lt (w.heap.size) ZR4 31 (by simp)
              have bwq23x76 := Hq23x60.1.size
              have Hq23x77 := Hq23x60.alloc (.cells ZR14 60)
              have Eq23x78 := (Hq23x60.sub (m := []) (fun p hp => by cases hp)).new ZR14 60
              simp only [Act.put, sT, sS, sZ]
              obtain ⟨wq23x76, hwq23x76⟩ : ∃ W, W = wq23x59.alloc (.cells ZR14 60) := ⟨_, rfl⟩
              rw [← hwq23x76] at Hq23x77 Eq23x78 ⊢
              clear hwq23x76
              exact F_to (by kernel_rfl) (by kernel_rfl) (Jq23_3 _ _ ⟨wq23x59.heap.size, rfl, Hq23x77, Eq23x78, by omega, by omega, by omega, by omega⟩)
          · have l0wq23x79 := Hq23x58.lt (g20) NN8 24 (by simp)
            have l1wq23x79 := Hq23x58.lt (g8) Yn 24 (by simp)
            have l2wq23x79 := Hq23x58.lt (w.heap.size) ZR4 31 (by simp)
            have bwq23x79 := Hq23x58.1.size
            have Hq23x80 := Hq23x58.alloc (.cells ZR14 60)
            have Eq23x81 := (Hq23x58.sub (m := []) (fun p hp => by cases hp)).new ZR14 60
            simp only [Act.put, sT, sS, sZ]
            obtain ⟨wq23x79, hwq23x79⟩ : ∃ W, W = wq23x57.alloc (.cells ZR14 60) := ⟨_, rfl⟩
            rw [← hwq23x79] at Hq23x80 Eq23x81 ⊢
            clear hwq23x79
            exact F_to (by kernel_rfl) (by kernel_rfl) (Jq23_4 _ _ ⟨wq23x57.heap.size, rfl, Hq23x80, Eq23x81, by omega, by omega, by omega, by omega⟩)
        · have l0wq23x82 := Hq23x56.lt (g20) NN8 24 (by simp)
          have l1wq23x82 := Hq23x56.lt (g8) Yn 24 (by simp)
          have l2wq23x82 := Hq23x56.lt (w.heap.size) ZR4 31 (by simp)
          have bwq23x82 := Hq23x56.1.size
          have Hq23x83 := Hq23x56.alloc (.cells ZR14 60)
          have Eq23x84 := (Hq23x56.sub (m := []) (fun p hp => by cases hp)).new ZR14 60
          simp only [Act.put, sT, sS, sZ]
          obtain ⟨wq23x82, hwq23x82⟩ : ∃ W, W = wq23x55.alloc (.cells ZR14 60) := ⟨_, rfl⟩
          rw [← hwq23x82] at Hq23x83 Eq23x84 ⊢
          clear hwq23x82
          exact F_to (by kernel_rfl) (by kernel_rfl) (Jq23_5 _ _ ⟨wq23x55.heap.size, rfl, Hq23x83, Eq23x84, by omega, by omega, by omega, by omega⟩)
      · have l0wq23x85 := Hq23x54.lt (g20) NN8 24 (by simp)
        have l1wq23x85 := Hq23x54.lt (g8) Yn 24 (by simp)
        have l2wq23x85 := Hq23x54.lt (w.heap.size) ZR4 31 (by simp)
        have bwq23x85 := Hq23x54.1.size
        have Hq23x86 := Hq23x54.alloc (.cells ZR14 60)
        have Eq23x87 := (Hq23x54.sub (m := []) (fun p hp => by cases hp)).new ZR14 60
        simp only [Act.put, sT, sS, sZ]
        obtain ⟨wq23x85, hwq23x85⟩ : ∃ W, W = wq23x53.alloc (.cells ZR14 60) := ⟨_, rfl⟩
        rw [← hwq23x85] at Hq23x86 Eq23x87 ⊢
        clear hwq23x85
        exact F_to (by kernel_rfl) (by kernel_rfl) (Jq23_6 _ _ ⟨wq23x53.heap.size, rfl, Hq23x86, Eq23x87, by omega, by omega, by omega, by omega⟩)
    · have l0wq23x88 := HDq23x1.lt (g20) NN8 24 (by simp)
      have l1wq23x88 := HDq23x1.lt (g8) Yn 24 (by simp)
      have l2wq23x88 := HDq23x1.lt (w.heap.size) ZR4 31 (by simp)
      have bwq23x88 := HDq23x1.1.size
      have Hq23x89 := HDq23x1.alloc (.cells ZR14 60)
      have Eq23x90 := (HDq23x1.sub (m := []) (fun p hp => by cases hp)).new ZR14 60
      simp only [Act.put, sT, sS, sZ]
      obtain ⟨wq23x88, hwq23x88⟩ : ∃ W, W = wdq23x2.alloc (.cells ZR14 60) := ⟨_, rfl⟩
      rw [← hwq23x88] at Hq23x89 Eq23x90 ⊢
      clear hwq23x88
      refine rdy [2] (rcl (some 31) 24 #[.tmp 29, .tmp 30] #[24, 24] #[.agg NN8, .agg NN11] en24 _ (HC13.out _) ?_ ReadyF.nil)
      rintro v wq23x91 ⟨he, hb⟩
      cases he
      have Hq23x92 := Hq23x89.below hb
      have Eq23x93 := Eq23x90.below hb
      clear hb
      refine ⟨Hq23x92, ?_⟩
      simp only [Act.put, sT, sS, sZ]
      exact F_to (by kernel_rfl) (by kernel_rfl) (Jq23_6 _ _ ⟨wdq23x2.heap.size, rfl, Hq23x92, Eq23x93, by omega, by omega, by omega, by omega⟩)
  rintro a' w24 ⟨gq23s0, rfl, hk, e26, e27, e28, e29⟩
  have HS25 := Lib.hid hk
  clear hk HS22
  go_upto_region 10 with fail
  refine wp_region_list ?_
  refine wpList_run rfl (.pointer (some ⟨gq23s0, 4, none⟩)) (exec_field 60 (.tmp 6) 1 rfl _ _ rfl _ (fa60_1 (gq23s0) _)) ?_
  simp only [Act.put, sT, sS, sZ]
  refine wpList_run rfl (.bool true) (exec_load_one _ 4 (.tmp 40) rfl ⟨gq23s0, 4, none⟩ rfl _ (cell_part (HS25.out.get (gq23s0) GT25 60 (by simp)) 4 _ CGT25_4) _ Tryd.underlying4 rfl) ?_
  simp only [Act.put, sT, sS, sZ]
  refine wpList_run rfl (.bool false) (exec_notv (.tmp 41) rfl _ rfl false rfl _) ?_
  simp only [Act.put, sT, sS, sZ]
  refine wpList_run rfl (.bool false) (exec_move (.tmp 42) rfl _ rfl _) ?_
  simp only [Act.put, sT, sS, sZ]
  refine wpList_runH (.int .u64 (1 : Int)) (exec_move (.tmp 4) rfl _ rfl _) ?_ (by rfl)
  simp only [Act.put, sT, sS, sZ]
  refine wpList_runH (.bool true) (exec_eql22 (.tmp 44) rfl rfl 1 true rfl (by decide) _) ?_ (by rfl)
  simp only [Act.put, sT, sS, sZ]
  refine wpList_runH (.bool true) (exec_move (.tmp 45) rfl _ rfl _) ?_ (by rfl)
  simp only [Act.put, sT, sS, sZ]
  refine wpList_runH (.pointer (some ⟨gq23s0, 0, none⟩)) (exec_field 60 (.tmp 6) 0 rfl _ _ rfl _ (fa60_0 (gq23s0) _)) ?_ (by rfl)
  simp only [Act.put, sT, sS, sZ]
  refine wpList_runH (.agg NN1) (exec_load_of _ 24 (.tmp 47) rfl ⟨gq23s0, 0, none⟩ rfl _ (load_part (HS25.out.get (gq23s0) GT25 60 (by simp)) INN1 0 SGT25_0)) ?_ (by rfl)
  simp only [Act.put, sT, sS, sZ]
  refine wpList_runH (.agg NN2) (exec_buildN _ 24 #[] rfl #[] (by simp [Act.eval]) _ (BF27 _)) ?_ (by rfl)
  simp only [Act.put, sT, sS, sZ]
  refine wpList_runH (.bool false) (exec_eqv (.tmp 48) (.tmp 49) rfl NN1 NN2 EQ3 rfl rfl _) ?_ (by rfl)
  simp only [Act.put, sT, sS, sZ]
  refine wpList_runH (.bool false) (exec_pickt (.tmp 46) (.tmp 50) (.const (.bool false)) rfl rfl _ rfl _) ?_ (by rfl)
  simp only [Act.put, sT, sS, sZ]
  refine wpList_run rfl (.bool false) (exec_pickf (.tmp 43) (.const (.bool true)) (.tmp 51) rfl rfl _ rfl _) ?_
  simp only [Act.put, sT, sS, sZ]
  refine wpList_nil ?_
  go_upto_region 12 with fail
  refine wp_region_list ?_
  refine wpList_run rfl (.int .u64 (1 : Int)) (exec_move (.tmp 4) rfl _ rfl _) ?_
  simp only [Act.put, sT, sS, sZ]
  refine wpList_run rfl (.bool true) (exec_eql22 (.tmp 54) rfl rfl 1 true rfl (by decide) _) ?_
  simp only [Act.put, sT, sS, sZ]
  refine wpList_nil ?_
  go_upto_region 13 with fail
  refine wp_region_list ?_
  refine wpList_run rfl (.agg NN2) (exec_buildN _ 24 #[] rfl #[] (by simp [Act.eval]) _ (BF27 _)) ?_
  simp only [Act.put, sT, sS, sZ]
  refine wpList_run rfl (.pointer (some ⟨gq23s0, 0, none⟩)) (exec_field 60 (.tmp 6) 0 rfl _ _ rfl _ (fa60_0 (gq23s0) _)) ?_
  simp only [Act.put, sT, sS, sZ]
  refine wpList_run rfl (.agg NN1) (exec_load_of _ 24 (.tmp 57) rfl ⟨gq23s0, 0, none⟩ rfl _ (load_part (HS25.out.get (gq23s0) GT25 60 (by simp)) INN1 0 SGT25_0)) ?_
  simp only [Act.put, sT, sS, sZ]
  refine wpList_callF rfl 24 #[.tmp 56, .tmp 58] #[24, 24] rfl #[.agg NN2, .agg NN1] en24 (HC29.out _) ?_
  rintro v w30 ⟨he, hb⟩
  cases he
  have HS31 := Lib.hid (HS25.out.below hb)
  clear hb HS25
  simp only [Act.put, sT, sS, sZ]
  refine wpList_run rfl (.pointer (some ⟨gq23s0, 0, none⟩)) (exec_field 60 (.tmp 6) 0 rfl _ _ rfl _ (fa60_0 (gq23s0) _)) ?_
  simp only [Act.put, sT, sS, sZ]
  refine wpList_run0 rfl (exec_store_part _ (.tmp 60) (.tmp 59) rfl (gq23s0) 0 rfl NN28 INN28 rfl GT25 GT30 60 (HS31.out.get (gq23s0) GT25 60 (by simp)) (by rw [IGT25.size]; decide) SPGT30) ?_
  simp only [Act.put, sT, sS, sZ]
  have HS33 : Hid (Kt w [(g8, Yn, 24), (w.heap.size, ZR4, 31), (gq23s0, GT30, 60)] (w30.setRow (gq23s0) GT30)) := Lib.hid (HS31.out.set (gq23s0) GT30 GT25 60 (HS31.out.get (gq23s0) GT25 60 (by simp)) (by omega) (fun p hp => by simp at hp; rcases hp with rfl | rfl | rfl <;> first | exact .inl rfl | exact .inr ⟨by simp, by simp only; omega⟩))
  clear HS31
  generalize w30.setRow (gq23s0) GT30 = w32 at *
  refine wpList_nil ?_
  go_upto_region 14 with fail
  refine wp_region_list ?_
  refine wpList_run rfl (.pointer (some ⟨gq23s0, 0, none⟩)) (exec_field 60 (.tmp 6) 0 rfl _ _ rfl _ (fa60_0 (gq23s0) _)) ?_
  simp only [Act.put, sT, sS, sZ]
  refine wpList_run rfl (.agg NN28) (exec_load_of _ 24 (.tmp 61) rfl ⟨gq23s0, 0, none⟩ rfl _ (load_part (HS33.out.get (gq23s0) GT30 60 (by simp)) INN28 0 SGT30_0)) ?_
  simp only [Act.put, sT, sS, sZ]
  refine wpList_run rfl (.agg Yn) (exec_load_of _ 24 (.tmp 3) rfl ⟨g8, 0, none⟩ rfl _ (loadA24 IYn (HS33.out.get (g8) Yn 24 (by simp)))) ?_
  simp only [Act.put, sT, sS, sZ]
  refine wpList_run rfl (.agg PP32) (exec_buildN _ 26 #[(0, .tmp 62), (1, .tmp 63)] rfl #[(0, .agg NN28), (1, .agg Yn)] (by simp [Act.eval]) _ (BF31 _)) ?_
  simp only [Act.put, sT, sS, sZ]
  refine wpList_run rfl (.agg SP34) (exec_buildN _ 31 #[(0, .tmp 64), (1, .const (.bool true))] rfl #[(0, .agg PP32), (1, .bool true)] (by simp [Act.eval]) _ (BF33 _)) ?_
  simp only [Act.put, sT, sS, sZ]
  refine wpList_run0 rfl (exec_storeT31 _ (.tmp 2) (.tmp 65) rfl (w.heap.size) rfl SP34 ISP34 rfl ZR4 31 (HS33.out.get (w.heap.size) ZR4 31 (by simp)) SZZR4) ?_
  simp only [Act.put, sT, sS, sZ]
  have HS35 : Hid (Kt w [(g8, Yn, 24), (w.heap.size, SP34, 31), (gq23s0, GT30, 60)] (w32.setRow (w.heap.size) SP34)) := Lib.hid (HS33.out.set (w.heap.size) SP34 ZR4 31 (HS33.out.get (w.heap.size) ZR4 31 (by simp)) (by omega) (fun p hp => by simp at hp; rcases hp with rfl | rfl | rfl <;> first | exact .inl rfl | exact .inr ⟨by simp, by simp only; omega⟩))
  clear HS33
  generalize w32.setRow (w.heap.size) SP34 = w34 at *
  refine wpList_nil ?_
  go_wp2
  exact bodyPost_ret (results_cell rfl _ _ _ ⟨w.heap.size, 0, none⟩ rfl _ (loadT31 ISP34 (HS35.out.get (w.heap.size) SP34 31 (by simp)))) rfl ⟨rfl, HS35.out.1⟩
set_option maxRecDepth 100000 in
set_option maxHeartbeats 2000000 in
theorem rfrom_e1 (m : List UInt8) (b c : UInt8) (hm : m.length = 31) (hcb : c.toNat = b.toNat % 128) (y : Nat) (hy : y = leVal m + c.toNat * 256 ^ 31) (hyp : y < pp) (hth : (rootF (fromU y)).2 = true) (hr : (rootF (fromU y)).1 = 0) (hq : ¬ b.toNat < 128) (w : World) :
    Calls Tryd.prog 12 #[.string ⟨(m ++ [b]).toArray⟩] w fun e w' => e = .returned (.agg (spotV (fun _ => 0) false)) ∧ Below w.heap.size w w' := by
  obtain ⟨n, hn0⟩ : ∃ n, n = leVal m + b.toNat * 256 ^ 31 := ⟨_, rfl⟩
  have hsz := len31 b hm
  have hv0 : leVal (m ++ [b]) = n := by rw [leVal_snoc, hm, hn0]
  have hn : n < 115792089237316195423570985008687907853269984665640564039457584007913129639936 := by
    have h := leVal_lt (m ++ [b])
    rw [hsz, hv0] at h
    exact h
  have HN := Lib.hid (number_any ⟨(m ++ [b]).toArray⟩ hsz)
  rw [show leVal (⟨(m ++ [b]).toArray⟩ : ByteArray).data.toList = n from hv0] at HN
  have hmod : n % hb = y := by rw [hn0, split_mod _ _ (leVal_31 m hm), hy, hcb]
  have hdiv : n / hb = 1 := by
    rw [hn0, split_div _ _ (leVal_31 m hm)]
    have := b.toNat_lt
    omega
  have hyn : y ≤ n := by rw [← hmod]; exact Nat.mod_le _ _
  have hset0 := cut_set n hn
  have htop := dig3_top n hn
  rw [hmod] at hset0
  rw [hdiv] at htop
  have hd64 := dig_lt n 3
  have hg3 := num_get n 3 (by decide)
  obtain ⟨d3, hd3⟩ : ∃ d3, d3 = dig n 3 := ⟨_, rfl⟩
  rw [← hd3] at hset0 htop hd64 hg3
  obtain ⟨r3, hr30⟩ : ∃ r3, r3 = d3 % 9223372036854775808 := ⟨_, rfl⟩
  obtain ⟨s3, hs30⟩ : ∃ s3, s3 = r3 * 2 := ⟨_, rfl⟩
  have h63 : Hid ((d3 : Int) / 2 ^ 63 = ((1 : Nat) : Int)) := Lib.hid (by show (d3 : Int) / 9223372036854775808 = _; omega)
  have hs3 : Hid ((d3 : Int) * 2 % 18446744073709551616 = (s3 : Int)) := Lib.hid (by omega)
  have hr3 : Hid ((s3 : Int) / 2 = (r3 : Int)) := Lib.hid (by omega)
  rw [← hr30] at hset0
  have hlen : Hid ((⟨(m ++ [b]).toArray⟩ : ByteArray).size = 32) := Lib.hid hsz
  have hnb : Hid (false = !(((32 : Nat) : Int) == 32)) := Lib.hid (by decide)
  have HC5 := Lib.hid (prime_any)
  have HC7 := Lib.hid (less_any (y) (pp) (Nat.lt_of_le_of_lt hyn hn) pp_b4)
  rw [show decide (y < pp) = true from decide_eq_true hyp] at HC7
  have HC9 := Lib.hid (rmulf_any (y) (y) (Nat.lt_of_le_of_lt hyn hn) (Nat.lt_of_le_of_lt hyn hn))
  have HC13 := Lib.hid (rsub_any (mulF (y) (y)) (1) (pp_lt (mulF_lt _ _)) (by decide))
  have HC15 := Lib.hid (rd_any)
  have HC18 := Lib.hid (rmulf_any (dN) (mulF (y) (y)) dN_b4 (pp_lt (mulF_lt _ _)))
  have HC20 := Lib.hid (radd_any (mulF (dN) (mulF (y) (y))) (1) (pp_lt (mulF_lt _ _)) (by decide))
  have HC22 := Lib.hid (rinv_any (addF (mulF (dN) (mulF (y) (y))) (1)) (pp_lt (addF_lt _ _)))
  have HC24 := Lib.hid (rmulf_any (subF (mulF (y) (y)) (1)) (invF (addF (mulF (dN) (mulF (y) (y))) (1))) (pp_lt (subF_lt _ _)) (pp_lt (invF_lt _)))
  rw [(show mulF (subF (mulF (y) (y)) (1)) (invF (addF (mulF (dN) (mulF (y) (y))) (1))) = fromU (y) from rfl)] at HC24
  have HC26 := Lib.hid (rroot_got (fromU (y)) (pp_lt (mulF_lt _ _)))
  rw [hth] at HC26
  obtain ⟨Nn, hNn⟩ : ∃ zz9, Hid (zz9 = num (n)) := ⟨_, Lib.hid rfl⟩
  have INn : IsNum Nn := by rw [hNn.out]; exact isNum _
  obtain ⟨Yn, hYn⟩ : ∃ zz9, Hid (zz9 = num (y)) := ⟨_, Lib.hid rfl⟩
  have IYn : IsNum Yn := by rw [hYn.out]; exact isNum _
  obtain ⟨NN1, hNN1⟩ : ∃ zz9, Hid (zz9 = num ((rootF (fromU (y))).1)) := ⟨_, Lib.hid rfl⟩
  have INN1 : IsNum NN1 := by rw [hNN1.out]; exact isNum _
  obtain ⟨NN2, hNN2⟩ : ∃ zz9, Hid (zz9 = num (0)) := ⟨_, Lib.hid rfl⟩
  have INN2 : IsNum NN2 := by rw [hNN2.out]; exact isNum _
  obtain ⟨ZR4, hZR4⟩ : ∃ zz9, Hid (zz9 = spotV (fun _ => 0) false) := ⟨_, Lib.hid rfl⟩
  have SZZR4 : ZR4.size = 9 := by rw [hZR4.out]; rfl
  obtain ⟨NN6, hNN6⟩ : ∃ zz9, Hid (zz9 = num (pp)) := ⟨_, Lib.hid rfl⟩
  have INN6 : IsNum NN6 := by rw [hNN6.out]; exact isNum _
  obtain ⟨NN8, hNN8⟩ : ∃ zz9, Hid (zz9 = num (mulF (y) (y))) := ⟨_, Lib.hid rfl⟩
  have INN8 : IsNum NN8 := by rw [hNN8.out]; exact isNum _
  obtain ⟨NN11, hNN11⟩ : ∃ zz9, Hid (zz9 = num (1)) := ⟨_, Lib.hid rfl⟩
  have INN11 : IsNum NN11 := by rw [hNN11.out]; exact isNum _
  obtain ⟨NN12, hNN12⟩ : ∃ zz9, Hid (zz9 = num (subF (mulF (y) (y)) (1))) := ⟨_, Lib.hid rfl⟩
  have INN12 : IsNum NN12 := by rw [hNN12.out]; exact isNum _
  obtain ⟨ZR14, hZR14⟩ : ∃ zz9, Hid (zz9 = gotV (fun _ => 0) false) := ⟨_, Lib.hid rfl⟩
  have SZZR14 : ZR14.size = 5 := by rw [hZR14.out]; rfl
  obtain ⟨NN16, hNN16⟩ : ∃ zz9, Hid (zz9 = num (dN)) := ⟨_, Lib.hid rfl⟩
  have INN16 : IsNum NN16 := by rw [hNN16.out]; exact isNum _
  obtain ⟨NN17, hNN17⟩ : ∃ zz9, Hid (zz9 = num (mulF (dN) (mulF (y) (y)))) := ⟨_, Lib.hid rfl⟩
  have INN17 : IsNum NN17 := by rw [hNN17.out]; exact isNum _
  obtain ⟨NN19, hNN19⟩ : ∃ zz9, Hid (zz9 = num (addF (mulF (dN) (mulF (y) (y))) (1))) := ⟨_, Lib.hid rfl⟩
  have INN19 : IsNum NN19 := by rw [hNN19.out]; exact isNum _
  obtain ⟨NN21, hNN21⟩ : ∃ zz9, Hid (zz9 = num (invF (addF (mulF (dN) (mulF (y) (y))) (1)))) := ⟨_, Lib.hid rfl⟩
  have INN21 : IsNum NN21 := by rw [hNN21.out]; exact isNum _
  obtain ⟨NN23, hNN23⟩ : ∃ zz9, Hid (zz9 = num (fromU (y))) := ⟨_, Lib.hid rfl⟩
  have INN23 : IsNum NN23 := by rw [hNN23.out]; exact isNum _
  obtain ⟨GT25, hGT25⟩ : ∃ zz9, Hid (zz9 = NN1 ++ #[.bool true]) := ⟨_, Lib.hid rfl⟩
  have IGT25 : IsGot GT25 := by rw [hGT25.out]; exact got_of INN1 true
  have SGT25_0 : Part GT25 0 NN1 := by rw [hGT25.out]; exact part_left 0 (part_all NN1) _
  have CGT25_4 : GT25[4]? = some (.bool true) := by rw [hGT25.out]; exact got_b INN1 true
  have HZ31 : ∀ w, (zeroValue 31).run Tryd.prog w = .ok (.agg ZR4) w := by rw [hZR4.out]; exact zeroT31
  have HZ24 : ∀ w, (zeroValue 24).run Tryd.prog w = .ok (.agg NN2) w := by rw [hNN2.out]; exact zero_run
  have SZNN2 := INN2.size
  have HZ60 : ∀ w, (zeroValue 60).run Tryd.prog w = .ok (.agg ZR14) w := by rw [hZR14.out]; exact zero29
  have EQ3 : ∀ w, (Op.equalIn 10000 24 (.agg NN1) (.agg NN2)).run Tryd.prog w = .ok true w := by rw [hNN1.out, hNN2.out]; exact eq_num ((rootF (fromU (y))).1) (0) (pp_lt (rootF_lt _)) (by decide) true (decide_eq_true hr)
  have BF10 : ∀ w, (Instr.build 24 #[(0, .int .u64 1)]).run Tryd.prog w = .ok (.agg NN11) w := by rw [hNN11.out]; exact build_run 1 (by decide)
  have BF27 : ∀ w, (Instr.build 24 #[]).run Tryd.prog w = .ok (.agg NN2) w := by rw [hNN2.out]; exact build0_run
  have BF28 : ∀ w, (Instr.build 31 #[]).run Tryd.prog w = .ok (.agg ZR4) w := by rw [hZR4.out]; exact bs_none
  have IZR4 : IsSpot ZR4 := by rw [hZR4.out]; exact ⟨_, _, rfl⟩
  try simp only [← hNn.out, ← hYn.out, ← hNN1.out, ← hNN2.out, ← hNN6.out, ← hNN8.out, ← hNN11.out, ← hNN12.out, ← hNN16.out, ← hNN17.out, ← hNN19.out, ← hNN21.out, ← hNN23.out] at HC5 HC7 HC9 HC13 HC15 HC18 HC20 HC22 HC24 HC26 HN hset0 hg3 ⊢
  try simp only [← hZR4.out] at HC5 HC7 HC9 HC13 HC15 HC18 HC20 HC22 HC24 HC26 HN hset0 hg3 ⊢
  try simp only [← hZR14.out] at HC5 HC7 HC9 HC13 HC15 HC18 HC20 HC22 HC24 HC26 HN hset0 hg3 ⊢
  try simp only [← hGT25.out] at HC5 HC7 HC9 HC13 HC15 HC18 HC20 HC22 HC24 HC26 HN hset0 hg3 ⊢
  clear hNn hYn hNN1 hNN2 hZR4 hNN6 hNN8 hNN11 hNN12 hZR14 hNN16 hNN17 hNN19 hNN21 hNN23 hGT25 hcb hy hn0 hsz hv0 hn hmod hdiv hyn htop hd64 hd3 hr30 hs30 hyp hq hth hr
  have hset := Lib.hid hset0
  have CNn_3 := hg3
  clear hset0 hg3
  go_enter Tryd.func12, Tryd.ntmps12
  have HS : Hid (Kt w [] w) := Lib.hid (Kt.nil w)
  go_upto_region 0 with fail
  refine wp_region_list ?_
  refine wpList_run rfl _ (exec_alloc_agg _ 31 rfl _ (HZ31 _)) ?_
  simp only [Act.put, sT, sS, sZ]
  have bg3 := HS.out.1.size
  have HS2 := Lib.hid (HS.out.new ZR4 31)
  clear HS
  generalize w.alloc (.cells ZR4 31) = w1 at *
  refine wpList_nil ?_
  go_upto_region 1 with fail
  refine wp_region_list ?_
  refine wpList_run rfl (.string ⟨(m ++ [b]).toArray⟩) (exec_move (.tmp 0) rfl _ rfl _) ?_
  simp only [Act.put, sT, sS, sZ]
  refine wpList_run rfl (.int .i64 (32 : Int)) (exec_len9 (.tmp 7) rfl ⟨(m ++ [b]).toArray⟩ 32 hlen.out rfl _) ?_
  simp only [Act.put, sT, sS, sZ]
  refine wpList_run rfl (.bool false) (exec_neq32 (.tmp 8) rfl rfl 32 false hnb.out rfl _) ?_
  simp only [Act.put, sT, sS, sZ]
  refine wpList_nil ?_
  go_upto_region 3 with fail
  refine wp_region_list ?_
  refine wpList_run rfl (.string ⟨(m ++ [b]).toArray⟩) (exec_move (.tmp 0) rfl _ rfl _) ?_
  simp only [Act.put, sT, sS, sZ]
  refine wpList_callF rfl 31 #[.tmp 11] #[9] rfl #[.string ⟨(m ++ [b]).toArray⟩] en31 (HN.out _) ?_
  rintro v w4 ⟨he, hb⟩
  cases he
  have HS5 := Lib.hid (HS2.out.below hb)
  clear hb HS2
  simp only [Act.put, sT, sS, sZ]
  refine wpList_run rfl _ (exec_alloc_agg _ 24 rfl _ (HZ24 _)) ?_
  simp only [Act.put, sT, sS, sZ]
  have lg8_0 := HS5.out.lt (w.heap.size) ZR4 31 (by simp)
  have bg8 := HS5.out.1.size
  have HS7 := Lib.hid (HS5.out.new NN2 24)
  clear HS5
  generalize w4.alloc (.cells NN2 24) = w6 at *
  generalize w4.heap.size = g8 at *
  refine wpList_run0 rfl (exec_store24 _ (.tmp 3) (.tmp 12) rfl (g8) rfl Nn INn rfl NN2 24 (HS7.out.get (g8) NN2 24 (by simp)) SZNN2) ?_
  simp only [Act.put, sT, sS, sZ]
  have HS10 : Hid (Kt w [(g8, Nn, 24), (w.heap.size, ZR4, 31)] (w6.setRow (g8) Nn)) := Lib.hid (HS7.out.set (g8) Nn NN2 24 (HS7.out.get (g8) NN2 24 (by simp)) (by omega) (fun p hp => by simp at hp; rcases hp with rfl | rfl <;> first | exact .inl rfl | exact .inr ⟨by simp, by simp only; omega⟩))
  clear HS7
  generalize w6.setRow (g8) Nn = w9 at *
  refine wpList_nil ?_
  go_upto_region 4 with fail
  refine wp_region_list ?_
  refine wpList_run rfl (.pointer (some ⟨g8, 3, none⟩)) (exec_indexAddr24 (.tmp 3) (.const (.int .i64 3)) rfl (g8) 3 rfl rfl (by decide) _) ?_
  simp only [Act.put, sT, sS, sZ]
  refine wpList_run rfl (.int .u64 (d3 : Int)) (exec_load_one _ 22 (.tmp 13) rfl ⟨g8, 3, none⟩ rfl _ (cell_part (HS10.out.get (g8) Nn 24 (by simp)) 3 _ CNn_3) _ Tryd.underlying22 rfl) ?_
  simp only [Act.put, sT, sS, sZ]
  refine wpList_run rfl (.int .u64 (1 : Int)) (exec_shr63 (.tmp 14) rfl rfl d3 1 h63.out rfl _) ?_
  simp only [Act.put, sT, sS, sZ]
  refine wpList_run rfl (.int .u64 (1 : Int)) (exec_assign (.tmp 15) rfl _ rfl _) ?_
  simp only [Act.put, sT, sS, sZ]
  refine wpList_nil ?_
  go_upto_region 5 with fail
  refine wp_region_list ?_
  refine wpList_run rfl (.pointer (some ⟨g8, 3, none⟩)) (exec_indexAddr24 (.tmp 3) (.const (.int .i64 3)) rfl (g8) 3 rfl rfl (by decide) _) ?_
  simp only [Act.put, sT, sS, sZ]
  refine wpList_run rfl (.int .u64 (d3 : Int)) (exec_load_one _ 22 (.tmp 16) rfl ⟨g8, 3, none⟩ rfl _ (cell_part (HS10.out.get (g8) Nn 24 (by simp)) 3 _ CNn_3) _ Tryd.underlying22 rfl) ?_
  simp only [Act.put, sT, sS, sZ]
  refine wpList_run rfl (.int .u64 (s3 : Int)) (exec_shl1 (.tmp 17) rfl rfl d3 s3 hs3.out rfl _) ?_
  simp only [Act.put, sT, sS, sZ]
  refine wpList_run rfl (.int .u64 (r3 : Int)) (exec_shr1 (.tmp 18) rfl rfl s3 r3 hr3.out rfl _) ?_
  simp only [Act.put, sT, sS, sZ]
  refine wpList_run rfl (.pointer (some ⟨g8, 3, none⟩)) (exec_indexAddr24 (.tmp 3) (.const (.int .i64 3)) rfl (g8) 3 rfl rfl (by decide) _) ?_
  simp only [Act.put, sT, sS, sZ]
  refine wpList_run0 rfl (exec_store22 _ (.tmp 20) (.tmp 19) rfl (g8) 3 rfl r3 rfl Nn Yn 24 (HS10.out.get (g8) Nn 24 (by simp)) CNn_3 hset.out) ?_
  simp only [Act.put, sT, sS, sZ]
  have HS12 : Hid (Kt w [(g8, Yn, 24), (w.heap.size, ZR4, 31)] (w9.setRow (g8) Yn)) := Lib.hid (HS10.out.set (g8) Yn Nn 24 (HS10.out.get (g8) Nn 24 (by simp)) (by omega) (fun p hp => by simp at hp; rcases hp with rfl | rfl <;> first | exact .inl rfl | exact .inr ⟨by simp, by simp only; omega⟩))
  clear HS10
  generalize w9.setRow (g8) Yn = w11 at *
  refine wpList_nil ?_
  go_upto_region 6 with fail
  refine wp_cut (fun a' W' => a' = { tmps := #[.string ⟨(m ++ [b]).toArray⟩, undef, .pointer (some ⟨w.heap.size, 0, none⟩), .pointer (some ⟨g8, 0, none⟩), .int .u64 (1 : Int), undef, undef, .string ⟨(m ++ [b]).toArray⟩, .int .i64 (32 : Int), .bool false, undef, .string ⟨(m ++ [b]).toArray⟩, .agg Nn, .pointer (some ⟨g8, 3, none⟩), .int .u64 (d3 : Int), .int .u64 (1 : Int), .pointer (some ⟨g8, 3, none⟩), .int .u64 (d3 : Int), .int .u64 (s3 : Int), .int .u64 (r3 : Int), .pointer (some ⟨g8, 3, none⟩), .agg Yn, .agg NN6, .bool true, .bool false, undef, undef, undef, undef, undef, undef, undef, undef, undef, undef, undef, undef, undef, undef, undef, undef, undef, undef, undef, undef, undef, undef, undef, undef, undef, undef, undef, undef, undef, undef, undef, undef, undef, undef, undef, undef, undef, undef, undef, undef, undef], defers := [] } ∧ Kt w [(g8, Yn, 24), (w.heap.size, ZR4, 31)] W') ?_ ?_
  · refine wp_region_any (by kernel_rfl) ?_
    change wpAny _ _ _ _ _ _ _ (World.drew _)
    have HDq13x1 := HS12.out.drew
    clear HS12
    generalize w11.drew = wdq13x2 at *
    refine any_of_F (S := Kt w [(g8, Yn, 24), (w.heap.size, ZR4, 31)]) (f := 1000) _ _ _ _ ?_
    refine tkG 0 (some 21) (.load 24 (.tmp 3)) none (.agg Yn) (fun o ho w2 hw => exec_load_of _ 24 (.tmp 3) ho ⟨g8, 0, none⟩ rfl _ (loadA24 IYn (hw.get (g8) Yn 24 (by simp)))) HDq13x1 ?_
    simp only [Act.put, sT, sS, sZ]
    refine rdy [1] (rcl (some 22) 33 #[] #[] #[] en33 _ (HC5.out _) ?_ ReadyF.nil)
    rintro v wq13x11 ⟨he, hb⟩
    cases he
    have Hq13x12 := HDq13x1.below hb
    clear hb
    refine ⟨Hq13x12, ?_⟩
    simp only [Act.put, sT, sS, sZ]
    refine rdy [2] (rcl (some 23) 32 #[.tmp 21, .tmp 22] #[24, 24] #[.agg Yn, .agg NN6] en32 _ (HC7.out _) ?_ ReadyF.nil)
    rintro v wq13x13 ⟨he, hb⟩
    cases he
    have Hq13x14 := Hq13x12.below hb
    clear hb
    refine ⟨Hq13x14, ?_⟩
    simp only [Act.put, sT, sS, sZ]
    refine tkG 3 (some 24) (.unOp .not 4 (.tmp 23)) none (.bool false) (fun o ho w2 hw => exec_notv (.tmp 23) ho _ rfl false rfl w2) Hq13x14 ?_
    simp only [Act.put, sT, sS, sZ]
    refine AnyF.done (by kernel_rfl) ?_ _
    refine nrm_intro ⟨rfl, Hq13x14.sub (fun p hp => by simp at hp; rcases hp with rfl | rfl <;> simp)⟩
  rintro a' w14 ⟨rfl, hk⟩
  have HS15 := Lib.hid hk
  clear hk HS12
  go_upto_region 8 with fail
  refine wp_region_list ?_
  refine wpList_run rfl (.agg Yn) (exec_load_of _ 24 (.tmp 3) rfl ⟨g8, 0, none⟩ rfl _ (loadA24 IYn (HS15.out.get (g8) Yn 24 (by simp)))) ?_
  simp only [Act.put, sT, sS, sZ]
  refine wpList_run rfl (.agg Yn) (exec_load_of _ 24 (.tmp 3) rfl ⟨g8, 0, none⟩ rfl _ (loadA24 IYn (HS15.out.get (g8) Yn 24 (by simp)))) ?_
  simp only [Act.put, sT, sS, sZ]
  refine wpList_callF rfl 34 #[.tmp 26, .tmp 27] #[24, 24] rfl #[.agg Yn, .agg Yn] en34 (HC9.out _) ?_
  rintro v w16 ⟨he, hb⟩
  cases he
  have HS17 := Lib.hid (HS15.out.below hb)
  clear hb HS15
  simp only [Act.put, sT, sS, sZ]
  refine wpList_run rfl _ (exec_alloc_agg _ 24 rfl _ (HZ24 _)) ?_
  simp only [Act.put, sT, sS, sZ]
  have lg20_0 := HS17.out.lt (g8) Yn 24 (by simp)
  have lg20_1 := HS17.out.lt (w.heap.size) ZR4 31 (by simp)
  have bg20 := HS17.out.1.size
  have HS19 := Lib.hid (HS17.out.new NN2 24)
  clear HS17
  generalize w16.alloc (.cells NN2 24) = w18 at *
  generalize w16.heap.size = g20 at *
  refine wpList_run0 rfl (exec_store24 _ (.tmp 5) (.tmp 28) rfl (g20) rfl NN8 INN8 rfl NN2 24 (HS19.out.get (g20) NN2 24 (by simp)) SZNN2) ?_
  simp only [Act.put, sT, sS, sZ]
  have HS22 : Hid (Kt w [(g20, NN8, 24), (g8, Yn, 24), (w.heap.size, ZR4, 31)] (w18.setRow (g20) NN8)) := Lib.hid (HS19.out.set (g20) NN8 NN2 24 (HS19.out.get (g20) NN2 24 (by simp)) (by omega) (fun p hp => by simp at hp; rcases hp with rfl | rfl | rfl <;> first | exact .inl rfl | exact .inr ⟨by simp, by simp only; omega⟩))
  clear HS19
  generalize w18.setRow (g20) NN8 = w21 at *
  refine wpList_nil ?_
  have HS23 : Hid (Kt w [(g20, NN8, 24), (w.heap.size, ZR4, 31)] w21) := Lib.hid (HS22.out.sub (fun p hp => by simp at hp; rcases hp with rfl | rfl <;> simp))
  clear HS22
  go_upto_region 9 with fail
  refine wp_cut (fun a' W' => ∃ gq24s0, a' = { tmps := #[.string ⟨(m ++ [b]).toArray⟩, undef, .pointer (some ⟨w.heap.size, 0, none⟩), .pointer (some ⟨g8, 0, none⟩), .int .u64 (1 : Int), .pointer (some ⟨g20, 0, none⟩), .pointer (some ⟨gq24s0, 0, none⟩), .string ⟨(m ++ [b]).toArray⟩, .int .i64 (32 : Int), .bool false, undef, .string ⟨(m ++ [b]).toArray⟩, .agg Nn, .pointer (some ⟨g8, 3, none⟩), .int .u64 (d3 : Int), .int .u64 (1 : Int), .pointer (some ⟨g8, 3, none⟩), .int .u64 (d3 : Int), .int .u64 (s3 : Int), .int .u64 (r3 : Int), .pointer (some ⟨g8, 3, none⟩), .agg Yn, .agg NN6, .bool true, .bool false, undef, .agg Yn, .agg Yn, .agg NN8, .agg NN8, .agg NN11, .agg NN12, .agg NN16, .agg NN8, .agg NN17, .agg NN11, .agg NN19, .agg NN21, .agg NN23, .agg GT25, undef, undef, undef, undef, undef, undef, undef, undef, undef, undef, undef, undef, undef, undef, undef, undef, undef, undef, undef, undef, undef, undef, undef, undef, undef, undef], defers := [] } ∧ Kt w [(w.heap.size, ZR4, 31), (gq24s0, GT25, 60)] W' ∧ w.heap.size ≤ gq24s0 ∧ gq24s0 ≠ g20 ∧ gq24s0 ≠ w.heap.size) ?_ ?_
  · refine wp_region_any (by kernel_rfl) ?_
    change wpAny _ _ _ _ _ _ _ (World.drew _)
    have HDq24x1 := HS23.out.drew
    clear HS23
    generalize w21.drew = wdq24x2 at *
    refine any_of_F (S := Kt w [(g20, NN8, 24), (w.heap.size, ZR4, 31)]) (f := 1000) _ _ _ _ ?_
    refine F_have 1 #[true, true, true, true, true, true, true, true, true, true, true, true, false] (fun a W => ∃ gjq24_0_0, a = { tmps := #[.string ⟨(m ++ [b]).toArray⟩, undef, .pointer (some ⟨w.heap.size, 0, none⟩), .pointer (some ⟨g8, 0, none⟩), .int .u64 (1 : Int), .pointer (some ⟨g20, 0, none⟩), .pointer (some ⟨gjq24_0_0, 0, none⟩), .string ⟨(m ++ [b]).toArray⟩, .int .i64 (32 : Int), .bool false, undef, .string ⟨(m ++ [b]).toArray⟩, .agg Nn, .pointer (some ⟨g8, 3, none⟩), .int .u64 (d3 : Int), .int .u64 (1 : Int), .pointer (some ⟨g8, 3, none⟩), .int .u64 (d3 : Int), .int .u64 (s3 : Int), .int .u64 (r3 : Int), .pointer (some ⟨g8, 3, none⟩), .agg Yn, .agg NN6, .bool true, .bool false, undef, .agg Yn, .agg Yn, .agg NN8, .agg NN8, .agg NN11, .agg NN12, .agg NN16, .agg NN8, .agg NN17, .agg NN11, .agg NN19, .agg NN21, .agg NN23, .agg GT25, undef, undef, undef, undef, undef, undef, undef, undef, undef, undef, undef, undef, undef, undef, undef, undef, undef, undef, undef, undef, undef, undef, undef, undef, undef, undef], defers := [] } ∧ Kt w [(g20, NN8, 24), (w.heap.size, ZR4, 31)] W ∧ Kt w [(gjq24_0_0, ZR14, 60)] W ∧ w.heap.size ≤ gjq24_0_0 ∧ gjq24_0_0 ≠ g20 ∧ gjq24_0_0 ≠ w.heap.size) ?_ ?_
    · rintro a wq24x11 ⟨gjq24_0_0, rfl, Hq24x12, Eq24x13, fJq24_0_0, fJq24_0_1, fJq24_0_2⟩
      refine rdy [12] (ReadyF.op0 (.store 60 (.tmp 6) (.tmp 39)) rfl (fun o ho => exec_store29 wq24x11 (.tmp 6) (.tmp 39) ho (gjq24_0_0) rfl GT25 IGT25 rfl ZR14 60 (Eq24x13.get (gjq24_0_0) ZR14 60 (by simp)) SZZR14) (Hq24x12.set (gjq24_0_0) GT25 ZR14 60 (Eq24x13.get (gjq24_0_0) ZR14 60 (by simp)) (by omega) (fun p hp => by simp at hp; rcases hp with rfl | rfl <;> exact .inr ⟨by simp, by simp only; omega⟩)) ?_ ReadyF.nil)
      have Hq24x15 := Hq24x12.set (gjq24_0_0) GT25 ZR14 60 (Eq24x13.get (gjq24_0_0) ZR14 60 (by simp)) (by omega) (m := [(g20, NN8, 24), (w.heap.size, ZR4, 31)]) (fun p hp => by simp at hp; rcases hp with rfl | rfl <;> exact .inr ⟨by simp, by simp only; omega⟩)
      have Eq24x16 := Eq24x13.set (gjq24_0_0) GT25 ZR14 60 (Eq24x13.get (gjq24_0_0) ZR14 60 (by simp)) (by omega) (m := [(gjq24_0_0, GT25, 60)]) (fun p hp => by simp at hp; subst hp; first | exact .inl rfl | exact .inr ⟨by simp, by simp only; omega⟩)
      generalize wq24x11.setRow (gjq24_0_0) GT25 = wq24x14 at *
      refine AnyF.done (by kernel_rfl) ?_ _
      refine nrm_intro ⟨gjq24_0_0, rfl, (Hq24x15.app Eq24x16).sub (fun p hp => by simp at hp; rcases hp with rfl | rfl <;> simp), by omega, by omega, by omega⟩
    intro Jq24_0
    refine F_have 2 #[true, true, true, true, true, true, true, true, true, true, false, true, false] (fun a W => ∃ gjq24_1_0, a = { tmps := #[.string ⟨(m ++ [b]).toArray⟩, undef, .pointer (some ⟨w.heap.size, 0, none⟩), .pointer (some ⟨g8, 0, none⟩), .int .u64 (1 : Int), .pointer (some ⟨g20, 0, none⟩), .pointer (some ⟨gjq24_1_0, 0, none⟩), .string ⟨(m ++ [b]).toArray⟩, .int .i64 (32 : Int), .bool false, undef, .string ⟨(m ++ [b]).toArray⟩, .agg Nn, .pointer (some ⟨g8, 3, none⟩), .int .u64 (d3 : Int), .int .u64 (1 : Int), .pointer (some ⟨g8, 3, none⟩), .int .u64 (d3 : Int), .int .u64 (s3 : Int), .int .u64 (r3 : Int), .pointer (some ⟨g8, 3, none⟩), .agg Yn, .agg NN6, .bool true, .bool false, undef, .agg Yn, .agg Yn, .agg NN8, .agg NN8, .agg NN11, .agg NN12, .agg NN16, .agg NN8, .agg NN17, .agg NN11, .agg NN19, .agg NN21, .agg NN23, undef, undef, undef, undef, undef, undef, undef, undef, undef, undef, undef, undef, undef, undef, undef, undef, undef, undef, undef, undef, undef, undef, undef, undef, undef, undef, undef], defers := [] } ∧ Kt w [(g20, NN8, 24), (w.heap.size, ZR4, 31)] W ∧ Kt w [(gjq24_1_0, ZR14, 60)] W ∧ w.heap.size ≤ gjq24_1_0 ∧ gjq24_1_0 ≠ g20 ∧ gjq24_1_0 ≠ w.heap.size) ?_ ?_
    · rintro a wq24x17 ⟨gjq24_1_0, rfl, Hq24x18, Eq24x19, fJq24_1_0, fJq24_1_1, fJq24_1_2⟩
      refine rdy [10] (rcl (some 39) 35 #[.tmp 38] #[24] #[.agg NN23] en35 _ (HC26.out _) ?_ ReadyF.nil)
      rintro v wq24x20 ⟨he, hb⟩
      cases he
      have Hq24x21 := Hq24x18.below hb
      have Eq24x22 := Eq24x19.below hb
      clear hb
      refine ⟨Hq24x21, ?_⟩
      simp only [Act.put, sT, sS, sZ]
      exact F_to (by kernel_rfl) (by kernel_rfl) (Jq24_0 _ _ ⟨gjq24_1_0, rfl, Hq24x21, Eq24x22, by omega, by omega, by omega⟩)
    intro Jq24_1
    refine F_have 3 #[true, true, true, true, true, true, true, true, true, false, false, true, false] (fun a W => ∃ gjq24_2_0, a = { tmps := #[.string ⟨(m ++ [b]).toArray⟩, undef, .pointer (some ⟨w.heap.size, 0, none⟩), .pointer (some ⟨g8, 0, none⟩), .int .u64 (1 : Int), .pointer (some ⟨g20, 0, none⟩), .pointer (some ⟨gjq24_2_0, 0, none⟩), .string ⟨(m ++ [b]).toArray⟩, .int .i64 (32 : Int), .bool false, undef, .string ⟨(m ++ [b]).toArray⟩, .agg Nn, .pointer (some ⟨g8, 3, none⟩), .int .u64 (d3 : Int), .int .u64 (1 : Int), .pointer (some ⟨g8, 3, none⟩), .int .u64 (d3 : Int), .int .u64 (s3 : Int), .int .u64 (r3 : Int), .pointer (some ⟨g8, 3, none⟩), .agg Yn, .agg NN6, .bool true, .bool false, undef, .agg Yn, .agg Yn, .agg NN8, .agg NN8, .agg NN11, .agg NN12, .agg NN16, .agg NN8, .agg NN17, .agg NN11, .agg NN19, .agg NN21, undef, undef, undef, undef, undef, undef, undef, undef, undef, undef, undef, undef, undef, undef, undef, undef, undef, undef, undef, undef, undef, undef, undef, undef, undef, undef, undef, undef], defers := [] } ∧ Kt w [(g20, NN8, 24), (w.heap.size, ZR4, 31)] W ∧ Kt w [(gjq24_2_0, ZR14, 60)] W ∧ w.heap.size ≤ gjq24_2_0 ∧ gjq24_2_0 ≠ g20 ∧ gjq24_2_0 ≠ w.heap.size) ?_ ?_
    · rintro a wq24x23 ⟨gjq24_2_0, rfl, Hq24x24, Eq24x25, fJq24_2_0, fJq24_2_1, fJq24_2_2⟩
      refine rdy [9] (rcl (some 38) 34 #[.tmp 31, .tmp 37] #[24, 24] #[.agg NN12, .agg NN21] en34 _ (HC24.out _) ?_ ReadyF.nil)
      rintro v wq24x26 ⟨he, hb⟩
      cases he
      have Hq24x27 := Hq24x24.below hb
      have Eq24x28 := Eq24x25.below hb
      clear hb
      refine ⟨Hq24x27, ?_⟩
      simp only [Act.put, sT, sS, sZ]
      exact F_to (by kernel_rfl) (by kernel_rfl) (Jq24_1 _ _ ⟨gjq24_2_0, rfl, Hq24x27, Eq24x28, by omega, by omega, by omega⟩)
    intro Jq24_2
    refine F_have 4 #[true, true, true, true, true, true, true, true, false, false, false, true, false] (fun a W => ∃ gjq24_3_0, a = { tmps := #[.string ⟨(m ++ [b]).toArray⟩, undef, .pointer (some ⟨w.heap.size, 0, none⟩), .pointer (some ⟨g8, 0, none⟩), .int .u64 (1 : Int), .pointer (some ⟨g20, 0, none⟩), .pointer (some ⟨gjq24_3_0, 0, none⟩), .string ⟨(m ++ [b]).toArray⟩, .int .i64 (32 : Int), .bool false, undef, .string ⟨(m ++ [b]).toArray⟩, .agg Nn, .pointer (some ⟨g8, 3, none⟩), .int .u64 (d3 : Int), .int .u64 (1 : Int), .pointer (some ⟨g8, 3, none⟩), .int .u64 (d3 : Int), .int .u64 (s3 : Int), .int .u64 (r3 : Int), .pointer (some ⟨g8, 3, none⟩), .agg Yn, .agg NN6, .bool true, .bool false, undef, .agg Yn, .agg Yn, .agg NN8, .agg NN8, .agg NN11, .agg NN12, .agg NN16, .agg NN8, .agg NN17, .agg NN11, .agg NN19, undef, undef, undef, undef, undef, undef, undef, undef, undef, undef, undef, undef, undef, undef, undef, undef, undef, undef, undef, undef, undef, undef, undef, undef, undef, undef, undef, undef, undef], defers := [] } ∧ Kt w [(g20, NN8, 24), (w.heap.size, ZR4, 31)] W ∧ Kt w [(gjq24_3_0, ZR14, 60)] W ∧ w.heap.size ≤ gjq24_3_0 ∧ gjq24_3_0 ≠ g20 ∧ gjq24_3_0 ≠ w.heap.size) ?_ ?_
    · rintro a wq24x29 ⟨gjq24_3_0, rfl, Hq24x30, Eq24x31, fJq24_3_0, fJq24_3_1, fJq24_3_2⟩
      refine rdy [8] (rcl (some 37) 36 #[.tmp 36] #[24] #[.agg NN19] en36 _ (HC22.out _) ?_ ReadyF.nil)
      rintro v wq24x32 ⟨he, hb⟩
      cases he
      have Hq24x33 := Hq24x30.below hb
      have Eq24x34 := Eq24x31.below hb
      clear hb
      refine ⟨Hq24x33, ?_⟩
      simp only [Act.put, sT, sS, sZ]
      exact F_to (by kernel_rfl) (by kernel_rfl) (Jq24_2 _ _ ⟨gjq24_3_0, rfl, Hq24x33, Eq24x34, by omega, by omega, by omega⟩)
    intro Jq24_3
    refine F_have 5 #[true, true, true, true, true, true, true, false, false, false, false, true, false] (fun a W => ∃ gjq24_4_0, a = { tmps := #[.string ⟨(m ++ [b]).toArray⟩, undef, .pointer (some ⟨w.heap.size, 0, none⟩), .pointer (some ⟨g8, 0, none⟩), .int .u64 (1 : Int), .pointer (some ⟨g20, 0, none⟩), .pointer (some ⟨gjq24_4_0, 0, none⟩), .string ⟨(m ++ [b]).toArray⟩, .int .i64 (32 : Int), .bool false, undef, .string ⟨(m ++ [b]).toArray⟩, .agg Nn, .pointer (some ⟨g8, 3, none⟩), .int .u64 (d3 : Int), .int .u64 (1 : Int), .pointer (some ⟨g8, 3, none⟩), .int .u64 (d3 : Int), .int .u64 (s3 : Int), .int .u64 (r3 : Int), .pointer (some ⟨g8, 3, none⟩), .agg Yn, .agg NN6, .bool true, .bool false, undef, .agg Yn, .agg Yn, .agg NN8, .agg NN8, .agg NN11, .agg NN12, .agg NN16, .agg NN8, .agg NN17, .agg NN11, undef, undef, undef, undef, undef, undef, undef, undef, undef, undef, undef, undef, undef, undef, undef, undef, undef, undef, undef, undef, undef, undef, undef, undef, undef, undef, undef, undef, undef, undef], defers := [] } ∧ Kt w [(g20, NN8, 24), (w.heap.size, ZR4, 31)] W ∧ Kt w [(gjq24_4_0, ZR14, 60)] W ∧ w.heap.size ≤ gjq24_4_0 ∧ gjq24_4_0 ≠ g20 ∧ gjq24_4_0 ≠ w.heap.size) ?_ ?_
    · rintro a wq24x35 ⟨gjq24_4_0, rfl, Hq24x36, Eq24x37, fJq24_4_0, fJq24_4_1, fJq24_4_2⟩
      refine rdy [7] (rcl (some 36) 37 #[.tmp 34, .tmp 35] #[24, 24] #[.agg NN17, .agg NN11] en37 _ (HC20.out _) ?_ ReadyF.nil)
      rintro v wq24x38 ⟨he, hb⟩
      cases he
      have Hq24x39 := Hq24x36.below hb
      have Eq24x40 := Eq24x37.below hb
      clear hb
      refine ⟨Hq24x39, ?_⟩
      simp only [Act.put, sT, sS, sZ]
      exact F_to (by kernel_rfl) (by kernel_rfl) (Jq24_3 _ _ ⟨gjq24_4_0, rfl, Hq24x39, Eq24x40, by omega, by omega, by omega⟩)
    intro Jq24_4
    refine F_have 6 #[true, true, true, true, true, false, true, false, false, false, false, true, false] (fun a W => ∃ gjq24_5_0, a = { tmps := #[.string ⟨(m ++ [b]).toArray⟩, undef, .pointer (some ⟨w.heap.size, 0, none⟩), .pointer (some ⟨g8, 0, none⟩), .int .u64 (1 : Int), .pointer (some ⟨g20, 0, none⟩), .pointer (some ⟨gjq24_5_0, 0, none⟩), .string ⟨(m ++ [b]).toArray⟩, .int .i64 (32 : Int), .bool false, undef, .string ⟨(m ++ [b]).toArray⟩, .agg Nn, .pointer (some ⟨g8, 3, none⟩), .int .u64 (d3 : Int), .int .u64 (1 : Int), .pointer (some ⟨g8, 3, none⟩), .int .u64 (d3 : Int), .int .u64 (s3 : Int), .int .u64 (r3 : Int), .pointer (some ⟨g8, 3, none⟩), .agg Yn, .agg NN6, .bool true, .bool false, undef, .agg Yn, .agg Yn, .agg NN8, .agg NN8, .agg NN11, .agg NN12, .agg NN16, .agg NN8, undef, .agg NN11, undef, undef, undef, undef, undef, undef, undef, undef, undef, undef, undef, undef, undef, undef, undef, undef, undef, undef, undef, undef, undef, undef, undef, undef, undef, undef, undef, undef, undef, undef], defers := [] } ∧ Kt w [(g20, NN8, 24), (w.heap.size, ZR4, 31)] W ∧ Kt w [(gjq24_5_0, ZR14, 60)] W ∧ w.heap.size ≤ gjq24_5_0 ∧ gjq24_5_0 ≠ g20 ∧ gjq24_5_0 ≠ w.heap.size) ?_ ?_
    · rintro a wq24x41 ⟨gjq24_5_0, rfl, Hq24x42, Eq24x43, fJq24_5_0, fJq24_5_1, fJq24_5_2⟩
      refine rdy [5] (rcl (some 34) 34 #[.tmp 32, .tmp 33] #[24, 24] #[.agg NN16, .agg NN8] en34 _ (HC18.out _) ?_ ReadyF.nil)
      rintro v wq24x44 ⟨he, hb⟩
      cases he
      have Hq24x45 := Hq24x42.below hb
      have Eq24x46 := Eq24x43.below hb
      clear hb
      refine ⟨Hq24x45, ?_⟩
      simp only [Act.put, sT, sS, sZ]
      exact F_to (by kernel_rfl) (by kernel_rfl) (Jq24_4 _ _ ⟨gjq24_5_0, rfl, Hq24x45, Eq24x46, by omega, by omega, by omega⟩)
    intro Jq24_5
    refine F_have 7 #[true, true, true, false, true, false, true, false, false, false, false, true, false] (fun a W => ∃ gjq24_6_0, a = { tmps := #[.string ⟨(m ++ [b]).toArray⟩, undef, .pointer (some ⟨w.heap.size, 0, none⟩), .pointer (some ⟨g8, 0, none⟩), .int .u64 (1 : Int), .pointer (some ⟨g20, 0, none⟩), .pointer (some ⟨gjq24_6_0, 0, none⟩), .string ⟨(m ++ [b]).toArray⟩, .int .i64 (32 : Int), .bool false, undef, .string ⟨(m ++ [b]).toArray⟩, .agg Nn, .pointer (some ⟨g8, 3, none⟩), .int .u64 (d3 : Int), .int .u64 (1 : Int), .pointer (some ⟨g8, 3, none⟩), .int .u64 (d3 : Int), .int .u64 (s3 : Int), .int .u64 (r3 : Int), .pointer (some ⟨g8, 3, none⟩), .agg Yn, .agg NN6, .bool true, .bool false, undef, .agg Yn, .agg Yn, .agg NN8, .agg NN8, .agg NN11, .agg NN12, undef, .agg NN8, undef, .agg NN11, undef, undef, undef, undef, undef, undef, undef, undef, undef, undef, undef, undef, undef, undef, undef, undef, undef, undef, undef, undef, undef, undef, undef, undef, undef, undef, undef, undef, undef, undef], defers := [] } ∧ Kt w [(g20, NN8, 24), (w.heap.size, ZR4, 31)] W ∧ Kt w [(gjq24_6_0, ZR14, 60)] W ∧ w.heap.size ≤ gjq24_6_0 ∧ gjq24_6_0 ≠ g20 ∧ gjq24_6_0 ≠ w.heap.size) ?_ ?_
    · rintro a wq24x47 ⟨gjq24_6_0, rfl, Hq24x48, Eq24x49, fJq24_6_0, fJq24_6_1, fJq24_6_2⟩
      refine rdy [3] (rcl (some 32) 38 #[] #[] #[] en38 _ (HC15.out _) ?_ ReadyF.nil)
      rintro v wq24x50 ⟨he, hb⟩
      cases he
      have Hq24x51 := Hq24x48.below hb
      have Eq24x52 := Eq24x49.below hb
      clear hb
      refine ⟨Hq24x51, ?_⟩
      simp only [Act.put, sT, sS, sZ]
      exact F_to (by kernel_rfl) (by kernel_rfl) (Jq24_5 _ _ ⟨gjq24_6_0, rfl, Hq24x51, Eq24x52, by omega, by omega, by omega⟩)
    intro Jq24_6
    refine tkG 0 (some 29) (.load 24 (.tmp 5)) none (.agg NN8) (fun o ho w2 hw => exec_load_of _ 24 (.tmp 5) ho ⟨g20, 0, none⟩ rfl _ (loadA24 INN8 (hw.get (g20) NN8 24 (by simp)))) HDq24x1 ?_
    simp only [Act.put, sT, sS, sZ]
    refine tkG 1 (some 30) (.build 24 #[(0, .const (.int .u64 1))]) none (.agg NN11) (fun o ho w2 hw => exec_buildN _ 24 #[(0, .const (.int .u64 1))] ho #[(0, .int .u64 1)] (by simp [Act.eval]) _ (BF10 _)) HDq24x1 ?_
    simp only [Act.put, sT, sS, sZ]
    refine tkG 4 (some 33) (.load 24 (.tmp 5)) none (.agg NN8) (fun o ho w2 hw => exec_load_of _ 24 (.tmp 5) ho ⟨g20, 0, none⟩ rfl _ (loadA24 INN8 (hw.get (g20) NN8 24 (by simp)))) HDq24x1 ?_
    simp only [Act.put, sT, sS, sZ]
    refine tkG 6 (some 35) (.build 24 #[(0, .const (.int .u64 1))]) none (.agg NN11) (fun o ho w2 hw => exec_buildN _ 24 #[(0, .const (.int .u64 1))] ho #[(0, .int .u64 1)] (by simp [Act.eval]) _ (BF10 _)) HDq24x1 ?_
    simp only [Act.put, sT, sS, sZ]
    refine rdy [2, 11] (rcl (some 31) 24 #[.tmp 29, .tmp 30] #[24, 24] #[.agg NN8, .agg NN11] en24 _ (HC13.out _) ?_ (ral 6 60 HZ60 (HDq24x1.alloc _) ?_ ReadyF.nil))
    · rintro v wq24x53 ⟨he, hb⟩
      cases he
      have Hq24x54 := HDq24x1.below hb
      clear hb
      refine ⟨Hq24x54, ?_⟩
      simp only [Act.put, sT, sS, sZ]
      refine rdy [3, 11] (rcl (some 32) 38 #[] #[] #[] en38 _ (HC15.out _) ?_ (ral 6 60 HZ60 (Hq24x54.alloc _) ?_ ReadyF.nil))
      · rintro v wq24x55 ⟨he, hb⟩
        cases he
        have Hq24x56 := Hq24x54.below hb
        clear hb
        refine ⟨Hq24x56, ?_⟩
        simp only [Act.put, sT, sS, sZ]
        refine rdy [5, 11] (rcl (some 34) 34 #[.tmp 32, .tmp 33] #[24, 24] #[.agg NN16, .agg NN8] en34 _ (HC18.out _) ?_ (ral 6 60 HZ60 (Hq24x56.alloc _) ?_ ReadyF.nil))
        · rintro v wq24x57 ⟨he, hb⟩
          cases he
          have Hq24x58 := Hq24x56.below hb
          clear hb
          refine ⟨Hq24x58, ?_⟩
          simp only [Act.put, sT, sS, sZ]
          refine rdy [7, 11] (rcl (some 36) 37 #[.tmp 34, .tmp 35] #[24, 24] #[.agg NN17, .agg NN11] en37 _ (HC20.out _) ?_ (ral 6 60 HZ60 (Hq24x58.alloc _) ?_ ReadyF.nil))
          · rintro v wq24x59 ⟨he, hb⟩
            cases he
            have Hq24x60 := Hq24x58.below hb
            clear hb
            refine ⟨Hq24x60, ?_⟩
            simp only [Act.put, sT, sS, sZ]
            refine rdy [8, 11] (rcl (some 37) 36 #[.tmp 36] #[24] #[.agg NN19] en36 _ (HC22.out _) ?_ (ral 6 60 HZ60 (Hq24x60.alloc _) ?_ ReadyF.nil))
            · rintro v wq24x61 ⟨he, hb⟩
              cases he
              have Hq24x62 := Hq24x60.below hb
              clear hb
              refine ⟨Hq24x62, ?_⟩
              simp only [Act.put, sT, sS, sZ]
              refine rdy [9, 11] (rcl (some 38) 34 #[.tmp 31, .tmp 37] #[24, 24] #[.agg NN12, .agg NN21] en34 _ (HC24.out _) ?_ (ral 6 60 HZ60 (Hq24x62.alloc _) ?_ ReadyF.nil))
              · rintro v wq24x63 ⟨he, hb⟩
                cases he
                have Hq24x64 := Hq24x62.below hb
                clear hb
                refine ⟨Hq24x64, ?_⟩
                simp only [Act.put, sT, sS, sZ]
                refine rdy [10, 11] (rcl (some 39) 35 #[.tmp 38] #[24] #[.agg NN23] en35 _ (HC26.out _) ?_ (ral 6 60 HZ60 (Hq24x64.alloc _) ?_ ReadyF.nil))
                · rintro v wq24x65 ⟨he, hb⟩
                  cases he
                  have Hq24x66 := Hq24x64.below hb
                  clear hb
                  refine ⟨Hq24x66, ?_⟩
                  simp only [Act.put, sT, sS, sZ]
                  refine rdy [11] (ral 6 60 HZ60 (Hq24x66.alloc _) ?_ ReadyF.nil)
                  have l0wq24x67 := Hq24x66.lt (g20) NN8 24 (by simp)
                  have l1wq24x67 := Hq24x66.lt (w.heap.size) ZR4 31 (by simp)
                  have bwq24x67 := Hq24x66.1.size
                  have Hq24x68 := Hq24x66.alloc (.cells ZR14 60)
                  have Eq24x69 := (Hq24x66.sub (m := []) (fun p hp => by cases hp)).new ZR14 60
                  simp only [Act.put, sT, sS, sZ]
                  obtain ⟨wq24x67, hwq24x67⟩ : ∃ W, W = wq24x65.alloc (.cells ZR14 60) := ⟨_, rfl⟩
                  rw [← hwq24x67] at Hq24x68 Eq24x69 ⊢
                  clear hwq24x67
                  exact F_to (by kernel_rfl) (by kernel_rfl) (Jq24_0 _ _ ⟨wq24x65.heap.size, rfl, Hq24x68, Eq24x69, by omega, by omega, by omega⟩)
                · have l0wq24x70 := Hq24x64.lt (g20) NN8 24 (by simp)
                  have l1wq24x70 := Hq24x64.lt (w.heap.size) ZR4 31 (by simp)
                  have bwq24x70 := Hq24x64.1.size
                  have Hq24x71 := Hq24x64.alloc (.cells ZR14 60)
                  have Eq24x72 := (Hq24x64.sub (m := []) (fun p hp => by cases hp)).new ZR14 60
                  simp only [Act.put, sT, sS, sZ]
                  obtain ⟨wq24x70, hwq24x70⟩ : ∃ W, W = wq24x63.alloc (.cells ZR14 60) := ⟨_, rfl⟩
                  rw [← hwq24x70] at Hq24x71 Eq24x72 ⊢
                  clear hwq24x70
                  exact F_to (by kernel_rfl) (by kernel_rfl) (Jq24_1 _ _ ⟨wq24x63.heap.size, rfl, Hq24x71, Eq24x72, by omega, by omega, by omega⟩)
              · have l0wq24x73 := Hq24x62.lt (g20) NN8 24 (by simp)
                have l1wq24x73 := Hq24x62.lt (w.heap.size) ZR4 31 (by simp)
                have bwq24x73 := Hq24x62.1.size
                have Hq24x74 := Hq24x62.alloc (.cells ZR14 60)
                have Eq24x75 := (Hq24x62.sub (m := []) (fun p hp => by cases hp)).new ZR14 60
                simp only [Act.put, sT, sS, sZ]
                obtain ⟨wq24x73, hwq24x73⟩ : ∃ W, W = wq24x61.alloc (.cells ZR14 60) := ⟨_, rfl⟩
                rw [← hwq24x73] at Hq24x74 Eq24x75 ⊢
                clear hwq24x73
                exact F_to (by kernel_rfl) (by kernel_rfl) (Jq24_2 _ _ ⟨wq24x61.heap.size, rfl, Hq24x74, Eq24x75, by omega, by omega, by omega⟩)
            · have l0wq24x76 := Hq24x60.lt (g20) NN8 24 (by simp)
              have l1wq24x76 := Hq24x60.lt (w.heap.size) ZR4 31 (by simp)
              have bwq24x76 := Hq24x60.1.size
              have Hq24x77 := Hq24x60.alloc (.cells ZR14 60)
              have Eq24x78 := (Hq24x60.sub (m := []) (fun p hp => by cases hp)).new ZR14 60
              simp only [Act.put, sT, sS, sZ]
              obtain ⟨wq24x76, hwq24x76⟩ : ∃ W, W = wq24x59.alloc (.cells ZR14 60) := ⟨_, rfl⟩
              rw [← hwq24x76] at Hq24x77 Eq24x78 ⊢
              clear hwq24x76
              exact F_to (by kernel_rfl) (by kernel_rfl) (Jq24_3 _ _ ⟨wq24x59.heap.size, rfl, Hq24x77, Eq24x78, by omega, by omega, by omega⟩)
          · have l0wq24x79 := Hq24x58.lt (g20) NN8 24 (by simp)
            have l1wq24x79 := Hq24x58.lt (w.heap.size) ZR4 31 (by simp)
            have bwq24x79 := Hq24x58.1.size
            have Hq24x80 := Hq24x58.alloc (.cells ZR14 60)
            have Eq24x81 := (Hq24x58.sub (m := []) (fun p hp => by cases hp)).new ZR14 60
            simp only [Act.put, sT, sS, sZ]
            obtain ⟨wq24x79, hwq24x79⟩ : ∃ W, W = wq24x57.alloc (.cells ZR14 60) := ⟨_, rfl⟩
            rw [← hwq24x79] at Hq24x80 Eq24x81 ⊢
            clear hwq24x79
            exact F_to (by kernel_rfl) (by kernel_rfl) (Jq24_4 _ _ ⟨wq24x57.heap.size, rfl, Hq24x80, Eq24x81, by omega, by omega, by omega⟩)
        · have l0wq24x82 := Hq24x56.lt (g20) NN8 24 (by simp)
          have l1wq24x82 := Hq24x56.lt (w.heap.size) ZR4 31 (by simp)
          have bwq24x82 := Hq24x56.1.size
          have Hq24x83 := Hq24x56.alloc (.cells ZR14 60)
          have Eq24x84 := (Hq24x56.sub (m := []) (fun p hp => by cases hp)).new ZR14 60
          simp only [Act.put, sT, sS, sZ]
          obtain ⟨wq24x82, hwq24x82⟩ : ∃ W, W = wq24x55.alloc (.cells ZR14 60) := ⟨_, rfl⟩
          rw [← hwq24x82] at Hq24x83 Eq24x84 ⊢
          clear hwq24x82
          exact F_to (by kernel_rfl) (by kernel_rfl) (Jq24_5 _ _ ⟨wq24x55.heap.size, rfl, Hq24x83, Eq24x84, by omega, by omega, by omega⟩)
      · have l0wq24x85 := Hq24x54.lt (g20) NN8 24 (by simp)
        have l1wq24x85 := Hq24x54.lt (w.heap.size) ZR4 31 (by simp)
        have bwq24x85 := Hq24x54.1.size
        have Hq24x86 := Hq24x54.alloc (.cells ZR14 60)
        have Eq24x87 := (Hq24x54.sub (m := []) (fun p hp => by cases hp)).new ZR14 60
        simp only [Act.put, sT, sS, sZ]
        obtain ⟨wq24x85, hwq24x85⟩ : ∃ W, W = wq24x53.alloc (.cells ZR14 60) := ⟨_, rfl⟩
        rw [← hwq24x85] at Hq24x86 Eq24x87 ⊢
        clear hwq24x85
        exact F_to (by kernel_rfl) (by kernel_rfl) (Jq24_6 _ _ ⟨wq24x53.heap.size, rfl, Hq24x86, Eq24x87, by omega, by omega, by omega⟩)
    · have l0wq24x88 := HDq24x1.lt (g20) NN8 24 (by simp)
      have l1wq24x88 := HDq24x1.lt (w.heap.size) ZR4 31 (by simp)
      have bwq24x88 := HDq24x1.1.size
      have Hq24x89 := HDq24x1.alloc (.cells ZR14 60)
      have Eq24x90 := (HDq24x1.sub (m := []) (fun p hp => by cases hp)).new ZR14 60
      simp only [Act.put, sT, sS, sZ]
      obtain ⟨wq24x88, hwq24x88⟩ : ∃ W, W = wdq24x2.alloc (.cells ZR14 60) := ⟨_, rfl⟩
      rw [← hwq24x88] at Hq24x89 Eq24x90 ⊢
      clear hwq24x88
      refine rdy [2] (rcl (some 31) 24 #[.tmp 29, .tmp 30] #[24, 24] #[.agg NN8, .agg NN11] en24 _ (HC13.out _) ?_ ReadyF.nil)
      rintro v wq24x91 ⟨he, hb⟩
      cases he
      have Hq24x92 := Hq24x89.below hb
      have Eq24x93 := Eq24x90.below hb
      clear hb
      refine ⟨Hq24x92, ?_⟩
      simp only [Act.put, sT, sS, sZ]
      exact F_to (by kernel_rfl) (by kernel_rfl) (Jq24_6 _ _ ⟨wdq24x2.heap.size, rfl, Hq24x92, Eq24x93, by omega, by omega, by omega⟩)
  rintro a' w25 ⟨gq24s0, rfl, hk, e27, e28, e29⟩
  have HS26 := Lib.hid hk
  clear hk HS23
  go_upto_region 10 with fail
  refine wp_region_list ?_
  refine wpList_run rfl (.pointer (some ⟨gq24s0, 4, none⟩)) (exec_field 60 (.tmp 6) 1 rfl _ _ rfl _ (fa60_1 (gq24s0) _)) ?_
  simp only [Act.put, sT, sS, sZ]
  refine wpList_run rfl (.bool true) (exec_load_one _ 4 (.tmp 40) rfl ⟨gq24s0, 4, none⟩ rfl _ (cell_part (HS26.out.get (gq24s0) GT25 60 (by simp)) 4 _ CGT25_4) _ Tryd.underlying4 rfl) ?_
  simp only [Act.put, sT, sS, sZ]
  refine wpList_run rfl (.bool false) (exec_notv (.tmp 41) rfl _ rfl false rfl _) ?_
  simp only [Act.put, sT, sS, sZ]
  refine wpList_run rfl (.bool false) (exec_move (.tmp 42) rfl _ rfl _) ?_
  simp only [Act.put, sT, sS, sZ]
  refine wpList_runH (.int .u64 (1 : Int)) (exec_move (.tmp 4) rfl _ rfl _) ?_ (by rfl)
  simp only [Act.put, sT, sS, sZ]
  refine wpList_runH (.bool true) (exec_eql22 (.tmp 44) rfl rfl 1 true rfl (by decide) _) ?_ (by rfl)
  simp only [Act.put, sT, sS, sZ]
  refine wpList_runH (.bool true) (exec_move (.tmp 45) rfl _ rfl _) ?_ (by rfl)
  simp only [Act.put, sT, sS, sZ]
  refine wpList_runH (.pointer (some ⟨gq24s0, 0, none⟩)) (exec_field 60 (.tmp 6) 0 rfl _ _ rfl _ (fa60_0 (gq24s0) _)) ?_ (by rfl)
  simp only [Act.put, sT, sS, sZ]
  refine wpList_runH (.agg NN1) (exec_load_of _ 24 (.tmp 47) rfl ⟨gq24s0, 0, none⟩ rfl _ (load_part (HS26.out.get (gq24s0) GT25 60 (by simp)) INN1 0 SGT25_0)) ?_ (by rfl)
  simp only [Act.put, sT, sS, sZ]
  refine wpList_runH (.agg NN2) (exec_buildN _ 24 #[] rfl #[] (by simp [Act.eval]) _ (BF27 _)) ?_ (by rfl)
  simp only [Act.put, sT, sS, sZ]
  refine wpList_runH (.bool true) (exec_eqv (.tmp 48) (.tmp 49) rfl NN1 NN2 EQ3 rfl rfl _) ?_ (by rfl)
  simp only [Act.put, sT, sS, sZ]
  refine wpList_runH (.bool true) (exec_pickt (.tmp 46) (.tmp 50) (.const (.bool false)) rfl rfl _ rfl _) ?_ (by rfl)
  simp only [Act.put, sT, sS, sZ]
  refine wpList_run rfl (.bool true) (exec_pickf (.tmp 43) (.const (.bool true)) (.tmp 51) rfl rfl _ rfl _) ?_
  simp only [Act.put, sT, sS, sZ]
  refine wpList_nil ?_
  have HS30 : Hid (Kt w [(w.heap.size, ZR4, 31)] w25) := Lib.hid (HS26.out.sub (fun p hp => by simp at hp; subst hp; simp))
  clear HS26
  go_upto_region 11 with fail
  refine wp_region_list ?_
  refine wpList_run rfl (.agg ZR4) (exec_buildN _ 31 #[] rfl #[] (by simp [Act.eval]) _ (BF28 _)) ?_
  simp only [Act.put, sT, sS, sZ]
  refine wpList_run0 rfl (exec_storeT31 _ (.tmp 2) (.tmp 53) rfl (w.heap.size) rfl ZR4 IZR4 rfl ZR4 31 (HS30.out.get (w.heap.size) ZR4 31 (by simp)) SZZR4) ?_
  simp only [Act.put, sT, sS, sZ]
  have HS32 : Hid (Kt w [(w.heap.size, ZR4, 31)] (w25.setRow (w.heap.size) ZR4)) := Lib.hid (HS30.out.set (w.heap.size) ZR4 ZR4 31 (HS30.out.get (w.heap.size) ZR4 31 (by simp)) (by omega) (fun p hp => by simp at hp; subst hp; exact .inl rfl))
  clear HS30
  generalize w25.setRow (w.heap.size) ZR4 = w31 at *
  refine wpList_nil ?_
  go_wp2
  exact bodyPost_ret (results_cell rfl _ _ _ ⟨w.heap.size, 0, none⟩ rfl _ (loadT31 IZR4 (HS32.out.get (w.heap.size) ZR4 31 (by simp)))) rfl ⟨rfl, HS32.out.1⟩
def RFromR (s : ByteArray) (d : (Nat × Nat) × Bool) : Prop := ∀ w, Calls Tryd.prog 12 #[.string s] w fun e w' => e = .returned (.agg (ptV d.1 ++ #[.bool d.2])) ∧ Below w.heap.size w w'
theorem rfromR_of {s : ByteArray} {x y : Nat} {v : Bool} (h : ∀ w, Calls Tryd.prog 12 #[.string s] w fun e w' => e = .returned (.agg (num x ++ num y ++ #[.bool v])) ∧ Below w.heap.size w w') : RFromR s ((x, y), v) := h
theorem rfromR_no {s : ByteArray} (h : ∀ w, Calls Tryd.prog 12 #[.string s] w fun e w' => e = .returned (.agg (spotV (fun _ => 0) false)) ∧ Below w.heap.size w w') : RFromR s ((0, 0), false) := by
  rw [spot_none] at h
  exact h
theorem rfromR_a (s : ByteArray) (h : s.size ≠ 32) : RFromR s (fromP s) := by
  have e : fromP s = ((0, 0), false) := by unfold fromP; rw [if_neg h]
  rw [e]
  exact rfromR_no (fun w => rfrom_a s h w)
theorem rfromR_b (m : List UInt8) (b c : UInt8) (hm : m.length = 31) (hc : c.toNat = b.toNat % 128) (y : Nat) (hy : y = leVal m + c.toNat * 256 ^ 31) : RFromR ⟨(m ++ [b]).toArray⟩ (decQ y (b.toNat / 128)) := by
  have hb256 := b.toNat_lt
  refine decQ_cases (RFromR ⟨(m ++ [b]).toArray⟩) y (b.toNat / 128) (by omega) ?_ ?_ ?_ ?_ ?_
  · intro h1
    by_cases hq : b.toNat < 128
    · exact rfromR_no (fun w => rfrom_b0 m b c hm hc y hy h1 hq w)
    · exact rfromR_no (fun w => rfrom_b1 m b c hm hc y hy h1 hq w)
  · intro h1 h2
    by_cases hq : b.toNat < 128
    · exact rfromR_no (fun w => rfrom_c0 m b c hm hc y hy h1 h2 hq w)
    · exact rfromR_no (fun w => rfrom_c1 m b c hm hc y hy h1 h2 hq w)
  · intro h1 h2 h3
    exact rfromR_of (fun w => rfrom_d0 m b c hm hc y hy h1 h2 (by omega) w)
  · intro h1 h2 h3 h4
    exact rfromR_of (fun w => rfrom_d1 m b c hm hc y hy h1 h2 h4 (by omega) w)
  · intro h1 h2 h3 h4
    exact rfromR_no (fun w => rfrom_e1 m b c hm hc y hy h1 h2 h4 (by omega) w)
theorem rfrom_pt (s : ByteArray) (w : World) : Calls Tryd.prog 12 #[.string s] w fun e w' => e = .returned (.agg (ptV (fromP s).1 ++ #[.bool (fromP s).2])) ∧ Below w.heap.size w w' := by
  have h : RFromR s (fromP s) := by
    by_cases h : s.size = 32
    · obtain ⟨m, b, hs, hm, hv⟩ := text_top s h
      obtain ⟨c, han, hc⟩ := andnot_b b
      rw [fromP_parts h hm hv hc, hs]
      exact rfromR_b m b c hm hc _ rfl
    · exact rfromR_a s h
  exact h w
end Go.Proofs.YtgbliacncahooaaDoor
