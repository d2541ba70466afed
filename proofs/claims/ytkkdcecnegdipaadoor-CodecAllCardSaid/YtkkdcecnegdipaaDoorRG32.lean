/- GetBase32 of the document: what letters say, if anything. No condition but that the text may lie in memory. -/
import Derived.Test.YtkkdcecnegdipaaDoorRB32
import Derived.Test.YtkkdcecnegdipaaDoorG32
namespace Go.Proofs.YtkkdcecnegdipaaDoor.R
open Go.RowKit Go.Shelf
set_option linter.unusedVariables false
set_option linter.unusedSimpArgs false
theorem byte_step (y A j : Nat) : (y % 2 ^ (A + 1)) / 256 ^ j % 256 = if j = A / 8 then (y % 2 ^ A / 256 ^ j % 256) ||| ((y / 2 ^ A % 2) * 2 ^ (A % 8)) else y % 2 ^ A / 256 ^ j % 256 := by
  have hp : (256 : Nat) ^ j = 2 ^ (8 * j) := by rw [Nat.pow_mul]
  rw [hp, show (256 : Nat) = 2 ^ 8 from rfl]
  have hb : y / 2 ^ A % 2 = (y.testBit A).toNat := (Nat.toNat_testBit y A).symm
  apply Nat.eq_of_testBit_eq
  intro i
  split
  · rename_i h
    rw [Nat.testBit_or, hb]
    simp only [Nat.testBit_mod_two_pow, Nat.testBit_div_two_pow]
    have ht : ((y.testBit A).toNat * 2 ^ (A % 8)).testBit i = (decide (i = A % 8) && y.testBit A) := by
      cases hy : y.testBit A
      · simp
      · simp only [Bool.toNat_true, Nat.one_mul, Nat.testBit_two_pow, Bool.and_true]
        congr 1
        exact propext ⟨fun h => h.symm, fun h => h.symm⟩
    rw [ht]
    by_cases hi : i < 8
    · by_cases h8 : i = A % 8
      · have e : i + 8 * j = A := by omega
        rw [e]
        simp [hi, h8]
        exact fun _ => Nat.mod_lt _ (by decide)
      · have : (decide (i + 8 * j < A + 1)) = decide (i + 8 * j < A) := by
          congr 1
          apply propext
          omega
        rw [this]
        simp [h8]
    · have : i ≠ A % 8 := by omega
      simp [hi, this]
  · rename_i h
    simp only [Nat.testBit_mod_two_pow, Nat.testBit_div_two_pow]
    by_cases hi : i < 8
    · have : (decide (i + 8 * j < A + 1)) = decide (i + 8 * j < A) := by
        congr 1
        apply propext
        omega
      rw [this]
    · simp [hi]
theorem exec_len9 {ρ : Operand → Value} {o : Oper} (x : Operand) (ho : o.op = .call { callee := .builtin .len, args := #[x], argTypes := #[9] }) (s : ByteArray) (hx : ρ x = .string s) (w : World) : (execOp ρ o).run Tryd.prog w = .ok (.value (.int .i64 (s.size : Int))) w := by
  unfold execOp
  simp [ho, hx, go_sem]
theorem plI_lett (d : Nat) (hd : d < 32) : plI letL (lett d) = (d : Int) := by
  unfold plI
  rw [lett_place d hd, if_pos (show d < letL.length from hd)]
theorem plI_let (c : UInt8) : plI letL c = -1 ∨ ∃ d : Nat, d < 32 ∧ plI letL c = (d : Int) := by
  unfold plI
  by_cases h : placeN letL c < letL.length
  · rw [if_pos h]; exact .inr ⟨placeN letL c, (show placeN letL c < 32 from h), rfl⟩
  · rw [if_neg h]; exact .inl rfl
theorem or_u8 (x v : Nat) (hx : x < 256) (hv : v < 256) : bits .or .u8 (x : Int) (v : Int) = ((x ||| v : Nat) : Int) :=
  (bits_nat .u8 8 (by decide) (fun n h0 h1 => by rw [IntKind.wrap_u8]; omega) x v hx hv).2
/-- What is known of the row behind so many bits. -/
def Valid (l : List UInt8) (m A : Nat) (f : Nat → Nat) : Prop := (∀ j, j < m → f j < 256) ∧ ∀ b : List UInt8, b.length = m → b32 b = l → ∀ j, j < m → f j = num b % 2 ^ A / 256 ^ j % 256
theorem Valid.start (l : List UInt8) (m : Nat) : Valid l m 0 (fun _ => 0) := ⟨fun _ _ => by show 0 < 256; omega, fun b _ _ j _ => by rw [Nat.pow_zero, Nat.mod_one, Nat.zero_div]⟩
theorem Valid.set {l : List UInt8} {m A : Nat} {f : Nat → Nat} (h : Valid l m A f) (a8 v : Nat) (ha : a8 = A / 8) (hm : a8 < m) (hv : v < 256) (hb : ∀ b : List UInt8, b.length = m → b32 b = l → v = num b / 2 ^ A % 2 * 2 ^ (A % 8)) : Valid l m (A + 1) (upd f a8 (f a8 ||| v)) := by
  refine ⟨fun j hj => ?_, fun b hl he j hj => ?_⟩
  · unfold upd
    split
    · exact Nat.or_lt_two_pow (n := 8) (h.1 a8 hm) hv
    · exact h.1 j hj
  · rw [byte_step]
    unfold upd
    by_cases e : j = a8
    · rw [if_pos e, if_pos (by rw [e, ha]), h.2 b hl he a8 hm, hb b hl he, e]
    · rw [if_neg e, if_neg (by rw [← ha]; exact e), h.2 b hl he j hj]
theorem Valid.skip {l : List UInt8} {m A : Nat} {f : Nat → Nat} (h : Valid l m A f) (hb : m ≤ A / 8 ∨ ∀ b : List UInt8, b.length = m → b32 b = l → False) : Valid l m (A + 1) f := by
  refine ⟨h.1, fun b hl he j hj => ?_⟩
  rcases hb with h1 | h1
  · rw [byte_step, if_neg (by omega), h.2 b hl he j hj]
  · exact (h1 b hl he).elim
theorem Valid.all {l : List UInt8} {m : Nat} {f : Nat → Nat} (h : Valid l m (5 * many32 m) f) (b : List UInt8) (hl : b.length = m) (he : b32 b = l) : (List.range m).map (fun j => UInt8.ofNat (f j)) = b := by
  have hlt : num b < 2 ^ (5 * many32 m) := by
    have h1 := num_lt b
    have h2 := many_fits m
    rw [hl] at h1
    rw [Nat.pow_mul]
    exact Nat.lt_of_lt_of_le h1 h2
  apply List.ext_getElem?
  intro j
  by_cases hj : j < m
  · rw [List.getElem?_map, List.getElem?_range hj, List.getElem?_eq_getElem (by omega)]
    simp only [Option.map_some]
    congr 1
    rw [h.2 b hl he j hj, Nat.mod_eq_of_lt hlt, ← num_get, List.getD_eq_getElem?_getD, List.getElem?_eq_getElem (by omega)]
    simp
  · rw [List.getElem?_eq_none (by simp; omega), List.getElem?_eq_none (by omega)]
theorem digit_of (l b : List UInt8) (m I : Nat) (hl : b.length = m) (he : b32 b = l) (hI : I < many32 m) : l.getD (many32 m - 1 - I) 0 = lett (num b / 32 ^ I % 32) := by
  rw [← he]
  unfold b32
  rw [hl]
  exact enc32_get _ _ _ hI
theorem digit_bit (x I J d : Nat) (hd : d = x / 32 ^ I % 32) (hJ : J < 5) : d / 2 ^ J % 2 = x / 2 ^ (5 * I + J) % 2 := by
  rw [hd, show (32 : Nat) ^ I = 2 ^ (5 * I) by rw [show (32 : Nat) = 2 ^ 5 from rfl, ← Nat.pow_mul], Nat.pow_add, ← Nat.div_div_eq_div_mul]
  generalize x / 2 ^ (5 * I) = y
  rcases (show J = 0 ∨ J = 1 ∨ J = 2 ∨ J = 3 ∨ J = 4 by omega) with rfl | rfl | rfl | rfl | rfl <;> simp only [Nat.reducePow] <;> omega
theorem get32_len (l : List UInt8) (m : Nat) (h : l.length ≠ many32 m) : get32 l m = none := by
  cases hg : get32 l m with
  | none => rfl
  | some b =>
    have h2 := get32_some hg
    have h3 := b32_length b
    rw [h2.2.2, h2.2.1] at h3
    exact absurd h3 h
theorem get32I_nat (l : List UInt8) (m : Nat) : get32I l (m : Int) = get32 l m := by unfold get32I; rw [if_pos (by omega)]; rfl
set_option maxRecDepth 100000 in
set_option maxHeartbeats 1000000 in
theorem rget32_neg (s : ByteArray) (n : Int) (hn : n < 0) (w : World) :
    Calls Tryd.prog 11 #[.string s, .int .i64 n] w fun e w' => e = .returned (.agg (said (get32I s.data.toList n))) ∧ Below w.heap.size w w' := by
  have hR : Hid (get32I s.data.toList n = none) := Lib.hid (get32I_out _ _ (.inl hn))
  go_enter Tryd.func11, Tryd.ntmps11
  go_wp2_with (first | ((refine wpList_run rfl _ (exec_alloc_agg _ 27 rfl _ (zero27 _)) ?_); try simp only [World.size_alloc]) | (refine wpList_run rfl _ (exec_build0g rfl (.agg (saidV ⟨#[]⟩ false)) (build27_0 _) _) ?_) | (refine wpList_run0 rfl (exec_store27 _ (.tmp 4) (.tmp 25) rfl (w.heap.size) rfl ⟨#[]⟩ false rfl (saidV ⟨#[]⟩ false) 27 (heap_alloc_new w _) rfl) ?_))
  exact bodyPost_ret (results_cell rfl _ _ _ ⟨w.heap.size, 0, none⟩ rfl _ (load27 ⟨#[]⟩ false (t := 27) (setRow_heap _ _ _ _ _ _ (heap_alloc_new w _)))) rfl ⟨by rw [hR.out]; rfl, ((Below.refl _ w).alloc (Nat.le_refl _) _).trans ⟨rfl, rfl, rfl, by simp, fun k hk => setRow_other _ _ _ _ (by omega)⟩⟩
set_option maxRecDepth 100000 in
set_option maxHeartbeats 1000000 in
theorem rget32_big (s : ByteArray) (n : Int) (hn : 64 < n) (w : World) :
    Calls Tryd.prog 11 #[.string s, .int .i64 n] w fun e w' => e = .returned (.agg (said (get32I s.data.toList n))) ∧ Below w.heap.size w w' := by
  have hR : Hid (get32I s.data.toList n = none) := Lib.hid (get32I_out _ _ (.inr hn))
  have h0 : ¬ n < 0 := by omega
  have h1 : (0 : Int) ≤ n := by omega
  go_enter Tryd.func11, Tryd.ntmps11
  go_wp2_with (first | ((refine wpList_run rfl _ (exec_alloc_agg _ 27 rfl _ (zero27 _)) ?_); try simp only [World.size_alloc]) | (refine wpList_run rfl _ (exec_build0g rfl (.agg (saidV ⟨#[]⟩ false)) (build27_0 _) _) ?_) | (refine wpList_run0 rfl (exec_store27 _ (.tmp 4) (.tmp 25) rfl (w.heap.size) rfl ⟨#[]⟩ false rfl (saidV ⟨#[]⟩ false) 27 (heap_alloc_new w _) rfl) ?_))
  exact bodyPost_ret (results_cell rfl _ _ _ ⟨w.heap.size, 0, none⟩ rfl _ (load27 ⟨#[]⟩ false (t := 27) (setRow_heap _ _ _ _ _ _ (heap_alloc_new w _)))) rfl ⟨by rw [hR.out]; rfl, ((Below.refl _ w).alloc (Nat.le_refl _) _).trans ⟨rfl, rfl, rfl, by simp, fun k hk => setRow_other _ _ _ _ (by omega)⟩⟩
set_option maxRecDepth 100000 in
set_option maxHeartbeats 1000000 in
theorem rget32_len (s : ByteArray) (m : Nat) (hm : m ≤ 64) (hs : s.size ≤ 549755813888) (hl : s.size ≠ many32 m) (w : World) :
    Calls Tryd.prog 11 #[.string s, .int .i64 (m : Int)] w fun e w' => e = .returned (.agg (said (get32I s.data.toList (m : Int)))) ∧ Below w.heap.size w w' := by
  have hR : Hid (get32I s.data.toList (m : Int) = none) := Lib.hid (by rw [get32I_nat]; exact get32_len _ _ hl)
  have h2 : ¬ (64 : Int) < (m : Int) := by omega
  have h3 : (m : Int) ≤ 64 := by omega
  obtain ⟨E8, hE8⟩ : ∃ E8, Hid (E8 = 8 * m) := ⟨_, Lib.hid rfl⟩
  obtain ⟨E, hE⟩ : ∃ E, Hid (E = 8 * m + 4) := ⟨_, Lib.hid rfl⟩
  obtain ⟨M, hM⟩ : ∃ M, Hid (M = many32 m) := ⟨_, Lib.hid rfl⟩
  have q1 : (8 : Int) * (m : Int) = (E8 : Int) := by rw [hE8.out]; omega
  have q2 : (E8 : Int) + 4 = (E : Int) := by rw [hE8.out, hE.out]; omega
  have q3 : (E : Int) / 5 = (M : Int) := by rw [hE.out, hM.out]; unfold many32; omega
  have q4 : (E : Int).tdiv 5 = (M : Int) := by rw [Int.tdiv_eq_ediv_of_nonneg (by omega)]; exact q3
  have q5 : (E : Int) ≤ 600 := by rw [hE.out]; omega
  have q6 : (E8 : Int) ≤ 600 := by rw [hE8.out]; omega
  have hne : ((s.size : Int) != (M : Int)) = true := by rw [bne_iff_ne, hM.out]; omega
  clear hl
  go_enter Tryd.func11, Tryd.ntmps11
  go_wp2_with (first | ((refine wpList_run rfl _ (exec_alloc_agg _ 27 rfl _ (zero27 _)) ?_); try simp only [World.size_alloc]) | (refine wpList_run rfl _ (exec_build0g rfl (.agg (saidV ⟨#[]⟩ false)) (build27_0 _) _) ?_) | (refine wpList_run0 rfl (exec_store27 _ (.tmp 4) (.tmp 25) rfl (w.heap.size) rfl ⟨#[]⟩ false rfl (saidV ⟨#[]⟩ false) 27 (heap_alloc_new w _) rfl) ?_))
  exact bodyPost_ret (results_cell rfl _ _ _ ⟨w.heap.size, 0, none⟩ rfl _ (load27 ⟨#[]⟩ false (t := 27) (setRow_heap _ _ _ _ _ _ (heap_alloc_new w _)))) rfl ⟨by rw [hR.out]; rfl, ((Below.refl _ w).alloc (Nat.le_refl _) _).trans ⟨rfl, rfl, rfl, by simp, fun k hk => setRow_other _ _ _ _ (by omega)⟩⟩
set_option maxRecDepth 100000 in
set_option maxHeartbeats 1000000 in
theorem rget32_main (s : ByteArray) (m : Nat) (hm : m ≤ 64) (hl : s.size = many32 m) (w : World) :
    Calls Tryd.prog 11 #[.string s, .int .i64 (m : Int)] w fun e w' => e = .returned (.agg (said (get32I s.data.toList (m : Int)))) ∧ Below w.heap.size w w' := by
  have HPL : Hid (∀ c W, Calls Tryd.prog 29 #[.string lettB, .int .u8 ((c : UInt8).toNat : Int)] W fun e w' => e = .returned (.int .i64 (plI letL c)) ∧ w' = W) := Lib.hid (fun c W => place_any lettB c (by decide) W)
  have HLE := Lib.hid letters_any
  have HLEN := Lib.hid hl
  have hs128 : s.size ≤ 128 := by rw [hl]; unfold many32; omega
  obtain ⟨l, hl0⟩ : ∃ l, l = s.data.toList := ⟨_, rfl⟩
  have HNL := Lib.hid hl0
  clear hl0
  have h2 : ¬ (64 : Int) < (m : Int) := by omega
  have h3 : (m : Int) ≤ 64 := by omega
  obtain ⟨E8, hE8⟩ : ∃ E8, Hid (E8 = 8 * m) := ⟨_, Lib.hid rfl⟩
  obtain ⟨E, hE⟩ : ∃ E, Hid (E = 8 * m + 4) := ⟨_, Lib.hid rfl⟩
  have q1 : (8 : Int) * (m : Int) = (E8 : Int) := by rw [hE8.out]; omega
  have q2 : (E8 : Int) + 4 = (E : Int) := by rw [hE8.out, hE.out]; omega
  have q3 : (E : Int) / 5 = (s.size : Int) := by rw [hE.out, hl]; unfold many32; omega
  have q4 : (E : Int).tdiv 5 = (s.size : Int) := by rw [Int.tdiv_eq_ediv_of_nonneg (by omega)]; exact q3
  have q5 : (E : Int) ≤ 600 := by rw [hE.out]; omega
  have q6 : (E8 : Int) ≤ 600 := by rw [hE8.out]; omega
  obtain ⟨ZS, hZS⟩ : ∃ ZS, Hid (ZS = saidV ⟨#[]⟩ false) := ⟨_, Lib.hid rfl⟩
  have HZ : ∀ w, (zeroValue 27).run Tryd.prog w = .ok (.agg ZS) w := by rw [hZS.out]; exact zero27
  have SZ : ZS.size = 2 := by rw [hZS.out]; rfl
  have h0 : (w.alloc (.cells ZS 27)).heap[w.heap.size]? = some (.cells ZS 27 (0, 0)) := heap_alloc_new w _
  have hb0 : Below w.heap.size w (w.alloc (.cells ZS 27)) := (Below.refl _ w).alloc (Nat.le_refl _) _
  have hz0 : (w.alloc (.cells ZS 27)).heap.size = w.heap.size + 1 := by simp
  have hmk := fun W => make_row m (by omega) W
  obtain ⟨Z, hZ⟩ : ∃ Z, Hid (Z = (rowOf .u8 m (fun _ => 0)).toArray) := ⟨_, Lib.hid rfl⟩
  have hmk2 : ∀ W : World, (Instr.makeSlice 33 (.int .i64 (m : Int)) (.int .i64 (m : Int))).run Tryd.prog W = .ok (.slice (some ⟨W.heap.size, 0, none⟩) m m) (W.alloc (.cells Z 5)) := by rw [hZ.out]; exact hmk
  clear hmk hE8 hE hl
  go_enter Tryd.func11, Tryd.ntmps11
  go_upto_region 1 with ((refine wpList_run rfl _ (exec_alloc_agg _ 27 rfl _ (HZ _)) ?_); try simp only [World.size_alloc])
  try simp only [Act.put, List.setIfInBounds_toArray, List.set_cons_succ, List.set_cons_zero]
  generalize w.alloc (.cells ZS 27) = W0 at *
  have HZ0 := Lib.hid h0
  have HB0 := Lib.hid hb0
  have HS0 := Lib.hid hz0
  have hr0 : Row (W0.alloc (.cells Z 5)) (w.heap.size + 1) 5 .u8 m (fun _ => 0) := by rw [hZ.out, ← hz0]; exact Row.new W0 5 .u8 m (fun _ => 0)
  have HR0 := Lib.hid hr0
  have HBW : Hid (Below (w.heap.size + 1) W0 (W0.alloc (.cells Z 5))) := Lib.hid ((Below.refl _ W0).alloc (by omega) _)
  clear h0 hb0 hr0
  go_wp2
  try rw [hz0]
  clear hz0 q1 q2 q3 q4 q5 q6 hmk2
  generalize W0.alloc (.cells Z 5) = W1 at *
  go_loopw [6] (fun i wr => ∃ (I : Nat) (f : Nat → Nat), I ≤ s.size ∧ i = .int .i64 (I : Int) ∧ Row wr (w.heap.size + 1) 5 .u8 m f ∧ Valid l m (5 * I) f ∧ Below (w.heap.size + 1) W0 wr) (fun i _ => s.size - (intOf i).toNat)
  case atStart => exact ⟨0, fun _ => 0, by omega, rfl, HR0.out, Valid.start l m, HBW.out⟩
  case round =>
    clear HR0 HBW hZ
    obtain ⟨I, f, hI, rfl, hrow, hval, hb⟩ := hrel
    have HR := Lib.hid hrow
    have HV := Lib.hid hval
    have HB := Lib.hid hb
    clear hrow hval hb
    by_cases hlt : I < s.size
    · have hltI : (I : Int) < (s.size : Int) := by omega
      obtain ⟨S1, hS1⟩ : ∃ S1, Hid (S1 = s.size - 1) := ⟨_, Lib.hid rfl⟩
      obtain ⟨p, hp⟩ : ∃ p, Hid (p = s.size - 1 - I) := ⟨_, Lib.hid rfl⟩
      have p1 : (s.size : Int) - 1 = (S1 : Int) := by rw [hS1.out]; omega
      have p2 : (S1 : Int) - (I : Int) = (p : Int) := by rw [hS1.out, hp.out]; omega
      have p3 : (S1 : Int) ≤ 128 := by rw [hS1.out]; omega
      have hpl : p < s.size := by rw [hp.out]; omega
      have p4 : (p : Int) ≤ 128 := by omega
      obtain ⟨c, hc⟩ : ∃ c, Hid (c = s[p]) := ⟨_, Lib.hid rfl⟩
      have HPA := Lib.hid (fun W => HPL.out c W)
      have hcx : Hid ((s[p].toNat : Int) = (c.toNat : Int)) := by unfold Hid; rw [hc.out]
      have hdig : Hid (∀ b : List UInt8, b.length = m → b32 b = l → c = lett (num b / 32 ^ I % 32)) := Lib.hid (fun b hb he => by
        rw [← digit_of l b m I hb he (by rw [← HLEN.out]; exact hlt), hc.out, ← HLEN.out, ← hp.out, HNL.out, List.getD_eq_getElem?_getD]
        have h1 : s.data.toList[p]? = some s[p] := by rw [List.getElem?_eq_getElem (by exact hpl)]; rfl
        rw [h1, Option.getD_some])
      clear hp hS1 hc HZ
      go_upto_region 7 with fail
      try simp only [Act.put, List.setIfInBounds_toArray, List.set_cons_succ, List.set_cons_zero]
      refine wp_nrm ?_
      refine wp_region_any (by kernel_rfl) ?_
      change wpAny _ _ _ _ _ _ _ (World.drew _)
      have HRD : Hid (Row wr.drew (w.heap.size + 1) 5 .u8 m f) := Lib.hid HR.out
      have HBD := Lib.hid HB.out.drew
      clear HR HB
      generalize wr.drew = Wd at *
      refine any_of_F (S := fun _ => True) (f := 1000) _ _ _ _ ?_
      refine AnyF.takeG (by rfl) 1 (some 35) (.move (.tmp 0)) none (.string s) rfl (by kernel_rfl) (by kernel_rfl) (by kernel_rfl) (fun _ _ _ h => h) rfl (fun o h => by obtain rfl := Option.some.inj h; rfl) (fun o ho w2 _ => exec_move (.tmp 0) ho _ rfl w2) trivial ?_
      simp only [Act.put, List.setIfInBounds_toArray, List.set_cons_succ, List.set_cons_zero]
      refine AnyF.takeG (by rfl) 2 (some 36) (.move (.tmp 0)) none (.string s) rfl (by kernel_rfl) (by kernel_rfl) (by kernel_rfl) (fun _ _ _ h => h) rfl (fun o h => by obtain rfl := Option.some.inj h; rfl) (fun o ho w2 _ => exec_move (.tmp 0) ho _ rfl w2) trivial ?_
      simp only [Act.put, List.setIfInBounds_toArray, List.set_cons_succ, List.set_cons_zero]
      refine AnyF.takeG (by rfl) 3 (some 37) (.call { callee := .builtin .len, args := #[.tmp 36], argTypes := #[9] }) none (.int .i64 (s.size : Int)) rfl (by kernel_rfl) (by kernel_rfl) (by kernel_rfl) (fun _ _ _ h => h) rfl (fun o h => by obtain rfl := Option.some.inj h; rfl) (fun o ho w2 _ => exec_len9 (.tmp 36) ho s rfl w2) trivial ?_
      simp only [Act.put, List.setIfInBounds_toArray, List.set_cons_succ, List.set_cons_zero]
      refine AnyF.takeG (by rfl) 4 (some 38) (.binOp .sub 3 (.tmp 37) (.const (.int .i64 1)) 3) none (.int .i64 (S1 : Int)) rfl (by kernel_rfl) (by kernel_rfl) (by kernel_rfl) (fun _ _ _ h => h) rfl (fun o h => by obtain rfl := Option.some.inj h; rfl) (fun o ho w2 _ => by have hw := IntWalk.i64_in (S1 : Int) (by omega); unfold execOp; rw [ho]; go_simp) trivial ?_
      simp only [Act.put, List.setIfInBounds_toArray, List.set_cons_succ, List.set_cons_zero]
      refine AnyF.takeG (by rfl) 5 (some 39) (.move (.tmp 6)) none (.int .i64 (I : Int)) rfl (by kernel_rfl) (by kernel_rfl) (by kernel_rfl) (fun _ _ _ h => h) rfl (fun o h => by obtain rfl := Option.some.inj h; rfl) (fun o ho w2 _ => exec_move (.tmp 6) ho _ rfl w2) trivial ?_
      simp only [Act.put, List.setIfInBounds_toArray, List.set_cons_succ, List.set_cons_zero]
      refine AnyF.takeG (by rfl) 6 (some 40) (.binOp .sub 3 (.tmp 38) (.tmp 39) 3) none (.int .i64 (p : Int)) rfl (by kernel_rfl) (by kernel_rfl) (by kernel_rfl) (fun _ _ _ h => h) rfl (fun o h => by obtain rfl := Option.some.inj h; rfl) (fun o ho w2 _ => by have hw := IntWalk.i64_in (p : Int) (by omega); unfold execOp; rw [ho]; go_simp) trivial ?_
      simp only [Act.put, List.setIfInBounds_toArray, List.set_cons_succ, List.set_cons_zero]
      refine AnyF.takeG (by rfl) 7 (some 41) (.index 9 (.tmp 35) (.tmp 40)) none (.int .u8 (c.toNat : Int)) rfl (by kernel_rfl) (by kernel_rfl) (by kernel_rfl) (fun _ _ _ h => h) rfl (fun o h => by obtain rfl := Option.some.inj h; rfl) (fun o ho w2 _ => by rw [← hcx.out]; exact exec_index_str (.tmp 35) (.tmp 40) ho s p hpl rfl rfl w2) trivial ?_
      simp only [Act.put, List.setIfInBounds_toArray, List.set_cons_succ, List.set_cons_zero]
      refine AnyF.ready (rs := [0]) (by kernel_rfl) (by simp) (ReadyF.call (some 34) 30 #[] #[] rfl #[] (by simp [Act.eval]) enters30 _ (HLE.out _) ?_ (fun c w' h => by cases h.1) (fun w' h => by cases h.1) ReadyF.nil)
      rintro v w' ⟨he, hw'⟩
      cases he
      rw [hw']
      clear hw'
      refine ⟨trivial, ?_⟩
      simp only [Act.put, List.setIfInBounds_toArray, List.set_cons_succ, List.set_cons_zero]
      refine AnyF.ready (rs := [8]) (by kernel_rfl) (by simp) (ReadyF.call (some 42) 29 #[.tmp 34, .tmp 41] #[9, 5] rfl #[.string lettB, .int .u8 (c.toNat : Int)] (by simp [Act.eval]) enters29 _ (HPA.out _) ?_ (fun c w' h => by cases h.1) (fun w' h => by cases h.1) ReadyF.nil)
      rintro v w' ⟨he, hw'⟩
      cases he
      rw [hw']
      clear hw'
      refine ⟨trivial, ?_⟩
      simp only [Act.put, List.setIfInBounds_toArray, List.set_cons_succ, List.set_cons_zero]
      refine AnyF.takeG (by rfl) 9 (some 7) (.assign (.tmp 42)) none (.int .i64 (plI letL c)) rfl (by kernel_rfl) (by kernel_rfl) (by kernel_rfl) (fun _ _ _ h => h) rfl (fun o h => by obtain rfl := Option.some.inj h; rfl) (fun o ho w2 _ => exec_assign (.tmp 42) ho _ rfl w2) trivial ?_
      simp only [Act.put, List.setIfInBounds_toArray, List.set_cons_succ, List.set_cons_zero]
      refine AnyF.done (by kernel_rfl) ?_ _
      refine nrm_intro ?_
      obtain ⟨X, hX⟩ : ∃ X, Hid (X = plI letL c) := ⟨_, Lib.hid rfl⟩
      rw [← hX.out]
      have hXr : X = -1 ∨ ∃ d : Nat, d < 32 ∧ X = (d : Int) := by rw [hX.out]; exact plI_let c
      have hXd : Hid (∀ b : List UInt8, b.length = m → b32 b = l → X = ((num b / 32 ^ I % 32 : Nat) : Int)) := Lib.hid (fun b hb he => by rw [hX.out, hdig.out b hb he, plI_lett _ (Nat.mod_lt _ (by decide))])
      clear hX hdig hcx HPA HPL
      go_wp2
      go_loopw [8] (fun j wr2 => ∃ (J : Nat) (f : Nat → Nat), J ≤ 5 ∧ j = .int .i64 (J : Int) ∧ Row wr2 (w.heap.size + 1) 5 .u8 m f ∧ Valid l m (5 * I + J) f ∧ Below (w.heap.size + 1) W0 wr2) (fun j _ => 5 - (intOf j).toNat)
      case atStart => exact ⟨0, f, by omega, rfl, HRD.out, HV.out, HBD.out⟩
      case round =>
        clear HRD HBD HV
        obtain ⟨J, f, hJ, rfl, hrow, hval, hb⟩ := hrel
        have HR := Lib.hid hrow
        have HV := Lib.hid hval
        have HB := Lib.hid hb
        clear hrow hval hb
        by_cases hJ5 : J < 5
        · have hJ5I : (J : Int) < 5 := by omega
          obtain ⟨F, hF⟩ : ∃ F, Hid (F = 5 * I) := ⟨_, Lib.hid rfl⟩
          obtain ⟨A, hA⟩ : ∃ A, Hid (A = 5 * I + J) := ⟨_, Lib.hid rfl⟩
          have f1 : (5 : Int) * (I : Int) = (F : Int) := by rw [hF.out]; omega
          have f2 : (F : Int) + (J : Int) = (A : Int) := by rw [hF.out, hA.out]; omega
          have f3 : (F : Int) ≤ 700 := by rw [hF.out]; omega
          have f4 : (A : Int) ≤ 700 := by rw [hA.out]; omega
          obtain ⟨a8, ha8⟩ : ∃ a8, Hid (a8 = A / 8) := ⟨_, Lib.hid rfl⟩
          obtain ⟨a7, ha7⟩ : ∃ a7, Hid (a7 = A % 8) := ⟨_, Lib.hid rfl⟩
          have g1 : (A : Int) / 8 = (a8 : Int) := by rw [ha8.out]; omega
          have g2 : (A : Int) % 8 = (a7 : Int) := by rw [ha7.out]; omega
          have g3 : (A : Int).tdiv 8 = (a8 : Int) := by rw [Int.tdiv_eq_ediv_of_nonneg (by omega)]; exact g1
          have g4 : (A : Int).tmod 8 = (a7 : Int) := by rw [Int.tmod_eq_emod_of_nonneg (by omega)]; exact g2
          have g5 : (a8 : Int) ≤ 100 := by rw [ha8.out]; omega
          rw [← hA.out] at HV
          have hA1 : Hid (5 * I + (J + 1) = A + 1) := by unfold Hid; rw [hA.out]; omega
          by_cases hgo : (0 ≤ X) ∧ a8 < m
          · obtain ⟨hX0, ham⟩ := hgo
            obtain ⟨d, hd32, rfl⟩ : ∃ d : Nat, d < 32 ∧ X = (d : Int) := by
              rcases hXr with h | h
              · omega
              · exact h
            have hamI : (a8 : Int) < (m : Int) := by omega
            have ha7l : a7 < 8 := by rw [ha7.out]; omega
            obtain ⟨x1, hx1⟩ : ∃ x1, Hid (x1 = d / 2 ^ J) := ⟨_, Lib.hid rfl⟩
            have hx1l : x1 < 32 := by rw [hx1.out]; exact Nat.lt_of_le_of_lt (Nat.div_le_self _ _) hd32
            have hsh : (d : Int) / 2 ^ J = (x1 : Int) := by rw [hx1.out, Int.natCast_ediv, Int.natCast_pow]; rfl
            obtain ⟨x2, hx2⟩ : ∃ x2, Hid (x2 = x1 % 2) := ⟨_, Lib.hid rfl⟩
            have hx2l : x2 < 2 := by rw [hx2.out]; omega
            have hand := and1 x1 (by omega)
            rw [← hx2.out] at hand
            have hcw : IntKind.u8.wrap (x2 : Int) = (x2 : Int) := by rw [IntKind.wrap_u8]; omega
            obtain ⟨v2, hv2⟩ : ∃ v2, Hid (v2 = x2 * 2 ^ a7) := ⟨_, Lib.hid rfl⟩
            have hv2l : v2 < 256 := by
              have h1 : x2 * 2 ^ a7 ≤ 1 * 2 ^ 7 := Nat.mul_le_mul (by omega) (Nat.pow_le_pow_right (by decide) (by omega))
              rw [hv2.out]; omega
            have hshl : (x2 : Int) * 2 ^ a7 = (v2 : Int) := by rw [hv2.out, Int.natCast_mul, Int.natCast_pow]; rfl
            have hvw : IntKind.u8.wrap (v2 : Int) = (v2 : Int) := by rw [IntKind.wrap_u8]; omega
            have hor := or_u8 (f a8) v2 (HV.out.1 a8 ham) hv2l
            obtain ⟨r, hr⟩ : ∃ r, Hid (r = f a8 ||| v2) := ⟨_, Lib.hid rfl⟩
            rw [← hr.out] at hor
            have HVN : Hid (Valid l m (A + 1) (upd f a8 r)) := Lib.hid (by
              rw [hr.out]
              refine HV.out.set a8 v2 ha8.out ham hv2l (fun b hb he => ?_)
              have h1 := hXd.out b hb he
              rw [hv2.out, hx2.out, hx1.out, ha7.out, digit_bit (num b) I J d (by omega) hJ5, ← hA.out])
            have ca := HR.out.cell a8 ham
            have fa := HR.out.free a8
            have HN : Hid (Row (wr.setCell ⟨w.heap.size + 1, a8, none⟩ (.int .u8 (r : Int))).drew (w.heap.size + 1) 5 .u8 m (upd f a8 r)) := Lib.hid (Row.set (w := wr) HR.out a8 r)
            have HBN : Hid (Below (w.heap.size + 1) W0 (wr.setCell ⟨w.heap.size + 1, a8, none⟩ (.int .u8 (r : Int))).drew) := Lib.hid (HB.out.setCell (p := ⟨w.heap.size + 1, a8, none⟩) (Nat.le_refl _) _).drew
            have hJ64 : (J : Int) < 64 := by omega
            have ha7I : (a7 : Int) < 64 := by omega
            have hX0' : (0 : Int) ≤ (d : Int) := by omega
            generalize f a8 = old at *
            clear hr hv2 hx2 hx1 HV HR HB hXd hXr ha7 ha8 hA hF hd32
            go_wp2
            go_region
            go_wp2
            go_roundw
            case rel => exact ⟨J + 1, _, by omega, by first | rfl | simp | go_num, HN.out, by rw [hA1.out]; exact HVN.out, HBN.out⟩
            case measure => simp [intOf]; omega
          · have HVN : Hid (Valid l m (A + 1) f) := Lib.hid (HV.out.skip (by
              by_cases h : a8 < m
              · right
                intro b hb he
                have h1 := hXd.out b hb he
                exact hgo ⟨by rw [h1]; omega, h⟩
              · left
                rw [← ha8.out]
                omega))
            by_cases hX0 : 0 ≤ X
            · have ham : ¬ (a8 : Int) < (m : Int) := by omega
              have ham2 : (m : Int) ≤ (a8 : Int) := by omega
              have hX1 : ¬ X < 0 := by omega
              clear hgo HV hXd hXr ha7 ha8 hA hF
              go_wp2
              go_roundw
              case rel => exact ⟨J + 1, _, by omega, by first | rfl | simp | go_num, HR.out, by rw [hA1.out]; exact HVN.out, HB.out⟩
              case measure => simp [intOf]; omega
            · have hX1 : X < 0 := by omega
              clear hgo HV hXd hXr ha7 ha8 hA hF
              go_wp2
              go_roundw
              case rel => exact ⟨J + 1, _, by omega, by first | rfl | simp | go_num, HR.out, by rw [hA1.out]; exact HVN.out, HB.out⟩
              case measure => simp [intOf]; omega
        · obtain rfl : J = 5 := by omega
          have h5 : Hid (5 * (I + 1) = 5 * I + 5) := by unfold Hid; omega
          clear hXd hXr
          rw [show ((5 : Nat) : Int) = (5 : Int) from rfl]
          go_wp2
          go_roundw
          case rel => exact ⟨I + 1, _, by omega, by first | rfl | simp | go_num, HR.out, by rw [h5.out]; exact HV.out, HB.out⟩
          case measure => simp [intOf]; omega
    · have hIe : I = s.size := by omega
      subst hIe
      have hvalid := HV.out
      have hok : ∀ b : List UInt8, b.length = m → b32 b = s.data.toList → (List.range m).map (fun j => UInt8.ofNat (f j)) = b := fun b hb he => Valid.all (by rw [HLEN.out] at hvalid; exact hvalid) b hb (by rw [HNL.out]; exact he)
      obtain ⟨out, hout⟩ : ∃ out, out = (List.range m).map (fun j => UInt8.ofNat (f j)) := ⟨_, rfl⟩
      rw [← hout] at hok
      have hol : out.length = m := by rw [hout]; simp
      have hG : Hid (get32I s.data.toList (m : Int) = if b32 out = s.data.toList then some out else none) := by
        unfold Hid
        rw [get32I_nat]
        exact get32_of _ _ hm out hol (fun b hb he => hok b hb he)
      have hrow := HR.out
      have hf := hvalid.1
      have hcv := row_str hrow hf
      rw [← hout] at hcv
      have hb := HB.out
      clear hout HV HR HB
      obtain ⟨D, hD⟩ : ∃ D : ByteArray, Hid (D = ⟨out.toArray⟩) := ⟨_, Lib.hid rfl⟩
      have hDs : D.size ≤ 600 := by rw [hD.out]; show out.length ≤ 600; rw [hol]; omega
      have H2 := Lib.hid (rb32_any D hDs)
      have hDl : D.data.toList = out := by rw [hD.out]
      rw [hDl] at H2
      obtain ⟨V, hV⟩ : ∃ V : ByteArray, Hid (V = ⟨(b32 out).toArray⟩) := ⟨_, Lib.hid rfl⟩
      have hiff : V = s ↔ b32 out = s.data.toList := by
        rw [hV.out]
        constructor
        · intro h; have h2 := congrArg (fun b : ByteArray => b.data.toList) h; simpa using h2
        · intro h; rw [h]
      have hB2 := Lib.hid (build27 D true)
      have hB0 := Lib.hid build27_0
      rw [← hZS.out] at hB0
      have HR1 : V = s → Hid (said (get32I s.data.toList (m : Int)) = saidV D true) := fun h => by unfold Hid; rw [hG.out, if_pos (hiff.1 h), hD.out]; rfl
      have HR2 : V ≠ s → Hid (said (get32I s.data.toList (m : Int)) = ZS) := fun h => by unfold Hid; rw [hG.out, if_neg (fun e => h (hiff.2 e)), hZS.out]; rfl
      rw [← hD.out] at hcv
      rw [← hV.out] at H2
      have hc1 := hcv wr (Below.refl _ _)
      have HCV := Lib.hid hcv
      have HB := Lib.hid hb
      clear hcv hG hiff hV hDl hD hDs hb HZ HPL HLE hrow hf hok hvalid hol HLEN HNL
      go_wp2_with fail
      refine (H2.out _).mono ?_
      rintro e w1 ⟨rfl, hb1⟩
      have hc2 := HCV.out w1 hb1
      have hg : w1.heap[w.heap.size]? = some (.cells ZS 27 (0, 0)) := by
        have h1 := HB.out.block w.heap.size (by omega)
        have hlt2 : w.heap.size < wr.heap.size := by have := HS0.out; have := HB.out.size; omega
        rw [hb1.block w.heap.size hlt2, h1]
        exact HZ0.out
      have hbel : Below w.heap.size w w1 := by
        have h1 := HB.out
        have := HS0.out
        exact (HB0.out.trans (h1.mono (by omega))).trans (hb1.mono (by have := h1.size; omega))
      have hbel2 : Hid (∀ A, Below w.heap.size w (w1.setRow (w.heap.size) A)) := Lib.hid (fun A => hbel.trans ⟨rfl, rfl, rfl, by simp, fun k hk => setRow_other _ _ _ _ (by omega)⟩)
      clear HCV hb1 HB HB0 HS0 HZ0 hc1 H2 hbel
      by_cases he : V = s
      · have hR := HR1 he
        have hdn := str_eq he
        clear HR1 HR2 he
        go_wp2_with (first | (refine wpList_run rfl _ (exec_build2 _ 27 0 1 (.tmp 81) (.const (.bool true)) rfl (.string D) (.bool true) rfl rfl _ (hB2.out _)) ?_) | (refine wpList_run0 rfl (exec_store27 _ (.tmp 4) (.tmp 82) rfl (w.heap.size) rfl D true rfl ZS 27 hg SZ) ?_))
        exact bodyPost_ret (results_cell rfl _ _ _ ⟨w.heap.size, 0, none⟩ rfl _ (load27 D true (t := 27) (setRow_heap _ _ _ _ _ _ hg))) rfl ⟨by rw [hR.out], hbel2.out _⟩
      · have hR := HR2 he
        have hdn := str_ne he
        clear HR1 HR2 he
        have hg2 : w1.heap[w.heap.size]? = some (.cells (saidV ⟨#[]⟩ false) 27 (0, 0)) := by rw [← hZS.out]; exact hg
        have hB0' : Hid (∀ w, (Instr.build 27 #[]).run Tryd.prog w = .ok (.agg (saidV ⟨#[]⟩ false)) w) := Lib.hid build27_0
        go_wp2_with (first | (refine wpList_run rfl _ (exec_build0g rfl (.agg (saidV ⟨#[]⟩ false)) (hB0'.out _) _) ?_) | (refine wpList_run0 rfl (exec_store27 _ (.tmp 4) (.tmp 79) rfl (w.heap.size) rfl ⟨#[]⟩ false rfl ZS 27 hg SZ) ?_))
        exact bodyPost_ret (results_cell rfl _ _ _ ⟨w.heap.size, 0, none⟩ rfl _ (load27 ⟨#[]⟩ false (t := 27) (setRow_heap _ _ _ _ _ _ hg))) rfl ⟨by rw [hR.out, hZS.out], hbel2.out _⟩
theorem rget32_any (s : ByteArray) (n : Int) (hs : s.size ≤ 549755813888) (w : World) :
    Calls Tryd.prog 11 #[.string s, .int .i64 n] w fun e w' => e = .returned (.agg (said (get32I s.data.toList n))) ∧ Below w.heap.size w w' := by
  by_cases h0 : n < 0
  · exact rget32_neg s n h0 w
  · by_cases h1 : 64 < n
    · exact rget32_big s n h1 w
    · obtain ⟨m, rfl⟩ : ∃ m : Nat, n = (m : Int) := ⟨n.toNat, by omega⟩
      by_cases hl : s.size = many32 m
      · exact rget32_main s m (by omega) hl w
      · exact rget32_len s m (by omega) hs hl w
end Go.Proofs.YtkkdcecnegdipaaDoor.R
