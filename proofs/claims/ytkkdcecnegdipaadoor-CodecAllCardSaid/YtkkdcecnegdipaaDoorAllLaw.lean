/- The law CodecAll walked: it returns true at any two texts and any number, and no memory that was there is changed. No condition but that the texts may lie in memory, and the number has 64 bits. -/
import Derived.Test.YtkkdcecnegdipaaDoorRG32
import Derived.Test.YtkkdcecnegdipaaDoorHexA
import Derived.Test.YtkkdcecnegdipaaDoorG32
import Derived.Test.YtkkdcecnegdipaaDoorB32
import Derived.Test.YtkkdcecnegdipaaDoorB64
import Derived.Test.YtkkdcecnegdipaaDoorG64
import Derived.Test.YtkkdcecnegdipaaDoorFold
import Derived.Test.YtkkdcecnegdipaaDoorAwake
namespace Go.Proofs.YtkkdcecnegdipaaDoor.R
open Go.RowKit Go.Shelf
set_option linter.unusedVariables false
set_option linter.unusedSimpArgs false
/-- Since w0 nothing that lay has turned; these blocks hold these rows. -/
def Kt (w0 : World) (l : List (Nat × Array Value × TypeId)) (w : World) : Prop := Below w0.heap.size w0 w ∧ ∀ p ∈ l, w.heap[p.1]? = some (.cells p.2.1 p.2.2 (0, 0))
theorem Kt.get {w0 w : World} {l : List (Nat × Array Value × TypeId)} (h : Kt w0 l w) (g : Nat) (A : Array Value) (t : TypeId) (hm : (g, A, t) ∈ l) : w.heap[g]? = some (.cells A t (0, 0)) := h.2 (g, A, t) hm
theorem Kt.lt {w0 w : World} {l : List (Nat × Array Value × TypeId)} (h : Kt w0 l w) (g : Nat) (A : Array Value) (t : TypeId) (hm : (g, A, t) ∈ l) : g < w.heap.size := (Array.getElem?_eq_some_iff.1 (h.get g A t hm)).1
theorem Kt.below {w0 w w2 : World} {l : List (Nat × Array Value × TypeId)} (h : Kt w0 l w) (hb : Below w.heap.size w w2) : Kt w0 l w2 :=
  ⟨h.1.trans (hb.mono h.1.size), fun p hp => (hb.block p.1 (Array.getElem?_eq_some_iff.1 (h.2 p hp)).1).trans (h.2 p hp)⟩
theorem Kt.drew {w0 w : World} {l : List (Nat × Array Value × TypeId)} (h : Kt w0 l w) : Kt w0 l w.drew := ⟨h.1.drew, h.2⟩
theorem Kt.alloc {w0 w : World} {l : List (Nat × Array Value × TypeId)} (h : Kt w0 l w) (o : Obj) : Kt w0 l (w.alloc o) := h.below ((Below.refl _ w).alloc (Nat.le_refl _) o)
theorem Kt.new {w0 w : World} {l : List (Nat × Array Value × TypeId)} (h : Kt w0 l w) (A : Array Value) (t : TypeId) : Kt w0 ((w.heap.size, A, t) :: l) (w.alloc (.cells A t)) :=
  ⟨(h.alloc _).1, fun p hp => by
    rcases List.mem_cons.1 hp with rfl | hp
    · exact heap_alloc_new w _
    · exact (h.alloc _).2 p hp⟩
theorem Kt.nil (w : World) : Kt w [] w := ⟨Below.refl _ _, fun p hp => by cases hp⟩
theorem Kt.sub {w0 w : World} {l m : List (Nat × Array Value × TypeId)} (h : Kt w0 l w) (hs : ∀ p ∈ m, p ∈ l) : Kt w0 m w := ⟨h.1, fun p hp => h.2 p (hs p hp)⟩
theorem Kt.add {w0 w : World} {l : List (Nat × Array Value × TypeId)} (h : Kt w0 l w) (g : Nat) (A : Array Value) (t : TypeId) (hg : w.heap[g]? = some (.cells A t (0, 0))) : Kt w0 ((g, A, t) :: l) w :=
  ⟨h.1, fun p hp => by
    rcases List.mem_cons.1 hp with rfl | hp
    · exact hg
    · exact h.2 p hp⟩
theorem Kt.app {w0 w : World} {l m : List (Nat × Array Value × TypeId)} (h : Kt w0 l w) (h2 : Kt w0 m w) : Kt w0 (l ++ m) w := ⟨h.1, fun p hp => (List.mem_append.1 hp).elim (h.2 p) (h2.2 p)⟩
/-- A store over a whole row. -/
theorem Kt.set {w0 w : World} {l m : List (Nat × Array Value × TypeId)} (h : Kt w0 l w) (g : Nat) (A B : Array Value) (t : TypeId) (hg : w.heap[g]? = some (.cells B t (0, 0))) (hw : w0.heap.size ≤ g) (hm : ∀ p ∈ m, p = (g, A, t) ∨ (p ∈ l ∧ p.1 ≠ g)) : Kt w0 m (w.setRow g A) :=
  ⟨h.1.trans ⟨rfl, rfl, rfl, by simp, fun k hk => setRow_other _ _ _ _ (by omega)⟩, fun p hp => by
    rcases hm p hp with rfl | ⟨h1, h2⟩
    · exact setRow_heap _ _ _ _ _ _ hg
    · exact (setRow_other _ _ _ _ h2).trans (h.2 p h1)⟩
/-- A store into one cell of a row of numbers. -/
theorem Kt.setw {w0 w : World} {l m : List (Nat × Array Value × TypeId)} (h : Kt w0 l w) (g : Nat) (t : TypeId) (kd : IntKind) (n : Nat) (f : Nat → Nat) (j v : Nat) (hg : Row w g t kd n f) (hw : w0.heap.size ≤ g) (hm : ∀ p ∈ m, p = (g, (rowOf kd n (upd f j v)).toArray, t) ∨ (p ∈ l ∧ p.1 ≠ g)) : Kt w0 m (w.setCell ⟨g, j, none⟩ (.int kd (v : Int))) :=
  ⟨h.1.setCell (p := ⟨g, j, none⟩) hw _, fun p hp => by
    rcases hm p hp with rfl | ⟨h1, h2⟩
    · exact hg.set j v
    · exact (heap_setCell_other _ _ _ _ h2).trans (h.2 p h1)⟩
theorem Kt.row {w0 w : World} {l : List (Nat × Array Value × TypeId)} (h : Kt w0 l w) (g : Nat) (t : TypeId) (kd : IntKind) (n : Nat) (f : Nat → Nat) (hm : (g, (rowOf kd n f).toArray, t) ∈ l) : Row w g t kd n f := h.2 _ hm
theorem Kt.cell {w0 w : World} {l : List (Nat × Array Value × TypeId)} (h : Kt w0 l w) (g : Nat) (A : Array Value) (t : TypeId) (hm : (g, A, t) ∈ l) (j : Nat) : w.cell? ⟨g, j, none⟩ = A[j]? := cell_of_row w g j A t (0, 0) (h.get g A t hm)
theorem Kt.free {w0 w : World} {l : List (Nat × Array Value × TypeId)} (h : Kt w0 l w) (g : Nat) (A : Array Value) (t : TypeId) (hm : (g, A, t) ∈ l) (j : Nat) : w.frozen? ⟨g, j, none⟩ = false := by
  unfold World.frozen?
  simp only [h.get g A t hm]
  simp
/-- A row whose words have turned into others'. -/
theorem Kt.ext {w0 w : World} {l m : List (Nat × Array Value × TypeId)} (h : Kt w0 l w) (g : Nat) (t : TypeId) (kd : IntKind) (n : Nat) (f f' : Nat → Nat) (hf : ∀ j, j < n → f j = f' j) (hm : ∀ p ∈ m, p ∈ l ∨ (p = (g, (rowOf kd n f').toArray, t) ∧ (g, (rowOf kd n f).toArray, t) ∈ l)) : Kt w0 m w :=
  ⟨h.1, fun p hp => by
    rcases hm p hp with h1 | ⟨rfl, h2⟩
    · exact h.2 p h1
    · rw [show (rowOf kd n f').toArray = (rowOf kd n f).toArray by rw [rowOf_ext hf]]
      exact h.2 _ h2⟩
theorem told_said (o : Option (List UInt8)) : ∃ (A : ByteArray) (b : Bool), told o = .tuple #[.string A, .bool b] ∧ said o = saidV A b := by
  cases o with
  | none => exact ⟨⟨#[]⟩, false, rfl, rfl⟩
  | some l => exact ⟨⟨l.toArray⟩, true, rfl, rfl⟩
def IsSaid (A : Array Value) : Prop := ∃ S b, A = saidV S b
theorem IsSaid.size {A : Array Value} (h : IsSaid A) : A.size = 2 := by obtain ⟨S, b, rfl⟩ := h; rfl
theorem load27k {W : World} {g : Nat} {A : Array Value} (hA : IsSaid A) {t : TypeId} (hg : W.heap[g]? = some (.cells A t (0, 0))) : (loadVar 27 ⟨g, 0, none⟩).run Tryd.prog W = .ok (.agg A) W := by
  obtain ⟨S, b, rfl⟩ := hA
  exact load27 S b hg
theorem exec_store27k {ρ : Operand → Value} {o : Oper} (w : World) (x y : Operand) (ho : o.op = .store 27 x y) (g : Nat) (hx : ρ x = .pointer (some ⟨g, 0, none⟩)) (A : Array Value) (hA : IsSaid A) (hy : ρ y = .agg A) (cur : Array Value) (t : TypeId)
    (hg : w.heap[g]? = some (.cells cur t (0, 0))) (h8 : cur.size = 2) : (execOp ρ o).run Tryd.prog w = .ok .skip (w.setRow g A) := by
  obtain ⟨S, b, rfl⟩ := hA
  exact exec_store27 w x y ho g hx S b hy cur t hg h8
theorem said_cells {W : World} {g : Nat} {S : ByteArray} {b : Bool} {t : TypeId} (hg : W.heap[g]? = some (.cells (saidV S b) t (0, 0))) : W.cell? ⟨g, 0, none⟩ = some (.string S) ∧ W.cell? ⟨g, 1, none⟩ = some (.bool b) :=
  ⟨by rw [cell_of_row W g 0 _ t (0, 0) hg]; rfl, by rw [cell_of_row W g 1 _ t (0, 0) hg]; rfl⟩
set_option maxRecDepth 100000 in
set_option maxHeartbeats 4000000 in
theorem all_law (s t : ByteArray) (hs : s.size ≤ 9223372036854775807) (ht : t.size ≤ 9223372036854775807) (n : Int) (hn : -9223372036854775808 ≤ n ∧ n ≤ 9223372036854775807) (w : World) :
    Calls Tryd.prog 3 #[.string s, .string t, .int .i64 n] w fun e w' => e = .returned (.bool true) ∧ Below w.heap.size w w' := by
  have H17 := Lib.hid awake_ok
  by_cases hlong : 200 < s.size ∨ 300 < t.size
  · have hc : ((200 : Int) < (s.size : Int)) ∨ (¬ ((200 : Int) < (s.size : Int)) ∧ (s.size : Int) ≤ 200 ∧ (300 : Int) < (t.size : Int)) := by omega
    rcases hc with h1 | ⟨h1, h2, h3⟩
    all_goals
      go_enter Tryd.func3, Tryd.ntmps3
      go_wp2_with fail
      refine (H17.out _).mono ?_
      rintro e w1 ⟨rfl, hb⟩
      go_wp2
      go_ret
      exact ⟨rfl, hb⟩
  have l1 : ¬ ((200 : Int) < (s.size : Int)) := by omega
  have l2 : (s.size : Int) ≤ 200 := by omega
  have l3 : ¬ ((300 : Int) < (t.size : Int)) := by omega
  have l4 : (t.size : Int) ≤ 300 := by omega
  obtain ⟨A1, B1, ht1, hs1⟩ := told_said (getHex t.data.toList)
  obtain ⟨A2, B2, ht2, hs2⟩ := told_said (get32I t.data.toList n)
  obtain ⟨A3, B3, ht3, hs3⟩ := told_said (get64 t.data.toList)
  have H1 : Hid (∀ W, Calls Tryd.prog 7 #[.string t] W fun e w2 => e = .returned (told (getHex t.data.toList)) ∧ Below W.heap.size W w2) := Lib.hid (fun W => getHex_any t W (by omega))
  have H2 : Hid (∀ W, Calls Tryd.prog 8 #[.string t, .int .i64 n] W fun e w2 => e = .returned (told (get32I t.data.toList n)) ∧ Below W.heap.size W w2) := Lib.hid (fun W => getBase32_any t n W (by omega))
  have H3 : Hid (∀ W, Calls Tryd.prog 9 #[.string t] W fun e w2 => e = .returned (told (get64 t.data.toList)) ∧ Below W.heap.size W w2) := Lib.hid (fun W => getBase64_any t W (by omega))
  have H4 := Lib.hid (rgethex_any t (by omega))
  have H5 := Lib.hid (rget32_any t n (by omega))
  have H6 := Lib.hid (rget64_any t (by omega))
  rw [ht1] at H1
  rw [ht2] at H2
  rw [ht3] at H3
  rw [hs1] at H4
  rw [hs2] at H5
  rw [hs3] at H6
  have H7 := Lib.hid (fun W => hex_any s W (by omega))
  have H8 := Lib.hid (rhex_any s (by omega))
  have H9 := Lib.hid (fun W => base32_any s W (by omega))
  have H10 := Lib.hid (rb32_any s (by omega))
  have H11 := Lib.hid (fun W => base64_any s W (by omega))
  have H12 := Lib.hid (rb64_any s (by omega))
  have H13 := Lib.hid (fun W => fold_any s n W (by omega))
  have H14 := Lib.hid (rfold_any s n hn (by omega))
  clear ht1 ht2 ht3 hs1 hs2 hs3 hlong hn
  obtain ⟨SH, hSH⟩ : ∃ SH : ByteArray, Hid (SH = ⟨(hex s.data.toList).toArray⟩) := ⟨_, Lib.hid rfl⟩
  obtain ⟨SB, hSB⟩ : ∃ SB : ByteArray, Hid (SB = ⟨(b32 s.data.toList).toArray⟩) := ⟨_, Lib.hid rfl⟩
  obtain ⟨SX, hSX⟩ : ∃ SX : ByteArray, Hid (SX = ⟨(b64 s.data.toList).toArray⟩) := ⟨_, Lib.hid rfl⟩
  obtain ⟨SF, hSF⟩ : ∃ SF : ByteArray, Hid (SF = ⟨(foldI s.data.toList n).toArray⟩) := ⟨_, Lib.hid rfl⟩
  rw [← hSH.out] at H7 H8
  rw [← hSB.out] at H9 H10
  rw [← hSX.out] at H11 H12
  rw [← hSF.out] at H13 H14
  obtain ⟨ZS, hZS⟩ : ∃ ZS, Hid (ZS = saidV ⟨#[]⟩ false) := ⟨_, Lib.hid rfl⟩
  have HZ : ∀ w, (zeroValue 27).run Tryd.prog w = .ok (.agg ZS) w := by rw [hZS.out]; exact zero27
  have SZ : ZS.size = 2 := by rw [hZS.out]; rfl
  obtain ⟨G1, hG1⟩ : ∃ G1, Hid (G1 = saidV A1 B1) := ⟨_, Lib.hid rfl⟩
  have IG1 : IsSaid G1 := by rw [hG1.out]; exact ⟨_, _, rfl⟩
  rw [← hG1.out] at H4
  obtain ⟨G2, hG2⟩ : ∃ G2, Hid (G2 = saidV A2 B2) := ⟨_, Lib.hid rfl⟩
  have IG2 : IsSaid G2 := by rw [hG2.out]; exact ⟨_, _, rfl⟩
  rw [← hG2.out] at H5
  obtain ⟨G3, hG3⟩ : ∃ G3, Hid (G3 = saidV A3 B3) := ⟨_, Lib.hid rfl⟩
  have IG3 : IsSaid G3 := by rw [hG3.out]; exact ⟨_, _, rfl⟩
  rw [← hG3.out] at H6
  clear hSH hSB hSX hSF hZS
  have HS : Hid (Kt w [] w) := Lib.hid (Kt.nil w)
  go_enter Tryd.func3, Tryd.ntmps3
  go_wp2_with fail
  refine (H1.out _).mono ?_
  rintro e w1 ⟨rfl, hb⟩
  have HS2 := Lib.hid (HS.out.below hb)
  clear hb HS H1
  go_wp2_with fail
  refine (H2.out _).mono ?_
  rintro e w3 ⟨rfl, hb⟩
  have HS4 := Lib.hid (HS2.out.below hb)
  clear hb HS2 H2
  go_wp2_with fail
  refine (H3.out _).mono ?_
  rintro e w5 ⟨rfl, hb⟩
  have HS6 := Lib.hid (HS4.out.below hb)
  clear hb HS4 H3
  go_wp2_with fail
  refine (H4.out _).mono ?_
  rintro e w7 ⟨rfl, hb⟩
  have HS8 := Lib.hid (HS6.out.below hb)
  clear hb HS6 H4
  go_wp2_with fail
  refine (H5.out _).mono ?_
  rintro e w9 ⟨rfl, hb⟩
  have HS10 := Lib.hid (HS8.out.below hb)
  clear hb HS8 H5
  go_wp2_with fail
  refine (H6.out _).mono ?_
  rintro e w11 ⟨rfl, hb⟩
  have HS12 := Lib.hid (HS10.out.below hb)
  clear hb HS10 H6
  have HA1 := ((HS12.out.new ZS 27).new ZS 27).new ZS 27
  simp only [World.size_alloc] at HA1
  obtain ⟨ga, hga⟩ : ∃ ga, Hid (ga = w11.heap.size) := ⟨_, Lib.hid rfl⟩
  have HK : Hid (Kt w [(w11.heap.size, ZS, 27), (w11.heap.size + 1, ZS, 27), (w11.heap.size + 1 + 1, ZS, 27)] (((w11.alloc (.cells ZS 27)).alloc (.cells ZS 27)).alloc (.cells ZS 27))) := Lib.hid (HA1.sub (fun p hp => by simp at hp; rcases hp with rfl | rfl | rfl <;> simp))
  have hlw : w.heap.size ≤ w11.heap.size := HS12.out.1.size
  clear HA1 HS12
  have HK1 : Hid (Kt w [(w11.heap.size, G1, 27), (w11.heap.size + 1, ZS, 27), (w11.heap.size + 1 + 1, ZS, 27)] ((((w11.alloc (.cells ZS 27)).alloc (.cells ZS 27)).alloc (.cells ZS 27)).setRow (w11.heap.size) G1)) := Lib.hid (HK.out.set (w11.heap.size) G1 ZS 27 (HK.out.get (w11.heap.size) ZS 27 (by simp)) (by omega) (fun p hp => by simp at hp; rcases hp with rfl | rfl | rfl <;> first | exact .inl rfl | exact .inr ⟨by simp, by simp only; omega⟩))
  have HK2 : Hid (Kt w [(w11.heap.size, G1, 27), (w11.heap.size + 1, G2, 27), (w11.heap.size + 1 + 1, ZS, 27)] (((((w11.alloc (.cells ZS 27)).alloc (.cells ZS 27)).alloc (.cells ZS 27)).setRow (w11.heap.size) G1).setRow (w11.heap.size + 1) G2)) := Lib.hid (HK1.out.set (w11.heap.size + 1) G2 ZS 27 (HK1.out.get (w11.heap.size + 1) ZS 27 (by simp)) (by omega) (fun p hp => by simp at hp; rcases hp with rfl | rfl | rfl <;> first | exact .inl rfl | exact .inr ⟨by simp, by simp only; omega⟩))
  have HK3 : Hid (Kt w [(w11.heap.size, G1, 27), (w11.heap.size + 1, G2, 27), (w11.heap.size + 1 + 1, G3, 27)] ((((((w11.alloc (.cells ZS 27)).alloc (.cells ZS 27)).alloc (.cells ZS 27)).setRow (w11.heap.size) G1).setRow (w11.heap.size + 1) G2).setRow (w11.heap.size + 1 + 1) G3)) := Lib.hid (HK2.out.set (w11.heap.size + 1 + 1) G3 ZS 27 (HK2.out.get (w11.heap.size + 1 + 1) ZS 27 (by simp)) (by omega) (fun p hp => by simp at hp; rcases hp with rfl | rfl | rfl <;> first | exact .inl rfl | exact .inr ⟨by simp, by simp only; omega⟩))
  go_upto_region 7 with (first | ((refine wpList_run rfl _ (exec_alloc_agg _ 27 rfl _ (HZ _)) ?_); try simp only [World.size_alloc]) | (refine wpList_run0 rfl (exec_store27k _ (.tmp 13) (.tmp 42) rfl (w11.heap.size) rfl G1 IG1 rfl ZS 27 (HK.out.get (w11.heap.size) ZS 27 (by simp)) SZ) ?_) | (refine wpList_run0 rfl (exec_store27k _ (.tmp 14) (.tmp 45) rfl (w11.heap.size + 1) rfl G2 IG2 rfl ZS 27 (HK1.out.get (w11.heap.size + 1) ZS 27 (by simp)) SZ) ?_) | (refine wpList_run0 rfl (exec_store27k _ (.tmp 15) (.tmp 47) rfl (w11.heap.size + 1 + 1) rfl G3 IG3 rfl ZS 27 (HK2.out.get (w11.heap.size + 1 + 1) ZS 27 (by simp)) SZ) ?_))
  try simp only [Act.put, List.setIfInBounds_toArray, List.set_cons_succ, List.set_cons_zero]
  clear HK HK1 HK2
  generalize (((((w11.alloc (.cells ZS 27)).alloc (.cells ZS 27)).alloc (.cells ZS 27)).setRow (w11.heap.size) G1).setRow (w11.heap.size + 1) G2).setRow (w11.heap.size + 1 + 1) G3 = W7 at *
  obtain ⟨g13, e13⟩ : ∃ g13, g13 = w11.heap.size := ⟨_, rfl⟩
  rw [← e13] at HK3 ⊢
  clear e13 hlw hga
  go_wp2_with fail
  refine (H7.out _).mono ?_
  rintro e wc1 ⟨rfl, hb⟩
  have HSc2 := Lib.hid (HK3.out.below hb)
  clear hb HK3 H7
  go_wp2_with fail
  refine (H8.out _).mono ?_
  rintro e wc3 ⟨rfl, hb⟩
  have HSc4 := Lib.hid (HSc2.out.below hb)
  clear hb HSc2 H8
  go_wp2_with fail
  refine (H9.out _).mono ?_
  rintro e wc5 ⟨rfl, hb⟩
  have HSc6 := Lib.hid (HSc4.out.below hb)
  clear hb HSc4 H9
  go_wp2_with fail
  refine (H10.out _).mono ?_
  rintro e wc7 ⟨rfl, hb⟩
  have HSc8 := Lib.hid (HSc6.out.below hb)
  clear hb HSc6 H10
  go_wp2_with fail
  refine (H11.out _).mono ?_
  rintro e wc9 ⟨rfl, hb⟩
  have HSc10 := Lib.hid (HSc8.out.below hb)
  clear hb HSc8 H11
  go_wp2_with fail
  refine (H12.out _).mono ?_
  rintro e wc11 ⟨rfl, hb⟩
  have HSc12 := Lib.hid (HSc10.out.below hb)
  clear hb HSc10 H12
  obtain ⟨c1a, c1b⟩ := said_cells (S := A1) (b := B1) (t := 27) (by rw [← hG1.out]; exact HSc12.out.get (g13) G1 27 (by simp))
  obtain ⟨c2a, c2b⟩ := said_cells (S := A2) (b := B2) (t := 27) (by rw [← hG2.out]; exact HSc12.out.get (g13 + 1) G2 27 (by simp))
  obtain ⟨c3a, c3b⟩ := said_cells (S := A3) (b := B3) (t := 27) (by rw [← hG3.out]; exact HSc12.out.get (g13 + 1 + 1) G3 27 (by simp))
  clear hG1 hG2 hG3 IG1 IG2 IG3
  go_wp2_with fail
  refine (H13.out _).mono ?_
  rintro e wd1 ⟨rfl, hb⟩
  have HSd2 := Lib.hid (HSc12.out.below hb)
  clear hb HSc12 H13
  clear c1a c1b c2a c2b c3a c3b
  go_wp2_with fail
  refine (H14.out _).mono ?_
  rintro e wd3 ⟨rfl, hb⟩
  have HSd4 := Lib.hid (HSd2.out.below hb)
  clear hb HSd2 H14
  go_wp2_with fail
  refine (H17.out _).mono ?_
  rintro e wd5 ⟨rfl, hb⟩
  have HSd6 := Lib.hid (HSd4.out.below hb)
  clear hb HSd4 H17
  go_wp2
  go_ret
  exact ⟨rfl, HSd6.out.1⟩
end Go.Proofs.YtkkdcecnegdipaaDoor.R
