/- GetHex of the document: what letters say, if anything. No condition but that there are up to a thousand letters. -/
import Derived.Test.YtkkdcecnegdipaaDoorRHex
import Derived.Shelf.Abstract
namespace Go.Proofs.YtkkdcecnegdipaaDoor.R
open Go.RowKit Go.Shelf
set_option linter.unusedVariables false
set_option linter.unusedSimpArgs false
theorem enters29 : ∀ args w, (callFunc 29 args).run Tryd.prog w = .ok (.enter 29 args) w := enters_of Tryd.func29 (by kernel_rfl) rfl
theorem bcell {W w1 : World} (hb : Below W.heap.size W w1) : (∀ b o, b < W.heap.size → w1.cell? ⟨b, o, none⟩ = W.cell? ⟨b, o, none⟩) := fun b o hlt => hb.cell hlt
/-- A row of bytes of the call's own as a string, now and later. -/
theorem own_str {wr : World} {B : Nat} {v : Value} {n : Nat} {l : List UInt8} (hown : wr.ownsRow B 5 1 v n (bytesV l)) (h0 : n = 0 → v = .slice none 0 0) :
    ∃ ad cap, v = .slice ad n cap ∧ ∀ W, Below wr.heap.size wr W → (Go.convert 33 9 (.slice ad n cap)).run Tryd.prog W = .ok (.string ⟨l.toArray⟩) W := by
  have hl : l.length = n := by have := hown.1; rw [bytesV_length] at this; omega
  by_cases hn : n = 0
  · subst hn
    have : l = [] := List.eq_nil_of_length_eq_zero hl
    subst this
    exact ⟨none, 0, h0 rfl, fun W _ => conv_nil W⟩
  · rcases hown.2 with ⟨_, h0⟩ | ⟨g, cap, cur, rfl, hg2⟩
    · exact absurd h0 hn
    · subst hl
      refine ⟨some ⟨g, 0, none⟩, cap, rfl, fun W hb => run_convert_bytes_back W 33 9 5 ⟨g, 0, none⟩ cap l Tryd.underlying33 Tryd.underlying5 Tryd.underlying9 (fun j hj => ?_)⟩
      have hc := hown.cellAt j (by omega)
      have hlt : g < wr.heap.size := lt_of_block hg2.2.1
      rw [addr_add, Nat.zero_add, bcell hb _ _ hlt, hc]
      unfold bytesV
      rw [List.getElem?_map, List.getElem?_eq_getElem hj]
      rfl
/-- Bytes, or none, in memory. -/
def saidV (S : ByteArray) (b : Bool) : Array Value := [Value.string S, Value.bool b].toArray
def said (o : Option (List UInt8)) : Array Value := match o with
  | some l => saidV ⟨l.toArray⟩ true
  | none => saidV ⟨#[]⟩ false
theorem size27 (S : ByteArray) (b : Bool) : (Tryd.prog.info? 27).map (·.size) = some [Value.string S, Value.bool b].length := by kernel_rfl
theorem saidOne (S : ByteArray) (b : Bool) : ∀ v ∈ [Value.string S, Value.bool b], v.oneCell' = true := by
  intro v hv
  simp at hv
  rcases hv with rfl | rfl <;> rfl
theorem zero27 (w : World) : (zeroValue 27).run Tryd.prog w = .ok (.agg (saidV ⟨#[]⟩ false)) w := by kernel_rfl
theorem load27 {W : World} {g : Nat} (S : ByteArray) (b : Bool) {t : TypeId} (hg : W.heap[g]? = some (.cells (saidV S b) t (0, 0))) : (loadVar 27 ⟨g, 0, none⟩).run Tryd.prog W = .ok (.agg (saidV S b)) W :=
  run_loadVar_seg W 27 g 0 [.string S, .bool b] _ (fun j v hv => by rw [Nat.zero_add, cell_of_row W g j _ t (0, 0) hg, saidV, List.getElem?_toArray, hv]) Tryd.underlying27 rfl (size27 S b)
theorem exec_store27 {ρ : Operand → Value} {o : Oper} (w : World) (x y : Operand) (ho : o.op = .store 27 x y) (g : Nat) (hx : ρ x = .pointer (some ⟨g, 0, none⟩)) (S : ByteArray) (b : Bool) (hy : ρ y = .agg (saidV S b)) (cur : Array Value) (t : TypeId)
    (hg : w.heap[g]? = some (.cells cur t (0, 0))) (h8 : cur.size = 2) : (execOp ρ o).run Tryd.prog w = .ok .skip (w.setRow g (saidV S b)) := by
  have h := exec_store_seg (P := Tryd.prog) (ρ := ρ) (o := o) w 27 x y ho g 0 hx [.string S, .bool b] hy cur t hg (by simp; omega) (saidOne S b) (size27 S b)
  rwa [splice_all _ _ (by simp; exact h8)] at h
theorem build27_0 (w : World) : (Instr.build 27 #[]).run Tryd.prog w = .ok (.agg (saidV ⟨#[]⟩ false)) w := by kernel_rfl
theorem build27 (S : ByteArray) (b : Bool) (w : World) : (Instr.build 27 #[(0, .string S), (1, .bool b)]).run Tryd.prog w = .ok (.agg (saidV S b)) w := by kernel_rfl
theorem exec_build2 {ρ : Operand → Value} {o : Oper} (w : World) (t : TypeId) (k k2 : Nat) (x x2 : Operand) (ho : o.op = .build t #[(k, x), (k2, x2)]) (u u2 : Value) (hx : ρ x = u) (hx2 : ρ x2 = u2) (v : Value)
    (hrun : (Instr.build t #[(k, u), (k2, u2)]).run Tryd.prog w = .ok v w) : (execOp ρ o).run Tryd.prog w = .ok (.value v) w := by
  subst hx hx2
  unfold execOp
  simp [ho, hrun]
theorem exec_build0g {ρ : Operand → Value} {o : Oper} {t : TypeId} (ho : o.op = .build t #[]) (v : Value) {w : World} (hrun : (Instr.build t #[]).run Tryd.prog w = .ok v w) (w2 : World) (hw : w2 = w := by rfl) : (execOp ρ o).run Tryd.prog w2 = .ok (.value v) w2 := by
  subst hw
  unfold execOp
  simp [ho, hrun]
theorem exec_index_str {ρ : Operand → Value} {o : Oper} (x y : Operand) (ho : o.op = .index 9 x y) (s : ByteArray) (i : Nat) (hi : i < s.size) (hx : ρ x = .string s) (hy : ρ y = .int .i64 (i : Int)) (w : World) : (execOp ρ o).run Tryd.prog w = .ok (.value (.int .u8 (s[i].toNat : Int))) w := by
  unfold execOp
  rw [ho]
  simp only [hx, hy]
  go_simp
theorem str_ne {V s : ByteArray} (he : V ≠ s) : (V.toList == s.toList) = false := by
  simp only [beq_eq_false_iff_ne, ne_eq]
  intro h
  apply he
  rw [ByteArray.toList_eq, ByteArray.toList_eq] at h
  exact ByteArray.ext (Array.toList_inj.1 h)
theorem str_eq {V s : ByteArray} (he : V = s) : (V.toList == s.toList) = true := by rw [he]; simp
theorem exec_slice1 {ρ : Operand → Value} {o : Oper} (x : Operand) (ho : o.op = .buildSlice 33 1 #[(0, x)]) (b : Nat) (hx : ρ x = .int .u8 (b : Int)) (w : World) :
    (execOp ρ o).run Tryd.prog w = .ok (.value (.slice (some ⟨w.heap.size, 0, none⟩) 1 1)) (w.alloc (.cells #[.int .u8 (b : Int)] 5)) := by
  unfold execOp
  simp only [ho]
  have h : ∀ v, v = Value.int .u8 (b : Int) → (Instr.buildSlice 33 1 #[(0, v)]).run Tryd.prog w = .ok (.slice (some ⟨w.heap.size, 0, none⟩) 1 1) (w.alloc (.cells #[.int .u8 (b : Int)] 5)) := by
    rintro v rfl
    kernel_rfl
  simp [h _ hx]
/-- What two letters say. -/
def gvI (p q : Int) : Int := IntKind.u8.wrap (bits .or .i64 (IntKind.i64.wrap (p * 16)) (bits .and .i64 q 15))
def gv (a b : UInt8) : UInt8 := UInt8.ofNat (gvI (plI hexL a) (plI hexL b)).toNat
theorem gvI_range (p q : Int) : 0 ≤ gvI p q ∧ gvI p q < 256 := by
  unfold gvI
  have h : ∀ x : Int, 0 ≤ IntKind.u8.wrap x ∧ IntKind.u8.wrap x < 256 := by
    intro x
    have h : IntKind.u8.wrap x = x % 256 := by simp [IntKind.wrap, IntKind.bits, IntKind.signed]
    rw [h]; omega
  exact h _
theorem gv_val (a b : UInt8) : gvI (plI hexL a) (plI hexL b) = ((gv a b).toNat : Int) := by
  have h := gvI_range (plI hexL a) (plI hexL b)
  unfold gv
  rw [UInt8.toNat_ofNat']
  omega
theorem gv_digit : ∀ d, d < 16 → ∀ e, e < 16 → gvI (d : Nat) (e : Nat) = (d * 16 + e : Nat) := by decide +kernel
theorem plI_hexd : ∀ d, d < 16 → plI hexL (hexd d) = (d : Nat) := by decide +kernel
theorem gv_hexd (c : UInt8) : gv (hexd (c.toNat / 16)) (hexd (c.toNat % 16)) = c := by
  have hc := c.toNat_lt
  unfold gv
  rw [plI_hexd _ (by omega), plI_hexd _ (by omega), gv_digit _ (by omega) _ (by omega)]
  apply UInt8.toNat_inj.1
  rw [UInt8.toNat_ofNat']
  omega
/-- What pairs of letters say. -/
def uh (s : List UInt8) (q : Nat) : List UInt8 := (List.range q).map fun j => gv (s.getD (2 * j) 0) (s.getD (2 * j + 1) 0)
theorem uh_length (s : List UInt8) (q : Nat) : (uh s q).length = q := by simp [uh]
theorem uh_succ (s : List UInt8) (q : Nat) : uh s (q + 1) = uh s q ++ [gv (s.getD (2 * q) 0) (s.getD (2 * q + 1) 0)] := by simp [uh, List.range_succ]
theorem uh_cons (a b : UInt8) (s : List UInt8) (q : Nat) : uh (a :: b :: s) (q + 1) = gv a b :: uh s q := by
  unfold uh
  rw [List.range_succ_eq_map, List.map_cons, List.map_map]
  rfl
theorem uh_hex : ∀ l : List UInt8, uh (hex l) l.length = l
  | [] => rfl
  | c :: l => by
    show uh (hexd (c.toNat / 16) :: hexd (c.toNat % 16) :: hex l) (l.length + 1) = c :: l
    rw [uh_cons, uh_hex l, gv_hexd]
theorem getHex_uh (s : List UInt8) : getHex s = if hex (uh s (s.length / 2)) = s then some (uh s (s.length / 2)) else none :=
  getHex_of s _ (fun b hb => by
    subst hb
    rw [hex_length, show 2 * b.length / 2 = b.length by omega]
    exact uh_hex b)
def hexB : ByteArray := ⟨hexL.toArray⟩
theorem exec_conv35 {ρ : Operand → Value} {o : Oper} (x : Operand) (ho : o.op = .convert 3 5 x) (a : Int) (b : Nat) (hx : ρ x = .int .i64 a) (hb : IntKind.u8.wrap a = (b : Int)) (w : World) : (execOp ρ o).run Tryd.prog w = .ok (.value (.int .u8 (b : Int))) w := by
  unfold execOp
  rw [ho]
  simp only [hx]
  go_simp
set_option maxRecDepth 100000 in
set_option maxHeartbeats 1000000 in
theorem rgethex_any (s : ByteArray) (hs : s.size ≤ 1000) (w : World) :
    Calls Tryd.prog 10 #[.string s] w fun e w' => e = .returned (.agg (said (getHex s.data.toList))) ∧ Below w.heap.size w w' := by
  have HPL : Hid (∀ c W, Calls Tryd.prog 29 #[.string hexB, .int .u8 ((c : UInt8).toNat : Int)] W fun e w' => e = .returned (.int .i64 (plI hexL c)) ∧ w' = W) := Lib.hid (fun c W => place_any hexB c (by decide) W)
  have hlen : s.data.toList.length = s.size := rfl
  have hG := Lib.hid (getHex_uh s.data.toList)
  obtain ⟨ZS, hZS⟩ : ∃ ZS, Hid (ZS = saidV ⟨#[]⟩ false) := ⟨_, Lib.hid rfl⟩
  have HZ : ∀ w, (zeroValue 27).run Tryd.prog w = .ok (.agg ZS) w := by rw [hZS.out]; exact zero27
  have SZ : ZS.size = 2 := by rw [hZS.out]; rfl
  have h0 : (w.alloc (.cells ZS 27)).heap[w.heap.size]? = some (.cells ZS 27 (0, 0)) := heap_alloc_new w _
  have hb0 : Below w.heap.size w (w.alloc (.cells ZS 27)) := (Below.refl _ w).alloc (Nat.le_refl _) _
  have hz0 : (w.alloc (.cells ZS 27)).heap.size = w.heap.size + 1 := by simp
  go_enter Tryd.func10, Tryd.ntmps10
  go_wp2_with ((refine wpList_run rfl _ (exec_alloc_agg _ 27 rfl _ (HZ _)) ?_); try simp only [World.size_alloc])
  try simp only [Act.put, List.setIfInBounds_toArray, List.set_cons_succ, List.set_cons_zero]
  generalize w.alloc (.cells ZS 27) = W0 at *
  have HZ0 := Lib.hid h0
  have HB0 := Lib.hid hb0
  have HS0 := Lib.hid hz0
  clear h0 hb0 hz0
  go_loopw [3, 4] (fun v i wr => ∃ q : Nat, 2 * q ≤ s.size ∧ i = .int .i64 ((2 * q : Nat) : Int) ∧ wr.ownsRow (w.heap.size + 1) 5 1 v q (bytesV (uh s.data.toList q)) ∧ (q = 0 → v = .slice none 0 0) ∧ Below (w.heap.size + 1) W0 wr) (fun _ i _ => s.size - (intOf i).toNat)
  case atStart => exact ⟨0, by omega, rfl, World.ownsRow_nil _ _ _ _, fun _ => rfl, Below.refl _ _⟩
  case round =>
    obtain ⟨q, hq, rfl, hown, hv0, hb⟩ := hrel
    obtain ⟨I, hI⟩ : ∃ I, I = 2 * q := ⟨_, rfl⟩
    rw [← hI] at hq ⊢
    obtain ⟨J, hJ⟩ : ∃ J, Hid (J = I + 1) := ⟨_, Lib.hid rfl⟩
    have hJ1 : (I : Int) + 1 = (J : Int) := by rw [hJ.out]; omega
    by_cases hlt : J < s.size
    · have hltI : (J : Int) < (s.size : Int) := by omega
      have hIl : I < s.size := by have := hJ.out; omega
      have hq2 : q + 1 ≤ 1000000 := by have := hJ.out; omega
      have HPA := Lib.hid (fun W => HPL.out s[I] W)
      have HPB := Lib.hid (fun W => HPL.out s[J] W)
      have hgv := gv_val s[I] s[J]
      have huh : Hid (uh s.data.toList (q + 1) = uh s.data.toList q ++ [gv s[I] s[J]]) := by
        unfold Hid
        rw [uh_succ, ← hI, ← hJ.out]
        congr 3
        · rw [List.getD_eq_getElem?_getD, List.getElem?_eq_getElem (by omega : I < s.data.toList.length)]; rfl
        · rw [List.getD_eq_getElem?_getD, List.getElem?_eq_getElem (by omega : J < s.data.toList.length)]; rfl
      have hq0 : Hid (I + 2 = 2 * (q + 1)) := by unfold Hid; omega
      have hJs : Hid (I + 2 ≤ s.size) := by unfold Hid; have := hJ.out; omega
      generalize gv s[I] s[J] = g at *
      obtain ⟨v', W3, happ, hown', hb', hz'⟩ := bytes_app (wr := wr.drew) hown hb.drew (by have := HS0.out; rw [← this]; exact hb.size) [g] 1 rfl _ rfl (by omega)
      have HAPP := Lib.hid happ
      have HO := Lib.hid hown'
      have HF := Lib.hid hb'
      clear happ hown' hb' hown hb hz' hG hlen hI
      go_upto_region 5 with fail
      try simp only [Act.put, List.setIfInBounds_toArray, List.set_cons_succ, List.set_cons_zero]
      refine wp_nrm ?_
      refine wp_region_any (by kernel_rfl) ?_
      change wpAny _ _ _ _ _ _ _ (World.drew _)
      generalize wr.drew = Wd at *
      refine any_of_F (S := fun _ => True) (f := 1000) _ _ _ _ ?_
      refine AnyF.takeG (by rfl) 0 (some 12) (.move (.tmp 3)) none (u3) rfl (by kernel_rfl) (by kernel_rfl) (by kernel_rfl) (fun _ _ _ h => h) rfl (fun o h => by obtain rfl := Option.some.inj h; rfl) (fun o ho w2 _ => exec_move (.tmp 3) ho _ rfl w2) trivial ?_
      simp only [Act.put, List.setIfInBounds_toArray, List.set_cons_succ, List.set_cons_zero]
      refine AnyF.takeG (by rfl) 1 (some 13) (.move (.tmp 0)) none (.string s) rfl (by kernel_rfl) (by kernel_rfl) (by kernel_rfl) (fun _ _ _ h => h) rfl (fun o h => by obtain rfl := Option.some.inj h; rfl) (fun o ho w2 _ => exec_move (.tmp 0) ho _ rfl w2) trivial ?_
      simp only [Act.put, List.setIfInBounds_toArray, List.set_cons_succ, List.set_cons_zero]
      refine AnyF.takeG (by rfl) 2 (some 14) (.move (.tmp 4)) none (.int .i64 (I : Int)) rfl (by kernel_rfl) (by kernel_rfl) (by kernel_rfl) (fun _ _ _ h => h) rfl (fun o h => by obtain rfl := Option.some.inj h; rfl) (fun o ho w2 _ => exec_move (.tmp 4) ho _ rfl w2) trivial ?_
      simp only [Act.put, List.setIfInBounds_toArray, List.set_cons_succ, List.set_cons_zero]
      refine AnyF.takeG (by rfl) 3 (some 15) (.index 9 (.tmp 13) (.tmp 14)) none (.int .u8 (s[I].toNat : Int)) rfl (by kernel_rfl) (by kernel_rfl) (by kernel_rfl) (fun _ _ _ h => h) rfl (fun o h => by obtain rfl := Option.some.inj h; rfl) (fun o ho w2 _ => exec_index_str (.tmp 13) (.tmp 14) ho s I hIl rfl rfl w2) trivial ?_
      simp only [Act.put, List.setIfInBounds_toArray, List.set_cons_succ, List.set_cons_zero]
      refine AnyF.takeG (by rfl) 6 (some 18) (.move (.tmp 0)) none (.string s) rfl (by kernel_rfl) (by kernel_rfl) (by kernel_rfl) (fun _ _ _ h => h) rfl (fun o h => by obtain rfl := Option.some.inj h; rfl) (fun o ho w2 _ => exec_move (.tmp 0) ho _ rfl w2) trivial ?_
      simp only [Act.put, List.setIfInBounds_toArray, List.set_cons_succ, List.set_cons_zero]
      refine AnyF.takeG (by rfl) 7 (some 19) (.move (.tmp 4)) none (.int .i64 (I : Int)) rfl (by kernel_rfl) (by kernel_rfl) (by kernel_rfl) (fun _ _ _ h => h) rfl (fun o h => by obtain rfl := Option.some.inj h; rfl) (fun o ho w2 _ => exec_move (.tmp 4) ho _ rfl w2) trivial ?_
      simp only [Act.put, List.setIfInBounds_toArray, List.set_cons_succ, List.set_cons_zero]
      refine AnyF.takeG (by rfl) 8 (some 20) (.binOp .add 3 (.tmp 19) (.const (.int .i64 1)) 3) none (.int .i64 (J : Int)) rfl (by kernel_rfl) (by kernel_rfl) (by kernel_rfl) (fun _ _ _ h => h) rfl (fun o h => by obtain rfl := Option.some.inj h; rfl) (fun o ho w2 _ => by have hw := IntWalk.i64_in (J : Int) (by omega); unfold execOp; rw [ho]; go_simp) trivial ?_
      simp only [Act.put, List.setIfInBounds_toArray, List.set_cons_succ, List.set_cons_zero]
      refine AnyF.takeG (by rfl) 9 (some 21) (.index 9 (.tmp 18) (.tmp 20)) none (.int .u8 (s[J].toNat : Int)) rfl (by kernel_rfl) (by kernel_rfl) (by kernel_rfl) (fun _ _ _ h => h) rfl (fun o h => by obtain rfl := Option.some.inj h; rfl) (fun o ho w2 _ => exec_index_str (.tmp 18) (.tmp 20) ho s J hlt rfl rfl w2) trivial ?_
      simp only [Act.put, List.setIfInBounds_toArray, List.set_cons_succ, List.set_cons_zero]
      refine AnyF.ready (rs := [4]) (by kernel_rfl) (by simp) (ReadyF.call (some 16) 29 #[.const (.string { data := #[48, 49, 50, 51, 52, 53, 54, 55, 56, 57, 97, 98, 99, 100, 101, 102] }), .tmp 15] #[9, 5] rfl #[.string { data := #[48, 49, 50, 51, 52, 53, 54, 55, 56, 57, 97, 98, 99, 100, 101, 102] }, .int .u8 (s[I].toNat : Int)] (by simp [Act.eval]) enters29 _ (HPA.out _) ?_ (fun c w' h => by cases h.1) (fun w' h => by cases h.1) ReadyF.nil)
      rintro v w' ⟨he, hw'⟩
      cases he
      rw [hw']
      clear hw'
      refine ⟨trivial, ?_⟩
      simp only [Act.put, List.setIfInBounds_toArray, List.set_cons_succ, List.set_cons_zero]
      refine AnyF.takeG (by rfl) 5 (some 17) (.binOp .shl 3 (.tmp 16) (.const (.int .u64 4)) 46) none (.int .i64 (IntKind.i64.wrap (plI hexL s[I] * 16))) rfl (by kernel_rfl) (by kernel_rfl) (by kernel_rfl) (fun _ _ _ h => h) rfl (fun o h => by obtain rfl := Option.some.inj h; rfl) (fun o ho w2 _ => by unfold execOp; rw [ho]; go_simp) trivial ?_
      simp only [Act.put, List.setIfInBounds_toArray, List.set_cons_succ, List.set_cons_zero]
      refine AnyF.ready (rs := [10]) (by kernel_rfl) (by simp) (ReadyF.call (some 22) 29 #[.const (.string { data := #[48, 49, 50, 51, 52, 53, 54, 55, 56, 57, 97, 98, 99, 100, 101, 102] }), .tmp 21] #[9, 5] rfl #[.string { data := #[48, 49, 50, 51, 52, 53, 54, 55, 56, 57, 97, 98, 99, 100, 101, 102] }, .int .u8 (s[J].toNat : Int)] (by simp [Act.eval]) enters29 _ (HPB.out _) ?_ (fun c w' h => by cases h.1) (fun w' h => by cases h.1) ReadyF.nil)
      rintro v w' ⟨he, hw'⟩
      cases he
      rw [hw']
      clear hw'
      refine ⟨trivial, ?_⟩
      simp only [Act.put, List.setIfInBounds_toArray, List.set_cons_succ, List.set_cons_zero]
      refine AnyF.takeG (by rfl) 11 (some 23) (.binOp .and 3 (.tmp 22) (.const (.int .i64 15)) 3) none (.int .i64 (bits .and .i64 (plI hexL s[J]) 15)) rfl (by kernel_rfl) (by kernel_rfl) (by kernel_rfl) (fun _ _ _ h => h) rfl (fun o h => by obtain rfl := Option.some.inj h; rfl) (fun o ho w2 _ => by unfold execOp; rw [ho]; go_simp) trivial ?_
      simp only [Act.put, List.setIfInBounds_toArray, List.set_cons_succ, List.set_cons_zero]
      refine AnyF.takeG (by rfl) 12 (some 24) (.binOp .or 3 (.tmp 17) (.tmp 23) 3) none (.int .i64 (bits .or .i64 (IntKind.i64.wrap (plI hexL s[I] * 16)) (bits .and .i64 (plI hexL s[J]) 15))) rfl (by kernel_rfl) (by kernel_rfl) (by kernel_rfl) (fun _ _ _ h => h) rfl (fun o h => by obtain rfl := Option.some.inj h; rfl) (fun o ho w2 _ => by unfold execOp; rw [ho]; go_simp) trivial ?_
      simp only [Act.put, List.setIfInBounds_toArray, List.set_cons_succ, List.set_cons_zero]
      refine AnyF.takeG (by rfl) 13 (some 25) (.convert 3 5 (.tmp 24)) none (.int .u8 (g.toNat : Int)) rfl (by kernel_rfl) (by kernel_rfl) (by kernel_rfl) (fun _ _ _ h => h) rfl (fun o h => by obtain rfl := Option.some.inj h; rfl) (fun o ho w2 _ => exec_conv35 (.tmp 24) ho _ g.toNat rfl hgv w2) trivial ?_
      simp only [Act.put, List.setIfInBounds_toArray, List.set_cons_succ, List.set_cons_zero]
      refine AnyF.ready (rs := [14]) (by kernel_rfl) (by simp) (ReadyF.op (w2 := Wd.alloc (.cells #[.int .u8 (g.toNat : Int)] 5)) (some 26) (.buildSlice 33 1 #[(0, .tmp 25)]) rfl (.slice (some ⟨Wd.heap.size, 0, none⟩) 1 1) (fun o ho => exec_slice1 (.tmp 25) ho g.toNat rfl Wd) trivial ?_ ReadyF.nil)
      simp only [Act.put, List.setIfInBounds_toArray, List.set_cons_succ, List.set_cons_zero]
      refine AnyF.ready (rs := [15]) (by kernel_rfl) (by simp) (ReadyF.op (w2 := W3) (some 27) (.call { callee := .builtin .append, args := #[.tmp 12, .tmp 26], argTypes := #[33, 33] }) rfl (v') (fun o ho => HAPP.out _ _ (.tmp 12) (.tmp 26) ho rfl rfl) trivial ?_ ReadyF.nil)
      simp only [Act.put, List.setIfInBounds_toArray, List.set_cons_succ, List.set_cons_zero]
      refine AnyF.takeG (by rfl) 16 (some 3) (.assign (.tmp 27)) none (v') rfl (by kernel_rfl) (by kernel_rfl) (by kernel_rfl) (fun _ _ _ h => h) rfl (fun o h => by obtain rfl := Option.some.inj h; rfl) (fun o ho w2 _ => exec_assign (.tmp 27) ho _ rfl w2) trivial ?_
      simp only [Act.put, List.setIfInBounds_toArray, List.set_cons_succ, List.set_cons_zero]
      refine AnyF.done (by kernel_rfl) ?_ _
      refine nrm_intro ?_
      go_wp2
      go_roundw
      case rel => exact ⟨q + 1, by rw [← hq0.out]; exact hJs.out, by rw [← hq0.out]; go_num, by rw [huh.out]; exact HO.out, fun h => by omega, HF.out⟩
      case measure => simp [intOf]; omega
    · have hqe : q = s.data.toList.length / 2 := by rw [hlen]; have := hJ.out; omega
      obtain ⟨ad, cap, rfl, hcv⟩ := own_str hown hv0
      rw [← hqe] at hG
      obtain ⟨D, hD⟩ : ∃ D : ByteArray, Hid (D = ⟨(uh s.data.toList q).toArray⟩) := ⟨_, Lib.hid rfl⟩
      have hDs : D.size ≤ 1000 := by rw [hD.out]; show (uh s.data.toList q).length ≤ 1000; rw [uh_length]; omega
      have H2 := Lib.hid (rhex_any D hDs)
      have hDl : D.data.toList = uh s.data.toList q := by rw [hD.out]
      rw [hDl] at H2
      obtain ⟨V, hV⟩ : ∃ V : ByteArray, Hid (V = ⟨(hex (uh s.data.toList q)).toArray⟩) := ⟨_, Lib.hid rfl⟩
      have hiff : V = s ↔ hex (uh s.data.toList q) = s.data.toList := by
        rw [hV.out]
        constructor
        · intro h; have h2 := congrArg (fun b : ByteArray => b.data.toList) h; simpa using h2
        · intro h; rw [h]
      have hB2 := Lib.hid (build27 D true)
      have hB0 := Lib.hid build27_0
      rw [← hZS.out] at hB0
      have HR1 : V = s → Hid (said (getHex s.data.toList) = saidV D true) := fun h => by unfold Hid; rw [hG.out, if_pos (hiff.1 h), hD.out]; rfl
      have HR2 : V ≠ s → Hid (said (getHex s.data.toList) = ZS) := fun h => by unfold Hid; rw [hG.out, if_neg (fun e => h (hiff.2 e)), hZS.out]; rfl
      rw [← hD.out] at hcv
      rw [← hV.out] at H2
      have hc1 := hcv wr (Below.refl _ _)
      have HCV := Lib.hid hcv
      have HB := Lib.hid hb
      have hJs : (s.size : Int) ≤ (J : Int) := by omega
      clear hcv hown hv0 hG hiff hV hDl hqe hlen hD hDs hb HZ HPL
      clear hI
      go_wp2_with fail
      refine (H2.out _).mono ?_
      rintro e w1 ⟨rfl, hb1⟩
      have hc2 := HCV.out w1 hb1
      have hg : w1.heap[w.heap.size]? = some (.cells ZS 27 (0, 0)) := by
        have h1 := HB.out.block w.heap.size (by omega)
        have hlt2 : w.heap.size < wr.heap.size := by have := HS0.out; have := HB.out.size; omega
        rw [hb1.block w.heap.size hlt2, h1]
        exact HZ0.out
      have hbel : Below w.heap.size w w1 := by
        have h1 := HB.out
        have := HS0.out
        exact (HB0.out.trans (h1.mono (by omega))).trans (hb1.mono (by have := h1.size; omega))
      have hbel2 : Hid (∀ A, Below w.heap.size w (w1.setRow (w.heap.size) A)) := Lib.hid (fun A => hbel.trans ⟨rfl, rfl, rfl, by simp, fun k hk => setRow_other _ _ _ _ (by omega)⟩)
      clear HCV hb1 HB HB0 HS0 HZ0 hc1 H2 hbel
      by_cases he : V = s
      · have hR := HR1 he
        have hdn := str_eq he
        clear HR1 HR2 he
        go_wp2_with (first | (refine wpList_run rfl _ (exec_build2 _ 27 0 1 (.tmp 35) (.const (.bool true)) rfl (.string D) (.bool true) rfl rfl _ (hB2.out _)) ?_) | (refine wpList_run0 rfl (exec_store27 _ (.tmp 2) (.tmp 36) rfl (w.heap.size) rfl D true rfl ZS 27 hg SZ) ?_))
        exact bodyPost_ret (results_cell rfl _ _ _ ⟨w.heap.size, 0, none⟩ rfl _ (load27 D true (t := 27) (setRow_heap _ _ _ _ _ _ hg))) rfl ⟨by rw [hR.out], hbel2.out _⟩
      · have hR := HR2 he
        have hdn := str_ne he
        clear HR1 HR2 he
        have hg2 : w1.heap[w.heap.size]? = some (.cells (saidV ⟨#[]⟩ false) 27 (0, 0)) := by rw [← hZS.out]; exact hg
        have hB0' : Hid (∀ w, (Instr.build 27 #[]).run Tryd.prog w = .ok (.agg (saidV ⟨#[]⟩ false)) w) := Lib.hid build27_0
        go_wp2_with (first | (refine wpList_run rfl _ (exec_build0g rfl (.agg (saidV ⟨#[]⟩ false)) (hB0'.out _) _) ?_) | (refine wpList_run0 rfl (exec_store27 _ (.tmp 2) (.tmp 33) rfl (w.heap.size) rfl ⟨#[]⟩ false rfl ZS 27 hg SZ) ?_))
        exact bodyPost_ret (results_cell rfl _ _ _ ⟨w.heap.size, 0, none⟩ rfl _ (load27 ⟨#[]⟩ false (t := 27) (setRow_heap _ _ _ _ _ _ hg))) rfl ⟨by rw [hR.out, hZS.out], hbel2.out _⟩
end Go.Proofs.YtkkdcecnegdipaaDoor.R
