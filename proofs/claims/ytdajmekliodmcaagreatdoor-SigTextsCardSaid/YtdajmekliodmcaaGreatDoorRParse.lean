/- ParseSig of the document: what a text says. Its condition: a text of up to a thousand bytes. -/
import Derived.Test.YtdajmekliodmcaaGreatDoorParse
import Derived.Test.YtdajmekliodmcaaGreatDoorRMore
namespace Go.Proofs.YtdajmekliodmcaaGreatDoor
open Go.RowKit Go.Shelf
open R
set_option linter.unusedVariables false
set_option linter.unusedSimpArgs false
/-- A name with a signature, or none, in memory. -/
def sgnV (N S : ByteArray) (b : Bool) : Array Value := [Value.string N, Value.string S, Value.bool b].toArray
def sgnO (o : Option (List UInt8 × List UInt8)) : Array Value := match o with
  | some (n, g) => sgnV ⟨n.toArray⟩ ⟨g.toArray⟩ true
  | none => sgnV ⟨#[]⟩ ⟨#[]⟩ false
theorem size50 (N S : ByteArray) (b : Bool) : (Tryz.prog.info? 50).map (·.size) = some [Value.string N, Value.string S, Value.bool b].length := by kernel_rfl
theorem sgnOne (N S : ByteArray) (b : Bool) : ∀ v ∈ [Value.string N, Value.string S, Value.bool b], v.oneCell' = true := by
  intro v hv
  simp at hv
  rcases hv with rfl | rfl | rfl <;> rfl
theorem zero50 (w : World) : (zeroValue 50).run Tryz.prog w = .ok (.agg (sgnV ⟨#[]⟩ ⟨#[]⟩ false)) w := by kernel_rfl
theorem load50 {W : World} {g : Nat} (N S : ByteArray) (b : Bool) {t : TypeId} (hg : W.heap[g]? = some (.cells (sgnV N S b) t (0, 0))) : (loadVar 50 ⟨g, 0, none⟩).run Tryz.prog W = .ok (.agg (sgnV N S b)) W :=
  run_loadVar_seg W 50 g 0 [.string N, .string S, .bool b] _ (fun j v hv => by rw [Nat.zero_add, cell_of_row W g j _ t (0, 0) hg, sgnV, List.getElem?_toArray, hv]) Tryz.underlying50 rfl (size50 N S b)
theorem exec_store50 {ρ : Operand → Value} {o : Oper} (w : World) (x y : Operand) (ho : o.op = .store 50 x y) (g : Nat) (hx : ρ x = .pointer (some ⟨g, 0, none⟩)) (N S : ByteArray) (b : Bool) (hy : ρ y = .agg (sgnV N S b)) (cur : Array Value) (t : TypeId)
    (hg : w.heap[g]? = some (.cells cur t (0, 0))) (h8 : cur.size = 3) : (execOp ρ o).run Tryz.prog w = .ok .skip (w.setRow g (sgnV N S b)) := by
  have h := exec_store_seg (P := Tryz.prog) (ρ := ρ) (o := o) w 50 x y ho g 0 hx [.string N, .string S, .bool b] hy cur t hg (by simp; omega) (sgnOne N S b) (size50 N S b)
  rwa [splice_all _ _ (by simp; exact h8)] at h
theorem build50_0 (w : World) : (Instr.build 50 #[]).run Tryz.prog w = .ok (.agg (sgnV ⟨#[]⟩ ⟨#[]⟩ false)) w := by kernel_rfl
theorem build50 (N S : ByteArray) (b : Bool) (w : World) : (Instr.build 50 #[(0, .string N), (1, .string S), (2, .bool b)]).run Tryz.prog w = .ok (.agg (sgnV N S b)) w := by kernel_rfl
theorem exec_build3 {ρ : Operand → Value} {o : Oper} (w : World) (t : TypeId) (k k2 k3 : Nat) (x x2 x3 : Operand) (ho : o.op = .build t #[(k, x), (k2, x2), (k3, x3)]) (u u2 u3 : Value) (hx : ρ x = u) (hx2 : ρ x2 = u2) (hx3 : ρ x3 = u3) (v : Value)
    (hrun : (Instr.build t #[(k, u), (k2, u2), (k3, u3)]).run Tryz.prog w = .ok v w) : (execOp ρ o).run Tryz.prog w = .ok (.value v) w := by
  subst hx hx2 hx3
  unfold execOp
  simp [ho, hrun]
theorem colon_get {s : List UInt8} {k : Nat} (hk : k < s.length) (hc : s[k] = 58) (hno : 58 ∉ s.take k) : colon s = some (s.take k, s.drop (k + 1)) := by
  have h := colon_app (s.take k) (s.drop (k + 1)) hno
  rwa [← hc, List.getElem_cons_drop, List.take_append_drop] at h
theorem colon_later {s : List UInt8} {k : Nat} (hno : 58 ∉ s.take k) {p r : List UInt8} (h : colon s = some (p, r)) : k ≤ p.length := by
  obtain ⟨h1, h2⟩ := colon_some h
  rcases Nat.lt_or_ge p.length k with hl | hl
  · exfalso
    apply hno
    rw [h1, List.take_append]
    refine List.mem_append_right _ ?_
    rw [show k - p.length = (k - p.length - 1) + 1 by omega, List.take_succ_cons]
    simp
  · exact hl
theorem parse_no {s : List UInt8} {k : Nat} (hno : 58 ∉ s.take k) (hk : 64 < k ∨ s.length ≤ k) : parseL s = none := by
  refine parse_not (fun n g hn hg e => ?_)
  have h1 := colon_app n (b64 g) (may_58 hn)
  rw [e] at h1
  have h2 := colon_later hno h1
  have h3 := (may_len hn).2
  have h4 := congrArg List.length e
  simp at h4
  omega
/-- Where the bytes that were told lie; the result's block as it was. -/
def RS (w : World) (g : Nat) (ZS : Array Value) (D : ByteArray) (b : Bool) (W : World) : Prop := W.heap[w.heap.size]? = some (.cells ZS 50 (0, 0)) ∧ Below w.heap.size w W ∧ W.cell? ⟨g, 0, none⟩ = some (.string D) ∧ W.cell? ⟨g, 1, none⟩ = some (.bool b)
theorem exec_fld {ρ : Operand → Value} {o : Oper} (k : Nat) (x : Operand) (ho : o.op = .fieldAddr 26 x k) (g : Nat) (hx : ρ x = .pointer (some ⟨g, 0, none⟩)) (w : World) (hk : k = 0 ∨ k = 1 := by first | exact .inl rfl | exact .inr rfl) :
    (execOp ρ o).run Tryz.prog w = .ok (.value (.pointer (some ⟨g, k, none⟩))) w := by
  unfold execOp
  rw [ho]
  simp only [hx]
  rcases hk with rfl | rfl <;> kernel_rfl
theorem RS.below {w W W2 : World} {g : Nat} {ZS : Array Value} {D : ByteArray} {b : Bool} (h : RS w g ZS D b W) (hb : Below W.heap.size W W2) (hg : g < W.heap.size) : RS w g ZS D b W2 := by
  obtain ⟨h1, h2, h3, h4⟩ := h
  exact ⟨(hb.block _ (Array.getElem?_eq_some_iff.1 h1).1).trans h1, h2.trans (hb.mono h2.size), (hb.cell (p := ⟨g, 0, none⟩) hg).trans h3, (hb.cell (p := ⟨g, 1, none⟩) hg).trans h4⟩
/-- Behind the store of what GetBase64 tells: where it lies, and that nothing else has turned. -/
theorem held26 {w w1 : World} {ZS Z7 : Array Value} (S : ByteArray) (b : Bool) (h7 : Z7.size = 2) (hg : w1.heap[w.heap.size]? = some (.cells ZS 50 (0, 0))) (hb : Below w.heap.size w w1) (hs : w.heap.size < w1.heap.size) :
    ∃ w2 g, (w1.alloc (.cells Z7 26)).setRow w1.heap.size (saidV S b) = w2 ∧ w1.heap.size = g ∧ w2.heap[w.heap.size]? = some (.cells ZS 50 (0, 0)) ∧ Below w.heap.size w w2 ∧ w2.cell? ⟨g, 0, none⟩ = some (.string S) ∧ w2.cell? ⟨g, 1, none⟩ = some (.bool b) := by
  have hrow : ((w1.alloc (.cells Z7 26)).setRow w1.heap.size (saidV S b)).heap[w1.heap.size]? = some (.cells (saidV S b) 26 (0, 0)) := setRow_heap _ _ _ _ 26 (0, 0) (World.alloc_heap_new w1 _)
  have hb2 : Below w.heap.size w (w1.alloc (.cells Z7 26)) := hb.alloc hb.size _
  refine ⟨_, _, rfl, rfl, (setRow_other _ _ _ _ (by omega)).trans ((Below.heap_alloc _ _ _ hs).trans hg), hb2.trans ⟨rfl, rfl, rfl, by simp, fun k hk => setRow_other _ _ _ _ (by omega)⟩, ?_, ?_⟩
  · rw [cell_of_row _ _ 0 _ 26 _ hrow]; rfl
  · rw [cell_of_row _ _ 1 _ 26 _ hrow]; rfl
theorem held26L {w w1 : World} {ZS Z7 : Array Value} (S : ByteArray) (b : Bool) (h7 : Z7.size = 2) (hg : w1.heap[w.heap.size]? = some (.cells ZS 50 (0, 0))) (hb : Below w.heap.size w w1) (hs : w.heap.size < w1.heap.size) :
    ∃ w2 g, (w1.alloc (.cells Z7 26)).setRow w1.heap.size (saidV S b) = w2 ∧ w1.heap.size = g ∧ w2.heap[w.heap.size]? = some (.cells ZS 50 (0, 0)) ∧ Below w.heap.size w w2 ∧ w2.cell? ⟨g, 0, none⟩ = some (.string S) ∧ w2.cell? ⟨g, 1, none⟩ = some (.bool b) ∧ g < w2.heap.size := by
  obtain ⟨w2, g, e1, e2, h1, h2, h3, h4⟩ := held26 (Z7 := Z7) S b h7 hg hb hs
  refine ⟨w2, g, e1, e2, h1, h2, h3, h4, ?_⟩
  rw [← e1, ← e2]
  simp
set_option maxRecDepth 100000 in
set_option maxHeartbeats 2000000 in
theorem parseSig_any (s : ByteArray) (hs : s.size ≤ 1000) (w : World) : Calls Tryz.prog 24 #[.string s] w fun e w' => e = .returned (.agg (sgnO (parseL s.data.toList))) ∧ Below w.heap.size w w' := by
  have hsl : s.data.toList.length = s.size := rfl
  obtain ⟨o, ho⟩ : ∃ o, Hid (o = parseL s.data.toList) := ⟨_, Lib.hid rfl⟩
  rw [← ho.out]
  obtain ⟨ZS, hZS⟩ : ∃ ZS, Hid (ZS = sgnV ⟨#[]⟩ ⟨#[]⟩ false) := ⟨_, Lib.hid rfl⟩
  have SZ : ZS.size = 3 := by rw [hZS.out]; rfl
  have HZ : ∀ w, (zeroValue 50).run Tryz.prog w = .ok (.agg ZS) w := by rw [hZS.out]; exact zero50
  have HB0 : ∀ w, (Instr.build 50 #[]).run Tryz.prog w = .ok (.agg ZS) w := by rw [hZS.out]; exact build50_0
  go_enter Tryz.func24, Tryz.ntmps24
  go_wp2_with (refine wpList_run rfl _ (exec_alloc_agg _ 50 rfl _ (HZ _)) ?_)
  have hg0 : (w.alloc (.cells ZS 50)).heap[w.heap.size]? = some (.cells ZS 50 (0, 0)) := World.alloc_heap_new w _
  have hb0 : Below w.heap.size w (w.alloc (.cells ZS 50)) := (Below.refl _ w).alloc (Nat.le_refl _) _
  have hs0 : (w.alloc (.cells ZS 50)).heap.size = w.heap.size + 1 := by simp
  have HG0 := Lib.hid hg0
  have HBL0 := Lib.hid hb0
  have HS0 := Lib.hid hs0
  clear hg0 hb0 hs0 HZ
  generalize w.alloc (.cells ZS 50) = w0 at *
  go_loopw [3] (fun i wr => ∃ k : Nat, k ≤ s.size ∧ i = .int .i64 k ∧ 58 ∉ s.data.toList.take k ∧ wr = w0) (fun i _ => s.size - (intOf i).toNat)
  case atStart => exact ⟨0, Nat.zero_le _, rfl, by simp, rfl⟩
  case round =>
    obtain ⟨k, hk, rfl, hno, rfl⟩ := hrel
    have HNO := Lib.hid hno
    clear hno
    by_cases hlt : k < s.size ∧ k ≤ 64
    · have hltI : (k : Int) < (s.size : Int) := by omega
      have hl6 : (k : Int) ≤ 64 := by omega
      have hkk := hlt.1
      by_cases hc : s[k] = 58
      · have hcol : colon s.data.toList = some (s.data.toList.take k, s.data.toList.drop (k + 1)) := colon_get (by rw [hsl]; exact hkk) hc HNO.out
        have hpar : parseL s.data.toList = match get64 (s.data.toList.drop (k + 1)) with
          | none => none
          | some g => if textL (s.data.toList.take k) g = s.data.toList then some (s.data.toList.take k, g) else none := by
          unfold parseL
          rw [hcol]
          rfl
        rw [← ho.out] at hpar
        have hd : ((s[k].toNat : Int) == 58) = true := by rw [hc]; rfl
        obtain ⟨R, hR⟩ : ∃ R : ByteArray, Hid (R = s.extract (k + 1) s.size) := ⟨_, Lib.hid rfl⟩
        obtain ⟨N, hN⟩ : ∃ N : ByteArray, Hid (N = s.extract 0 k) := ⟨_, Lib.hid rfl⟩
        have hRl : R.data.toList = s.data.toList.drop (k + 1) := by
          rw [hR.out, ByteArray.data_extract, Array.toList_extract]
          simp
          exact List.take_of_length_le (by rw [List.length_drop]; omega)
        have hNl : N.data.toList = s.data.toList.take k := by
          rw [hN.out, ByteArray.data_extract, Array.toList_extract]
          simp
        have hRs : R.size ≤ 1000 := by
          have : R.size = R.data.toList.length := rfl
          rw [this, hRl, List.length_drop]
          omega
        have HGET := Lib.hid (fun w => rget64_any R hRs w)
        rw [← hRl, ← hNl] at hpar
        obtain ⟨v, hv⟩ : ∃ v, Hid (v = get64 R.data.toList) := ⟨_, Lib.hid rfl⟩
        rw [← hv.out] at HGET hpar
        have h1 : IntKind.i64.wrap ((k : Int) + 1) = ((k + 1 : Nat) : Int) := by rw [IntKind.wrap_i64]; omega
        have h2 : ((k + 1 : Nat) : Int) ≤ (s.size : Int) := by omega
        have h3 : (0 : Int) ≤ ((k + 1 : Nat) : Int) := by omega
        generalize hx : (s[k].toNat : Int) = x at *
        obtain ⟨j, hj⟩ : ∃ j, j = k + 1 := ⟨_, rfl⟩
        rw [← hj] at h1 h2 h3
        have hRe : s.extract j s.size = R := by rw [hj]; exact hR.out.symm
        have HRS := Lib.hid hRs
        have HNS : Hid (N.size ≤ 549755813888) := Lib.hid (by
          have h4 : N.size = N.data.toList.length := rfl
          rw [h4, hNl, List.length_take]
          omega)
        clear hc hcol hRl hNl hRs hR hj
        have HZ27 := zero27
        cases v with
        | none =>
          have hon : Hid (o = none) := Lib.hid hpar
          clear hpar
          unfold said at HGET
          obtain ⟨Z7, hZ7⟩ : ∃ Z7, Hid (Z7 = saidV ⟨#[]⟩ false) := ⟨_, Lib.hid rfl⟩
          have SZ7 : Z7.size = 2 := by rw [hZ7.out]; rfl
          have HZ7 : ∀ w, (zeroValue 26).run Tryz.prog w = .ok (.agg Z7) w := by rw [hZ7.out]; exact HZ27
          obtain ⟨D, hD⟩ : ∃ D : ByteArray, Hid (D = ⟨#[]⟩) := ⟨_, Lib.hid rfl⟩
          obtain ⟨X7, hX7⟩ : ∃ X7, Hid (X7 = saidV D false) := ⟨_, Lib.hid rfl⟩
          simp only [← hD.out, ← hX7.out] at HGET
          clear HZ27
          have HST : Hid (∀ (w1 : World) {ρ : Operand → Value} {op : Oper}, op.op = .store 26 (.tmp 4) (.tmp 23) → ρ (.tmp 4) = .pointer (some ⟨w1.heap.size, 0, none⟩) → ρ (.tmp 23) = .agg X7 → (execOp ρ op).run Tryz.prog (w1.alloc (.cells Z7 26)) = .ok .skip ((w1.alloc (.cells Z7 26)).setRow w1.heap.size X7)) := Lib.hid (fun w1 ρ op h1 h2 h3 => by
            rw [hX7.out] at h3 ⊢
            exact exec_store27 _ (.tmp 4) (.tmp 23) h1 w1.heap.size h2 D false h3 _ 26 (World.alloc_heap_new w1 _) SZ7)
          go_wp2_with (first
            | (go_at_call 58; refine (HGET.out _).mono ?_; rintro e w1 ⟨rfl, hb1⟩)
            | (refine wpList_run rfl _ (exec_alloc_agg _ 26 rfl _ (HZ7 _)) ?_)
            | (refine wpList_run0 rfl (HST.out w1 rfl rfl rfl) ?_))
          have HG1 := (hb1.block w.heap.size (by have := HS0.out; omega)).trans HG0.out
          have HBW := HBL0.out.trans (hb1.mono HBL0.out.size)
          have hlt9 : w.heap.size < w1.heap.size := by have := HS0.out; have := hb1.size; omega
          obtain ⟨w2, g, hw2, hgg, hg2, hbel2, c0, c1⟩ := held26 (Z7 := Z7) D false SZ7 HG1 HBW hlt9
          have hw3 : (w1.alloc (.cells Z7 26)).setRow w1.heap.size X7 = w2 := by rw [← hw2, hX7.out]
          rw [hw3, hgg]
          clear hw2 hw3 hgg HG1 HBW hlt9 hb1 HGET HST HZ7
          simp only [Act.put, List.setIfInBounds_toArray, List.set_cons_succ, List.set_cons_zero]
          have HS6 : RS w g ZS D false w2.drew := ⟨hg2, hbel2.drew, c0, c1⟩
          clear hg2 hbel2 c0 c1
          go_upto_region 6 with fail
          try simp only [Act.put, List.setIfInBounds_toArray, List.set_cons_succ, List.set_cons_zero]
          refine wp_region_any (by kernel_rfl) ?_
          change wpAny _ _ _ _ _ _ _ (World.drew _)
          refine any_of_F (S := RS w g ZS D false) (f := 1000) _ _ _ _ ?_
          refine tkG 0 (some 24) (.fieldAddr 26 (.tmp 4) 1) none (.pointer (some ⟨g, 1, none⟩)) (fun o ho w2 hw => exec_fld 1 (.tmp 4) ho g rfl w2) (HS6) ?_
          simp only [Act.put, List.setIfInBounds_toArray, List.set_cons_succ, List.set_cons_zero]
          refine tkG 1 (some 25) (.load 4 (.tmp 24)) none (.bool false) (fun o ho w2 hw => by obtain ⟨q1, q2, q3, q4⟩ := hw; unfold execOp; rw [ho]; go_simp) (HS6) ?_
          simp only [Act.put, List.setIfInBounds_toArray, List.set_cons_succ, List.set_cons_zero]
          refine tkG 2 (some 26) (.unOp .not 4 (.tmp 25)) none (.bool true) (fun o ho w2 hw => by obtain ⟨q1, q2, q3, q4⟩ := hw; unfold execOp; rw [ho]; go_simp) (HS6) ?_
          simp only [Act.put, List.setIfInBounds_toArray, List.set_cons_succ, List.set_cons_zero]
          refine tkG 3 (some 27) (.move (.tmp 26)) none (.bool true) (fun o ho w2 hw => by obtain ⟨q1, q2, q3, q4⟩ := hw; unfold execOp; rw [ho]; go_simp) (HS6) ?_
          simp only [Act.put, List.setIfInBounds_toArray, List.set_cons_succ, List.set_cons_zero]
          refine skG 4 (some 28) (.move (.tmp 0)) (some (3, false)) (HS6) ?_
          simp only [Act.put, List.setIfInBounds_toArray, List.set_cons_succ, List.set_cons_zero]
          refine skG 5 (some 29) (.move (.tmp 3)) (some (3, false)) (HS6) ?_
          simp only [Act.put, List.setIfInBounds_toArray, List.set_cons_succ, List.set_cons_zero]
          refine skG 6 (some 30) (.slice 9 (.tmp 28) none (some (.tmp 29)) none) (some (3, false)) (HS6) ?_
          simp only [Act.put, List.setIfInBounds_toArray, List.set_cons_succ, List.set_cons_zero]
          refine skG 7 (some 31) (.fieldAddr 26 (.tmp 4) 0) (some (3, false)) (HS6) ?_
          simp only [Act.put, List.setIfInBounds_toArray, List.set_cons_succ, List.set_cons_zero]
          refine skG 8 (some 32) (.load 9 (.tmp 31)) (some (3, false)) (HS6) ?_
          simp only [Act.put, List.setIfInBounds_toArray, List.set_cons_succ, List.set_cons_zero]
          refine skG 9 (some 33) (.call { callee := .value (.func 28), args := #[.tmp 30, .tmp 32], argTypes := #[9, 9] }) (some (3, false)) (HS6) ?_
          simp only [Act.put, List.setIfInBounds_toArray, List.set_cons_succ, List.set_cons_zero]
          refine skG 10 (some 34) (.move (.tmp 0)) (some (3, false)) (HS6) ?_
          simp only [Act.put, List.setIfInBounds_toArray, List.set_cons_succ, List.set_cons_zero]
          refine skG 11 (some 35) (.binOp .neq 9 (.tmp 33) (.tmp 34) 9) (some (3, false)) (HS6) ?_
          simp only [Act.put, List.setIfInBounds_toArray, List.set_cons_succ, List.set_cons_zero]
          refine tkG 12 (some 36) (.pick (.tmp 27) (.const (.bool true)) (.tmp 35)) none (.bool true) (fun o ho w2 hw => by obtain ⟨q1, q2, q3, q4⟩ := hw; unfold execOp; rw [ho]; go_simp) (HS6) ?_
          simp only [Act.put, List.setIfInBounds_toArray, List.set_cons_succ, List.set_cons_zero]
          refine tkG 13 (some 37) (.move (.tmp 36)) none (.bool true) (fun o ho w2 hw => by obtain ⟨q1, q2, q3, q4⟩ := hw; unfold execOp; rw [ho]; go_simp) (HS6) ?_
          simp only [Act.put, List.setIfInBounds_toArray, List.set_cons_succ, List.set_cons_zero]
          refine skG 14 (some 38) (.move (.tmp 0)) (some (13, false)) (HS6) ?_
          simp only [Act.put, List.setIfInBounds_toArray, List.set_cons_succ, List.set_cons_zero]
          refine skG 15 (some 39) (.binOp .eql 9 (.tmp 38) (.const (.string { data := #[] })) 9) (some (13, false)) (HS6) ?_
          simp only [Act.put, List.setIfInBounds_toArray, List.set_cons_succ, List.set_cons_zero]
          refine tkG 16 (some 40) (.pick (.tmp 37) (.const (.bool true)) (.tmp 39)) none (.bool true) (fun o ho w2 hw => by obtain ⟨q1, q2, q3, q4⟩ := hw; unfold execOp; rw [ho]; go_simp) (HS6) ?_
          simp only [Act.put, List.setIfInBounds_toArray, List.set_cons_succ, List.set_cons_zero]
          refine AnyF.done (by kernel_rfl) ?_ _
          obtain ⟨q1, q2, q3, q4⟩ := HS6
          have HQ1 := Lib.hid q1
          have HQ2 := Lib.hid q2
          clear q1 q2 q3 q4
          generalize w2.drew = w3 at *
          have hbel3 : Hid (∀ A, Below w.heap.size w (w3.setRow w.heap.size A)) := Lib.hid (fun A => HQ2.out.trans ⟨rfl, rfl, rfl, by simp, fun k hk => setRow_other _ _ _ _ (by omega)⟩)
          go_wp2_with (first | (refine wpList_run rfl _ (exec_build0g rfl (.agg ZS) (HB0 _) _) ?_) | (refine wpList_run0 rfl (exec_store50 _ (.tmp 2) (.tmp 41) rfl w.heap.size rfl ⟨#[]⟩ ⟨#[]⟩ false (by rw [← hZS.out]; rfl) ZS 50 HQ1.out SZ) ?_))
          exact bodyPost_ret (results_cell rfl _ _ _ ⟨w.heap.size, 0, none⟩ rfl _ (load50 ⟨#[]⟩ ⟨#[]⟩ false (t := 50) (setRow_heap _ _ _ _ _ _ HQ1.out))) rfl ⟨by rw [hon.out]; rfl, hbel3.out _⟩
        | some gb =>
          have hgbl : gb.length ≤ 1000 := by
            have h1 := (get64_iff _ _).1 hv.out.symm
            have h2 := b64_len gb
            rw [h1] at h2
            have h3 : R.data.toList.length = R.size := rfl
            have h4 := HRS.out
            omega
          unfold said at HGET
          obtain ⟨Z7, hZ7⟩ : ∃ Z7, Hid (Z7 = saidV ⟨#[]⟩ false) := ⟨_, Lib.hid rfl⟩
          have SZ7 : Z7.size = 2 := by rw [hZ7.out]; rfl
          have HZ7 : ∀ w, (zeroValue 26).run Tryz.prog w = .ok (.agg Z7) w := by rw [hZ7.out]; exact HZ27
          obtain ⟨D, hD⟩ : ∃ D : ByteArray, Hid (D = ⟨gb.toArray⟩) := ⟨_, Lib.hid rfl⟩
          obtain ⟨X7, hX7⟩ : ∃ X7, Hid (X7 = saidV D true) := ⟨_, Lib.hid rfl⟩
          simp only [← hD.out, ← hX7.out] at HGET
          clear HZ27
          have HST : Hid (∀ (w1 : World) {ρ : Operand → Value} {op : Oper}, op.op = .store 26 (.tmp 4) (.tmp 23) → ρ (.tmp 4) = .pointer (some ⟨w1.heap.size, 0, none⟩) → ρ (.tmp 23) = .agg X7 → (execOp ρ op).run Tryz.prog (w1.alloc (.cells Z7 26)) = .ok .skip ((w1.alloc (.cells Z7 26)).setRow w1.heap.size X7)) := Lib.hid (fun w1 ρ op h1 h2 h3 => by
            rw [hX7.out] at h3 ⊢
            exact exec_store27 _ (.tmp 4) (.tmp 23) h1 w1.heap.size h2 D true h3 _ 26 (World.alloc_heap_new w1 _) SZ7)
          have hNs : N.size ≤ 549755813888 := HNS.out
          have hDs : D.size ≤ 1000 := by rw [hD.out]; simpa [ByteArray.size] using hgbl
          clear hgbl
          go_wp2_with (first
            | (go_at_call 58; refine (HGET.out _).mono ?_; rintro e w1 ⟨rfl, hb1⟩)
            | (refine wpList_run rfl _ (exec_alloc_agg _ 26 rfl _ (HZ7 _)) ?_)
            | (refine wpList_run0 rfl (HST.out w1 rfl rfl rfl) ?_))
          have HG1 := (hb1.block w.heap.size (by have := HS0.out; omega)).trans HG0.out
          have HBW := HBL0.out.trans (hb1.mono HBL0.out.size)
          have hlt9 : w.heap.size < w1.heap.size := by have := HS0.out; have := hb1.size; omega
          obtain ⟨w2, g, hw2, hgg, hg2, hbel2, c0, c1, hgl⟩ := held26L (Z7 := Z7) D true SZ7 HG1 HBW hlt9
          have hw3 : (w1.alloc (.cells Z7 26)).setRow w1.heap.size X7 = w2 := by rw [← hw2, hX7.out]
          rw [hw3, hgg]
          clear hw2 hw3 hgg HG1 HBW hlt9 hb1 HGET HST HZ7
          simp only [Act.put, List.setIfInBounds_toArray, List.set_cons_succ, List.set_cons_zero]
          have hgz0 : g < w2.drew.heap.size := hgl
          have HS6 : RS w g ZS D true w2.drew := ⟨hg2, hbel2.drew, c0, c1⟩
          clear hg2 hbel2 c0 c1 hgl
          have HTX := Lib.hid (fun w => textSig_any N D hNs hDs w)
          obtain ⟨T, hT⟩ : ∃ T : ByteArray, Hid (T = ⟨(textL N.data.toList D.data.toList).toArray⟩) := ⟨_, Lib.hid rfl⟩
          rw [← hT.out] at HTX
          have hgz : g < w2.drew.heap.size := hgz0
          have hem : Hid (s.toList.isEmpty = false) := Lib.hid (by
            rw [List.isEmpty_eq_false_iff]
            intro h
            have h2 := congrArg List.length h
            rw [Lib.toList_data] at h2
            have h3 : s.data.toList.length = 0 := h2
            omega)
          have hDd : D.data.toList = gb := by rw [hD.out]
          by_cases ht : textL N.data.toList gb = s.data.toList
          · have hTs : T = s := by rw [hT.out, hDd, ht]
            have hon : Hid (o = some (N.data.toList, gb)) := by unfold Hid; rw [hpar]; exact if_pos ht
            rw [hTs] at HTX
            clear hT hTs hpar ht hDd
            go_upto_region 6 with fail
            try simp only [Act.put, List.setIfInBounds_toArray, List.set_cons_succ, List.set_cons_zero]
            refine wp_region_any (by kernel_rfl) ?_
            change wpAny _ _ _ _ _ _ _ (World.drew _)
            refine any_of_F (S := RS w g ZS D true) (f := 1000) _ _ _ _ ?_
            refine tkG 0 (some 24) (.fieldAddr 26 (.tmp 4) 1) none (.pointer (some ⟨g, 1, none⟩)) (fun o ho w2 hw => exec_fld 1 (.tmp 4) ho g rfl w2) (HS6) ?_
            simp only [Act.put, List.setIfInBounds_toArray, List.set_cons_succ, List.set_cons_zero]
            refine tkG 1 (some 25) (.load 4 (.tmp 24)) none (.bool true) (fun o ho w2 hw => by obtain ⟨q1, q2, q3, q4⟩ := hw; unfold execOp; rw [ho]; go_simp) (HS6) ?_
            simp only [Act.put, List.setIfInBounds_toArray, List.set_cons_succ, List.set_cons_zero]
            refine tkG 2 (some 26) (.unOp .not 4 (.tmp 25)) none (.bool false) (fun o ho w2 hw => by obtain ⟨q1, q2, q3, q4⟩ := hw; unfold execOp; rw [ho]; go_simp) (HS6) ?_
            simp only [Act.put, List.setIfInBounds_toArray, List.set_cons_succ, List.set_cons_zero]
            refine tkG 3 (some 27) (.move (.tmp 26)) none (.bool false) (fun o ho w2 hw => by obtain ⟨q1, q2, q3, q4⟩ := hw; unfold execOp; rw [ho]; go_simp) (HS6) ?_
            simp only [Act.put, List.setIfInBounds_toArray, List.set_cons_succ, List.set_cons_zero]
            refine tkG 4 (some 28) (.move (.tmp 0)) (some (3, false)) (.string s) (fun o ho w2 hw => by obtain ⟨q1, q2, q3, q4⟩ := hw; unfold execOp; rw [ho]; go_simp) (HS6) ?_
            simp only [Act.put, List.setIfInBounds_toArray, List.set_cons_succ, List.set_cons_zero]
            refine tkG 5 (some 29) (.move (.tmp 3)) (some (3, false)) (.int .i64 (k : Int)) (fun o ho w2 hw => by obtain ⟨q1, q2, q3, q4⟩ := hw; unfold execOp; rw [ho]; go_simp) (HS6) ?_
            simp only [Act.put, List.setIfInBounds_toArray, List.set_cons_succ, List.set_cons_zero]
            refine tkG 6 (some 30) (.slice 9 (.tmp 28) none (some (.tmp 29)) none) (some (3, false)) (.string N) (fun o ho w2 hw => by obtain ⟨q1, q2, q3, q4⟩ := hw; have hn := hN.out; unfold execOp; rw [ho, hn]; go_simp) (HS6) ?_
            simp only [Act.put, List.setIfInBounds_toArray, List.set_cons_succ, List.set_cons_zero]
            refine tkG 7 (some 31) (.fieldAddr 26 (.tmp 4) 0) (some (3, false)) (.pointer (some ⟨g, 0, none⟩)) (fun o ho w2 hw => exec_fld 0 (.tmp 4) ho g rfl w2) (HS6) ?_
            simp only [Act.put, List.setIfInBounds_toArray, List.set_cons_succ, List.set_cons_zero]
            refine tkG 8 (some 32) (.load 9 (.tmp 31)) (some (3, false)) (.string D) (fun o ho w2 hw => by obtain ⟨q1, q2, q3, q4⟩ := hw; unfold execOp; rw [ho]; go_simp) (HS6) ?_
            simp only [Act.put, List.setIfInBounds_toArray, List.set_cons_succ, List.set_cons_zero]
            refine tkG 10 (some 34) (.move (.tmp 0)) (some (3, false)) (.string s) (fun o ho w2 hw => by obtain ⟨q1, q2, q3, q4⟩ := hw; unfold execOp; rw [ho]; go_simp) (HS6) ?_
            simp only [Act.put, List.setIfInBounds_toArray, List.set_cons_succ, List.set_cons_zero]
            refine AnyF.ready (rs := [9]) (by kernel_rfl) (by simp) (rclG (some 33) 28 #[.tmp 30, .tmp 32] #[9, 9] (some (3, false)) #[.string N, .string D] (enters_of Tryz.func28 (by kernel_rfl) rfl) _ (HTX.out _) ?_ ReadyF.nil)
            rintro v wc2461 ⟨he, hb⟩
            cases he
            have Hc2461 := RS.below HS6 hb hgz
            clear hb
            refine ⟨Hc2461, ?_⟩
            simp only [Act.put, List.setIfInBounds_toArray, List.set_cons_succ, List.set_cons_zero]
            refine tkG 11 (some 35) (.binOp .neq 9 (.tmp 33) (.tmp 34) 9) (some (3, false)) (.bool false) (fun o ho w2 hw => by obtain ⟨q1, q2, q3, q4⟩ := hw; unfold execOp; rw [ho]; go_simp) (Hc2461) ?_
            simp only [Act.put, List.setIfInBounds_toArray, List.set_cons_succ, List.set_cons_zero]
            refine tkG 12 (some 36) (.pick (.tmp 27) (.const (.bool true)) (.tmp 35)) none (.bool false) (fun o ho w2 hw => by obtain ⟨q1, q2, q3, q4⟩ := hw; unfold execOp; rw [ho]; go_simp) (Hc2461) ?_
            simp only [Act.put, List.setIfInBounds_toArray, List.set_cons_succ, List.set_cons_zero]
            refine tkG 13 (some 37) (.move (.tmp 36)) none (.bool false) (fun o ho w2 hw => by obtain ⟨q1, q2, q3, q4⟩ := hw; unfold execOp; rw [ho]; go_simp) (Hc2461) ?_
            simp only [Act.put, List.setIfInBounds_toArray, List.set_cons_succ, List.set_cons_zero]
            refine tkG 14 (some 38) (.move (.tmp 0)) (some (13, false)) (.string s) (fun o ho w2 hw => by obtain ⟨q1, q2, q3, q4⟩ := hw; unfold execOp; rw [ho]; go_simp) (Hc2461) ?_
            simp only [Act.put, List.setIfInBounds_toArray, List.set_cons_succ, List.set_cons_zero]
            refine tkG 15 (some 39) (.binOp .eql 9 (.tmp 38) (.const (.string { data := #[] })) 9) (some (13, false)) (.bool false) (fun o ho w2 hw => by obtain ⟨q1, q2, q3, q4⟩ := hw; have hn := hem.out; unfold execOp; rw [ho]; go_simp) (Hc2461) ?_
            simp only [Act.put, List.setIfInBounds_toArray, List.set_cons_succ, List.set_cons_zero]
            refine tkG 16 (some 40) (.pick (.tmp 37) (.const (.bool true)) (.tmp 39)) none (.bool false) (fun o ho w2 hw => by obtain ⟨q1, q2, q3, q4⟩ := hw; unfold execOp; rw [ho]; go_simp) (Hc2461) ?_
            simp only [Act.put, List.setIfInBounds_toArray, List.set_cons_succ, List.set_cons_zero]
            refine AnyF.done (by kernel_rfl) ?_ _
            clear HS6
            generalize wc2461 = w3 at *
            go_upto_region 8 with fail
            try simp only [Act.put, List.setIfInBounds_toArray, List.set_cons_succ, List.set_cons_zero]
            obtain ⟨q1, q2, q3, q4⟩ := Hc2461
            have HQ1 := Lib.hid (show w3.drew.heap[w.heap.size]? = _ from q1)
            have HQ2 := Lib.hid q2.drew
            have HS8 : RS w g ZS D true w3.drew := ⟨q1, q2.drew, q3, q4⟩
            clear q1 q2 q3 q4
            refine wp_region_any (by kernel_rfl) ?_
            change wpAny _ _ _ _ _ _ _ (World.drew _)
            refine any_of_F (S := RS w g ZS D true) (f := 6) _ _ _ _ ?_
            refine tkL 0 (some 42) (.move (.tmp 0)) (.string s) (fun o ho w2 hw => by obtain ⟨q1, q2, q3, q4⟩ := hw; unfold execOp; rw [ho]; go_simp) (HS8) ?_
            simp only [Act.put, List.setIfInBounds_toArray, List.set_cons_succ, List.set_cons_zero]
            refine tkL 1 (some 43) (.move (.tmp 3)) (.int .i64 (k : Int)) (fun o ho w2 hw => by obtain ⟨q1, q2, q3, q4⟩ := hw; unfold execOp; rw [ho]; go_simp) (HS8) ?_
            simp only [Act.put, List.setIfInBounds_toArray, List.set_cons_succ, List.set_cons_zero]
            refine tkL 2 (some 44) (.slice 9 (.tmp 42) none (some (.tmp 43)) none) (.string N) (fun o ho w2 hw => by obtain ⟨q1, q2, q3, q4⟩ := hw; have hn := hN.out; unfold execOp; rw [ho, hn]; go_simp) (HS8) ?_
            simp only [Act.put, List.setIfInBounds_toArray, List.set_cons_succ, List.set_cons_zero]
            refine tkL 3 (some 45) (.fieldAddr 26 (.tmp 4) 0) (.pointer (some ⟨g, 0, none⟩)) (fun o ho w2 hw => exec_fld 0 (.tmp 4) ho g rfl w2) (HS8) ?_
            simp only [Act.put, List.setIfInBounds_toArray, List.set_cons_succ, List.set_cons_zero]
            refine tkL 4 (some 46) (.load 9 (.tmp 45)) (.string D) (fun o ho w2 hw => by obtain ⟨q1, q2, q3, q4⟩ := hw; unfold execOp; rw [ho]; go_simp) (HS8) ?_
            simp only [Act.put, List.setIfInBounds_toArray, List.set_cons_succ, List.set_cons_zero]
            refine tkL 5 (some 47) (.build 50 #[(0, .tmp 44), (1, .tmp 46), (2, .const (.bool true))]) (.agg (sgnV N D true)) (fun o ho w2 hw => exec_build3 _ 50 0 1 2 (.tmp 44) (.tmp 46) (.const (.bool true)) ho (.string N) (.string D) (.bool true) rfl rfl rfl _ (build50 N D true _)) (HS8) ?_
            simp only [Act.put, List.setIfInBounds_toArray, List.set_cons_succ, List.set_cons_zero]
            refine AnyF.ready (rs := [6]) (by kernel_rfl) (by simp) (ReadyF.last (.store 50 (.tmp 2) (.tmp 47)) rfl (fun o ho => exec_store50 _ (.tmp 2) (.tmp 47) ho w.heap.size rfl N D true rfl ZS 50 HQ1.out SZ) ?_ ReadyF.nil)
            refine any_doneF (by kernel_rfl) ?_ _
            generalize w3.drew = w4 at *
            have hbel3 : Hid (∀ A, Below w.heap.size w (w4.setRow w.heap.size A)) := Lib.hid (fun A => HQ2.out.trans ⟨rfl, rfl, rfl, by simp, fun k hk => setRow_other _ _ _ _ (by omega)⟩)
            go_wp2
            exact bodyPost_ret (results_cell rfl _ _ _ ⟨w.heap.size, 0, none⟩ rfl _ (load50 N D true (t := 50) (setRow_heap _ _ _ _ _ _ HQ1.out))) rfl ⟨by rw [hon.out, hD.out]; rfl, hbel3.out _⟩
          · have hon : Hid (o = none) := by unfold Hid; rw [hpar]; exact if_neg ht
            have hbq : Hid ((T.toList == s.toList) = false) := Lib.hid (str_ne (fun e => ht (by rw [← hDd, ← e, hT.out])))
            clear hT hpar ht hDd
            go_upto_region 6 with fail
            try simp only [Act.put, List.setIfInBounds_toArray, List.set_cons_succ, List.set_cons_zero]
            refine wp_region_any (by kernel_rfl) ?_
            change wpAny _ _ _ _ _ _ _ (World.drew _)
            refine any_of_F (S := RS w g ZS D true) (f := 1000) _ _ _ _ ?_
            refine tkG 0 (some 24) (.fieldAddr 26 (.tmp 4) 1) none (.pointer (some ⟨g, 1, none⟩)) (fun o ho w2 hw => exec_fld 1 (.tmp 4) ho g rfl w2) (HS6) ?_
            simp only [Act.put, List.setIfInBounds_toArray, List.set_cons_succ, List.set_cons_zero]
            refine tkG 1 (some 25) (.load 4 (.tmp 24)) none (.bool true) (fun o ho w2 hw => by obtain ⟨q1, q2, q3, q4⟩ := hw; unfold execOp; rw [ho]; go_simp) (HS6) ?_
            simp only [Act.put, List.setIfInBounds_toArray, List.set_cons_succ, List.set_cons_zero]
            refine tkG 2 (some 26) (.unOp .not 4 (.tmp 25)) none (.bool false) (fun o ho w2 hw => by obtain ⟨q1, q2, q3, q4⟩ := hw; unfold execOp; rw [ho]; go_simp) (HS6) ?_
            simp only [Act.put, List.setIfInBounds_toArray, List.set_cons_succ, List.set_cons_zero]
            refine tkG 3 (some 27) (.move (.tmp 26)) none (.bool false) (fun o ho w2 hw => by obtain ⟨q1, q2, q3, q4⟩ := hw; unfold execOp; rw [ho]; go_simp) (HS6) ?_
            simp only [Act.put, List.setIfInBounds_toArray, List.set_cons_succ, List.set_cons_zero]
            refine tkG 4 (some 28) (.move (.tmp 0)) (some (3, false)) (.string s) (fun o ho w2 hw => by obtain ⟨q1, q2, q3, q4⟩ := hw; unfold execOp; rw [ho]; go_simp) (HS6) ?_
            simp only [Act.put, List.setIfInBounds_toArray, List.set_cons_succ, List.set_cons_zero]
            refine tkG 5 (some 29) (.move (.tmp 3)) (some (3, false)) (.int .i64 (k : Int)) (fun o ho w2 hw => by obtain ⟨q1, q2, q3, q4⟩ := hw; unfold execOp; rw [ho]; go_simp) (HS6) ?_
            simp only [Act.put, List.setIfInBounds_toArray, List.set_cons_succ, List.set_cons_zero]
            refine tkG 6 (some 30) (.slice 9 (.tmp 28) none (some (.tmp 29)) none) (some (3, false)) (.string N) (fun o ho w2 hw => by obtain ⟨q1, q2, q3, q4⟩ := hw; have hn := hN.out; unfold execOp; rw [ho, hn]; go_simp) (HS6) ?_
            simp only [Act.put, List.setIfInBounds_toArray, List.set_cons_succ, List.set_cons_zero]
            refine tkG 7 (some 31) (.fieldAddr 26 (.tmp 4) 0) (some (3, false)) (.pointer (some ⟨g, 0, none⟩)) (fun o ho w2 hw => exec_fld 0 (.tmp 4) ho g rfl w2) (HS6) ?_
            simp only [Act.put, List.setIfInBounds_toArray, List.set_cons_succ, List.set_cons_zero]
            refine tkG 8 (some 32) (.load 9 (.tmp 31)) (some (3, false)) (.string D) (fun o ho w2 hw => by obtain ⟨q1, q2, q3, q4⟩ := hw; unfold execOp; rw [ho]; go_simp) (HS6) ?_
            simp only [Act.put, List.setIfInBounds_toArray, List.set_cons_succ, List.set_cons_zero]
            refine tkG 10 (some 34) (.move (.tmp 0)) (some (3, false)) (.string s) (fun o ho w2 hw => by obtain ⟨q1, q2, q3, q4⟩ := hw; unfold execOp; rw [ho]; go_simp) (HS6) ?_
            simp only [Act.put, List.setIfInBounds_toArray, List.set_cons_succ, List.set_cons_zero]
            refine AnyF.ready (rs := [9]) (by kernel_rfl) (by simp) (rclG (some 33) 28 #[.tmp 30, .tmp 32] #[9, 9] (some (3, false)) #[.string N, .string D] (enters_of Tryz.func28 (by kernel_rfl) rfl) _ (HTX.out _) ?_ ReadyF.nil)
            rintro v wc2461 ⟨he, hb⟩
            cases he
            have Hc2461 := RS.below HS6 hb hgz
            clear hb
            refine ⟨Hc2461, ?_⟩
            simp only [Act.put, List.setIfInBounds_toArray, List.set_cons_succ, List.set_cons_zero]
            refine tkG 11 (some 35) (.binOp .neq 9 (.tmp 33) (.tmp 34) 9) (some (3, false)) (.bool true) (fun o ho w2 hw => by obtain ⟨q1, q2, q3, q4⟩ := hw; have hn := hbq.out; unfold execOp; rw [ho]; go_simp) (Hc2461) ?_
            simp only [Act.put, List.setIfInBounds_toArray, List.set_cons_succ, List.set_cons_zero]
            refine tkG 12 (some 36) (.pick (.tmp 27) (.const (.bool true)) (.tmp 35)) none (.bool true) (fun o ho w2 hw => by obtain ⟨q1, q2, q3, q4⟩ := hw; unfold execOp; rw [ho]; go_simp) (Hc2461) ?_
            simp only [Act.put, List.setIfInBounds_toArray, List.set_cons_succ, List.set_cons_zero]
            refine tkG 13 (some 37) (.move (.tmp 36)) none (.bool true) (fun o ho w2 hw => by obtain ⟨q1, q2, q3, q4⟩ := hw; unfold execOp; rw [ho]; go_simp) (Hc2461) ?_
            simp only [Act.put, List.setIfInBounds_toArray, List.set_cons_succ, List.set_cons_zero]
            refine skG 14 (some 38) (.move (.tmp 0)) (some (13, false)) (Hc2461) ?_
            simp only [Act.put, List.setIfInBounds_toArray, List.set_cons_succ, List.set_cons_zero]
            refine skG 15 (some 39) (.binOp .eql 9 (.tmp 38) (.const (.string { data := #[] })) 9) (some (13, false)) (Hc2461) ?_
            simp only [Act.put, List.setIfInBounds_toArray, List.set_cons_succ, List.set_cons_zero]
            refine tkG 16 (some 40) (.pick (.tmp 37) (.const (.bool true)) (.tmp 39)) none (.bool true) (fun o ho w2 hw => by obtain ⟨q1, q2, q3, q4⟩ := hw; unfold execOp; rw [ho]; go_simp) (Hc2461) ?_
            simp only [Act.put, List.setIfInBounds_toArray, List.set_cons_succ, List.set_cons_zero]
            refine AnyF.done (by kernel_rfl) ?_ _
            clear HS6
            generalize wc2461 = w3 at *
            obtain ⟨q1, q2, q3, q4⟩ := Hc2461
            have HQ1 := Lib.hid q1
            have HQ2 := Lib.hid q2
            clear q1 q2 q3 q4
            have hbel3 : Hid (∀ A, Below w.heap.size w (w3.setRow w.heap.size A)) := Lib.hid (fun A => HQ2.out.trans ⟨rfl, rfl, rfl, by simp, fun k hk => setRow_other _ _ _ _ (by omega)⟩)
            go_wp2_with (first | (refine wpList_run rfl _ (exec_build0g rfl (.agg ZS) (HB0 _) _) ?_) | (refine wpList_run0 rfl (exec_store50 _ (.tmp 2) (.tmp 41) rfl w.heap.size rfl ⟨#[]⟩ ⟨#[]⟩ false (by rw [← hZS.out]; rfl) ZS 50 HQ1.out SZ) ?_))
            exact bodyPost_ret (results_cell rfl _ _ _ ⟨w.heap.size, 0, none⟩ rfl _ (load50 ⟨#[]⟩ ⟨#[]⟩ false (t := 50) (setRow_heap _ _ _ _ _ _ HQ1.out))) rfl ⟨by rw [hon.out]; rfl, hbel3.out _⟩
      · have hd : ((s[k].toNat : Int) == 58) = false := by
          simp only [beq_eq_false_iff_ne, ne_eq]
          intro h
          exact hc (UInt8.toNat_inj.1 (by have h2 : (58 : UInt8).toNat = 58 := rfl; omega))
        have hno2 : Hid (58 ∉ s.data.toList.take (k + 1)) := Lib.hid (by
          rw [List.take_add_one, List.getElem?_eq_getElem (by rw [hsl]; exact hkk)]
          simp only [Option.toList_some, List.mem_append, List.mem_singleton, not_or]
          exact ⟨HNO.out, fun e => hc e.symm⟩)
        generalize hx : (s[k].toNat : Int) = x at *
        have hd2 : ¬ x = 58 := by simpa using hd
        clear hc HB0
        go_wp2
        go_roundw
        case rel => exact ⟨k + 1, by omega, by first | rfl | simp | go_num, hno2.out, trivial⟩
        case measure => simp [intOf]; omega
    · have hon : Hid (o = none) := Lib.hid (ho.out.trans (parse_no HNO.out (by omega)))
      have hbel3 : Hid (∀ A, Below w.heap.size w (wr.setRow w.heap.size A)) := Lib.hid (fun A => HBL0.out.trans ⟨rfl, rfl, rfl, by simp, fun k hk => setRow_other _ _ _ _ (by omega)⟩)
      by_cases hl2 : k < s.size
      · have hltI : (k : Int) < (s.size : Int) := by omega
        have hl6 : ¬ (k : Int) ≤ 64 := by omega
        go_wp2_with (first | (refine wpList_run rfl _ (exec_build0g rfl (.agg ZS) (HB0 _) _) ?_) | (refine wpList_run0 rfl (exec_store50 _ (.tmp 2) (.tmp 48) rfl w.heap.size rfl ⟨#[]⟩ ⟨#[]⟩ false (by rw [← hZS.out]; rfl) ZS 50 HG0.out SZ) ?_))
        exact bodyPost_ret (results_cell rfl _ _ _ ⟨w.heap.size, 0, none⟩ rfl _ (load50 ⟨#[]⟩ ⟨#[]⟩ false (t := 50) (setRow_heap _ _ _ _ _ _ HG0.out))) rfl ⟨by rw [hon.out]; rfl, hbel3.out _⟩
      · have hltI : ¬ (k : Int) < (s.size : Int) := by omega
        go_wp2_with (first | (refine wpList_run rfl _ (exec_build0g rfl (.agg ZS) (HB0 _) _) ?_) | (refine wpList_run0 rfl (exec_store50 _ (.tmp 2) (.tmp 48) rfl w.heap.size rfl ⟨#[]⟩ ⟨#[]⟩ false (by rw [← hZS.out]; rfl) ZS 50 HG0.out SZ) ?_))
        exact bodyPost_ret (results_cell rfl _ _ _ ⟨w.heap.size, 0, none⟩ rfl _ (load50 ⟨#[]⟩ ⟨#[]⟩ false (t := 50) (setRow_heap _ _ _ _ _ _ HG0.out))) rfl ⟨by rw [hon.out]; rfl, hbel3.out _⟩
end Go.Proofs.YtdajmekliodmcaaGreatDoor
