/- Several texts, one behind the other; each says by itself what it proves, and on what conditions. -/
import Derived.Test.YtglipljilcdboaaV20
import Derived.Test.YtglipljilcdboaaV22
/- Pack of the document. Its condition: lengths that fit. -/
namespace Go.Proofs.Ytglipljilcdboaa
open Go.RowKit Go.Shelf
set_option linter.unusedVariables false
set_option linter.unusedSimpArgs false
/-- A text with its error. -/
def textV (s : List UInt8) (e : Int) : Value := .agg #[strV s, .int .i64 e]
def packV (l : List Nd) : Value := match packL l with
  | some s => textV s 0
  | none => textV [] 1
def txtA (S : ByteArray) (e : Int) : Array Value := #[.string S, .int .i64 e]
theorem size29 (S : ByteArray) (e : Int) : (Try.prog.info? 39).map (·.size) = some [Value.string S, Value.int .i64 e].length := by kernel_rfl
theorem txtOne (S : ByteArray) (e : Int) : ∀ v ∈ [Value.string S, Value.int .i64 e], v.oneCell' = true := by
  intro v hv
  simp at hv
  rcases hv with rfl | rfl <;> rfl
theorem load29 {W : World} {g : Nat} (S : ByteArray) (e : Int) {t : TypeId} (hg : W.heap[g]? = some (.cells (txtA S e) t (0, 0))) : (loadVar 39 ⟨g, 0, none⟩).run Try.prog W = .ok (.agg (txtA S e)) W :=
  R.run_loadVar_seg W 39 g 0 [.string S, .int .i64 e] _ (fun j v hv => by rw [Nat.zero_add, cell_of_row W g j _ t (0, 0) hg, show txtA S e = [Value.string S, Value.int .i64 e].toArray from rfl, List.getElem?_toArray, hv]) Try.underlying39 rfl (size29 S e)
theorem exec_store29 {ρ : Operand → Value} {o : Oper} (w : World) (x y : Operand) (ho : o.op = .store 39 x y) (g : Nat) (hx : ρ x = .pointer (some ⟨g, 0, none⟩)) (S : ByteArray) (e : Int) (hy : ρ y = .agg (txtA S e)) (cur : Array Value) (t : TypeId)
    (hg : w.heap[g]? = some (.cells cur t (0, 0))) (h2 : cur.size = 2) : (execOp ρ o).run Try.prog w = .ok .skip (w.setRow g (txtA S e)) := by
  have h := R.exec_store_seg (P := Try.prog) (ρ := ρ) (o := o) w 39 x y ho g 0 hx [.string S, .int .i64 e] hy cur t hg (by simp; omega) (txtOne S e) (size29 S e)
  rwa [R.splice_all _ _ (by simp; exact h2)] at h
theorem Bx.set {w W : World} {g : Nat} {D : Array Value} {t : TypeId} (h : Bx w g D t W) (hg : w.heap.size ≤ g) (D2 : Array Value) : Bx w g D2 t (W.setRow g D2) :=
  ⟨h.1.trans ⟨rfl, rfl, rfl, by simp, fun k hk => setRow_other _ _ _ _ (by omega)⟩, setRow_heap _ _ _ _ _ _ h.2⟩
set_option maxRecDepth 100000 in
set_option maxHeartbeats 2000000 in
theorem pack_pos (b o cap : Nat) (d : Nd) (r : List Nd) (hl : r.length + 1 ≤ 100000) (hp : ∀ c ∈ d :: r, c.path.length ≤ 1000000) (hd : ∀ c ∈ d :: r, c.data.length ≤ 1000000) (hcost : costs (d :: r) ≤ 100000000000000) (w : World) (hN : Nodes w b o (d :: r)) :
    Calls Try.prog 18 #[slV b o (r.length + 1) cap] w fun e w' => e = .returned (packV (d :: r)) ∧ Below w.heap.size w w' := by
  have HN := Lib.hid hN
  have HM : Hid (∀ w, Nodes w b o (d :: r) → Calls Try.prog 29 #[slV b o (r.length + 1) cap] w fun e w' => e = .returned (.bool (mayL (d :: r))) ∧ Below w.heap.size w w') := Lib.hid (fun w hw => may_pos b o cap d r hl hp hd w hw)
  obtain ⟨V, hV⟩ : ∃ x, Hid (x = packV (d :: r)) := ⟨_, Lib.hid rfl⟩
  rw [← hV.out]
  unfold slV at HM ⊢
  go_enter Try.func18, Try.ntmps18
  have hmag : Hid (∀ (W : World) (bk : Nat), W.heap[bk]? = some (.cells #[.string { data := #[110, 105, 120, 45, 97, 114, 99, 104, 105, 118, 101, 45, 49] }] 9 (0, 0)) → Calls Try.prog 31 #[.slice (some ⟨bk, 0, none⟩) 1 1] W fun e w' => e = .returned (strV (strL tMagic)) ∧ Below W.heap.size W w') := Lib.hid (fun W bk hr => by
    have h := strs_any bk [tMagic] 1 rfl (by omega) (by decide) (by decide) W hr
    rw [strsL_cons, strsL_nil, List.append_nil] at h
    exact h)
  obtain ⟨mg, hmg⟩ : ∃ x : ByteArray, Hid (x = ⟨(strL tMagic).toArray⟩) := ⟨_, Lib.hid rfl⟩
  have hmgs : mg.size = 24 := by rw [hmg.out]; rfl
  rw [show strV (strL tMagic) = .string mg by rw [hmg.out]; rfl] at hmag
  obtain ⟨X, hX⟩ : ∃ x : ByteArray, Hid (x = ⟨(bytU (fuelN r) d r).1.toArray⟩) := ⟨_, Lib.hid rfl⟩
  obtain ⟨q, hq⟩ : ∃ x : Nat, Hid (x = placeU (d :: r) (bytU (fuelN r) d r).2) := ⟨_, Lib.hid rfl⟩
  have HNd : Hid (∀ w, Nodes w b o (d :: r) → Calls Try.prog 30 #[.slice (some ⟨b, o, none⟩) (r.length + 1) cap, .int .i64 0] w fun e w' => e = .returned (.tuple #[.string X, .int .i64 (q : Int)]) ∧ Below w.heap.size w w') := Lib.hid (fun w hw => by
    have h := node_any b o cap (d :: r) hl hp hd hcost (r.length + 1) 0 (by simp) (by simp) w hw
    rw [show nodeR (d :: r) 0 (by simp) = .tuple #[.string X, .int .i64 (q : Int)] by rw [hX.out, hq.out]; rfl] at h
    exact h)
  have hXs : X.size ≤ 1000000000000000 := by
    have h1 := (byt_cost (fuelN r)).1 d r
    have h2 := hd d (by simp)
    rw [costs_cons] at hcost
    unfold costB at h1
    rw [hX.out]
    show (bytU (fuelN r) d r).1.length ≤ _
    omega
  obtain ⟨Y, hY⟩ : ∃ x : ByteArray, Hid (x = mg ++ X) := ⟨_, Lib.hid rfl⟩
  have hYe : mg ++ X = Y := hY.out.symm
  have hYz : (mg ++ X).size = mg.size + X.size := ByteArray.size_append
  have hx1 : Hid (Bx w w.heap.size #[.string { data := #[] }, .int .i64 0] 39 (w.alloc (.cells #[.string { data := #[] }, .int .i64 0] 39))) := Lib.hid ⟨(Below.refl _ w).alloc (Nat.le_refl _) _, row_new w _ 39⟩
  obtain ⟨g, hg⟩ : ∃ g, Hid (g = w.heap.size) := ⟨_, Lib.hid rfl⟩
  have hgle : w.heap.size ≤ g := by rw [hg.out]; exact Nat.le_refl _
  clear hN hp hd hcost
  go_wp2_with fail
  rw [← hg.out] at hx1 ⊢
  generalize w.alloc (.cells #[.string { data := #[] }, .int .i64 0] 39) = W1 at *
  have hN1 := Lib.hid (HN.out.below (W2 := W1) hx1.out.1)
  with_reducible refine (HM.out _ hN1.out).mono ?_
  rintro e w2 ⟨rfl, hb⟩
  have HX2 := Lib.hid (hx1.out.below hb)
  clear hb hx1 HM hN1
  cases hm : mayL (d :: r)
  · have hz : Hid (V = .agg (txtA { data := #[] } 1)) := Lib.hid (by rw [hV.out]; unfold packV packL; rw [hm]; rfl)
    go_wp2_with (refine R.wpList_run0 rfl (exec_store29 _ (.tmp 2) (.tmp 8) rfl g rfl { data := #[] } 1 rfl _ 39 HX2.out.2 rfl) ?_)
    have HX3 := HX2.out.set hgle (txtA { data := #[] } 1)
    exact bodyPost_ret (R.results_cell rfl _ _ _ ⟨g, 0, none⟩ rfl _ (load29 _ _ HX3.2)) rfl ⟨by rw [hz.out], HX3.1⟩
  · have hz : Hid (V = .agg (txtA Y 0)) := Lib.hid (by
      rw [hV.out]
      unfold packV packL
      rw [hm, hY.out, hmg.out, hX.out, strV_cat]
      rfl)
    go_wp2_with fail
    have hN2 := Lib.hid (HN.out.below (W2 := w2) HX2.out.1)
    with_reducible refine (HNd.out _ hN2.out).mono ?_
    rintro e w3 ⟨rfl, hb⟩
    have HX3 := Lib.hid (HX2.out.below hb)
    clear hb HX2 HNd hN2
    go_wp2_with fail
    have hx4 := Lib.hid (HX3.out.alloc (.cells #[.string { data := #[110, 105, 120, 45, 97, 114, 99, 104, 105, 118, 101, 45, 49] }] 9))
    with_reducible refine (hmag.out _ _ (row_new w3 _ 9)).mono ?_
    rintro e w4 ⟨rfl, hb⟩
    have HX4 := Lib.hid (hx4.out.below hb)
    clear hb hx4 HX3 hmag
    go_wp2_with (refine R.wpList_run0 rfl (exec_store29 _ (.tmp 2) (.tmp 18) rfl g rfl Y 0 rfl _ 39 HX4.out.2 rfl) ?_)
    have HX5 := HX4.out.set hgle (txtA Y 0)
    exact bodyPost_ret (R.results_cell rfl _ _ _ ⟨g, 0, none⟩ rfl _ (load29 _ _ HX5.2)) rfl ⟨by rw [hz.out], HX5.1⟩
end Go.Proofs.Ytglipljilcdboaa
/- Same of the document: whether two lists of nodes are alike. Its condition: lengths that fit. -/
namespace Go.Proofs.Ytglipljilcdboaa
open Go.RowKit Go.Shelf
set_option linter.unusedVariables false
set_option linter.unusedSimpArgs false
def sameN (c d : Nd) : Bool := decide (c.path = d.path) && (decide (c.kind = d.kind) && decide (c.data = d.data))
def sameL : List Nd → List Nd → Bool
  | [], [] => true
  | c :: l, d :: m => sameN c d && sameL l m
  | _, _ => false
set_option maxRecDepth 100000 in
set_option maxHeartbeats 2000000 in
theorem eq42 (P D P2 D2 : ByteArray) (k k2 : Int) (w : World) : (Op.equalIn 10000 55 (.agg #[.string P, .int .i64 k, .string D]) (.agg #[.string P2, .int .i64 k2, .string D2])).run Try.prog w = .ok (P.toList == P2.toList && (k == k2 && D.toList == D2.toList)) w := by
  have u1 := Try.underlying55
  have u2 := Try.underlying9
  have u3 := Try.underlying3
  rw [show (10000 : Nat) = 9999 + 1 from rfl, Op.equalIn]
  simp only [Sem.run_bind, run_underlying Try.underlying55, Result.andThen_ok]
  go_simp
  by_cases h1 : P.toList = P2.toList <;> by_cases h2 : k = k2 <;> by_cases h3 : D.toList = D2.toList <;> simp [h1, h2, h3]
theorem same_len : ∀ l m : List Nd, l.length ≠ m.length → sameL l m = false
  | [], [], h => absurd rfl h
  | [], _ :: _, _ => rfl
  | _ :: _, [], _ => rfl
  | c :: l, d :: m, h => by
    rw [sameL, same_len l m (by simpa using h), Bool.and_false]
theorem same_drop (l m : List Nd) (k : Nat) (h : k < l.length) (h2 : k < m.length) : sameL (l.drop k) (m.drop k) = (sameN l[k] m[k] && sameL (l.drop (k + 1)) (m.drop (k + 1))) := by
  rw [List.drop_eq_getElem_cons h, List.drop_eq_getElem_cons h2, sameL]
theorem same_iff : ∀ l m : List Nd, sameL l m = true ↔ l = m
  | [], [] => by simp [sameL]
  | [], _ :: _ => by simp [sameL]
  | _ :: _, [] => by simp [sameL]
  | c :: l, d :: m => by
    rw [sameL, Bool.and_eq_true, same_iff l m]
    have hc : sameN c d = true ↔ c = d := by
      unfold sameN
      simp only [Bool.and_eq_true, decide_eq_true_eq]
      constructor
      · rintro ⟨h1, h2, h3⟩; exact Nd.ext' h1 h2 h3
      · rintro rfl; exact ⟨rfl, rfl, rfl⟩
    rw [hc, List.cons.injEq]
set_option maxRecDepth 100000 in
set_option maxHeartbeats 2000000 in
theorem same_any (b o cap b2 o2 cap2 : Nat) (l m : List Nd) (hl : l.length ≤ 9223372036854775807) (hm : m.length ≤ 9223372036854775807) (w : World) (hN : Nodes w b o l) (hN2 : Nodes w b2 o2 m) :
    Calls Try.prog 14 #[slV b o l.length cap, slV b2 o2 m.length cap2] w fun e w' => e = .returned (.bool (sameL l m)) ∧ Below w.heap.size w w' := by
  have HN := Lib.hid hN
  have HM := Lib.hid hN2
  clear hN hN2
  obtain ⟨B, hB⟩ : ∃ B, Hid (B = sameL l m) := ⟨_, Lib.hid rfl⟩
  rw [← hB.out]
  unfold slV
  by_cases he : l.length = m.length
  · obtain ⟨n, hn⟩ : ∃ n, Hid (n = l.length) := ⟨_, Lib.hid rfl⟩
    have hn2 : Hid (n = m.length) := Lib.hid (hn.out.trans he)
    rw [← he, ← hn.out]
    rw [← hn.out] at hl
    clear he hm
    go_enter Try.func14, Try.ntmps14
    go_wp2_with fail
    go_loopw [5] (fun x wr => ∃ k : Nat, k ≤ n ∧ x = .int .i64 (k : Int) ∧ B = sameL (l.drop k) (m.drop k) ∧ Below w.heap.size w wr) (fun x _ => n - (intOf x).toNat)
    case atStart => exact ⟨0, Nat.zero_le _, rfl, hB.out, Below.refl _ w⟩
    case round =>
      obtain ⟨k, hk, rfl, hinv, hb⟩ := hrel
      have HI := Lib.hid hinv
      have HBr := Lib.hid hb
      clear hinv hb
      by_cases hlt : k < n
      · have hltI : (k : Int) < (n : Int) := by omega
        have hkl : k < l.length := by have := hn.out; omega
        have hkm : k < m.length := by have := hn2.out; omega
        have a0 := ((HN.out.below (W2 := wr) HBr.out).2 k hkl)
        have a1 := ((HM.out.below (W2 := wr) HBr.out).2 k hkm)
        have hst := Lib.hid (same_drop l m k hkl hkm)
        rw [← HI.out] at hst
        obtain ⟨c, hc⟩ : ∃ c, Hid (c = l[k]) := ⟨_, Lib.hid rfl⟩
        obtain ⟨d, hd⟩ : ∃ c, Hid (c = m[k]) := ⟨_, Lib.hid rfl⟩
        rw [← hc.out] at a0 hst
        rw [← hd.out] at a1 hst
        obtain ⟨c0, c1, c2⟩ := a0
        obtain ⟨d0, d1, d2⟩ := a1
        obtain ⟨P, hP⟩ : ∃ x : ByteArray, Hid (x = ⟨c.path.toArray⟩) := ⟨_, Lib.hid rfl⟩
        obtain ⟨D, hD⟩ : ∃ x : ByteArray, Hid (x = ⟨c.data.toArray⟩) := ⟨_, Lib.hid rfl⟩
        obtain ⟨P2, hP2⟩ : ∃ x : ByteArray, Hid (x = ⟨d.path.toArray⟩) := ⟨_, Lib.hid rfl⟩
        obtain ⟨D2, hD2⟩ : ∃ x : ByteArray, Hid (x = ⟨d.data.toArray⟩) := ⟨_, Lib.hid rfl⟩
        rw [show strV c.path = .string P by rw [hP.out]; rfl] at c0
        rw [show strV c.data = .string D by rw [hD.out]; rfl] at c2
        rw [show strV d.path = .string P2 by rw [hP2.out]; rfl] at d0
        rw [show strV d.data = .string D2 by rw [hD2.out]; rfl] at d2
        obtain ⟨q, hq⟩ : ∃ q, Hid (q = sameN c d) := ⟨_, Lib.hid rfl⟩
        have hE : ∀ w, (Op.equalIn 10000 55 (.agg #[.string P, .int .i64 c.kind, .string D]) (.agg #[.string P2, .int .i64 d.kind, .string D2])).run Try.prog w = .ok q w := fun w => by
          rw [eq42]
          congr 1
          rw [hq.out, ByteArray.toList_eq, ByteArray.toList_eq, ByteArray.toList_eq, ByteArray.toList_eq, hP.out, hD.out, hP2.out, hD2.out]
          unfold sameN
          by_cases h1 : c.path = d.path <;> by_cases h2 : c.kind = d.kind <;> by_cases h3 : c.data = d.data <;> simp [h1, h2, h3]
        rw [← hq.out] at hst
        clear hP hD hP2 hD2 hc hd hq hkl hkm
        cases q
        · rw [Bool.false_and] at hst
          go_wp2_with fail
          go_region
          go_wp2_with fail
          go_ret
          exact ⟨by rw [hst.out]; rfl, HBr.out.drew⟩
        · rw [Bool.true_and] at hst
          go_wp2_with fail
          go_region
          go_wp2_with fail
          refine ⟨⟨k + 1, by omega, by first | rfl | simp | go_num, hst.out, HBr.out.drew⟩, ?_⟩
          simp [intOf] <;> omega
      · have hltI : ¬ (k : Int) < (n : Int) := by omega
        have hz : Hid (B = true) := Lib.hid (by
          rw [HI.out, List.drop_of_length_le (by have := hn.out; omega), List.drop_of_length_le (by have := hn2.out; omega)]
          rfl)
        go_wp2_with fail
        go_ret
        exact ⟨by rw [hz.out]; rfl, HBr.out⟩
  · have heI : ¬ (l.length : Int) = (m.length : Int) := by omega
    have hz : Hid (B = false) := Lib.hid (by rw [hB.out, same_len l m he])
    clear he
    go_enter Try.func14, Try.ntmps14
    go_wp2_with fail
    go_ret
    exact ⟨by rw [hz.out]; rfl, Below.refl _ _⟩
end Go.Proofs.Ytglipljilcdboaa
/- Hints for the statements: Get of both, Same, Err, Pack of one file; awake. Their conditions: lengths that fit. -/
namespace Go.Proofs.Ytglipljilcdboaa
open Go.RowKit Go.Shelf
set_option linter.unusedVariables false
set_option linter.unusedSimpArgs false
section
open E
theorem ent11 : Enters Try.prog 11 := enters_of Try.func11 (by kernel_rfl) rfl
theorem ent12 : Enters Try.prog 12 := enters_of Try.func12 (by kernel_rfl) rfl
theorem ent13 : Enters Try.prog 13 := enters_of Try.func13 (by kernel_rfl) rfl
theorem ent14 : Enters Try.prog 14 := enters_of Try.func14 (by kernel_rfl) rfl
theorem ent15 : Enters Try.prog 15 := enters_of Try.func15 (by kernel_rfl) rfl
theorem ent18 : Enters Try.prog 18 := enters_of Try.func18 (by kernel_rfl) rfl
theorem nodes_of {ρ : Env} {r : Nat} {L : List Nd} {w : World} (h : RowAt ρ r (rowN L L.length) w) : Nodes w (ρ r).1 0 L := by
  have z := rowN_z h
  refine ⟨h.1, fun i hi => ?_⟩
  have hc : ∀ c, c < 3 → w.cell? ⟨(ρ r).1, i * 3 + c, none⟩ = (ndc L i)[c]? := fun c hc => by
    have hg : (lst ρ (rowN L L.length).ps)[i * 3 + c]? = (ndc L i)[c]? := by
      rw [lst_fnc, flat_get (f := ndc L) (k := 3) (by decide) L.length (fun _ _ => rfl) (i * 3 + c) (by omega)]
      rw [show (i * 3 + c) / 3 = i by omega, show (i * 3 + c) % 3 = c by omega]
    have hv : (ndc L i)[c]? = some ((ndc L i).getD c undef) := by
      rw [List.getD_eq_getElem?_getD]
      cases hq : (ndc L i)[c]? with
      | some v => rfl
      | none => rw [List.getElem?_eq_none_iff] at hq; simp at hq; omega
    have := (h.2.1 (i * 3 + c) _ (hg.trans hv)).1
    rw [z, Nat.zero_add] at this
    rw [this, hv]
  have e := ndf_at L i hi
  refine ⟨?_, ?_, ?_⟩
  · rw [show 0 + i * 3 = i * 3 + 0 by omega, hc 0 (by decide), ← e]; rfl
  · rw [show 0 + i * 3 + 1 = i * 3 + 1 by omega, hc 1 (by decide), ← e]; rfl
  · rw [show 0 + i * 3 + 2 = i * 3 + 2 by omega, hc 2 (by decide), ← e]; rfl
abbrev hP0 (id : Nat) (s : List UInt8) (L : List Nd) : Hint := .call ⟨12, fun _ => #[stv s], .tup [.lf (slN id L.length), .lf (.v (.int .i64 0))], [], [], some (rowN L L.length), []⟩
abbrev hP1 (s : List UInt8) (e : Int) : Hint := .call ⟨12, fun _ => #[stv s], .tup [.lf (.v nilS), .lf (.v (.int .i64 e))], [], [], none, []⟩
abbrev hR0 (id : Nat) (s : List UInt8) (L : List Nd) : Hint := .call ⟨13, fun _ => #[stv s], .s (.agg [.one (slN id L.length), .one (.v (.int .i64 0))]), [], [], some (rowN L L.length), []⟩
abbrev hR1 (s : List UInt8) (e : Int) : Hint := .call ⟨13, fun _ => #[stv s], .s (.agg [.one (.v nilS), .one (.v (.int .i64 e))]), [], [], none, []⟩
theorem hP0_ok (id : Nat) {s : List UInt8} {L : List Nd} (hs : s.length ≤ 100000000000) (h : getL s = (L, 0)) : HintOk Try.prog id (hP0 id s L) := by
  refine call_ok ent12 (fun x hx => by simp only [List.mem_cons, List.not_mem_nil, or_false] at hx; rcases hx with rfl | rfl <;> first | trivial | rfl) (fun p hp => by cases hp) fun ρ w hr => (pget_any s hs w).mono ?_
  rintro e w' (⟨_, B, rfl, h0, hf, hb, hrow⟩ | ⟨h1, _⟩)
  · rw [h] at hrow
    refine ⟨B, ?_, hf, (fun p hp => by cases hp), fun row hrw => ?_⟩
    · rw [h]
      show _ = Ending.returned (.tuple #[.slice (some ⟨(setE ρ id B id).1, (setE ρ id B id).2 + (0 + 0 * 3), none⟩) L.length ((setE ρ id B id).3 - 0), .int .i64 0])
      rw [setE_same, h0]
      rfl
    · cases hrw
      exact ⟨hb, rowAt_mv hrow (setE_same ρ id B), rowN_ok _ _⟩
  · rw [h] at h1; exact absurd rfl h1
theorem hR0_ok (id : Nat) {s : List UInt8} {L : List Nd} (hs : s.length ≤ 100000000000) (h : getL s = (L, 0)) : HintOk Try.prog id (hR0 id s L) := by
  refine call_ok ent13 (fun x hx => by simp only [List.mem_cons, List.not_mem_nil, or_false] at hx; rcases hx with rfl | rfl <;> first | trivial | rfl) (fun p hp => by cases hp) fun ρ w hr => (rget_any s (by omega) w).mono ?_
  rintro e w' (⟨_, B, rfl, h0, hf, hb, hrow⟩ | ⟨h1, _⟩)
  · rw [h] at hrow
    refine ⟨B, ?_, hf, (fun p hp => by cases hp), fun row hrw => ?_⟩
    · rw [h]
      show _ = Ending.returned (.agg #[.slice (some ⟨(setE ρ id B id).1, (setE ρ id B id).2 + (0 + 0 * 3), none⟩) L.length ((setE ρ id B id).3 - 0), .int .i64 0])
      rw [setE_same, h0]
      rfl
    · cases hrw
      exact ⟨hb, rowAt_mv hrow (setE_same ρ id B), rowN_ok _ _⟩
  · rw [h] at h1; exact absurd rfl h1
theorem hP1_ok (id : Nat) {s : List UInt8} {e : Int} (hs : s.length ≤ 100000000000) (h : getL s = ([], e)) (he : e ≠ 0) : HintOk Try.prog id (hP1 s e) := by
  refine call_ok ent12 (fun x hx => by simp only [List.mem_cons, List.not_mem_nil, or_false] at hx; rcases hx with rfl | rfl <;> rfl) (fun p hp => by cases hp) fun ρ w hr => (pget_any s hs w).mono ?_
  rintro en w' (⟨h1, _⟩ | ⟨_, _, rfl, hf⟩)
  · rw [h] at h1; exact absurd h1 he
  · rw [h]
    exact ⟨⟨0, 0, 0⟩, rfl, hf, (fun p hp => by cases hp), fun row hrw => by cases hrw⟩
theorem hR1_ok (id : Nat) {s : List UInt8} {e : Int} (hs : s.length ≤ 100000000000) (h : getL s = ([], e)) (he : e ≠ 0) : HintOk Try.prog id (hR1 s e) := by
  refine call_ok ent13 (fun x hx => by simp only [List.mem_cons, List.not_mem_nil, or_false] at hx; rcases hx with rfl | rfl <;> rfl) (fun p hp => by cases hp) fun ρ w hr => (rget_any s (by omega) w).mono ?_
  rintro en w' (⟨h1, _⟩ | ⟨_, _, rfl, hf⟩)
  · rw [h] at h1; exact absurd h1 he
  · rw [h]
    exact ⟨⟨0, 0, 0⟩, rfl, hf, (fun p hp => by cases hp), fun row hrw => by cases hrw⟩
abbrev hSm (r1 r2 : Nat) (L M : List Nd) : Hint := pr 14 (fun ρ => #[(TV.s (.lf (slN r1 L.length))).val ρ, (TV.s (.lf (slN r2 M.length))).val ρ]) (.v (.bool (sameL L M))) [(r1, rowN L L.length), (r2, rowN M M.length)]
theorem hSm_ok (id r1 r2 : Nat) (L M : List Nd) (hL : L.length ≤ 100000) (hM : M.length ≤ 100000) : HintOk Try.prog id (hSm r1 r2 L M) := by
  refine pr_ok ent14 (v := .bool (sameL L M)) rfl (fun _ => rfl) fun ρ w h => ?_
  have h1 := h (r1, rowN L L.length) (by simp)
  have h2 := h (r2, rowN M M.length) (by simp)
  have z1 := rowN_z h1
  have z2 := rowN_z h2
  have e1 : (TV.s (.lf (slN r1 L.length))).val ρ = slV (ρ r1).1 0 L.length (ρ r1).3 := slN_val rfl z1
  have e2 : (TV.s (.lf (slN r2 M.length))).val ρ = slV (ρ r2).1 0 M.length (ρ r2).3 := slN_val rfl z2
  rw [e1, e2]
  exact same_any _ _ _ _ _ _ L M (by omega) (by omega) w (nodes_of h1) (nodes_of h2)
set_option maxRecDepth 100000 in
theorem same_nil (w : World) : Calls Try.prog 14 #[nilS, nilS] w fun e w' => e = .returned (.bool true) ∧ Below w.heap.size w w' := by
  refine At.calls (args := [.v nilS, .v nilS]) (rows := []) (gl := []) (wr := []) (ρ := fun _ => (⟨0, 0, 0⟩ : Blk)) Try.func14 rfl rfl (init_rw ⟨rfl, rfl, trivial⟩ rfl rfl rfl (fun p hp => by cases hp) (fun p hp => by cases hp) (fun p hp => by cases hp)) rfl ?_
  exact At.fin rfl [] trivial [.n, .u, .n] (x := .v (.bool true)) (ob := [false = false, false = false]) (by kernel_rfl) ⟨rfl, rfl, trivial⟩ fun ρ' w' hf _ => ⟨rfl, hf.below⟩
abbrev hSm0 : Hint := pc 14 #[nilS, nilS] (.v (.bool true))
theorem hSm0_ok (id : Nat) : HintOk Try.prog id hSm0 := pc_ok ent14 (v := .bool true) rfl (fun _ => rfl) fun w => same_nil w
set_option maxRecDepth 100000 in
theorem err_any (e : Int) (w : World) : Calls Try.prog 15 #[.int .i64 e] w fun en w' => en = .returned (.int .i64 e) ∧ Below w.heap.size w w' := by
  refine At.calls (args := [.int .i64 e]) (rows := []) (gl := []) (wr := []) (ρ := fun _ => (⟨0, 0, 0⟩ : Blk)) Try.func15 rfl rfl (init_rw ⟨rfl, trivial⟩ rfl rfl rfl (fun p hp => by cases hp) (fun p hp => by cases hp) (fun p hp => by cases hp)) rfl ?_
  exact At.fin rfl [] trivial [] (x := .int .i64 e) (ob := []) (by kernel_rfl) trivial fun ρ' w' hf _ => ⟨rfl, hf.below⟩
abbrev hEr (e : Int) : Hint := pc 15 #[.int .i64 e] (.int .i64 e)
theorem hEr_ok (id : Nat) (e : Int) : HintOk Try.prog id (hEr e) := pc_ok ent15 (v := .int .i64 e) rfl (fun _ => rfl) fun w => err_any e w
end
end Go.Proofs.Ytglipljilcdboaa
/- The statements: awake; ParseAll. Their condition: lengths that fit. -/
namespace Go.Proofs.Ytglipljilcdboaa
open Go.RowKit Go.Shelf
set_option linter.unusedVariables false
set_option linter.unusedSimpArgs false
section
open E
abbrev awL : List Nd := [⟨[], 2, [120]⟩]
abbrev awR : Row := ⟨[.fnc (chunkF [stv [], .int .i64 2, stv [120]] 3 1) 3 1], true, some (55, 3)⟩
abbrev awT : List UInt8 := treeL awL
theorem aw_get0 : getL [] = ([], 5) := by kernel_rfl
theorem aw_get : getL awT = (awL, 0) := by kernel_rfl
theorem aw_len : awT.length ≤ 1000 := by decide +kernel
abbrev hPk : Hint := pr 18 (fun ρ => #[(TV.s (.lf (.sl 3001 0 0 3 1 none))).val ρ]) (.s (.agg [.one (.v (stv awT)), .one (.v (.int .i64 0))])) [(3001, awR)]
theorem hPk_ok : HintOk Try.prog 3002 hPk := by
  refine pr_ok ent18 (v := .agg #[stv awT, .int .i64 0]) (fun p hp => ?_) (fun _ => rfl) fun ρ w h => ?_
  · simp only [List.mem_cons, List.not_mem_nil, or_false] at hp
    rcases hp with rfl | rfl <;> rfl
  have h1 := h (3001, awR) (by simp)
  have h2 : RowAt ρ 3001 (rowN awL awL.length) w := row_eq h1 rfl fun i hi => by
    obtain rfl : i = 0 := by omega
    rfl
  have z := rowN_z h2
  have e1 : (TV.s (.lf (.sl 3001 0 0 3 1 none))).val ρ = slV (ρ 3001).1 0 1 (ρ 3001).3 := by
    show Value.slice (some ⟨(ρ 3001).1, (ρ 3001).2 + (0 + 0 * 3), none⟩) 1 ((ρ 3001).3 - 0) = _
    rw [z]; rfl
  rw [e1]
  refine (pack_pos _ 0 _ ⟨[], 2, [120]⟩ [] (by decide) (fun c hc => by simp at hc; subst hc; decide) (fun c hc => by simp at hc; subst hc; decide) (by decide +kernel) w (nodes_of h2)).mono ?_
  rintro e w' ⟨rfl, hb⟩
  exact ⟨by kernel_rfl, hb⟩
abbrev hAw : Hint := pc 11 #[] (.v (.bool true))
set_option maxRecDepth 100000 in
theorem awake_any (w : World) : Calls Try.prog 11 #[] w fun e w' => e = .returned (.bool true) ∧ Below w.heap.size w w' := by
  refine At.calls (args := []) (rows := []) (gl := []) (wr := []) (ρ := fun _ => (⟨0, 0, 0⟩ : Blk)) Try.func11 rfl rfl (init_rw trivial rfl rfl rfl (fun p hp => by cases hp) (fun p hp => by cases hp) (fun p hp => by cases hp)) rfl ?_
  have k1 : HintOk Try.prog 2000 (hP1 [] 5) := hP1_ok _ (by decide) aw_get0 (by decide)
  have k2 : HintOk Try.prog 3004 (hP0 3004 awT awL) := hP0_ok _ (Nat.le_trans aw_len (by decide)) aw_get
  exact At.fin rfl [(2000, hP1 [] 5), (3002, hPk), (3004, hP0 3004 awT awL), (4001, hEr 5), (4005, hEr 0)] ⟨k1, hPk_ok, k2, hEr_ok _ _, hEr_ok _ _, trivial⟩ [] (x := .v (.bool true)) (ob := [qL (hP1 [] 5), qL hPk, qL (hP0 3004 awT awL), qL (hEr 5), qL (hEr 0), [(0 : Int) ≤ 0 ∧ (0 : Int) < ((awL.length : Nat) : Int), (0 : Nat) < 1, (0 : Int) ≤ 0 ∧ (0 : Int) < ((awL.length : Nat) : Int), (0 : Nat) < 1]].flatten) (by kernel_rfl) (all_flat ⟨all_qL _, all_qL _, all_qL _, all_qL _, all_qL _, ⟨⟨by decide, by decide⟩, by decide, ⟨by decide, by decide⟩, by decide, trivial⟩, trivial⟩) fun ρ' w' hf _ => ⟨rfl, hf.below⟩
theorem hAw_ok (id : Nat) : HintOk Try.prog id hAw := pc_ok ent11 (v := .bool true) rfl (fun _ => rfl) fun w => awake_any w
abbrev hSmT (r1 r2 : Nat) (L : List Nd) : Hint := pr 14 (fun ρ => #[(TV.s (.lf (slN r1 L.length))).val ρ, (TV.s (.lf (slN r2 L.length))).val ρ]) (.v (.bool true)) [(r1, rowN L L.length), (r2, rowN L L.length)]
theorem hSmT_ok (id r1 r2 : Nat) (L : List Nd) (hL : L.length ≤ 100000) : HintOk Try.prog id (hSmT r1 r2 L) := by
  have h := hSm_ok id r1 r2 L L hL hL
  unfold hSm at h
  rw [show sameL L L = true from (same_iff L L).2 rfl] at h
  exact h
theorem cut_most {m : Nat} {r s x : List UInt8} (h : cutT m r = .ok s x) : s.length ≤ m := by
  unfold cutT at h
  split at h
  · cases h
  · split at h
    · cases h
    · split at h
      · cases h
      · split at h
        · cases h
          rw [List.length_take]; omega
        · cases h
theorem good_run : ∀ (n : Nat) (t : TS) (r : List UInt8) (t' : TS) (b : List UInt8), r.length ≤ n → Good t → runM t r = some (t', b) → Good t'
  | n, t, r, t', b, hn, hg, h => by
    by_cases hr : r = []
    · subst hr; rw [runM_nil] at h; cases h; exact hg
    · cases hm : mostM t.pl with
      | none => rw [runM_none hr hm] at h; cases h
      | some m =>
        cases hc : cutT m r with
        | more => rw [runM_more hm hc] at h; cases h; exact hg
        | form => rw [runM_form hr hm hc] at h; cases h
        | ok s rest =>
          rw [runM_ok hm hc] at h
          cases ht : takeM t s with
          | none => rw [ht] at h; cases h
          | some t2 =>
            rw [ht] at h
            have hl := cut_ok_len hc
            cases n with
            | zero => omega
            | succ n =>
              refine good_run n t2 rest t' b (by omega) (good_take hg (fun h14 => ?_) ht) h
              have := cut_most hc
              rw [h14, most_14] at hm
              cases hm
              exact this
/-- What a Get tells is a list or an error, not both. -/
theorem getL_cases (s : List UInt8) : (∃ L, getL s = (L, 0) ∧ L.length ≤ 256) ∨ (∃ e, getL s = ([], e) ∧ e ≠ 0) := by
  unfold getL finR
  cases h : runM t0 s with
  | none => exact .inr ⟨4, rfl, by decide⟩
  | some r =>
    obtain ⟨t, b⟩ := r
    unfold finM
    by_cases h17 : t.pl = 17
    · simp only [h17, if_true]
      exact .inl ⟨t.nodes, rfl, (good_run _ t0 s t b (Nat.le_refl _) good_t0 h).n⟩
    · simp only [h17, if_false]
      exact .inr ⟨5, rfl, by decide⟩
end
end Go.Proofs.Ytglipljilcdboaa
/- The statements: ParsePieces. Its condition: texts as they lie in memory. -/
namespace Go.Proofs.Ytglipljilcdboaa
open Go.RowKit Go.Shelf
set_option linter.unusedVariables false
set_option linter.unusedSimpArgs false
section
open E
/-- A slice of texts. -/
def TxtV (W : World) (v : Value) (l : List (List UInt8)) : Prop := l.length ≤ 9223372036854775807 ∧ ∃ a cap, v = .slice a l.length cap ∧ (0 < l.length → ∃ b o, a = some ⟨b, o, none⟩ ∧ Txts W b o l)
def txf (l : List (List UInt8)) (i : Nat) : List UInt8 := l.getD i []
theorem feed_cat (S x : List UInt8) : feedO (runM t0 S) x = runM t0 (S ++ x) := by
  rw [runM_app]
  unfold feedO
  cases runM t0 S with
  | none => rfl
  | some r => rfl
/-- What is begun is an end of what came. -/
theorem run_len : ∀ (n : Nat) (t : TS) (r : List UInt8) (t' : TS) (b : List UInt8), r.length ≤ n → runM t r = some (t', b) → b.length ≤ r.length
  | n, t, r, t', b, hn, h => by
    by_cases hr : r = []
    · subst hr; rw [runM_nil] at h; cases h; exact Nat.le_refl _
    · cases hm : mostM t.pl with
      | none => rw [runM_none hr hm] at h; cases h
      | some m =>
        cases hc : cutT m r with
        | more => rw [runM_more hm hc] at h; cases h; exact Nat.le_refl _
        | form => rw [runM_form hr hm hc] at h; cases h
        | ok s rest =>
          rw [runM_ok hm hc] at h
          cases ht : takeM t s with
          | none => rw [ht] at h; cases h
          | some t2 =>
            rw [ht] at h
            have hl := cut_ok_len hc
            cases n with
            | zero => omega
            | succ n =>
              have := run_len n t2 rest t' b (by omega) h
              omega
theorem beg_len (S : List UInt8) : begO (runM t0 S) ≤ S.length := by
  cases h : runM t0 S with
  | none => exact Nat.zero_le _
  | some r =>
    obtain ⟨t, b⟩ := r
    exact run_len _ t0 S t b (Nat.le_refl _) h
theorem RdS.fr {W W' : World} {b : Nat} {r : Option (TS × List UInt8)} {D : List Nat} (h : RdS W b r D) (hf : Fr W [] W') : RdS W' b r D := by
  cases r with
  | none => exact rowAt_fr (show RowAt (fun _ => ⟨b, 0, 0⟩) 0 wrongR W from h) hf (by simp)
  | some r =>
    obtain ⟨t, bs⟩ := r
    obtain ⟨g1, g2, g3⟩ := h
    exact ⟨g1, g2, g3.fr hf (fun x _ hx => by cases hx)⟩
/-- What comes of bytes: a list; not enough; no tree. -/
theorem came (S : List UInt8) : (∃ L, getL S = (L, 0) ∧ L.length ≤ 256 ∧ errO (runM t0 S) = 0) ∨ (getL S = ([], 5) ∧ errO (runM t0 S) = 0) ∨ (getL S = ([], 4) ∧ errO (runM t0 S) = 4) := by
  rcases getL_cases S with ⟨L, hL, hn⟩ | ⟨e, hE, he⟩
  · refine .inl ⟨L, hL, hn, ?_⟩
    unfold getL finR at hL
    cases h : runM t0 S with
    | none => rw [h] at hL; exact absurd (congrArg Prod.snd hL) (show (4 : Int) ≠ 0 by decide)
    | some r => rfl
  · unfold getL finR at hE ⊢
    cases h : runM t0 S with
    | none => exact .inr (.inr ⟨rfl, rfl⟩)
    | some r =>
      obtain ⟨t, b⟩ := r
      rw [h] at hE
      refine .inr (.inl ⟨?_, rfl⟩)
      unfold finM at hE ⊢
      by_cases h17 : t.pl = 17
      · simp only [h17, if_true] at hE
        exact absurd (congrArg Prod.snd hE).symm he
      · simp only [h17, if_false]
abbrev txtRow (l : List (List UInt8)) : Row := ⟨[.fnc (fun i => [stv (txf l i)]) 1 l.length], false, none⟩
theorem cells_of_cell1 {W : World} {b o : Nat} {v : Value} (h : W.cell? ⟨b, o, none⟩ = some v) : ∃ cur t fz, W.heap[b]? = some (.cells cur t fz) := by
  unfold World.cell? at h
  simp only at h
  split at h
  · rename_i cur t fz h2; exact ⟨cur, t, fz, h2⟩
  · cases h
theorem txt_row {W : World} {b o : Nat} {tx : List (List UInt8)} (h0 : 0 < tx.length) (h : Txts W b o tx) (ρ : Env) (r : Nat) (hρ : ρ r = ⟨b, o, 0⟩) : RowAt ρ r (txtRow tx) W := by
  unfold RowAt
  rw [hρ]
  refine ⟨h.1, fun j v hv => ⟨?_, fun hw => by cases hw⟩, (fun e k hc => by cases hc), cells_of_cell1 (h.2 0 h0)⟩
  have hj : j < tx.length := by
    have := (List.getElem?_eq_some_iff.1 hv).1
    rw [lst_fnc, flat_len (k := 1) tx.length (fun _ _ => rfl)] at this
    omega
  rw [lst_fnc, flat_get (f := fun i => [stv (txf tx i)]) (k := 1) (by omega) tx.length (fun _ _ => rfl) j (by omega), Nat.div_one, Nat.mod_one] at hv
  cases hv
  show W.cell? ⟨b, o + j, none⟩ = _
  rw [h.2 j hj]
  simp [txf, hj, strV]
abbrev txA (ps : List (List UInt8)) (ct : Nat) : TV := .s (.lf (.sl 1 0 0 1 ps.length (some ct)))
theorem txtRow_ok (l : List (List UInt8)) : pok (txtRow l).ps := fun p hp => by
  obtain rfl := List.mem_singleton.1 hp
  exact fun i hi => ⟨rfl, fun v hv => by obtain rfl := List.mem_singleton.1 hv; rfl⟩
/-- How a statement ends. -/
abbrev LwQ (W0 : World) : Ending → World → Prop := fun e w' => e = .returned (.bool true) ∧ Fr W0 [] w'
theorem fr_new {W0 W w' : World} {l : List Nat} (h : Fr W0 [] W) (k : Fr W l w') (hl : ∀ x ∈ l, W0.heap.size ≤ x) : Fr W0 [] w' := h.comp k fun x hx => .inr (hl x hx)
/-- A state said otherwise, and less of it. -/
theorem E.At.less {P : Program} {w0 : World} {wr : Bs} {k2 : List Nat} {n : Nat} {gl : List Nat} {todo : List Item} {Q : Exit → Act → World → Prop} {tm tm' : List (Nat × TV)} {rows rows' : List (Nat × Row)} {r : Option Nat} {mk : List Nat}
    (ht : ∀ p ∈ tm', ∃ x, findT tm p.1 = some x ∧ (∀ ρ : Env, (∀ r, (r < 1000 ∨ r ∈ wr.k) → ρ r = wr.e r) → x.val ρ = p.2.val ρ) ∧ p.2.ok) (hr : ∀ p ∈ rows', findR rows p.1 = some p.2) (hi : idsOk tm' rows' gl = true) (hk : k2.all (hasN (rows'.map (·.1) ++ gl.map (500 + ·))) = true) (hg : gl.all (fun g => Nat.ble (g + 1) 500) = true) (hk2 : ∀ r ∈ k2, r ∈ wr.k)
    (h : At P w0 ⟨wr.l, wr.e, k2⟩ n gl todo Q tm' rows' r mk) : At P w0 wr n gl todo Q tm rows r mk := by
  intro a w ρ hd
  simp only [idsOk, Bool.and_eq_true, List.all_eq_true] at hi
  have hm : ∀ r x, findR rows' r = some x → findR rows r = some x := fun r x hx => hr _ (findR_mem hx)
  refine h a w ρ ⟨hd.sz, hd.df, hd.mf, hd.ko, fun t x hx => ?_, fun q y hy => ?_, fun q u y z hy hz hqu hw => hd.ds q u y z (hm _ _ hy) (hm _ _ hz) hqu hw, hd.fr, fun q hq => hd.e0 q (hq.imp id (hk2 q)), fun q hq => List.all_eq_true.1 hk q hq, fun g hg2 hu => ?_, fun q B hq => by cases hq⟩
  · have hp := findT_mem (show findT tm' t = some x from hx)
    obtain ⟨x0, h1, h2, h3⟩ := ht _ hp
    obtain ⟨g1, g2, g3⟩ := hd.tm t x0 h1
    exact ⟨by rw [g1, h2 ρ (fun r hr => hd.e0 r hr)], h3, fun r hr2 => hi.1 _ hp r hr2⟩
  · have hp := findR_mem (show findR rows' q = some y from hy)
    obtain ⟨g1, g2, g3, g4, g5⟩ := hd.rw q y (hm _ _ hy)
    exact ⟨g1, g2, hasN_iff.2 (List.mem_append.2 (.inl (List.mem_map.2 ⟨_, hp, rfl⟩))), fun q2 hq2 => hi.2 _ hp q2 hq2, g5⟩
  · have hu2 := hasN_iff.1 hu
    refine hd.gl g hg2 (hasN_iff.2 ?_)
    rcases List.mem_append.1 hu2 with h6 | h6
    · obtain ⟨p, hp, he⟩ := List.mem_map.1 h6
      have := findR_mem (hr p hp)
      exact List.mem_append.2 (.inl (List.mem_map.2 ⟨_, this, he⟩))
    · exact List.mem_append.2 (.inr h6)
/-- Where something lies, and nothing of it. -/
abbrev noR : Row := ⟨[], false, none⟩
theorem noR_at {W : World} {b : Nat} {r : Option (TS × List UInt8)} {D : List Nat} (h : RdS W b r D) (ρ : Env) (k : Nat) (hρ : (ρ k).1 = b) : RowAt ρ k noR W := by
  have key : ∀ row : Row, RowAt (fun _ => ⟨b, 0, 0⟩) 0 row W → RowAt ρ k noR W := fun row h => by
    unfold RowAt at h ⊢
    exact ⟨by rw [hρ]; exact h.1, (fun j x hx => by cases hx), (fun e k hc => by cases hc), by rw [hρ]; exact h.2.2.2⟩
  cases r with
  | none => exact key _ h
  | some r =>
    obtain ⟨t, bs⟩ := r
    obtain ⟨_, _, vb, E, D', rfl, hby, ⟨vn, vo, h1, hv, hn1⟩, hn⟩ := h
    exact key _ h1
end
end Go.Proofs.Ytglipljilcdboaa
/- Nodes in a row of the call's own, and one more behind them; texts and numbers handed in. Its conditions: lengths that fit. -/
namespace Go.Proofs.Ytglipljilcdboaa
open Go.RowKit Go.Shelf
set_option linter.unusedVariables false
set_option linter.unusedSimpArgs false
/-- The cells of some nodes. -/
def ndsV (l : List Nd) : List Value := l.flatMap fun c => [strV c.path, .int .i64 c.kind, strV c.data]
theorem TxtV.below {W W2 : World} {v : Value} {l : List (List UInt8)} (h : TxtV W v l) (hb : Below W.heap.size W W2) : TxtV W2 v l := by
  obtain ⟨h1, a, cap, rfl, h2⟩ := h
  refine ⟨h1, a, cap, rfl, fun h0 => ?_⟩
  obtain ⟨b, o, rfl, h3⟩ := h2 h0
  exact ⟨b, o, rfl, h3.below hb⟩
theorem text_one {w : World} {v : Value} {l : List (List UInt8)} (h : TxtV w v l) (i : Nat) (hi : i ≤ 9223372036854775807) :
    Calls Try.prog 27 #[v, .int .i64 (i : Int)] w fun e w' => e = .returned (strV (textL l i)) ∧ w' = w := by
  obtain ⟨h1, a, cap, rfl, h2⟩ := h
  by_cases h0 : 0 < l.length
  · obtain ⟨b, o, rfl, h3⟩ := h2 h0
    exact text_pos b o cap l h1 h0 i hi w h3
  · have e : l = [] := List.eq_nil_of_length_eq_zero (by omega)
    subst e
    exact text_nil a cap _ w
/-- A slice of numbers. -/
def NumV (W : World) (b o cap : Nat) (l : List UInt8) : Prop := l.length ≤ cap ∧ cap ≤ 9223372036854775807 ∧ b < W.heap.size ∧ ∀ i (h : i < l.length), W.cell? ⟨b, o + i, none⟩ = some (.int .u8 (l[i].toNat : Int))
theorem NumV.below {W W2 : World} {b o cap : Nat} {l : List UInt8} (h : NumV W b o cap l) (hb : Below W.heap.size W W2) : NumV W2 b o cap l :=
  ⟨h.1, h.2.1, Nat.lt_of_lt_of_le h.2.2.1 hb.size, fun i hi => (hb.cell h.2.2.1).trans (h.2.2.2 i hi)⟩
def namesA : Array Value := #[.string { data := #[97] }, .string { data := #[98, 46, 99] }, .string { data := #[98, 105, 110] }, .string { data := #[108, 105, 98] }, .string { data := #[120, 32, 121] }, .string { data := #[122] }]
theorem names_at : ∀ k, k < 6 → namesA[k]? = some (strV (nmL k)) := by
  intro k h
  have : k = 0 ∨ k = 1 ∨ k = 2 ∨ k = 3 ∨ k = 4 ∨ k = 5 := by omega
  rcases this with rfl | rfl | rfl | rfl | rfl | rfl <;> rfl
/-- What a walk over rows of its own keeps: the row, the names, all that was there before. -/
def Mk (w0 : World) (gN : Nat) (v : Value) (m : List Nd) (W : World) : Prop :=
  Below w0.heap.size w0 W ∧ W.ownsRow w0.heap.size 55 3 v m.length (ndsV m) ∧ W.heap[gN]? = some (.cells namesA 9 (0, 0)) ∧ v.ownBlock ≠ some gN ∧ w0.heap.size ≤ gN
theorem own_below {W W2 : World} {B : Nat} {e : TypeId} {size : Nat} {v : Value} {n : Nat} {xs : List Value} (h : W.ownsRow B e size v n xs) (hb : Below W.heap.size W W2) : W2.ownsRow B e size v n xs := by
  refine ⟨h.1, ?_⟩
  rcases h.2 with h | ⟨g, c, cur, h1, h2, h3, h4⟩
  · exact Or.inl h
  · exact Or.inr ⟨g, c, cur, h1, h2, row_below h3 hb, h4⟩
theorem Mk.below {w0 W W2 : World} {gN : Nat} {v : Value} {m : List Nd} (h : Mk w0 gN v m W) (hb : Below W.heap.size W W2) : Mk w0 gN v m W2 :=
  ⟨h.1.trans (hb.mono h.1.size), own_below h.2.1 hb, row_below h.2.2.1 hb, h.2.2.2.1, h.2.2.2.2⟩
theorem Mk.alloc {w0 W : World} {gN : Nat} {v : Value} {m : List Nd} (h : Mk w0 gN v m W) (o : Obj) : Mk w0 gN v m (W.alloc o) := h.below ((Below.refl _ W).alloc (Nat.le_refl _) o)
theorem Mk.drewN {w0 W : World} {gN : Nat} {v : Value} {m : List Nd} (h : Mk w0 gN v m W) (n : Nat) : Mk w0 gN v m (W.drewN n) := h.below (Below.drewN (Below.refl _ W) n)
theorem Mk.name {w0 W : World} {gN : Nat} {v : Value} {m : List Nd} (h : Mk w0 gN v m W) (k : Nat) (hk : k < 6) : W.cell? ⟨gN, k, none⟩ = some (strV (nmL k)) := (cell_of_row W gN k namesA 9 (0, 0) h.2.2.1).trans (names_at k hk)
theorem Mk.set {w0 W : World} {gN g : Nat} {v : Value} {m : List Nd} (h : Mk w0 gN v m W) (hg : w0.heap.size ≤ g) (hN : g ≠ gN) (hv : v.ownBlock ≠ some g) (D : Array Value) : Mk w0 gN v m (W.setRow g D) := by
  refine ⟨h.1.trans ⟨rfl, rfl, rfl, by simp, fun k hk => setRow_other _ _ _ _ (by omega)⟩, ⟨h.2.1.1, ?_⟩, (setRow_other _ _ _ _ hN.symm).trans h.2.2.1, h.2.2.2.1, h.2.2.2.2⟩
  rcases h.2.1.2 with h | ⟨g2, c, cur, h1, h2, h3, h4⟩
  · exact Or.inl h
  · refine Or.inr ⟨g2, c, cur, h1, h2, (setRow_other _ _ _ _ ?_).trans h3, h4⟩
    intro e
    subst e
    rw [h1] at hv
    exact hv rfl
/-- And a box that holds a node. -/
def Mg (w0 : World) (gN : Nat) (v : Value) (m : List Nd) (g : Nat) (D : Array Value) (W : World) : Prop := Mk w0 gN v m W ∧ W.heap[g]? = some (.cells D 55 (0, 0)) ∧ w0.heap.size ≤ g ∧ g ≠ gN ∧ v.ownBlock ≠ some g
theorem Mg.below {w0 W W2 : World} {gN g : Nat} {v : Value} {m : List Nd} {D : Array Value} (h : Mg w0 gN v m g D W) (hb : Below W.heap.size W W2) : Mg w0 gN v m g D W2 := ⟨h.1.below hb, row_below h.2.1 hb, h.2.2⟩
theorem Mg.new {w0 W : World} {gN : Nat} {v : Value} {m : List Nd} (h : Mk w0 gN v m W) (D : Array Value) : Mg w0 gN v m W.heap.size D (W.alloc (.cells D 55)) :=
  ⟨h.alloc _, row_new W D 55, h.1.size, fun e => absurd (Array.getElem?_eq_some_iff.1 h.2.2.1).1 (by rw [e]; exact Nat.lt_irrefl _), fun e => absurd (h.2.1.lt _ e).2 (Nat.lt_irrefl _)⟩
theorem Mg.set {w0 W : World} {gN g : Nat} {v : Value} {m : List Nd} {D : Array Value} (h : Mg w0 gN v m g D W) (D2 : Array Value) : Mg w0 gN v m g D2 (W.setRow g D2) :=
  ⟨h.1.set h.2.2.1 h.2.2.2.1 h.2.2.2.2 D2, setRow_heap _ _ _ _ _ _ h.2.1, h.2.2⟩
theorem Mg.cell {w0 W : World} {gN g : Nat} {v : Value} {m : List Nd} {D : Array Value} (h : Mg w0 gN v m g D W) (j : Nat) (x : Value) (hx : D[j]? = some x) : W.cell? ⟨g, j, none⟩ = some x := (cell_of_row W g j D 55 (0, 0) h.2.1).trans hx
end Go.Proofs.Ytglipljilcdboaa
