/- Several texts, one behind the other; each says by itself what it proves, and on what conditions. -/
import Derived.Test.YtglipljilcdboaaU23
/- Pack of the document. Its condition: lengths that fit. -/
namespace Go.Proofs.Ytglipljilcdboaa
open Go.RowKit Go.Shelf
set_option linter.unusedVariables false
set_option linter.unusedSimpArgs false
/-- A text with its error. -/
def textV (s : List UInt8) (e : Int) : Value := .agg #[strV s, .int .i64 e]
def packV (l : List Nd) : Value := match packL l with
  | some s => textV s 0
  | none => textV [] 1
def txtA (S : ByteArray) (e : Int) : Array Value := #[.string S, .int .i64 e]
theorem size29 (S : ByteArray) (e : Int) : (Try.prog.info? 39).map (·.size) = some [Value.string S, Value.int .i64 e].length := by kernel_rfl
theorem txtOne (S : ByteArray) (e : Int) : ∀ v ∈ [Value.string S, Value.int .i64 e], v.oneCell' = true := by
  intro v hv
  simp at hv
  rcases hv with rfl | rfl <;> rfl
theorem load29 {W : World} {g : Nat} (S : ByteArray) (e : Int) {t : TypeId} (hg : W.heap[g]? = some (.cells (txtA S e) t (0, 0))) : (loadVar 39 ⟨g, 0, none⟩).run Try.prog W = .ok (.agg (txtA S e)) W :=
  R.run_loadVar_seg W 39 g 0 [.string S, .int .i64 e] _ (fun j v hv => by rw [Nat.zero_add, cell_of_row W g j _ t (0, 0) hg, show txtA S e = [Value.string S, Value.int .i64 e].toArray from rfl, List.getElem?_toArray, hv]) Try.underlying39 rfl (size29 S e)
theorem exec_store29 {ρ : Operand → Value} {o : Oper} (w : World) (x y : Operand) (ho : o.op = .store 39 x y) (g : Nat) (hx : ρ x = .pointer (some ⟨g, 0, none⟩)) (S : ByteArray) (e : Int) (hy : ρ y = .agg (txtA S e)) (cur : Array Value) (t : TypeId)
    (hg : w.heap[g]? = some (.cells cur t (0, 0))) (h2 : cur.size = 2) : (execOp ρ o).run Try.prog w = .ok .skip (w.setRow g (txtA S e)) := by
  have h := R.exec_store_seg (P := Try.prog) (ρ := ρ) (o := o) w 39 x y ho g 0 hx [.string S, .int .i64 e] hy cur t hg (by simp; omega) (txtOne S e) (size29 S e)
  rwa [R.splice_all _ _ (by simp; exact h2)] at h
theorem Bx.set {w W : World} {g : Nat} {D : Array Value} {t : TypeId} (h : Bx w g D t W) (hg : w.heap.size ≤ g) (D2 : Array Value) : Bx w g D2 t (W.setRow g D2) :=
  ⟨h.1.trans ⟨rfl, rfl, rfl, by simp, fun k hk => setRow_other _ _ _ _ (by omega)⟩, setRow_heap _ _ _ _ _ _ h.2⟩
set_option maxRecDepth 100000 in
set_option maxHeartbeats 2000000 in
theorem pack_pos (b o cap : Nat) (d : Nd) (r : List Nd) (hl : r.length + 1 ≤ 100000) (hp : ∀ c ∈ d :: r, c.path.length ≤ 1000000) (hd : ∀ c ∈ d :: r, c.data.length ≤ 1000000) (hcost : costs (d :: r) ≤ 100000000000000) (w : World) (hN : Nodes w b o (d :: r)) :
    Calls Try.prog 18 #[slV b o (r.length + 1) cap] w fun e w' => e = .returned (packV (d :: r)) ∧ Below w.heap.size w w' := by
  have HN := Lib.hid hN
  have HM : Hid (∀ w, Nodes w b o (d :: r) → Calls Try.prog 29 #[slV b o (r.length + 1) cap] w fun e w' => e = .returned (.bool (mayL (d :: r))) ∧ Below w.heap.size w w') := Lib.hid (fun w hw => may_pos b o cap d r hl hp hd w hw)
  obtain ⟨V, hV⟩ : ∃ x, Hid (x = packV (d :: r)) := ⟨_, Lib.hid rfl⟩
  rw [← hV.out]
  unfold slV at HM ⊢
  go_enter Try.func18, Try.ntmps18
  have hmag : Hid (∀ (W : World) (bk : Nat), W.heap[bk]? = some (.cells #[.string { data := #[110, 105, 120, 45, 97, 114, 99, 104, 105, 118, 101, 45, 49] }] 9 (0, 0)) → Calls Try.prog 31 #[.slice (some ⟨bk, 0, none⟩) 1 1] W fun e w' => e = .returned (strV (strL tMagic)) ∧ Below W.heap.size W w') := Lib.hid (fun W bk hr => by
    have h := strs_any bk [tMagic] 1 rfl (by omega) (by decide) (by decide) W hr
    rw [strsL_cons, strsL_nil, List.append_nil] at h
    exact h)
  obtain ⟨mg, hmg⟩ : ∃ x : ByteArray, Hid (x = ⟨(strL tMagic).toArray⟩) := ⟨_, Lib.hid rfl⟩
  have hmgs : mg.size = 24 := by rw [hmg.out]; rfl
  rw [show strV (strL tMagic) = .string mg by rw [hmg.out]; rfl] at hmag
  obtain ⟨X, hX⟩ : ∃ x : ByteArray, Hid (x = ⟨(bytU (fuelN r) d r).1.toArray⟩) := ⟨_, Lib.hid rfl⟩
  obtain ⟨q, hq⟩ : ∃ x : Nat, Hid (x = placeU (d :: r) (bytU (fuelN r) d r).2) := ⟨_, Lib.hid rfl⟩
  have HNd : Hid (∀ w, Nodes w b o (d :: r) → Calls Try.prog 30 #[.slice (some ⟨b, o, none⟩) (r.length + 1) cap, .int .i64 0] w fun e w' => e = .returned (.tuple #[.string X, .int .i64 (q : Int)]) ∧ Below w.heap.size w w') := Lib.hid (fun w hw => by
    have h := node_any b o cap (d :: r) hl hp hd hcost (r.length + 1) 0 (by simp) (by simp) w hw
    rw [show nodeR (d :: r) 0 (by simp) = .tuple #[.string X, .int .i64 (q : Int)] by rw [hX.out, hq.out]; rfl] at h
    exact h)
  have hXs : X.size ≤ 1000000000000000 := by
    have h1 := (byt_cost (fuelN r)).1 d r
    have h2 := hd d (by simp)
    rw [costs_cons] at hcost
    unfold costB at h1
    rw [hX.out]
    show (bytU (fuelN r) d r).1.length ≤ _
    omega
  obtain ⟨Y, hY⟩ : ∃ x : ByteArray, Hid (x = mg ++ X) := ⟨_, Lib.hid rfl⟩
  have hYe : mg ++ X = Y := hY.out.symm
  have hYz : (mg ++ X).size = mg.size + X.size := ByteArray.size_append
  have hx1 : Hid (Bx w w.heap.size #[.string { data := #[] }, .int .i64 0] 39 (w.alloc (.cells #[.string { data := #[] }, .int .i64 0] 39))) := Lib.hid ⟨(Below.refl _ w).alloc (Nat.le_refl _) _, row_new w _ 39⟩
  obtain ⟨g, hg⟩ : ∃ g, Hid (g = w.heap.size) := ⟨_, Lib.hid rfl⟩
  have hgle : w.heap.size ≤ g := by rw [hg.out]; exact Nat.le_refl _
  clear hN hp hd hcost
  go_wp2_with fail
  rw [← hg.out] at hx1 ⊢
  generalize w.alloc (.cells #[.string { data := #[] }, .int .i64 0] 39) = W1 at *
  have hN1 := Lib.hid (HN.out.below (W2 := W1) hx1.out.1)
  with_reducible refine (HM.out _ hN1.out).mono ?_
  rintro e w2 ⟨rfl, hb⟩
  have HX2 := Lib.hid (hx1.out.below hb)
  clear hb hx1 HM hN1
  cases hm : mayL (d :: r)
  · have hz : Hid (V = .agg (txtA { data := #[] } 1)) := Lib.hid (by rw [hV.out]; unfold packV packL; rw [hm]; rfl)
    go_wp2_with (refine R.wpList_run0 rfl (exec_store29 _ (.tmp 2) (.tmp 8) rfl g rfl { data := #[] } 1 rfl _ 39 HX2.out.2 rfl) ?_)
    have HX3 := HX2.out.set hgle (txtA { data := #[] } 1)
    exact bodyPost_ret (R.results_cell rfl _ _ _ ⟨g, 0, none⟩ rfl _ (load29 _ _ HX3.2)) rfl ⟨by rw [hz.out], HX3.1⟩
  · have hz : Hid (V = .agg (txtA Y 0)) := Lib.hid (by
      rw [hV.out]
      unfold packV packL
      rw [hm, hY.out, hmg.out, hX.out, strV_cat]
      rfl)
    go_wp2_with fail
    have hN2 := Lib.hid (HN.out.below (W2 := w2) HX2.out.1)
    with_reducible refine (HNd.out _ hN2.out).mono ?_
    rintro e w3 ⟨rfl, hb⟩
    have HX3 := Lib.hid (HX2.out.below hb)
    clear hb HX2 HNd hN2
    go_wp2_with fail
    have hx4 := Lib.hid (HX3.out.alloc (.cells #[.string { data := #[110, 105, 120, 45, 97, 114, 99, 104, 105, 118, 101, 45, 49] }] 9))
    with_reducible refine (hmag.out _ _ (row_new w3 _ 9)).mono ?_
    rintro e w4 ⟨rfl, hb⟩
    have HX4 := Lib.hid (hx4.out.below hb)
    clear hb hx4 HX3 hmag
    go_wp2_with (refine R.wpList_run0 rfl (exec_store29 _ (.tmp 2) (.tmp 18) rfl g rfl Y 0 rfl _ 39 HX4.out.2 rfl) ?_)
    have HX5 := HX4.out.set hgle (txtA Y 0)
    exact bodyPost_ret (R.results_cell rfl _ _ _ ⟨g, 0, none⟩ rfl _ (load29 _ _ HX5.2)) rfl ⟨by rw [hz.out], HX5.1⟩
end Go.Proofs.Ytglipljilcdboaa
/- Same of the document: whether two lists of nodes are alike. Its condition: lengths that fit. -/
namespace Go.Proofs.Ytglipljilcdboaa
open Go.RowKit Go.Shelf
set_option linter.unusedVariables false
set_option linter.unusedSimpArgs false
def sameN (c d : Nd) : Bool := decide (c.path = d.path) && (decide (c.kind = d.kind) && decide (c.data = d.data))
def sameL : List Nd → List Nd → Bool
  | [], [] => true
  | c :: l, d :: m => sameN c d && sameL l m
  | _, _ => false
set_option maxRecDepth 100000 in
set_option maxHeartbeats 2000000 in
theorem eq42 (P D P2 D2 : ByteArray) (k k2 : Int) (w : World) : (Op.equalIn 10000 55 (.agg #[.string P, .int .i64 k, .string D]) (.agg #[.string P2, .int .i64 k2, .string D2])).run Try.prog w = .ok (P.toList == P2.toList && (k == k2 && D.toList == D2.toList)) w := by
  have u1 := Try.underlying55
  have u2 := Try.underlying9
  have u3 := Try.underlying3
  rw [show (10000 : Nat) = 9999 + 1 from rfl, Op.equalIn]
  simp only [Sem.run_bind, run_underlying Try.underlying55, Result.andThen_ok]
  go_simp
  by_cases h1 : P.toList = P2.toList <;> by_cases h2 : k = k2 <;> by_cases h3 : D.toList = D2.toList <;> simp [h1, h2, h3]
theorem same_len : ∀ l m : List Nd, l.length ≠ m.length → sameL l m = false
  | [], [], h => absurd rfl h
  | [], _ :: _, _ => rfl
  | _ :: _, [], _ => rfl
  | c :: l, d :: m, h => by
    rw [sameL, same_len l m (by simpa using h), Bool.and_false]
theorem same_drop (l m : List Nd) (k : Nat) (h : k < l.length) (h2 : k < m.length) : sameL (l.drop k) (m.drop k) = (sameN l[k] m[k] && sameL (l.drop (k + 1)) (m.drop (k + 1))) := by
  rw [List.drop_eq_getElem_cons h, List.drop_eq_getElem_cons h2, sameL]
theorem same_iff : ∀ l m : List Nd, sameL l m = true ↔ l = m
  | [], [] => by simp [sameL]
  | [], _ :: _ => by simp [sameL]
  | _ :: _, [] => by simp [sameL]
  | c :: l, d :: m => by
    rw [sameL, Bool.and_eq_true, same_iff l m]
    have hc : sameN c d = true ↔ c = d := by
      unfold sameN
      simp only [Bool.and_eq_true, decide_eq_true_eq]
      constructor
      · rintro ⟨h1, h2, h3⟩; exact Nd.ext' h1 h2 h3
      · rintro rfl; exact ⟨rfl, rfl, rfl⟩
    rw [hc, List.cons.injEq]
set_option maxRecDepth 100000 in
set_option maxHeartbeats 2000000 in
theorem same_any (b o cap b2 o2 cap2 : Nat) (l m : List Nd) (hl : l.length ≤ 9223372036854775807) (hm : m.length ≤ 9223372036854775807) (w : World) (hN : Nodes w b o l) (hN2 : Nodes w b2 o2 m) :
    Calls Try.prog 14 #[slV b o l.length cap, slV b2 o2 m.length cap2] w fun e w' => e = .returned (.bool (sameL l m)) ∧ Below w.heap.size w w' := by
  have HN := Lib.hid hN
  have HM := Lib.hid hN2
  clear hN hN2
  obtain ⟨B, hB⟩ : ∃ B, Hid (B = sameL l m) := ⟨_, Lib.hid rfl⟩
  rw [← hB.out]
  unfold slV
  by_cases he : l.length = m.length
  · obtain ⟨n, hn⟩ : ∃ n, Hid (n = l.length) := ⟨_, Lib.hid rfl⟩
    have hn2 : Hid (n = m.length) := Lib.hid (hn.out.trans he)
    rw [← he, ← hn.out]
    rw [← hn.out] at hl
    clear he hm
    go_enter Try.func14, Try.ntmps14
    go_wp2_with fail
    go_loopw [5] (fun x wr => ∃ k : Nat, k ≤ n ∧ x = .int .i64 (k : Int) ∧ B = sameL (l.drop k) (m.drop k) ∧ Below w.heap.size w wr) (fun x _ => n - (intOf x).toNat)
    case atStart => exact ⟨0, Nat.zero_le _, rfl, hB.out, Below.refl _ w⟩
    case round =>
      obtain ⟨k, hk, rfl, hinv, hb⟩ := hrel
      have HI := Lib.hid hinv
      have HBr := Lib.hid hb
      clear hinv hb
      by_cases hlt : k < n
      · have hltI : (k : Int) < (n : Int) := by omega
        have hkl : k < l.length := by have := hn.out; omega
        have hkm : k < m.length := by have := hn2.out; omega
        have a0 := ((HN.out.below (W2 := wr) HBr.out).2 k hkl)
        have a1 := ((HM.out.below (W2 := wr) HBr.out).2 k hkm)
        have hst := Lib.hid (same_drop l m k hkl hkm)
        rw [← HI.out] at hst
        obtain ⟨c, hc⟩ : ∃ c, Hid (c = l[k]) := ⟨_, Lib.hid rfl⟩
        obtain ⟨d, hd⟩ : ∃ c, Hid (c = m[k]) := ⟨_, Lib.hid rfl⟩
        rw [← hc.out] at a0 hst
        rw [← hd.out] at a1 hst
        obtain ⟨c0, c1, c2⟩ := a0
        obtain ⟨d0, d1, d2⟩ := a1
        obtain ⟨P, hP⟩ : ∃ x : ByteArray, Hid (x = ⟨c.path.toArray⟩) := ⟨_, Lib.hid rfl⟩
        obtain ⟨D, hD⟩ : ∃ x : ByteArray, Hid (x = ⟨c.data.toArray⟩) := ⟨_, Lib.hid rfl⟩
        obtain ⟨P2, hP2⟩ : ∃ x : ByteArray, Hid (x = ⟨d.path.toArray⟩) := ⟨_, Lib.hid rfl⟩
        obtain ⟨D2, hD2⟩ : ∃ x : ByteArray, Hid (x = ⟨d.data.toArray⟩) := ⟨_, Lib.hid rfl⟩
        rw [show strV c.path = .string P by rw [hP.out]; rfl] at c0
        rw [show strV c.data = .string D by rw [hD.out]; rfl] at c2
        rw [show strV d.path = .string P2 by rw [hP2.out]; rfl] at d0
        rw [show strV d.data = .string D2 by rw [hD2.out]; rfl] at d2
        obtain ⟨q, hq⟩ : ∃ q, Hid (q = sameN c d) := ⟨_, Lib.hid rfl⟩
        have hE : ∀ w, (Op.equalIn 10000 55 (.agg #[.string P, .int .i64 c.kind, .string D]) (.agg #[.string P2, .int .i64 d.kind, .string D2])).run Try.prog w = .ok q w := fun w => by
          rw [eq42]
          congr 1
          rw [hq.out, ByteArray.toList_eq, ByteArray.toList_eq, ByteArray.toList_eq, ByteArray.toList_eq, hP.out, hD.out, hP2.out, hD2.out]
          unfold sameN
          by_cases h1 : c.path = d.path <;> by_cases h2 : c.kind = d.kind <;> by_cases h3 : c.data = d.data <;> simp [h1, h2, h3]
        rw [← hq.out] at hst
        clear hP hD hP2 hD2 hc hd hq hkl hkm
        cases q
        · rw [Bool.false_and] at hst
          go_wp2_with fail
          go_region
          go_wp2_with fail
          go_ret
          exact ⟨by rw [hst.out]; rfl, HBr.out.drew⟩
        · rw [Bool.true_and] at hst
          go_wp2_with fail
          go_region
          go_wp2_with fail
          refine ⟨⟨k + 1, by omega, by first | rfl | simp | go_num, hst.out, HBr.out.drew⟩, ?_⟩
          simp [intOf] <;> omega
      · have hltI : ¬ (k : Int) < (n : Int) := by omega
        have hz : Hid (B = true) := Lib.hid (by
          rw [HI.out, List.drop_of_length_le (by have := hn.out; omega), List.drop_of_length_le (by have := hn2.out; omega)]
          rfl)
        go_wp2_with fail
        go_ret
        exact ⟨by rw [hz.out]; rfl, HBr.out⟩
  · have heI : ¬ (l.length : Int) = (m.length : Int) := by omega
    have hz : Hid (B = false) := Lib.hid (by rw [hB.out, same_len l m he])
    clear he
    go_enter Try.func14, Try.ntmps14
    go_wp2_with fail
    go_ret
    exact ⟨by rw [hz.out]; rfl, Below.refl _ _⟩
end Go.Proofs.Ytglipljilcdboaa
/- Hints for the statements: Get of both, Same, Err, Pack of one file; awake. Their conditions: lengths that fit. -/
namespace Go.Proofs.Ytglipljilcdboaa
open Go.RowKit Go.Shelf
set_option linter.unusedVariables false
set_option linter.unusedSimpArgs false
section
open E
theorem ent11 : Enters Try.prog 11 := enters_of Try.func11 (by kernel_rfl) rfl
theorem ent12 : Enters Try.prog 12 := enters_of Try.func12 (by kernel_rfl) rfl
theorem ent13 : Enters Try.prog 13 := enters_of Try.func13 (by kernel_rfl) rfl
theorem ent14 : Enters Try.prog 14 := enters_of Try.func14 (by kernel_rfl) rfl
theorem ent15 : Enters Try.prog 15 := enters_of Try.func15 (by kernel_rfl) rfl
theorem ent18 : Enters Try.prog 18 := enters_of Try.func18 (by kernel_rfl) rfl
theorem nodes_of {ρ : Env} {r : Nat} {L : List Nd} {w : World} (h : RowAt ρ r (rowN L L.length) w) : Nodes w (ρ r).1 0 L := by
  have z := rowN_z h
  refine ⟨h.1, fun i hi => ?_⟩
  have hc : ∀ c, c < 3 → w.cell? ⟨(ρ r).1, i * 3 + c, none⟩ = (ndc L i)[c]? := fun c hc => by
    have hg : (lst ρ (rowN L L.length).ps)[i * 3 + c]? = (ndc L i)[c]? := by
      rw [lst_fnc, flat_get (f := ndc L) (k := 3) (by decide) L.length (fun _ _ => rfl) (i * 3 + c) (by omega)]
      rw [show (i * 3 + c) / 3 = i by omega, show (i * 3 + c) % 3 = c by omega]
    have hv : (ndc L i)[c]? = some ((ndc L i).getD c undef) := by
      rw [List.getD_eq_getElem?_getD]
      cases hq : (ndc L i)[c]? with
      | some v => rfl
      | none => rw [List.getElem?_eq_none_iff] at hq; simp at hq; omega
    have := (h.2.1 (i * 3 + c) _ (hg.trans hv)).1
    rw [z, Nat.zero_add] at this
    rw [this, hv]
  have e := ndf_at L i hi
  refine ⟨?_, ?_, ?_⟩
  · rw [show 0 + i * 3 = i * 3 + 0 by omega, hc 0 (by decide), ← e]; rfl
  · rw [show 0 + i * 3 + 1 = i * 3 + 1 by omega, hc 1 (by decide), ← e]; rfl
  · rw [show 0 + i * 3 + 2 = i * 3 + 2 by omega, hc 2 (by decide), ← e]; rfl
abbrev hP0 (id : Nat) (s : List UInt8) (L : List Nd) : Hint := .call ⟨12, fun _ => #[stv s], .tup [.lf (slN id L.length), .lf (.v (.int .i64 0))], [], [], some (rowN L L.length), []⟩
abbrev hP1 (s : List UInt8) (e : Int) : Hint := .call ⟨12, fun _ => #[stv s], .tup [.lf (.v nilS), .lf (.v (.int .i64 e))], [], [], none, []⟩
abbrev hR0 (id : Nat) (s : List UInt8) (L : List Nd) : Hint := .call ⟨13, fun _ => #[stv s], .s (.agg [.one (slN id L.length), .one (.v (.int .i64 0))]), [], [], some (rowN L L.length), []⟩
abbrev hR1 (s : List UInt8) (e : Int) : Hint := .call ⟨13, fun _ => #[stv s], .s (.agg [.one (.v nilS), .one (.v (.int .i64 e))]), [], [], none, []⟩
theorem hP0_ok (id : Nat) {s : List UInt8} {L : List Nd} (hs : s.length ≤ 100000000000) (h : getL s = (L, 0)) : HintOk Try.prog id (hP0 id s L) := by
  refine call_ok ent12 (fun x hx => by simp only [List.mem_cons, List.not_mem_nil, or_false] at hx; rcases hx with rfl | rfl <;> first | trivial | rfl) (fun p hp => by cases hp) fun ρ w hr => (pget_any s hs w).mono ?_
  rintro e w' (⟨_, B, rfl, h0, hf, hb, hrow⟩ | ⟨h1, _⟩)
  · rw [h] at hrow
    refine ⟨B, ?_, hf, (fun p hp => by cases hp), fun row hrw => ?_⟩
    · rw [h]
      show _ = Ending.returned (.tuple #[.slice (some ⟨(setE ρ id B id).1, (setE ρ id B id).2 + (0 + 0 * 3), none⟩) L.length ((setE ρ id B id).3 - 0), .int .i64 0])
      rw [setE_same, h0]
      rfl
    · cases hrw
      exact ⟨hb, rowAt_mv hrow (setE_same ρ id B), rowN_ok _ _⟩
  · rw [h] at h1; exact absurd rfl h1
theorem hR0_ok (id : Nat) {s : List UInt8} {L : List Nd} (hs : s.length ≤ 100000000000) (h : getL s = (L, 0)) : HintOk Try.prog id (hR0 id s L) := by
  refine call_ok ent13 (fun x hx => by simp only [List.mem_cons, List.not_mem_nil, or_false] at hx; rcases hx with rfl | rfl <;> first | trivial | rfl) (fun p hp => by cases hp) fun ρ w hr => (rget_any s (by omega) w).mono ?_
  rintro e w' (⟨_, B, rfl, h0, hf, hb, hrow⟩ | ⟨h1, _⟩)
  · rw [h] at hrow
    refine ⟨B, ?_, hf, (fun p hp => by cases hp), fun row hrw => ?_⟩
    · rw [h]
      show _ = Ending.returned (.agg #[.slice (some ⟨(setE ρ id B id).1, (setE ρ id B id).2 + (0 + 0 * 3), none⟩) L.length ((setE ρ id B id).3 - 0), .int .i64 0])
      rw [setE_same, h0]
      rfl
    · cases hrw
      exact ⟨hb, rowAt_mv hrow (setE_same ρ id B), rowN_ok _ _⟩
  · rw [h] at h1; exact absurd rfl h1
theorem hP1_ok (id : Nat) {s : List UInt8} {e : Int} (hs : s.length ≤ 100000000000) (h : getL s = ([], e)) (he : e ≠ 0) : HintOk Try.prog id (hP1 s e) := by
  refine call_ok ent12 (fun x hx => by simp only [List.mem_cons, List.not_mem_nil, or_false] at hx; rcases hx with rfl | rfl <;> rfl) (fun p hp => by cases hp) fun ρ w hr => (pget_any s hs w).mono ?_
  rintro en w' (⟨h1, _⟩ | ⟨_, _, rfl, hf⟩)
  · rw [h] at h1; exact absurd h1 he
  · rw [h]
    exact ⟨⟨0, 0, 0⟩, rfl, hf, (fun p hp => by cases hp), fun row hrw => by cases hrw⟩
theorem hR1_ok (id : Nat) {s : List UInt8} {e : Int} (hs : s.length ≤ 100000000000) (h : getL s = ([], e)) (he : e ≠ 0) : HintOk Try.prog id (hR1 s e) := by
  refine call_ok ent13 (fun x hx => by simp only [List.mem_cons, List.not_mem_nil, or_false] at hx; rcases hx with rfl | rfl <;> rfl) (fun p hp => by cases hp) fun ρ w hr => (rget_any s (by omega) w).mono ?_
  rintro en w' (⟨h1, _⟩ | ⟨_, _, rfl, hf⟩)
  · rw [h] at h1; exact absurd h1 he
  · rw [h]
    exact ⟨⟨0, 0, 0⟩, rfl, hf, (fun p hp => by cases hp), fun row hrw => by cases hrw⟩
abbrev hSm (r1 r2 : Nat) (L M : List Nd) : Hint := pr 14 (fun ρ => #[(TV.s (.lf (slN r1 L.length))).val ρ, (TV.s (.lf (slN r2 M.length))).val ρ]) (.v (.bool (sameL L M))) [(r1, rowN L L.length), (r2, rowN M M.length)]
theorem hSm_ok (id r1 r2 : Nat) (L M : List Nd) (hL : L.length ≤ 100000) (hM : M.length ≤ 100000) : HintOk Try.prog id (hSm r1 r2 L M) := by
  refine pr_ok ent14 (v := .bool (sameL L M)) rfl (fun _ => rfl) fun ρ w h => ?_
  have h1 := h (r1, rowN L L.length) (by simp)
  have h2 := h (r2, rowN M M.length) (by simp)
  have z1 := rowN_z h1
  have z2 := rowN_z h2
  have e1 : (TV.s (.lf (slN r1 L.length))).val ρ = slV (ρ r1).1 0 L.length (ρ r1).3 := slN_val rfl z1
  have e2 : (TV.s (.lf (slN r2 M.length))).val ρ = slV (ρ r2).1 0 M.length (ρ r2).3 := slN_val rfl z2
  rw [e1, e2]
  exact same_any _ _ _ _ _ _ L M (by omega) (by omega) w (nodes_of h1) (nodes_of h2)
set_option maxRecDepth 100000 in
theorem same_nil (w : World) : Calls Try.prog 14 #[nilS, nilS] w fun e w' => e = .returned (.bool true) ∧ Below w.heap.size w w' := by
  refine At.calls (args := [.v nilS, .v nilS]) (rows := []) (gl := []) (wr := []) (ρ := fun _ => (⟨0, 0, 0⟩ : Blk)) Try.func14 rfl rfl (init_rw ⟨rfl, rfl, trivial⟩ rfl rfl rfl (fun p hp => by cases hp) (fun p hp => by cases hp) (fun p hp => by cases hp)) rfl ?_
  exact At.fin rfl [] trivial [.n, .u, .n] (x := .v (.bool true)) (ob := [false = false, false = false]) (by kernel_rfl) ⟨rfl, rfl, trivial⟩ fun ρ' w' hf _ => ⟨rfl, hf.below⟩
abbrev hSm0 : Hint := pc 14 #[nilS, nilS] (.v (.bool true))
theorem hSm0_ok (id : Nat) : HintOk Try.prog id hSm0 := pc_ok ent14 (v := .bool true) rfl (fun _ => rfl) fun w => same_nil w
set_option maxRecDepth 100000 in
theorem err_any (e : Int) (w : World) : Calls Try.prog 15 #[.int .i64 e] w fun en w' => en = .returned (.int .i64 e) ∧ Below w.heap.size w w' := by
  refine At.calls (args := [.int .i64 e]) (rows := []) (gl := []) (wr := []) (ρ := fun _ => (⟨0, 0, 0⟩ : Blk)) Try.func15 rfl rfl (init_rw ⟨rfl, trivial⟩ rfl rfl rfl (fun p hp => by cases hp) (fun p hp => by cases hp) (fun p hp => by cases hp)) rfl ?_
  exact At.fin rfl [] trivial [] (x := .int .i64 e) (ob := []) (by kernel_rfl) trivial fun ρ' w' hf _ => ⟨rfl, hf.below⟩
abbrev hEr (e : Int) : Hint := pc 15 #[.int .i64 e] (.int .i64 e)
theorem hEr_ok (id : Nat) (e : Int) : HintOk Try.prog id (hEr e) := pc_ok ent15 (v := .int .i64 e) rfl (fun _ => rfl) fun w => err_any e w
end
end Go.Proofs.Ytglipljilcdboaa
/- The statements: awake; ParseAll. Their condition: lengths that fit. -/
namespace Go.Proofs.Ytglipljilcdboaa
open Go.RowKit Go.Shelf
set_option linter.unusedVariables false
set_option linter.unusedSimpArgs false
section
open E
abbrev awL : List Nd := [⟨[], 2, [120]⟩]
abbrev awR : Row := ⟨[.fnc (chunkF [stv [], .int .i64 2, stv [120]] 3 1) 3 1], true, some (55, 3)⟩
abbrev awT : List UInt8 := treeL awL
theorem aw_get0 : getL [] = ([], 5) := by kernel_rfl
theorem aw_get : getL awT = (awL, 0) := by kernel_rfl
theorem aw_len : awT.length ≤ 1000 := by decide +kernel
abbrev hPk : Hint := pr 18 (fun ρ => #[(TV.s (.lf (.sl 3001 0 0 3 1 none))).val ρ]) (.s (.agg [.one (.v (stv awT)), .one (.v (.int .i64 0))])) [(3001, awR)]
theorem hPk_ok : HintOk Try.prog 3002 hPk := by
  refine pr_ok ent18 (v := .agg #[stv awT, .int .i64 0]) (fun p hp => ?_) (fun _ => rfl) fun ρ w h => ?_
  · simp only [List.mem_cons, List.not_mem_nil, or_false] at hp
    rcases hp with rfl | rfl <;> rfl
  have h1 := h (3001, awR) (by simp)
  have h2 : RowAt ρ 3001 (rowN awL awL.length) w := row_eq h1 rfl fun i hi => by
    obtain rfl : i = 0 := by omega
    rfl
  have z := rowN_z h2
  have e1 : (TV.s (.lf (.sl 3001 0 0 3 1 none))).val ρ = slV (ρ 3001).1 0 1 (ρ 3001).3 := by
    show Value.slice (some ⟨(ρ 3001).1, (ρ 3001).2 + (0 + 0 * 3), none⟩) 1 ((ρ 3001).3 - 0) = _
    rw [z]; rfl
  rw [e1]
  refine (pack_pos _ 0 _ ⟨[], 2, [120]⟩ [] (by decide) (fun c hc => by simp at hc; subst hc; decide) (fun c hc => by simp at hc; subst hc; decide) (by decide +kernel) w (nodes_of h2)).mono ?_
  rintro e w' ⟨rfl, hb⟩
  exact ⟨by kernel_rfl, hb⟩
abbrev hAw : Hint := pc 11 #[] (.v (.bool true))
set_option maxRecDepth 100000 in
theorem awake_any (w : World) : Calls Try.prog 11 #[] w fun e w' => e = .returned (.bool true) ∧ Below w.heap.size w w' := by
  refine At.calls (args := []) (rows := []) (gl := []) (wr := []) (ρ := fun _ => (⟨0, 0, 0⟩ : Blk)) Try.func11 rfl rfl (init_rw trivial rfl rfl rfl (fun p hp => by cases hp) (fun p hp => by cases hp) (fun p hp => by cases hp)) rfl ?_
  have k1 : HintOk Try.prog 2000 (hP1 [] 5) := hP1_ok _ (by decide) aw_get0 (by decide)
  have k2 : HintOk Try.prog 3004 (hP0 3004 awT awL) := hP0_ok _ (Nat.le_trans aw_len (by decide)) aw_get
  exact At.fin rfl [(2000, hP1 [] 5), (3002, hPk), (3004, hP0 3004 awT awL), (4001, hEr 5), (4005, hEr 0)] ⟨k1, hPk_ok, k2, hEr_ok _ _, hEr_ok _ _, trivial⟩ [] (x := .v (.bool true)) (ob := [qL (hP1 [] 5), qL hPk, qL (hP0 3004 awT awL), qL (hEr 5), qL (hEr 0), [(0 : Int) ≤ 0 ∧ (0 : Int) < ((awL.length : Nat) : Int), (0 : Nat) < 1, (0 : Int) ≤ 0 ∧ (0 : Int) < ((awL.length : Nat) : Int), (0 : Nat) < 1]].flatten) (by kernel_rfl) (all_flat ⟨all_qL _, all_qL _, all_qL _, all_qL _, all_qL _, ⟨⟨by decide, by decide⟩, by decide, ⟨by decide, by decide⟩, by decide, trivial⟩, trivial⟩) fun ρ' w' hf _ => ⟨rfl, hf.below⟩
theorem hAw_ok (id : Nat) : HintOk Try.prog id hAw := pc_ok ent11 (v := .bool true) rfl (fun _ => rfl) fun w => awake_any w
abbrev hSmT (r1 r2 : Nat) (L : List Nd) : Hint := pr 14 (fun ρ => #[(TV.s (.lf (slN r1 L.length))).val ρ, (TV.s (.lf (slN r2 L.length))).val ρ]) (.v (.bool true)) [(r1, rowN L L.length), (r2, rowN L L.length)]
theorem hSmT_ok (id r1 r2 : Nat) (L : List Nd) (hL : L.length ≤ 100000) : HintOk Try.prog id (hSmT r1 r2 L) := by
  have h := hSm_ok id r1 r2 L L hL hL
  unfold hSm at h
  rw [show sameL L L = true from (same_iff L L).2 rfl] at h
  exact h
theorem cut_most {m : Nat} {r s x : List UInt8} (h : cutT m r = .ok s x) : s.length ≤ m := by
  unfold cutT at h
  split at h
  · cases h
  · split at h
    · cases h
    · split at h
      · cases h
      · split at h
        · cases h
          rw [List.length_take]; omega
        · cases h
theorem good_run : ∀ (n : Nat) (t : TS) (r : List UInt8) (t' : TS) (b : List UInt8), r.length ≤ n → Good t → runM t r = some (t', b) → Good t'
  | n, t, r, t', b, hn, hg, h => by
    by_cases hr : r = []
    · subst hr; rw [runM_nil] at h; cases h; exact hg
    · cases hm : mostM t.pl with
      | none => rw [runM_none hr hm] at h; cases h
      | some m =>
        cases hc : cutT m r with
        | more => rw [runM_more hm hc] at h; cases h; exact hg
        | form => rw [runM_form hr hm hc] at h; cases h
        | ok s rest =>
          rw [runM_ok hm hc] at h
          cases ht : takeM t s with
          | none => rw [ht] at h; cases h
          | some t2 =>
            rw [ht] at h
            have hl := cut_ok_len hc
            cases n with
            | zero => omega
            | succ n =>
              refine good_run n t2 rest t' b (by omega) (good_take hg (fun h14 => ?_) ht) h
              have := cut_most hc
              rw [h14, most_14] at hm
              cases hm
              exact this
/-- What a Get tells is a list or an error, not both. -/
theorem getL_cases (s : List UInt8) : (∃ L, getL s = (L, 0) ∧ L.length ≤ 256) ∨ (∃ e, getL s = ([], e) ∧ e ≠ 0) := by
  unfold getL finR
  cases h : runM t0 s with
  | none => exact .inr ⟨4, rfl, by decide⟩
  | some r =>
    obtain ⟨t, b⟩ := r
    unfold finM
    by_cases h17 : t.pl = 17
    · simp only [h17, if_true]
      exact .inl ⟨t.nodes, rfl, (good_run _ t0 s t b (Nat.le_refl _) good_t0 h).n⟩
    · simp only [h17, if_false]
      exact .inr ⟨5, rfl, by decide⟩
set_option maxRecDepth 100000 in
theorem all_any (s : List UInt8) (w : World) : Calls Try.prog 3 #[stv s] w fun e w' => e = .returned (.bool true) ∧ Below w.heap.size w w' := by
  refine At.calls (args := [.v (stv s)]) (rows := []) (gl := []) (wr := []) (ρ := fun _ => (⟨0, 0, 0⟩ : Blk)) Try.func3 rfl rfl (init_rw ⟨rfl, trivial⟩ rfl rfl rfl (fun p hp => by cases hp) (fun p hp => by cases hp) (fun p hp => by cases hp)) rfl ?_
  by_cases h6 : 6000 < s.length
  · exact At.fin rfl [(3000, hAw)] ⟨hAw_ok _, trivial⟩ [.y] (x := .v (.bool true)) (ob := [[decide ((s.length : Int) > 6000) = true], qL hAw].flatten) (by kernel_rfl) (all_flat ⟨⟨decide_eq_true (by omega), trivial⟩, all_qL _, trivial⟩) fun ρ' w' hf _ => ⟨rfl, hf.below⟩
  have h60 : decide ((s.length : Int) > 6000) = false := decide_eq_false (by omega)
  have hs : s.length ≤ 100000000000 := by omega
  rcases getL_cases s with ⟨L, hL, hn⟩ | ⟨e, hE, he⟩
  · exact At.fin rfl [(4001, hP0 4001 s L), (5001, hR0 5001 s L), (6003, hSmT 4001 5001 L), (6006, hEr 0), (6012, hAw)] ⟨hP0_ok _ hs hL, hR0_ok _ hs hL, hSmT_ok _ _ _ _ (by omega), hEr_ok _ _, hAw_ok _, trivial⟩ [.n] (x := .v (.bool true)) (ob := [[decide ((s.length : Int) > 6000) = false], qL (hP0 4001 s L), qL (hR0 5001 s L), qL (hSmT 4001 5001 L), qL (hEr 0), qL hAw].flatten) (by kernel_rfl) (all_flat ⟨⟨h60, trivial⟩, all_qL _, all_qL _, all_qL _, all_qL _, all_qL _, trivial⟩) fun ρ' w' hf _ => ⟨rfl, hf.below⟩
  · exact At.fin rfl [(4001, hP1 s e), (5001, hR1 s e), (6003, hSm0), (6006, hEr e), (2006009, .val (.v (.bool true))), (6012, hAw)] ⟨hP1_ok _ hs hE he, hR1_ok _ hs hE he, hSm0_ok _, hEr_ok _ _, trivial, hAw_ok _, trivial⟩ [.n] (x := .v (.bool true)) (ob := [[decide ((s.length : Int) > 6000) = false], qL (hP1 s e), qL (hR1 s e), qL hSm0, qL (hEr e), [TV.v (.bool (e == e)) = TV.v (.bool true)], qL hAw].flatten) (by kernel_rfl) (all_flat ⟨⟨h60, trivial⟩, all_qL _, all_qL _, all_qL _, all_qL _, ⟨by rw [beq_self_eq_true], trivial⟩, all_qL _, trivial⟩) fun ρ' w' hf _ => ⟨rfl, hf.below⟩
end
end Go.Proofs.Ytglipljilcdboaa
