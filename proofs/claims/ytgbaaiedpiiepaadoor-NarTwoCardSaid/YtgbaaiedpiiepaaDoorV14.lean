/- Several texts, one behind the other; each says by itself what it proves, and on what conditions. -/
import Derived.Test.YtgbaaiedpiiepaaDoorV13
import Derived.RangeFuncNested
/- Pack of the document. Its condition: lengths that fit. -/
namespace Go.Proofs.YtgbaaiedpiiepaaDoor
open Go.RowKit Go.Shelf
set_option linter.unusedVariables false
set_option linter.unusedSimpArgs false
/-- A text with its error. -/
def textV (s : List UInt8) (e : Int) : Value := .agg #[strV s, .int .i64 e]
def packV (l : List Nd) : Value := match packL l with
  | some s => textV s 0
  | none => textV [] 1
def txtA (S : ByteArray) (e : Int) : Array Value := #[.string S, .int .i64 e]
theorem size29 (S : ByteArray) (e : Int) : (Tryd.prog.info? 29).map (·.size) = some [Value.string S, Value.int .i64 e].length := by kernel_rfl
theorem txtOne (S : ByteArray) (e : Int) : ∀ v ∈ [Value.string S, Value.int .i64 e], v.oneCell' = true := by
  intro v hv
  simp at hv
  rcases hv with rfl | rfl <;> rfl
theorem load29 {W : World} {g : Nat} (S : ByteArray) (e : Int) {t : TypeId} (hg : W.heap[g]? = some (.cells (txtA S e) t (0, 0))) : (loadVar 29 ⟨g, 0, none⟩).run Tryd.prog W = .ok (.agg (txtA S e)) W :=
  R.run_loadVar_seg W 29 g 0 [.string S, .int .i64 e] _ (fun j v hv => by rw [Nat.zero_add, cell_of_row W g j _ t (0, 0) hg, show txtA S e = [Value.string S, Value.int .i64 e].toArray from rfl, List.getElem?_toArray, hv]) Tryd.underlying29 rfl (size29 S e)
theorem exec_store29 {ρ : Operand → Value} {o : Oper} (w : World) (x y : Operand) (ho : o.op = .store 29 x y) (g : Nat) (hx : ρ x = .pointer (some ⟨g, 0, none⟩)) (S : ByteArray) (e : Int) (hy : ρ y = .agg (txtA S e)) (cur : Array Value) (t : TypeId)
    (hg : w.heap[g]? = some (.cells cur t (0, 0))) (h2 : cur.size = 2) : (execOp ρ o).run Tryd.prog w = .ok .skip (w.setRow g (txtA S e)) := by
  have h := R.exec_store_seg (P := Tryd.prog) (ρ := ρ) (o := o) w 29 x y ho g 0 hx [.string S, .int .i64 e] hy cur t hg (by simp; omega) (txtOne S e) (size29 S e)
  rwa [R.splice_all _ _ (by simp; exact h2)] at h
theorem Bx.set {w W : World} {g : Nat} {D : Array Value} {t : TypeId} (h : Bx w g D t W) (hg : w.heap.size ≤ g) (D2 : Array Value) : Bx w g D2 t (W.setRow g D2) :=
  ⟨h.1.trans ⟨rfl, rfl, rfl, by simp, fun k hk => setRow_other _ _ _ _ (by omega)⟩, setRow_heap _ _ _ _ _ _ h.2⟩
set_option maxRecDepth 100000 in
set_option maxHeartbeats 2000000 in
theorem pack_pos (b o cap : Nat) (d : Nd) (r : List Nd) (hl : r.length + 1 ≤ 100000) (hp : ∀ c ∈ d :: r, c.path.length ≤ 1000000) (hd : ∀ c ∈ d :: r, c.data.length ≤ 1000000) (hcost : costs (d :: r) ≤ 100000000000000) (w : World) (hN : Nodes w b o (d :: r)) :
    Calls Tryd.prog 13 #[slV b o (r.length + 1) cap] w fun e w' => e = .returned (packV (d :: r)) ∧ Below w.heap.size w w' := by
  have HN := Lib.hid hN
  have HM : Hid (∀ w, Nodes w b o (d :: r) → Calls Tryd.prog 15 #[slV b o (r.length + 1) cap] w fun e w' => e = .returned (.bool (mayL (d :: r))) ∧ Below w.heap.size w w') := Lib.hid (fun w hw => may_pos b o cap d r hl hp hd w hw)
  obtain ⟨V, hV⟩ : ∃ x, Hid (x = packV (d :: r)) := ⟨_, Lib.hid rfl⟩
  rw [← hV.out]
  unfold slV at HM ⊢
  go_enter Tryd.func13, Tryd.ntmps13
  have hmag : Hid (∀ (W : World) (bk : Nat), W.heap[bk]? = some (.cells #[.string { data := #[110, 105, 120, 45, 97, 114, 99, 104, 105, 118, 101, 45, 49] }] 9 (0, 0)) → Calls Tryd.prog 31 #[.slice (some ⟨bk, 0, none⟩) 1 1] W fun e w' => e = .returned (strV (strL tMagic)) ∧ Below W.heap.size W w') := Lib.hid (fun W bk hr => by
    have h := strs_any bk [tMagic] 1 rfl (by omega) (by decide) (by decide) W hr
    rw [strsL_cons, strsL_nil, List.append_nil] at h
    exact h)
  obtain ⟨mg, hmg⟩ : ∃ x : ByteArray, Hid (x = ⟨(strL tMagic).toArray⟩) := ⟨_, Lib.hid rfl⟩
  have hmgs : mg.size = 24 := by rw [hmg.out]; rfl
  rw [show strV (strL tMagic) = .string mg by rw [hmg.out]; rfl] at hmag
  obtain ⟨X, hX⟩ : ∃ x : ByteArray, Hid (x = ⟨(bytU (fuelN r) d r).1.toArray⟩) := ⟨_, Lib.hid rfl⟩
  obtain ⟨q, hq⟩ : ∃ x : Nat, Hid (x = placeU (d :: r) (bytU (fuelN r) d r).2) := ⟨_, Lib.hid rfl⟩
  have HNd : Hid (∀ w, Nodes w b o (d :: r) → Calls Tryd.prog 30 #[.slice (some ⟨b, o, none⟩) (r.length + 1) cap, .int .i64 0] w fun e w' => e = .returned (.tuple #[.string X, .int .i64 (q : Int)]) ∧ Below w.heap.size w w') := Lib.hid (fun w hw => by
    have h := node_any b o cap (d :: r) hl hp hd hcost (r.length + 1) 0 (by simp) (by simp) w hw
    rw [show nodeR (d :: r) 0 (by simp) = .tuple #[.string X, .int .i64 (q : Int)] by rw [hX.out, hq.out]; rfl] at h
    exact h)
  have hXs : X.size ≤ 1000000000000000 := by
    have h1 := (byt_cost (fuelN r)).1 d r
    have h2 := hd d (by simp)
    rw [costs_cons] at hcost
    unfold costB at h1
    rw [hX.out]
    show (bytU (fuelN r) d r).1.length ≤ _
    omega
  obtain ⟨Y, hY⟩ : ∃ x : ByteArray, Hid (x = mg ++ X) := ⟨_, Lib.hid rfl⟩
  have hYe : mg ++ X = Y := hY.out.symm
  have hYz : (mg ++ X).size = mg.size + X.size := ByteArray.size_append
  have hx1 : Hid (Bx w w.heap.size #[.string { data := #[] }, .int .i64 0] 29 (w.alloc (.cells #[.string { data := #[] }, .int .i64 0] 29))) := Lib.hid ⟨(Below.refl _ w).alloc (Nat.le_refl _) _, row_new w _ 29⟩
  obtain ⟨g, hg⟩ : ∃ g, Hid (g = w.heap.size) := ⟨_, Lib.hid rfl⟩
  have hgle : w.heap.size ≤ g := by rw [hg.out]; exact Nat.le_refl _
  clear hN hp hd hcost
  go_wp2_with fail
  rw [← hg.out] at hx1 ⊢
  generalize w.alloc (.cells #[.string { data := #[] }, .int .i64 0] 29) = W1 at *
  have hN1 := Lib.hid (HN.out.below (W2 := W1) hx1.out.1)
  with_reducible refine (HM.out _ hN1.out).mono ?_
  rintro e w2 ⟨rfl, hb⟩
  have HX2 := Lib.hid (hx1.out.below hb)
  clear hb hx1 HM hN1
  cases hm : mayL (d :: r)
  · have hz : Hid (V = .agg (txtA { data := #[] } 1)) := Lib.hid (by rw [hV.out]; unfold packV packL; rw [hm]; rfl)
    go_wp2_with (refine R.wpList_run0 rfl (exec_store29 _ (.tmp 2) (.tmp 8) rfl g rfl { data := #[] } 1 rfl _ 29 HX2.out.2 rfl) ?_)
    have HX3 := HX2.out.set hgle (txtA { data := #[] } 1)
    exact bodyPost_ret (R.results_cell rfl _ _ _ ⟨g, 0, none⟩ rfl _ (load29 _ _ HX3.2)) rfl ⟨by rw [hz.out], HX3.1⟩
  · have hz : Hid (V = .agg (txtA Y 0)) := Lib.hid (by
      rw [hV.out]
      unfold packV packL
      rw [hm, hY.out, hmg.out, hX.out, strV_cat]
      rfl)
    go_wp2_with fail
    have hN2 := Lib.hid (HN.out.below (W2 := w2) HX2.out.1)
    with_reducible refine (HNd.out _ hN2.out).mono ?_
    rintro e w3 ⟨rfl, hb⟩
    have HX3 := Lib.hid (HX2.out.below hb)
    clear hb HX2 HNd hN2
    go_wp2_with fail
    have hx4 := Lib.hid (HX3.out.alloc (.cells #[.string { data := #[110, 105, 120, 45, 97, 114, 99, 104, 105, 118, 101, 45, 49] }] 9))
    with_reducible refine (hmag.out _ _ (row_new w3 _ 9)).mono ?_
    rintro e w4 ⟨rfl, hb⟩
    have HX4 := Lib.hid (hx4.out.below hb)
    clear hb hx4 HX3 hmag
    go_wp2_with (refine R.wpList_run0 rfl (exec_store29 _ (.tmp 2) (.tmp 18) rfl g rfl Y 0 rfl _ 29 HX4.out.2 rfl) ?_)
    have HX5 := HX4.out.set hgle (txtA Y 0)
    exact bodyPost_ret (R.results_cell rfl _ _ _ ⟨g, 0, none⟩ rfl _ (load29 _ _ HX5.2)) rfl ⟨by rw [hz.out], HX5.1⟩
end Go.Proofs.YtgbaaiedpiiepaaDoor
/- Ranges over functions. No condition. -/
namespace Go.Proofs.YtgbaaiedpiiepaaDoor.E
open Go Go.RowKit
set_option linter.unusedVariables false
set_option linter.unusedSimpArgs false

/-! ### Rows under other numbers -/

def renL : List (Nat × Nat) → Nat → Nat
  | [], r => r
  | p :: m, r => bif Nat.beq p.1 r then p.2 else renL m r
def Lf.ren (m : List (Nat × Nat)) : Lf → Lf
  | .v x => .v x
  | .ptr r b i k j => .ptr (renL m r) b i k j
  | .sl r b i k n c => .sl (renL m r) b i k n c
  | .clo f rs => .clo f (rs.map (renL m))
def Pc.ren (m : List (Nat × Nat)) : Pc → Pc
  | .one x => .one (x.ren m)
  | .arr A n => .arr A n
  | .fnc f k n => .fnc f k n
def Row.ren (m : List (Nat × Nat)) (r : Row) : Row := ⟨r.ps.map (Pc.ren m), r.w, r.cp⟩
theorem Lf.ren_val {m : List (Nat × Nat)} {ρ : Env} {x : Lf} : (x.ren m).val ρ = x.val fun r => ρ (renL m r) := by
  cases x <;> simp [Lf.ren, Lf.val]
theorem lst_ren {m : List (Nat × Nat)} {ρ : Env} : ∀ {ps : List Pc}, lst ρ (ps.map (Pc.ren m)) = lst (fun r => ρ (renL m r)) ps
  | [] => rfl
  | p :: ps => by
    rw [List.map_cons, lst_cons, lst_cons, lst_ren]
    congr 1
    cases p with
    | one x => simp only [Pc.ren, Pc.arrV]; rw [Lf.ren_val]
    | _ => rfl
theorem pok_ren {m : List (Nat × Nat)} {ps : List Pc} (h : pok (ps.map (Pc.ren m))) : pok ps := by
  intro p hp
  have := h _ (List.mem_map.2 ⟨p, hp, rfl⟩)
  cases p with
  | one x => cases x <;> first | exact this | trivial
  | _ => exact this
theorem RowAt.ren {m : List (Nat × Nat)} {ρ : Env} {r : Nat} {row : Row} {w : World} (h : RowAt ρ (renL m r) (row.ren m) w) : RowAt (fun r => ρ (renL m r)) r row w := by
  unfold RowAt at h ⊢
  simp only [Row.ren] at h
  rw [lst_ren] at h
  exact h

/-! ### What holds between rounds -/

structure Rows0 (w0 : World) (wr : Bs) (mk K : List Nat) (ρ σ : Env) (rows : List (Nat × Row)) (W : World) : Prop where
  env : ∀ r, (r < 1000 ∨ r ∈ K) → σ r = ρ r
  mf : MkOk w0.heap.size W mk
  ko : KeepsOthers w0 W
  fr : Fr w0 wr.l W
  rw : ∀ r row, findR rows r = some row → RowAt σ r row W ∧ pok row.ps ∧ (row.w = true → w0.heap.size ≤ (σ r).1 ∨ (σ r).1 ∈ wr.l)
  ds : ∀ r q row rq, findR rows r = some row → findR rows q = some rq → r ≠ q → row.w = true → (σ r).1 ≠ (σ q).1
theorem Rows0.of_den {w0 : World} {wr : Bs} {mk K : List Nat} {ρ : Env} {n : Nat} {tm : List (Nat × TV)} {rows : List (Nat × Row)} {gl : List Nat} {a : Act} {w : World} (h : Den w0 wr ρ (mkSt n tm rows gl mk) a w) : Rows0 w0 wr mk K ρ ρ rows w :=
  ⟨fun _ _ => rfl, h.mf, h.ko, h.fr, fun r row hr => ⟨(h.rw r row hr).1, (h.rw r row hr).2.1, (h.rw r row hr).2.2.2.2⟩, h.ds⟩
theorem Rows0.own {w0 : World} {wr : Bs} {mk K : List Nat} {ρ σ : Env} {rows : List (Nat × Row)} {B : Nat} {W W' : World} {row : Option Nat} (h : Rows0 w0 wr mk K ρ σ rows W) (hB : w0.heap.size ≤ B) (hm : ∀ D ∈ mk, D < B)
    (hg : W.grownBy W' row) (hr : ∀ r, row = some r → B ≤ r ∧ ∃ o : Obj, W.heap[r]? = some o ∧ o.isCells = false) : Rows0 w0 wr mk K ρ σ rows W' := by
  have hlow : ∀ k, k < B → k < W.heap.size → W'.heap[k]? = W.heap[k]? := fun k hk hkW => hg.block k hkW (fun e => by
    have := (hr k e.symm).1; omega)
  refine ⟨h.env, ⟨h.mf.1, fun D hD => ⟨(h.mf.2 D hD).1, ?_⟩⟩, ⟨Nat.le_trans h.ko.size hg.size, fun k o hk ho => ?_⟩, ?_, fun r rw hrw => ?_, h.ds⟩
  · have hb := (h.mf.2 D hD).2
    rw [hlow D (hm D hD) (lt_of_block hb)]; exact hb
  · have hb := h.ko.same k o hk ho
    have hlt := lt_of_block hk
    rw [hlow k (by omega) (lt_of_block hb)]; exact hb
  · exact ⟨hg.os.trans h.fr.os, hg.tape.trans h.fr.tape, hg.output.trans h.fr.output, Nat.le_trans h.fr.size hg.size, fun k hk hn => (hlow k (by omega) (Nat.lt_of_lt_of_le hk h.fr.size)).trans (h.fr.block k hk hn)⟩
  · obtain ⟨g1, g2, g3⟩ := h.rw r rw hrw
    refine ⟨g1.keep hg.size (hg.block _ g1.1 fun e => ?_), g2, g3⟩
    obtain ⟨_, o, ho, hc⟩ := hr _ e.symm
    obtain ⟨cur, t, fz, hcur⟩ := g1.2.2.2
    rw [hcur] at ho
    cases ho
    cases hc
/-- Blocks that a round may write. -/
def wlOf (σ : Env) (rows : List (Nat × Row)) : List Nat := rows.flatMap fun p => bif p.2.w then [(σ p.1).1] else []
theorem wlOf_mem {σ : Env} {rows : List (Nat × Row)} {b : Nat} (h : b ∈ wlOf σ rows) : ∃ p ∈ rows, p.2.w = true ∧ b = (σ p.1).1 := by
  obtain ⟨p, hp, hb⟩ := List.mem_flatMap.1 h
  cases hw : p.2.w with
  | false => rw [hw] at hb; cases hb
  | true => rw [hw] at hb; simp at hb; exact ⟨p, hp, hw, hb⟩
theorem mem_wlOf {σ : Env} {rows : List (Nat × Row)} {p : Nat × Row} (h : p ∈ rows) (hw : p.2.w = true) : (σ p.1).1 ∈ wlOf σ rows :=
  List.mem_flatMap.2 ⟨p, h, by rw [hw]; simp⟩
theorem findR_nodup : ∀ {l : List (Nat × Row)} {p : Nat × Row}, (l.map (·.1)).Nodup → p ∈ l → findR l p.1 = some p.2
  | [], _, _, h => by cases h
  | q :: l, p, hn, h => by
    rw [List.map_cons, List.nodup_cons] at hn
    unfold findR
    rcases List.mem_cons.1 h with rfl | h
    · simp
    · have : Nat.beq q.1 p.1 = false := by
        cases hb : Nat.beq q.1 p.1 with
        | false => rfl
        | true => exact absurd (List.mem_map.2 ⟨p, h, (Nat.eq_of_beq_eq_true hb).symm⟩) hn.1
      rw [this]
      exact findR_nodup hn.2 h

/-- What a round comes to: in which rows, for each way out. -/
def RoundQ (W : World) (wr : Bs) (nx : Exit → Option (List (Nat × Row))) (e : Exit) (_ : Act) (W' : World) : Prop :=
  ∃ rows, nx e = some rows ∧ KeepsOthers W W' ∧ Fr W wr.l W' ∧ ∃ σ : Env, (∀ r, (r < 1000 ∨ r ∈ wr.k) → σ r = wr.e r) ∧
    (∀ r row, findR rows r = some row → RowAt σ r row W' ∧ pok row.ps ∧ (row.w = true → W.heap.size ≤ (σ r).1 ∨ (σ r).1 ∈ wr.l)) ∧
    ∀ r q row rq, findR rows r = some row → findR rows q = some rq → r ≠ q → row.w = true → (σ r).1 ≠ (σ q).1
def nodupB : List Nat → Bool
  | [] => true
  | x :: l => !hasN l x && nodupB l
theorem nodupB_ok : ∀ {l : List Nat}, nodupB l = true → l.Nodup
  | [], _ => List.nodup_nil
  | x :: l, h => by
    simp only [nodupB, Bool.and_eq_true, Bool.not_eq_true'] at h
    rw [List.nodup_cons]
    refine ⟨fun hm => ?_, nodupB_ok h.2⟩
    rw [hasN_iff.2 hm] at h
    cases h.1
/-- Rows that are fixed keep their number. -/
def renOk (m : List (Nat × Nat)) (K : List Nat) : Bool := m.all fun p => Nat.ble 1000 p.1 && !hasN K p.1
theorem renL_fix : ∀ {m : List (Nat × Nat)} {K : List Nat} {r : Nat}, renOk m K = true → (r < 1000 ∨ r ∈ K) → renL m r = r
  | [], _, _, _, _ => rfl
  | p :: m, K, r, h, hr => by
    simp only [renOk, List.all_cons, Bool.and_eq_true, Bool.not_eq_true'] at h
    obtain ⟨⟨h1, h2⟩, h3⟩ := h
    unfold renL
    have : Nat.beq p.1 r = false := by
      cases hb : Nat.beq p.1 r with
      | false => rfl
      | true =>
        have he := Nat.eq_of_beq_eq_true hb
        rcases hr with hr | hr
        · have := Nat.le_of_ble_eq_true h1; omega
        · rw [he, hasN_iff.2 hr] at h2; cases h2
    rw [this]
    exact renL_fix (m := m) h3 hr
/-- The end of a round: rows told under the numbers that they bear between rounds (m: a row's number between rounds, its number here), and otherwise (rowsEq). -/
theorem At.finB {kn : List (Nat × Blk)} {P : Program} {W : World} {wr : Bs} {n : Nat} {gl : List Nat} {todo : List Item} {r : Option Nat} {nx : Exit → Option (List (Nat × Row))} {tm : List (Nat × TV)} {rows rows2 rows3 : List (Nat × Row)} {ob : List Prop} {e : Exit} (hm : P.follows .mixedOrders = true) (cs : List (Nat × Hint)) (hC : allC P cs) (π : List Ch) (m : List (Nat × Nat))
    (h : runE P (findC cs) π todo (mkSt n tm rows gl [] kn) [] (rows2.map fun p => renL m p.1) = some (ob, e, [], rows2.map fun p => some (p.2.ren m))) (ho : all ob) (hq : rowsEq rows2 rows3) (hx : nx e = some rows3)
    (hmo : renOk m wr.k = true) (hnd : nodupB (rows2.map fun p => renL m p.1) = true) : At P W wr n gl todo (RoundQ W wr nx) tm rows r [] kn := by
  intro a w ρ hd
  unfold runE at h
  split at h
  · rename_i o1 e1 t hg
    simp only [Option.some.injEq, Prod.mk.injEq] at h
    obtain ⟨rfl, rfl, _, e2⟩ := h
    refine go_ok hm (findC_ok hC) 10000 π todo _ o1 (.fin e1) t hg ho (fun a w ρ hd => ?_) a w ρ hd
    have hrow : ∀ r y, findR rows3 r = some y → ∃ x, (r, x) ∈ rows2 ∧ t.row (renL m r) = some (x.ren m) ∧ x.w = y.w ∧ x.cp = y.cp ∧ (pok x.ps → pok y.ps) ∧ ∀ ρ, pok x.ps → lst ρ x.ps = lst ρ y.ps := by
      intro r y hy
      obtain ⟨x, hx, g⟩ := rowsEq_find hq hy
      have hmm := findR_mem hx
      rw [List.map_map] at e2
      exact ⟨x, hmm, (List.map_inj_left.1 e2) _ hmm, g⟩
    have hinj : ∀ p ∈ rows2, ∀ q ∈ rows2, renL m p.1 = renL m q.1 → p.1 = q.1 := by
      have hN := nodupB_ok hnd
      clear hrow hq hx e2 hnd hg
      induction rows2 with
      | nil => intro p hp; cases hp
      | cons x l ih =>
        rw [List.map_cons, List.nodup_cons] at hN
        intro p hp q hq he
        rcases List.mem_cons.1 hp with e1 | hp <;> rcases List.mem_cons.1 hq with e2 | hq
        · rw [e1, e2]
        · exact absurd (List.mem_map.2 ⟨q, hq, by rw [← he, e1]⟩) hN.1
        · exact absurd (List.mem_map.2 ⟨p, hp, by rw [he, e2]⟩) hN.1
        · exact ih hN.2 p hp q hq he
    refine ⟨rows3, hx, hd.ko, hd.fr, fun r => ρ (renL m r), fun r hr => ?_, fun r y hy => ?_, fun r q y z hy hz hrq hw => ?_⟩
    · show ρ (renL m r) = _
      rw [renL_fix hmo hr]; exact hd.e0 r hr
    · obtain ⟨x, hxm, hx, e1, e2, e3, e4⟩ := hrow r y hy
      obtain ⟨g1, g2, g3, g4, g5⟩ := hd.rw _ _ hx
      have hp := pok_ren g2
      have h1 := RowAt.ren g1
      refine ⟨⟨h1.1, fun j v hv => ?_, fun e k hc => ?_, h1.2.2.2⟩, e3 hp, fun hw => g5 (by rw [← e1] at hw; exact hw)⟩
      · rw [← e4 _ hp] at hv; rw [← e1]; exact h1.2.1 j v hv
      · rw [← e4 _ hp]; exact h1.2.2.1 e k (by rw [e2]; exact hc)
    · obtain ⟨x, hxm, hx, e1, _⟩ := hrow r y hy
      obtain ⟨x2, hxm2, hx2, _⟩ := hrow q z hz
      exact hd.ds _ _ _ _ hx hx2 (fun e => hrq (hinj _ hxm _ hxm2 e)) (by rw [← e1] at hw; exact hw)
  · cases h

/-! ### A round's parameters -/

theorem den_set {w0 : World} {wr : Bs} {ρ : Env} {s : St} {a : Act} {w : World} {d : Tmp} {v : TV} (h : Den w0 wr ρ s a w) (hd : d < s.n) (hv : v.ok) (hi : ∀ r ∈ v.ids, s.used r = true) : Den w0 wr ρ { s with tmps := setT s.tmps (some d) v } (a.put (some d) (v.val ρ)) w := by
  refine ⟨by rw [put_size]; exact h.sz, by rw [put_defers]; exact h.df, h.mf, h.ko, ?_, h.rw, h.ds, h.fr, h.e0, h.ku, h.gl, h.kn⟩
  intro t x hx
  rw [tm_put (s := s) (fun x hx => by cases hx; rw [h.sz]; exact hd)]
  simp only [setT] at hx
  simp only
  by_cases htd : t = d
  · rw [if_pos htd]
    subst htd
    simp at hx
    subst hx
    exact ⟨rfl, hv, hi⟩
  · rw [if_neg htd]
    rw [show Nat.beq t d = false by cases hb : Nat.beq t d with | false => rfl | true => exact absurd (Nat.eq_of_beq_eq_true hb) htd] at hx
    exact h.tm t x hx
/-- The assignments of a round's beginning. -/
def asgOp (o : Oper) : Option (Tmp × Operand) :=
  match o.guard, o.dst, o.op with
  | none, some d, .assign x => some (d, x)
  | none, some d, .move x => some (d, x)
  | _, _, _ => none
def asgOps : List Oper → Option (List (Tmp × Operand))
  | [] => some []
  | o :: l => match asgOp o, asgOps l with
    | some p, some m => some (p :: m)
    | _, _ => none
def asg : Code → Option (List (Tmp × Operand))
  | .skip => some []
  | .seq x y => match asg x, asg y with
    | some l, some m => some (l ++ m)
    | _, _ => none
  | .region _ ops false => asgOps ops.toList
  | _ => none
def asgA (l : List (Tmp × Operand)) (a : Act) : Act := l.foldl (fun a p => a.put (some p.1) (a.eval p.2)) a
theorem asgOps_get : ∀ {l : List Oper} {m : List (Tmp × Operand)}, asgOps l = some m → l.length = m.length ∧ ∀ (i : Nat) (o : Oper), l[i]? = some o → ∃ p, m[i]? = some p ∧ asgOp o = some p
  | [], m, h => by cases h; exact ⟨rfl, fun i (o : Oper) h => by simp at h⟩
  | x :: l, m, h => by
    unfold asgOps at h
    split at h
    · rename_i p m2 h1 h2
      cases h
      obtain ⟨g1, g2⟩ := asgOps_get h2
      refine ⟨by simp [g1], fun i o hi => ?_⟩
      cases i with
      | zero => simp at hi; subst hi; exact ⟨p, rfl, h1⟩
      | succ i => simp at hi; simpa using g2 i o hi
    · cases h
theorem asgOp_wp {P : Program} {F : Fence} {n : Nat} {o : Oper} {p : Tmp × Operand} (h : asgOp o = some p) {a : Act} {w : World} {K : Act → World → Prop} {Q : Exit → Act → World → Prop} (hK : K (a.put (some p.1) (a.eval p.2)) w) : o.guard = none ∧ o.wpIn F n P a w K Q := by
  obtain ⟨dst, op, ty, pos, after, guard⟩ := o
  unfold asgOp at h
  split at h
  · rename_i d x h1 h2 h3
    simp only at h1 h2 h3
    subst h1 h2 h3
    cases h
    refine ⟨rfl, ?_⟩
    unfold Oper.wpIn
    refine ⟨(fun f hf => by cases hf), ?_⟩
    rw [Oper.semAt_eq _ _ _ (fun c hc => by cases hc)]
    exact hK
  · rename_i d x h1 h2 h3
    simp only at h1 h2 h3
    subst h1 h2 h3
    cases h
    refine ⟨rfl, ?_⟩
    unfold Oper.wpIn
    refine ⟨(fun f hf => by cases hf), ?_⟩
    rw [Oper.semAt_eq _ _ _ (fun c hc => by cases hc)]
    exact hK
  · cases h
theorem asgReg_ok {P : Program} {F : Fence} {n : Nat} {ops : Array Oper} {l : List (Tmp × Operand)} (h : asgOps ops.toList = some l) {Q : Exit → Act → World → Prop} {w : World} : ∀ (m k : Nat) (a : Act), k + m = ops.size → Q .normal (asgA (l.drop k) a) w → wpOpsIn F n P ops Q (List.range' k m) a w
  | 0, k, a, hk, hQ => by
    have := (asgOps_get h).1
    rw [List.drop_eq_nil_of_le (by rw [← this, Array.length_toList]; omega)] at hQ
    exact hQ
  | m + 1, k, a, hk, hQ => by
    obtain ⟨g1, g2⟩ := asgOps_get h
    have hlt : k < ops.size := by omega
    obtain ⟨p, hp, ha⟩ := g2 k ops[k] (by rw [Array.getElem?_toList]; simp [hlt])
    rw [List.range'_succ, wpOpsIn_cons]
    unfold wpOpIn
    rw [show ops[k]? = some ops[k] by simp [hlt]]
    simp only
    have hd : l.drop k = p :: l.drop (k + 1) := by
      have := List.getElem?_eq_some_iff.1 hp
      obtain ⟨h1, h2⟩ := this
      rw [List.drop_eq_getElem_cons h1, h2]
    rw [hd] at hQ
    obtain ⟨e1, e2⟩ := asgOp_wp (P := P) (F := F) (n := n) ha (a := a) (w := w) (K := wpOpsIn F n P ops Q (List.range' (k + 1) m)) (Q := Q) (asgReg_ok h m (k + 1) _ (by omega) hQ)
    rw [if_pos (by simp [Region.wanted, e1])]
    exact e2
theorem asg_ok {P : Program} {F : Fence} {n : Nat} : ∀ {c : Code} {l : List (Tmp × Operand)}, asg c = some l → ∀ {Q : Exit → Act → World → Prop} {a : Act} {w : World}, Q .normal (asgA l a) w → c.wpIn F n P Q a w
  | .skip, l, h, Q, a, w, hQ => by cases h; exact wpIn_skip hQ
  | .seq x y, l, h, Q, a, w, hQ => by
    unfold asg at h
    split at h
    · rename_i l1 l2 h1 h2
      cases h
      refine wpIn_seq (asg_ok h1 ?_)
      refine asg_ok h2 ?_
      rw [asgA, List.foldl_append] at hQ
      exact hQ
    · cases h
  | .region id ops false, l, h, Q, a, w, hQ => by
    refine wpIn_region ?_
    rw [List.range_eq_range']
    exact asgReg_ok h _ 0 a (by simp) hQ
  | .region id ops true, l, h, Q, a, w, hQ => by cases h
  | .label _, _, h, _, _, _, _ => by cases h
  | .ret, _, h, _, _, _, _ => by cases h
  | .block _ _, _, h, _, _, _, _ => by cases h
  | .scope _, _, h, _, _, _, _ => by cases h
  | .exit _, _, h, _, _, _, _ => by cases h
  | .goto _, _, h, _, _, _, _ => by cases h
  | .cond _ _ _, _, h, _, _, _, _ => by cases h
  | .loop _, _, h, _, _, _, _ => by cases h
  | .rangeFunc _ _ _ _, _, h, _, _, _, _ => by cases h
  | .refuse _, _, h, _, _, _, _ => by cases h
def parS : List Tmp → List TV → St → Option St
  | [], [], s => some s
  | d :: ps, v :: vs, s => bif Nat.ble (d + 1) s.n then parS ps vs { s with tmps := setT s.tmps (some d) v } else none
  | _, _, _ => none
def asgS : List (Tmp × Operand) → St → Option St
  | [], s => some s
  | p :: l, s => match evalO s p.2 with
    | some v => bif Nat.ble (p.1 + 1) s.n then asgS l { s with tmps := setT s.tmps (some p.1) v } else none
    | none => none
theorem asgS_ok {w0 : World} {wr : Bs} {ρ : Env} : ∀ {l : List (Tmp × Operand)} {s t : St} {a : Act} {w : World}, asgS l s = some t → Den w0 wr ρ s a w → Den w0 wr ρ t (asgA l a) w
  | [], s, t, a, w, h, hd => by cases h; exact hd
  | p :: l, s, t, a, w, h, hd => by
    unfold asgS at h
    split at h
    · rename_i v hv
      cases hb : Nat.ble (p.1 + 1) s.n with
      | false => rw [hb] at h; cases h
      | true =>
        rw [hb] at h
        obtain ⟨g1, g2, g3⟩ := evalO_ok hd hv
        have := asgS_ok h (den_set hd (Nat.le_of_ble_eq_true hb) g2 g3)
        rw [← g1] at this
        exact this
    · cases h
theorem parS_ok {w0 : World} {wr : Bs} {ρ : Env} : ∀ {ps : List Tmp} {vs : List TV} {s t : St} {a : Act} {w : World}, parS ps vs s = some t → Den w0 wr ρ s a w → (∀ v ∈ vs, v.ok ∧ ∀ r ∈ v.ids, s.used r = true) →
    Den w0 wr ρ t { a with tmps := (ps.zip (vs.map (TV.val ρ))).foldl (fun t (p : Tmp × Value) => t.setIfInBounds p.1 p.2) a.tmps } w
  | [], [], s, t, a, w, h, hd, _ => by cases h; exact hd
  | [], _ :: _, _, _, _, _, h, _, _ => by cases h
  | _ :: _, [], _, _, _, _, h, _, _ => by cases h
  | d :: ps, v :: vs, s, t, a, w, h, hd, hv => by
    unfold parS at h
    cases hb : Nat.ble (d + 1) s.n with
    | false => rw [hb] at h; cases h
    | true =>
      rw [hb] at h
      have h2 := hv v (by simp)
      exact parS_ok (a := a.put (some d) (v.val ρ)) h (den_set hd (Nat.le_of_ble_eq_true hb) h2.1 h2.2) (fun x hx => hv x (by simp [hx]))
end Go.Proofs.YtgbaaiedpiiepaaDoor.E
/- The rule for a range over a function. No condition. -/
namespace Go.Proofs.YtgbaaiedpiiepaaDoor.E
open Go Go.RowKit
set_option linter.unusedVariables false
set_option linter.unusedSimpArgs false

/-- Ways out of a loop: behind it; the function's end; a block's end, here or further out. -/
def RangeQ (P : Program) (r : Option Nat) (k : List Item) (Q : Exit → Act → World → Prop) : Exit → Act → World → Prop
  | .normal, a, w => KX P r k Q a w
  | .ret, a, w => Q .ret a w
  | .exit id, a, w => (∃ k', exitTo id k = some k' ∧ KX P r k' Q a w) ∨ (exitTo id k = none ∧ Q (.exit id) a w)
  | _, _, _ => False
theorem KX.codeR {P : Program} {r : Option Nat} {k : List Item} {Q : Exit → Act → World → Prop} {a : Act} {w : World} {c : Code} {n : Nat} (h : c.wpIn (FW r) n P (RangeQ P r k Q) a w) : KX P r (.code c :: k) Q a w := by
  intro b k2 cs hb
  obtain ⟨e, a1, w1, hq, harr⟩ := h b (k ++ k2) cs hb trivial (room_FW _)
  cases e with
  | normal =>
    obtain ⟨e2, a', w', q, r⟩ := hq b k2 cs hb
    exact ⟨e2, a', w', q, .of_steps harr r⟩
  | ret => exact ⟨.ret, a1, w1, hq, harr⟩
  | exit id =>
    rcases hq with ⟨k', h1, h2⟩ | ⟨h1, h2⟩
    · obtain ⟨e2, a', w', q, r⟩ := h2 b k2 cs hb
      exact ⟨e2, a', w', q, .of_steps (harr.1 _ (exitTo_append h1)) r⟩
    · refine ⟨.exit id, a1, w1, h2, fun k' hk => harr.1 k' (by rw [exitTo_none h1]; exact hk), fun hr hk => harr.2 hr (by rw [exitTo_none h1]; exact hk)⟩
  | goto _ => exact hq.elim
  | panic _ => exact hq.elim
  | outgrown => exact hq.elim
theorem parS_keep : ∀ {ps : List Tmp} {vs : List TV} {s t : St}, parS ps vs s = some t → ∃ f, t = { s with tmps := f }
  | [], [], s, t, h => by cases h; exact ⟨s.tmps, rfl⟩
  | [], _ :: _, _, _, h => by cases h
  | _ :: _, [], _, _, h => by cases h
  | d :: ps, v :: vs, s, t, h => by
    unfold parS at h
    cases hb : Nat.ble (d + 1) s.n with
    | false => rw [hb] at h; cases h
    | true =>
      rw [hb] at h
      obtain ⟨f, hf⟩ := parS_keep h
      exact ⟨f, hf⟩
theorem asgS_keep : ∀ {l : List (Tmp × Operand)} {s t : St}, asgS l s = some t → ∃ f, t = { s with tmps := f }
  | [], s, t, h => by cases h; exact ⟨s.tmps, rfl⟩
  | p :: l, s, t, h => by
    unfold asgS at h
    split at h
    · cases hb : Nat.ble (p.1 + 1) s.n with
      | false => rw [hb] at h; cases h
      | true =>
        rw [hb] at h
        obtain ⟨f, hf⟩ := asgS_keep h
        exact ⟨f, hf⟩
    · cases h
/-- What stands in the temporaries when a round begins. -/
def beg (ps : Array Tmp) (al : List (Tmp × Operand)) (vs : List TV) (s : St) (ks : List Nat) : Option (List (Option TV)) :=
  match parS ps.toList vs s with
  | some s1 => match asgS al s1 with
    | some t => some (ks.map t.tmps)
    | none => none
  | none => none
def rngOk (tm : List (Nat × TV)) (rows : List (Nat × Row)) (gl wk K kr : List Nat) : Bool :=
  tm.all (fun p => p.2.ids.all (hasN K)) && (wk.all (hasN K) && (K.all (hasN (rows.map (·.1) ++ gl.map (500 + ·))) && kr.all (hasN K)))
/-- Rows that the iterator reads: no round writes them. -/
def ronly (rows : List (Nat × Row)) (kr : List Nat) : Bool := kr.all fun r => match findR rows r with
  | some row => !row.w
  | none => false
/-- In which rows a round ends. -/
def nxt {α : Type} (rowsI : List α → List (Nat × Row)) (rowsX : Exit → List α → Option (List (Nat × Row))) (xs : List α) (e : Exit) : Option (List (Nat × Row)) :=
  match e with
  | .normal => some (rowsI xs)
  | .ret => rowsX .ret xs
  | .exit id => rowsX (.exit id) xs
  | _ => none
theorem den_base {w0 : World} {wr : Bs} {ρ σ : Env} {n : Nat} {tm : List (Nat × TV)} {rows rx : List (Nat × Row)} {gl mk K kr : List Nat} {a : Act} {w W : World} (hd : Den w0 wr ρ (mkSt n tm rows gl mk) a w) (hK : rngOk tm rows gl wr.k K kr = true) (hk : rx.map (·.1) = rows.map (·.1)) (hi : idsOk tm rx gl = true)
    (hR : Rows0 w0 wr mk K ρ σ rx W) : Den W ⟨wlOf σ rx, σ, K⟩ σ (mkSt n tm rx gl) { tmps := a.tmps, defers := [] } W := by
  simp only [rngOk, Bool.and_eq_true, List.all_eq_true] at hK
  obtain ⟨k1, k2, k3, k4⟩ := hK
  simp only [idsOk, Bool.and_eq_true, List.all_eq_true] at hi
  refine ⟨hd.sz, rfl, ⟨List.nodup_nil, fun D hD => by cases hD⟩, KeepsOthers.refl _, fun t x hx => ?_, fun r row hr => ?_, hR.ds, Fr.refl _ _, fun _ _ => rfl, fun r hr => ?_, fun g hg hu => ?_, fun r B h => by cases h⟩
  · obtain ⟨g1, g2, g3⟩ := hd.tm t x hx
    refine ⟨?_, g2, fun r hr => hi.1 _ (findT_mem hx) r hr⟩
    rw [g1, TV.val_congr (fun r hr => (hR.env r (.inr (hasN_iff.1 (k1 _ (findT_mem hx) r hr)))).symm)]
  · obtain ⟨g1, g2, g3⟩ := hR.rw r row hr
    have hm := findR_mem hr
    exact ⟨g1, g2, hasN_iff.2 (List.mem_append.2 (.inl (List.mem_map.2 ⟨_, hm, rfl⟩))), fun q hq => hi.2 _ hm q hq, fun hw => .inr (mem_wlOf hm hw)⟩
  · show hasN (rx.map (·.1) ++ _) r = true
    rw [hk]; exact k3 r hr
  · have hu2 : hasN (rows.map (·.1) ++ gl.map (500 + ·)) (500 + g) = true := by rw [← hk]; exact hu
    rw [hR.env _ (.inl (by omega))]
    exact hd.gl g hg hu2
theorem den_after {w0 : World} {wr : Bs} {ρ σ : Env} {n : Nat} {tm : List (Nat × TV)} {rows rx : List (Nat × Row)} {gl mk K kr : List Nat} {a : Act} {w W : World} {D : Nat} (hd : Den w0 wr ρ (mkSt n tm rows gl mk) a w) (hK : rngOk tm rows gl wr.k K kr = true) (hk : rx.map (·.1) = rows.map (·.1)) (hi : idsOk tm rx gl = true)
    (hR : Rows0 w0 wr mk K ρ σ rx W) (hD : w.heap.size ≤ D) (hb : W.heap[D]? = some (.deferred (some []))) : Den w0 wr σ (mkSt n tm rx gl (D :: mk)) { a with defers := { target := .collected D, args := #[] } :: a.defers } W := by
  have h1 := den_base hd hK hk hi hR
  simp only [rngOk, Bool.and_eq_true, List.all_eq_true] at hK
  obtain ⟨k1, k2, k3, k4⟩ := hK
  refine ⟨hd.sz, ?_, ⟨?_, fun E hE => ?_⟩, hR.ko, h1.tm, fun r row hr => ?_, hR.ds, hR.fr, fun r hr => ?_, fun r hr => h1.ku r (hasN_iff.1 (k2 r hr)), h1.gl, fun r B h => by cases h⟩
  · show _ :: a.defers = _
    rw [hd.df]; rfl
  · show (D :: mk).Nodup
    rw [List.nodup_cons]
    refine ⟨fun hm => ?_, hR.mf.1⟩
    have := lt_of_block (hd.mf.2 D hm).2
    omega
  · rcases List.mem_cons.1 hE with rfl | hE
    · exact ⟨Nat.le_trans hd.fr.size hD, hb⟩
    · exact hR.mf.2 E hE
  · obtain ⟨g1, g2, g3, g4, _⟩ := h1.rw r row hr
    exact ⟨g1, g2, g3, g4, (hR.rw r row hr).2.2⟩
  · rw [hR.env r (hr.imp id fun h => hasN_iff.1 (k2 r h))]
    exact hd.e0 r hr
theorem den_after0 {w0 : World} {wr : Bs} {ρ σ : Env} {n : Nat} {tm : List (Nat × TV)} {rows rx : List (Nat × Row)} {gl mk K kr : List Nat} {a : Act} {w W : World} (hd : Den w0 wr ρ (mkSt n tm rows gl mk) a w) (hK : rngOk tm rows gl wr.k K kr = true) (hk : rx.map (·.1) = rows.map (·.1)) (hi : idsOk tm rx gl = true)
    (hR : Rows0 w0 wr mk K ρ σ rx W) : Den w0 wr σ (mkSt n tm rx gl mk) a W := by
  have h1 := den_base hd hK hk hi hR
  simp only [rngOk, Bool.and_eq_true, List.all_eq_true] at hK
  obtain ⟨k1, k2, k3, k4⟩ := hK
  refine ⟨hd.sz, hd.df, hR.mf, hR.ko, h1.tm, fun r row hr => ?_, hR.ds, hR.fr, fun r hr => ?_, fun r hr => h1.ku r (hasN_iff.1 (k2 r hr)), h1.gl, fun r B h => by cases h⟩
  · obtain ⟨g1, g2, g3, g4, _⟩ := h1.rw r row hr
    exact ⟨g1, g2, g3, g4, (hR.rw r row hr).2.2⟩
  · rw [hR.env r (hr.imp id fun h => hasN_iff.1 (k2 r h))]
    exact hd.e0 r hr
theorem rows_round {w0 : World} {wr : Bs} {ρ σ : Env} {rx : List (Nat × Row)} {mk K : List Nat} {W W' : World} {nx : Exit → Option (List (Nat × Row))} {e : Exit} {a : Act} (hR : Rows0 w0 wr mk K ρ σ rx W) (h : RoundQ W ⟨wlOf σ rx, σ, K⟩ nx e a W') (hn : (rx.map (·.1)).Nodup) :
    KeepsOthers W W' ∧ (∀ r row, findR rx r = some row → row.w = false → W'.heap[(σ r).1]? = W.heap[(σ r).1]?) ∧ ∃ rows, nx e = some rows ∧ ∃ σ', Rows0 w0 wr mk K ρ σ' rows W' := by
  obtain ⟨rows, h1, h2, h3, σ', h4, h5, h6⟩ := h
  have hin : ∀ b ∈ wlOf σ rx, w0.heap.size ≤ b ∨ b ∈ wr.l := by
    intro b hb
    obtain ⟨p, hp, hw, rfl⟩ := wlOf_mem hb
    exact (hR.rw p.1 p.2 (findR_nodup hn hp)).2.2 hw
  refine ⟨h2, fun r row hr hw => ?_, rows, h1, σ', fun r hr => (h4 r hr).trans (hR.env r hr), ⟨hR.mf.1, fun D hD => ⟨(hR.mf.2 D hD).1, h2.same _ _ (hR.mf.2 D hD).2 rfl⟩⟩, hR.ko.trans h2, ?_, fun r row hr => ?_, h6⟩
  · refine h3.block _ (hR.rw r row hr).1.1 fun hb => ?_
    obtain ⟨p, hp, hpw, he⟩ := wlOf_mem hb
    have hfp := findR_nodup hn hp
    have hne : p.1 ≠ r := fun e => by
      rw [e, hr] at hfp
      cases hfp
      rw [hw] at hpw; cases hpw
    exact hR.ds p.1 r p.2 row hfp hr hne hpw he.symm
  · refine ⟨h3.os.trans hR.fr.os, h3.tape.trans hR.fr.tape, h3.output.trans hR.fr.output, Nat.le_trans hR.fr.size h3.size, fun k hk hkn => ?_⟩
    have hkW : k < W.heap.size := Nat.lt_of_lt_of_le hk hR.fr.size
    refine (h3.block k hkW fun hb => ?_).trans (hR.fr.block k hk hkn)
    rcases hin k hb with h | h
    · omega
    · exact hkn h
  · obtain ⟨g1, g2, g3⟩ := h5 r row hr
    refine ⟨g1, g2, fun hw => ?_⟩
    rcases g3 hw with h | h
    · exact .inl (Nat.le_trans hR.fr.size h)
    · exact hin _ h
/-- **A range over a function.** -/
theorem At.range {P : Program} {w0 : World} {wr : Bs} {n : Nat} {gl : List Nat} {k : List Item} {Q : Exit → Act → World → Prop} {tm : List (Nat × TV)} {rows : List (Nat × Row)} {mk : List Nat} {α : Type} {g : Operand} {ps : Array Tmp} {assign body : Code} {al : List (Tmp × Operand)} {gf : FuncId} {rs : List Nat}
    (K kr : List Nat) (vx : α → List TV) {S Sp : List α → Prop} {N : Nat} (rowsI : List α → List (Nat × Row)) (rowsX : Exit → List α → Option (List (Nat × Row))) (tmB : α → List (Nat × TV))
    (hg : evalO (mkSt n tm rows gl mk) g = some (.s (.lf (.clo gf rs)))) (he : Enters P gf) (ha : asg assign = some al)
    (hseq : ∀ (ρ : Env) (w : World), (∀ r row, findR rows r = some row → RowAt ρ r row w) → SeqStopsK (FW none) 5 P gf (rs.map fun r => Value.pointer (some ⟨(ρ r).1, (ρ r).2, none⟩)).toArray (fun x => ((vx x).map (TV.val ρ)).toArray) (fun W W' => ∀ r ∈ kr, W'.heap[(ρ r).1]? = W.heap[(ρ r).1]?) S Sp N w)
    (h0 : rowsI [] = rows) (hkeys : ∀ xs, (rowsI xs).map (·.1) = rows.map (·.1)) (hkeysX : ∀ e xs rx, rowsX e xs = some rx → rx.map (·.1) = rows.map (·.1) ∧ idsOk tm rx gl = true)
    (hids : ∀ xs, idsOk tm (rowsI xs) gl = true) (hnd : nodupB (rows.map (·.1)) = true) (hK : rngOk tm rows gl wr.k K kr = true) (hkr : ∀ xs, ronly (rowsI xs) kr = true)
    (hvx : ∀ x, (vx x).length = ps.size ∧ okL (vx x) ∧ (vx x).all (fun v => v.ids.all (hasN K)) = true)
    (hB : ∀ x pre, beg ps al (vx x) (mkSt n tm (rowsI pre) gl) ((tmB x).map (·.1)) = some ((tmB x).map fun p => some p.2))
    (hbody : ∀ (l : Nat) (pre : List α) (x : α) (W : World) (σ : Env), pre.length < N → (∃ r, W.heap[l]? = some (.loop r)) → At P W ⟨wlOf σ (rowsI pre), σ, K⟩ n gl [.code body] (RoundQ W ⟨wlOf σ (rowsI pre), σ, K⟩ (nxt rowsI rowsX (pre ++ [x]))) (tmB x) (rowsI pre) (some l) [])
    (hdone : ∀ D xs, S xs → At P w0 wr n gl k Q tm (rowsI xs) none (D :: mk))
    (hstop : ∀ D e pre rx, Sp pre → rowsX e pre = some rx → match e with
      | .ret => ∀ a w ρ, Den w0 wr ρ (mkSt n tm rx gl (D :: mk)) a w → Q .ret a w
      | .exit id => ∃ k', exitTo id k = some k' ∧ At P w0 wr n gl k' Q tm rx none (D :: mk)
      | _ => False) :
    At P w0 wr n gl (.code (.rangeFunc g ps assign body) :: k) Q tm rows none mk := by
  intro a w ρ hd
  have hg' := (evalO_ok hd hg).1
  have hN := nodupB_ok hnd
  have hK2 := hK
  simp only [rngOk, Bool.and_eq_true, List.all_eq_true] at hK2
  obtain ⟨k1, k2, k3, k4⟩ := hK2
  have hmB : ∀ D ∈ mk, D < w.heap.size := fun D hD => lt_of_block (hd.mf.2 D hD).2
  have hown : ∀ rx : List (Nat × Row), OwnFrom w.heap.size (fun (_ : List α) W => ∃ σ, Rows0 w0 wr mk K ρ σ rx W) := fun rx s W W' row ⟨σ, h⟩ hgr hr => ⟨σ, h.own hd.fr.size hmB hgr hr⟩
  let Ix : Code → List α → World → Prop := fun c pre W => match c with
    | .ret => ∃ rx, rowsX .ret pre = some rx ∧ ∃ σ, Rows0 w0 wr mk K ρ σ rx W
    | .exit id => ∃ rx, rowsX (.exit id) pre = some rx ∧ ∃ σ, Rows0 w0 wr mk K ρ σ rx W
    | _ => False
  refine KX.codeR (n := 6) ?_
  refine wpIn_rangeFunc_ownH (F := FW none) rfl (by omega) (gf := gf) (lb := (rs.map fun r => Value.pointer (some ⟨(ρ r).1, (ρ r).2, none⟩)).toArray) hg' trivial he (hseq ρ w fun r row hr => (hd.rw r row hr).1)
    (fun h1 h2 r hr => (h2 r hr).trans (h1 r hr)) (fun W l o o' hl ho _ _ r hr => World.putObj_heap_other fun e => ?_) (Below.refl _ _) (fun x => ?_)
    (fun pre W => ∃ σ, Rows0 w0 wr mk K ρ σ (rowsI pre) W) Ix (fun s => hown (rowsI s) s) (fun c s W W' row hI hgr hr => ?_) ⟨ρ, by rw [h0]; exact Rows0.of_den hd⟩
    (fun x a' _ => a' = asgA al { tmps := (ps.zip ((vx x).map (TV.val ρ)).toArray).foldl (fun t (p, v) => t.setIfInBounds p v) a.tmps, defers := [] }) (fun x a' _ _ _ _ h _ _ => h) (fun l pre x W K' hi hK' => asg_ok ha (hK' _ _ (KeepsFrom.refl _ _) (fun _ _ => rfl) hi rfl)) ?_ ?_ ?_
  · have h1 := List.all_eq_true.1 (hkr []) r hr
    rw [h0] at h1
    cases hf : findR rows r with
    | none => rw [hf] at h1; cases h1
    | some row =>
      have := (hd.rw r row hf).1.1
      omega
  · simp [(hvx x).1]
  · cases c <;> first | exact hI.elim | skip
    · obtain ⟨rx, h1, h2⟩ := hI
      exact ⟨rx, h1, hown rx s W W' row h2 hgr hr⟩
    · obtain ⟨rx, h1, h2⟩ := hI
      exact ⟨rx, h1, hown rx s W W' row h2 hgr hr⟩
  · rintro l pre x a2 W hlB hlr ⟨σ, hR⟩ rfl hlen
    have hkN : ((rowsI pre).map (·.1)).Nodup := by rw [hkeys]; exact hN
    have hb := den_base hd hK (hkeys pre) (hids pre) hR
    have hbeg := hB x pre
    unfold beg at hbeg
    split at hbeg
    · rename_i s1 hs1
      split at hbeg
      · rename_i t ht
        simp only [Option.some.injEq] at hbeg
        have hvK : ∀ v ∈ vx x, v.ok ∧ ∀ r ∈ v.ids, (mkSt n tm (rowsI pre) gl).used r = true := fun v hv => ⟨okL_mem (hvx x).2.1 v hv, fun r hr => hb.ku r (hasN_iff.1 (List.all_eq_true.1 (List.all_eq_true.1 (hvx x).2.2 v hv) r hr))⟩
        have hb1 := parS_ok hs1 hb hvK
        have hb2 := asgS_ok ht hb1
        obtain ⟨f1, rfl⟩ := parS_keep hs1
        obtain ⟨f2, rfl⟩ := asgS_keep ht
        have hval : (vx x).map (TV.val σ) = (vx x).map (TV.val ρ) := List.map_congr_left fun v hv => TV.val_congr fun r hr => hR.env r (.inr (hasN_iff.1 (List.all_eq_true.1 (List.all_eq_true.1 (hvx x).2.2 v hv) r hr)))
        have hfold : (ps.zip ((vx x).map (TV.val ρ)).toArray).foldl (fun t (p, v) => t.setIfInBounds p v) a.tmps = (ps.toList.zip ((vx x).map (TV.val σ))).foldl (fun t (p : Tmp × Value) => t.setIfInBounds p.1 p.2) a.tmps := by
          rw [hval, ← Array.foldl_toList, Array.toList_zip]
        rw [hfold]
        have hin : Den W ⟨wlOf σ (rowsI pre), σ, K⟩ σ (mkSt n (tmB x) (rowsI pre) gl) (asgA al { tmps := (ps.toList.zip ((vx x).map (TV.val σ))).foldl (fun t (p : Tmp × Value) => t.setIfInBounds p.1 p.2) a.tmps, defers := [] }) W := by
          refine ⟨hb2.sz, hb2.df, hb2.mf, hb2.ko, fun q y hy => hb2.tm q y ?_, hb2.rw, hb2.ds, hb2.fr, hb2.e0, hb2.ku, hb2.gl, hb2.kn⟩
          rw [List.map_map] at hbeg
          exact (List.map_inj_left.1 hbeg) _ (findT_mem hy)
        refine wpIn_mono ((hbody l pre x W σ hlen hlr _ W σ hin).wpIn (n := 6 - 1 - 1)) ?_
        intro e a' W' hq
        obtain ⟨q1, q2, rx, q3, σ', q4⟩ := rows_round hR hq hkN
        have hkp : ∀ r ∈ kr, W'.heap[(ρ r).1]? = W.heap[(ρ r).1]? := by
          intro r hr
          have h1 := List.all_eq_true.1 (hkr pre) r hr
          cases hf : findR (rowsI pre) r with
          | none => rw [hf] at h1; cases h1
          | some row =>
            rw [hf] at h1
            have := q2 r row hf (by simpa using h1)
            rwa [hR.env r (.inr (hasN_iff.1 (k4 r hr)))] at this
        cases e with
        | normal =>
          cases q3
          exact ⟨⟨q1.size, fun k o _ h1 h2 => q1.same k o h1 h2⟩, hkp, σ', q4⟩
        | ret => exact ⟨⟨q1.size, fun k o _ h1 h2 => q1.same k o h1 h2⟩, rx, q3, σ', q4⟩
        | exit id => exact ⟨⟨q1.size, fun k o _ h1 h2 => q1.same k o h1 h2⟩, rx, q3, σ', q4⟩
        | goto t =>
          cases q3
        | panic t =>
          cases q3
        | outgrown =>
          cases q3
      · cases hbeg
    · cases hbeg
  · rintro D xs W hD hS ⟨σ, hR⟩ hDb
    exact hdone D xs hS _ W σ (den_after hd hK (hkeys xs) (hids xs) hR hD hDb)
  · intro D c pre W hD hS hI hDb
    cases c <;> first | exact hI.elim | skip
    · obtain ⟨rx, h1, σ, hR⟩ := hI
      obtain ⟨g1, g2⟩ := hkeysX _ _ _ h1
      obtain ⟨k', e1, e2⟩ := hstop D (.exit _) pre rx hS h1
      exact wpIn_exit (.inl ⟨k', e1, e2 _ W σ (den_after hd hK g1 g2 hR hD hDb)⟩)
    · obtain ⟨rx, h1, σ, hR⟩ := hI
      obtain ⟨g1, g2⟩ := hkeysX _ _ _ h1
      exact wpIn_ret (hstop D .ret pre rx hS h1 _ W σ (den_after hd hK g1 g2 hR hD hDb))
/-- **A range over a function within a round.** -/
theorem At.rangeN {l₀ : Nat} {P : Program} {w0 : World} {wr : Bs} {n : Nat} {gl : List Nat} {k : List Item} {Q : Exit → Act → World → Prop} {tm : List (Nat × TV)} {rows : List (Nat × Row)} {α : Type} {g : Operand} {ps : Array Tmp} {assign body : Code} {al : List (Tmp × Operand)} {gf : FuncId} {rs : List Nat}
    (K kr : List Nat) (vx : α → List TV) {S Sp : List α → Prop} {N : Nat} (rowsI : List α → List (Nat × Row)) (rowsX : Exit → List α → Option (List (Nat × Row))) (tmB : α → List (Nat × TV))
    (hg : evalO (mkSt n tm rows gl) g = some (.s (.lf (.clo gf rs)))) (he : Enters P gf) (ha : asg assign = some al)
    (hseq : ∀ (ρ : Env) (w : World), (∀ r row, findR rows r = some row → RowAt ρ r row w) → SeqStopsK (FW none) 5 P gf (rs.map fun r => Value.pointer (some ⟨(ρ r).1, (ρ r).2, none⟩)).toArray (fun x => ((vx x).map (TV.val ρ)).toArray) (fun W W' => ∀ r ∈ kr, W'.heap[(ρ r).1]? = W.heap[(ρ r).1]?) S Sp N w)
    (h0 : rowsI [] = rows) (hkeys : ∀ xs, (rowsI xs).map (·.1) = rows.map (·.1)) (hkeysX : ∀ e xs rx, rowsX e xs = some rx → rx.map (·.1) = rows.map (·.1) ∧ idsOk tm rx gl = true)
    (hids : ∀ xs, idsOk tm (rowsI xs) gl = true) (hnd : nodupB (rows.map (·.1)) = true) (hK : rngOk tm rows gl wr.k K kr = true) (hkr : ∀ xs, ronly (rowsI xs) kr = true)
    (hvx : ∀ x, (vx x).length = ps.size ∧ okL (vx x) ∧ (vx x).all (fun v => v.ids.all (hasN K)) = true)
    (hB : ∀ x pre, beg ps al (vx x) (mkSt n tm (rowsI pre) gl) ((tmB x).map (·.1)) = some ((tmB x).map fun p => some p.2))
    (hbody : ∀ (l : Nat) (pre : List α) (x : α) (W : World) (σ : Env), pre.length < N → (∃ r, W.heap[l]? = some (.loop r)) → At P W ⟨wlOf σ (rowsI pre), σ, K⟩ n gl [.code body] (RoundQ W ⟨wlOf σ (rowsI pre), σ, K⟩ (nxt rowsI rowsX (pre ++ [x]))) (tmB x) (rowsI pre) (some l) [])
    (hl₀ : ∃ r, w0.heap[l₀]? = some (.loop r))
    (hdone : ∀ xs, S xs → At P w0 wr n gl k Q tm (rowsI xs) (some l₀) [])
    (hstop : ∀ e pre rx, Sp pre → rowsX e pre = some rx → match e with
      | .ret => ∀ a w ρ, Den w0 wr ρ (mkSt n tm rx gl) a w → Q .ret a w
      | .exit id => (∃ k', exitTo id k = some k' ∧ At P w0 wr n gl k' Q tm rx (some l₀) []) ∨ (exitTo id k = none ∧ ∀ a w ρ, Den w0 wr ρ (mkSt n tm rx gl) a w → Q (.exit id) a w)
      | _ => False) :
    At P w0 wr n gl (.code (.rangeFunc g ps assign body) :: k) Q tm rows (some l₀) [] := by
  intro a w ρ hd
  have hg' := (evalO_ok hd hg).1
  have hN := nodupB_ok hnd
  have hK2 := hK
  simp only [rngOk, Bool.and_eq_true, List.all_eq_true] at hK2
  obtain ⟨k1, k2, k3, k4⟩ := hK2
  have hmB : ∀ D ∈ ([] : List Nat), D < w.heap.size := fun D hD => lt_of_block (hd.mf.2 D hD).2
  have hown : ∀ rx : List (Nat × Row), OwnFrom w.heap.size (fun (_ : List α) W => ∃ σ, Rows0 w0 wr [] K ρ σ rx W) := fun rx s W W' row ⟨σ, h⟩ hgr hr => ⟨σ, h.own hd.fr.size hmB hgr hr⟩
  let Ix : Code → List α → World → Prop := fun c pre W => match c with
    | .ret => ∃ rx, rowsX .ret pre = some rx ∧ ∃ σ, Rows0 w0 wr [] K ρ σ rx W
    | .exit id => ∃ rx, rowsX (.exit id) pre = some rx ∧ ∃ σ, Rows0 w0 wr [] K ρ σ rx W
    | _ => False
  obtain ⟨r₀, hr₀⟩ := hl₀
  have hlw : w.heap[l₀]? = some (.loop r₀) := hd.ko.same _ _ hr₀ rfl
  refine KX.codeR (n := 6) ?_
  refine wpIn_rangeFunc_ownN (F := FW (some l₀)) (l₀ := l₀) (r₀ := r₀) rfl hlw (by omega) (gf := gf) (lb := (rs.map fun r => Value.pointer (some ⟨(ρ r).1, (ρ r).2, none⟩)).toArray) hg' trivial he (hseq ρ w fun r row hr => (hd.rw r row hr).1)
    (fun h1 h2 r hr => (h2 r hr).trans (h1 r hr)) (fun W l o o' hl ho _ _ r hr => World.putObj_heap_other fun e => ?_) (Below.refl _ _) (fun x => ?_)
    (fun pre W => ∃ σ, Rows0 w0 wr [] K ρ σ (rowsI pre) W) Ix (fun s => hown (rowsI s) s) (fun c s W W' row hI hgr hr => ?_) ⟨ρ, by rw [h0]; exact Rows0.of_den hd⟩
    (fun x a' _ => a' = asgA al { tmps := (ps.zip ((vx x).map (TV.val ρ)).toArray).foldl (fun t (p, v) => t.setIfInBounds p v) a.tmps, defers := [] }) (fun x a' _ _ _ _ h _ _ => h) (fun l pre x W K' hi hK' => asg_ok ha (hK' _ _ (KeepsFrom.refl _ _) (fun _ _ => rfl) hi rfl)) ?_ ?_ ?_
  · have h1 := List.all_eq_true.1 (hkr []) r hr
    rw [h0] at h1
    cases hf : findR rows r with
    | none => rw [hf] at h1; cases h1
    | some row =>
      have := (hd.rw r row hf).1.1
      omega
  · simp [(hvx x).1]
  · cases c <;> first | exact hI.elim | skip
    · obtain ⟨rx, h1, h2⟩ := hI
      exact ⟨rx, h1, hown rx s W W' row h2 hgr hr⟩
    · obtain ⟨rx, h1, h2⟩ := hI
      exact ⟨rx, h1, hown rx s W W' row h2 hgr hr⟩
  · rintro l pre x a2 W hlB hlr ⟨σ, hR⟩ rfl hlen
    have hkN : ((rowsI pre).map (·.1)).Nodup := by rw [hkeys]; exact hN
    have hb := den_base hd hK (hkeys pre) (hids pre) hR
    have hbeg := hB x pre
    unfold beg at hbeg
    split at hbeg
    · rename_i s1 hs1
      split at hbeg
      · rename_i t ht
        simp only [Option.some.injEq] at hbeg
        have hvK : ∀ v ∈ vx x, v.ok ∧ ∀ r ∈ v.ids, (mkSt n tm (rowsI pre) gl).used r = true := fun v hv => ⟨okL_mem (hvx x).2.1 v hv, fun r hr => hb.ku r (hasN_iff.1 (List.all_eq_true.1 (List.all_eq_true.1 (hvx x).2.2 v hv) r hr))⟩
        have hb1 := parS_ok hs1 hb hvK
        have hb2 := asgS_ok ht hb1
        obtain ⟨f1, rfl⟩ := parS_keep hs1
        obtain ⟨f2, rfl⟩ := asgS_keep ht
        have hval : (vx x).map (TV.val σ) = (vx x).map (TV.val ρ) := List.map_congr_left fun v hv => TV.val_congr fun r hr => hR.env r (.inr (hasN_iff.1 (List.all_eq_true.1 (List.all_eq_true.1 (hvx x).2.2 v hv) r hr)))
        have hfold : (ps.zip ((vx x).map (TV.val ρ)).toArray).foldl (fun t (p, v) => t.setIfInBounds p v) a.tmps = (ps.toList.zip ((vx x).map (TV.val σ))).foldl (fun t (p : Tmp × Value) => t.setIfInBounds p.1 p.2) a.tmps := by
          rw [hval, ← Array.foldl_toList, Array.toList_zip]
        rw [hfold]
        have hin : Den W ⟨wlOf σ (rowsI pre), σ, K⟩ σ (mkSt n (tmB x) (rowsI pre) gl) (asgA al { tmps := (ps.toList.zip ((vx x).map (TV.val σ))).foldl (fun t (p : Tmp × Value) => t.setIfInBounds p.1 p.2) a.tmps, defers := [] }) W := by
          refine ⟨hb2.sz, hb2.df, hb2.mf, hb2.ko, fun q y hy => hb2.tm q y ?_, hb2.rw, hb2.ds, hb2.fr, hb2.e0, hb2.ku, hb2.gl, hb2.kn⟩
          rw [List.map_map] at hbeg
          exact (List.map_inj_left.1 hbeg) _ (findT_mem hy)
        refine wpIn_mono ((hbody l pre x W σ hlen hlr _ W σ hin).wpIn (n := 6 - 1 - 1)) ?_
        intro e a' W' hq
        obtain ⟨q1, q2, rx, q3, σ', q4⟩ := rows_round hR hq hkN
        have hkp : ∀ r ∈ kr, W'.heap[(ρ r).1]? = W.heap[(ρ r).1]? := by
          intro r hr
          have h1 := List.all_eq_true.1 (hkr pre) r hr
          cases hf : findR (rowsI pre) r with
          | none => rw [hf] at h1; cases h1
          | some row =>
            rw [hf] at h1
            have := q2 r row hf (by simpa using h1)
            rwa [hR.env r (.inr (hasN_iff.1 (k4 r hr)))] at this
        cases e with
        | normal =>
          cases q3
          exact ⟨⟨q1.size, fun k o _ h1 h2 => q1.same k o h1 h2⟩, hkp, σ', q4⟩
        | ret => exact ⟨⟨q1.size, fun k o _ h1 h2 => q1.same k o h1 h2⟩, rx, q3, σ', q4⟩
        | exit id => exact ⟨⟨q1.size, fun k o _ h1 h2 => q1.same k o h1 h2⟩, rx, q3, σ', q4⟩
        | goto t =>
          cases q3
        | panic t =>
          cases q3
        | outgrown =>
          cases q3
      · cases hbeg
    · cases hbeg
  · rintro xs W hS ⟨σ, hR⟩
    exact hdone xs hS _ W σ (den_after0 hd hK (hkeys xs) (hids xs) hR)
  · intro c pre W hS hI
    cases c <;> first | exact hI.elim | skip
    · obtain ⟨rx, h1, σ, hR⟩ := hI
      obtain ⟨g1, g2⟩ := hkeysX _ _ _ h1
      rcases hstop (.exit _) pre rx hS h1 with ⟨k', e1, e2⟩ | ⟨e1, e2⟩
      · exact wpIn_exit (.inl ⟨k', e1, e2 _ W σ (den_after0 hd hK g1 g2 hR)⟩)
      · exact wpIn_exit (.inr ⟨e1, e2 _ W σ (den_after0 hd hK g1 g2 hR)⟩)
    · obtain ⟨rx, h1, σ, hR⟩ := hI
      obtain ⟨g1, g2⟩ := hkeysX _ _ _ h1
      exact wpIn_ret (hstop .ret pre rx hS h1 _ W σ (den_after0 hd hK g1 g2 hR))
end Go.Proofs.YtgbaaiedpiiepaaDoor.E
