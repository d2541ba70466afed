/- Several texts, one behind the other; each says by itself what it proves, and on what conditions. -/
import Derived.Test.YtdbbcngolcnniaaGreatDoorY06
import Derived.RangeFuncNested
/- The rule for a range over a function. No condition. -/
namespace Go.Proofs.YtdbbcngolcnniaaGreatDoor.E
open Go Go.RowKit
set_option linter.unusedVariables false
set_option linter.unusedSimpArgs false
def RangeQ (P : Program) (r : Option Nat) (k : List Item) (Q : Exit → Act → World → Prop) : Exit → Act → World → Prop
 | .normal, a, w => KX P r k Q a w
 | .ret, a, w => Q .ret a w
 | .exit id, a, w => (∃ k', exitTo id k = some k' ∧ KX P r k' Q a w) ∨ (exitTo id k = none ∧ Q (.exit id) a w)
 | _, _, _ => False
theorem KX.codeR {P : Program} {r : Option Nat} {k : List Item} {Q : Exit → Act → World → Prop} {a : Act} {w : World} {c : Code} {n : Nat} (h : c.wpIn (FW r) n P (RangeQ P r k Q) a w) : KX P r (.code c :: k) Q a w := by
 intro b k2 cs hb
 obtain ⟨e, a1, w1, hq, harr⟩ := h b (k ++ k2) cs hb trivial (room_FW _)
 cases e with
 | normal =>
  obtain ⟨e2, a', w', q, r⟩ := hq b k2 cs hb
  exact ⟨e2, a', w', q, .of_steps harr r⟩
 | ret => exact ⟨.ret, a1, w1, hq, harr⟩
 | exit id =>
  rcases hq with ⟨k', h1, h2⟩ | ⟨h1, h2⟩
  ·obtain ⟨e2, a', w', q, r⟩ := h2 b k2 cs hb
   exact ⟨e2, a', w', q, .of_steps (harr.1 _ (exitTo_append h1)) r⟩
  ·refine ⟨.exit id, a1, w1, h2, fun k' hk => harr.1 k' (by rw [exitTo_none h1]; exact hk), fun hr hk => harr.2 hr (by rw [exitTo_none h1]; exact hk)⟩
 | goto _ => exact hq.elim
 | panic _ => exact hq.elim
 | outgrown => exact hq.elim
theorem parS_keep : ∀ {ps : List Tmp} {vs : List TV} {s t : St}, parS ps vs s = some t → ∃ f, t = { s with tmps := f }
 | [], [], s, t, h => by cases h; exact ⟨s.tmps, rfl⟩
 | [], _ :: _, _, _, h => by cases h
 | _ :: _, [], _, _, h => by cases h
 | d :: ps, v :: vs, s, t, h => by
  unfold parS at h
  cases hb : Nat.ble (d + 1) s.n with
  | false => rw [hb] at h; cases h
  | true =>
   rw [hb] at h
   obtain ⟨f, hf⟩ := parS_keep h
   exact ⟨f, hf⟩
theorem asgS_keep : ∀ {l : List (Tmp × Operand)} {s t : St}, asgS l s = some t → ∃ f, t = { s with tmps := f }
 | [], s, t, h => by cases h; exact ⟨s.tmps, rfl⟩
 | p :: l, s, t, h => by
  unfold asgS at h
  split at h
  ·cases hb : Nat.ble (p.1 + 1) s.n with
   | false => rw [hb] at h; cases h
   | true =>
    rw [hb] at h
    obtain ⟨f, hf⟩ := asgS_keep h
    exact ⟨f, hf⟩
  ·cases h
def beg (ps : Array Tmp) (al : List (Tmp × Operand)) (vs : List TV) (s : St) (ks : List Nat) : Option (List (Option TV)) :=
 match parS ps.toList vs s with
 | some s1 => match asgS al s1 with
  | some t => some (ks.map t.tmps)
  | none => none
 | none => none
def rngOk (tm : List (Nat × TV)) (rows : List (Nat × Row)) (gl wk K kr : List Nat) : Bool :=
 tm.all (fun p => p.2.ids.all (hasN K)) && (wk.all (hasN K) && (K.all (hasN (rows.map (·.1) ++ gl.map (500 + ·))) && kr.all (hasN K)))
def ronly (rows : List (Nat × Row)) (kr : List Nat) : Bool := kr.all fun r => match findR rows r with
 | some row => !row.w
 | none => false
def nxt {α : Type} (rowsI : List α → List (Nat × Row)) (rowsX : Exit → List α → Option (List (Nat × Row))) (xs : List α) (e : Exit) : Option (List (Nat × Row)) :=
 match e with
 | .normal => some (rowsI xs)
 | .ret => rowsX .ret xs
 | .exit id => rowsX (.exit id) xs
 | _ => none
theorem den_base {w0 : World} {wr : Bs} {ρ σ : Env} {n : Nat} {tm : List (Nat × TV)} {rows rx : List (Nat × Row)} {gl mk K kr : List Nat} {a : Act} {w W : World} (hd : Den w0 wr ρ (mkSt n tm rows gl mk) a w) (hK : rngOk tm rows gl wr.k K kr = true) (hk : rx.map (·.1) = rows.map (·.1)) (hi : idsOk tm rx gl = true)
  (hR : Rows0 w0 wr mk K ρ σ rx W) : Den W ⟨wlOf σ rx, σ, K⟩ σ (mkSt n tm rx gl) { tmps := a.tmps, defers := [] } W := by
 simp only [rngOk, Bool.and_eq_true, List.all_eq_true] at hK
 obtain ⟨k1, k2, k3, k4⟩ := hK
 simp only [idsOk, Bool.and_eq_true, List.all_eq_true] at hi
 refine ⟨hd.sz, rfl, ⟨List.nodup_nil, fun D hD => by cases hD⟩, KeepsOthers.refl _, fun t x hx => ?_, fun r row hr => ?_, hR.ds, Fr.refl _ _, fun _ _ => rfl, fun r hr => ?_, fun g hg hu => ?_, fun r B h => by cases h⟩
 ·obtain ⟨g1, g2, g3⟩ := hd.tm t x hx
  refine ⟨?_, g2, fun r hr => hi.1 _ (findT_mem hx) r hr⟩
  rw [g1, TV.val_congr (fun r hr => (hR.env r (.inr (hasN_iff.1 (k1 _ (findT_mem hx) r hr)))).symm)]
 ·obtain ⟨g1, g2, g3⟩ := hR.rw r row hr
  have hm := findR_mem hr
  exact ⟨g1, g2, hasN_iff.2 (List.mem_append.2 (.inl (List.mem_map.2 ⟨_, hm, rfl⟩))), fun q hq => hi.2 _ hm q hq, fun hw => .inr (mem_wlOf hm hw)⟩
 ·show hasN (rx.map (·.1) ++ _) r = true
  rw [hk]; exact k3 r hr
 ·have hu2 : hasN (rows.map (·.1) ++ gl.map (500 + ·)) (500 + g) = true := by rw [← hk]; exact hu
  rw [hR.env _ (.inl (by omega))]
  exact hd.gl g hg hu2
theorem den_after {w0 : World} {wr : Bs} {ρ σ : Env} {n : Nat} {tm : List (Nat × TV)} {rows rx : List (Nat × Row)} {gl mk K kr : List Nat} {a : Act} {w W : World} {D : Nat} (hd : Den w0 wr ρ (mkSt n tm rows gl mk) a w) (hK : rngOk tm rows gl wr.k K kr = true) (hk : rx.map (·.1) = rows.map (·.1)) (hi : idsOk tm rx gl = true)
  (hR : Rows0 w0 wr mk K ρ σ rx W) (hD : w.heap.size ≤ D) (hb : W.heap[D]? = some (.deferred (some []))) : Den w0 wr σ (mkSt n tm rx gl (D :: mk)) { a with defers := { target := .collected D, args := #[] } :: a.defers } W := by
 have h1 := den_base hd hK hk hi hR
 simp only [rngOk, Bool.and_eq_true, List.all_eq_true] at hK
 obtain ⟨k1, k2, k3, k4⟩ := hK
 refine ⟨hd.sz, ?_, ⟨?_, fun E hE => ?_⟩, hR.ko, h1.tm, fun r row hr => ?_, hR.ds, hR.fr, fun r hr => ?_, fun r hr => h1.ku r (hasN_iff.1 (k2 r hr)), h1.gl, fun r B h => by cases h⟩
 ·show _ :: a.defers = _
  rw [hd.df]; rfl
 ·show (D :: mk).Nodup
  rw [List.nodup_cons]
  refine ⟨fun hm => ?_, hR.mf.1⟩
  have := lt_of_block (hd.mf.2 D hm).2
  omega
 ·rcases List.mem_cons.1 hE with rfl | hE
  ·exact ⟨Nat.le_trans hd.fr.size hD, hb⟩
  ·exact hR.mf.2 E hE
 ·obtain ⟨g1, g2, g3, g4, _⟩ := h1.rw r row hr
  exact ⟨g1, g2, g3, g4, (hR.rw r row hr).2.2⟩
 ·rw [hR.env r (hr.imp id fun h => hasN_iff.1 (k2 r h))]
  exact hd.e0 r hr
theorem rows_round {w0 : World} {wr : Bs} {ρ σ : Env} {rx : List (Nat × Row)} {mk K : List Nat} {W W' : World} {nx : Exit → Option (List (Nat × Row))} {e : Exit} {a : Act} (hR : Rows0 w0 wr mk K ρ σ rx W) (h : RoundQ W ⟨wlOf σ rx, σ, K⟩ nx e a W') (hn : (rx.map (·.1)).Nodup) :
  KeepsOthers W W' ∧ (∀ r row, findR rx r = some row → row.w = false → W'.heap[(σ r).1]? = W.heap[(σ r).1]?) ∧ ∃ rows, nx e = some rows ∧ ∃ σ', Rows0 w0 wr mk K ρ σ' rows W' := by
 obtain ⟨rows, h1, h2, h3, σ', h4, h5, h6⟩ := h
 have hin : ∀ b ∈ wlOf σ rx, w0.heap.size ≤ b ∨ b ∈ wr.l := by
  intro b hb
  obtain ⟨p, hp, hw, rfl⟩ := wlOf_mem hb
  exact (hR.rw p.1 p.2 (findR_nodup hn hp)).2.2 hw
 refine ⟨h2, fun r row hr hw => ?_, rows, h1, σ', fun r hr => (h4 r hr).trans (hR.env r hr), ⟨hR.mf.1, fun D hD => ⟨(hR.mf.2 D hD).1, h2.same _ _ (hR.mf.2 D hD).2 rfl⟩⟩, hR.ko.trans h2, ?_, fun r row hr => ?_, h6⟩
 ·refine h3.block _ (hR.rw r row hr).1.1 fun hb => ?_
  obtain ⟨p, hp, hpw, he⟩ := wlOf_mem hb
  have hfp := findR_nodup hn hp
  have hne : p.1 ≠ r := fun e => by
   rw [e, hr] at hfp
   cases hfp
   rw [hw] at hpw; cases hpw
  exact hR.ds p.1 r p.2 row hfp hr hne hpw he.symm
 ·refine ⟨h3.os.trans hR.fr.os, h3.tape.trans hR.fr.tape, h3.output.trans hR.fr.output, Nat.le_trans hR.fr.size h3.size, fun k hk hkn => ?_⟩
  have hkW : k < W.heap.size := Nat.lt_of_lt_of_le hk hR.fr.size
  refine (h3.block k hkW fun hb => ?_).trans (hR.fr.block k hk hkn)
  rcases hin k hb with h | h
  ·omega
  ·exact hkn h
 ·obtain ⟨g1, g2, g3⟩ := h5 r row hr
  refine ⟨g1, g2, fun hw => ?_⟩
  rcases g3 hw with h | h
  ·exact .inl (Nat.le_trans hR.fr.size h)
  ·exact hin _ h
theorem At.range {P : Program} {w0 : World} {wr : Bs} {n : Nat} {gl : List Nat} {k : List Item} {Q : Exit → Act → World → Prop} {tm : List (Nat × TV)} {rows : List (Nat × Row)} {mk : List Nat} {α : Type} {g : Operand} {ps : Array Tmp} {assign body : Code} {al : List (Tmp × Operand)} {gf : FuncId} {rs : List Nat}
  (K kr : List Nat) (vx : α → List TV) {S Sp : List α → Prop} {N : Nat} (rowsI : List α → List (Nat × Row)) (rowsX : Exit → List α → Option (List (Nat × Row))) (tmB : α → List (Nat × TV))
  (hg : evalO (mkSt n tm rows gl mk) g = some (.s (.lf (.clo gf rs)))) (he : Enters P gf) (ha : asg assign = some al)
  (hseq : ∀ (ρ : Env) (w : World), (∀ r row, findR rows r = some row → RowAt ρ r row w) → SeqStopsK (FW none) 5 P gf (rs.map fun r => Value.pointer (some ⟨(ρ r).1, (ρ r).2, none⟩)).toArray (fun x => ((vx x).map (TV.val ρ)).toArray) (fun W W' => ∀ r ∈ kr, W'.heap[(ρ r).1]? = W.heap[(ρ r).1]?) S Sp N w)
  (h0 : rowsI [] = rows) (hkeys : ∀ xs, (rowsI xs).map (·.1) = rows.map (·.1)) (hkeysX : ∀ e xs rx, rowsX e xs = some rx → rx.map (·.1) = rows.map (·.1) ∧ idsOk tm rx gl = true)
  (hids : ∀ xs, idsOk tm (rowsI xs) gl = true) (hnd : nodupB (rows.map (·.1)) = true) (hK : rngOk tm rows gl wr.k K kr = true) (hkr : ∀ xs, ronly (rowsI xs) kr = true)
  (hvx : ∀ x, (vx x).length = ps.size ∧ okL (vx x) ∧ (vx x).all (fun v => v.ids.all (hasN K)) = true)
  (hB : ∀ x pre, beg ps al (vx x) (mkSt n tm (rowsI pre) gl) ((tmB x).map (·.1)) = some ((tmB x).map fun p => some p.2))
  (hbody : ∀ (l : Nat) (pre : List α) (x : α) (W : World) (σ : Env), pre.length < N → (∃ r, W.heap[l]? = some (.loop r)) → At P W ⟨wlOf σ (rowsI pre), σ, K⟩ n gl [.code body] (RoundQ W ⟨wlOf σ (rowsI pre), σ, K⟩ (nxt rowsI rowsX (pre ++ [x]))) (tmB x) (rowsI pre) (some l) [])
  (hdone : ∀ D xs, S xs → At P w0 wr n gl k Q tm (rowsI xs) none (D :: mk))
  (hstop : ∀ D e pre rx, Sp pre → rowsX e pre = some rx → match e with
   | .ret => ∀ a w ρ, Den w0 wr ρ (mkSt n tm rx gl (D :: mk)) a w → Q .ret a w
   | .exit id => ∃ k', exitTo id k = some k' ∧ At P w0 wr n gl k' Q tm rx none (D :: mk)
   | _ => False) :
  At P w0 wr n gl (.code (.rangeFunc g ps assign body) :: k) Q tm rows none mk := by
 intro a w ρ hd
 have hg' := (evalO_ok hd hg).1
 have hN := nodupB_ok hnd
 have hK2 := hK
 simp only [rngOk, Bool.and_eq_true, List.all_eq_true] at hK2
 obtain ⟨k1, k2, k3, k4⟩ := hK2
 have hmB : ∀ D ∈ mk, D < w.heap.size := fun D hD => lt_of_block (hd.mf.2 D hD).2
 have hown : ∀ rx : List (Nat × Row), OwnFrom w.heap.size (fun (_ : List α) W => ∃ σ, Rows0 w0 wr mk K ρ σ rx W) := fun rx s W W' row ⟨σ, h⟩ hgr hr => ⟨σ, h.own hd.fr.size hmB hgr hr⟩
 let Ix : Code → List α → World → Prop := fun c pre W => match c with
  | .ret => ∃ rx, rowsX .ret pre = some rx ∧ ∃ σ, Rows0 w0 wr mk K ρ σ rx W
  | .exit id => ∃ rx, rowsX (.exit id) pre = some rx ∧ ∃ σ, Rows0 w0 wr mk K ρ σ rx W
  | _ => False
 refine KX.codeR (n := 6) ?_
 refine wpIn_rangeFunc_ownH (F := FW none) rfl (by omega) (gf := gf) (lb := (rs.map fun r => Value.pointer (some ⟨(ρ r).1, (ρ r).2, none⟩)).toArray) hg' trivial he (hseq ρ w fun r row hr => (hd.rw r row hr).1)
  (fun h1 h2 r hr => (h2 r hr).trans (h1 r hr)) (fun W l o o' hl ho _ _ r hr => World.putObj_heap_other fun e => ?_) (Below.refl _ _) (fun x => ?_)
  (fun pre W => ∃ σ, Rows0 w0 wr mk K ρ σ (rowsI pre) W) Ix (fun s => hown (rowsI s) s) (fun c s W W' row hI hgr hr => ?_) ⟨ρ, by rw [h0]; exact Rows0.of_den hd⟩
  (fun x a' _ => a' = asgA al { tmps := (ps.zip ((vx x).map (TV.val ρ)).toArray).foldl (fun t (p, v) => t.setIfInBounds p v) a.tmps, defers := [] }) (fun x a' _ _ _ _ h _ _ => h) (fun l pre x W K' hi hK' => asg_ok ha (hK' _ _ (KeepsFrom.refl _ _) (fun _ _ => rfl) hi rfl)) ?_ ?_ ?_
 ·have h1 := List.all_eq_true.1 (hkr []) r hr
  rw [h0] at h1
  cases hf : findR rows r with
  | none => rw [hf] at h1; cases h1
  | some row =>
   have := (hd.rw r row hf).1.1
   omega
 ·simp [(hvx x).1]
 ·cases c <;> first | exact hI.elim | skip
  ·obtain ⟨rx, h1, h2⟩ := hI
   exact ⟨rx, h1, hown rx s W W' row h2 hgr hr⟩
  ·obtain ⟨rx, h1, h2⟩ := hI
   exact ⟨rx, h1, hown rx s W W' row h2 hgr hr⟩
 ·rintro l pre x a2 W hlB hlr ⟨σ, hR⟩ rfl hlen
  have hkN : ((rowsI pre).map (·.1)).Nodup := by rw [hkeys]; exact hN
  have hb := den_base hd hK (hkeys pre) (hids pre) hR
  have hbeg := hB x pre
  unfold beg at hbeg
  split at hbeg
  ·rename_i s1 hs1
   split at hbeg
   ·rename_i t ht
    simp only [Option.some.injEq] at hbeg
    have hvK : ∀ v ∈ vx x, v.ok ∧ ∀ r ∈ v.ids, (mkSt n tm (rowsI pre) gl).used r = true := fun v hv => ⟨okL_mem (hvx x).2.1 v hv, fun r hr => hb.ku r (hasN_iff.1 (List.all_eq_true.1 (List.all_eq_true.1 (hvx x).2.2 v hv) r hr))⟩
    have hb1 := parS_ok hs1 hb hvK
    have hb2 := asgS_ok ht hb1
    obtain ⟨f1, rfl⟩ := parS_keep hs1
    obtain ⟨f2, rfl⟩ := asgS_keep ht
    have hval : (vx x).map (TV.val σ) = (vx x).map (TV.val ρ) := List.map_congr_left fun v hv => TV.val_congr fun r hr => hR.env r (.inr (hasN_iff.1 (List.all_eq_true.1 (List.all_eq_true.1 (hvx x).2.2 v hv) r hr)))
    have hfold : (ps.zip ((vx x).map (TV.val ρ)).toArray).foldl (fun t (p, v) => t.setIfInBounds p v) a.tmps = (ps.toList.zip ((vx x).map (TV.val σ))).foldl (fun t (p : Tmp × Value) => t.setIfInBounds p.1 p.2) a.tmps := by
     rw [hval, ← Array.foldl_toList, Array.toList_zip]
    rw [hfold]
    have hin : Den W ⟨wlOf σ (rowsI pre), σ, K⟩ σ (mkSt n (tmB x) (rowsI pre) gl) (asgA al { tmps := (ps.toList.zip ((vx x).map (TV.val σ))).foldl (fun t (p : Tmp × Value) => t.setIfInBounds p.1 p.2) a.tmps, defers := [] }) W := by
     refine ⟨hb2.sz, hb2.df, hb2.mf, hb2.ko, fun q y hy => hb2.tm q y ?_, hb2.rw, hb2.ds, hb2.fr, hb2.e0, hb2.ku, hb2.gl, hb2.kn⟩
     rw [List.map_map] at hbeg
     exact (List.map_inj_left.1 hbeg) _ (findT_mem hy)
    refine wpIn_mono ((hbody l pre x W σ hlen hlr _ W σ hin).wpIn (n := 6 - 1 - 1)) ?_
    intro e a' W' hq
    obtain ⟨q1, q2, rx, q3, σ', q4⟩ := rows_round hR hq hkN
    have hkp : ∀ r ∈ kr, W'.heap[(ρ r).1]? = W.heap[(ρ r).1]? := by
     intro r hr
     have h1 := List.all_eq_true.1 (hkr pre) r hr
     cases hf : findR (rowsI pre) r with
     | none => rw [hf] at h1; cases h1
     | some row =>
      rw [hf] at h1
      have := q2 r row hf (by simpa using h1)
      rwa [hR.env r (.inr (hasN_iff.1 (k4 r hr)))] at this
    cases e with
    | normal =>
     cases q3
     exact ⟨⟨q1.size, fun k o _ h1 h2 => q1.same k o h1 h2⟩, hkp, σ', q4⟩
    | ret => exact ⟨⟨q1.size, fun k o _ h1 h2 => q1.same k o h1 h2⟩, rx, q3, σ', q4⟩
    | exit id => exact ⟨⟨q1.size, fun k o _ h1 h2 => q1.same k o h1 h2⟩, rx, q3, σ', q4⟩
    | goto t =>
     cases q3
    | panic t =>
     cases q3
    | outgrown =>
     cases q3
   ·cases hbeg
  ·cases hbeg
 ·rintro D xs W hD hS ⟨σ, hR⟩ hDb
  exact hdone D xs hS _ W σ (den_after hd hK (hkeys xs) (hids xs) hR hD hDb)
 ·intro D c pre W hD hS hI hDb
  cases c <;> first | exact hI.elim | skip
  ·obtain ⟨rx, h1, σ, hR⟩ := hI
   obtain ⟨g1, g2⟩ := hkeysX _ _ _ h1
   obtain ⟨k', e1, e2⟩ := hstop D (.exit _) pre rx hS h1
   exact wpIn_exit (.inl ⟨k', e1, e2 _ W σ (den_after hd hK g1 g2 hR hD hDb)⟩)
  ·obtain ⟨rx, h1, σ, hR⟩ := hI
   obtain ⟨g1, g2⟩ := hkeysX _ _ _ h1
   exact wpIn_ret (hstop D .ret pre rx hS h1 _ W σ (den_after hd hK g1 g2 hR hD hDb))
end Go.Proofs.YtdbbcngolcnniaaGreatDoor.E
/- Functions that are iterators: calls of what is given to yield. No condition. -/
namespace Go.Proofs.YtdbbcngolcnniaaGreatDoor.E
open Go Go.RowKit
set_option linter.unusedVariables false
set_option linter.unusedSimpArgs false
theorem At.loopM {P : Program} {r : Option Nat} {n : Nat} {gl : List Nat} {Q : Exit → Act → World → Prop} {c : Code} {k : List Item} {α : Type} (w0 : α → World) (wr : α → Bs) (mk : α → List Nat) (tm : α → List (Nat × TV)) (rows : α → List (Nat × Row)) (I : α → Prop) (μ : α → Nat)
  (h : ∀ x, I x → (∀ y, I y → μ y < μ x → At P (w0 y) (wr y) n gl (.code c :: .inLoop c :: k) Q (tm y) (rows y) r (mk y)) → At P (w0 x) (wr x) n gl (.code c :: .inLoop c :: k) Q (tm x) (rows x) r (mk x)) :
  ∀ x, I x → At P (w0 x) (wr x) n gl (.code c :: .inLoop c :: k) Q (tm x) (rows x) r (mk x) := by
 intro x hx a w ρ hd
 refine KX.loop (D := fun x a w => I x ∧ ∃ ρ, Den (w0 x) (wr x) ρ (mkSt n (tm x) (rows x) gl (mk x)) a w) μ ?_ x a w ⟨hx, ρ, hd⟩
 rintro x ih a w ⟨hx, ρ, hd⟩
 exact h x hx (fun y hy hlt a w ρ hd => ih y hlt a w ⟨hy, ρ, hd⟩) a w ρ hd
theorem At.loopW {P : Program} {r : Option Nat} {mk : List Nat} {n : Nat} {gl : List Nat} {Q : Exit → Act → World → Prop} {c : Code} {k : List Item} {α : Type} (w0 : α → World) (wr : α → Bs) (tm : α → List (Nat × TV)) (rows : α → List (Nat × Row)) (I : α → Prop) (μ : α → Nat)
  (h : ∀ x, I x → (∀ y, I y → μ y < μ x → At P (w0 y) (wr y) n gl (.code c :: .inLoop c :: k) Q (tm y) (rows y) r mk) → At P (w0 x) (wr x) n gl (.code c :: .inLoop c :: k) Q (tm x) (rows x) r mk) :
  ∀ x, I x → At P (w0 x) (wr x) n gl (.code c :: .inLoop c :: k) Q (tm x) (rows x) r mk := At.loopM w0 wr (fun _ => mk) tm rows I μ h
theorem grown_of_fr {w0 w : World} (h : Fr w0 [] w) : w0.grownBy w none := ⟨h.os, h.tape, h.output, h.size, fun k hk _ => h.block k hk (by simp)⟩
theorem abides_fr {α : Type} {B : Nat} {J : α → World → Prop} (hJ : AbidesFrom B J) {x : α} {w0 w : World} (h : J x w0) (hf : Fr w0 [] w) : J x w := hJ x w0 w none h (grown_of_fr hf) (fun r e => by cases e)
theorem wpIn_out {P : Program} {F : Fence} {n : Nat} {o : Oper} {a : Act} {w : World} {K : Act → World → Prop} {Q Q' : Exit → Act → World → Prop} (h : o.wpIn F n P a w K Q) (hq : ∀ e a w, e ≠ .normal → Q e a w → False) : o.wpIn F n P a w K Q' := by
 refine ⟨h.1, ?_⟩
 have h2 := h.2
 revert h2
 generalize (o.semAt F.round a.eval).run P w = res
 intro h2
 have hl : LetsOut Q → LetsOut Q' := fun ⟨a, w, h⟩ => (hq _ a w (by simp) h).elim
 cases res with
 | ok x w' =>
  cases x with
  | enter f args => exact ⟨h2.1, CallsIn.mono h2.2 fun e w'' he => by cases e <;> first | exact he | exact (hq _ _ _ (by simp) he).elim | exact hl he⟩
  | round l f tmps assign body => exact ⟨h2.1, RoundIn.mono h2.2 fun e w'' he => by cases e <;> first | exact he | exact (hq _ _ _ (by simp) he).elim | exact hl he⟩
  | _ => exact h2
 | halt x w' => cases x <;> first | exact (hq _ _ _ (by simp) h2).elim | exact h2
theorem wpOpsIn_append {P : Program} {ops : Array Oper} {r : Option Nat} {n : Nat} {Q : Exit → Act → World → Prop} {K : Act → World → Prop} (hn : noDef ops = true) {l2 : List Nat} (h2 : ∀ a w, K a w → wpOpsIn (FW r) n P ops Q l2 a w) :
  ∀ (l : List Nat) (a : Act) (w : World), wpOps P ops (fun e a w => e = .normal ∧ K a w) l a w → wpOpsIn (FW r) n P ops Q (l ++ l2) a w
 | [], a, w, h => h2 a w h.2
 | i :: l, a, w, h => by
  rw [wpOps_cons] at h
  rw [List.cons_append, wpOpsIn_cons]
  have hL : ¬ LetsOut (fun e a w => e = Exit.normal ∧ K a w) := fun ⟨_, _, h, _⟩ => by cases h
  unfold wpOp at h
  unfold wpOpIn
  cases hk : ops[i]? with
  | none => rw [hk] at h; exact wpOpsIn_append hn h2 l _ _ h
  | some o =>
   rw [hk] at h
   simp only at h ⊢
   split
   ·rename_i hw
    rw [if_pos hw] at h
    rcases h with h | h
    ·have h3 := wpIn_of_wp (r := r) (n := n) (noDef_ok hn hk) h
     refine wpIn_out (Oper.wpIn_mono (fun a w h => wpOpsIn_append hn h2 l a w h) h3) (fun e a w he h => he h.1)
    ·exact absurd h.2 hL
   ·rename_i hw
    rw [if_neg hw] at h
    exact ⟨fun _ _ => trivial, wpOpsIn_append hn h2 l _ _ h⟩
def yRun (P : Program) (C : Hints) (ops : Array Oper) (base m : Nat) (s : St) : Option (List Prop × St) := runL P C ops base (recL P C ops base m 0 s) m 0 s
def yRest (P : Program) (C : Hints) (ops : Array Oper) (base m : Nat) (s : St) : Option (List Prop × St) :=
 runL P C ops base (List.replicate (m + 1) ([], []) ++ recL P C ops base (ops.size - (m + 1)) (m + 1) s) (ops.size - (m + 1)) (m + 1) s
def yCall (ops : Array Oper) (m : Nat) (s : St) : Option (Tmp × Nat × List TV) :=
 match ops[m]? with
 | some o => match o.guard, o.dst, o.op with
  | none, some d, .call c => match c.callee with
   | .value y => match evalO s y, evalL s c.args.toList with
    | some (.s (.lf (.v (.func (.yield l) fi ca)))), some vs => bif Nat.ble (d + 1) s.n && (Nat.beq fi.toList.length 0 && Nat.beq ca.toList.length 0) then some (d, l, vs) else none
    | _, _ => none
   | _ => none
  | _, _, _ => none
 | none => none
def keepR (kr : List Nat) (f : Nat → Option Row) (r : Nat) : Option Row := bif hasN kr r then match f r with
 | some row => some ⟨row.ps, false, row.cp⟩
 | none => none else none
def aftY (kr : List Nat) (d : Tmp) (b : Bool) (s : St) : St := { s with tmps := setT s.tmps (some d) (.v (.bool b)), row := keepR kr s.row }
def yield1 (P : Program) (C : Hints) (ops : Array Oper) (base m : Nat) (kr : List Nat) (s : St) (b : Bool) (ks rs : List Nat) : Option (List Prop × Nat × List TV × List Prop × List (Option TV) × List (Option Row)) :=
 match yRun P C ops base m s with
 | some (o1, s1) => match yCall ops m s1 with
  | some (d, l, vs) => match yRest P C ops base m (aftY kr d b s1) with
   | some (o2, s2) => some (o1, l, vs, o2, ks.map s2.tmps, rs.map s2.row)
   | none => none
  | none => none
 | none => none
theorem yCall_lt {ops : Array Oper} {m : Nat} {s : St} {d l : Nat} {vs : List TV} (h : yCall ops m s = some (d, l, vs)) : d < s.n := by
 unfold yCall at h
 split at h
 ·split at h
  ·split at h
   ·split at h
    ·rename_i fi ca vs2 hy hvs
     cases hb : (Nat.ble (_ + 1) s.n && (Nat.beq fi.toList.length 0 && Nat.beq ca.toList.length 0)) with
     | false => rw [hb] at h; cases h
     | true =>
      rw [hb] at h
      cases h
      simp only [Bool.and_eq_true] at hb
      exact Nat.le_of_ble_eq_true hb.1
    ·cases h
   ·cases h
  ·cases h
 ·cases h
theorem yCall_ok {P : Program} {ops : Array Oper} {m : Nat} {s : St} {d l : Nat} {vs : List TV} {w0 : World} {wr : Bs} {ρ : Env} {a : Act} {w : World} {Q : Exit → Act → World → Prop} {K : Act → World → Prop} {n : Nat} (h : yCall ops m s = some (d, l, vs)) (hd : Den w0 wr ρ s a w)
  (hY : YieldAt (FW none) (n - 1) P l (vs.map (TV.val ρ)).toArray w fun e w' => ∃ b, e = .returned (.bool b) ∧ K (a.put (some d) (.bool b)) w') : d < s.n ∧ wpOpIn (FW none) n P ops Q m K a w := by
 unfold yCall at h
 split at h
 ·rename_i o ho
  split at h
  ·rename_i d2 c hg hdst hop
   split at h
   ·rename_i y hc
    split at h
    ·rename_i l2 fi ca vs2 hy hvs
     cases hb : (Nat.ble (d2 + 1) s.n && (Nat.beq fi.toList.length 0 && Nat.beq ca.toList.length 0)) with
     | false => rw [hb] at h; cases h
     | true =>
      rw [hb] at h
      cases h
      simp only [Bool.and_eq_true] at hb
      obtain ⟨hb, hb2, hb3⟩ := hb
      obtain rfl : fi = #[] := by apply Array.ext'; exact List.length_eq_zero_iff.1 (Nat.eq_of_beq_eq_true hb2)
      obtain rfl : ca = #[] := by apply Array.ext'; exact List.length_eq_zero_iff.1 (Nat.eq_of_beq_eq_true hb3)
      refine ⟨Nat.le_of_ble_eq_true hb, ?_⟩
      have h1 := (evalO_ok hd hy).1
      have h2 := (evalL_ok hd hvs).1
      obtain ⟨fn, tmps, assign, body, g1, g2⟩ := hY
      unfold wpOpIn
      rw [ho]
      simp only
      rw [if_pos (by simp [Region.wanted, hg])]
      refine ⟨fun _ _ => trivial, ?_⟩
      rw [Oper.semAt_eq _ _ _ (by rw [hop]; intro c hc; cases hc)]
      have h3 : c.args.map a.eval = (vs.map (TV.val ρ)).toArray := by
       apply Array.ext'
       rw [Array.toList_map, h2]
      have hrun : (execOp a.eval o).run P w = .ok (.round l fn tmps assign body) w := by
       unfold execOp
       rw [hop]
       simp only [resolve, hc, h1, TV.val, SV.val, Lf.val, h3, Sem.run_bind, Sem.run_pure, Result.andThen_ok, invoke]
       simp [go_sem, g1]
      rw [hrun]
      refine ⟨fun h => by simp [FW, Fence.wide] at h, RoundIn.mono g2 ?_⟩
      rintro e w' ⟨b, rfl, hk⟩
      rw [hdst]
      exact hk
    ·cases h
   ·cases h
  ·cases h
 ·cases h
theorem den_aft {w0 w w' : World} {e ρ : Env} {s : St} {a : Act} {kr : List Nat} {d : Tmp} {b : Bool} (h : Den w0 ⟨[], e, []⟩ ρ s a w) (hm : s.mks = []) (hd : d < s.n) (hkr : kr.all (fun r => Nat.ble (r + 1) 1000) = true) (hk : ∀ r ∈ kr, w'.heap[(e r).1]? = w.heap[(e r).1]?) :
  Den w' ⟨[], e, []⟩ ρ (aftY kr d b s) (a.put (some d) (.bool b)) w' := by
 have hrow : ∀ r row, keepR kr s.row r = some row → row.w = false ∧ ∃ row0, s.row r = some row0 ∧ row0.ps = row.ps ∧ row0.cp = row.cp ∧ w'.heap[(ρ r).1]? = w.heap[(ρ r).1]? := by
  intro r row hr
  unfold keepR at hr
  cases hn : hasN kr r with
  | false => rw [hn] at hr; cases hr
  | true =>
   rw [hn] at hr
   simp only [cond_true] at hr
   split at hr
   ·rename_i row0 h0
    cases hr
    refine ⟨rfl, row0, h0, rfl, rfl, ?_⟩
    have hr2 := hasN_iff.1 hn
    have hlt := Nat.le_of_ble_eq_true (List.all_eq_true.1 hkr r hr2)
    rw [h.e0 r (.inl (by omega))]
    exact hk r hr2
   ·cases hr
 refine ⟨by rw [put_size]; exact h.sz, ?_, ⟨?_, fun D hD => ?_⟩, KeepsOthers.refl _, fun t x hx => ?_, fun r row hr => ?_, fun r q row rq hr hq hrq hw => ?_, Fr.refl _ _, fun r hr => h.e0 r hr, (fun r hr => by cases hr), h.gl, h.kn⟩
 ·rw [put_defers]; exact h.df
 ·show s.mks.Nodup
  rw [hm]; exact List.nodup_nil
 ·have : D ∈ s.mks := hD
  rw [hm] at this; cases this
 ·have := (den_set (v := .v (.bool b)) h hd rfl (fun r hr => by cases hr)).tm t x hx
  exact this
 ·obtain ⟨h1, row0, h2, h3, h4, h5⟩ := hrow r row hr
  obtain ⟨g1, g2, g3, g4, _⟩ := h.rw r row0 h2
  obtain ⟨cur, t, fz, hc⟩ := g1.2.2.2
  refine ⟨⟨lt_of_block (by rw [h5]; exact hc), fun j v hv => ⟨?_, fun hw => by rw [h1] at hw; cases hw⟩, fun e2 k hcp => ?_, by rw [h5]; exact ⟨cur, t, fz, hc⟩⟩, by rw [← h3]; exact g2, g3, by rw [← h3]; exact g4, fun hw => by rw [h1] at hw; cases hw⟩
  ·rw [← h3] at hv
   have : w'.cell? ⟨(ρ r).1, (ρ r).2 + j, none⟩ = w.cell? ⟨(ρ r).1, (ρ r).2 + j, none⟩ := World.cell?_of_block (w := w) h5
   rw [this]; exact (g1.2.1 j v hv).1
  ·rw [h5, ← h3]; exact g1.2.2.1 e2 k (by rw [h4]; exact hcp)
 ·obtain ⟨h1, _⟩ := hrow r row hr
  rw [h1] at hw; cases hw
theorem rest_ok {P : Program} {C : Hints} {ops : Array Oper} {base m : Nat} {r : Option Nat} {nn : Nat} {w0 : World} {wr : Bs} {s t : St} {ob : List Prop} {Q : Exit → Act → World → Prop} (hn : noDef ops = true) (hC : ∀ id c, C id = some c → HintAt P w0 wr id c) (h : yRest P C ops base m s = some (ob, t)) (ho : all ob)
  (hK : ∀ a w ρ, Den w0 wr ρ t a w → Q .normal a w) {a : Act} {w : World} {ρ : Env} (hd : Den w0 wr ρ s a w) : wpOpsIn (FW r) nn P ops Q (List.range' (m + 1) (ops.size - (m + 1))) a w := by
 have := wpOpsIn_append (P := P) (r := r) (n := nn) (Q := Q) (K := fun a w => Q .normal a w) hn (l2 := []) (fun a w h => h) (List.range' (m + 1) (ops.size - (m + 1))) a w (seq_ok hC (fun a w ρ hd => ⟨rfl, hK a w ρ hd⟩) _ _ _ _ _ _ _ h ho hd)
 rwa [List.append_nil] at this
theorem At.yield {P : Program} {α : Type} {J Jx : List α → World → Prop} {B N nn l rid m : Nat} {encs : α → Array Value} {Kp : World → World → Prop} {W0 : World} {e : Env} {n : Nat} {gl : List Nat} {k : List Item} {ops : Array Oper} {Q : Exit → Act → World → Prop} {tm tmT tmF : List (Nat × TV)} {rows rowsT : List (Nat × Row)} {o1 o2 o3 : List Prop} {vs : List TV}
  (hm : P.follows .mixedOrders = true) (pre : List α) (x : α) (cs : List (Nat × Hint)) (hC : allC P cs) (kr : List Nat)
  (hJa : AbidesFrom B J) (hJ : J pre W0) (hlen : pre.length < N)
  (hY : ∀ pre x W1, J pre W1 → pre.length < N → YieldAt (FW none) (nn - 1) P l (encs x) W1 fun e W' => (e = .returned (.bool true) ∧ J (pre ++ [x]) W' ∧ Kp W1 W') ∨ (e = .returned (.bool false) ∧ Jx (pre ++ [x]) W'))
  (hKp : ∀ W W', Kp W W' → ∀ r ∈ kr, W'.heap[(e r).1]? = W.heap[(e r).1]?)
  (hT : yield1 P (findC cs) ops (1000 + rid * 1000) m kr (mkSt n tm rows gl) true (tmT.map (·.1)) (rowsT.map (·.1)) = some (o1, l, vs, o2, tmT.map (fun p => some p.2), rowsT.map fun p => some p.2))
  (hF : yield1 P (findC cs) ops (1000 + rid * 1000) m [] (mkSt n tm rows gl) false (tmF.map (·.1)) [] = some (o1, l, vs, o3, tmF.map (fun p => some p.2), []))
  (ho : all (o1 ++ o2 ++ o3)) (hx : ∀ ρ : Env, (∀ r, r < 1000 → ρ r = e r) → (vs.map (TV.val ρ)).toArray = encs x) (hg : gl.all (fun g => Nat.ble (g + 1) 500) = true) (hs : (noDef ops && (Nat.ble (m + 1) ops.size && (kr.all (fun r => Nat.ble (r + 1) 1000) && (idsOk tmT rowsT gl && idsOk tmF [] gl)))) = true)
  (hKT : ∀ W', J (pre ++ [x]) W' → At P W' ⟨[], e, []⟩ n gl k Q tmT rowsT none []) (hKF : ∀ W', Jx (pre ++ [x]) W' → At P W' ⟨[], e, []⟩ n gl k Q tmF [] none []) :
  At P W0 ⟨[], e, []⟩ n gl (.code (.region rid ops false) :: k) Q tm rows none [] := by
 intro a w ρ hd
 simp only [Bool.and_eq_true] at hs
 obtain ⟨hnd, hms, hkr, hiT, hiF⟩ := hs
 have hms := Nat.le_of_ble_eq_true hms
 have hC2 : ∀ {W : World} {wq : Bs}, ∀ id c, findC cs id = some c → HintAt P W wq id c := findC_at hC
 obtain ⟨ho, ho3⟩ := all_append.1 ho
 obtain ⟨ho1, ho2⟩ := all_append.1 ho
 unfold yield1 at hT hF
 split at hT
 ·rename_i p1 s1 hr1
  rw [hr1] at hF
  simp only at hF
  split at hT
  ·rename_i d l2 vs2 hy
   rw [hy] at hF
   simp only at hF
   split at hT
   ·rename_i p2 s2 hr2
    split at hF
    ·rename_i p3 s3 hr3
     simp only [Option.some.injEq, Prod.mk.injEq] at hT hF
     obtain ⟨rfl, rfl, rfl, rfl, eT1, eT2⟩ := hT
     obtain ⟨_, _, _, rfl, eF1, _⟩ := hF
     obtain ⟨k1, k2⟩ := runL_keep hr1
     refine KX.code (n := nn) (K := fun a w => KX P none k Q a w) (wpIn_region ?_) fun a w h => h
     rw [show List.range ops.size = List.range' 0 m ++ (m :: List.range' (m + 1) (ops.size - (m + 1))) by
      rw [List.range_eq_range', ← List.range'_succ]
      have := List.range'_append_1 (s := 0) (m := m) (n := ops.size - (m + 1) + 1)
      rw [Nat.zero_add] at this
      rw [this]
      congr 1
      omega]
     refine wpOpsIn_append (K := fun a w => ∃ ρ, Den W0 ⟨[], e, []⟩ ρ s1 a w) hnd (fun a w ⟨ρ, hd⟩ => ?_) _ a w (seq_ok hC2 (fun a w ρ hd => ⟨rfl, ρ, hd⟩) _ _ _ _ _ _ _ hr1 ho1 hd)
     rw [wpOpsIn_cons]
     have hJw : J pre w := abides_fr hJa hJ hd.fr
     have hYw := hY pre x w hJw hlen
     rw [← hx ρ (fun r hr => hd.e0 r (.inl hr))] at hYw
     obtain ⟨fn, tmps, assign, body, g1, g2⟩ := hYw
     have hd1 : d < s1.n := yCall_lt hy
     refine (yCall_ok (n := nn) hy hd ⟨fn, tmps, assign, body, g1, RoundIn.mono g2 ?_⟩).2
     rintro en w' (⟨rfl, h1, h2⟩ | ⟨rfl, h1⟩)
     ·refine ⟨true, rfl, ?_⟩
      have hd2 := den_aft (b := true) hd k1.2 hd1 hkr (hKp _ _ h2)
      refine rest_ok hnd hC2 hr2 ho2 (fun a w ρ hd3 => ⟨rfl, ?_⟩) hd2
      obtain ⟨j1, j2⟩ := runL_keep hr2
      have := den_mk (gl := gl) hd3 eT1 eT2 (fun g hgm => ⟨Nat.le_of_ble_eq_true (List.all_eq_true.1 hg g hgm), j2 _ (k2 _ (hasN_iff.2 (List.mem_append.2 (.inr (List.mem_map.2 ⟨g, hgm, rfl⟩)))))⟩) hiT rfl
      rw [j1.1, j1.2] at this
      have e1 : (aftY kr d true s1).n = n := k1.1
      have e2 : (aftY kr d true s1).mks = [] := k1.2
      rw [e1, e2] at this
      exact hKT w' h1 a w ρ this
     ·refine ⟨false, rfl, ?_⟩
      have hd2 := den_aft (w' := w') (b := false) (kr := []) hd k1.2 hd1 rfl (fun r hr => by cases hr)
      refine rest_ok hnd hC2 hr3 ho3 (fun a w ρ hd3 => ⟨rfl, ?_⟩) hd2
      obtain ⟨j1, j2⟩ := runL_keep hr3
      have := den_mk (gl := gl) (rows := []) hd3 eF1 rfl (fun g hgm => ⟨Nat.le_of_ble_eq_true (List.all_eq_true.1 hg g hgm), j2 _ (k2 _ (hasN_iff.2 (List.mem_append.2 (.inr (List.mem_map.2 ⟨g, hgm, rfl⟩)))))⟩) hiF rfl
      rw [j1.1, j1.2] at this
      have e1 : (aftY [] d false s1).n = n := k1.1
      have e2 : (aftY [] d false s1).mks = [] := k1.2
      rw [e1, e2] at this
      exact hKF w' h1 a w ρ this
    ·cases hF
   ·cases hT
  ·cases hT
 ·cases hT
end Go.Proofs.YtdbbcngolcnniaaGreatDoor.E
/- Places of a function's code by their numbers; the rules for rounds at places. No condition. -/
namespace Go.Proofs.YtdbbcngolcnniaaGreatDoor.E
open Go Go.RowKit
set_option linter.unusedVariables false
set_option linter.unusedSimpArgs false
def regsIn : Code → List Item → List (Nat × List Item)
 | .seq x y, k => regsIn x (.code y :: k) ++ regsIn y k
 | .block id x, k => regsIn x (.inBlock id :: k)
 | .scope x, k => regsIn x (.inScope x :: k)
 | .cond _ x y, k => regsIn x k ++ regsIn y k
 | .loop x, k => regsIn x (.inLoop x :: k)
 | .region id ops d, k => [(id, .code (.region id ops d) :: k)]
 | .rangeFunc _ _ _ b, _ => regsIn b []
 | _, _ => []
def findI : List (Nat × List Item) → Nat → List Item
 | [], _ => []
 | p :: l, r => bif Nat.beq p.1 r then p.2 else findI l r
def rp (f : Func) (id : Nat) : List Item := findI (regsIn (bodyOf f) []) id
def rngsIn : Code → List Item → List (List Item)
 | .seq x y, k => rngsIn x (.code y :: k) ++ rngsIn y k
 | .block id x, k => rngsIn x (.inBlock id :: k)
 | .scope x, k => rngsIn x (.inScope x :: k)
 | .cond _ x y, k => rngsIn x k ++ rngsIn y k
 | .loop x, k => rngsIn x (.inLoop x :: k)
 | .rangeFunc g ps az b, k => (.code (.rangeFunc g ps az b) :: k) :: rngsIn b []
 | _, _ => []
def rg (f : Func) (j : Nat) : List Item := (rngsIn (bodyOf f) []).getD j []
def hdOps : List Item → Array Oper
 | .code (.region _ ops _) :: _ => ops
 | _ => #[]
def hdRid : List Item → Nat
 | .code (.region id _ _) :: _ => id
 | _ => 0
def isReg : List Item → Bool
 | .code (.region _ _ false) :: _ => true
 | _ => false
theorem isReg_ok : ∀ {t : List Item}, isReg t = true → t = .code (.region (hdRid t) (hdOps t) false) :: t.tail
 | .code (.region id ops false) :: k, _ => rfl
def hdG : List Item → Operand
 | .code (.rangeFunc g _ _ _) :: _ => g
 | _ => .func 0
def hdPs : List Item → Array Tmp
 | .code (.rangeFunc _ ps _ _) :: _ => ps
 | _ => #[]
def hdAsg : List Item → Code
 | .code (.rangeFunc _ _ a _) :: _ => a
 | _ => .skip
def hdBody : List Item → Code
 | .code (.rangeFunc _ _ _ b) :: _ => b
 | _ => .skip
def isRng : List Item → Bool
 | .code (.rangeFunc _ _ a _) :: _ => match asg a with
  | some _ => true
  | none => false
 | _ => false
theorem isRng_ok : ∀ {t : List Item}, isRng t = true → t = .code (.rangeFunc (hdG t) (hdPs t) (hdAsg t) (hdBody t)) :: t.tail ∧ ∃ al, asg (hdAsg t) = some al
 | .code (.rangeFunc g ps a b) :: k, h => by
  unfold isRng at h
  refine ⟨rfl, ?_⟩
  simp only at h
  cases ha : asg a with
  | none => rw [ha] at h; cases h
  | some al => exact ⟨al, ha⟩
def alOf (t : List Item) : List (Tmp × Operand) := match asg (hdAsg t) with
 | some l => l
 | none => []
theorem At.yieldAt {P : Program} {α : Type} {J Jx : List α → World → Prop} {B N nn l : Nat} {encs : α → Array Value} {Kp : World → World → Prop} {W0 : World} {e : Env} {n : Nat} {gl : List Nat} {todo : List Item} {Q : Exit → Act → World → Prop} {tm tmT tmF : List (Nat × TV)} {rows rowsT : List (Nat × Row)} {o1 o2 o3 : List Prop} {vs : List TV}
  (hm : P.follows .mixedOrders = true) (m : Nat) (pre : List α) (x : α) (cs : List (Nat × Hint)) (hC : allC P cs) (kr : List Nat)
  (hJa : AbidesFrom B J) (hJ : J pre W0) (hlen : pre.length < N)
  (hY : ∀ pre x W1, J pre W1 → pre.length < N → YieldAt (FW none) (nn - 1) P l (encs x) W1 fun e W' => (e = .returned (.bool true) ∧ J (pre ++ [x]) W' ∧ Kp W1 W') ∨ (e = .returned (.bool false) ∧ Jx (pre ++ [x]) W'))
  (hKp : ∀ W W', Kp W W' → ∀ r ∈ kr, W'.heap[(e r).1]? = W.heap[(e r).1]?) (hr : isReg todo = true)
  (hT : yield1 P (findC cs) (hdOps todo) (1000 + hdRid todo * 1000) m kr (mkSt n tm rows gl) true (tmT.map (·.1)) (rowsT.map (·.1)) = some (o1, l, vs, o2, tmT.map (fun p => some p.2), rowsT.map fun p => some p.2))
  (hF : yield1 P (findC cs) (hdOps todo) (1000 + hdRid todo * 1000) m [] (mkSt n tm rows gl) false (tmF.map (·.1)) [] = some (o1, l, vs, o3, tmF.map (fun p => some p.2), []))
  (ho : all (o1 ++ o2 ++ o3)) (hx : ∀ ρ : Env, (∀ r, r < 1000 → ρ r = e r) → (vs.map (TV.val ρ)).toArray = encs x) (hg : gl.all (fun g => Nat.ble (g + 1) 500) = true) (hs : (noDef (hdOps todo) && (Nat.ble (m + 1) (hdOps todo).size && (kr.all (fun r => Nat.ble (r + 1) 1000) && (idsOk tmT rowsT gl && idsOk tmF [] gl)))) = true)
  (hKT : ∀ W', J (pre ++ [x]) W' → At P W' ⟨[], e, []⟩ n gl todo.tail Q tmT rowsT none []) (hKF : ∀ W', Jx (pre ++ [x]) W' → At P W' ⟨[], e, []⟩ n gl todo.tail Q tmF [] none []) :
  At P W0 ⟨[], e, []⟩ n gl todo Q tm rows none [] := by
 rw [isReg_ok hr]
 exact At.yield hm pre x cs hC kr hJa hJ hlen hY hKp hT hF ho hx hg hs hKT hKF
theorem At.rangeAt {P : Program} {w0 : World} {wr : Bs} {n : Nat} {gl : List Nat} {todo : List Item} {Q : Exit → Act → World → Prop} {tm : List (Nat × TV)} {rows : List (Nat × Row)} {mk : List Nat} {α : Type} {gf : FuncId} {rs : List Nat}
  (K kr : List Nat) (vx : α → List TV) {S Sp : List α → Prop} {N : Nat} (rowsI : List α → List (Nat × Row)) (rowsX : Exit → List α → Option (List (Nat × Row))) (tmB : α → List (Nat × TV)) (hr : isRng todo = true)
  (hg : evalO (mkSt n tm rows gl mk) (hdG todo) = some (.s (.lf (.clo gf rs)))) (he : Enters P gf)
  (hseq : ∀ (ρ : Env) (w : World), (∀ r row, findR rows r = some row → RowAt ρ r row w) → SeqStopsK (FW none) 5 P gf (rs.map fun r => Value.pointer (some ⟨(ρ r).1, (ρ r).2, none⟩)).toArray (fun x => ((vx x).map (TV.val ρ)).toArray) (fun W W' => ∀ r ∈ kr, W'.heap[(ρ r).1]? = W.heap[(ρ r).1]?) S Sp N w)
  (h0 : rowsI [] = rows) (hkeys : ∀ xs, (rowsI xs).map (·.1) = rows.map (·.1)) (hkeysX : ∀ e xs rx, rowsX e xs = some rx → rx.map (·.1) = rows.map (·.1) ∧ idsOk tm rx gl = true)
  (hids : ∀ xs, idsOk tm (rowsI xs) gl = true) (hnd : nodupB (rows.map (·.1)) = true) (hK : rngOk tm rows gl wr.k K kr = true) (hkr : ∀ xs, ronly (rowsI xs) kr = true)
  (hvx : ∀ x, (vx x).length = (hdPs todo).size ∧ okL (vx x) ∧ (vx x).all (fun v => v.ids.all (hasN K)) = true)
  (hB : ∀ x pre, beg (hdPs todo) (alOf todo) (vx x) (mkSt n tm (rowsI pre) gl) ((tmB x).map (·.1)) = some ((tmB x).map fun p => some p.2))
  (hbody : ∀ (l : Nat) (pre : List α) (x : α) (W : World) (σ : Env), pre.length < N → (∃ r, W.heap[l]? = some (.loop r)) → At P W ⟨wlOf σ (rowsI pre), σ, K⟩ n gl [.code (hdBody todo)] (RoundQ W ⟨wlOf σ (rowsI pre), σ, K⟩ (nxt rowsI rowsX (pre ++ [x]))) (tmB x) (rowsI pre) (some l) [])
  (hdone : ∀ D xs, S xs → At P w0 wr n gl todo.tail Q tm (rowsI xs) none (D :: mk))
  (hstop : ∀ D e pre rx, Sp pre → rowsX e pre = some rx → match e with
   | .ret => ∀ a w ρ, Den w0 wr ρ (mkSt n tm rx gl (D :: mk)) a w → Q .ret a w
   | .exit id => ∃ k', exitTo id todo.tail = some k' ∧ At P w0 wr n gl k' Q tm rx none (D :: mk)
   | _ => False) :
  At P w0 wr n gl todo Q tm rows none mk := by
 obtain ⟨e1, al, e2⟩ := isRng_ok hr
 have e3 : alOf todo = al := by unfold alOf; rw [e2]
 rw [e3] at hB
 rw [e1]
 exact At.range K kr vx rowsI rowsX tmB hg he e2 hseq h0 hkeys hkeysX hids hnd hK hkr hvx hB hbody hdone hstop
theorem At.stop0 {α : Type} {P : Program} {w0 : World} {wr : Bs} {n : Nat} {gl : List Nat} {k : List Item} {Q : Exit → Act → World → Prop} {tm : List (Nat × TV)} {mk : List Nat} {Sp : List α → Prop} : ∀ (D : Nat) (e : Exit) (pre : List α) (rx : List (Nat × Row)), Sp pre → (fun (_ : Exit) (_ : List α) => (none : Option (List (Nat × Row)))) e pre = some rx → match e with
   | .ret => ∀ a w ρ, Den w0 wr ρ (mkSt n tm rx gl (D :: mk)) a w → Q .ret a w
   | .exit id => ∃ k', exitTo id k = some k' ∧ At P w0 wr n gl k' Q tm rx none (D :: mk)
   | _ => False := fun _ _ _ _ _ h => by cases h
theorem init_ro1 {w : World} {ρ : Env} {args : List TV} {rows : List (Nat × Row)} (hok : okL args) (hb : initB args rows [] = true) (hl : rows.all (fun p => Nat.ble (p.1 + 1) 500) = true) (hr : rowsOk ρ w rows) : Init w [] ρ args rows [] := by
 rw [initB, Bool.and_eq_true, List.all_eq_true, List.all_eq_true] at hb
 refine ⟨fun x hx => ⟨okL_mem hok x hx, fun r hr2 => List.all_eq_true.1 (hb.1 x hx) r hr2⟩, fun p hp => ?_, fun p hp q hq hne hw => ?_, fun g _ hg => ?_⟩
 ·have h2 := hb.2 p hp
  rw [Bool.and_eq_true, List.all_eq_true] at h2
  refine ⟨(rowsOk_mem hr p hp).1, (rowsOk_mem hr p hp).2, h2.1, fun hw => ?_⟩
  rw [hw] at h2; cases h2.2
 ·have h2 := hb.2 p hp
  rw [hw, Bool.and_eq_true] at h2
  cases h2.2
 ·have := hasN_iff.1 hg
  simp only [List.map_nil, List.append_nil, List.mem_map] at this
  obtain ⟨p, hp, he⟩ := this
  have := Nat.le_of_ble_eq_true (List.all_eq_true.1 hl p hp)
  omega
theorem seq_ok2 {P : Program} {α : Type} {f : FuncId} {fn : Func} {c : Code} {lb : Array Value} {encs : α → Array Value} {Kp : World → World → Prop} {S Sp : List α → Prop} {N : Nat} {w : World} {e : Env} {args : List TV} {rows : List (Nat × Row)} {gl : List Nat}
  (hf : P.funcs[f]? = some fn) (hb : fn.body = some c) (hn : Nat.ble (args.length + 1) fn.ntmps = true) (hav : lb = (args.map (TV.val e)).toArray)
  (hi : ∀ W, Below w.heap.size w W → ∀ l, Init W [] e (.v (.func (.yield l) #[] #[]) :: args) rows gl)
  (h : ∀ (l : Nat) (J Jx : List α → World → Prop) (W : World), AbidesFrom W.heap.size J → AbidesFrom W.heap.size Jx →
   (∀ pre x W1, J pre W1 → pre.length < N → YieldAt (FW none) (5 - 1) P l (encs x) W1 fun e W' => (e = .returned (.bool true) ∧ J (pre ++ [x]) W' ∧ Kp W1 W') ∨ (e = .returned (.bool false) ∧ Jx (pre ++ [x]) W')) →
   J [] W → At P W ⟨[], e, []⟩ fn.ntmps gl [.code c] (EndX P fn fun e W' => (∃ v, e = .returned v) ∧ ((∃ xs, S xs ∧ J xs W') ∨ (∃ pre, Sp pre ∧ Jx pre W'))) (numT 0 (.v (.func (.yield l) #[] #[]) :: args)) rows none []) :
  SeqStopsK (FW none) 5 P f lb encs Kp S Sp N w := by
 intro l J Jx W hW hJ hJx hY h0
 subst hav
 refine callsIn_FW (At.calls (args := .v (.func (.yield l) #[] #[]) :: args) (wr := []) (ρ := e) hf hb hn (hi W hW l) ?_ (h l J Jx W hJ hJx hY h0))
 simp [TV.val, SV.val, Lf.val]
end Go.Proofs.YtdbbcngolcnniaaGreatDoor.E
/- A call of which the answer is told by 'there is': at its place in a region; the world reckoned from anew. No condition. -/
namespace Go.Proofs.YtdbbcngolcnniaaGreatDoor.E
open Go Go.RowKit
set_option linter.unusedVariables false
set_option linter.unusedSimpArgs false
def xCall (ops : Array Oper) (m : Nat) (s : St) : Option (Tmp × FuncId × List TV) :=
 match ops[m]? with
 | some o => match o.guard, o.dst, o.op with
  | none, some d, .call c => match c.callee with
   | .value y => match evalO s y, evalL s c.args.toList with
    | some (.s (.lf (.v (.func (.func f) fi ca)))), some vs => bif Nat.beq fi.toList.length 0 && Nat.beq ca.toList.length 0 then some (d, f, vs) else none
    | _, _ => none
   | _ => none
  | _, _, _ => none
 | none => none
theorem xCall_ok {P : Program} {ops : Array Oper} {m : Nat} {s : St} {d : Tmp} {f : FuncId} {vs : List TV} {w0 : World} {wr : Bs} {ρ : Env} {a : Act} {w : World} {Q : Exit → Act → World → Prop} {K : Act → World → Prop} {r : Option Nat} {n : Nat} (h : xCall ops m s = some (d, f, vs)) (hd : Den w0 wr ρ s a w) (he : Enters P f)
  (hc : Calls P f (vs.map (TV.val ρ)).toArray w fun e w' => ∃ v, e = .returned v ∧ K (a.put (some d) v) w') : wpOpIn (FW r) n P ops Q m K a w := by
 unfold xCall at h
 split at h
 ·rename_i o ho
  split at h
  ·rename_i d2 c hg hdst hop
   split at h
   ·rename_i y hcal
    split at h
    ·rename_i f2 fi ca vs2 hy hvs
     cases hb : (Nat.beq fi.toList.length 0 && Nat.beq ca.toList.length 0) with
     | false => rw [hb] at h; cases h
     | true =>
      rw [hb] at h
      cases h
      rw [Bool.and_eq_true] at hb
      obtain rfl : fi = #[] := by apply Array.ext'; exact List.length_eq_zero_iff.1 (Nat.eq_of_beq_eq_true hb.1)
      obtain rfl : ca = #[] := by apply Array.ext'; exact List.length_eq_zero_iff.1 (Nat.eq_of_beq_eq_true hb.2)
      have h1 := (evalO_ok hd hy).1
      have h2 := (evalL_ok hd hvs).1
      unfold wpOpIn
      rw [ho]
      simp only
      rw [if_pos (by simp [Region.wanted, hg])]
      refine ⟨fun _ _ => trivial, ?_⟩
      rw [Oper.semAt_eq _ _ _ (by rw [hop]; intro c hc; cases hc)]
      have h3 : c.args.map a.eval = (vs.map (TV.val ρ)).toArray := by
       apply Array.ext'
       rw [Array.toList_map, h2]
      have hrun : (execOp a.eval o).run P w = .ok (.enter f (vs.map (TV.val ρ)).toArray) w := by
       unfold execOp
       rw [hop]
       simp only [resolve, hcal, h1, TV.val, SV.val, Lf.val, h3, Deferred.ofValue, Sem.run_bind, Sem.run_pure, Result.andThen_ok, invoke, Array.append_empty, Array.empty_append]
       exact he _ w
      rw [hrun]
      refine ⟨fun h => by simp [FW, Fence.wide] at h, CallsIn.mono (callsIn_FW hc) ?_⟩
      rintro e w' ⟨v, rfl, hk⟩
      rw [hdst]
      exact hk
    ·cases h
   ·cases h
  ·cases h
 ·cases h
def call2 (P : Program) (C : Hints) (ops : Array Oper) (base m : Nat) (s : St) (ks rs : List Nat) : Option (List Prop × List (Option TV) × List (Option Row)) :=
 match yRest P C ops base m s with
 | some (o2, s2) => some (o2, ks.map s2.tmps, rs.map s2.row)
 | none => none
end Go.Proofs.YtdbbcngolcnniaaGreatDoor.E
/- An operation told by its own contract, at its place in a region, drawn or not (there it is the last); the world reckoned from anew. No condition. -/
namespace Go.Proofs.YtdbbcngolcnniaaGreatDoor.E
open Go Go.RowKit
set_option linter.unusedVariables false
set_option linter.unusedSimpArgs false
def op1 (P : Program) (C : Hints) (ops : Array Oper) (base m : Nat) (s : St) (ks rs : List Nat) : Option (List Prop × List (Option TV) × List (Option Row)) :=
 match yRun P C ops base m s with
 | some (o1, s1) => some (o1, ks.map s1.tmps, rs.map s1.row)
 | none => none
theorem At.opX {α : Type} {P : Program} {w0 : World} {wr : Bs} {n : Nat} {gl : List Nat} {todo : List Item} {Q : Exit → Act → World → Prop} {tm tm1 : List (Nat × TV)} {rows rows1 : List (Nat × Row)} {r : Option Nat} {mk : List Nat} {o1 : List Prop} {o2 : α → List Prop}
  (m d : Nat) (cs : List (Nat × Hint)) (hC : allC P cs) (w0' : α → World) (wr' : α → Bs) (tm2 tm3 : α → List (Nat × TV)) (rows2 rows3 : α → List (Nat × Row)) (I : α → Prop) (hr : isReg todo = true)
  (h1 : op1 P (findC cs) (hdOps todo) (1000 + hdRid todo * 1000) m (mkSt n tm rows gl mk) (tm1.map (·.1)) (rows1.map (·.1)) = some (o1, tm1.map (fun p => some p.2), rows1.map fun p => some p.2)) (ho1 : all o1)
  (hs : (noDef (hdOps todo) && (Nat.ble (m + 1) (hdOps todo).size && (gl.all (fun g => Nat.ble (g + 1) 500) && (idsOk tm1 rows1 gl && wr.k.all (hasN (rows1.map (·.1) ++ gl.map (500 + ·))))))) = true)
  (hop : ∀ a w ρ (K : Act → World → Prop) (QQ : Exit → Act → World → Prop), Den w0 wr ρ (mkSt n tm1 rows1 gl mk) a w → (∀ x v w' ρ', I x → Den (w0' x) (wr' x) ρ' (mkSt n (tm2 x) (rows2 x) gl mk) (a.put (some d) v) w' → K (a.put (some d) v) w') → wpOpIn (FW r) 5 P (hdOps todo) QQ m K a w)
  (h2 : ∀ x, I x → call2 P (findC cs) (hdOps todo) (1000 + hdRid todo * 1000) m (mkSt n (tm2 x) (rows2 x) gl mk) ((tm3 x).map (·.1)) ((rows3 x).map (·.1)) = some (o2 x, (tm3 x).map (fun p => some p.2), (rows3 x).map fun p => some p.2))
  (ho2 : ∀ x, I x → all (o2 x)) (hs2 : ∀ x, (idsOk (tm3 x) (rows3 x) gl && (wr' x).k.all (hasN ((rows3 x).map (·.1) ++ gl.map (500 + ·)))) = true)
  (hK : ∀ x, I x → At P (w0' x) (wr' x) n gl todo.tail Q (tm3 x) (rows3 x) r mk) : At P w0 wr n gl todo Q tm rows r mk := by
 rw [isReg_ok hr]
 intro a w ρ hd
 generalize hdOps todo = ops at *
 generalize hdRid todo = rid at *
 simp only [Bool.and_eq_true] at hs
 obtain ⟨hnd, hms, hg, hi1, hk1⟩ := hs
 have hms := Nat.le_of_ble_eq_true hms
 have hC2 : ∀ {W : World} {wq : Bs}, ∀ id c, findC cs id = some c → HintAt P W wq id c := findC_at hC
 unfold op1 at h1
 split at h1
 ·rename_i p1 s1 hr1
  simp only [Option.some.injEq, Prod.mk.injEq] at h1
  obtain ⟨rfl, e1, e2⟩ := h1
  obtain ⟨k1, k2⟩ := runL_keep hr1
  refine KX.code (n := 5) (K := fun a w => KX P r todo.tail Q a w) (wpIn_region ?_) fun a w h => h
  rw [show List.range ops.size = List.range' 0 m ++ (m :: List.range' (m + 1) (ops.size - (m + 1))) by
   rw [List.range_eq_range', ← List.range'_succ]
   have := List.range'_append_1 (s := 0) (m := m) (n := ops.size - (m + 1) + 1)
   rw [Nat.zero_add] at this
   rw [this]
   congr 1
   omega]
  refine wpOpsIn_append (K := fun a w => ∃ ρ, Den w0 wr ρ s1 a w) hnd (fun a w ⟨ρ, hd⟩ => ?_) _ a w (seq_ok hC2 (fun a w ρ hd => ⟨rfl, ρ, hd⟩) _ _ _ _ _ _ _ hr1 ho1 hd)
  rw [wpOpsIn_cons]
  have hd1 := den_mk (gl := gl) hd e1 e2 (fun g hgm => ⟨Nat.le_of_ble_eq_true (List.all_eq_true.1 hg g hgm), k2 _ (hasN_iff.2 (List.mem_append.2 (.inr (List.mem_map.2 ⟨g, hgm, rfl⟩))))⟩) hi1 hk1
  rw [k1.1, k1.2] at hd1
  refine hop a w ρ _ _ hd1 ?_
  intro x v w' ρ' hI hd2
  have h3 := h2 x hI
  unfold call2 at h3
  split at h3
  ·rename_i p2 s2 hr2
   simp only [Option.some.injEq, Prod.mk.injEq] at h3
   obtain ⟨rfl, e3, e4⟩ := h3
   have hs3 := hs2 x
   rw [Bool.and_eq_true] at hs3
   refine rest_ok hnd hC2 hr2 (ho2 x hI) (fun a w ρ hd3 => ⟨rfl, ?_⟩) hd2
   obtain ⟨j1, j2⟩ := runL_keep hr2
   have := den_mk (gl := gl) hd3 e3 e4 (fun g hgm => ⟨Nat.le_of_ble_eq_true (List.all_eq_true.1 hg g hgm), j2 _ (hasN_iff.2 (List.mem_append.2 (.inr (List.mem_map.2 ⟨g, hgm, rfl⟩))))⟩) hs3.1 hs3.2
   rw [j1.1, j1.2] at this
   exact hK x hI a w ρ this
  ·cases h3
 ·cases h1
end Go.Proofs.YtdbbcngolcnniaaGreatDoor.E
/- A region that draws its order, of which every operation but the last is pure: by values, whatever the order; a state told anew. No condition. -/
namespace Go.Proofs.YtdbbcngolcnniaaGreatDoor.E
open Go Go.RowKit
set_option linter.unusedVariables false
set_option linter.unusedSimpArgs false
structure Kn (n : Nat) (df : List Deferred) (B D : List (Tmp × Value)) (L : Nat → Bool) (a : Act) : Prop where
 sz : a.tmps.size = n
 df : a.defers = df
 b : ∀ p ∈ B, a.tmps[p.1]? = some p.2
 d : ∀ i p, D[i]? = some p → L i = true → a.tmps[p.1]? = some p.2
theorem Kn.put {n : Nat} {df : List Deferred} {B D : List (Tmp × Value)} {L L' : Nat → Bool} {a : Act} (h : Kn n df B D L a) {i : Nat} {p : Tmp × Value} (hp : D[i]? = some p) (hL : ∀ j, L' j = true → L j = true ∨ j = i) (hn : (D.map (·.1)).Nodup) (hB : ∀ q ∈ B, q.1 ≠ p.1) (hs : p.1 < n) : Kn n df B D L' (a.put (some p.1) p.2) := by
 have hput : ∀ t, (a.put (some p.1) p.2).tmps[t]? = if t = p.1 then some p.2 else a.tmps[t]? := by
  intro t
  show (a.tmps.setIfInBounds p.1 p.2)[t]? = _
  rw [Array.getElem?_setIfInBounds]
  by_cases ht : t = p.1
  ·subst ht; simp [h.sz, hs]
  ·rw [if_neg (Ne.symm ht), if_neg ht]
 refine ⟨by rw [put_size]; exact h.sz, by rw [put_defers]; exact h.df, fun q hq => by rw [hput, if_neg (hB q hq)]; exact h.b q hq, fun j q hq hj => ?_⟩
 rw [hput]
 by_cases he : q.1 = p.1
 ·have h1 : i < D.length := (List.getElem?_eq_some_iff.1 hp).1
  have h2 : j < D.length := (List.getElem?_eq_some_iff.1 hq).1
  have hpw := List.pairwise_iff_getElem.1 hn
  have e1 : (D.map (·.1))[i]'(by simpa using h1) = p.1 := by rw [List.getElem_map, (List.getElem?_eq_some_iff.1 hp).2]
  have e2 : (D.map (·.1))[j]'(by simpa using h2) = q.1 := by rw [List.getElem_map, (List.getElem?_eq_some_iff.1 hq).2]
  have : i = j := by
   rcases Nat.lt_trichotomy i j with h | h | h
   ·exact absurd (e1.trans (he.symm.trans e2.symm)) (hpw i j _ _ h)
   ·exact h
   ·exact absurd (e2.trans (he.trans e1.symm)) (hpw j i _ _ h)
  subst this
  rw [hp] at hq
  cases hq
  rw [if_pos rfl]
 ·rw [if_neg he]
  rcases hL j hj with h3 | h3
  ·exact h.d j q hq h3
  ·subst h3
   rw [hp] at hq
   cases hq
   exact absurd rfl he
end Go.Proofs.YtdbbcngolcnniaaGreatDoor.E
