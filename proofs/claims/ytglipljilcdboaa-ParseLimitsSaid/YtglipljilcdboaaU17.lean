/- Several texts, one behind the other; each says by itself what it proves, and on what conditions. -/
import Derived.Test.YtglipljilcdboaaU16
/- Of the program: a name entered. Its conditions: what a tree keeps. -/
namespace Go.Proofs.Ytglipljilcdboaa
open Go.RowKit Go.Shelf
set_option linter.unusedVariables false
set_option linter.unusedSimpArgs false
section
open E
abbrev hPN (s : List UInt8) (b : Bool) : Hint := pc 57 #[stv s] (.v (.bool b))
theorem o_last {O : List (List UInt8 × List UInt8)} (hne : O ≠ []) : O.getLast? = some (O.getD (addN 0 ((O.length : Int) - 1).toNat) o0) := by
  have hp := List.length_pos_iff.2 hne
  have e : addN 0 ((O.length : Int) - 1).toNat = O.length - 1 := by rw [addN_eq]; omega
  rw [e, List.getLast?_eq_getElem?, List.getD_eq_getElem?_getD, List.getElem?_eq_getElem (by omega)]
  rfl
theorem o_upd {O : List (List UInt8 × List UInt8)} (hne : O ≠ []) (x : List UInt8 × List UInt8) (v : List Value) (hv : v = [stv x.1, stv x.2]) : ∀ i, i < O.length → updF (oF O) (addN 0 ((O.length : Int) - 1).toNat) v i = oF (O.dropLast ++ [x]) i := by
  intro i hi
  have e : addN 0 ((O.length : Int) - 1).toNat = O.length - 1 := by rw [addN_eq]; omega
  rw [e]
  unfold updF
  cases hb : Nat.beq i (O.length - 1) with
  | true =>
    have := Nat.eq_of_beq_eq_true hb
    subst this
    have : (O.dropLast ++ [x]).getD (O.length - 1) o0 = x := by
      rw [List.getD_eq_getElem?_getD, List.getElem?_append_right (by rw [List.length_dropLast]; omega), List.length_dropLast, Nat.sub_self]
      rfl
    simp only [cond_true, hv, oF, this]
  | false =>
    have hne2 : i ≠ O.length - 1 := fun h => by rw [h, Nat.beq_refl] at hb; cases hb
    have : (O.dropLast ++ [x]).getD i o0 = O.getD i o0 := by
      rw [List.getD_eq_getElem?_getD, List.getD_eq_getElem?_getD, List.getElem?_append_left (by rw [List.length_dropLast]; omega), List.getElem?_dropLast, if_pos (by omega)]
    simp only [cond_false, oF, this]
set_option maxRecDepth 100000 in
theorem enter_any (W : World) (b : Nat) (vb : Value) (hvb : vb.oneCell' = true) (t : TS) (hp : t.pl = 14) (hg : Good t) (D : List Nat) (h : TkPre W b vb t D) (d : List UInt8) (hdl : d.length ≤ 255) : Calls Try.prog 52 #[.pointer (some ⟨b, 1, none⟩), stv d] W (TkQ W b vb D (enterM t d)) := by
  have hne : t.nodes ≠ [] := good_ne hg (by omega) (by omega)
  have hop : t.opens ≠ [] := fun e => by have := (hg.some' hne).2 e; omega
  have hn := hg.n
  have ho := hg.o
  have hlen := hg.len
  obtain ⟨Bn, Bo, rfl, d1, d2, d3, z1, z2, r1, r2, r0⟩ := tk_open h hne
  obtain ⟨pl, path, L, O⟩ := t
  simp only at hp hne hop hn ho hlen r0 r1 r2
  subst hp
  have hpos := List.length_pos_iff.2 hop
  have hol := o_last hop
  obtain ⟨ix, hix⟩ : ∃ ix, ix = addN 0 ((O.length : Int) - 1).toNat := ⟨_, rfl⟩
  have hixv : ix = O.length - 1 := by rw [hix, addN_eq]; omega
  rw [← hix] at hol
  obtain ⟨dl, hdle⟩ : ∃ dl, dl = O.getD ix o0 := ⟨_, rfl⟩
  rw [← hdle] at hol
  have hdl1 : dl.1.length ≤ 256 * 64 := by
    have h1 := hlen (O.length - 1) (by omega)
    have h2 : O[O.length - 1]'(by omega) = dl := by rw [hdle, hixv, List.getD_eq_getElem?_getD, List.getElem?_eq_getElem (by omega)]; rfl
    rw [h2] at h1
    omega
  rw [← ptT_val (ρ := envT b Bn Bo) rfl]
  have r0' : RowAt (envT b Bn Bo) 0 (rdP (.v vb) (.v (.slice (some ⟨Bn.1, 0, none⟩) L.length Bn.3)) (slO 2 O.length) 14 path false) W := rdP_mv r0 rfl rfl rfl (slO_val env2 z2)
  refine At.calls (args := [ptT, .v (stv d)]) (rows := [(0, rdP (.v vb) (.v (.slice (some ⟨Bn.1, 0, none⟩) L.length Bn.3)) (slO 2 O.length) 14 path false), (2, oR O)]) (gl := []) (wr := [b, Bo.1]) (ρ := envT b Bn Bo) Try.func52 rfl rfl (init3 ⟨trivial, rfl, trivial⟩ rfl rfl (.inr (.inr (.inl rfl))) (fun p hp => ?_) d1 d2 d3 (by simp [envT])) rfl ?_
  · simp only [List.mem_cons, List.not_mem_nil, or_false] at hp
    rcases hp with rfl | rfl
    · exact ⟨r0', rdP_ok _ _ _ hvb rfl trivial⟩
    · exact ⟨r2, o_ok _⟩
  have bad : ∀ (ρ' : Env) (w' : World), Fr W [b, Bo.1] w' → (∀ r, r < 1000 → ρ' r = envT b Bn Bo r) → (∀ p ∈ [(0, rdP (.v vb) (.v (.slice (some ⟨Bn.1, 0, none⟩) L.length Bn.3)) (slO 2 O.length) 14 path false)], RowAt ρ' p.1 p.2 w') → TkQ W b vb [Bn.1, Bo.1] none (.returned (.bool false)) w' := fun ρ' w' hf he hq => ⟨rfl, hf.widen (fun x hx => by simp at hx ⊢; omega), .slice (some ⟨Bn.1, 0, none⟩) L.length Bn.3, .slice (some ⟨Bo.1, 0, none⟩) O.length Bo.3, 14, path, rfl, rfl, rdP_mv (hq _ (List.mem_singleton.2 rfl)) (he 0 (by decide)).symm rfl rfl (slO_val (show ρ' 2 = Bo from he 2 (by decide)) z2).symm⟩
  have hen : enterM ⟨14, path, L, O⟩ d = if L.length = 256 ∨ 64 < O.length then none else if mayNameL d = false ∨ ltL dl.2 d = false then none else some ⟨15, joinL dl.1 d, L, O.dropLast ++ [(dl.1, d)]⟩ := by
    unfold enterM; simp only [hol]
  rw [hen]
  have hb1 : inI ((O.length : Int) - 1) := ⟨by omega, by omega⟩
  have hb2 : 0 ≤ (O.length : Int) - 1 ∧ (O.length : Int) - 1 < (O.length : Int) := ⟨by omega, by omega⟩
  have hb3 : addN 0 ((O.length : Int) - 1).toNat < O.length := by rw [← hix]; omega
  by_cases h256 : L.length = 256
  · rw [if_pos (.inl h256)]
    exact At.finR rfl [(2003006, .val (.v (.bool true)))] ⟨trivial, trivial⟩ [.y] (rows2 := [(0, rdP (.v vb) (.v (.slice (some ⟨Bn.1, 0, none⟩) L.length Bn.3)) (slO 2 O.length) 14 path false)]) (x := .v (.bool false)) (ob := [inI ((O.length : Int) - 1), 0 ≤ (O.length : Int) - 1 ∧ (O.length : Int) - 1 < (O.length : Int), TV.v (.bool ((L.length : Int) == 256)) = TV.v (.bool true), true = true]) (by kernel_rfl) ⟨hb1, hb2, by rw [h256]; rfl, rfl, trivial⟩ fun ρ' w' hf he _ hq => bad ρ' w' hf he fun p hp => (hq p hp).1
  have e256 : ((L.length : Int) == 256) = false := by simpa using (by omega : ¬ (L.length : Int) = 256)
  by_cases h64 : 64 < O.length
  · rw [if_pos (.inr h64)]
    exact At.finR rfl [(2003006, .val (.v (.bool false)))] ⟨trivial, trivial⟩ [.y] (rows2 := [(0, rdP (.v vb) (.v (.slice (some ⟨Bn.1, 0, none⟩) L.length Bn.3)) (slO 2 O.length) 14 path false)]) (x := .v (.bool false)) (ob := [inI ((O.length : Int) - 1), 0 ≤ (O.length : Int) - 1 ∧ (O.length : Int) - 1 < (O.length : Int), TV.v (.bool ((L.length : Int) == 256)) = TV.v (.bool false), decide ((O.length : Int) > 64) = true]) (by kernel_rfl) ⟨hb1, hb2, by rw [e256], decide_eq_true (by omega), trivial⟩ fun ρ' w' hf he _ hq => bad ρ' w' hf he fun p hp => (hq p hp).1
  have e64 : decide ((O.length : Int) > 64) = false := decide_eq_false (by omega)
  rw [if_neg (by omega)]
  have kN : HintOk Try.prog 5001 (hPN d (mayNameL d)) := pc_ok ent57 (v := .bool (mayNameL d)) rfl (fun _ => rfl) fun w => (pmayName_any ⟨d.toArray⟩ w).mono (by rintro e w' ⟨rfl, rfl⟩; exact ⟨rfl, Below.refl _ _⟩)
  have hob : all [inI ((O.length : Int) - 1), 0 ≤ (O.length : Int) - 1 ∧ (O.length : Int) - 1 < (O.length : Int), TV.v (.bool ((L.length : Int) == 256)) = TV.v (.bool false), decide ((O.length : Int) > 64) = false] := ⟨hb1, hb2, by rw [e256], e64, trivial⟩
  cases hmn : mayNameL d with
  | false =>
    rw [if_pos (.inl rfl)]
    rw [hmn] at kN
    exact At.finR rfl [(2003006, .val (.v (.bool false))), (5001, hPN d false), (2005003, .val (.v (.bool true)))] ⟨trivial, kN, trivial, trivial⟩ [.n, .y] (rows2 := [(0, rdP (.v vb) (.v (.slice (some ⟨Bn.1, 0, none⟩) L.length Bn.3)) (slO 2 O.length) 14 path false)]) (x := .v (.bool false)) (ob := [[inI ((O.length : Int) - 1), 0 ≤ (O.length : Int) - 1 ∧ (O.length : Int) - 1 < (O.length : Int), TV.v (.bool ((L.length : Int) == 256)) = TV.v (.bool false), decide ((O.length : Int) > 64) = false], qL (hPN d false), [TV.v (.bool (!false)) = TV.v (.bool true), true = true]].flatten) (by kernel_rfl) (all_flat ⟨hob, all_qL _, ⟨rfl, rfl, trivial⟩, trivial⟩) fun ρ' w' hf he _ hq => bad ρ' w' hf he fun p hp => (hq p hp).1
  | true =>
    rw [hmn] at kN
    have hlt := lt_total d dl.2
    cases hl2 : ltL dl.2 d with
    | false =>
      rw [if_pos (.inr rfl)]
      rw [hl2] at hlt
      exact At.finR rfl [(2003006, .val (.v (.bool false))), (5001, hPN d true), (2005003, .val (.v (.bool false)))] ⟨trivial, kN, trivial, trivial⟩ [.n, .y] (rows2 := [(0, rdP (.v vb) (.v (.slice (some ⟨Bn.1, 0, none⟩) L.length Bn.3)) (slO 2 O.length) 14 path false)]) (x := .v (.bool false)) (ob := [[inI ((O.length : Int) - 1), 0 ≤ (O.length : Int) - 1 ∧ (O.length : Int) - 1 < (O.length : Int), TV.v (.bool ((L.length : Int) == 256)) = TV.v (.bool false), decide ((O.length : Int) > 64) = false], qL (hPN d true), [TV.v (.bool (!true)) = TV.v (.bool false), addN 0 ((O.length : Int) - 1).toNat < O.length, (Op.bytesLess d (O.getD (addN 0 ((O.length : Int) - 1).toNat) o0).2 || d == (O.getD (addN 0 ((O.length : Int) - 1).toNat) o0).2) = true]].flatten) (by kernel_rfl) (all_flat ⟨hob, all_qL _, ⟨rfl, hb3, by rw [← hix, ← hdle, hlt]; rfl, trivial⟩, trivial⟩) fun ρ' w' hf he _ hq => bad ρ' w' hf he fun p hp => (hq p hp).1
    | true =>
      rw [if_neg (by simp)]
      rw [hl2] at hlt
      obtain ⟨O2, hO2⟩ : ∃ O2, O2 = O.dropLast ++ [(dl.1, d)] := ⟨_, rfl⟩
      have hO2l : O2.length = O.length := by rw [hO2]; exact dl_len hop _
      have hO2d : (O2.getD ix o0).1 = dl.1 := by
        rw [hO2, hixv, List.getD_eq_getElem?_getD, List.getElem?_append_right (by rw [List.length_dropLast]; omega), List.length_dropLast, Nat.sub_self]
        rfl
      rw [← hO2]
      refine At.run rfl [(2003006, .val (.v (.bool false))), (5001, hPN d true), (2005003, .val (.v (.bool false))), (2008000, .val (.tup []))] ⟨trivial, kN, trivial, trivial, trivial⟩ [.n, .n] (tm2 := [(0, ptT), (1, .v (stv d)), (5, .s (.lf (.ptr 2 0 (addN 0 ((O.length : Int) - 1).toNat) 2 0)))]) (rows2 := [(0, rdP (.v vb) (.v (.slice (some ⟨Bn.1, 0, none⟩) L.length Bn.3)) (slO 2 O.length) 14 path false), (2, ⟨[.fnc (updF (oF O) (addN 0 ((O.length : Int) - 1).toNat) [stv (O.getD (addN 0 ((O.length : Int) - 1).toNat) o0).1, stv d]) 2 O.length], true, some (103, 2)⟩)]) (ob := [[inI ((O.length : Int) - 1), 0 ≤ (O.length : Int) - 1 ∧ (O.length : Int) - 1 < (O.length : Int), TV.v (.bool ((L.length : Int) == 256)) = TV.v (.bool false), decide ((O.length : Int) > 64) = false], qL (hPN d true), [TV.v (.bool (!true)) = TV.v (.bool false), addN 0 ((O.length : Int) - 1).toNat < O.length, (Op.bytesLess d (O.getD (addN 0 ((O.length : Int) - 1).toNat) o0).2 || d == (O.getD (addN 0 ((O.length : Int) - 1).toNat) o0).2) = false, addN 0 ((O.length : Int) - 1).toNat < O.length]].flatten) (td := rp Try.f52 7) (by kernel_rfl) (all_flat ⟨hob, all_qL _, ⟨rfl, hb3, by rw [← hix, ← hdle, hlt]; rfl, hb3, trivial⟩, trivial⟩) rfl rfl (by intro h; cases h) ?_
      refine At.rows (rows2 := [(0, rdP (.v vb) (.v (.slice (some ⟨Bn.1, 0, none⟩) L.length Bn.3)) (slO 2 O.length) 14 path false), (2, ⟨[.fnc (oF O2) 2 O.length], true, some (103, 2)⟩)]) (rowsEq_same (rowsEq_fnc (fun i hi => by rw [hO2]; exact o_upd hop (dl.1, d) _ (by rw [← hix, ← hdle]) i hi) trivial)) rfl ?_
      have good : ∀ (pa2 : List UInt8), pa2 = joinL dl.1 d → ∀ (ρ' : Env) (w' : World), Fr W [b, Bo.1] w' → (∀ r, r < 1000 → ρ' r = envT b Bn Bo r) → (∀ p ∈ [(0, rdP (.v vb) (.v (.slice (some ⟨Bn.1, 0, none⟩) L.length Bn.3)) (slO 2 O.length) 15 pa2 false), (2, (⟨[.fnc (oF O2) 2 O.length], true, some (103, 2)⟩ : Row))], RowAt ρ' p.1 p.2 w') → TkQ W b vb [Bn.1, Bo.1] (some ⟨15, joinL dl.1 d, L, O2⟩) (.returned (.bool true)) w' := by
        intro pa2 hpa ρ' w' hf he hq
        subst hpa
        have g0 := hq _ (List.mem_cons_self ..)
        have g1 := hq _ (List.mem_cons_of_mem _ (List.mem_singleton.2 rfl))
        have e0 := he 0 (by decide)
        have e2 := he 2 (by decide)
        refine ⟨rfl, tk_fin (vn := .slice (some ⟨Bn.1, 0, none⟩) L.length Bn.3) (vo := .slice (some ⟨Bo.1, 0, none⟩) O.length Bo.3) (hf.widen (fun x hx => by simp at hx ⊢; omega)) ?_ Bn Bo hne rfl ?_ ?_ ?_ d1 d2 d3 (.inl (by simp)) (.inl (by simp))⟩
        · exact rdP_mv g0 (by rw [e0]; rfl) rfl rfl (slO_val (show ρ' 2 = Bo from e2) z2).symm
        · show _ = Value.slice (some ⟨Bo.1, 0, none⟩) O2.length Bo.3
          rw [hO2l]
        · exact rowAt_mv (rowAt_fr r1 hf (by simp [envT]; exact ⟨Ne.symm d1, d3⟩)) rfl
        · have := row_eq (g := oF O2) g1 hO2l.symm (fun i hi => rfl)
          exact rowAt_mv this (show Bo = ρ' 2 from e2.symm)
      by_cases hd1 : dl.1 = []
      · refine At.finR rfl [] trivial [.n] (rows2 := [(0, rdP (.v vb) (.v (.slice (some ⟨Bn.1, 0, none⟩) L.length Bn.3)) (slO 2 O.length) 15 d false), (2, ⟨[.fnc (oF O2) 2 O.length], true, some (103, 2)⟩)]) (x := .v (.bool true)) (ob := [addN 0 ((O.length : Int) - 1).toNat < O.length, (!((O2.getD (addN 0 ((O.length : Int) - 1).toNat) o0).1 == [])) = false]) (by kernel_rfl) ⟨hb3, by rw [← hix, hO2d, hd1]; rfl, trivial⟩ fun ρ' w' hf he _ hq => good d (by unfold joinL; rw [if_pos hd1]) ρ' w' hf he fun p hp => (hq p hp).1
      · have hnb : (!(dl.1 == [])) = true := by simpa using hd1
        refine At.finR rfl [] trivial [.y] (rows2 := [(0, rdP (.v vb) (.v (.slice (some ⟨Bn.1, 0, none⟩) L.length Bn.3)) (slO 2 O.length) 15 (((O2.getD (addN 0 ((O.length : Int) - 1).toNat) o0).1 ++ [47]) ++ d) false), (2, ⟨[.fnc (oF O2) 2 O.length], true, some (103, 2)⟩)]) (x := .v (.bool true)) (ob := [addN 0 ((O.length : Int) - 1).toNat < O.length, (!((O2.getD (addN 0 ((O.length : Int) - 1).toNat) o0).1 == [])) = true, addN 0 ((O.length : Int) - 1).toNat < O.length, ((O2.getD (addN 0 ((O.length : Int) - 1).toNat) o0).1.length : Int) + ((1 : Nat) : Int) ≤ 9223372036854775807, (((O2.getD (addN 0 ((O.length : Int) - 1).toNat) o0).1 ++ [47]).length : Int) + (d.length : Int) ≤ 9223372036854775807]) (by kernel_rfl) ⟨hb3, by rw [← hix, hO2d, hnb], hb3, by rw [← hix, hO2d]; omega, by rw [← hix, hO2d, List.length_append]; simp; omega, trivial⟩ fun ρ' w' hf he _ hq => good _ (by rw [← hix, hO2d]; unfold joinL; rw [if_neg hd1]; simp) ρ' w' hf he fun p hp => (hq p hp).1
end
end Go.Proofs.Ytglipljilcdboaa
/- A call of which the answer is told by 'there is': at its place in a region; the world reckoned from anew. No condition. -/
namespace Go.Proofs.Ytglipljilcdboaa.E
open Go Go.RowKit
set_option linter.unusedVariables false
set_option linter.unusedSimpArgs false

/-- Which function is called, with what, and where the answer goes. -/
def xCall (ops : Array Oper) (m : Nat) (s : St) : Option (Tmp × FuncId × List TV) :=
  match ops[m]? with
  | some o => match o.guard, o.dst, o.op with
    | none, some d, .call c => match c.callee with
      | .value y => match evalO s y, evalL s c.args.toList with
        | some (.s (.lf (.v (.func (.func f) fi ca)))), some vs => bif Nat.beq fi.toList.length 0 && Nat.beq ca.toList.length 0 then some (d, f, vs) else none
        | _, _ => none
      | _ => none
    | _, _, _ => none
  | none => none
theorem xCall_ok {P : Program} {ops : Array Oper} {m : Nat} {s : St} {d : Tmp} {f : FuncId} {vs : List TV} {w0 : World} {wr : Bs} {ρ : Env} {a : Act} {w : World} {Q : Exit → Act → World → Prop} {K : Act → World → Prop} {r : Option Nat} {n : Nat} (h : xCall ops m s = some (d, f, vs)) (hd : Den w0 wr ρ s a w) (he : Enters P f)
    (hc : Calls P f (vs.map (TV.val ρ)).toArray w fun e w' => ∃ v, e = .returned v ∧ K (a.put (some d) v) w') : wpOpIn (FW r) n P ops Q m K a w := by
  unfold xCall at h
  split at h
  · rename_i o ho
    split at h
    · rename_i d2 c hg hdst hop
      split at h
      · rename_i y hcal
        split at h
        · rename_i f2 fi ca vs2 hy hvs
          cases hb : (Nat.beq fi.toList.length 0 && Nat.beq ca.toList.length 0) with
          | false => rw [hb] at h; cases h
          | true =>
            rw [hb] at h
            cases h
            rw [Bool.and_eq_true] at hb
            obtain rfl : fi = #[] := by apply Array.ext'; exact List.length_eq_zero_iff.1 (Nat.eq_of_beq_eq_true hb.1)
            obtain rfl : ca = #[] := by apply Array.ext'; exact List.length_eq_zero_iff.1 (Nat.eq_of_beq_eq_true hb.2)
            have h1 := (evalO_ok hd hy).1
            have h2 := (evalL_ok hd hvs).1
            unfold wpOpIn
            rw [ho]
            simp only
            rw [if_pos (by simp [Region.wanted, hg])]
            refine ⟨fun _ _ => trivial, ?_⟩
            rw [Oper.semAt_eq _ _ _ (by rw [hop]; intro c hc; cases hc)]
            have h3 : c.args.map a.eval = (vs.map (TV.val ρ)).toArray := by
              apply Array.ext'
              rw [Array.toList_map, h2]
            have hrun : (execOp a.eval o).run P w = .ok (.enter f (vs.map (TV.val ρ)).toArray) w := by
              unfold execOp
              rw [hop]
              simp only [resolve, hcal, h1, TV.val, SV.val, Lf.val, h3, Deferred.ofValue, Sem.run_bind, Sem.run_pure, Result.andThen_ok, invoke, Array.append_empty, Array.empty_append]
              exact he _ w
            rw [hrun]
            refine ⟨fun h => by simp [FW, Fence.wide] at h, CallsIn.mono (callsIn_FW hc) ?_⟩
            rintro e w' ⟨v, rfl, hk⟩
            rw [hdst]
            exact hk
        · cases h
      · cases h
    · cases h
  · cases h
/-- Ahead of a call. -/
def call1 (P : Program) (C : Hints) (ops : Array Oper) (base m : Nat) (s : St) (ks rs : List Nat) : Option (List Prop × Tmp × FuncId × List TV × List (Option TV) × List (Option Row)) :=
  match yRun P C ops base m s with
  | some (o1, s1) => match xCall ops m s1 with
    | some (d, f, vs) => some (o1, d, f, vs, ks.map s1.tmps, rs.map s1.row)
    | none => none
  | none => none
/-- Behind it. -/
def call2 (P : Program) (C : Hints) (ops : Array Oper) (base m : Nat) (s : St) (ks rs : List Nat) : Option (List Prop × List (Option TV) × List (Option Row)) :=
  match yRest P C ops base m s with
  | some (o2, s2) => some (o2, ks.map s2.tmps, rs.map s2.row)
  | none => none
/-- **A call by a contract that says 'there is'.** What there is, x, may stand in the states behind. -/
theorem At.callX {α : Type} {P : Program} {w0 : World} {wr : Bs} {n : Nat} {gl : List Nat} {todo : List Item} {Q : Exit → Act → World → Prop} {tm tm1 : List (Nat × TV)} {rows rows1 : List (Nat × Row)} {r : Option Nat} {mk : List Nat} {o1 : List Prop} {d : Tmp} {f : FuncId} {vs : List TV} {o2 : α → List Prop}
    (m : Nat) (cs : List (Nat × Hint)) (hC : allC P cs) (w0' : α → World) (wr' : α → Bs) (tm2 tm3 : α → List (Nat × TV)) (rows2 rows3 : α → List (Nat × Row)) (I : α → Prop) (hr : isReg todo = true)
    (h1 : call1 P (findC cs) (hdOps todo) (1000 + hdRid todo * 1000) m (mkSt n tm rows gl mk) (tm1.map (·.1)) (rows1.map (·.1)) = some (o1, d, f, vs, tm1.map (fun p => some p.2), rows1.map fun p => some p.2)) (ho1 : all o1)
    (hs : (noDef (hdOps todo) && (Nat.ble (m + 1) (hdOps todo).size && (gl.all (fun g => Nat.ble (g + 1) 500) && (idsOk tm1 rows1 gl && wr.k.all (hasN (rows1.map (·.1) ++ gl.map (500 + ·))))))) = true) (he : Enters P f)
    (hcon : ∀ a w ρ, Den w0 wr ρ (mkSt n tm1 rows1 gl mk) a w → Calls P f (vs.map (TV.val ρ)).toArray w fun e w' => ∃ x v ρ', e = .returned v ∧ I x ∧ Den (w0' x) (wr' x) ρ' (mkSt n (tm2 x) (rows2 x) gl mk) (a.put (some d) v) w')
    (h2 : ∀ x, I x → call2 P (findC cs) (hdOps todo) (1000 + hdRid todo * 1000) m (mkSt n (tm2 x) (rows2 x) gl mk) ((tm3 x).map (·.1)) ((rows3 x).map (·.1)) = some (o2 x, (tm3 x).map (fun p => some p.2), (rows3 x).map fun p => some p.2))
    (ho2 : ∀ x, I x → all (o2 x)) (hs2 : ∀ x, (idsOk (tm3 x) (rows3 x) gl && (wr' x).k.all (hasN ((rows3 x).map (·.1) ++ gl.map (500 + ·)))) = true)
    (hK : ∀ x, I x → At P (w0' x) (wr' x) n gl todo.tail Q (tm3 x) (rows3 x) r mk) : At P w0 wr n gl todo Q tm rows r mk := by
  rw [isReg_ok hr]
  intro a w ρ hd
  generalize hdOps todo = ops at *
  generalize hdRid todo = rid at *
  simp only [Bool.and_eq_true] at hs
  obtain ⟨hnd, hms, hg, hi1, hk1⟩ := hs
  have hms := Nat.le_of_ble_eq_true hms
  have hC2 := findC_ok hC
  unfold call1 at h1
  split at h1
  · rename_i p1 s1 hr1
    split at h1
    · rename_i d2 f2 vs2 hy
      simp only [Option.some.injEq, Prod.mk.injEq] at h1
      obtain ⟨rfl, rfl, rfl, rfl, e1, e2⟩ := h1
      obtain ⟨k1, k2⟩ := runL_keep hr1
      refine KX.code (n := 5) (K := fun a w => KX P r todo.tail Q a w) (wpIn_region ?_) fun a w h => h
      rw [show List.range ops.size = List.range' 0 m ++ (m :: List.range' (m + 1) (ops.size - (m + 1))) by
        rw [List.range_eq_range', ← List.range'_succ]
        have := List.range'_append_1 (s := 0) (m := m) (n := ops.size - (m + 1) + 1)
        rw [Nat.zero_add] at this
        rw [this]
        congr 1
        omega]
      refine wpOpsIn_append (K := fun a w => ∃ ρ, Den w0 wr ρ s1 a w) hnd (fun a w ⟨ρ, hd⟩ => ?_) _ a w (seq_ok hC2 (fun a w ρ hd => ⟨rfl, ρ, hd⟩) _ _ _ _ _ _ _ hr1 ho1 hd)
      rw [wpOpsIn_cons]
      have hd1 := den_mk (gl := gl) hd e1 e2 (fun g hgm => ⟨Nat.le_of_ble_eq_true (List.all_eq_true.1 hg g hgm), k2 _ (hasN_iff.2 (List.mem_append.2 (.inr (List.mem_map.2 ⟨g, hgm, rfl⟩))))⟩) hi1 hk1
      rw [k1.1, k1.2] at hd1
      refine xCall_ok hy hd he ((hcon a w ρ hd1).mono ?_)
      rintro e w' ⟨x, v, ρ', rfl, hI, hd2⟩
      refine ⟨v, rfl, ?_⟩
      have h3 := h2 x hI
      unfold call2 at h3
      split at h3
      · rename_i p2 s2 hr2
        simp only [Option.some.injEq, Prod.mk.injEq] at h3
        obtain ⟨rfl, e3, e4⟩ := h3
        have hs3 := hs2 x
        rw [Bool.and_eq_true] at hs3
        refine rest_ok hnd hC2 hr2 (ho2 x hI) (fun a w ρ hd3 => ⟨rfl, ?_⟩) hd2
        obtain ⟨j1, j2⟩ := runL_keep hr2
        have := den_mk (gl := gl) hd3 e3 e4 (fun g hgm => ⟨Nat.le_of_ble_eq_true (List.all_eq_true.1 hg g hgm), j2 _ (hasN_iff.2 (List.mem_append.2 (.inr (List.mem_map.2 ⟨g, hgm, rfl⟩))))⟩) hs3.1 hs3.2
        rw [j1.1, j1.2] at this
        exact hK x hI a w ρ this
      · cases h3
    · cases h1
  · cases h1
/-- Behind a call that changed nothing of old: the world reckoned from anew; what it made are rows more (read alone), slot d the answer. -/
theorem den_call {w0 : World} {wr : Bs} {ρ σ : Env} {n : Nat} {tm : List (Nat × TV)} {rows nr : List (Nat × Row)} {gl K : List Nat} {a : Act} {w w' : World} {d : Tmp} {tv : TV} {v : Value} (hd : Den w0 wr ρ (mkSt n tm rows gl) a w) (hb : Below w.heap.size w w') (hdn : d < n) (hv : v = tv.val σ) (hok : tv.ok)
    (hσ : ∀ r, (r < 1000 ∨ hasN (rows.map (·.1)) r = true) → σ r = ρ r) (hi : idsOk ((d, tv) :: tm) (rows ++ nr) gl = true) (hnr : ∀ p ∈ nr, RowAt σ p.1 p.2 w' ∧ pok p.2.ps ∧ w.heap.size ≤ (σ p.1).1) (hro : nr.all (fun p => !p.2.w) = true) (hK : K.all (hasN ((rows ++ nr).map (·.1) ++ gl.map (500 + ·))) = true) (hgl : gl.all (fun g => Nat.ble (g + 1) 500) = true) (hn5 : nr.all (fun p => Nat.ble 1000 p.1) = true) (hold : tm.all (fun p => p.2.ids.all (fun r => Nat.ble (r + 1) 1000 || hasN (rows.map (·.1)) r)) = true) (holdR : rows.all (fun p => (pids p.2.ps).all (fun r => Nat.ble (r + 1) 1000 || hasN (rows.map (·.1)) r)) = true) :
    Den w' ⟨wlOf σ rows, σ, K⟩ σ (mkSt n ((d, tv) :: tm) (rows ++ nr) gl) (a.put (some d) v) w' := by
  subst hv
  simp only [idsOk, Bool.and_eq_true, List.all_eq_true] at hi
  have hwf : ∀ p ∈ nr, p.2.w = false := fun p hp => by simpa using List.all_eq_true.1 hro p hp
  have hσ2 : ∀ r, (Nat.ble (r + 1) 1000 || hasN (rows.map (·.1)) r) = true → σ r = ρ r := fun r hr => hσ r (by
    rw [Bool.or_eq_true] at hr
    exact hr.imp (fun h => Nat.le_of_ble_eq_true h) id)
  have hfind : ∀ {l m : List (Nat × Row)} {r : Nat} {y : Row}, findR (l ++ m) r = some y → findR l r = some y ∨ (r, y) ∈ m := by
    intro l m r y h
    induction l with
    | nil => exact .inr (findR_mem h)
    | cons p l ih =>
      rw [List.cons_append] at h
      unfold findR at h ⊢
      cases hbq : Nat.beq p.1 r with
      | true => rw [hbq] at h; exact .inl h
      | false => rw [hbq] at h; exact ih h
  refine ⟨by rw [put_size]; exact hd.sz, by rw [put_defers]; exact hd.df, ⟨List.nodup_nil, fun D hD => by cases hD⟩, KeepsOthers.refl _, fun t x hx => ?_, fun r y hr => ?_, fun r q y z hr hq hrq hw => ?_, Fr.refl _ _, fun _ _ => rfl, fun r hr => List.all_eq_true.1 hK r hr, fun g hg hu => ?_, fun r B h => by cases h⟩
  · rw [tm_put (s := mkSt n tm rows gl) (fun x hx => by cases hx; rw [hd.sz]; exact hdn)]
    simp only
    have hx2 : findT ((d, tv) :: tm) t = some x := hx
    unfold findT at hx2
    by_cases htd : t = d
    · rw [if_pos htd]
      subst htd
      simp at hx2
      subst hx2
      exact ⟨rfl, hok, fun r hr => hi.1 (t, tv) (by simp) r hr⟩
    · rw [if_neg htd]
      rw [show Nat.beq d t = false by cases hb : Nat.beq d t with | false => rfl | true => exact absurd (Nat.eq_of_beq_eq_true hb).symm htd] at hx2
      obtain ⟨g1, g2, g3⟩ := hd.tm t x hx2
      have hm := findT_mem hx2
      refine ⟨by rw [g1, TV.val_congr (fun r hr => (hσ2 r (List.all_eq_true.1 (List.all_eq_true.1 hold _ hm) r hr)).symm)], g2, fun r hr => hi.1 (t, x) (List.mem_cons_of_mem _ hm) r hr⟩
  · have hm := findR_mem (l := rows ++ nr) hr
    rcases hfind (l := rows) (m := nr) hr with h1 | h1
    · obtain ⟨g1, g2, _⟩ := hd.rw r y h1
      refine ⟨?_, g2, hasN_iff.2 (List.mem_append.2 (.inl (List.mem_map.2 ⟨_, hm, rfl⟩))), fun p hp => hi.2 _ hm p hp, fun hw => .inr (mem_wlOf (findR_mem h1) hw)⟩
      have g4 := g1.below hb
      have hself : σ r = ρ r := hσ r (.inr (hasN_iff.2 (List.mem_map.2 ⟨_, findR_mem h1, rfl⟩)))
      unfold RowAt at g4 ⊢
      rw [hself, lst_congr (σ := ρ) (fun q hq => hσ2 q (List.all_eq_true.1 (List.all_eq_true.1 holdR _ (findR_mem h1)) q hq))]
      exact g4
    · obtain ⟨g1, g2, _⟩ := hnr _ h1
      exact ⟨g1, g2, hasN_iff.2 (List.mem_append.2 (.inl (List.mem_map.2 ⟨_, hm, rfl⟩))), fun p hp => hi.2 _ hm p hp, (fun hw => by rw [hwf _ h1] at hw; cases hw)⟩
  · rcases hfind (l := rows) (m := nr) hr with h1 | h1
    · have hself : σ r = ρ r := hσ r (.inr (hasN_iff.2 (List.mem_map.2 ⟨_, findR_mem h1, rfl⟩)))
      rw [hself]
      rcases hfind (l := rows) (m := nr) hq with h2 | h2
      · rw [hσ q (.inr (hasN_iff.2 (List.mem_map.2 ⟨_, findR_mem h2, rfl⟩)))]
        exact hd.ds r q y z h1 h2 hrq hw
      · have g1 := (hd.rw r y h1).1.1
        have g2 := (hnr _ h2).2.2
        simp only at g2
        omega
    · rw [hwf _ h1] at hw; cases hw
  · rw [hσ _ (.inl (by omega))]
    refine hd.gl g hg ?_
    have := hasN_iff.1 hu
    refine hasN_iff.2 ?_
    rw [List.map_append] at this
    rcases List.mem_append.1 this with h1 | h1
    · rcases List.mem_append.1 h1 with h1 | h1
      · exact List.mem_append.2 (.inl h1)
      · obtain ⟨p, hp, he⟩ := List.mem_map.1 h1
        have := Nat.le_of_ble_eq_true (List.all_eq_true.1 hn5 p hp)
        omega
    · exact List.mem_append.2 (.inr h1)
/-- What was of old is so behind all of it. -/
theorem fr_call {w0 : World} {wr : Bs} {ρ σ : Env} {n : Nat} {tm : List (Nat × TV)} {rows : List (Nat × Row)} {gl : List Nat} {a : Act} {w w' w2 : World} (hd : Den w0 wr ρ (mkSt n tm rows gl) a w) (hn : nodupB (rows.map (·.1)) = true) (hb : Below w.heap.size w w')
    (hσ : ∀ r, (r < 1000 ∨ hasN (rows.map (·.1)) r = true) → σ r = ρ r) (hf : Fr w' (wlOf σ rows) w2) : Fr w0 wr.l w2 := by
  have h1 := hd.fr.trans_below hb
  refine ⟨hf.os.trans h1.os, hf.tape.trans h1.tape, hf.output.trans h1.output, Nat.le_trans h1.size hf.size, fun k hk hkn => (hf.block k (Nat.lt_of_lt_of_le hk h1.size) fun hm => ?_).trans (h1.block k hk hkn)⟩
  obtain ⟨p, hp, hw, he⟩ := wlOf_mem hm
  rw [hσ p.1 (.inr (hasN_iff.2 (List.mem_map.2 ⟨p, hp, rfl⟩)))] at he
  rcases (hd.rw p.1 p.2 (findR_nodup (nodupB_ok hn) hp)).2.2.2.2 hw with h2 | h2
  · omega
  · rw [he] at hkn; exact hkn h2
end Go.Proofs.Ytglipljilcdboaa.E
/- Of the program: a text taken. Its conditions: what a tree keeps, and that the text is not too long. -/
namespace Go.Proofs.Ytglipljilcdboaa
open Go.RowKit Go.Shelf
set_option linter.unusedVariables false
set_option linter.unusedSimpArgs false
section
open E
/-- Behind a call the state said anew, in the world that the call left. -/
theorem E.den_again {w0 : World} {wr : Bs} {ρ σ : Env} {n : Nat} {tm tm' : List (Nat × TV)} {rows rows2 : List (Nat × Row)} {a : Act} {w w' : World} {d : Nat} {v : Value} {K : List Nat} (hd : Den w0 wr ρ (mkSt n tm rows []) a w) (hdn : d < n)
    (h : ∀ p ∈ tm', (p.1 = d ∧ v = p.2.val σ ∧ p.2.ok) ∨ (p.1 ≠ d ∧ findT tm p.1 = some p.2 ∧ ∀ r ∈ p.2.ids, σ r = ρ r)) (hi : idsOk tm' rows2 [] = true) (hr : ∀ p ∈ rows2, RowAt σ p.1 p.2 w' ∧ pok p.2.ps) (hds : ∀ p ∈ rows2, ∀ q ∈ rows2, p.1 ≠ q.1 → p.2.w = true → (σ p.1).1 ≠ (σ q.1).1) (hK : K.all (hasN (rows2.map (·.1))) = true) (hk5 : rows2.all (fun p => Nat.ble (p.1 + 1) 500 || Nat.ble 1000 p.1) = true) :
    Den w' ⟨wlOf σ rows2, σ, K⟩ σ (mkSt n tm' rows2 []) (a.put (some d) v) w' := by
  simp only [idsOk, Bool.and_eq_true, List.all_eq_true] at hi
  have hu : ∀ r, (mkSt n tm' rows2 []).used r = hasN (rows2.map (·.1)) r := fun r => by show hasN (rows2.map (·.1) ++ []) r = _; rw [List.append_nil]
  refine ⟨by rw [put_size]; exact hd.sz, by rw [put_defers]; exact hd.df, ⟨List.nodup_nil, fun D hD => by cases hD⟩, KeepsOthers.refl _, fun t x hx => ?_, fun r y hr2 => ?_, fun r q y z hr2 hq hrq hw => ?_, Fr.refl _ _, fun _ _ => rfl, fun r hr2 => ?_, fun g hg hug => ?_, fun r B h => by cases h⟩
  · rw [tm_put (s := mkSt n tm rows []) (fun x hx => by cases hx; rw [hd.sz]; exact hdn)]
    simp only
    have hm := findT_mem (show findT tm' t = some x from hx)
    rcases h _ hm with ⟨e1, e2, e3⟩ | ⟨e1, e2, e3⟩
    · rw [if_pos e1]
      exact ⟨by rw [e2], e3, fun r hr2 => hi.1 _ hm r hr2⟩
    · rw [if_neg e1]
      obtain ⟨g1, g2, g3⟩ := hd.tm t x e2
      exact ⟨by rw [g1, TV.val_congr (fun r hr2 => (e3 r hr2).symm)], g2, fun r hr2 => hi.1 _ hm r hr2⟩
  · have hm := findR_mem (show findR rows2 r = some y from hr2)
    obtain ⟨g1, g2⟩ := hr _ hm
    exact ⟨g1, g2, by rw [hu]; exact hasN_iff.2 (List.mem_map.2 ⟨_, hm, rfl⟩), fun p hp => hi.2 _ hm p hp, fun hw => .inr (mem_wlOf hm hw)⟩
  · exact hds _ (findR_mem (show findR rows2 r = some y from hr2)) _ (findR_mem (show findR rows2 q = some z from hq)) hrq hw
  · rw [hu]; exact List.all_eq_true.1 hK r hr2
  · rw [hu] at hug
    obtain ⟨p, hp, he⟩ := List.mem_map.1 (hasN_iff.1 hug)
    have := List.all_eq_true.1 hk5 p hp
    rw [Bool.or_eq_true] at this
    rcases this with h5 | h5 <;> have := Nat.le_of_ble_eq_true h5 <;> omega
theorem TkQ.before {W W1 W2 : World} {b : Nat} {vb : Value} {D : List Nat} {r : Option TS} {e : Ending} (h : Fr W [] W1) (k : TkQ W1 b vb D r e W2) : TkQ W b vb D r e W2 := by
  cases r with
  | none => exact ⟨k.1, (h.widen (fun x hx => by cases hx)).comp k.2.1 (fun x hx => .inl hx), k.2.2⟩
  | some t => exact ⟨k.1, k.2.before h⟩
theorem TkQ.after {W W1 W2 : World} {b : Nat} {vb : Value} {D : List Nat} {r : Option TS} {e : Ending} (h : TkQ W b vb D r e W1) (k : Fr W1 [] W2) : TkQ W b vb D r e W2 := by
  cases r with
  | none =>
    obtain ⟨h1, h2, vn, vo, pl, pa, h3, h4, h5⟩ := h
    exact ⟨h1, h2.comp k (fun x hx => by cases hx), vn, vo, pl, pa, h3, h4, rowAt_fr h5 k (by simp)⟩
  | some t => exact ⟨h.1, h.2.after k⟩
theorem TkQ.bool {W W1 : World} {b : Nat} {vb : Value} {D : List Nat} {r : Option TS} {e : Ending} (h : TkQ W b vb D r e W1) : e = .returned (.bool r.isSome) := by
  cases r with
  | none => exact h.1
  | some t => exact h.1
theorem ent34 : Enters Try.prog 34 := enters_of Try.func34 (by kernel_rfl) rfl
abbrev rdN (t : TS) (vb vn vo : Value) : Nat × Row := (0, ⟨(rdP (.v vb) (.v vn) (.v vo) t.pl t.path false).ps, false, none⟩)
abbrev nB : Bs := ⟨[], fun _ => ⟨0, 0, 0⟩, []⟩
theorem find_at {l : List (List UInt8 × Nat × Int)} {s : List UInt8} : ∀ {i : Nat}, i < l.length → (l.take i).find? (fun w => w.1 == s) = none → (l.getD i wy0).1 = s → l.find? (fun w => w.1 == s) = some (l.getD i wy0) := by
  intro i hi h1 h2
  have e : l = l.take i ++ (l.getD i wy0 :: l.drop (i + 1)) := by
    rw [List.getD_eq_getElem?_getD, List.getElem?_eq_getElem hi]
    show l = l.take i ++ (l[i] :: l.drop (i + 1))
    rw [List.getElem_cons_drop, List.take_append_drop]
  rw [e, List.find?_append, h1, Option.none_or, ← e]
  rw [List.find?_cons_of_pos]
  simpa using h2
theorem find_snoc {l : List (List UInt8 × Nat × Int)} {s : List UInt8} {i : Nat} (hi : i < l.length) (h1 : (l.take i).find? (fun w => w.1 == s) = none) (h2 : (l.getD i wy0).1 ≠ s) : (l.take (i + 1)).find? (fun w => w.1 == s) = none := by
  rw [List.take_add_one, List.getElem?_eq_getElem hi, List.find?_append, h1, Option.none_or]
  rw [List.getD_eq_getElem?_getD, List.getElem?_eq_getElem hi] at h2
  simp only [Option.toList, Option.getD] at h2 ⊢
  rw [List.find?_cons_of_neg (by simpa using h2)]
  rfl
set_option maxRecDepth 100000 in
theorem take_any (W : World) (b : Nat) (vb : Value) (hvb : vb.oneCell' = true) (t : TS) (hg : Good t) (D : List Nat) (h : TkPre W b vb t D) (s : List UInt8) (hs : t.pl = 14 → s.length ≤ 255) : Calls Try.prog 34 #[.pointer (some ⟨b, 1, none⟩), stv s] W (TkQ W b vb D (takeM t s)) := by
  have h0 := h
  obtain ⟨vn, vo, h1, hv, hd⟩ := h
  have hvn : vn.oneCell' = true := by rcases hv with ⟨_, rfl, _⟩ | ⟨_, Bn, Bo, rfl, _⟩ <;> rfl
  have hvo : vo.oneCell' = true := by rcases hv with ⟨_, _, rfl, _⟩ | ⟨_, Bn, Bo, _, rfl, _⟩ <;> rfl
  rw [← ptT_val (ρ := fun _ => (⟨b, 0, 0⟩ : Blk)) rfl]
  have h1' : RowAt (fun _ => (⟨b, 0, 0⟩ : Blk)) 0 (rdN t vb vn vo).2 W := ⟨h1.1, fun j v hv => ⟨(h1.2.1 j v hv).1, fun h => by cases h⟩, (fun e k h => by cases h), h1.2.2.2⟩
  refine At.calls (args := [ptT, .v (stv s)]) (rows := [rdN t vb vn vo]) (gl := []) (wr := []) (ρ := fun _ => (⟨b, 0, 0⟩ : Blk)) Try.func34 rfl rfl (init_ro1 ⟨trivial, rfl, trivial⟩ rfl rfl ⟨⟨h1', rdP_ok _ _ _ hvb hvn hvo⟩, trivial⟩) rfl ?_
  by_cases h14 : t.pl = 14
  · refine At.run rfl [] trivial [.y] (tm2 := [(0, ptT), (1, .v (stv s))]) (rows2 := [rdN t vb vn vo]) (ob := [((t.pl : Int) == 14) = true]) (td := rp Try.f34 3) (by kernel_rfl) ⟨by rw [h14]; rfl, trivial⟩ rfl rfl (by intro h; cases h) ?_
    refine At.callX (α := World) 2 [] trivial (fun x => x) (fun _ => nB) (fun _ => [(15, .v (.bool (takeM t s).isSome))]) (fun _ => [(4, .v (.bool (takeM t s).isSome))]) (fun _ => []) (fun _ => []) (fun x => TkQ W b vb D (takeM t s) (.returned (.bool (takeM t s).isSome)) x) rfl (tm1 := []) (rows1 := []) (o1 := []) (d := 15) (f := 52) (vs := [ptT, .v (stv s)]) (o2 := fun _ => []) (by kernel_rfl) trivial rfl ent52 (fun a w ρ hden => ?_) (fun x _ => by kernel_rfl) (fun x _ => trivial) (fun x => rfl) (fun x hx => ?_)
    · have e0 : ρ 0 = ⟨b, 0, 0⟩ := hden.e0 0 (.inl (by decide))
      have ht : takeM t s = enterM t s := by unfold takeM; rw [if_pos h14]
      rw [show (List.map (TV.val ρ) [ptT, .v (stv s)]).toArray = #[.pointer (some ⟨b, 1, none⟩), stv s] by rw [← ptT_val e0]; rfl]
      refine (enter_any w b vb hvb t h14 hg D (h0.below hden.fr) s (hs h14)).mono ?_
      intro e w' hq
      rw [← ht] at hq
      have he := hq.bool
      subst he
      exact ⟨w', .bool (takeM t s).isSome, fun _ => ⟨0, 0, 0⟩, rfl, hq.before hden.fr, den_again (d := 15) (tm' := [(15, .v (.bool (takeM t s).isSome))]) (rows2 := []) (K := []) hden (by decide) (fun p hp => by obtain rfl := List.mem_singleton.1 hp; exact .inl ⟨rfl, rfl, rfl⟩) rfl (fun p hp => by cases hp) (fun p hp => by cases hp) rfl rfl⟩
    · exact At.fin rfl [] trivial [] (x := .v (.bool (takeM t s).isSome)) (ob := []) (by kernel_rfl) trivial fun ρ w' hf _ => hx.after hf
  by_cases h97 : t.pl = 9 ∨ t.pl = 7
  · have e14 : ((t.pl : Int) == 14) = false := by simpa using (by omega : ¬ (t.pl : Int) = 14)
    have ht : takeM t s = holdM t s := by unfold takeM; rw [if_neg h14, if_pos h97]
    have main : At Try.prog W ⟨[], fun _ => ⟨b, 0, 0⟩, []⟩ Try.f34.ntmps [] (rp Try.f34 6) (EndX Try.prog Try.f34 (TkQ W b vb D (takeM t s))) [(0, ptT), (1, .v (stv s))] [rdN t vb vn vo] := by
      refine At.callX (α := World) 2 [] trivial (fun x => x) (fun _ => nB) (fun _ => [(21, .v (.bool (takeM t s).isSome))]) (fun _ => [(4, .v (.bool (takeM t s).isSome))]) (fun _ => []) (fun _ => []) (fun x => TkQ W b vb D (takeM t s) (.returned (.bool (takeM t s).isSome)) x) rfl (tm1 := []) (rows1 := []) (o1 := []) (d := 21) (f := 53) (vs := [ptT, .v (stv s)]) (o2 := fun _ => []) (by kernel_rfl) trivial rfl ent53 (fun a w ρ hden => ?_) (fun x _ => by kernel_rfl) (fun x _ => trivial) (fun x => rfl) (fun x hx => ?_)
      · have e0 : ρ 0 = ⟨b, 0, 0⟩ := hden.e0 0 (.inl (by decide))
        rw [show (List.map (TV.val ρ) [ptT, .v (stv s)]).toArray = #[.pointer (some ⟨b, 1, none⟩), stv s] by rw [← ptT_val e0]; rfl]
        refine (hold_any w b vb hvb t (by omega) hg D (h0.below hden.fr) s).mono ?_
        intro e w' hq
        rw [← ht] at hq
        have he := hq.bool
        subst he
        exact ⟨w', .bool (takeM t s).isSome, fun _ => ⟨0, 0, 0⟩, rfl, hq.before hden.fr, den_again (d := 21) (tm' := [(21, .v (.bool (takeM t s).isSome))]) (rows2 := []) (K := []) hden (by decide) (fun p hp => by obtain rfl := List.mem_singleton.1 hp; exact .inl ⟨rfl, rfl, rfl⟩) rfl (fun p hp => by cases hp) (fun p hp => by cases hp) rfl rfl⟩
      · exact At.fin rfl [] trivial [] (x := .v (.bool (takeM t s).isSome)) (ob := []) (by kernel_rfl) trivial fun ρ w' hf _ => hx.after hf
    rcases h97 with h9 | h7
    · exact At.run rfl [] trivial [.n, .y, .y] (tm2 := [(0, ptT), (1, .v (stv s))]) (rows2 := [rdN t vb vn vo]) (ob := [((t.pl : Int) == 14) = false, ((t.pl : Int) == 9) = true, ((t.pl : Int) == 9) = true]) (td := rp Try.f34 6) (by kernel_rfl) ⟨e14, by rw [h9]; rfl, by rw [h9]; rfl, trivial⟩ rfl rfl (by intro h; cases h) main
    · exact At.run rfl [] trivial [.n, .n, .y] (tm2 := [(0, ptT), (1, .v (stv s))]) (rows2 := [rdN t vb vn vo]) (ob := [((t.pl : Int) == 14) = false, ((t.pl : Int) == 9) = false, ((t.pl : Int) == 7) = true]) (td := rp Try.f34 6) (by kernel_rfl) ⟨e14, by rw [h7]; rfl, by rw [h7]; rfl, trivial⟩ rfl rfl (by intro h; cases h) main
  obtain ⟨l, hl⟩ : ∃ l, l = waysL t.pl := ⟨_, rfl⟩
  have e14 : ((t.pl : Int) == 14) = false := by simpa using (by omega : ¬ (t.pl : Int) = 14)
  have e9 : ((t.pl : Int) == 9) = false := by simpa using (by omega : ¬ (t.pl : Int) = 9)
  have e7 : ((t.pl : Int) == 7) = false := by simpa using (by omega : ¬ (t.pl : Int) = 7)
  have hp17 : t.pl ≤ 17 := hg.pl
  have htk : takeM t s = match l.find? (fun w => w.1 == s) with
      | some w => some (followM t w)
      | none => none := by rw [hl]; unfold takeM; rw [if_neg h14, if_neg h97]; rfl
  have bad : ∀ w', Fr W [] w' → l.find? (fun w => w.1 == s) = none → TkQ W b vb D (takeM t s) (.returned (.bool false)) w' := fun w' hf hn => by
    rw [htk, hn]; exact ⟨rfl, hf.widen (fun x hx => by cases hx), vn, vo, t.pl, t.path, hvn, hvo, rowAt_fr h1 hf (by simp)⟩
  by_cases h17 : t.pl = 17
  · have hl0 : l = [] := by rw [hl, h17]; rfl
    refine At.fin rfl [(8004, pc 51 #[.int .i64 (t.pl : Int)] (.v (.slice none 0 0)))] ⟨pc_ok ent51 (v := .slice none 0 0) rfl (fun _ => rfl) fun w => by rw [h17]; exact ways_17 w, trivial⟩ [.n, .n, .n, .u, .d] (x := .v (.bool false)) (ob := [[((t.pl : Int) == 14) = false, ((t.pl : Int) == 9) = false, ((t.pl : Int) == 7) = false], qL (pc 51 #[.int .i64 (t.pl : Int)] (.v (.slice none 0 0)))].flatten) (by kernel_rfl) (all_flat ⟨⟨e14, e9, e7, trivial⟩, all_qL _, trivial⟩) fun ρ w' hf _ => bad w' hf (by rw [hl0]; rfl)
  have hw : wordP t.pl := ⟨by omega, by omega, by omega, by omega⟩
  have kW := hWy_ok 8004 t.pl hw
  obtain ⟨hl3, hl13⟩ := ways_len t.pl
  rw [← hl] at hl3 hl13
  have kW' : HintOk Try.prog 8004 (.call ⟨51, fun _ => #[.int .i64 (t.pl : Int)], .s (.lf (.sl 8004 0 0 3 l.length none)), [], [], some (wyR l), []⟩) := by rw [hl]; exact kW
  have hloop : ∀ i : Nat, i ≤ l.length ∧ (l.take i).find? (fun w => w.1 == s) = none → At Try.prog W ⟨[], fun _ => ⟨b, 0, 0⟩, []⟩ Try.f34.ntmps [] (lp Try.f34 0) (EndX Try.prog Try.f34 (TkQ W b vb D (takeM t s))) [(0, ptT), (1, .v (stv s)), (26, .s (.lf (.sl 8004 0 0 3 l.length none))), (27, .int .i64 (l.length : Int)), (28, .int .i64 (i : Int))] [rdN t vb vn vo, (8004, wyR l)] := by
    refine At.loop (fun i : Nat => [(0, ptT), (1, .v (stv s)), (26, .s (.lf (.sl 8004 0 0 3 l.length none))), (27, .int .i64 (l.length : Int)), (28, .int .i64 (i : Int))]) (fun _ => [rdN t vb vn vo, (8004, wyR l)]) (fun i => i ≤ l.length ∧ (l.take i).find? (fun w => w.1 == s) = none) (fun i => l.length - i) fun i ⟨hi, hfn⟩ ih => ?_
    by_cases h : i < l.length
    · have ha : addN 0 ((i : Int)).toNat = i := by rw [addN_eq]; omega
      by_cases hq : (l.getD i wy0).1 = s
      · refine At.run rfl [] trivial [.y, .y] (tm2 := [(0, ptT), (1, .v (stv s)), (6, .s (.lf (.ptr 10002 0 0 0 0)))]) (rows2 := [rdN t vb vn vo, (8004, wyR l), (10002, ⟨[.one (.v (stv (l.getD (addN 0 ((i : Int)).toNat) wy0).1)), .one (.v (.int .i64 ((l.getD (addN 0 ((i : Int)).toNat) wy0).2.1 : Int))), .one (.v (.int .i64 (l.getD (addN 0 ((i : Int)).toNat) wy0).2.2))], true, none⟩)]) (ob := [decide ((i : Int) < (l.length : Int)) = true, 0 ≤ (i : Int) ∧ (i : Int) < (l.length : Int), addN 0 ((i : Int)).toNat < l.length, ((l.getD (addN 0 ((i : Int)).toNat) wy0).1 == s) = true]) (td := rp Try.f34 11) (by kernel_rfl) ⟨decide_eq_true (by omega), ⟨by omega, by omega⟩, by rw [ha]; exact h, by rw [ha, hq]; exact beq_self_eq_true s, trivial⟩ rfl rfl (by intro h; cases h) ?_
        obtain ⟨x, hx⟩ : ∃ x, x = l.getD (addN 0 ((i : Int)).toNat) wy0 := ⟨_, rfl⟩
        have hxi : x = l.getD i wy0 := by rw [hx, ha]
        rw [← hx]
        have hfs : l.find? (fun w => w.1 == s) = some x := by rw [hxi]; exact find_at h hfn hq
        have ht : takeM t s = some (followM t x) := by rw [htk, hfs]
        have hxm : x ∈ waysL t.pl := by rw [← hl]; exact List.mem_of_find?_eq_some hfs
        refine At.callX (α := World) 2 [] trivial (fun x => x) (fun _ => nB) (fun _ => []) (fun _ => []) (fun _ => []) (fun _ => []) (fun x => TkQ W b vb D (takeM t s) (.returned (.bool true)) x) rfl (tm1 := []) (rows1 := []) (o1 := []) (d := 38) (f := 54) (vs := [ptT, wyT x]) (o2 := fun _ => []) (by kernel_rfl) trivial rfl ent54 (fun a w ρ hden => ?_) (fun x _ => by kernel_rfl) (fun x _ => trivial) (fun x => rfl) (fun x hx => ?_)
        · have e0 : ρ 0 = ⟨b, 0, 0⟩ := hden.e0 0 (.inl (by decide))
          rw [show (List.map (TV.val ρ) [ptT, wyT x]).toArray = #[.pointer (some ⟨b, 1, none⟩), wyV x] by rw [← ptT_val e0]; rfl]
          refine (follow_any w b vb hvb t hg D (h0.below hden.fr) x hxm).mono ?_
          rintro e w' ⟨⟨v, rfl⟩, hq⟩
          exact ⟨w', v, fun _ => ⟨0, 0, 0⟩, rfl, (by rw [ht]; exact ⟨rfl, hq.before hden.fr⟩), den_again (d := 38) (tm' := []) (rows2 := []) (K := []) hden (by decide) (fun p hp => by cases hp) rfl (fun p hp => by cases hp) (fun p hp => by cases hp) rfl rfl⟩
        · exact At.fin rfl [] trivial [] (x := .v (.bool true)) (ob := []) (by kernel_rfl) trivial fun ρ w' hf _ => hx.after hf
      · have h9 := ih (i + 1) ⟨h, find_snoc h hfn hq⟩ (by omega)
        exact At.run rfl [] trivial [.y, .n] (tm2 := [(0, ptT), (1, .v (stv s)), (26, .s (.lf (.sl 8004 0 0 3 l.length none))), (27, .int .i64 (l.length : Int)), (28, .int .i64 ((i + 1 : Nat) : Int))]) (rows2 := [rdN t vb vn vo, (8004, wyR l)]) (ob := [decide ((i : Int) < (l.length : Int)) = true, 0 ≤ (i : Int) ∧ (i : Int) < (l.length : Int), addN 0 ((i : Int)).toNat < l.length, ((l.getD (addN 0 ((i : Int)).toNat) wy0).1 == s) = false, inI ((i : Int) + 1)]) (td := lp Try.f34 0) (by kernel_rfl) ⟨decide_eq_true (by omega), ⟨by omega, by omega⟩, by rw [ha]; exact h, by rw [ha]; simpa using hq, ⟨by omega, by omega⟩, trivial⟩ rfl rfl (by intro h; cases h) h9
    · obtain rfl : i = l.length := by omega
      rw [List.take_length] at hfn
      exact At.fin rfl [] trivial [.n] (x := .v (.bool false)) (ob := [decide ((l.length : Int) < (l.length : Int)) = false]) (by kernel_rfl) ⟨decide_eq_false (by omega), trivial⟩ fun ρ w' hf _ => bad w' hf hfn
  exact At.run rfl [(8004, .call ⟨51, fun _ => #[.int .i64 (t.pl : Int)], .s (.lf (.sl 8004 0 0 3 l.length none)), [], [], some (wyR l), []⟩)] ⟨kW', trivial⟩ [.n, .n, .n] (tm2 := [(0, ptT), (1, .v (stv s)), (26, .s (.lf (.sl 8004 0 0 3 l.length none))), (27, .int .i64 (l.length : Int)), (28, .int .i64 ((0 : Nat) : Int))]) (rows2 := [rdN t vb vn vo, (8004, wyR l)]) (ob := [[((t.pl : Int) == 14) = false, ((t.pl : Int) == 9) = false, ((t.pl : Int) == 7) = false], qL (.call ⟨51, fun _ => #[.int .i64 (t.pl : Int)], .s (.lf (.sl 8004 0 0 3 l.length none)), [], [], some (wyR l), []⟩)].flatten) (td := lp Try.f34 0) (by kernel_rfl) (all_flat ⟨⟨e14, e9, e7, trivial⟩, all_qL _, trivial⟩) rfl rfl (by intro h; cases h) (hloop 0 ⟨Nat.zero_le _, by rfl⟩)
end
end Go.Proofs.Ytglipljilcdboaa
