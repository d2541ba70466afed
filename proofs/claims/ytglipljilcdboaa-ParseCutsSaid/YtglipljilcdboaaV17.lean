/- Several texts, one behind the other; each says by itself what it proves, and on what conditions. -/
import Derived.Test.YtglipljilcdboaaV16
/- A call of which the answer is told by 'there is': at its place in a region; the world reckoned from anew. No condition. -/
namespace Go.Proofs.Ytglipljilcdboaa.E
open Go Go.RowKit
set_option linter.unusedVariables false
set_option linter.unusedSimpArgs false

/-- Which function is called, with what, and where the answer goes. -/
def xCall (ops : Array Oper) (m : Nat) (s : St) : Option (Tmp × FuncId × List TV) :=
  match ops[m]? with
  | some o => match o.guard, o.dst, o.op with
    | none, some d, .call c => match c.callee with
      | .value y => match evalO s y, evalL s c.args.toList with
        | some (.s (.lf (.v (.func (.func f) fi ca)))), some vs => bif Nat.beq fi.toList.length 0 && Nat.beq ca.toList.length 0 then some (d, f, vs) else none
        | _, _ => none
      | _ => none
    | _, _, _ => none
  | none => none
theorem xCall_ok {P : Program} {ops : Array Oper} {m : Nat} {s : St} {d : Tmp} {f : FuncId} {vs : List TV} {w0 : World} {wr : Bs} {ρ : Env} {a : Act} {w : World} {Q : Exit → Act → World → Prop} {K : Act → World → Prop} {r : Option Nat} {n : Nat} (h : xCall ops m s = some (d, f, vs)) (hd : Den w0 wr ρ s a w) (he : Enters P f)
    (hc : Calls P f (vs.map (TV.val ρ)).toArray w fun e w' => ∃ v, e = .returned v ∧ K (a.put (some d) v) w') : wpOpIn (FW r) n P ops Q m K a w := by
  unfold xCall at h
  split at h
  · rename_i o ho
    split at h
    · rename_i d2 c hg hdst hop
      split at h
      · rename_i y hcal
        split at h
        · rename_i f2 fi ca vs2 hy hvs
          cases hb : (Nat.beq fi.toList.length 0 && Nat.beq ca.toList.length 0) with
          | false => rw [hb] at h; cases h
          | true =>
            rw [hb] at h
            cases h
            rw [Bool.and_eq_true] at hb
            obtain rfl : fi = #[] := by apply Array.ext'; exact List.length_eq_zero_iff.1 (Nat.eq_of_beq_eq_true hb.1)
            obtain rfl : ca = #[] := by apply Array.ext'; exact List.length_eq_zero_iff.1 (Nat.eq_of_beq_eq_true hb.2)
            have h1 := (evalO_ok hd hy).1
            have h2 := (evalL_ok hd hvs).1
            unfold wpOpIn
            rw [ho]
            simp only
            rw [if_pos (by simp [Region.wanted, hg])]
            refine ⟨fun _ _ => trivial, ?_⟩
            rw [Oper.semAt_eq _ _ _ (by rw [hop]; intro c hc; cases hc)]
            have h3 : c.args.map a.eval = (vs.map (TV.val ρ)).toArray := by
              apply Array.ext'
              rw [Array.toList_map, h2]
            have hrun : (execOp a.eval o).run P w = .ok (.enter f (vs.map (TV.val ρ)).toArray) w := by
              unfold execOp
              rw [hop]
              simp only [resolve, hcal, h1, TV.val, SV.val, Lf.val, h3, Deferred.ofValue, Sem.run_bind, Sem.run_pure, Result.andThen_ok, invoke, Array.append_empty, Array.empty_append]
              exact he _ w
            rw [hrun]
            refine ⟨fun h => by simp [FW, Fence.wide] at h, CallsIn.mono (callsIn_FW hc) ?_⟩
            rintro e w' ⟨v, rfl, hk⟩
            rw [hdst]
            exact hk
        · cases h
      · cases h
    · cases h
  · cases h
/-- Ahead of a call. -/
def call1 (P : Program) (C : Hints) (ops : Array Oper) (base m : Nat) (s : St) (ks rs : List Nat) : Option (List Prop × Tmp × FuncId × List TV × List (Option TV) × List (Option Row)) :=
  match yRun P C ops base m s with
  | some (o1, s1) => match xCall ops m s1 with
    | some (d, f, vs) => some (o1, d, f, vs, ks.map s1.tmps, rs.map s1.row)
    | none => none
  | none => none
/-- Behind it. -/
def call2 (P : Program) (C : Hints) (ops : Array Oper) (base m : Nat) (s : St) (ks rs : List Nat) : Option (List Prop × List (Option TV) × List (Option Row)) :=
  match yRest P C ops base m s with
  | some (o2, s2) => some (o2, ks.map s2.tmps, rs.map s2.row)
  | none => none
/-- **A call by a contract that says 'there is'.** What there is, x, may stand in the states behind. -/
theorem At.callX {α : Type} {P : Program} {w0 : World} {wr : Bs} {n : Nat} {gl : List Nat} {todo : List Item} {Q : Exit → Act → World → Prop} {tm tm1 : List (Nat × TV)} {rows rows1 : List (Nat × Row)} {r : Option Nat} {mk : List Nat} {o1 : List Prop} {d : Tmp} {f : FuncId} {vs : List TV} {o2 : α → List Prop}
    (m : Nat) (cs : List (Nat × Hint)) (hC : allC P cs) (w0' : α → World) (wr' : α → Bs) (tm2 tm3 : α → List (Nat × TV)) (rows2 rows3 : α → List (Nat × Row)) (I : α → Prop) (hr : isReg todo = true)
    (h1 : call1 P (findC cs) (hdOps todo) (1000 + hdRid todo * 1000) m (mkSt n tm rows gl mk) (tm1.map (·.1)) (rows1.map (·.1)) = some (o1, d, f, vs, tm1.map (fun p => some p.2), rows1.map fun p => some p.2)) (ho1 : all o1)
    (hs : (noDef (hdOps todo) && (Nat.ble (m + 1) (hdOps todo).size && (gl.all (fun g => Nat.ble (g + 1) 500) && (idsOk tm1 rows1 gl && wr.k.all (hasN (rows1.map (·.1) ++ gl.map (500 + ·))))))) = true) (he : Enters P f)
    (hcon : ∀ a w ρ, Den w0 wr ρ (mkSt n tm1 rows1 gl mk) a w → Calls P f (vs.map (TV.val ρ)).toArray w fun e w' => ∃ x v ρ', e = .returned v ∧ I x ∧ Den (w0' x) (wr' x) ρ' (mkSt n (tm2 x) (rows2 x) gl mk) (a.put (some d) v) w')
    (h2 : ∀ x, I x → call2 P (findC cs) (hdOps todo) (1000 + hdRid todo * 1000) m (mkSt n (tm2 x) (rows2 x) gl mk) ((tm3 x).map (·.1)) ((rows3 x).map (·.1)) = some (o2 x, (tm3 x).map (fun p => some p.2), (rows3 x).map fun p => some p.2))
    (ho2 : ∀ x, I x → all (o2 x)) (hs2 : ∀ x, (idsOk (tm3 x) (rows3 x) gl && (wr' x).k.all (hasN ((rows3 x).map (·.1) ++ gl.map (500 + ·)))) = true)
    (hK : ∀ x, I x → At P (w0' x) (wr' x) n gl todo.tail Q (tm3 x) (rows3 x) r mk) : At P w0 wr n gl todo Q tm rows r mk := by
  rw [isReg_ok hr]
  intro a w ρ hd
  generalize hdOps todo = ops at *
  generalize hdRid todo = rid at *
  simp only [Bool.and_eq_true] at hs
  obtain ⟨hnd, hms, hg, hi1, hk1⟩ := hs
  have hms := Nat.le_of_ble_eq_true hms
  have hC2 := findC_ok hC
  unfold call1 at h1
  split at h1
  · rename_i p1 s1 hr1
    split at h1
    · rename_i d2 f2 vs2 hy
      simp only [Option.some.injEq, Prod.mk.injEq] at h1
      obtain ⟨rfl, rfl, rfl, rfl, e1, e2⟩ := h1
      obtain ⟨k1, k2⟩ := runL_keep hr1
      refine KX.code (n := 5) (K := fun a w => KX P r todo.tail Q a w) (wpIn_region ?_) fun a w h => h
      rw [show List.range ops.size = List.range' 0 m ++ (m :: List.range' (m + 1) (ops.size - (m + 1))) by
        rw [List.range_eq_range', ← List.range'_succ]
        have := List.range'_append_1 (s := 0) (m := m) (n := ops.size - (m + 1) + 1)
        rw [Nat.zero_add] at this
        rw [this]
        congr 1
        omega]
      refine wpOpsIn_append (K := fun a w => ∃ ρ, Den w0 wr ρ s1 a w) hnd (fun a w ⟨ρ, hd⟩ => ?_) _ a w (seq_ok hC2 (fun a w ρ hd => ⟨rfl, ρ, hd⟩) _ _ _ _ _ _ _ hr1 ho1 hd)
      rw [wpOpsIn_cons]
      have hd1 := den_mk (gl := gl) hd e1 e2 (fun g hgm => ⟨Nat.le_of_ble_eq_true (List.all_eq_true.1 hg g hgm), k2 _ (hasN_iff.2 (List.mem_append.2 (.inr (List.mem_map.2 ⟨g, hgm, rfl⟩))))⟩) hi1 hk1
      rw [k1.1, k1.2] at hd1
      refine xCall_ok hy hd he ((hcon a w ρ hd1).mono ?_)
      rintro e w' ⟨x, v, ρ', rfl, hI, hd2⟩
      refine ⟨v, rfl, ?_⟩
      have h3 := h2 x hI
      unfold call2 at h3
      split at h3
      · rename_i p2 s2 hr2
        simp only [Option.some.injEq, Prod.mk.injEq] at h3
        obtain ⟨rfl, e3, e4⟩ := h3
        have hs3 := hs2 x
        rw [Bool.and_eq_true] at hs3
        refine rest_ok hnd hC2 hr2 (ho2 x hI) (fun a w ρ hd3 => ⟨rfl, ?_⟩) hd2
        obtain ⟨j1, j2⟩ := runL_keep hr2
        have := den_mk (gl := gl) hd3 e3 e4 (fun g hgm => ⟨Nat.le_of_ble_eq_true (List.all_eq_true.1 hg g hgm), j2 _ (hasN_iff.2 (List.mem_append.2 (.inr (List.mem_map.2 ⟨g, hgm, rfl⟩))))⟩) hs3.1 hs3.2
        rw [j1.1, j1.2] at this
        exact hK x hI a w ρ this
      · cases h3
    · cases h1
  · cases h1
end Go.Proofs.Ytglipljilcdboaa.E
/- Of the program: a text taken. Its conditions: what a tree keeps, and that the text is not too long. -/
namespace Go.Proofs.Ytglipljilcdboaa
open Go.RowKit Go.Shelf
set_option linter.unusedVariables false
set_option linter.unusedSimpArgs false
section
open E
/-- Behind a call the state said anew, in the world that the call left. -/
theorem E.den_again {w0 : World} {wr : Bs} {ρ σ : Env} {n : Nat} {tm tm' : List (Nat × TV)} {rows rows2 : List (Nat × Row)} {a : Act} {w w' : World} {d : Nat} {v : Value} {K : List Nat} (hd : Den w0 wr ρ (mkSt n tm rows []) a w) (hdn : d < n)
    (h : ∀ p ∈ tm', (p.1 = d ∧ v = p.2.val σ ∧ p.2.ok) ∨ (p.1 ≠ d ∧ findT tm p.1 = some p.2 ∧ ∀ r ∈ p.2.ids, σ r = ρ r)) (hi : idsOk tm' rows2 [] = true) (hr : ∀ p ∈ rows2, RowAt σ p.1 p.2 w' ∧ pok p.2.ps) (hds : ∀ p ∈ rows2, ∀ q ∈ rows2, p.1 ≠ q.1 → p.2.w = true → (σ p.1).1 ≠ (σ q.1).1) (hK : K.all (hasN (rows2.map (·.1))) = true) (hk5 : rows2.all (fun p => Nat.ble (p.1 + 1) 500 || Nat.ble 1000 p.1) = true) :
    Den w' ⟨wlOf σ rows2, σ, K⟩ σ (mkSt n tm' rows2 []) (a.put (some d) v) w' := by
  simp only [idsOk, Bool.and_eq_true, List.all_eq_true] at hi
  have hu : ∀ r, (mkSt n tm' rows2 []).used r = hasN (rows2.map (·.1)) r := fun r => by show hasN (rows2.map (·.1) ++ []) r = _; rw [List.append_nil]
  refine ⟨by rw [put_size]; exact hd.sz, by rw [put_defers]; exact hd.df, ⟨List.nodup_nil, fun D hD => by cases hD⟩, KeepsOthers.refl _, fun t x hx => ?_, fun r y hr2 => ?_, fun r q y z hr2 hq hrq hw => ?_, Fr.refl _ _, fun _ _ => rfl, fun r hr2 => ?_, fun g hg hug => ?_, fun r B h => by cases h⟩
  · rw [tm_put (s := mkSt n tm rows []) (fun x hx => by cases hx; rw [hd.sz]; exact hdn)]
    simp only
    have hm := findT_mem (show findT tm' t = some x from hx)
    rcases h _ hm with ⟨e1, e2, e3⟩ | ⟨e1, e2, e3⟩
    · rw [if_pos e1]
      exact ⟨by rw [e2], e3, fun r hr2 => hi.1 _ hm r hr2⟩
    · rw [if_neg e1]
      obtain ⟨g1, g2, g3⟩ := hd.tm t x e2
      exact ⟨by rw [g1, TV.val_congr (fun r hr2 => (e3 r hr2).symm)], g2, fun r hr2 => hi.1 _ hm r hr2⟩
  · have hm := findR_mem (show findR rows2 r = some y from hr2)
    obtain ⟨g1, g2⟩ := hr _ hm
    exact ⟨g1, g2, by rw [hu]; exact hasN_iff.2 (List.mem_map.2 ⟨_, hm, rfl⟩), fun p hp => hi.2 _ hm p hp, fun hw => .inr (mem_wlOf hm hw)⟩
  · exact hds _ (findR_mem (show findR rows2 r = some y from hr2)) _ (findR_mem (show findR rows2 q = some z from hq)) hrq hw
  · rw [hu]; exact List.all_eq_true.1 hK r hr2
  · rw [hu] at hug
    obtain ⟨p, hp, he⟩ := List.mem_map.1 (hasN_iff.1 hug)
    have := List.all_eq_true.1 hk5 p hp
    rw [Bool.or_eq_true] at this
    rcases this with h5 | h5 <;> have := Nat.le_of_ble_eq_true h5 <;> omega
theorem TkQ.before {W W1 W2 : World} {b : Nat} {vb : Value} {D : List Nat} {r : Option TS} {e : Ending} (h : Fr W [] W1) (k : TkQ W1 b vb D r e W2) : TkQ W b vb D r e W2 := by
  cases r with
  | none => exact ⟨k.1, (h.widen (fun x hx => by cases hx)).comp k.2.1 (fun x hx => .inl hx), k.2.2⟩
  | some t => exact ⟨k.1, k.2.before h⟩
theorem TkQ.after {W W1 W2 : World} {b : Nat} {vb : Value} {D : List Nat} {r : Option TS} {e : Ending} (h : TkQ W b vb D r e W1) (k : Fr W1 [] W2) : TkQ W b vb D r e W2 := by
  cases r with
  | none =>
    obtain ⟨h1, h2, vn, vo, pl, pa, h3, h4, h5⟩ := h
    exact ⟨h1, h2.comp k (fun x hx => by cases hx), vn, vo, pl, pa, h3, h4, rowAt_fr h5 k (by simp)⟩
  | some t => exact ⟨h.1, h.2.after k⟩
theorem TkQ.bool {W W1 : World} {b : Nat} {vb : Value} {D : List Nat} {r : Option TS} {e : Ending} (h : TkQ W b vb D r e W1) : e = .returned (.bool r.isSome) := by
  cases r with
  | none => exact h.1
  | some t => exact h.1
theorem ent34 : Enters Try.prog 34 := enters_of Try.func34 (by kernel_rfl) rfl
abbrev rdN (t : TS) (vb vn vo : Value) : Nat × Row := (0, ⟨(rdP (.v vb) (.v vn) (.v vo) t.pl t.path false).ps, false, none⟩)
abbrev nB : Bs := ⟨[], fun _ => ⟨0, 0, 0⟩, []⟩
theorem find_at {l : List (List UInt8 × Nat × Int)} {s : List UInt8} : ∀ {i : Nat}, i < l.length → (l.take i).find? (fun w => w.1 == s) = none → (l.getD i wy0).1 = s → l.find? (fun w => w.1 == s) = some (l.getD i wy0) := by
  intro i hi h1 h2
  have e : l = l.take i ++ (l.getD i wy0 :: l.drop (i + 1)) := by
    rw [List.getD_eq_getElem?_getD, List.getElem?_eq_getElem hi]
    show l = l.take i ++ (l[i] :: l.drop (i + 1))
    rw [List.getElem_cons_drop, List.take_append_drop]
  rw [e, List.find?_append, h1, Option.none_or, ← e]
  rw [List.find?_cons_of_pos]
  simpa using h2
theorem find_snoc {l : List (List UInt8 × Nat × Int)} {s : List UInt8} {i : Nat} (hi : i < l.length) (h1 : (l.take i).find? (fun w => w.1 == s) = none) (h2 : (l.getD i wy0).1 ≠ s) : (l.take (i + 1)).find? (fun w => w.1 == s) = none := by
  rw [List.take_add_one, List.getElem?_eq_getElem hi, List.find?_append, h1, Option.none_or]
  rw [List.getD_eq_getElem?_getD, List.getElem?_eq_getElem hi] at h2
  simp only [Option.toList, Option.getD] at h2 ⊢
  rw [List.find?_cons_of_neg (by simpa using h2)]
  rfl
set_option maxRecDepth 100000 in
theorem take_any (W : World) (b : Nat) (vb : Value) (hvb : vb.oneCell' = true) (t : TS) (hg : Good t) (D : List Nat) (h : TkPre W b vb t D) (s : List UInt8) (hs : t.pl = 14 → s.length ≤ 255) : Calls Try.prog 34 #[.pointer (some ⟨b, 1, none⟩), stv s] W (TkQ W b vb D (takeM t s)) := by
  have h0 := h
  obtain ⟨vn, vo, h1, hv, hd⟩ := h
  have hvn : vn.oneCell' = true := by rcases hv with ⟨_, rfl, _⟩ | ⟨_, Bn, Bo, rfl, _⟩ <;> rfl
  have hvo : vo.oneCell' = true := by rcases hv with ⟨_, _, rfl, _⟩ | ⟨_, Bn, Bo, _, rfl, _⟩ <;> rfl
  rw [← ptT_val (ρ := fun _ => (⟨b, 0, 0⟩ : Blk)) rfl]
  have h1' : RowAt (fun _ => (⟨b, 0, 0⟩ : Blk)) 0 (rdN t vb vn vo).2 W := ⟨h1.1, fun j v hv => ⟨(h1.2.1 j v hv).1, fun h => by cases h⟩, (fun e k h => by cases h), h1.2.2.2⟩
  refine At.calls (args := [ptT, .v (stv s)]) (rows := [rdN t vb vn vo]) (gl := []) (wr := []) (ρ := fun _ => (⟨b, 0, 0⟩ : Blk)) Try.func34 rfl rfl (init_ro1 ⟨trivial, rfl, trivial⟩ rfl rfl ⟨⟨h1', rdP_ok _ _ _ hvb hvn hvo⟩, trivial⟩) rfl ?_
  by_cases h14 : t.pl = 14
  · refine At.run rfl [] trivial [.y] (tm2 := [(0, ptT), (1, .v (stv s))]) (rows2 := [rdN t vb vn vo]) (ob := [((t.pl : Int) == 14) = true]) (td := rp Try.f34 3) (by kernel_rfl) ⟨by rw [h14]; rfl, trivial⟩ rfl rfl (by intro h; cases h) ?_
    refine At.callX (α := World) 2 [] trivial (fun x => x) (fun _ => nB) (fun _ => [(15, .v (.bool (takeM t s).isSome))]) (fun _ => [(4, .v (.bool (takeM t s).isSome))]) (fun _ => []) (fun _ => []) (fun x => TkQ W b vb D (takeM t s) (.returned (.bool (takeM t s).isSome)) x) rfl (tm1 := []) (rows1 := []) (o1 := []) (d := 15) (f := 52) (vs := [ptT, .v (stv s)]) (o2 := fun _ => []) (by kernel_rfl) trivial rfl ent52 (fun a w ρ hden => ?_) (fun x _ => by kernel_rfl) (fun x _ => trivial) (fun x => rfl) (fun x hx => ?_)
    · have e0 : ρ 0 = ⟨b, 0, 0⟩ := hden.e0 0 (.inl (by decide))
      have ht : takeM t s = enterM t s := by unfold takeM; rw [if_pos h14]
      rw [show (List.map (TV.val ρ) [ptT, .v (stv s)]).toArray = #[.pointer (some ⟨b, 1, none⟩), stv s] by rw [← ptT_val e0]; rfl]
      refine (enter_any w b vb hvb t h14 hg D (h0.below hden.fr) s (hs h14)).mono ?_
      intro e w' hq
      rw [← ht] at hq
      have he := hq.bool
      subst he
      exact ⟨w', .bool (takeM t s).isSome, fun _ => ⟨0, 0, 0⟩, rfl, hq.before hden.fr, den_again (d := 15) (tm' := [(15, .v (.bool (takeM t s).isSome))]) (rows2 := []) (K := []) hden (by decide) (fun p hp => by obtain rfl := List.mem_singleton.1 hp; exact .inl ⟨rfl, rfl, rfl⟩) rfl (fun p hp => by cases hp) (fun p hp => by cases hp) rfl rfl⟩
    · exact At.fin rfl [] trivial [] (x := .v (.bool (takeM t s).isSome)) (ob := []) (by kernel_rfl) trivial fun ρ w' hf _ => hx.after hf
  by_cases h97 : t.pl = 9 ∨ t.pl = 7
  · have e14 : ((t.pl : Int) == 14) = false := by simpa using (by omega : ¬ (t.pl : Int) = 14)
    have ht : takeM t s = holdM t s := by unfold takeM; rw [if_neg h14, if_pos h97]
    have main : At Try.prog W ⟨[], fun _ => ⟨b, 0, 0⟩, []⟩ Try.f34.ntmps [] (rp Try.f34 6) (EndX Try.prog Try.f34 (TkQ W b vb D (takeM t s))) [(0, ptT), (1, .v (stv s))] [rdN t vb vn vo] := by
      refine At.callX (α := World) 2 [] trivial (fun x => x) (fun _ => nB) (fun _ => [(21, .v (.bool (takeM t s).isSome))]) (fun _ => [(4, .v (.bool (takeM t s).isSome))]) (fun _ => []) (fun _ => []) (fun x => TkQ W b vb D (takeM t s) (.returned (.bool (takeM t s).isSome)) x) rfl (tm1 := []) (rows1 := []) (o1 := []) (d := 21) (f := 53) (vs := [ptT, .v (stv s)]) (o2 := fun _ => []) (by kernel_rfl) trivial rfl ent53 (fun a w ρ hden => ?_) (fun x _ => by kernel_rfl) (fun x _ => trivial) (fun x => rfl) (fun x hx => ?_)
      · have e0 : ρ 0 = ⟨b, 0, 0⟩ := hden.e0 0 (.inl (by decide))
        rw [show (List.map (TV.val ρ) [ptT, .v (stv s)]).toArray = #[.pointer (some ⟨b, 1, none⟩), stv s] by rw [← ptT_val e0]; rfl]
        refine (hold_any w b vb hvb t (by omega) hg D (h0.below hden.fr) s).mono ?_
        intro e w' hq
        rw [← ht] at hq
        have he := hq.bool
        subst he
        exact ⟨w', .bool (takeM t s).isSome, fun _ => ⟨0, 0, 0⟩, rfl, hq.before hden.fr, den_again (d := 21) (tm' := [(21, .v (.bool (takeM t s).isSome))]) (rows2 := []) (K := []) hden (by decide) (fun p hp => by obtain rfl := List.mem_singleton.1 hp; exact .inl ⟨rfl, rfl, rfl⟩) rfl (fun p hp => by cases hp) (fun p hp => by cases hp) rfl rfl⟩
      · exact At.fin rfl [] trivial [] (x := .v (.bool (takeM t s).isSome)) (ob := []) (by kernel_rfl) trivial fun ρ w' hf _ => hx.after hf
    rcases h97 with h9 | h7
    · exact At.run rfl [] trivial [.n, .y, .y] (tm2 := [(0, ptT), (1, .v (stv s))]) (rows2 := [rdN t vb vn vo]) (ob := [((t.pl : Int) == 14) = false, ((t.pl : Int) == 9) = true, ((t.pl : Int) == 9) = true]) (td := rp Try.f34 6) (by kernel_rfl) ⟨e14, by rw [h9]; rfl, by rw [h9]; rfl, trivial⟩ rfl rfl (by intro h; cases h) main
    · exact At.run rfl [] trivial [.n, .n, .y] (tm2 := [(0, ptT), (1, .v (stv s))]) (rows2 := [rdN t vb vn vo]) (ob := [((t.pl : Int) == 14) = false, ((t.pl : Int) == 9) = false, ((t.pl : Int) == 7) = true]) (td := rp Try.f34 6) (by kernel_rfl) ⟨e14, by rw [h7]; rfl, by rw [h7]; rfl, trivial⟩ rfl rfl (by intro h; cases h) main
  obtain ⟨l, hl⟩ : ∃ l, l = waysL t.pl := ⟨_, rfl⟩
  have e14 : ((t.pl : Int) == 14) = false := by simpa using (by omega : ¬ (t.pl : Int) = 14)
  have e9 : ((t.pl : Int) == 9) = false := by simpa using (by omega : ¬ (t.pl : Int) = 9)
  have e7 : ((t.pl : Int) == 7) = false := by simpa using (by omega : ¬ (t.pl : Int) = 7)
  have hp17 : t.pl ≤ 17 := hg.pl
  have htk : takeM t s = match l.find? (fun w => w.1 == s) with
      | some w => some (followM t w)
      | none => none := by rw [hl]; unfold takeM; rw [if_neg h14, if_neg h97]; rfl
  have bad : ∀ w', Fr W [] w' → l.find? (fun w => w.1 == s) = none → TkQ W b vb D (takeM t s) (.returned (.bool false)) w' := fun w' hf hn => by
    rw [htk, hn]; exact ⟨rfl, hf.widen (fun x hx => by cases hx), vn, vo, t.pl, t.path, hvn, hvo, rowAt_fr h1 hf (by simp)⟩
  by_cases h17 : t.pl = 17
  · have hl0 : l = [] := by rw [hl, h17]; rfl
    refine At.fin rfl [(8004, pc 51 #[.int .i64 (t.pl : Int)] (.v (.slice none 0 0)))] ⟨pc_ok ent51 (v := .slice none 0 0) rfl (fun _ => rfl) fun w => by rw [h17]; exact ways_17 w, trivial⟩ [.n, .n, .n, .u, .d] (x := .v (.bool false)) (ob := [[((t.pl : Int) == 14) = false, ((t.pl : Int) == 9) = false, ((t.pl : Int) == 7) = false], qL (pc 51 #[.int .i64 (t.pl : Int)] (.v (.slice none 0 0)))].flatten) (by kernel_rfl) (all_flat ⟨⟨e14, e9, e7, trivial⟩, all_qL _, trivial⟩) fun ρ w' hf _ => bad w' hf (by rw [hl0]; rfl)
  have hw : wordP t.pl := ⟨by omega, by omega, by omega, by omega⟩
  have kW := hWy_ok 8004 t.pl hw
  obtain ⟨hl3, hl13⟩ := ways_len t.pl
  rw [← hl] at hl3 hl13
  have kW' : HintOk Try.prog 8004 (.call ⟨51, fun _ => #[.int .i64 (t.pl : Int)], .s (.lf (.sl 8004 0 0 3 l.length none)), [], [], some (wyR l), []⟩) := by rw [hl]; exact kW
  have hloop : ∀ i : Nat, i ≤ l.length ∧ (l.take i).find? (fun w => w.1 == s) = none → At Try.prog W ⟨[], fun _ => ⟨b, 0, 0⟩, []⟩ Try.f34.ntmps [] (lp Try.f34 0) (EndX Try.prog Try.f34 (TkQ W b vb D (takeM t s))) [(0, ptT), (1, .v (stv s)), (26, .s (.lf (.sl 8004 0 0 3 l.length none))), (27, .int .i64 (l.length : Int)), (28, .int .i64 (i : Int))] [rdN t vb vn vo, (8004, wyR l)] := by
    refine At.loop (fun i : Nat => [(0, ptT), (1, .v (stv s)), (26, .s (.lf (.sl 8004 0 0 3 l.length none))), (27, .int .i64 (l.length : Int)), (28, .int .i64 (i : Int))]) (fun _ => [rdN t vb vn vo, (8004, wyR l)]) (fun i => i ≤ l.length ∧ (l.take i).find? (fun w => w.1 == s) = none) (fun i => l.length - i) fun i ⟨hi, hfn⟩ ih => ?_
    by_cases h : i < l.length
    · have ha : addN 0 ((i : Int)).toNat = i := by rw [addN_eq]; omega
      by_cases hq : (l.getD i wy0).1 = s
      · refine At.run rfl [] trivial [.y, .y] (tm2 := [(0, ptT), (1, .v (stv s)), (6, .s (.lf (.ptr 10002 0 0 0 0)))]) (rows2 := [rdN t vb vn vo, (8004, wyR l), (10002, ⟨[.one (.v (stv (l.getD (addN 0 ((i : Int)).toNat) wy0).1)), .one (.v (.int .i64 ((l.getD (addN 0 ((i : Int)).toNat) wy0).2.1 : Int))), .one (.v (.int .i64 (l.getD (addN 0 ((i : Int)).toNat) wy0).2.2))], true, none⟩)]) (ob := [decide ((i : Int) < (l.length : Int)) = true, 0 ≤ (i : Int) ∧ (i : Int) < (l.length : Int), addN 0 ((i : Int)).toNat < l.length, ((l.getD (addN 0 ((i : Int)).toNat) wy0).1 == s) = true]) (td := rp Try.f34 11) (by kernel_rfl) ⟨decide_eq_true (by omega), ⟨by omega, by omega⟩, by rw [ha]; exact h, by rw [ha, hq]; exact beq_self_eq_true s, trivial⟩ rfl rfl (by intro h; cases h) ?_
        obtain ⟨x, hx⟩ : ∃ x, x = l.getD (addN 0 ((i : Int)).toNat) wy0 := ⟨_, rfl⟩
        have hxi : x = l.getD i wy0 := by rw [hx, ha]
        rw [← hx]
        have hfs : l.find? (fun w => w.1 == s) = some x := by rw [hxi]; exact find_at h hfn hq
        have ht : takeM t s = some (followM t x) := by rw [htk, hfs]
        have hxm : x ∈ waysL t.pl := by rw [← hl]; exact List.mem_of_find?_eq_some hfs
        refine At.callX (α := World) 2 [] trivial (fun x => x) (fun _ => nB) (fun _ => []) (fun _ => []) (fun _ => []) (fun _ => []) (fun x => TkQ W b vb D (takeM t s) (.returned (.bool true)) x) rfl (tm1 := []) (rows1 := []) (o1 := []) (d := 38) (f := 54) (vs := [ptT, wyT x]) (o2 := fun _ => []) (by kernel_rfl) trivial rfl ent54 (fun a w ρ hden => ?_) (fun x _ => by kernel_rfl) (fun x _ => trivial) (fun x => rfl) (fun x hx => ?_)
        · have e0 : ρ 0 = ⟨b, 0, 0⟩ := hden.e0 0 (.inl (by decide))
          rw [show (List.map (TV.val ρ) [ptT, wyT x]).toArray = #[.pointer (some ⟨b, 1, none⟩), wyV x] by rw [← ptT_val e0]; rfl]
          refine (follow_any w b vb hvb t hg D (h0.below hden.fr) x hxm).mono ?_
          rintro e w' ⟨⟨v, rfl⟩, hq⟩
          exact ⟨w', v, fun _ => ⟨0, 0, 0⟩, rfl, (by rw [ht]; exact ⟨rfl, hq.before hden.fr⟩), den_again (d := 38) (tm' := []) (rows2 := []) (K := []) hden (by decide) (fun p hp => by cases hp) rfl (fun p hp => by cases hp) (fun p hp => by cases hp) rfl rfl⟩
        · exact At.fin rfl [] trivial [] (x := .v (.bool true)) (ob := []) (by kernel_rfl) trivial fun ρ w' hf _ => hx.after hf
      · have h9 := ih (i + 1) ⟨h, find_snoc h hfn hq⟩ (by omega)
        exact At.run rfl [] trivial [.y, .n] (tm2 := [(0, ptT), (1, .v (stv s)), (26, .s (.lf (.sl 8004 0 0 3 l.length none))), (27, .int .i64 (l.length : Int)), (28, .int .i64 ((i + 1 : Nat) : Int))]) (rows2 := [rdN t vb vn vo, (8004, wyR l)]) (ob := [decide ((i : Int) < (l.length : Int)) = true, 0 ≤ (i : Int) ∧ (i : Int) < (l.length : Int), addN 0 ((i : Int)).toNat < l.length, ((l.getD (addN 0 ((i : Int)).toNat) wy0).1 == s) = false, inI ((i : Int) + 1)]) (td := lp Try.f34 0) (by kernel_rfl) ⟨decide_eq_true (by omega), ⟨by omega, by omega⟩, by rw [ha]; exact h, by rw [ha]; simpa using hq, ⟨by omega, by omega⟩, trivial⟩ rfl rfl (by intro h; cases h) h9
    · obtain rfl : i = l.length := by omega
      rw [List.take_length] at hfn
      exact At.fin rfl [] trivial [.n] (x := .v (.bool false)) (ob := [decide ((l.length : Int) < (l.length : Int)) = false]) (by kernel_rfl) ⟨decide_eq_false (by omega), trivial⟩ fun ρ w' hf _ => bad w' hf hfn
  exact At.run rfl [(8004, .call ⟨51, fun _ => #[.int .i64 (t.pl : Int)], .s (.lf (.sl 8004 0 0 3 l.length none)), [], [], some (wyR l), []⟩)] ⟨kW', trivial⟩ [.n, .n, .n] (tm2 := [(0, ptT), (1, .v (stv s)), (26, .s (.lf (.sl 8004 0 0 3 l.length none))), (27, .int .i64 (l.length : Int)), (28, .int .i64 ((0 : Nat) : Int))]) (rows2 := [rdN t vb vn vo, (8004, wyR l)]) (ob := [[((t.pl : Int) == 14) = false, ((t.pl : Int) == 9) = false, ((t.pl : Int) == 7) = false], qL (.call ⟨51, fun _ => #[.int .i64 (t.pl : Int)], .s (.lf (.sl 8004 0 0 3 l.length none)), [], [], some (wyR l), []⟩)].flatten) (td := lp Try.f34 0) (by kernel_rfl) (all_flat ⟨⟨e14, e9, e7, trivial⟩, all_qL _, trivial⟩) rfl rfl (by intro h; cases h) (hloop 0 ⟨Nat.zero_le _, by rfl⟩)
end
end Go.Proofs.Ytglipljilcdboaa
/- An operation told by its own contract, at its place in a region, drawn or not (there it is the last); the world reckoned from anew. No condition. -/
namespace Go.Proofs.Ytglipljilcdboaa.E
open Go Go.RowKit
set_option linter.unusedVariables false
set_option linter.unusedSimpArgs false

/-- Ahead of an operation. -/
def op1 (P : Program) (C : Hints) (ops : Array Oper) (base m : Nat) (s : St) (ks rs : List Nat) : Option (List Prop × List (Option TV) × List (Option Row)) :=
  match yRun P C ops base m s with
  | some (o1, s1) => some (o1, ks.map s1.tmps, rs.map s1.row)
  | none => none
/-- **An operation by its contract.** -/
theorem At.opX {α : Type} {P : Program} {w0 : World} {wr : Bs} {n : Nat} {gl : List Nat} {todo : List Item} {Q : Exit → Act → World → Prop} {tm tm1 : List (Nat × TV)} {rows rows1 : List (Nat × Row)} {r : Option Nat} {mk : List Nat} {o1 : List Prop} {o2 : α → List Prop}
    (m d : Nat) (cs : List (Nat × Hint)) (hC : allC P cs) (w0' : α → World) (wr' : α → Bs) (tm2 tm3 : α → List (Nat × TV)) (rows2 rows3 : α → List (Nat × Row)) (I : α → Prop) (hr : isReg todo = true)
    (h1 : op1 P (findC cs) (hdOps todo) (1000 + hdRid todo * 1000) m (mkSt n tm rows gl mk) (tm1.map (·.1)) (rows1.map (·.1)) = some (o1, tm1.map (fun p => some p.2), rows1.map fun p => some p.2)) (ho1 : all o1)
    (hs : (noDef (hdOps todo) && (Nat.ble (m + 1) (hdOps todo).size && (gl.all (fun g => Nat.ble (g + 1) 500) && (idsOk tm1 rows1 gl && wr.k.all (hasN (rows1.map (·.1) ++ gl.map (500 + ·))))))) = true)
    (hop : ∀ a w ρ (K : Act → World → Prop) (QQ : Exit → Act → World → Prop), Den w0 wr ρ (mkSt n tm1 rows1 gl mk) a w → (∀ x v w' ρ', I x → Den (w0' x) (wr' x) ρ' (mkSt n (tm2 x) (rows2 x) gl mk) (a.put (some d) v) w' → K (a.put (some d) v) w') → wpOpIn (FW r) 5 P (hdOps todo) QQ m K a w)
    (h2 : ∀ x, I x → call2 P (findC cs) (hdOps todo) (1000 + hdRid todo * 1000) m (mkSt n (tm2 x) (rows2 x) gl mk) ((tm3 x).map (·.1)) ((rows3 x).map (·.1)) = some (o2 x, (tm3 x).map (fun p => some p.2), (rows3 x).map fun p => some p.2))
    (ho2 : ∀ x, I x → all (o2 x)) (hs2 : ∀ x, (idsOk (tm3 x) (rows3 x) gl && (wr' x).k.all (hasN ((rows3 x).map (·.1) ++ gl.map (500 + ·)))) = true)
    (hK : ∀ x, I x → At P (w0' x) (wr' x) n gl todo.tail Q (tm3 x) (rows3 x) r mk) : At P w0 wr n gl todo Q tm rows r mk := by
  rw [isReg_ok hr]
  intro a w ρ hd
  generalize hdOps todo = ops at *
  generalize hdRid todo = rid at *
  simp only [Bool.and_eq_true] at hs
  obtain ⟨hnd, hms, hg, hi1, hk1⟩ := hs
  have hms := Nat.le_of_ble_eq_true hms
  have hC2 := findC_ok hC
  unfold op1 at h1
  split at h1
  · rename_i p1 s1 hr1
    simp only [Option.some.injEq, Prod.mk.injEq] at h1
    obtain ⟨rfl, e1, e2⟩ := h1
    obtain ⟨k1, k2⟩ := runL_keep hr1
    refine KX.code (n := 5) (K := fun a w => KX P r todo.tail Q a w) (wpIn_region ?_) fun a w h => h
    rw [show List.range ops.size = List.range' 0 m ++ (m :: List.range' (m + 1) (ops.size - (m + 1))) by
      rw [List.range_eq_range', ← List.range'_succ]
      have := List.range'_append_1 (s := 0) (m := m) (n := ops.size - (m + 1) + 1)
      rw [Nat.zero_add] at this
      rw [this]
      congr 1
      omega]
    refine wpOpsIn_append (K := fun a w => ∃ ρ, Den w0 wr ρ s1 a w) hnd (fun a w ⟨ρ, hd⟩ => ?_) _ a w (seq_ok hC2 (fun a w ρ hd => ⟨rfl, ρ, hd⟩) _ _ _ _ _ _ _ hr1 ho1 hd)
    rw [wpOpsIn_cons]
    have hd1 := den_mk (gl := gl) hd e1 e2 (fun g hgm => ⟨Nat.le_of_ble_eq_true (List.all_eq_true.1 hg g hgm), k2 _ (hasN_iff.2 (List.mem_append.2 (.inr (List.mem_map.2 ⟨g, hgm, rfl⟩))))⟩) hi1 hk1
    rw [k1.1, k1.2] at hd1
    refine hop a w ρ _ _ hd1 ?_
    intro x v w' ρ' hI hd2
    have h3 := h2 x hI
    unfold call2 at h3
    split at h3
    · rename_i p2 s2 hr2
      simp only [Option.some.injEq, Prod.mk.injEq] at h3
      obtain ⟨rfl, e3, e4⟩ := h3
      have hs3 := hs2 x
      rw [Bool.and_eq_true] at hs3
      refine rest_ok hnd hC2 hr2 (ho2 x hI) (fun a w ρ hd3 => ⟨rfl, ?_⟩) hd2
      obtain ⟨j1, j2⟩ := runL_keep hr2
      have := den_mk (gl := gl) hd3 e3 e4 (fun g hgm => ⟨Nat.le_of_ble_eq_true (List.all_eq_true.1 hg g hgm), j2 _ (hasN_iff.2 (List.mem_append.2 (.inr (List.mem_map.2 ⟨g, hgm, rfl⟩))))⟩) hs3.1 hs3.2
      rw [j1.1, j1.2] at this
      exact hK x hI a w ρ this
    · cases h3
  · cases h1

/-! ### The last operation of a region that draws its order -/

theorem getD_push (l : Array Bool) (k : Nat) : (l.push false).getD k false = l.getD k false := by
  rw [Array.getD_eq_getD_getElem?, Array.getD_eq_getD_getElem?, Array.getElem?_push]
  by_cases h : k = l.size
  · rw [if_pos h, h, Array.getElem?_eq_none (Nat.le_refl _)]; rfl
  · rw [if_neg h]
theorem any_push {P : Program} {F : Fence} {n : Nat} {ops : Array Oper} {o : Oper} {A : List (List Nat)} (hng : ∀ (i : Nat) (x : Oper), ops[i]? = some x → x.guard = none) (hA : AncOk (ops.push o) A) (hl : ∀ i, i < ops.size → i ∈ A.getD ops.size []) (hf : fwd (ops.push o) = true)
    {K : Act → World → Prop} {Q : Exit → Act → World → Prop} (hlast : ∀ a w, K a w → wpOpIn F n P (ops.push o) Q ops.size (fun a w => Q .normal a w) a w) :
    ∀ (fuel : Nat) (listed : Array Bool) (a : Act) (w : World), listed.size = ops.size → Down A (listed.push false) → wpAnyIn F n P .any ops (fun e a w => e = .normal ∧ K a w) fuel listed a w → wpAnyIn F n P .any (ops.push o) Q (fuel + 1) (listed.push false) a w := by
  have hop : ∀ i, i < ops.size → (ops.push o)[i]? = ops[i]? := fun i hi => by rw [Array.getElem?_push, if_neg (by omega)]
  have hopn : (ops.push o)[ops.size]? = some o := by rw [Array.getElem?_push, if_pos rfl]
  have hgt : ∀ (l : Array Bool) (i : Nat), i < l.size → (l.push false).getD i true = l.getD i true := fun l i hi => by
    rw [Array.getD_eq_getD_getElem?, Array.getD_eq_getD_getElem?, Array.getElem?_push, if_neg (by omega)]
  have hrd : ∀ (listed : Array Bool), listed.size = ops.size → ∀ j, j < ops.size → (j ∈ Region.ready .any (ops.push o) (listed.push false) ↔ j ∈ Region.ready .any ops listed) := by
    intro listed hsz j hj
    rw [mem_ready, mem_ready, hop j hj, hgt listed j (by omega)]
    simp only [getD_push]
  have hall : ∀ (listed : Array Bool), listed.size = ops.size → Region.ready .any ops listed = [] → ∀ i, i < ops.size → listed.getD i false = true := by
    intro listed hsz h0 i
    induction i using Nat.strongRecOn with
    | ind i ih =>
      intro hi
      cases hg : listed.getD i false with
      | true => rfl
      | false =>
        have hio : ops[i]? = some ops[i] := Array.getElem?_eq_getElem hi
        have : i ∈ Region.ready .any ops listed := by
          refine mem_ready.2 ⟨?_, ops[i], hio, fun e he hb => ?_⟩
          · rw [Array.getD_eq_getD_getElem?, Array.getElem?_eq_getElem (by omega)] at hg ⊢
            exact hg
          · have := fwd_ok hf ((hop i hi).trans hio) e he hb
            exact ih e.on this (by omega)
        rw [h0] at this; cases this
  have hlr : ∀ (listed : Array Bool), listed.size = ops.size → Down A (listed.push false) → ops.size ∈ Region.ready .any (ops.push o) (listed.push false) → ∀ i, i < ops.size → listed.getD i false = true := by
    intro listed hsz hD hr i hi
    cases hg : listed.getD i false with
    | true => rfl
    | false => exact absurd (hl i hi) (not_waits hA hD hr (by rw [getD_push]; exact hg))
  have hfin : ∀ (fuel : Nat) (listed : Array Bool) (a : Act) (w : World), listed.size = ops.size → (∀ i, i < ops.size → listed.getD i false = true) → Q .normal a w → wpAnyIn F n P .any (ops.push o) Q fuel ((listed.push false).setIfInBounds ops.size true) a w := by
    intro fuel listed a w hsz hal hq
    have hr0 : Region.ready .any (ops.push o) ((listed.push false).setIfInBounds ops.size true) = [] := by
      cases hq2 : Region.ready .any (ops.push o) ((listed.push false).setIfInBounds ops.size true) with
      | nil => rfl
      | cons j js =>
        have hj : j ∈ Region.ready .any (ops.push o) ((listed.push false).setIfInBounds ops.size true) := by rw [hq2]; exact List.mem_cons_self ..
        obtain ⟨h0, x, hx, _⟩ := mem_ready.1 hj
        have hjn : j < ops.size + 1 := by have := (Array.getElem?_eq_some_iff.1 hx).1; simpa using this
        have ht : ((listed.push false).setIfInBounds ops.size true).getD j false = true := by
          by_cases hjs : j = ops.size
          · subst hjs
            rw [Array.getD_eq_getD_getElem?, Array.getElem?_setIfInBounds]
            simp [hsz]
          · exact getD_set_true (by rw [getD_push]; exact hal j (by omega))
        rw [Array.getD_eq_getD_getElem?] at h0 ht
        cases hv : ((listed.push false).setIfInBounds ops.size true)[j]? with
        | none => rw [hv] at ht; cases ht
        | some b => rw [hv] at h0 ht; simp at h0 ht; rw [h0] at ht; cases ht
    cases fuel with
    | zero => exact ⟨hr0, hq⟩
    | succ f => exact ⟨fun _ => hq, fun i hi => by rw [hr0] at hi; cases hi⟩
  have hne : ∀ (listed : Array Bool), listed.size = ops.size → Region.ready .any ops listed = [] → ops.size ∈ Region.ready .any (ops.push o) (listed.push false) := by
    intro listed hsz h0
    refine mem_ready.2 ⟨?_, o, hopn, fun e he hb => ?_⟩
    · rw [Array.getD_eq_getD_getElem?, Array.getElem?_push, if_pos hsz.symm]; rfl
    · have := fwd_ok hf hopn e he hb
      rw [getD_push]
      exact hall listed hsz h0 e.on this
  intro fuel
  induction fuel with
  | zero =>
    intro listed a w hsz hD h
    obtain ⟨h0, _, hk⟩ := h
    refine ⟨fun hr => ?_, fun i hi => ?_⟩
    · have := hne listed hsz h0
      rw [hr] at this; cases this
    · have hin : i < ops.size + 1 := by
        obtain ⟨_, x, hx, _⟩ := mem_ready.1 hi
        have := (Array.getElem?_eq_some_iff.1 hx).1; simpa using this
      by_cases his : i = ops.size
      · subst his
        refine wpOpIn_mono (fun a w hq => ?_) (hlast a w hk)
        exact hfin _ _ _ _ hsz (hall listed hsz h0) hq
      · have := (hrd listed hsz i (by omega)).1 hi
        rw [h0] at this; cases this
  | succ fuel ih =>
    intro listed a w hsz hD h
    obtain ⟨h0, h1⟩ := h
    refine ⟨fun hr => ?_, fun i hi => ?_⟩
    · cases hq : Region.ready .any ops listed with
      | nil =>
        have := hne listed hsz hq
        rw [hr] at this; cases this
      | cons j js =>
        have hj : j ∈ Region.ready .any ops listed := by rw [hq]; exact List.mem_cons_self ..
        have hjn : j < ops.size := by
          obtain ⟨_, x, hx, _⟩ := mem_ready.1 hj
          exact (Array.getElem?_eq_some_iff.1 hx).1
        have := (hrd listed hsz j hjn).2 hj
        rw [hr] at this; cases this
    · have hin : i < ops.size + 1 := by
        obtain ⟨_, x, hx, _⟩ := mem_ready.1 hi
        have := (Array.getElem?_eq_some_iff.1 hx).1; simpa using this
      by_cases his : i = ops.size
      · subst his
        have hal := hlr listed hsz hD hi
        have hr0 : Region.ready .any ops listed = [] := by
          cases hq : Region.ready .any ops listed with
          | nil => rfl
          | cons j js =>
            have hj : j ∈ Region.ready .any ops listed := by rw [hq]; exact List.mem_cons_self ..
            obtain ⟨h2, x, hx, _⟩ := mem_ready.1 hj
            have := hal j (Array.getElem?_eq_some_iff.1 hx).1
            rw [Array.getD_eq_getD_getElem?] at h2 this
            cases hv : listed[j]? with
            | none => rw [hv] at this; cases this
            | some b => rw [hv] at h2 this; simp at h2 this; rw [h2] at this; cases this
        refine wpOpIn_mono (fun a w hq => ?_) (hlast a w (h0 hr0).2)
        exact hfin _ _ _ _ hsz hal hq
      · have hi2 := (hrd listed hsz i (by omega)).1 hi
        have h2 := h1 i hi2
        have hset : (listed.push false).setIfInBounds i true = (listed.setIfInBounds i true).push false := by
          apply Array.ext'
          rw [Array.toList_setIfInBounds, Array.toList_push, Array.toList_push, Array.toList_setIfInBounds, List.set_append_left _ _ (by rw [Array.length_toList]; omega)]
        have hD2 : Down A ((listed.setIfInBounds i true).push false) := by
          have := down_set hA hD hi
          rwa [hset] at this
        obtain ⟨_, x, hx, _⟩ := mem_ready.1 hi2
        have hw : ∀ (os : Array Oper), Region.wanted x (yielded os a.tmps) = true := fun os => by unfold Region.wanted; rw [hng i x hx]
        unfold wpOpIn at h2 ⊢
        rw [hop i (by omega), hx]
        rw [hx] at h2
        simp only at h2 ⊢
        rw [if_pos (hw _)] at h2 ⊢
        rw [hset]
        refine wpIn_out (Oper.wpIn_mono (fun a w h => ih (listed.setIfInBounds i true) a w (by simp [hsz]) hD2 h) h2) (fun e a w he h => he h.1)
def isRegD : List Item → Bool
  | .code (.region _ _ true) :: _ => true
  | _ => false
theorem isRegD_ok : ∀ {t : List Item}, isRegD t = true → t = .code (.region (hdRid t) (hdOps t) true) :: t.tail
  | .code (.region id ops true) :: k, _ => rfl
/-- What the last operation waits for: all others; none of them has a guard. -/
def lastOk (ops : Array Oper) : Bool := Nat.ble 1 ops.size && (fwd ops && ((List.range ops.pop.size).all (fun i => hasN ((ancs ops.toList []).getD ops.pop.size []) i) && ops.pop.toList.all (fun o => match o.guard with | none => true | some _ => false)))
/-! ### A function value that bears its first arguments -/

/-- Which function is called, with what, and where the answer goes. -/
def xCallF (ops : Array Oper) (m : Nat) (s : St) : Option (Tmp × FuncId × Array Value × Array Value × List TV) :=
  match ops[m]? with
  | some o => match o.guard, o.dst, o.op with
    | none, some d, .call c => match c.callee with
      | .value y => match evalO s y, evalL s c.args.toList with
        | some (.s (.lf (.v (.func (.func f) fi ca)))), some vs => some (d, f, fi, ca, vs)
        | _, _ => none
      | _ => none
    | _, _, _ => none
  | none => none
theorem xCallF_ok {P : Program} {ops : Array Oper} {m : Nat} {s : St} {d : Tmp} {f : FuncId} {fi ca : Array Value} {vs : List TV} {w0 : World} {wr : Bs} {ρ : Env} {a : Act} {w : World} {Q : Exit → Act → World → Prop} {K : Act → World → Prop} {r : Option Nat} {n : Nat} (h : xCallF ops m s = some (d, f, fi, ca, vs)) (hd : Den w0 wr ρ s a w) (he : Enters P f)
    (hc : Calls P f (fi ++ (vs.map (TV.val ρ)).toArray ++ ca) w fun e w' => ∃ v, e = .returned v ∧ K (a.put (some d) v) w') : wpOpIn (FW r) n P ops Q m K a w := by
  unfold xCallF at h
  split at h
  · rename_i o ho
    split at h
    · rename_i d2 c hg hdst hop
      split at h
      · rename_i y hcal
        split at h
        · rename_i f2 fi ca vs2 hy hvs
          cases h
          have h1 := (evalO_ok hd hy).1
          have h2 := (evalL_ok hd hvs).1
          unfold wpOpIn
          rw [ho]
          simp only
          rw [if_pos (by simp [Region.wanted, hg])]
          refine ⟨fun _ _ => trivial, ?_⟩
          rw [Oper.semAt_eq _ _ _ (by rw [hop]; intro c hc; cases hc)]
          have h3 : c.args.map a.eval = (vs.map (TV.val ρ)).toArray := by
            apply Array.ext'
            rw [Array.toList_map, h2]
          have hrun : (execOp a.eval o).run P w = .ok (.enter f (fi ++ (vs.map (TV.val ρ)).toArray ++ ca)) w := by
            unfold execOp
            rw [hop]
            simp only [resolve, hcal, h1, TV.val, SV.val, Lf.val, h3, Deferred.ofValue, Sem.run_bind, Sem.run_pure, Result.andThen_ok, invoke, Array.append_empty, Array.empty_append]
            exact he _ w
          rw [hrun]
          refine ⟨fun h => by simp [FW, Fence.wide] at h, CallsIn.mono (callsIn_FW hc) ?_⟩
          rintro e w' ⟨v, rfl, hk⟩
          rw [hdst]
          exact hk
        · cases h
      · cases h
    · cases h
  · cases h

end Go.Proofs.Ytglipljilcdboaa.E
/- Of the program: the end of a text as a hint; a text cut, as the program does it. No condition but what each names. -/
namespace Go.Proofs.Ytglipljilcdboaa
open Go.RowKit Go.Shelf
set_option linter.unusedVariables false
set_option linter.unusedSimpArgs false
section
open E
abbrev hEn (r lr : Nat) (xn xo : Lf) (pl : Nat) (pa : List UInt8) (b : Bool) (bs : List UInt8) (n : Nat) (s : List UInt8) (ok : Bool) : Hint := .call ⟨50, fun ρ => #[(ptrTo r).val ρ, .int .i64 (n : Int)], .tup [.lf (.v (stv s)), .lf (.v (.bool ok))], [(r, rdP (slB lr bs.length) xn xo pl pa b), (lr, byR bs)], [(r, rdP (slB lr (if ok then 0 else bs.length)) xn xo pl pa b)], none, []⟩
theorem hEn_ok {r lr id : Nat} {xn xo : Lf} {pl : Nat} {pa : List UInt8} {b : Bool} {bs : List UInt8} {n : Nat} {s : List UInt8} {ok : Bool} (hxn : xn.ok) (hxo : xo.ok) (hid : id ∉ xn.ids ∧ id ∉ xo.ids) (hr : r ≠ lr ∧ r ≠ id ∧ lr ≠ id) (hn : bs.length = 8 + padN n) (hbs : bs.length ≤ 1000000000000) (he : endL bs n = (s, ok)) : HintOk Try.prog id (hEn r lr xn xo pl pa b bs n s ok) := by
  refine ⟨fun x hx => ?_, fun p hp => ?_, ent50, fun ρ w hp hd => ?_⟩
  · simp only [List.mem_cons, List.not_mem_nil, or_false] at hx
    rcases hx with rfl | rfl <;> rfl
  · obtain rfl := List.mem_singleton.1 hp; exact hr.2.1
  have h0 := hp (r, rdP (slB lr bs.length) xn xo pl pa b) (by simp)
  have h1 := hp (lr, byR bs) (by simp)
  have hne := hd (r, rdP (slB lr bs.length) xn xo pl pa b) (by simp) (lr, byR bs) (by simp) hr.1 rfl
  obtain ⟨σ, hσ⟩ : ∃ σ : Env, σ = fun i => if i = 0 then ρ r else ρ lr := ⟨_, rfl⟩
  have e0 : σ 0 = ρ r := by rw [hσ]; rfl
  have e1 : σ 1 = ρ lr := by rw [hσ]; rfl
  have hc := end_any bs n hn hbs (xn.val ρ) (xo.val ρ) (Lf.one_val hxn) (Lf.one_val hxo) pl pa b σ w (rdP_mv h0 e0 (by simp only [Lf.val, e1]) rfl rfl) (byR_mv h1 e1) (by rw [e0, e1]; exact hne)
  rw [he] at hc
  have e : #[(ptrTo 0).val σ, .int .i64 (n : Int)] = #[(ptrTo r).val ρ, .int .i64 (n : Int)] := by simp only [ptrTo, TV.val, SV.val, Lf.val, e0]
  rw [e] at hc
  refine hc.mono ?_
  rintro e w' ⟨rfl, hf, k0, k1⟩
  rw [e0] at hf
  refine ⟨ρ, rfl, fun x hx => ?_, fun _ _ => rfl, ?_, fun p hp => ?_, fun p hp hpe => ?_⟩
  · simp only [List.mem_cons, List.not_mem_nil, or_false] at hx
    rcases hx with rfl | rfl <;> rfl
  · have hb1 : (!(r == id)) = true := by simpa using hr.2.1
    simp only [Option.map_none, Option.toList_none, List.append_nil, List.filter_cons, List.filter_nil, hb1, if_true, List.map_cons, List.map_nil]
    exact hf
  · simp only [Option.map_none, Option.toList_none, List.append_nil, List.mem_singleton] at hp
    subst hp
    exact ⟨rdP_mv k0 e0.symm (by simp only [Lf.val, e1]) rfl rfl, rdP_ok _ _ _ trivial hxn hxo⟩
  · simp only [Option.map_none, Option.toList_none, List.append_nil, List.mem_singleton] at hp
    subst hp
    exact absurd hpe hr.2.1
/-! ### A text cut -/
theorem gN_app {a b : List UInt8} (h : 8 ≤ a.length) : leN ((a ++ b).take 8) = gN a 8 := by rw [List.take_append_of_le_length h]; rfl
theorem cut_short {m : Nat} {r : List UInt8} (h : r.length < 8) : cutT m r = .more := by unfold cutT; rw [if_pos h]
theorem cut_great {m : Nat} {r : List UInt8} (h : 8 ≤ r.length) (h2 : m < gN r 8) : cutT m r = .form := by unfold cutT; rw [if_neg (by omega), if_pos (show m < leN (r.take 8) from h2)]
theorem cut_part {m : Nat} {r : List UInt8} (h : 8 ≤ r.length) (h2 : gN r 8 ≤ m) (h3 : r.length < 8 + padN (gN r 8)) : cutT m r = .more := by
  unfold cutT
  rw [if_neg (by omega), if_neg (by show ¬ m < gN r 8; omega), if_pos (show r.length < 8 + padN (leN (r.take 8)) from h3)]
theorem cut_whole {m : Nat} {r : List UInt8} (h : 8 ≤ r.length) (h2 : gN r 8 ≤ m) (h3 : 8 + padN (gN r 8) ≤ r.length) : cutT m r = (if (endL (r.take (8 + padN (gN r 8))) (gN r 8)).2 = true then .ok (endL (r.take (8 + padN (gN r 8))) (gN r 8)).1 (r.drop (8 + padN (gN r 8))) else .form) := by
  have hp := pad_le (gN r 8)
  have e1 : (r.take (8 + padN (gN r 8))).drop (8 + gN r 8) = (r.drop (8 + gN r 8)).take (padN (gN r 8) - gN r 8) := by
    rw [List.drop_take]; congr 1; omega
  have e2 : ((r.take (8 + padN (gN r 8))).drop 8).take (gN r 8) = (r.drop 8).take (gN r 8) := by
    rw [List.drop_take, List.take_take, Nat.min_eq_left (by omega)]
  unfold cutT
  rw [if_neg (by omega), if_neg (by show ¬ m < gN r 8; omega), if_neg (by show ¬ r.length < 8 + padN (gN r 8); omega)]
  unfold endL
  rw [e1, e2]
  show (if (((r.drop (8 + gN r 8)).take (padN (gN r 8) - gN r 8)).all fun x => x == 0) = true then _ else _) = _
  cases ((r.drop (8 + gN r 8)).take (padN (gN r 8) - gN r 8)).all (fun x => x == 0) <;> rfl
/-- What more may hold if it is that. -/
theorem more_inv {m : Nat} {r : List UInt8} (h : cutT m r = .more) : r.length < 8 ∨ (8 ≤ r.length ∧ gN r 8 ≤ m ∧ r.length < 8 + padN (gN r 8)) := by
  by_cases h8 : r.length < 8
  · exact .inl h8
  · by_cases h2 : m < gN r 8
    · rw [cut_great (by omega) h2] at h; cases h
    · by_cases h3 : r.length < 8 + padN (gN r 8)
      · exact .inr ⟨by omega, by omega, h3⟩
      · rw [cut_whole (by omega) (by omega) (by omega)] at h
        split at h <;> cases h
theorem take_more {n : Nat} {bs s : List UInt8} (h : bs.length ≤ n) : bs ++ s.take (takeN n bs s) = (bs ++ s).take n ∧ s.drop (takeN n bs s) = (bs ++ s).drop n := by
  rw [List.take_append, List.drop_append, List.take_of_length_le h, List.drop_of_length_le h, List.nil_append]
  unfold takeN
  constructor
  · by_cases h2 : n - bs.length ≤ s.length
    · rw [Nat.min_eq_left h2]
    · rw [Nat.min_eq_right (by omega), List.take_of_length_le (Nat.le_refl _), List.take_of_length_le (by omega)]
  · by_cases h2 : n - bs.length ≤ s.length
    · rw [Nat.min_eq_left h2]
    · rw [Nat.min_eq_right (by omega), List.drop_of_length_le (by omega), List.drop_of_length_le (by omega)]
theorem takeN_none {n : Nat} {bs s : List UInt8} (h : n ≤ bs.length) : takeN n bs s = 0 := by unfold takeN; omega
theorem mostM_le (p m : Nat) (h : mostM p = some m) : m ≤ 65536 := by
  unfold mostM at h
  split at h
  · cases h; decide
  · split at h
    · cases h; decide
    · split at h
      · cases h; decide
      · have hw : ∀ x ∈ waysL p, x.1.length ≤ 13 := (ways_len p).2
        split at h
        · cases h
        · rename_i w l hl
          cases h
          rw [hl] at hw
          have : ∀ (l : List (List UInt8 × Nat × Int)) (k : Nat), k ≤ 13 → (∀ x ∈ l, x.1.length ≤ 13) → l.foldl (fun m w => max m w.1.length) k ≤ 13 := by
            intro l
            induction l with
            | nil => intro k hk _; exact hk
            | cons y l ih =>
              intro k hk hl
              exact ih _ (by have := hl y (List.mem_cons_self ..); simp only; omega) fun x hx => hl x (List.mem_cons_of_mem _ hx)
          have := this l w.1.length (hw w (List.mem_cons_self ..)) fun x hx => hw x (List.mem_cons_of_mem _ hx)
          omega
theorem most_14 : mostM 14 = some 255 := rfl
end
end Go.Proofs.Ytglipljilcdboaa
/- Of the program: what the iterator over texts keeps, and what it asks of a round. No condition but what each names. -/
namespace Go.Proofs.Ytglipljilcdboaa
open Go.RowKit Go.Shelf
set_option linter.unusedVariables false
set_option linter.unusedSimpArgs false
section
open E
abbrev yv (l : Nat) : Value := .func (.yield l) #[] #[]
abbrev mfv (b : Nat) : Value := .func (.func 33) #[.pointer (some ⟨b, 1, none⟩)] #[]
abbrev bx2 (b : Nat) : Nat × Row := (2, ⟨[.one (.v (mfv b))], false, none⟩)
abbrev bx3 : Nat × Row := (3, ⟨[.one (.ptr 0 0 0 0 0)], false, none⟩)
abbrev rwB (r : Nat) (n : Nat) (bs : List UInt8) (vn vo : Value) (p : Nat) (pa : List UInt8) (b : Nat) : List (Nat × Row) := [(0, rdP (slB r n) (.v vn) (.v vo) p pa false), bx2 b, bx3, (r, byR bs)]
abbrev rw0 (vn vo : Value) (p : Nat) (pa : List UInt8) (b : Nat) : List (Nat × Row) := [(0, rdP (.v (.slice none 0 0)) (.v vn) (.v vo) p pa false), bx2 b, bx3]
abbrev tmH (l : Nat) (rest : List UInt8) : List (Nat × TV) := [(0, .v (yv l)), (2, ptrTo 2), (3, ptrTo 3), (5, .v (stv rest))]
abbrev tmM (l : Nat) (rest : List UInt8) (m : Int) : List (Nat × TV) := [(0, .v (yv l)), (2, ptrTo 2), (3, ptrTo 3), (5, .v (stv rest)), (6, .int .i64 m)]
/-- Where things lie. -/
def envK (b p1 p2 p3 : Nat) (B : Blk) : Env := fun i => if i = 0 then ⟨b, 0, 0⟩ else if i = 1 then ⟨p1, 0, 0⟩ else if i = 2 then ⟨p2, 0, 0⟩ else if i = 3 then ⟨p3, 0, 0⟩ else B
theorem slB_val {ρ : Env} {r n : Nat} {B : Blk} (e : ρ r = B) (h0 : B.2 = 0) : (slB r n).val ρ = .slice (some ⟨B.1, 0, none⟩) n B.3 := by
  show Value.slice (some ⟨(ρ r).1, (ρ r).2 + (0 + 0 * 1), none⟩) n ((ρ r).3 - 0) = _
  rw [e, h0]; rfl
theorem byR_z {ρ : Env} {r : Nat} {bs : List UInt8} {w : World} (h : RowAt ρ r (byR bs) w) : (ρ r).2 = 0 := (h.2.2.1 5 1 rfl).1
/-- What is begun, in memory. -/
def ByV (W : World) (vb : Value) (bs : List UInt8) (E : List Nat) : Prop :=
  (bs = [] ∧ vb = .slice none 0 0 ∧ E = []) ∨ ∃ B : Blk, vb = .slice (some ⟨B.1, 0, none⟩) bs.length B.3 ∧ RowAt (fun _ => B) 0 (byR bs) W ∧ E = [B.1]
theorem ByV.cell {W : World} {vb : Value} {bs : List UInt8} {E : List Nat} (h : ByV W vb bs E) : vb.oneCell' = true := by
  rcases h with ⟨_, rfl, _⟩ | ⟨B, rfl, _⟩ <;> rfl
theorem ByV.fr {W W' : World} {vb : Value} {bs : List UInt8} {E l : List Nat} (h : ByV W vb bs E) (hf : Fr W l W') (hd : ∀ x ∈ E, x ∉ l) : ByV W' vb bs E := by
  rcases h with h | ⟨B, h1, h2, rfl⟩
  · exact .inl h
  · exact .inr ⟨B, h1, rowAt_fr h2 hf (hd _ (by simp)), rfl⟩
theorem ByV.lt {W : World} {vb : Value} {bs : List UInt8} {E : List Nat} (h : ByV W vb bs E) : ∀ x ∈ E, x < W.heap.size := by
  rcases h with ⟨_, _, rfl⟩ | ⟨B, _, h2, rfl⟩
  · intro x hx; cases hx
  · intro x hx
    obtain rfl := List.mem_singleton.1 hx
    exact h2.1
/-- The reader in memory; D: the blocks of what it holds. -/
def RdAt (W : World) (b : Nat) (t : TS) (bs : List UInt8) (D : List Nat) : Prop :=
  ∃ vb E D', D = E ++ D' ∧ ByV W vb bs E ∧ TkPre W b vb t D' ∧ (b :: (E ++ D')).Nodup
/-- What a round must do, with what it keeps of its own (J: while rounds go on; Jx: when one was the last). -/
structure YCtx (b l : Nat) (KB : List Nat) (J Jx : World → Prop) : Prop where
  lt : ∀ W, J W → ∀ x ∈ KB, x < W.heap.size
  fr : ∀ W W' S, J W → Fr W S W' → (∀ x ∈ S, x ∉ KB) → J W'
  frx : ∀ W W', Jx W → Fr W [] W' → Jx W'
  go : ∀ W t D vb s t', vb.oneCell' = true → Good t → (t.pl = 14 → s.length ≤ 255) → J W → TkPre W b vb t D → (∀ x ∈ b :: D, x ∉ KB) → takeM t s = some t' → YieldAt (FW none) 4 Try.prog l #[stv s, .bool true] W fun e W' => e = .returned (.bool true) ∧ J W' ∧ ∃ D', TkPre W' b vb t' D' ∧ Fr W ((b :: D) ++ KB) W' ∧ ∀ x ∈ D', x ∈ D ∨ W.heap.size ≤ x
  no : ∀ W t D vb s ok, vb.oneCell' = true → Good t → J W → TkPre W b vb t D → (∀ x ∈ b :: D, x ∉ KB) → (ok = true → (t.pl = 14 → s.length ≤ 255) ∧ takeM t s = none) → YieldAt (FW none) 4 Try.prog l #[stv s, .bool ok] W fun e W' => e = .returned (.bool false) ∧ Jx W' ∧ Fr W ((b :: D) ++ KB) W'
/-- What the iterator comes to. -/
def TxQ (W0 : World) (b : Nat) (D0 KB : List Nat) (J Jx : World → Prop) (r : Option (TS × List UInt8)) : Ending → World → Prop := fun e W' => (∃ v, e = .returned v) ∧ Fr W0 (b :: (D0 ++ KB)) W' ∧ match r with
  | some (t, bs) => J W' ∧ Good t ∧ ∃ D, RdAt W' b t bs D ∧ ∀ y ∈ D, (y ∈ D0 ∨ W0.heap.size ≤ y) ∧ y ∉ KB
  | none => Jx W'
/-- Between two rounds; E: the block of what is begun. -/
structure Inv (W0 : World) (b p2 p3 : Nat) (D0 KB : List Nat) (J : World → Prop) (W : World) (t : TS) (vn vo : Value) (D E : List Nat) : Prop where
  hv : TrV W vn vo t D
  hn : (b :: (E ++ D)).Nodup
  hJ : J W
  hf : Fr W0 (b :: (D0 ++ KB)) W
  hd : ∀ y ∈ E ++ D, y ∈ D0 ∨ W0.heap.size ≤ y
  hk : ∀ y ∈ b :: (E ++ D), y ∉ KB
  hE : ∀ y ∈ E, y < W.heap.size
  hb : b < W.heap.size
  hg : Good t
theorem trv_cells {W : World} {vn vo : Value} {t : TS} {D : List Nat} (hv : TrV W vn vo t D) : vn.oneCell' = true ∧ vo.oneCell' = true := by
  rcases hv with ⟨_, rfl, rfl, _⟩ | ⟨_, Bn, Bo, rfl, rfl, _⟩ <;> exact ⟨rfl, rfl⟩
section
variable {W0 : World} {b p1 p2 p3 l : Nat} {D0 KB : List Nat} {J Jx : World → Prop} {W w' : World} {t : TS} {vn vo : Value} {D E : List Nat}
/-- What the engine may write between two rounds. -/
theorem Inv.step (c : YCtx b l KB J Jx) (h : Inv W0 b p2 p3 D0 KB J W t vn vo D E) {S : List Nat} (hf : Fr W S w') (hS : ∀ x ∈ S, x ∈ b :: E) (B : Blk) (hB : B.1 ∈ E ∨ W.heap.size ≤ B.1) (hlt : B.1 < w'.heap.size) : Inv W0 b p2 p3 D0 KB J w' t vn vo D [B.1] := by
  have hn := List.nodup_cons.1 h.hn
  have hn2 := List.nodup_append.1 hn.2
  have hD : ∀ x ∈ D, x ∉ S := fun x hx hxS => by
    rcases List.mem_cons.1 (hS x hxS) with rfl | h2
    · exact hn.1 (List.mem_append.2 (.inr hx))
    · exact hn2.2.2 x h2 x hx rfl
  have hDl := h.hv.lt
  have hBb : B.1 ≠ b := fun e => by
    rcases hB with h2 | h2
    · exact hn.1 (List.mem_append.2 (.inl (e ▸ h2)))
    · have := h.hb; omega
  have hBD : B.1 ∉ D := fun hx => by
    rcases hB with h2 | h2
    · exact hn2.2.2 _ h2 _ hx rfl
    · have := hDl _ hx; omega
  have hSk : ∀ x ∈ S, x ∉ KB := fun x hx => h.hk x (by
    rcases List.mem_cons.1 (hS x hx) with h2 | h2
    · exact h2 ▸ List.mem_cons_self ..
    · exact List.mem_cons_of_mem _ (List.mem_append.2 (.inl h2)))
  refine ⟨h.hv.fr hf hD, ?_, c.fr _ _ S h.hJ hf hSk, h.hf.comp hf fun x hx => ?_, fun y hy => ?_, fun y hy => ?_, fun y hy => ?_, Nat.lt_of_lt_of_le h.hb hf.size, h.hg⟩
  · refine List.nodup_cons.2 ⟨fun hm => ?_, List.nodup_cons.2 ⟨hBD, hn2.2.1⟩⟩
    rcases List.mem_cons.1 hm with h2 | h2
    · exact hBb h2.symm
    · exact hn.1 (List.mem_append.2 (.inr h2))
  · rcases List.mem_cons.1 (hS x hx) with rfl | h2
    · exact .inl (List.mem_cons_self ..)
    · rcases h.hd x (List.mem_append.2 (.inl h2)) with h3 | h3
      · exact .inl (List.mem_cons_of_mem _ (List.mem_append.2 (.inl h3)))
      · exact .inr h3
  · rcases List.mem_cons.1 hy with rfl | h2
    · rcases hB with h3 | h3
      · exact h.hd _ (List.mem_append.2 (.inl h3))
      · exact .inr (Nat.le_trans h.hf.size h3)
    · exact h.hd _ (List.mem_append.2 (.inr h2))
  · rcases List.mem_cons.1 hy with rfl | hy
    · exact h.hk _ (List.mem_cons_self ..)
    rcases List.mem_cons.1 hy with rfl | h2
    · rcases hB with h3 | h3
      · exact h.hk _ (List.mem_cons_of_mem _ (List.mem_append.2 (.inl h3)))
      · intro hm
        have := c.lt _ h.hJ _ hm
        omega
    · exact h.hk _ (List.mem_cons_of_mem _ (List.mem_append.2 (.inr h2)))
  · obtain rfl := List.mem_singleton.1 hy; exact hlt
/-- The end, where nothing is asked of a round. -/
theorem Inv.fin (c : YCtx b l KB J Jx) (h : Inv W0 b p2 p3 D0 KB J W t vn vo D E) {vb : Value} {bs : List UInt8} (hb : ByV W vb bs E) (hr : RowAt (fun _ => ⟨b, 0, 0⟩) 0 (rdP (.v vb) (.v vn) (.v vo) t.pl t.path false) W) (v : Value) : TxQ W0 b D0 KB J Jx (some (t, bs)) (.returned v) W :=
  ⟨⟨v, rfl⟩, h.hf, h.hJ, h.hg, E ++ D, ⟨vb, E, D, rfl, hb, ⟨vn, vo, hr, h.hv, (List.nodup_cons.2 ⟨fun hm => (List.nodup_cons.1 h.hn).1 (List.mem_append.2 (.inr hm)), (List.nodup_append.1 (List.nodup_cons.1 h.hn).2).2.1⟩)⟩, h.hn⟩, fun y hy => ⟨h.hd y hy, h.hk y (List.mem_cons_of_mem _ hy)⟩⟩
theorem Inv.pre (h : Inv W0 b p2 p3 D0 KB J W t vn vo D E) {vb : Value} (hr : RowAt (fun _ => ⟨b, 0, 0⟩) 0 (rdP (.v vb) (.v vn) (.v vo) t.pl t.path false) W) : TkPre W b vb t D ∧ ∀ x ∈ b :: D, x ∉ KB :=
  ⟨⟨vn, vo, hr, h.hv, (List.nodup_cons.2 ⟨fun hm => (List.nodup_cons.1 h.hn).1 (List.mem_append.2 (.inr hm)), (List.nodup_append.1 (List.nodup_cons.1 h.hn).2).2.1⟩)⟩, fun x hx => h.hk x (by
    rcases List.mem_cons.1 hx with rfl | h2
    · exact List.mem_cons_self ..
    · exact List.mem_cons_of_mem _ (List.mem_append.2 (.inr h2)))⟩
/-- Behind a round that took a text. -/
theorem Inv.next (c : YCtx b l KB J Jx) (h : Inv W0 b p2 p3 D0 KB J W t vn vo D E) {t' : TS} {D' : List Nat} {vn' vo' : Value} (hg : Good t') (hJ : J w') (hv : TrV w' vn' vo' t' D') (hn : (b :: D').Nodup) (hf : Fr W ((b :: D) ++ KB) w') (hD : ∀ x ∈ D', x ∈ D ∨ W.heap.size ≤ x) : Inv W0 b p2 p3 D0 KB J w' t' vn' vo' D' E := by
  have hn1 := List.nodup_cons.1 h.hn
  have hn2 := List.nodup_append.1 hn1.2
  refine ⟨hv, ?_, hJ, h.hf.comp hf fun x hx => ?_, fun y hy => ?_, fun y hy => ?_, fun y hy => Nat.lt_of_lt_of_le (h.hE y hy) hf.size, Nat.lt_of_lt_of_le h.hb hf.size, hg⟩
  · refine List.nodup_cons.2 ⟨fun hm => ?_, List.nodup_append.2 ⟨hn2.1, (List.nodup_cons.1 hn).2, fun x hx y hy hxy => ?_⟩⟩
    · rcases List.mem_append.1 hm with h2 | h2
      · exact hn1.1 (List.mem_append.2 (.inl h2))
      · exact (List.nodup_cons.1 hn).1 h2
    · subst hxy
      rcases hD x hy with h2 | h2
      · exact hn2.2.2 x hx x h2 rfl
      · have := h.hE x hx; omega
  · rcases List.mem_append.1 hx with h2 | h2
    · rcases List.mem_cons.1 h2 with rfl | h3
      · exact .inl (List.mem_cons_self ..)
      · rcases h.hd x (List.mem_append.2 (.inr h3)) with h4 | h4
        · exact .inl (List.mem_cons_of_mem _ (List.mem_append.2 (.inl h4)))
        · exact .inr h4
    · exact .inl (List.mem_cons_of_mem _ (List.mem_append.2 (.inr h2)))
  · rcases List.mem_append.1 hy with h2 | h2
    · exact h.hd y (List.mem_append.2 (.inl h2))
    · rcases hD y h2 with h3 | h3
      · exact h.hd y (List.mem_append.2 (.inr h3))
      · exact .inr (Nat.le_trans h.hf.size h3)
  · rcases List.mem_cons.1 hy with rfl | hy
    · exact h.hk _ (List.mem_cons_self ..)
    rcases List.mem_append.1 hy with h2 | h2
    · exact h.hk y (List.mem_cons_of_mem _ (List.mem_append.2 (.inl h2)))
    · rcases hD y h2 with h3 | h3
      · exact h.hk y (List.mem_cons_of_mem _ (List.mem_append.2 (.inr h3)))
      · intro hm
        have := c.lt _ h.hJ _ hm
        omega
/-- Behind a round that was the last. -/
theorem Inv.out (c : YCtx b l KB J Jx) (h : Inv W0 b p2 p3 D0 KB J W t vn vo D E) (hJ : Jx w') (hf : Fr W ((b :: D) ++ KB) w') : Fr W0 (b :: (D0 ++ KB)) w' := h.hf.comp hf fun x hx => by
  rcases List.mem_append.1 hx with h2 | h2
  · rcases List.mem_cons.1 h2 with rfl | h3
    · exact .inl (List.mem_cons_self ..)
    · rcases h.hd x (List.mem_append.2 (.inr h3)) with h4 | h4
      · exact .inl (List.mem_cons_of_mem _ (List.mem_append.2 (.inl h4)))
      · exact .inr h4
  · exact .inl (List.mem_cons_of_mem _ (List.mem_append.2 (.inr h2)))
end
end
end Go.Proofs.Ytglipljilcdboaa
