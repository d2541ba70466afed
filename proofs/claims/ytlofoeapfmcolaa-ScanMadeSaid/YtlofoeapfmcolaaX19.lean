/- Several texts, one behind the other; each says by itself what it proves, and on what conditions. -/
import Derived.Test.YtlofoeapfmcolaaX18
/- The scanner's New. Its condition: lengths that fit. -/
namespace Go.Proofs.Ytlofoeapfmcolaa
open Go Go.RowKit
set_option linter.unusedVariables false
set_option linter.unusedSimpArgs false
section
open E
/-- The state said anew, in the world as it is, by other numbers. -/
theorem E.den_again1 {w0 : World} {wr : Bs} {ρ σ : Env} {n : Nat} {tm tm' : List (Nat × TV)} {rows rows2 : List (Nat × Row)} {a : Act} {w w' : World} {K : List Nat} (hd : Den w0 wr ρ (mkSt n tm rows []) a w)
    (h : ∀ p ∈ tm', ∃ x, findT tm p.1 = some x ∧ p.2.val σ = x.val ρ ∧ p.2.ok) (hi : idsOk tm' rows2 [] = true) (hr : ∀ p ∈ rows2, RowAt σ p.1 p.2 w' ∧ pok p.2.ps) (hds : ∀ p ∈ rows2, ∀ q ∈ rows2, p.1 ≠ q.1 → p.2.w = true → (σ p.1).1 ≠ (σ q.1).1) (hK : K.all (hasN (rows2.map (·.1))) = true) (hk5 : rows2.all (fun p => Nat.ble (p.1 + 1) 500 || Nat.ble 1000 p.1) = true) :
    Den w' ⟨wlOf σ rows2, σ, K⟩ σ (mkSt n tm' rows2 []) a w' := by
  simp only [idsOk, Bool.and_eq_true, List.all_eq_true] at hi
  have hu : ∀ r, (mkSt n tm' rows2 []).used r = hasN (rows2.map (·.1)) r := fun r => by show hasN (rows2.map (·.1) ++ []) r = _; rw [List.append_nil]
  refine ⟨hd.sz, hd.df, ⟨List.nodup_nil, fun D hD => by cases hD⟩, KeepsOthers.refl _, fun t x hx => ?_, fun r y hr2 => ?_, fun r q y z hr2 hq hrq hw => ?_, Fr.refl _ _, fun _ _ => rfl, fun r hr2 => ?_, fun g hg hug => ?_, fun r B h => by cases h⟩
  · have hm := findT_mem (show findT tm' t = some x from hx)
    obtain ⟨y, e2, e3, e4⟩ := h _ hm
    obtain ⟨g1, g2, g3⟩ := hd.tm t y e2
    exact ⟨by rw [g1, ← e3], e4, fun r hr2 => hi.1 _ hm r hr2⟩
  · have hm := findR_mem (show findR rows2 r = some y from hr2)
    obtain ⟨g1, g2⟩ := hr _ hm
    exact ⟨g1, g2, by rw [hu]; exact hasN_iff.2 (List.mem_map.2 ⟨_, hm, rfl⟩), fun p hp => hi.2 _ hm p hp, fun hw => .inr (mem_wlOf hm hw)⟩
  · exact hds _ (findR_mem (show findR rows2 r = some y from hr2)) _ (findR_mem (show findR rows2 q = some z from hq)) hrq hw
  · rw [hu]; exact List.all_eq_true.1 hK r hr2
  · rw [hu] at hug
    obtain ⟨p, hp, he⟩ := List.mem_map.1 (hasN_iff.1 hug)
    have := List.all_eq_true.1 hk5 p hp
    rw [Bool.or_eq_true] at this
    rcases this with h5 | h5 <;> have := Nat.le_of_ble_eq_true h5 <;> omega
/-- Behind an operation without a value the state said anew. -/
theorem E.den_again0 {w0 : World} {wr : Bs} {ρ σ : Env} {n : Nat} {tm tm' : List (Nat × TV)} {rows rows2 : List (Nat × Row)} {a : Act} {w w' : World} {K : List Nat} (hd : Den w0 wr ρ (mkSt n tm rows []) a w)
    (h : ∀ p ∈ tm', findT tm p.1 = some p.2 ∧ ∀ r ∈ p.2.ids, σ r = ρ r) (hi : idsOk tm' rows2 [] = true) (hr : ∀ p ∈ rows2, RowAt σ p.1 p.2 w' ∧ pok p.2.ps) (hds : ∀ p ∈ rows2, ∀ q ∈ rows2, p.1 ≠ q.1 → p.2.w = true → (σ p.1).1 ≠ (σ q.1).1) (hK : K.all (hasN (rows2.map (·.1))) = true) (hk5 : rows2.all (fun p => Nat.ble (p.1 + 1) 500 || Nat.ble 1000 p.1) = true) :
    Den w' ⟨wlOf σ rows2, σ, K⟩ σ (mkSt n tm' rows2 []) a w' := by
  simp only [idsOk, Bool.and_eq_true, List.all_eq_true] at hi
  have hu : ∀ r, (mkSt n tm' rows2 []).used r = hasN (rows2.map (·.1)) r := fun r => by show hasN (rows2.map (·.1) ++ []) r = _; rw [List.append_nil]
  refine ⟨hd.sz, hd.df, ⟨List.nodup_nil, fun D hD => by cases hD⟩, KeepsOthers.refl _, fun t x hx => ?_, fun r y hr2 => ?_, fun r q y z hr2 hq hrq hw => ?_, Fr.refl _ _, fun _ _ => rfl, fun r hr2 => ?_, fun g hg hug => ?_, fun r B h => by cases h⟩
  · have hm := findT_mem (show findT tm' t = some x from hx)
    obtain ⟨e2, e3⟩ := h _ hm
    obtain ⟨g1, g2, g3⟩ := hd.tm t x e2
    exact ⟨by rw [g1, TV.val_congr (fun r hr2 => (e3 r hr2).symm)], g2, fun r hr2 => hi.1 _ hm r hr2⟩
  · have hm := findR_mem (show findR rows2 r = some y from hr2)
    obtain ⟨g1, g2⟩ := hr _ hm
    exact ⟨g1, g2, by rw [hu]; exact hasN_iff.2 (List.mem_map.2 ⟨_, hm, rfl⟩), fun p hp => hi.2 _ hm p hp, fun hw => .inr (mem_wlOf hm hw)⟩
  · exact hds _ (findR_mem (show findR rows2 r = some y from hr2)) _ (findR_mem (show findR rows2 q = some z from hq)) hrq hw
  · rw [hu]; exact List.all_eq_true.1 hK r hr2
  · rw [hu] at hug
    obtain ⟨p, hp, he⟩ := List.mem_map.1 (hasN_iff.1 hug)
    have := List.all_eq_true.1 hk5 p hp
    rw [Bool.or_eq_true] at this
    rcases this with h5 | h5 <;> have := Nat.le_of_ble_eq_true h5 <;> omega
theorem E.xOpS_ok {P : Program} {ops : Array Oper} {r : Option Nat} {m : Nat} {K : Act → World → Prop} {QQ : Exit → Act → World → Prop} {a : Act} {w w' : World} {o : Oper} (hnd : noDef ops = true) (ho : ops[m]? = some o) (hg : o.guard = none)
    (h : (execOp a.eval o).run P w = .ok .skip w') (hK : K (a.put o.dst undef) w') : wpOpIn (FW r) 5 P ops QQ m K a w := by
  unfold wpOpIn
  rw [ho]
  simp only
  rw [if_pos (by unfold Region.wanted; rw [hg])]
  exact wpIn_of_wp (noDef_ok hnd ho) (wp_skp h hK)
theorem ent20 : Enters Try.prog 20 := enters_of Try.func20 (by kernel_rfl) rfl
theorem scX_mv {ρ σ : Env} {r q : Nat} {x y : Lf} {mb : Nat} {lv : List UInt8} {wr : Bool} {W : World} (h : RowAt ρ r (scX x mb lv wr) W) (e : σ q = ρ r) (hxy : y.val σ = x.val ρ) : RowAt σ q (scX y mb lv wr) W := by
  have hl : lst σ [.one y, .one (.v (.map (some mb))), .one (.v (stv lv))] = lst ρ [.one x, .one (.v (.map (some mb))), .one (.v (stv lv))] := by
    simp [lst, Pc.arrV, hxy]
    exact ⟨rfl, rfl⟩
  unfold RowAt at h ⊢
  rw [e]
  simp only [hl]
  exact h
/-- A scanner: its box, its set, the row of its parts. -/
structure SB where
  B : Blk
  mb : Nat
  C : Blk
abbrev enS (x : SB) : Env := fun r => bif Nat.beq r 2 then x.B else x.C
abbrev pvK : Nat → Lf
  | 0 => .v nilS
  | k + 1 => .sl 6 0 0 2 (k + 1) none
/-- A scanner in memory. -/
def Sc (W : World) (x : SB) (L : Wl) (S : List UInt8 → Bool) (lv : List UInt8) : Prop :=
  ∃ n, MsR W x.mb n S ∧ RowAt (enS x) 2 (scX (pvK L.length) x.mb lv true) W ∧ (L ≠ [] → x.C.1 ≠ x.B.1 ∧ RowAt (enS x) 6 (wR L true (some (56, 2))) W)
/-- The parts of some texts, with their places. -/
def newN (ps : List (List UInt8)) (i : Nat) : Wl := (List.range i).filterMap fun k => if mayP (ps.getD k []) = true then some (ps.getD k [], k) else none
theorem newN_yes {ps : List (List UInt8)} {i : Nat} (h : mayP (ps.getD i []) = true) : newN ps (i + 1) = newN ps i ++ [(ps.getD i [], i)] := by
  unfold newN
  rw [List.range_succ, List.filterMap_append]
  congr 1
  rw [List.filterMap_cons, if_pos h]; rfl
theorem newN_no {ps : List (List UInt8)} {i : Nat} (h : mayP (ps.getD i []) = false) : newN ps (i + 1) = newN ps i := by
  unfold newN
  rw [List.range_succ, List.filterMap_append]
  rw [List.filterMap_cons, if_neg (by rw [h]; simp)]
  exact List.append_nil _
theorem newN_len (ps : List (List UInt8)) (i : Nat) : (newN ps i).length ≤ i := by
  unfold newN
  exact Nat.le_trans (List.length_filterMap_le _ _) (by rw [List.length_range]; exact Nat.le_refl _)
/-- The set that holds the texts of a list. -/
def newS (L : Wl) : List UInt8 → Bool := fun q => L.any fun x => q == x.1
structure NwX where
  W : World
  i : Nat
  L : Wl
  k : Nat
  B : Blk
  C : Blk
  mb : Nat
abbrev enN (b1 : Blk) (x : NwX) : Env := fun r => bif Nat.beq r 1 then b1 else bif Nat.beq r 2 then x.B else x.C
abbrev nwR (ps : List (List UInt8)) (L : Wl) (mb : Nat) : Nat → List (Nat × Row)
  | 0 => [(1, strR ps), (2, scX (.v nilS) mb [] true)]
  | k + 1 => [(1, strR ps), (2, scX (.sl 6 0 0 2 (k + 1) none) mb [] true), (6, ⟨[.fnc (wF L) 2 (k + 1)], true, some (56, 2)⟩)]
abbrev nwT (ps : List (List UInt8)) (i : Nat) : List (Nat × TV) := [(3, ptrTo 2), (9, .s (.lf (.sl 1 0 0 1 ps.length none))), (10, .int .i64 (ps.length : Int)), (11, .int .i64 (i : Int))]
structure NwI (W0 : World) (ps : List (List UInt8)) (x : NwX) : Prop where
  hk : x.k = x.L.length
  hL : x.L = newN ps x.i
  hi : x.i ≤ ps.length
  fr : Fr W0 [] x.W
  hB : W0.heap.size ≤ x.B.1
  hC : W0.heap.size ≤ x.C.1
  hm : W0.heap.size ≤ x.mb
  ms : MsR x.W x.mb x.k (newS x.L)
  bc : x.k ≠ 0 → x.C.1 ≠ x.B.1
def NewOut (W0 : World) (ps : List (List UInt8)) (e : Ending) (w' : World) : Prop := ∃ x : SB, e = .returned (.pointer (some ⟨x.B.1, x.B.2, none⟩)) ∧ Fr W0 [] w' ∧ W0.heap.size ≤ x.B.1 ∧ W0.heap.size ≤ x.C.1 ∧ W0.heap.size ≤ x.mb ∧ Sc w' x (newN ps ps.length) (newS (newN ps ps.length)) []
theorem w_one (p : List UInt8) (i : Nat) : ∀ q, q < 1 → chunkF [stv p, .int .i64 (i : Int)] 2 1 (addN 0 q) = wF [(p, i)] q := by
  intro q hq
  obtain rfl : q = 0 := by omega
  rfl
theorem w_step (L : Wl) (n : Nat) (p : List UInt8) (i : Nat) (hn : n = L.length) : ∀ q, q < n + 1 → appF (wF L) n (fun q => chunkF [stv p, .int .i64 (i : Int)] 2 1 (addN 0 q)) q = wF (L ++ [(p, i)]) q := by
  intro q hq
  subst hn
  by_cases h : q < L.length
  · rw [appF_lo h]
    show [stv (L.getD q ([], 0)).1, Value.int .i64 ((L.getD q ([], 0)).2 : Int)] = [stv ((L ++ [(p, i)]).getD q ([], 0)).1, Value.int .i64 (((L ++ [(p, i)]).getD q ([], 0)).2 : Int)]
    rw [List.getD_eq_getElem?_getD, List.getD_eq_getElem?_getD, List.getElem?_append_left h]
  · obtain rfl : q = L.length := by omega
    rw [appF_hi (Nat.le_refl _), Nat.sub_self]
    show [stv p, Value.int .i64 (i : Int)] = [stv ((L ++ [(p, i)]).getD L.length ([], 0)).1, Value.int .i64 (((L ++ [(p, i)]).getD L.length ([], 0)).2 : Int)]
    rw [List.getD_eq_getElem?_getD, List.getElem?_append_right (Nat.le_refl _), Nat.sub_self]
    rfl
/-- The set, put into. -/
theorem newS_put (L : Wl) (p : List UInt8) (i : Nat) : (fun q => newS L q || q == p) = newS (L ++ [(p, i)]) := by
  funext q
  simp [newS, List.any_append]
set_option maxRecDepth 100000 in
/-- A round's end: the part is put into the set. -/
theorem new_put (W0 : World) (ps : List (List UInt8)) (hps : ps.length ≤ 1000000) (b1 : Blk) (hb1 : b1.1 < W0.heap.size) (i k : Nat) (L : Wl) (B C : Blk) (mb : Nat) (W : World) (p : List UInt8) (hpl : p.length ≤ 1000000) (hI : NwI W0 ps ⟨W, i, L, k, B, C, mb⟩) (hlt : i < ps.length) (hp : ps.getD i [] = p) (hm : mayP p = true)
    (ih : ∀ y : NwX, NwI W0 ps y → ps.length - y.i < ps.length - i → At Try.prog y.W ⟨wlOf (enN b1 y) (nwR ps y.L y.mb y.k), enN b1 y, []⟩ Try.f20.ntmps [] (lp Try.f20 0) (EndX Try.prog Try.f20 (NewOut W0 ps)) (nwT ps y.i) (nwR ps y.L y.mb y.k))
    (wl : List Nat) (hwl : ∀ b ∈ wl, W0.heap.size ≤ b) :
    At Try.prog W ⟨wl, enN b1 ⟨W, i, L, k, B, C, mb⟩, []⟩ Try.f20.ntmps [] (rp Try.f20 8) (EndX Try.prog Try.f20 (NewOut W0 ps)) [(3, ptrTo 2), (5, .v (stv p)), (9, .s (.lf (.sl 1 0 0 1 ps.length none))), (10, .int .i64 (ps.length : Int)), (11, .int .i64 (i : Int))]
      [(1, strR ps), (2, scX (.sl 8009 0 0 2 (k + 1) none) mb [] true), (8009, ⟨[.fnc (wF (L ++ [(p, i)])) 2 (k + 1)], true, some (56, 2)⟩)] := by
  obtain ⟨g1, g2, g3, g4, g5, g6, g7, g8, _⟩ := hI
  simp only at g1 g2 g3 g4 g5 g6 g7 g8
  have hkl : k ≤ 1000000 := by
    have := newN_len ps i
    rw [g1, g2]; omega
  refine E.At.opY (α := World × Blk) 6 none [] trivial (fun y => y.1) (fun y => ⟨wlOf (enN b1 ⟨y.1, i, L ++ [(p, i)], k + 1, B, y.2, mb⟩) (nwR ps (L ++ [(p, i)]) mb (k + 1)), enN b1 ⟨y.1, i, L ++ [(p, i)], k + 1, B, y.2, mb⟩, []⟩) (fun _ => nwT ps i) (fun _ => nwT ps i) (fun _ => nwR ps (L ++ [(p, i)]) mb (k + 1)) (fun _ => nwR ps (L ++ [(p, i)]) mb (k + 1))
    (fun y => Fr W0 [] y.1 ∧ W0.heap.size ≤ y.2.1 ∧ MsR y.1 mb (k + 1) (newS (L ++ [(p, i)])) ∧ y.2.1 ≠ B.1) rfl
    (tm1 := [(3, ptrTo 2), (9, .s (.lf (.sl 1 0 0 1 ps.length none))), (10, .int .i64 (ps.length : Int)), (11, .int .i64 (i : Int)), (35, .v (.map (some mb))), (36, .v (stv p)), (37, .s (.agg []))]) (rows1 := [(1, strR ps), (2, scX (.sl 8009 0 0 2 (k + 1) none) mb [] true), (8009, ⟨[.fnc (wF (L ++ [(p, i)])) 2 (k + 1)], true, some (56, 2)⟩)]) (o1 := []) (o2 := fun _ => []) (by kernel_rfl) trivial rfl ?_ (fun y _ => by kernel_rfl) (fun y _ => trivial) (fun y => rfl) (fun y hy => ?_)
  · intro a' w ρ K QQ hden hk
    have h35 : a'.eval (.tmp 35) = .map (some mb) := (evalO_ok hden (x := .tmp 35) (y := .v (.map (some mb))) rfl).1
    have h36 : a'.eval (.tmp 36) = stv p := (evalO_ok hden (x := .tmp 36) (y := .v (stv p)) rfl).1
    have h37 : a'.eval (.tmp 37) = .agg #[] := (evalO_ok hden (x := .tmp 37) (y := .s (.agg [])) rfl).1
    have hr1 := (hden.rw 1 _ rfl).1
    have hr2 := (hden.rw 2 _ rfl).1
    obtain ⟨hr8, hr8p, _, _, hr8w⟩ := hden.rw 8009 _ rfl
    have hne : (ρ 2).1 ≠ (ρ 8009).1 := hden.ds 2 8009 _ _ rfl rfl (by decide) rfl
    have e1 : ρ 1 = b1 := hden.e0 1 (.inl (by decide))
    have e2 : ρ 2 = B := hden.e0 2 (.inl (by decide))
    have hMw : MsR w mb k (newS L) := g8.keep (by
      obtain ⟨D, ⟨es, c, h1, _⟩, _⟩ := g8
      rw [h1]
      exact hden.ko.same mb _ h1 rfl)
    obtain ⟨oo, hoo, hop, hdst, hgd⟩ : ∃ oo : Oper, (hdOps (rp Try.f20 8))[6]? = some oo ∧ oo.op = .mapUpdate 50 (.tmp 35) (.tmp 36) (.tmp 37) ∧ oo.dst = none ∧ oo.guard = none := ⟨(hdOps (rp Try.f20 8)).getD 6 default, by kernel_rfl, by kernel_rfl, by kernel_rfl, by kernel_rfl⟩
    obtain ⟨w', hrun, hM2, hF2⟩ := ms_put hMw (by unfold maxLen; omega) (p := p) (by unfold maxLen; omega)
    rw [newS_put L p i] at hM2
    have hnb : ∀ {r : Nat} {row : Row}, RowAt ρ r row w → (ρ r).1 ≠ mb := fun {r row} hrow he => by
      obtain ⟨cur, t, fz, hcur⟩ := hrow.2.2.2
      obtain ⟨D, ⟨es, c, h1, _⟩, _⟩ := hMw
      rw [he, h1] at hcur; cases hcur
    have kp : ∀ {r : Nat} {row : Row}, RowAt ρ r row w → RowAt ρ r row w' := fun {r row} hrow => rowAt_fr hrow hF2 fun hm => hnb hrow (List.mem_singleton.1 hm)
    have hC2 : W0.heap.size ≤ (ρ 8009).1 := by
      rcases hr8w rfl with h | h
      · exact Nat.le_trans g4.size h
      · exact hwl _ h
    refine E.xOpS_ok (o := oo) (w' := w') rfl hoo hgd ?_ ?_
    · simp [execOp, hop, h35, h36, h37, hrun, Result.andThen]
    · rw [hdst]
      refine hk (w', ρ 8009) undef w' (enN b1 ⟨w', i, L ++ [(p, i)], k + 1, B, ρ 8009, mb⟩) ⟨?_, hC2, hM2, by rw [← e2]; exact hne.symm⟩ (E.den_again0 (tm' := nwT ps i) (rows2 := nwR ps (L ++ [(p, i)]) mb (k + 1)) (K := []) hden (fun q hq => ?_) rfl (fun q hq => ?_) (fun q hq r hr hqr hw => ?_) rfl rfl)
      · have hf1 : Fr W0 [] w := ⟨hden.fr.os.trans g4.os, hden.fr.tape.trans g4.tape, hden.fr.output.trans g4.output, Nat.le_trans g4.size hden.fr.size, fun q hq _ => (hden.fr.block q (Nat.lt_of_lt_of_le hq g4.size) fun hm => by have := hwl q hm; omega).trans (g4.block q hq (by simp))⟩
        exact hf1.comp hF2 fun y hy => .inr (by obtain rfl := List.mem_singleton.1 hy; exact g7)
      · simp only [List.mem_cons, List.not_mem_nil, or_false] at hq
        rcases hq with rfl | rfl | rfl | rfl
        · exact ⟨rfl, fun r hr => by obtain rfl := List.mem_singleton.1 hr; exact e2.symm⟩
        · exact ⟨rfl, fun r hr => by obtain rfl := List.mem_singleton.1 hr; exact e1.symm⟩
        · exact ⟨rfl, fun r hr => by cases hr⟩
        · exact ⟨rfl, fun r hr => by cases hr⟩
      · simp only [List.mem_cons, List.not_mem_nil, or_false] at hq
        rcases hq with rfl | rfl | rfl
        · exact ⟨rowAt_mv (kp hr1) e1.symm, strR_ok ps⟩
        · refine ⟨scX_mv (kp hr2) e2.symm rfl, fun q hq => ?_⟩
          simp only [List.mem_cons, List.not_mem_nil, or_false] at hq
          rcases hq with rfl | rfl | rfl
          · trivial
          · rfl
          · rfl
        · exact ⟨rowAt_mv (kp hr8) rfl, hr8p⟩
      · simp only [List.mem_cons, List.not_mem_nil, or_false] at hq hr
        have hB0 := g5
        have hne' : B.1 ≠ (ρ 8009).1 := by rw [← e2]; exact hne
        rcases hq with rfl | rfl | rfl
        · cases hw
        · rcases hr with rfl | rfl | rfl
          · show B.1 ≠ b1.1
            omega
          · exact absurd rfl hqr
          · exact hne'
        · rcases hr with rfl | rfl | rfl
          · show (ρ 8009).1 ≠ b1.1
            omega
          · exact hne'.symm
          · exact absurd rfl hqr
  · obtain ⟨hf, hc, hM, hbc⟩ := hy
    refine At.run rfl [] trivial [] (tm2 := nwT ps (i + 1)) (rows2 := nwR ps (L ++ [(p, i)]) mb (k + 1)) (ob := [inI ((i : Int) + 1)]) (td := lp Try.f20 0) (by kernel_rfl) ⟨⟨by omega, by omega⟩, trivial⟩ rfl rfl (by intro h; cases h) (ih ⟨y.1, i + 1, L ++ [(p, i)], k + 1, B, y.2, mb⟩ ⟨?_, ?_, hlt, hf, g5, hc, g7, hM, fun _ => hbc⟩ (by show ps.length - (i + 1) < ps.length - i; omega))
    · show k + 1 = (L ++ [(p, i)]).length
      rw [List.length_append, ← g1]; rfl
    · show L ++ [(p, i)] = newN ps (i + 1)
      rw [g2, newN_yes (by rw [hp]; exact hm), hp]
end
end Go.Proofs.Ytlofoeapfmcolaa
/- The scanner's New, whole. Its condition: lengths that fit. -/
namespace Go.Proofs.Ytlofoeapfmcolaa
open Go Go.RowKit
set_option linter.unusedVariables false
set_option linter.unusedSimpArgs false
section
open E
theorem nw_wl {W0 : World} {ps : List (List UInt8)} {b1 : Blk} {x : NwX} (hI : NwI W0 ps x) : ∀ b ∈ wlOf (enN b1 x) (nwR ps x.L x.mb x.k), W0.heap.size ≤ b := by
  intro b hb
  obtain ⟨p, hp, hw, rfl⟩ := wlOf_mem hb
  have h1 := hI.hB
  have h2 := hI.hC
  obtain ⟨W, i, L, k, B, C, mb⟩ := x
  cases k with
  | zero =>
    simp only [List.mem_cons, List.not_mem_nil, or_false] at hp
    rcases hp with rfl | rfl
    · cases hw
    · exact h1
  | succ k =>
    simp only [List.mem_cons, List.not_mem_nil, or_false] at hp
    rcases hp with rfl | rfl | rfl
    · cases hw
    · exact h1
    · exact h2
set_option maxRecDepth 100000 in
theorem new_loop (W0 : World) (ps : List (List UInt8)) (hps : ps.length ≤ 1000000) (hpl : ∀ p ∈ ps, p.length ≤ 1000000) (b1 : Blk) (hb1 : b1.1 < W0.heap.size) :
    ∀ x : NwX, NwI W0 ps x → At Try.prog x.W ⟨wlOf (enN b1 x) (nwR ps x.L x.mb x.k), enN b1 x, []⟩ Try.f20.ntmps [] (lp Try.f20 0) (EndX Try.prog Try.f20 (NewOut W0 ps)) (nwT ps x.i) (nwR ps x.L x.mb x.k) := by
  refine At.loopW (fun x : NwX => x.W) (fun x => ⟨wlOf (enN b1 x) (nwR ps x.L x.mb x.k), enN b1 x, []⟩) (fun x => nwT ps x.i) (fun x => nwR ps x.L x.mb x.k) (NwI W0 ps) (fun x => ps.length - x.i) ?_
  rintro ⟨W, i, L, k, B, C, mb⟩ hI ih
  obtain ⟨g1, g2, g3, g4, g5, g6, g7, g8, g9⟩ := hI
  simp only at g1 g2 g3 g4 g5 g6 g7 g8 g9 ih ⊢
  have hI : NwI W0 ps ⟨W, i, L, k, B, C, mb⟩ := ⟨g1, g2, g3, g4, g5, g6, g7, g8, g9⟩
  have hkl : k ≤ 1000000 := by
    have := newN_len ps i
    rw [g1, g2]; omega
  by_cases hlt : i < ps.length
  · obtain ⟨p, hpp⟩ : ∃ p, p = ps.getD i [] := ⟨_, rfl⟩
    have hpm : p ∈ ps := by rw [hpp, List.getD_eq_getElem?_getD, List.getElem?_eq_getElem hlt]; exact List.getElem_mem hlt
    have hp1 := hpl p hpm
    have hv : TV.v (stv (ps.getD (addN 0 (i : Int).toNat) [])) = TV.v (stv p) := by rw [hpp, addN_eq, Nat.zero_add, Int.toNat_natCast]
    have hidx : addN 0 (i : Int).toNat < ps.length := by rw [addN_eq]; omega
    have i2 : inI ((i : Int) + 1) := ⟨by omega, by omega⟩
    have hd : decide ((i : Int) < (ps.length : Int)) = true := decide_eq_true (by omega)
    cases hm : mayP p with
    | true =>
      have hk1 := hMy_ok 6001 p true (by omega) hm
      have hk2 := hCl_ok 7001 p (by omega)
      have hput := new_put W0 ps hps b1 hb1 i k L B C mb W p hp1 hI hlt hpp.symm hm ih (wlOf (enN b1 ⟨W, i, L, k, B, C, mb⟩) (nwR ps L mb k)) (nw_wl hI)
      cases k with
      | zero =>
        obtain rfl : L = [] := List.length_eq_zero_iff.1 g1.symm
        refine At.run rfl [(2005002, .val (.v (stv p))), (6001, hMy p true), (7001, hCl p), (2009000, .val (.tup []))] ⟨trivial, hk1, hk2, trivial, trivial⟩ [.y, .d] (tm2 := [(3, ptrTo 2), (5, .v (stv p)), (9, .s (.lf (.sl 1 0 0 1 ps.length none))), (10, .int .i64 (ps.length : Int)), (11, .int .i64 (i : Int))]) (rows2 := [(1, strR ps), (2, scX (.sl 8009 0 0 2 (0 + 1) none) mb [] true), (8009, ⟨[.fnc (fun q => chunkF [stv p, .int .i64 (i : Int)] 2 1 (addN 0 q)) 2 1], true, some (56, 2)⟩)])
          (ob := [[decide ((i : Int) < (ps.length : Int)) = true, 0 ≤ (i : Int) ∧ (i : Int) < (ps.length : Int), TV.v (stv (ps.getD (addN 0 (i : Int).toNat) [])) = TV.v (stv p), addN 0 (i : Int).toNat < ps.length], qL (hMy p true), qL (hCl p), [0 < 1, 1 ≤ 9223372036854775807, 24 ≤ 140737488355328, 1 ≤ 1]].flatten) (td := rp Try.f20 8) (by kernel_rfl) (all_flat ⟨⟨hd, ⟨by omega, by omega⟩, hv, hidx, trivial⟩, all_qL _, all_qL _, ⟨by decide, by decide, by decide, by decide, trivial⟩, trivial⟩) rfl rfl (by intro h; cases h) ?_
        exact At.rows (rows2 := [(1, strR ps), (2, scX (.sl 8009 0 0 2 (0 + 1) none) mb [] true), (8009, ⟨[.fnc (wF ([] ++ [(p, i)])) 2 (0 + 1)], true, some (56, 2)⟩)]) (rowsEq_same (rowsEq_same (rowsEq_fnc (w_one p i) trivial))) rfl hput
      | succ k =>
        refine At.run rfl [(2005002, .val (.v (stv p))), (6001, hMy p true), (7001, hCl p), (2009000, .val (.tup []))] ⟨trivial, hk1, hk2, trivial, trivial⟩ [.y, .d] (tm2 := [(3, ptrTo 2), (5, .v (stv p)), (9, .s (.lf (.sl 1 0 0 1 ps.length none))), (10, .int .i64 (ps.length : Int)), (11, .int .i64 (i : Int))]) (rows2 := [(1, strR ps), (2, scX (.sl 8009 0 0 2 (k + 1 + 1) none) mb [] true), (8009, ⟨[.fnc (appF (wF L) (k + 1) fun q => chunkF [stv p, .int .i64 (i : Int)] 2 1 (addN 0 q)) 2 (k + 1 + 1)], true, some (56, 2)⟩)])
          (ob := [[decide ((i : Int) < (ps.length : Int)) = true, 0 ≤ (i : Int) ∧ (i : Int) < (ps.length : Int), TV.v (stv (ps.getD (addN 0 (i : Int).toNat) [])) = TV.v (stv p), addN 0 (i : Int).toNat < ps.length], qL (hMy p true), qL (hCl p), [k + 1 = k + 1, k + 1 + 1 ≤ 9223372036854775807, (k + 1 + 1) * 24 ≤ 140737488355328, 1 ≤ 1]].flatten) (td := rp Try.f20 8) (by kernel_rfl) (all_flat ⟨⟨hd, ⟨by omega, by omega⟩, hv, hidx, trivial⟩, all_qL _, all_qL _, ⟨rfl, by omega, by omega, by decide, trivial⟩, trivial⟩) rfl rfl (by intro h; cases h) ?_
        exact At.rows (rows2 := [(1, strR ps), (2, scX (.sl 8009 0 0 2 (k + 1 + 1) none) mb [] true), (8009, ⟨[.fnc (wF (L ++ [(p, i)])) 2 (k + 1 + 1)], true, some (56, 2)⟩)]) (rowsEq_same (rowsEq_same (rowsEq_fnc (w_step L (k + 1) p i g1) trivial))) rfl hput
    | false =>
      have hk1 := hMy_ok 6001 p false (by omega) hm
      have h9 := ih ⟨W, i + 1, L, k, B, C, mb⟩ ⟨g1, by show L = newN ps (i + 1); rw [g2, newN_no (by rw [← hpp]; exact hm)], hlt, g4, g5, g6, g7, g8, g9⟩ (by show ps.length - (i + 1) < ps.length - i; omega)
      have hob : all [[decide ((i : Int) < (ps.length : Int)) = true, 0 ≤ (i : Int) ∧ (i : Int) < (ps.length : Int), TV.v (stv (ps.getD (addN 0 (i : Int).toNat) [])) = TV.v (stv p), addN 0 (i : Int).toNat < ps.length], qL (hMy p false), [inI ((i : Int) + 1)]].flatten := all_flat ⟨⟨hd, ⟨by omega, by omega⟩, hv, hidx, trivial⟩, all_qL _, ⟨i2, trivial⟩, trivial⟩
      cases k with
      | zero => exact At.run rfl [(2005002, .val (.v (stv p))), (6001, hMy p false)] ⟨trivial, hk1, trivial⟩ [.y, .d] (tm2 := nwT ps (i + 1)) (rows2 := nwR ps L mb 0) (ob := [[decide ((i : Int) < (ps.length : Int)) = true, 0 ≤ (i : Int) ∧ (i : Int) < (ps.length : Int), TV.v (stv (ps.getD (addN 0 (i : Int).toNat) [])) = TV.v (stv p), addN 0 (i : Int).toNat < ps.length], qL (hMy p false), [inI ((i : Int) + 1)]].flatten) (td := lp Try.f20 0) (by kernel_rfl) hob rfl rfl (by intro h; cases h) h9
      | succ k => exact At.run rfl [(2005002, .val (.v (stv p))), (6001, hMy p false)] ⟨trivial, hk1, trivial⟩ [.y, .d] (tm2 := nwT ps (i + 1)) (rows2 := nwR ps L mb (k + 1)) (ob := [[decide ((i : Int) < (ps.length : Int)) = true, 0 ≤ (i : Int) ∧ (i : Int) < (ps.length : Int), TV.v (stv (ps.getD (addN 0 (i : Int).toNat) [])) = TV.v (stv p), addN 0 (i : Int).toNat < ps.length], qL (hMy p false), [inI ((i : Int) + 1)]].flatten) (td := lp Try.f20 0) (by kernel_rfl) hob rfl rfl (by intro h; cases h) h9
  · obtain rfl : i = ps.length := by omega
    have hdc : decide ((ps.length : Int) < (ps.length : Int)) = false := decide_eq_false (by omega)
    have hwl := nw_wl (b1 := b1) hI
    have hfin : ∀ {w' : World}, Fr W (wlOf (enN b1 ⟨W, ps.length, L, k, B, C, mb⟩) (nwR ps L mb k)) w' → Fr W0 [] w' := fun hf => g4.comp hf fun y hy => .inr (hwl y hy)
    have hms : ∀ {w' : World}, Fr W (wlOf (enN b1 ⟨W, ps.length, L, k, B, C, mb⟩) (nwR ps L mb k)) w' → mb ≠ B.1 → (k ≠ 0 → mb ≠ C.1) → MsR w' mb k (newS L) := fun hf h1 h2 => g8.keep (hf.block mb g8.lt fun hm => by
      obtain ⟨p, hp, hw, he⟩ := wlOf_mem hm
      cases k with
      | zero =>
        simp only [List.mem_cons, List.not_mem_nil, or_false] at hp
        rcases hp with rfl | rfl
        · cases hw
        · exact h1 he
      | succ k =>
        simp only [List.mem_cons, List.not_mem_nil, or_false] at hp
        rcases hp with rfl | rfl | rfl
        · cases hw
        · exact h1 he
        · exact h2 (by simp) he)
    have hnc : ∀ {ρ : Env} {r : Nat} {row : Row}, RowAt ρ r row W → mb ≠ (ρ r).1 := fun {ρ r row} hrow he => by
      obtain ⟨cur, t, fz, hcur⟩ := hrow.2.2.2
      obtain ⟨D, ⟨es, c, h1, _⟩, _⟩ := g8
      rw [← he, h1] at hcur; cases hcur
    cases k with
    | zero =>
      obtain rfl : L = [] := List.length_eq_zero_iff.1 g1.symm
      intro a w ρ hd
      have hw1 := hd.fr
      have hB1 : mb ≠ B.1 := fun he => by
        have hr := (hd.rw 2 _ rfl).1
        obtain ⟨cur, t, fz, hcur⟩ := hr.2.2.2
        obtain ⟨D, ⟨es, c, h1, _⟩, _⟩ := g8
        have h2 := hd.ko.same mb _ h1 rfl
        rw [show (ρ 2).1 = mb by rw [hd.e0 2 (.inl (by decide))]; exact he.symm, h2] at hcur; cases hcur
      refine At.finR rfl [] trivial [.n] (tm := nwT ps ps.length) (rows := nwR ps [] mb 0) (rows2 := [(2, scX (.v nilS) mb [] true)]) (x := ptrTo 2) (ob := [decide ((ps.length : Int) < (ps.length : Int)) = false]) (by kernel_rfl) ⟨hdc, trivial⟩ (fun ρ' w' hf he _ hq => ?_) a w ρ hd
      obtain ⟨h1, _, _⟩ := hq _ (List.mem_singleton.2 rfl)
      have h2 : ρ' 2 = B := he 2 (by decide)
      refine ⟨⟨B, mb, B⟩, ?_, hfin hf, g5, g5, g7, 0, ?_, ?_, ?_⟩
      · show Ending.returned (Value.pointer (some ⟨(ρ' 2).1, (ρ' 2).2 + (0 + 0 * 0 + 0), none⟩)) = _
        rw [h2]; rfl
      · rw [← g2]
        exact hms hf hB1 (fun h => absurd rfl h)
      · rw [← g2]
        exact scX_mv h1 h2.symm rfl
      · rw [← g2]
        intro h
        exact absurd rfl h
    | succ k =>
      intro a w ρ hd
      have hmc : ∀ r row, (mkSt Try.f20.ntmps (nwT ps ps.length) (nwR ps L mb (k + 1)) [] [] []).row r = some row → mb ≠ (ρ r).1 := fun r row hr he => by
        have hr := (hd.rw r _ hr).1
        obtain ⟨cur, t, fz, hcur⟩ := hr.2.2.2
        obtain ⟨D, ⟨es, c, h1, _⟩, _⟩ := g8
        have h2 := hd.ko.same mb _ h1 rfl
        rw [← he, h2] at hcur; cases hcur
      have hB1 : mb ≠ B.1 := by have := hmc 2 _ rfl; rw [hd.e0 2 (.inl (by decide))] at this; exact this
      have hC1 : mb ≠ C.1 := by have := hmc 6 _ rfl; rw [hd.e0 6 (.inl (by decide))] at this; exact this
      refine At.finR rfl [] trivial [.n] (tm := nwT ps ps.length) (rows := nwR ps L mb (k + 1)) (rows2 := [(2, scX (.sl 6 0 0 2 (k + 1) none) mb [] true), (6, ⟨[.fnc (wF L) 2 (k + 1)], true, some (56, 2)⟩)]) (x := ptrTo 2) (ob := [decide ((ps.length : Int) < (ps.length : Int)) = false]) (by kernel_rfl) ⟨hdc, trivial⟩ (fun ρ' w' hf he _ hq => ?_) a w ρ hd
      obtain ⟨h1, _, _⟩ := hq _ (List.mem_cons_self ..)
      obtain ⟨h6, _, _⟩ := hq _ (List.mem_cons_of_mem _ (List.mem_cons_self ..))
      have h2 : ρ' 2 = B := he 2 (by decide)
      have h3 : ρ' 6 = C := he 6 (by decide)
      refine ⟨⟨B, mb, C⟩, ?_, hfin hf, g5, g6, g7, k + 1, ?_, ?_, ?_⟩
      · show Ending.returned (Value.pointer (some ⟨(ρ' 2).1, (ρ' 2).2 + (0 + 0 * 0 + 0), none⟩)) = _
        rw [h2]; rfl
      · rw [← g2]
        exact hms hf hB1 (fun _ => hC1)
      · rw [← g2, ← g1]
        refine scX_mv h1 h2.symm ?_
        show Value.slice (some ⟨C.1, C.2 + (0 + 0 * 2), none⟩) (k + 1) (capOf C.3 0 none) = Value.slice (some ⟨(ρ' 6).1, (ρ' 6).2 + (0 + 0 * 2), none⟩) (k + 1) (capOf (ρ' 6).3 0 none)
        rw [h3]
      · rw [← g2]
        intro _
        refine ⟨g9 (by simp), ?_⟩
        rw [show wR L true (some (56, 2)) = ⟨[.fnc (wF L) 2 (k + 1)], true, some (56, 2)⟩ by rw [g1]]
        exact rowAt_mv h6 h3.symm
set_option maxRecDepth 100000 in
theorem new_pos (ps : List (List UInt8)) (hps : ps.length ≤ 1000000) (hpl : ∀ p ∈ ps, p.length ≤ 1000000) (w : World) (ρ : Env) (h1 : RowAt ρ 1 (strR ps) w) : Calls Try.prog 20 #[(TV.s (.lf (.sl 1 0 0 1 ps.length none))).val ρ] w (NewOut w ps) := by
  refine At.calls (args := [.s (.lf (.sl 1 0 0 1 ps.length none))]) (rows := [(1, strR ps)]) (gl := []) (wr := []) (ρ := ρ) Try.func20 rfl rfl (init_rw ⟨trivial, trivial⟩ rfl rfl rfl (fun p hp => by obtain rfl := List.mem_singleton.1 hp; exact ⟨h1, strR_ok ps⟩) (fun p hp hw => by obtain rfl := List.mem_singleton.1 hp; cases hw) (fun p hp q hq hpq hw => by obtain rfl := List.mem_singleton.1 hp; cases hw)) rfl ?_
  refine At.run rfl [(2002000, .val (.tup []))] ⟨trivial, trivial⟩ [] (tm2 := [(0, .s (.lf (.sl 1 0 0 1 ps.length none)))]) (rows2 := [(1, strR ps)]) (ob := []) (td := rp Try.f20 1) (by kernel_rfl) trivial rfl rfl (by intro h; cases h) ?_
  refine At.opX (α := World × Nat) 0 6 [] trivial (fun y => y.1) (fun _ => ⟨[], ρ, []⟩) (fun y => [(0, .s (.lf (.sl 1 0 0 1 ps.length none))), (6, .v (.map (some y.2)))]) (fun _ => [(0, .s (.lf (.sl 1 0 0 1 ps.length none))), (3, ptrTo 2002)]) (fun _ => [(1, strR ps)]) (fun y => [(1, strR ps), (2002, scX (.v nilS) y.2 [] true)])
    (fun y => Fr w [] y.1 ∧ w.heap.size ≤ y.2 ∧ MsR y.1 y.2 0 fun _ => false) rfl
    (tm1 := [(0, .s (.lf (.sl 1 0 0 1 ps.length none)))]) (rows1 := [(1, strR ps)]) (o1 := []) (o2 := fun _ => []) (by kernel_rfl) trivial rfl ?_ (fun y _ => by kernel_rfl) (fun y _ => trivial) (fun y => rfl) (fun y hy => ?_)
  · intro a' w1 σ K QQ hden hk
    have e1 : σ 1 = ρ 1 := hden.e0 1 (.inl (by decide))
    have hr1 := (hden.rw 1 _ rfl).1
    obtain ⟨oo, hoo, hop, hdst, hgd⟩ : ∃ oo : Oper, (hdOps (rp Try.f20 1))[0]? = some oo ∧ oo.op = .makeMap 50 none ∧ oo.dst = some 6 ∧ oo.guard = none := ⟨(hdOps (rp Try.f20 1)).getD 0 default, by kernel_rfl, by kernel_rfl, by kernel_rfl, by kernel_rfl⟩
    refine E.xOp_ok (o := oo) (d := 6) (v := .map (some w1.heap.size)) (w' := w1.alloc (.map #[] 0)) rfl hoo hdst hgd ?_ ?_
    · simp [execOp, hop, run_makeMap, Result.andThen]
    · refine hk (w1.alloc (.map #[] 0), w1.heap.size) _ _ ρ ⟨hden.fr.comp (fr_alloc _ _) (fun y hy => by cases hy), hden.fr.size, ms_made w1⟩ (E.den_again (d := 6) (tm' := [(0, .s (.lf (.sl 1 0 0 1 ps.length none))), (6, .v (.map (some w1.heap.size)))]) (rows2 := [(1, strR ps)]) (K := []) hden (by decide) (fun p hp => ?_) rfl (fun p hp => ?_) (fun p hp q hq hpq hw => ?_) rfl rfl)
      · simp only [List.mem_cons, List.not_mem_nil, or_false] at hp
        rcases hp with rfl | rfl
        · exact .inr ⟨(show (0 : Nat) ≠ 6 by decide), rfl, fun r hr => by obtain rfl := List.mem_singleton.1 hr; exact e1.symm⟩
        · exact .inl ⟨rfl, rfl, rfl⟩
      · obtain rfl := List.mem_singleton.1 hp
        exact ⟨rowAt_mv (rowAt_fr hr1 (fr_alloc w1 (.map #[] 0)) (by simp)) e1.symm, strR_ok ps⟩
      · obtain rfl := List.mem_singleton.1 hp
        cases hw
  · obtain ⟨hf, hm, hM⟩ := hy
    refine At.run rfl [] trivial [] (tm2 := [(3, ptrTo 2002), (9, .s (.lf (.sl 1 0 0 1 ps.length none))), (10, .int .i64 (ps.length : Int)), (11, .int .i64 ((0 : Nat) : Int))]) (rows2 := [(1, strR ps), (2002, scX (.v nilS) y.2 [] true)]) (ob := []) (td := lp Try.f20 0) (by kernel_rfl) trivial rfl rfl (by intro h; cases h) ?_
    intro a w2 σ hd
    have e1 : σ 1 = ρ 1 := hd.e0 1 (.inl (by decide))
    have hr1 := (hd.rw 1 _ rfl).1
    obtain ⟨hr2, hr2p, _, _, hr2w⟩ := hd.rw 2002 _ rfl
    have hB : w.heap.size ≤ (σ 2002).1 := by
      rcases hr2w rfl with h | h
      · exact Nat.le_trans hf.size h
      · cases h
    have hf2 : Fr w [] w2 := hf.comp hd.fr fun y hy => by cases hy
    refine new_loop w ps hps hpl (ρ 1) h1.1 ⟨w2, 0, [], 0, σ 2002, σ 2002, y.2⟩ ⟨rfl, rfl, Nat.zero_le _, hf2, hB, hB, hm, ?_, fun h => absurd rfl h⟩ a w2 (enN (ρ 1) ⟨w2, 0, [], 0, σ 2002, σ 2002, y.2⟩) (E.den_again1 (rows2 := nwR ps [] y.2 0) (tm' := nwT ps 0) (K := []) hd (fun q hq => ?_) rfl (fun q hq => ?_) (fun q hq r hr hqr hw => ?_) rfl rfl)
    · exact hM.keep (hd.fr.block y.2 hM.lt (by simp))
    · simp only [List.mem_cons, List.not_mem_nil, or_false] at hq
      rcases hq with rfl | rfl | rfl | rfl
      · exact ⟨_, rfl, rfl, trivial⟩
      · refine ⟨_, rfl, ?_, trivial⟩
        exact TV.val_congr fun r hr => by obtain rfl := List.mem_singleton.1 hr; exact e1.symm
      · exact ⟨_, rfl, rfl, rfl⟩
      · exact ⟨_, rfl, rfl, rfl⟩
    · simp only [List.mem_cons, List.not_mem_nil, or_false] at hq
      rcases hq with rfl | rfl
      · exact ⟨rowAt_mv hr1 e1.symm, strR_ok ps⟩
      · exact ⟨scX_mv hr2 rfl rfl, hr2p⟩
    · simp only [List.mem_cons, List.not_mem_nil, or_false] at hq hr
      have := h1.1
      rcases hq with rfl | rfl
      · cases hw
      · rcases hr with rfl | rfl
        · show (σ 2002).1 ≠ (ρ 1).1
          omega
        · exact absurd rfl hqr
set_option maxRecDepth 100000 in
theorem new_nil (pa : Option Addr) (ca : Nat) (w : World) : Calls Try.prog 20 #[.slice pa 0 ca] w (NewOut w []) := by
  refine At.calls (args := [.v (.slice pa 0 ca)]) (rows := []) (gl := []) (wr := []) (ρ := fun _ => (⟨0, 0, 0⟩ : Blk)) Try.func20 rfl rfl (init_rw ⟨rfl, trivial⟩ rfl rfl rfl (fun p hp => by cases hp) (fun p hp => by cases hp) (fun p hp => by cases hp)) rfl ?_
  refine At.run rfl [(2002000, .val (.tup []))] ⟨trivial, trivial⟩ [] (tm2 := [(0, .v (.slice pa 0 ca))]) (rows2 := []) (ob := []) (td := rp Try.f20 1) (by kernel_rfl) trivial rfl rfl (by intro h; cases h) ?_
  refine At.opX (α := World × Nat) 0 6 [] trivial (fun y => y.1) (fun _ => nB) (fun y => [(0, .v (.slice pa 0 ca)), (6, .v (.map (some y.2)))]) (fun _ => [(0, .v (.slice pa 0 ca)), (3, ptrTo 2002)]) (fun _ => []) (fun y => [(2002, scX (.v nilS) y.2 [] true)])
    (fun y => Fr w [] y.1 ∧ w.heap.size ≤ y.2 ∧ MsR y.1 y.2 0 fun _ => false) rfl
    (tm1 := [(0, .v (.slice pa 0 ca))]) (rows1 := []) (o1 := []) (o2 := fun _ => []) (by kernel_rfl) trivial rfl ?_ (fun y _ => by kernel_rfl) (fun y _ => trivial) (fun y => rfl) (fun y hy => ?_)
  · intro a' w1 σ K QQ hden hk
    obtain ⟨oo, hoo, hop, hdst, hgd⟩ : ∃ oo : Oper, (hdOps (rp Try.f20 1))[0]? = some oo ∧ oo.op = .makeMap 50 none ∧ oo.dst = some 6 ∧ oo.guard = none := ⟨(hdOps (rp Try.f20 1)).getD 0 default, by kernel_rfl, by kernel_rfl, by kernel_rfl, by kernel_rfl⟩
    refine E.xOp_ok (o := oo) (d := 6) (v := .map (some w1.heap.size)) (w' := w1.alloc (.map #[] 0)) rfl hoo hdst hgd ?_ ?_
    · simp [execOp, hop, run_makeMap, Result.andThen]
    · refine hk (w1.alloc (.map #[] 0), w1.heap.size) _ _ (fun _ => ⟨0, 0, 0⟩) ⟨hden.fr.comp (fr_alloc _ _) (fun y hy => by cases hy), hden.fr.size, ms_made w1⟩ (E.den_again (d := 6) (tm' := [(0, .v (.slice pa 0 ca)), (6, .v (.map (some w1.heap.size)))]) (rows2 := []) (K := []) hden (by decide) (fun p hp => ?_) rfl (fun p hp => by cases hp) (fun p hp => by cases hp) rfl rfl)
      simp only [List.mem_cons, List.not_mem_nil, or_false] at hp
      rcases hp with rfl | rfl
      · exact .inr ⟨(show (0 : Nat) ≠ 6 by decide), rfl, fun r hr => by cases hr⟩
      · exact .inl ⟨rfl, rfl, rfl⟩
  · obtain ⟨hf, hm, hM⟩ := hy
    refine At.finR rfl [] trivial [.u, .d] (rows2 := [(2002, scX (.v nilS) y.2 [] true)]) (x := ptrTo 2002) (ob := []) (by kernel_rfl) trivial fun ρ' w' hf2 he _ hq => ?_
    obtain ⟨h1, _, h3⟩ := hq _ (List.mem_singleton.2 rfl)
    have hB : w.heap.size ≤ (ρ' 2002).1 := Nat.le_trans hf.size ((h3 rfl).resolve_right (by simp))
    refine ⟨⟨ρ' 2002, y.2, ρ' 2002⟩, rfl, hf.comp hf2 (fun y hy => by cases hy), hB, hB, hm, 0, ?_, ?_, fun h => absurd rfl h⟩
    · exact hM.keep (hf2.block y.2 hM.lt (by simp))
    · exact scX_mv h1 rfl rfl
end
end Go.Proofs.Ytlofoeapfmcolaa
/- The scanner's methods over what it holds; Find. Its condition: lengths that fit. -/
namespace Go.Proofs.Ytlofoeapfmcolaa
open Go Go.RowKit
set_option linter.unusedVariables false
set_option linter.unusedSimpArgs false
section
open E
/-- Stands a window in a text? -/
def winB (T q : List UInt8) : Bool := (List.finRange (T.length - 31)).any fun k => q == wnd T k.1
theorem winB_iff (T q : List UInt8) : winB T q = true ↔ winP T q := by
  unfold winB winP
  rw [List.any_eq_true]
  constructor
  · rintro ⟨k, _, hk⟩
    exact ⟨k.1, by have := k.2; omega, (eq_of_beq hk).symm⟩
  · rintro ⟨k, h1, h2⟩
    exact ⟨⟨k, by omega⟩, List.mem_finRange _, by rw [show wnd T k = q from h2]; exact BEq.rfl⟩
/-- The set of a scanner that was fed a text. -/
def stS (L : Wl) (T : List UInt8) : List UInt8 → Bool := fun q => newS L q && !winB T q
theorem lk_all (S : List UInt8 → Bool) (s : List UInt8) : lkS S s (List.finRange (s.length - 31)) = fun q => S q && !winB s q := by
  funext q
  unfold lkS winB
  congr 1
  rw [List.not_any_eq_all_not]
theorem st_nil (L : Wl) : stS L [] = newS L := by
  funext q
  unfold stS winB
  simp
theorem st_feed (L : Wl) (T s : List UInt8) : fdS (stS L T) (endL T) s = stS L (T ++ s) := by
  funext q
  show lkS (lkS (stS L T) (endL T ++ s.take 31) (List.finRange ((endL T ++ s.take 31).length - 31))) s (List.finRange (s.length - 31)) q = _
  rw [lk_all, lk_all]
  unfold stS
  have h := win_feed T s q
  rw [← winB_iff, ← winB_iff, ← winB_iff, ← winB_iff] at h
  cases h1 : winB T q <;> cases h2 : winB (endL T ++ s.take 31) q <;> cases h3 : winB s q <;> cases h4 : winB (T ++ s) q <;> simp [h1, h2, h3, h4] at h ⊢
theorem new_has {ps : List (List UInt8)} {n : Nat} {x : List UInt8 × Nat} (h : x ∈ newN ps n) : mayP x.1 = true ∧ ps.getD x.2 [] = x.1 ∧ x.2 < n := by
  unfold newN at h
  obtain ⟨k, hk, he⟩ := List.mem_filterMap.1 h
  split at he
  · cases he
    exact ⟨by assumption, rfl, List.mem_range.1 hk⟩
  · cases he
theorem find_found (ps : List (List UInt8)) (T : List UInt8) : foundL (stS (newN ps ps.length) T) (newN ps ps.length) = findL T ps := by
  have key : ∀ x ∈ newN ps ps.length, (!stS (newN ps ps.length) T x.1) = !(placesL T (ps.getD x.2 [])).isEmpty := by
    intro x hx
    obtain ⟨h1, h2, _⟩ := new_has hx
    have h3 : newS (newN ps ps.length) x.1 = true := List.any_eq_true.2 ⟨x, hx, BEq.rfl⟩
    unfold stS
    rw [h3, Bool.true_and, Bool.not_not, h2, Bool.eq_iff_iff, winB_iff, Bool.not_eq_true', find_iff]
    unfold winP occP
    rw [may_len h1]
    constructor
    · exact fun h => ⟨h1, h⟩
    · exact fun h => h.2
  unfold foundL
  rw [List.filter_congr key]
  clear key
  unfold findL newN
  generalize ps.length = n
  have : ∀ (l : List Nat) (g : Nat → Bool), (∀ k, g k = true → mayP (ps.getD k []) = true) → List.map (fun x : List UInt8 × Nat => x.2) (List.filter (fun x => g x.2) (List.filterMap (fun k => if mayP (ps.getD k []) = true then some (ps.getD k [], k) else none) l)) = l.filter g := by
    intro l g hg
    induction l with
    | nil => rfl
    | cons k l ih =>
      rw [List.filterMap_cons]
      by_cases hm : mayP (ps.getD k []) = true
      · rw [if_pos hm]
        simp only
        cases hk : g k with
        | true => rw [List.filter_cons_of_pos (by exact hk), List.filter_cons_of_pos hk, List.map_cons, ih]
        | false => rw [List.filter_cons_of_neg (by rw [hk]; simp), List.filter_cons_of_neg (by rw [hk]; simp), ih]
      · rw [if_neg hm]
        simp only
        have hk : g k = false := by
          cases h : g k with
          | false => rfl
          | true => exact absurd (hg k h) hm
        rw [List.filter_cons_of_neg (by rw [hk]; simp), ih]
  exact this (List.range n) (fun k => !(placesL T (ps.getD k [])).isEmpty) fun k hk => by
    rw [Bool.not_eq_true'] at hk
    exact ((find_iff _ _).1 hk).1
abbrev boxV (x : SB) : Value := .pointer (some ⟨x.B.1, x.B.2, none⟩)
theorem pvK_one (k : Nat) (ρ : Env) : ((pvK k).val ρ).oneCell' = true := by cases k <;> rfl
theorem sc_ne {W : World} {x : SB} {L : Wl} {S : List UInt8 → Bool} {lv : List UInt8} (h : Sc W x L S lv) : x.mb ≠ x.B.1 ∧ (L ≠ [] → x.mb ≠ x.C.1 ∧ x.C.1 ≠ x.B.1) := by
  obtain ⟨n, h1, h2, h3⟩ := h
  obtain ⟨D, ⟨es, c, hm, _⟩, _⟩ := h1
  refine ⟨fun he => ?_, fun hL => ⟨fun he => ?_, (h3 hL).1⟩⟩
  · obtain ⟨cur, t, fz, hcur⟩ := h2.2.2.2
    rw [show (enS x 2).1 = x.mb from he.symm, hm] at hcur; cases hcur
  · obtain ⟨cur, t, fz, hcur⟩ := (h3 hL).2.2.2.2
    rw [show (enS x 6).1 = x.mb from he.symm, hm] at hcur; cases hcur
/-- A scanner stays in memory. -/
theorem Sc.keep {W W' : World} {x : SB} {L : Wl} {S : List UInt8 → Bool} {lv : List UInt8} (h : Sc W x L S lv) {l : List Nat} (hf : Fr W l W') (h1 : x.mb ∉ l) (h2 : x.B.1 ∉ l) (h3 : x.C.1 ∉ l) : Sc W' x L S lv := by
  obtain ⟨n, g1, g2, g3⟩ := h
  exact ⟨n, g1.keep (hf.block _ g1.lt h1), rowAt_fr g2 hf h2, fun hL => ⟨(g3 hL).1, rowAt_fr (g3 hL).2 hf h3⟩⟩
theorem sc_lt {W : World} {x : SB} {L : Wl} {S : List UInt8 → Bool} {lv : List UInt8} (h : Sc W x L S lv) : x.mb < W.heap.size ∧ x.B.1 < W.heap.size := by
  obtain ⟨n, g1, g2, g3⟩ := h
  exact ⟨g1.lt, g2.1⟩
theorem feed_sc {W : World} {x : SB} {L : Wl} {S : List UInt8 → Bool} {lv : List UInt8} (s : List UInt8) (h : Sc W x L S lv) (hs : s.length ≤ 1000000) (hlv : lv.length ≤ 31) :
    Calls Try.prog 21 #[boxV x, stv s] W fun e w' => e = .returned (.tuple #[]) ∧ Fr W [x.mb, x.B.1] w' ∧ Sc w' x L (fdS S lv s) (endL (lv ++ endL s)) := by
  have hne := sc_ne h
  obtain ⟨n, g1, g2, g3⟩ := h
  have h0 : RowAt (fun _ => x.B) 0 (scR ((pvK L.length).val (enS x)) x.mb lv true) W := scX_mv g2 rfl rfl
  refine (feed_any s lv ((pvK L.length).val (enS x)) (pvK_one _ _) x.mb n S hs hlv W (fun _ => x.B) h0 g1).mono ?_
  rintro e w' ⟨rfl, hf, hr, hM⟩
  refine ⟨rfl, hf, n, hM, scX_mv hr rfl rfl, fun hL => ⟨(g3 hL).1, rowAt_fr (g3 hL).2 hf ?_⟩⟩
  intro hm
  simp only [List.mem_cons, List.not_mem_nil, or_false] at hm
  rcases hm with hm | hm
  · exact (hne.2 hL).1 hm.symm
  · exact (hne.2 hL).2 hm
theorem found_sc {W : World} {x : SB} {L : Wl} {S : List UInt8 → Bool} {lv : List UInt8} (h : Sc W x L S lv) (hL : L.length ≤ 1000000) (hp : ∀ y ∈ L, y.1.length ≤ 1000000) : Calls Try.prog 22 #[boxV x] W (IOut W (foundL S L)) := by
  obtain ⟨n, g1, g2, g3⟩ := h
  have hro : ∀ {ρ : Env} {r : Nat} {ps : List Pc} {cp : Option (TypeId × Nat)}, RowAt ρ r ⟨ps, true, cp⟩ W → RowAt ρ r ⟨ps, false, none⟩ W := fun hrow => by
    obtain ⟨k1, k2, _, k4⟩ := hrow
    exact ⟨k1, fun j v hv => ⟨(k2 j v hv).1, fun h => by cases h⟩, (fun e k he => by cases he), k4⟩
  cases L with
  | nil => exact found_nil x.mb lv W (fun _ => x.B) (hro (scX_mv g2 rfl rfl))
  | cons y L => exact found_pos (y :: L) hL hp x.mb n S lv W (fun r => bif Nat.beq r 0 then x.B else x.C) g1 (hro (scX_mv g2 rfl rfl)) (hro (rowAt_mv (g3 (by simp)).2 rfl))
theorem ent12 : Enters Try.prog 12 := enters_of Try.func12 (by kernel_rfl) rfl
/-- Found of a scanner that was fed a text. -/
theorem found_st {W : World} {x : SB} {ps : List (List UInt8)} {T : List UInt8} (h : Sc W x (newN ps ps.length) (stS (newN ps ps.length) T) (endL T)) (hps : ps.length ≤ 1000000) (hp : ∀ p ∈ ps, p.length ≤ 1000000) : Calls Try.prog 22 #[boxV x] W (IOut W (findL T ps)) := by
  rw [← find_found]
  refine found_sc h (Nat.le_trans (newN_len _ _) hps) fun y hy => ?_
  obtain ⟨h1, _, _⟩ := new_has hy
  rw [may_len h1]; decide
theorem feed_st {W : World} {x : SB} {L : Wl} {T : List UInt8} (s : List UInt8) (h : Sc W x L (stS L T) (endL T)) (hs : s.length ≤ 1000000) :
    Calls Try.prog 21 #[boxV x, stv s] W fun e w' => e = .returned (.tuple #[]) ∧ Fr W [x.mb, x.B.1] w' ∧ Sc w' x L (stS L (T ++ s)) (endL (T ++ s)) := by
  have := feed_sc s h hs (endL_len T)
  rw [st_feed, endL_app] at this
  exact this
/-- What New tells, of a scanner that was fed nothing. -/
theorem new_st {w w' : World} {ps : List (List UInt8)} {e : Ending} (h : NewOut w ps e w') : ∃ x : SB, e = .returned (boxV x) ∧ Fr w [] w' ∧ w.heap.size ≤ x.B.1 ∧ w.heap.size ≤ x.C.1 ∧ w.heap.size ≤ x.mb ∧ Sc w' x (newN ps ps.length) (stS (newN ps ps.length) []) (endL []) := by
  obtain ⟨x, h1, h2, h3, h4, h5, h6⟩ := h
  rw [← st_nil] at h6
  exact ⟨x, h1, h2, h3, h4, h5, h6⟩
/-- The row of a pointer of which nothing is known. -/
theorem noR_of {ρ σ : Env} {r q : Nat} {row : Row} {w : World} (h : RowAt ρ r row w) (e : σ q = ρ r) : RowAt σ q noR w := by
  obtain ⟨k1, _, _, k4⟩ := h
  unfold RowAt
  rw [e]
  exact ⟨k1, (fun j v hv => by cases hv), (fun e k he => by cases he), k4⟩
end
end Go.Proofs.Ytlofoeapfmcolaa
/- Find, and Found by its contract in the world of a run. Its condition: lengths that fit. -/
namespace Go.Proofs.Ytlofoeapfmcolaa
open Go Go.RowKit
set_option linter.unusedVariables false
set_option linter.unusedSimpArgs false
section
open E
abbrev hJ0 (f : Nat) (args : Env → Array Value) : Hint := .callW ⟨f, args, .s (.lf (.v nilS)), [], [], none, []⟩
abbrev hJ1 (f : Nat) (args : Env → Array Value) (id : Nat) (l : List Nat) : Hint := .callW ⟨f, args, .s (.lf (.sl id 0 0 1 l.length none)), [], [], some (inR l l.length), []⟩
theorem hJ0_of {w0 : World} {wr : Bs} {f id : Nat} {args : Env → Array Value} (he : Enters Try.prog f) (h : ∀ (w : World) (ρ : Env), KeepsOthers w0 w → Fr w0 wr.l w → (∀ r, (r < 1000 ∨ r ∈ wr.k) → ρ r = wr.e r) → Calls Try.prog f (args ρ) w (IOut w [])) : HintAt Try.prog w0 wr id (hJ0 f args) := fun w ρ h1 h2 h3 => by
  refine callAt_ok (res := .s (.lf (.v nilS))) he rfl (fun p hp => by cases hp) ρ w fun _ => (h w ρ h1 h2 h3).mono ?_
  rintro e w' ⟨hf, ⟨_, rfl⟩ | ⟨h1, _⟩⟩
  · exact ⟨⟨0, 0, 0⟩, rfl, hf, (fun p hp => by cases hp), fun row hrw => by cases hrw⟩
  · exact absurd rfl h1
theorem hJ1_of {w0 : World} {wr : Bs} {f id : Nat} {args : Env → Array Value} {l : List Nat} (hl : l ≠ []) (he : Enters Try.prog f) (h : ∀ (w : World) (ρ : Env), KeepsOthers w0 w → Fr w0 wr.l w → (∀ r, (r < 1000 ∨ r ∈ wr.k) → ρ r = wr.e r) → Calls Try.prog f (args ρ) w (IOut w l)) : HintAt Try.prog w0 wr id (hJ1 f args id l) := fun w ρ h1 h2 h3 => by
  refine callAt_ok (res := .s (.lf (.sl id 0 0 1 l.length none))) (made := some (inR l l.length)) he trivial (fun p hp => by cases hp) ρ w fun _ => (h w ρ h1 h2 h3).mono ?_
  rintro e w' ⟨hf, ⟨h1, _⟩ | ⟨_, B, rfl, h0, hb, hrow⟩⟩
  · exact absurd h1 hl
  · refine ⟨B, ?_, hf, (fun p hp => by cases hp), fun row hrw => ?_⟩
    · show _ = Ending.returned (.slice (some ⟨(setE ρ id B id).1, (setE ρ id B id).2 + (0 + 0 * 1), none⟩) l.length ((setE ρ id B id).3 - 0))
      rw [setE_same, h0]; rfl
    · cases hrw
      exact ⟨hb, rowAt_mv hrow (setE_same ρ id B), inR_ok _ _⟩
/-- Found of a scanner that lies where a row does. -/
theorem found_at {w0 : World} {wr : Bs} {r : Nat} {x : SB} {ps : List (List UInt8)} {T : List UInt8} (h : Sc w0 x (newN ps ps.length) (stS (newN ps ps.length) T) (endL T)) (hps : ps.length ≤ 1000000) (hp : ∀ p ∈ ps, p.length ≤ 1000000)
    (hr : r < 1000) (he : wr.e r = x.B) (h1 : x.mb ∉ wr.l) (h2 : x.B.1 ∉ wr.l) (h3 : x.C.1 ∉ wr.l) (w : World) (ρ : Env) (hf : Fr w0 wr.l w) (h0 : ∀ r, (r < 1000 ∨ r ∈ wr.k) → ρ r = wr.e r) : Calls Try.prog 22 #[(ptrTo r).val ρ] w (IOut w (findL T ps)) := by
  have e : ρ r = x.B := (h0 r (.inl hr)).trans he
  have hv : (ptrTo r).val ρ = boxV x := by
    show Value.pointer (some ⟨(ρ r).1, (ρ r).2 + (0 + 0 * 0 + 0), none⟩) = _
    rw [e]; rfl
  rw [hv]
  exact found_st (h.keep hf h1 h2 h3) hps hp
abbrev hFo0 (r : Nat) : Hint := hJ0 22 fun ρ => #[(ptrTo r).val ρ]
abbrev hFo1 (r id : Nat) (l : List Nat) : Hint := hJ1 22 (fun ρ => #[(ptrTo r).val ρ]) id l
theorem hFo0_ok {w0 : World} {wr : Bs} {id r : Nat} {x : SB} {ps : List (List UInt8)} {T : List UInt8} (h : Sc w0 x (newN ps ps.length) (stS (newN ps ps.length) T) (endL T)) (hps : ps.length ≤ 1000000) (hp : ∀ p ∈ ps, p.length ≤ 1000000)
    (hr : r < 1000) (he : wr.e r = x.B) (h1 : x.mb ∉ wr.l) (h2 : x.B.1 ∉ wr.l) (h3 : x.C.1 ∉ wr.l) (hl : findL T ps = []) : HintAt Try.prog w0 wr id (hFo0 r) := hJ0_of ent22 fun w ρ _ hf h0 => by
  rw [← hl]
  exact found_at h hps hp hr he h1 h2 h3 w ρ hf h0
theorem hFo1_ok {w0 : World} {wr : Bs} {id r : Nat} {x : SB} {ps : List (List UInt8)} {T : List UInt8} (h : Sc w0 x (newN ps ps.length) (stS (newN ps ps.length) T) (endL T)) (hps : ps.length ≤ 1000000) (hp : ∀ p ∈ ps, p.length ≤ 1000000)
    (hr : r < 1000) (he : wr.e r = x.B) (h1 : x.mb ∉ wr.l) (h2 : x.B.1 ∉ wr.l) (h3 : x.C.1 ∉ wr.l) (hl : findL T ps ≠ []) : HintAt Try.prog w0 wr id (hFo1 r id (findL T ps)) := hJ1_of hl ent22 fun w ρ _ hf h0 => found_at h hps hp hr he h1 h2 h3 w ρ hf h0
/-- A call of New at its place in a region; the scanner's box is row 2 from then on. -/
abbrev fiE (b1 : Blk) (x : SB) : Env := fun r => bif Nat.beq r 2 then x.B else b1
set_option maxRecDepth 100000 in
/-- Find from behind New. -/
theorem find_tail (s : List UInt8) (ps : List (List UInt8)) (hs : s.length ≤ 1000000) (hps : ps.length ≤ 1000000) (hp : ∀ p ∈ ps, p.length ≤ 1000000) (W0 W : World) (x : SB) (b1 : Blk) (hf0 : Fr W0 [] W) (hB : W0.heap.size ≤ x.B.1) (hm : W0.heap.size ≤ x.mb) (h : Sc W x (newN ps ps.length) (stS (newN ps ps.length) []) (endL [])) :
    At Try.prog W ⟨[], fiE b1 x, []⟩ Try.f12.ntmps [] (rp Try.f12 2) (EndX Try.prog Try.f12 (IOut W0 (findL s ps))) [(0, .v (stv s)), (5, ptrTo 2)] [(2, noR)] := by
  refine At.opX (α := World) 2 10 [] trivial (fun y => y) (fun _ => ⟨[], fiE b1 x, []⟩) (fun _ => [(5, ptrTo 2)]) (fun _ => [(5, ptrTo 2)]) (fun _ => [(2, noR)]) (fun _ => [(2, noR)]) (fun y => Fr W [x.mb, x.B.1] y ∧ Sc y x (newN ps ps.length) (stS (newN ps ps.length) s) (endL s)) rfl
    (tm1 := [(5, ptrTo 2), (8, ptrTo 2), (9, .v (stv s))]) (rows1 := [(2, noR)]) (o1 := []) (o2 := fun _ => []) (by kernel_rfl) trivial rfl ?_ (fun y _ => by kernel_rfl) (fun y _ => trivial) (fun y => rfl) (fun y hy => ?_)
  · intro a' w ρ K QQ hden hk
    have e0 : ρ 2 = x.B := hden.e0 2 (.inl (by decide))
    have hSw := h.keep (l := []) hden.fr (by simp) (by simp) (by simp)
    have hv : (ptrTo 2).val ρ = boxV x := by
      show Value.pointer (some ⟨(ρ 2).1, (ρ 2).2 + (0 + 0 * 0 + 0), none⟩) = _
      rw [e0]; rfl
    have hc := feed_st s hSw hs
    rw [List.nil_append, ← hv] at hc
    refine xCall_ok (d := 10) (f := 21) (vs := [ptrTo 2, .v (stv s)]) (by kernel_rfl) hden ent21 (hc.mono ?_)
    rintro e w' ⟨rfl, hF, hS2⟩
    have hr2 := (hden.rw 2 _ rfl).1
    refine ⟨_, rfl, hk w' _ w' (fiE b1 x) ⟨hden.fr.widen (fun y hy => by cases hy) |>.comp hF fun y hy => .inl hy, hS2⟩ (E.den_again (d := 10) (tm' := [(5, ptrTo 2)]) (rows2 := [(2, noR)]) (K := []) hden (by decide) (fun p hp => ?_) rfl (fun p hp => ?_) (fun p hp q hq hpq hw => ?_) rfl rfl)⟩
    · obtain rfl := List.mem_singleton.1 hp
      exact .inr ⟨(show (5 : Nat) ≠ 10 by decide), rfl, fun r hr => by obtain rfl := List.mem_singleton.1 hr; exact e0.symm⟩
    · obtain rfl := List.mem_singleton.1 hp
      obtain ⟨n, _, g2, _⟩ := hS2
      exact ⟨noR_of (q := 2) g2 rfl, fun p hp => by cases hp⟩
    · obtain rfl := List.mem_singleton.1 hp
      cases hw
  · obtain ⟨hf1, hS⟩ := hy
    have hfr : Fr W0 [] y := hf0.comp hf1 fun b hb => by
      simp only [List.mem_cons, List.not_mem_nil, or_false] at hb
      rcases hb with rfl | rfl
      · exact .inr hm
      · exact .inr hB
    refine At.run rfl [(2004001, .val (.tup []))] ⟨trivial, trivial⟩ [] (tm2 := [(5, ptrTo 2)]) (rows2 := [(2, noR)]) (ob := []) (td := rp Try.f12 3) (by kernel_rfl) trivial rfl rfl (by intro h; cases h) ?_
    by_cases hl : findL s ps = []
    · exact At.fin rfl [(4001, hFo0 2)] ⟨hFo0_ok hS hps hp (by decide) rfl (by simp) (by simp) (by simp) hl, trivial⟩ [] (x := .v nilS) (ob := qL (hFo0 2)) (by kernel_rfl) (all_qL _) fun ρ' w' hf _ => ⟨hfr.comp hf (fun b hb => by cases hb), .inl ⟨hl, rfl⟩⟩
    · have hk := hFo1_ok (id := 4001) (r := 2) (wr := ⟨[], fiE b1 x, []⟩) hS hps hp (by decide) rfl (by simp) (by simp) (by simp) hl
      generalize findL s ps = l at hl hk
      obtain ⟨n, hn⟩ : ∃ n, l.length = n + 1 := ⟨l.length - 1, by have := List.length_pos_iff.2 hl; omega⟩
      refine At.finR rfl [(4001, hFo1 2 4001 l)] ⟨hk, trivial⟩ [] (rows2 := [(4001, inR l l.length)]) (x := .s (.lf (.sl 4001 0 0 1 l.length none))) (ob := qL (hFo1 2 4001 l)) (by kernel_rfl) (all_qL _) fun ρ' w' hf he _ hq => ?_
      obtain ⟨g1, _, g3⟩ := hq _ (List.mem_singleton.2 rfl)
      rw [hn] at g1 ⊢
      exact iout_row (hfr.comp hf (fun b hb => by cases hb)) g1 hn.symm (Nat.le_trans hfr.size ((g3 rfl).resolve_right (by simp)))
set_option maxRecDepth 100000 in
theorem find_pos (s : List UInt8) (ps : List (List UInt8)) (hs : s.length ≤ 1000000) (hps : ps.length ≤ 1000000) (hp : ∀ p ∈ ps, p.length ≤ 1000000) (W0 : World) (ρ : Env) (h1 : RowAt ρ 1 (strR ps) W0) : Calls Try.prog 12 #[stv s, (TV.s (.lf (.sl 1 0 0 1 ps.length none))).val ρ] W0 (IOut W0 (findL s ps)) := by
  refine At.calls (args := [.v (stv s), .s (.lf (.sl 1 0 0 1 ps.length none))]) (rows := [(1, strR ps)]) (gl := []) (wr := []) (ρ := ρ) Try.func12 rfl rfl (init_rw ⟨rfl, trivial, trivial⟩ rfl rfl rfl (fun p hp => by obtain rfl := List.mem_singleton.1 hp; exact ⟨h1, strR_ok ps⟩) (fun p hp hw => by obtain rfl := List.mem_singleton.1 hp; cases hw) (fun p hp q hq hpq hw => by obtain rfl := List.mem_singleton.1 hp; cases hw)) rfl ?_
  refine At.run rfl [(2002001, .val (.tup []))] ⟨trivial, trivial⟩ [] (tm2 := [(0, .v (stv s)), (1, .s (.lf (.sl 1 0 0 1 ps.length none)))]) (rows2 := [(1, strR ps)]) (ob := []) (td := rp Try.f12 1) (by kernel_rfl) trivial rfl rfl (by intro h; cases h) ?_
  refine At.opX (α := World × SB) 1 7 [] trivial (fun y => y.1) (fun y => ⟨[], fiE ⟨0, 0, 0⟩ y.2, []⟩) (fun _ => [(0, .v (stv s)), (7, ptrTo 2)]) (fun _ => [(0, .v (stv s)), (5, ptrTo 2)]) (fun _ => [(2, noR)]) (fun _ => [(2, noR)]) (fun y => Fr W0 [] y.1 ∧ W0.heap.size ≤ y.2.B.1 ∧ W0.heap.size ≤ y.2.mb ∧ Sc y.1 y.2 (newN ps ps.length) (stS (newN ps ps.length) []) (endL [])) rfl
    (tm1 := [(0, .v (stv s)), (6, .s (.lf (.sl 1 0 0 1 ps.length none)))]) (rows1 := [(1, strR ps)]) (o1 := []) (o2 := fun _ => []) (by kernel_rfl) trivial rfl ?_ (fun y _ => by kernel_rfl) (fun y _ => trivial) (fun y => rfl) (fun y hy => ?_)
  · intro a' w ρ' K QQ hden hk
    refine xCall_ok (d := 7) (f := 20) (vs := [.s (.lf (.sl 1 0 0 1 ps.length none))]) (by kernel_rfl) hden ent20 ((new_pos ps hps hp w ρ' (hden.rw 1 _ rfl).1).mono ?_)
    intro e w' hN
    obtain ⟨x, rfl, hF, g1, g2, g3, g4⟩ := new_st hN
    have hge := hden.fr.size
    refine ⟨_, rfl, hk (w', x) _ w' (fiE ⟨0, 0, 0⟩ x) ⟨hden.fr.comp hF (fun y hy => by cases hy), Nat.le_trans hge g1, Nat.le_trans hge g3, g4⟩ (E.den_again (d := 7) (tm' := [(0, .v (stv s)), (7, ptrTo 2)]) (rows2 := [(2, noR)]) (K := []) hden (by decide) (fun p hp => ?_) rfl (fun p hp => ?_) (fun p hp q hq hpq hw => ?_) rfl rfl)⟩
    · simp only [List.mem_cons, List.not_mem_nil, or_false] at hp
      rcases hp with rfl | rfl
      · exact .inr ⟨(show (0 : Nat) ≠ 7 by decide), rfl, fun r hr => by cases hr⟩
      · exact .inl ⟨rfl, rfl, trivial⟩
    · obtain rfl := List.mem_singleton.1 hp
      obtain ⟨n, _, g2, _⟩ := g4
      exact ⟨noR_of (q := 2) g2 rfl, fun p hp => by cases hp⟩
    · obtain rfl := List.mem_singleton.1 hp
      cases hw
  · obtain ⟨hf, g1, g2, g3⟩ := hy
    refine At.run rfl [(2003000, .val (.tup []))] ⟨trivial, trivial⟩ [] (tm2 := [(0, .v (stv s)), (5, ptrTo 2)]) (rows2 := [(2, noR)]) (ob := []) (td := rp Try.f12 2) (by kernel_rfl) trivial rfl rfl (by intro h; cases h) ?_
    exact find_tail s ps hs (by exact hps) (by exact hp) W0 y.1 y.2 ⟨0, 0, 0⟩ hf g1 g2 g3
set_option maxRecDepth 100000 in
theorem find_nil (s : List UInt8) (pa : Option Addr) (ca : Nat) (hs : s.length ≤ 1000000) (W0 : World) : Calls Try.prog 12 #[stv s, .slice pa 0 ca] W0 (IOut W0 (findL s ([] : List (List UInt8)))) := by
  refine At.calls (args := [.v (stv s), .v (.slice pa 0 ca)]) (rows := []) (gl := []) (wr := []) (ρ := fun _ => (⟨0, 0, 0⟩ : Blk)) Try.func12 rfl rfl (init_rw ⟨rfl, rfl, trivial⟩ rfl rfl rfl (fun p hp => by cases hp) (fun p hp => by cases hp) (fun p hp => by cases hp)) rfl ?_
  refine At.run rfl [(2002001, .val (.tup []))] ⟨trivial, trivial⟩ [] (tm2 := [(0, .v (stv s)), (1, .v (.slice pa 0 ca))]) (rows2 := []) (ob := []) (td := rp Try.f12 1) (by kernel_rfl) trivial rfl rfl (by intro h; cases h) ?_
  refine At.opX (α := World × SB) 1 7 [] trivial (fun y => y.1) (fun y => ⟨[], fiE ⟨0, 0, 0⟩ y.2, []⟩) (fun _ => [(0, .v (stv s)), (7, ptrTo 2)]) (fun _ => [(0, .v (stv s)), (5, ptrTo 2)]) (fun _ => [(2, noR)]) (fun _ => [(2, noR)]) (fun y => Fr W0 [] y.1 ∧ W0.heap.size ≤ y.2.B.1 ∧ W0.heap.size ≤ y.2.mb ∧ Sc y.1 y.2 (newN ([] : List (List UInt8)) ([] : List (List UInt8)).length) (stS (newN ([] : List (List UInt8)) ([] : List (List UInt8)).length) []) (endL [])) rfl
    (tm1 := [(0, .v (stv s)), (6, .v (.slice pa 0 ca))]) (rows1 := []) (o1 := []) (o2 := fun _ => []) (by kernel_rfl) trivial rfl ?_ (fun y _ => by kernel_rfl) (fun y _ => trivial) (fun y => rfl) (fun y hy => ?_)
  · intro a' w ρ' K QQ hden hk
    refine xCall_ok (d := 7) (f := 20) (vs := [.v (.slice pa 0 ca)]) (by kernel_rfl) hden ent20 ((new_nil pa ca w).mono ?_)
    intro e w' hN
    obtain ⟨x, rfl, hF, g1, g2, g3, g4⟩ := new_st hN
    have hge := hden.fr.size
    refine ⟨_, rfl, hk (w', x) _ w' (fiE ⟨0, 0, 0⟩ x) ⟨hden.fr.comp hF (fun y hy => by cases hy), Nat.le_trans hge g1, Nat.le_trans hge g3, g4⟩ (E.den_again (d := 7) (tm' := [(0, .v (stv s)), (7, ptrTo 2)]) (rows2 := [(2, noR)]) (K := []) hden (by decide) (fun p hp => ?_) rfl (fun p hp => ?_) (fun p hp q hq hpq hw => ?_) rfl rfl)⟩
    · simp only [List.mem_cons, List.not_mem_nil, or_false] at hp
      rcases hp with rfl | rfl
      · exact .inr ⟨(show (0 : Nat) ≠ 7 by decide), rfl, fun r hr => by cases hr⟩
      · exact .inl ⟨rfl, rfl, trivial⟩
    · obtain rfl := List.mem_singleton.1 hp
      obtain ⟨n, _, g2, _⟩ := g4
      exact ⟨noR_of (q := 2) g2 rfl, fun p hp => by cases hp⟩
    · obtain rfl := List.mem_singleton.1 hp
      cases hw
  · obtain ⟨hf, g1, g2, g3⟩ := hy
    refine At.run rfl [(2003000, .val (.tup []))] ⟨trivial, trivial⟩ [] (tm2 := [(0, .v (stv s)), (5, ptrTo 2)]) (rows2 := [(2, noR)]) (ob := []) (td := rp Try.f12 2) (by kernel_rfl) trivial rfl rfl (by intro h; cases h) ?_
    exact find_tail s ([] : List (List UInt8)) hs (by decide) (by intro p hp; cases hp) W0 y.1 y.2 ⟨0, 0, 0⟩ hf g1 g2 g3
end
end Go.Proofs.Ytlofoeapfmcolaa
