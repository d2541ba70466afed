/- Several texts, one behind the other; each says by itself what it proves, and on what conditions. -/
import Derived.Test.YtlofoeapfmcolaaX20
import Derived.Deep.Slices
import Derived.ProofKit
import Derived.OpenShut
import Derived.ChangeOld
import Derived.SizedLaws
import Derived.ChangeSlices
/- Within a region: operations run, one by its own contract, told anew, and so on, as often as wanted. No condition. -/
namespace Go.Proofs.Ytlofoeapfmcolaa
open Go Go.RowKit
set_option linter.unusedVariables false
set_option linter.unusedSimpArgs false
section
open E
/-- The same, by other numbers of rows. -/
theorem E.den_again2 {w0 : World} {wr : Bs} {ρ σ : Env} {n : Nat} {tm tm' : List (Nat × TV)} {rows rows2 : List (Nat × Row)} {a : Act} {w w' : World} {d : Nat} {v : Value} {K : List Nat} (hd : Den w0 wr ρ (mkSt n tm rows []) a w) (hdn : d < n)
    (h : ∀ p ∈ tm', (p.1 = d ∧ v = p.2.val σ ∧ p.2.ok) ∨ (p.1 ≠ d ∧ ∃ x, findT tm p.1 = some x ∧ p.2.val σ = x.val ρ ∧ p.2.ok)) (hi : idsOk tm' rows2 [] = true) (hr : ∀ p ∈ rows2, RowAt σ p.1 p.2 w' ∧ pok p.2.ps) (hds : ∀ p ∈ rows2, ∀ q ∈ rows2, p.1 ≠ q.1 → p.2.w = true → (σ p.1).1 ≠ (σ q.1).1) (hK : K.all (hasN (rows2.map (·.1))) = true) (hk5 : rows2.all (fun p => Nat.ble (p.1 + 1) 500 || Nat.ble 1000 p.1) = true) :
    Den w' ⟨wlOf σ rows2, σ, K⟩ σ (mkSt n tm' rows2 []) (a.put (some d) v) w' := by
  simp only [idsOk, Bool.and_eq_true, List.all_eq_true] at hi
  have hu : ∀ r, (mkSt n tm' rows2 []).used r = hasN (rows2.map (·.1)) r := fun r => by show hasN (rows2.map (·.1) ++ []) r = _; rw [List.append_nil]
  refine ⟨by rw [put_size]; exact hd.sz, by rw [put_defers]; exact hd.df, ⟨List.nodup_nil, fun D hD => by cases hD⟩, KeepsOthers.refl _, fun t x hx => ?_, fun r y hr2 => ?_, fun r q y z hr2 hq hrq hw => ?_, Fr.refl _ _, fun _ _ => rfl, fun r hr2 => ?_, fun g hg hug => ?_, fun r B h => by cases h⟩
  · rw [tm_put (s := mkSt n tm rows []) (fun x hx => by cases hx; rw [hd.sz]; exact hdn)]
    simp only
    have hm := findT_mem (show findT tm' t = some x from hx)
    rcases h _ hm with ⟨e1, e2, e3⟩ | ⟨e1, y, e2, e3, e4⟩
    · rw [if_pos e1]
      exact ⟨by rw [e2], e3, fun r hr2 => hi.1 _ hm r hr2⟩
    · rw [if_neg e1]
      obtain ⟨g1, g2, g3⟩ := hd.tm t y e2
      exact ⟨by rw [g1, ← e3], e4, fun r hr2 => hi.1 _ hm r hr2⟩
  · have hm := findR_mem (show findR rows2 r = some y from hr2)
    obtain ⟨g1, g2⟩ := hr _ hm
    exact ⟨g1, g2, by rw [hu]; exact hasN_iff.2 (List.mem_map.2 ⟨_, hm, rfl⟩), fun p hp => hi.2 _ hm p hp, fun hw => .inr (mem_wlOf hm hw)⟩
  · exact hds _ (findR_mem (show findR rows2 r = some y from hr2)) _ (findR_mem (show findR rows2 q = some z from hq)) hrq hw
  · rw [hu]; exact List.all_eq_true.1 hK r hr2
  · rw [hu] at hug
    obtain ⟨p, hp, he⟩ := List.mem_map.1 (hasN_iff.1 hug)
    have := List.all_eq_true.1 hk5 p hp
    rw [Bool.or_eq_true] at this
    rcases this with h5 | h5 <;> have := Nat.le_of_ble_eq_true h5 <;> omega
/-- To stand within a region that does not draw, ahead of its k-th operation. -/
def E.Mid (P : Program) (w0 : World) (wr : Bs) (n : Nat) (gl : List Nat) (todo : List Item) (Q : Exit → Act → World → Prop) (k : Nat) (tm : List (Nat × TV)) (rows : List (Nat × Row)) (r : Option Nat := none) (mk : List Nat := []) : Prop :=
  ∀ a w ρ, Den w0 wr ρ (mkSt n tm rows gl mk) a w → wpOpsIn (FW r) 5 P (hdOps todo) (fun e a w => e = .normal ∧ KX P r todo.tail Q a w) (List.range' k ((hdOps todo).size - k)) a w
/-- Into a region. -/
theorem E.At.reg {P : Program} {w0 : World} {wr : Bs} {n : Nat} {gl : List Nat} {todo : List Item} {Q : Exit → Act → World → Prop} {tm : List (Nat × TV)} {rows : List (Nat × Row)} {r : Option Nat} {mk : List Nat} (hr : isReg todo = true)
    (h : E.Mid P w0 wr n gl todo Q 0 tm rows r mk) : At P w0 wr n gl todo Q tm rows r mk := by
  rw [isReg_ok hr]
  intro a w ρ hd
  have h1 := h a w ρ hd
  generalize hdOps todo = ops at *
  generalize hdRid todo = rid at *
  refine KX.code (n := 5) (K := fun a w => KX P r todo.tail Q a w) (wpIn_region ?_) fun a w h => h
  rw [List.range_eq_range']
  exact h1
def mid (P : Program) (C : Hints) (ops : Array Oper) (base k m : Nat) (s : St) (ks rs : List Nat) : Option (List Prop × List (Option TV) × List (Option Row)) :=
  match runL P C ops base (List.replicate k ([], []) ++ recL P C ops base (m - k) k s) (m - k) k s with
  | some (o1, s1) => some (o1, ks.map s1.tmps, rs.map s1.row)
  | none => none
/-- Operations run. -/
theorem E.Mid.run {P : Program} {w0 : World} {wr : Bs} {n : Nat} {gl : List Nat} {todo : List Item} {Q : Exit → Act → World → Prop} {tm tm2 : List (Nat × TV)} {rows rows2 : List (Nat × Row)} {r : Option Nat} {mk : List Nat} {k : Nat} {ob : List Prop}
    (m : Nat) (cs : List (Nat × Hint)) (hC : allW P w0 wr cs)
    (h : mid P (findC cs) (hdOps todo) (1000 + hdRid todo * 1000) k m (mkSt n tm rows gl mk) (tm2.map (·.1)) (rows2.map (·.1)) = some (ob, tm2.map (fun p => some p.2), rows2.map fun p => some p.2)) (ho : all ob)
    (hs : (noDef (hdOps todo) && (Nat.ble m (hdOps todo).size && (Nat.ble k m && (gl.all (fun g => Nat.ble (g + 1) 500) && (idsOk tm2 rows2 gl && wr.k.all (hasN (rows2.map (·.1) ++ gl.map (500 + ·)))))))) = true)
    (hK : E.Mid P w0 wr n gl todo Q m tm2 rows2 r mk) : E.Mid P w0 wr n gl todo Q k tm rows r mk := by
  intro a w ρ hd
  simp only [Bool.and_eq_true] at hs
  obtain ⟨hnd, hms, hkm, hg, hi1, hk1⟩ := hs
  have hms := Nat.le_of_ble_eq_true hms
  have hkm := Nat.le_of_ble_eq_true hkm
  unfold mid at h
  split at h
  · rename_i p1 s1 hr1
    simp only [Option.some.injEq, Prod.mk.injEq] at h
    obtain ⟨rfl, e1, e2⟩ := h
    obtain ⟨k1, k2⟩ := runL_keep hr1
    rw [show List.range' k ((hdOps todo).size - k) = List.range' k (m - k) ++ List.range' m ((hdOps todo).size - m) by
      have := List.range'_append_1 (s := k) (m := m - k) (n := (hdOps todo).size - m)
      rw [show k + (m - k) = m by omega] at this
      rw [this]
      congr 1
      omega]
    refine wpOpsIn_append (K := fun a w => ∃ ρ, Den w0 wr ρ s1 a w) hnd (fun a w ⟨ρ, hd⟩ => ?_) _ a w (seq_ok (findW_ok hC) (fun a w ρ hd => ⟨rfl, ρ, hd⟩) _ _ _ _ _ _ _ hr1 ho hd)
    have hd1 := den_mk (gl := gl) hd e1 e2 (fun g hgm => ⟨Nat.le_of_ble_eq_true (List.all_eq_true.1 hg g hgm), k2 _ (hasN_iff.2 (List.mem_append.2 (.inr (List.mem_map.2 ⟨g, hgm, rfl⟩))))⟩) hi1 hk1
    rw [k1.1, k1.2] at hd1
    exact hK a w ρ hd1
  · cases h
/-- One operation by its own contract; behind it all is told anew. -/
theorem E.Mid.op {α : Type} {P : Program} {w0 : World} {wr : Bs} {n : Nat} {gl : List Nat} {todo : List Item} {Q : Exit → Act → World → Prop} {tm : List (Nat × TV)} {rows : List (Nat × Row)} {r : Option Nat} {mk : List Nat} {k : Nat}
    (d : Option Tmp) (w0' : α → World) (wr' : α → Bs) (tm2 : α → List (Nat × TV)) (rows2 : α → List (Nat × Row)) (I : α → Prop) (hs : Nat.ble (k + 1) (hdOps todo).size = true)
    (hop : ∀ a w ρ (K : Act → World → Prop) (QQ : Exit → Act → World → Prop), Den w0 wr ρ (mkSt n tm rows gl mk) a w → (∀ x v w' ρ', I x → Den (w0' x) (wr' x) ρ' (mkSt n (tm2 x) (rows2 x) gl mk) (a.put d v) w' → K (a.put d v) w') → wpOpIn (FW r) 5 P (hdOps todo) QQ k K a w)
    (hK : ∀ x, I x → E.Mid P (w0' x) (wr' x) n gl todo Q (k + 1) (tm2 x) (rows2 x) r mk) : E.Mid P w0 wr n gl todo Q k tm rows r mk := by
  intro a w ρ hd
  have hs := Nat.le_of_ble_eq_true hs
  rw [show List.range' k ((hdOps todo).size - k) = k :: List.range' (k + 1) ((hdOps todo).size - (k + 1)) by
    rw [← List.range'_succ]
    congr 1
    omega, wpOpsIn_cons]
  exact hop a w ρ _ _ hd fun x v w' ρ' hI hd2 => hK x hI _ _ ρ' hd2
/-- Out of a region. -/
theorem E.Mid.out {P : Program} {w0 : World} {wr : Bs} {n : Nat} {gl : List Nat} {todo : List Item} {Q : Exit → Act → World → Prop} {tm : List (Nat × TV)} {rows : List (Nat × Row)} {r : Option Nat} {mk : List Nat} {k : Nat} (hk : Nat.beq (hdOps todo).size k = true)
    (h : At P w0 wr n gl todo.tail Q tm rows r mk) : E.Mid P w0 wr n gl todo Q k tm rows r mk := by
  intro a w ρ hd
  rw [Nat.eq_of_beq_eq_true hk, Nat.sub_self]
  exact ⟨rfl, h a w ρ hd⟩
end
end Go.Proofs.Ytlofoeapfmcolaa
/- ScanCuts' law: however bytes are cut the same is found; two scanners apart. Its condition: lengths that fit. -/
namespace Go.Proofs.Ytlofoeapfmcolaa
open Go Go.RowKit
set_option linter.unusedVariables false
set_option linter.unusedSimpArgs false
section
open E
theorem ent5 : Enters Try.prog 5 := enters_of Try.func5 (by kernel_rfl) rfl
theorem Sc.keep2 {W W' : World} {x : SB} {L : Wl} {S : List UInt8 → Bool} {lv : List UInt8} (h : Sc W x L S lv) {l : List Nat} (hf : Fr W l W') (h1 : x.mb ∉ l) (h2 : x.B.1 ∉ l) (h3 : L ≠ [] → x.C.1 ∉ l) : Sc W' x L S lv := by
  obtain ⟨n, g1, g2, g3⟩ := h
  exact ⟨n, g1.keep (hf.block _ g1.lt h1), rowAt_fr g2 hf h2, fun hL => ⟨(g3 hL).1, rowAt_fr (g3 hL).2 hf (h3 hL)⟩⟩
theorem sc_noR {W : World} {x : SB} {L : Wl} {S : List UInt8 → Bool} {lv : List UInt8} (h : Sc W x L S lv) {σ : Env} {q : Nat} (e : σ q = x.B) : RowAt σ q noR W := by
  obtain ⟨n, g1, g2, g3⟩ := h
  exact noR_of g2 e
abbrev scT (W : World) (x : SB) (ps : List (List UInt8)) (T : List UInt8) : Prop := Sc W x (newN ps ps.length) (stS (newN ps ps.length) T) (endL T)
/-- Slots that stay, and name but the two boxes. -/
def tmOk (d : Nat) (tm : List (Nat × TV)) : List (Nat × TV) → Prop
  | [] => True
  | p :: l => (Nat.beq p.1 d = false ∧ findT tm p.1 = some p.2 ∧ (p.2.ids.all fun r => Nat.beq r 21 || Nat.beq r 22) = true) ∧ tmOk d tm l
theorem tmOk_mem {d : Nat} {tm : List (Nat × TV)} : ∀ {l : List (Nat × TV)}, tmOk d tm l → ∀ p ∈ l, p.1 ≠ d ∧ findT tm p.1 = some p.2 ∧ ∀ r ∈ p.2.ids, r = 21 ∨ r = 22
  | [], _, p, hp => by cases hp
  | q :: l, h, p, hp => by
    rcases List.mem_cons.1 hp with rfl | hp
    · obtain ⟨⟨h1, h2, h3⟩, _⟩ := h
      refine ⟨(fun e => by rw [e, Nat.beq_refl] at h1; cases h1), h2, fun r hr => ?_⟩
      have := List.all_eq_true.1 h3 r hr
      rw [Bool.or_eq_true] at this
      exact this.imp Nat.eq_of_beq_eq_true Nat.eq_of_beq_eq_true
    · exact tmOk_mem h.2 p hp
abbrev enXY (x y : SB) : Env := fun r => bif Nat.beq r 21 then x.B else y.B
abbrev R2 : List (Nat × Row) := [(21, noR), (22, noR)]
structure Two (W0 W : World) (x y : SB) (px py : List (List UInt8)) (Tx Ty : List UInt8) (N : Nat) : Prop where
  fr : Fr W0 [] W
  hx : scT W x px Tx
  hy : scT W y py Ty
  xB : W0.heap.size ≤ x.B.1
  xm : W0.heap.size ≤ x.mb
  xB2 : x.B.1 < N
  xm2 : x.mb < N
  xC2 : newN px px.length ≠ [] → x.C.1 < N
  yB : N ≤ y.B.1
  ym : N ≤ y.mb
  yC : N ≤ y.C.1
  hN : W0.heap.size ≤ N
theorem r2_ok {W : World} {x y : SB} {px py : List (List UInt8)} {Tx Ty : List UInt8} (hx : scT W x px Tx) (hy : scT W y py Ty) : ∀ p ∈ R2, RowAt (enXY x y) p.1 p.2 W ∧ pok p.2.ps := fun p hp => by
  simp only [List.mem_cons, List.not_mem_nil, or_false] at hp
  rcases hp with rfl | rfl
  · exact ⟨sc_noR hx rfl, fun p hp => by cases hp⟩
  · exact ⟨sc_noR hy rfl, fun p hp => by cases hp⟩
theorem r2_ds (σ : Env) : ∀ p ∈ R2, ∀ q ∈ R2, p.1 ≠ q.1 → p.2.w = true → (σ p.1).1 ≠ (σ q.1).1 := fun p hp q hq hpq hw => by
  simp only [List.mem_cons, List.not_mem_nil, or_false] at hp
  rcases hp with rfl | rfl <;> cases hw
theorem env_ids {ρ : Env} {x y : SB} (h1 : ρ 21 = x.B) (h2 : ρ 22 = y.B) {r : Nat} (h : r = 21 ∨ r = 22) : enXY x y r = ρ r := by
  rcases h with rfl | rfl
  · exact h1.symm
  · exact h2.symm
/-- A text is fed to the first. -/
theorem mid_feedX {W0 W : World} {x y : SB} {px py : List (List UInt8)} {Tx Ty : List UInt8} {N n k d : Nat} {todo : List Item} {Q : Exit → Act → World → Prop} {tm : List (Nat × TV)} (tm2 : List (Nat × TV)) (q : List UInt8) (hS : Two W0 W x y px py Tx Ty N) (hq : q.length ≤ 1000000)
    (hsz : Nat.ble (k + 1) (hdOps todo).size = true) (hc : xCall (hdOps todo) k (mkSt n tm R2 []) = some (d, 21, [ptrTo 21, .v (stv q)])) (hd : d < n) (h2 : tmOk d tm tm2) (hi : idsOk tm2 R2 [] = true)
    (hK : ∀ W', Two W0 W' x y px py (Tx ++ q) Ty N → E.Mid Try.prog W' ⟨[], enXY x y, []⟩ n [] todo Q (k + 1) tm2 R2) : E.Mid Try.prog W ⟨[], enXY x y, []⟩ n [] todo Q k tm R2 := by
  refine E.Mid.op (α := World) (some d) (fun W => W) (fun _ => ⟨[], enXY x y, []⟩) (fun _ => tm2) (fun _ => R2) (fun W' => Two W0 W' x y px py (Tx ++ q) Ty N) hsz (fun a w ρ K QQ hden hk => ?_) hK
  have e1 : ρ 21 = x.B := hden.e0 21 (.inl (by decide))
  have e2 : ρ 22 = y.B := hden.e0 22 (.inl (by decide))
  have hSw := hS.hx.keep2 hden.fr (by simp) (by simp) (by simp)
  have hYw := hS.hy.keep2 hden.fr (by simp) (by simp) (by simp)
  have hv : (ptrTo 21).val ρ = boxV x := by
    show Value.pointer (some ⟨(ρ 21).1, (ρ 21).2 + (0 + 0 * 0 + 0), none⟩) = _
    rw [e1]; rfl
  have hcl := feed_st q hSw hq
  rw [← hv] at hcl
  refine xCall_ok hc hden ent21 (hcl.mono ?_)
  rintro e w' ⟨rfl, hF, hS2⟩
  have hm := hS.xm2
  have hb := hS.xB2
  have hyk : scT w' y py Ty := hYw.keep2 hF (by have := hS.ym; simp; omega) (by have := hS.yB; simp; omega) (by have := hS.yC; simp; omega)
  have hfr : Fr W0 [] w' := (hS.fr.comp hden.fr fun b hb => by cases hb).comp hF fun b hb => by
    simp only [List.mem_cons, List.not_mem_nil, or_false] at hb
    rcases hb with rfl | rfl
    · exact .inr hS.xm
    · exact .inr hS.xB
  refine ⟨_, rfl, hk w' _ w' (enXY x y) ⟨hfr, hS2, hyk, hS.xB, hS.xm, hS.xB2, hS.xm2, hS.xC2, hS.yB, hS.ym, hS.yC, hS.hN⟩ (E.den_again (d := d) (tm' := tm2) (rows2 := R2) (K := []) hden hd (fun p hp => ?_) hi (r2_ok hS2 hyk) (r2_ds _) rfl rfl)⟩
  obtain ⟨g1, g2, g3⟩ := tmOk_mem h2 p hp
  exact .inr ⟨g1, g2, fun r hr => env_ids e1 e2 (g3 r hr)⟩
/-- A text is fed to the second. -/
theorem mid_feedY {W0 W : World} {x y : SB} {px py : List (List UInt8)} {Tx Ty : List UInt8} {N n k d : Nat} {todo : List Item} {Q : Exit → Act → World → Prop} {tm : List (Nat × TV)} (tm2 : List (Nat × TV)) (q : List UInt8) (hS : Two W0 W x y px py Tx Ty N) (hq : q.length ≤ 1000000)
    (hsz : Nat.ble (k + 1) (hdOps todo).size = true) (hc : xCall (hdOps todo) k (mkSt n tm R2 []) = some (d, 21, [ptrTo 22, .v (stv q)])) (hd : d < n) (h2 : tmOk d tm tm2) (hi : idsOk tm2 R2 [] = true)
    (hK : ∀ W', Two W0 W' x y px py Tx (Ty ++ q) N → E.Mid Try.prog W' ⟨[], enXY x y, []⟩ n [] todo Q (k + 1) tm2 R2) : E.Mid Try.prog W ⟨[], enXY x y, []⟩ n [] todo Q k tm R2 := by
  refine E.Mid.op (α := World) (some d) (fun W => W) (fun _ => ⟨[], enXY x y, []⟩) (fun _ => tm2) (fun _ => R2) (fun W' => Two W0 W' x y px py Tx (Ty ++ q) N) hsz (fun a w ρ K QQ hden hk => ?_) hK
  have e1 : ρ 21 = x.B := hden.e0 21 (.inl (by decide))
  have e2 : ρ 22 = y.B := hden.e0 22 (.inl (by decide))
  have hSw := hS.hx.keep2 hden.fr (by simp) (by simp) (by simp)
  have hYw := hS.hy.keep2 hden.fr (by simp) (by simp) (by simp)
  have hv : (ptrTo 22).val ρ = boxV y := by
    show Value.pointer (some ⟨(ρ 22).1, (ρ 22).2 + (0 + 0 * 0 + 0), none⟩) = _
    rw [e2]; rfl
  have hcl := feed_st q hYw hq
  rw [← hv] at hcl
  refine xCall_ok hc hden ent21 (hcl.mono ?_)
  rintro e w' ⟨rfl, hF, hS2⟩
  have hm := hS.ym
  have hb := hS.yB
  have hN := hS.hN
  have hxk : scT w' x px Tx := hSw.keep2 hF (by have := hS.xm2; simp; omega) (by have := hS.xB2; simp; omega) (fun hL => by have := hS.xC2 hL; simp; omega)
  have hfr : Fr W0 [] w' := (hS.fr.comp hden.fr fun b hb => by cases hb).comp hF fun b hb => by
    simp only [List.mem_cons, List.not_mem_nil, or_false] at hb
    rcases hb with rfl | rfl
    · exact .inr (by omega)
    · exact .inr (by omega)
  refine ⟨_, rfl, hk w' _ w' (enXY x y) ⟨hfr, hxk, hS2, hS.xB, hS.xm, hS.xB2, hS.xm2, hS.xC2, hS.yB, hS.ym, hS.yC, hS.hN⟩ (E.den_again (d := d) (tm' := tm2) (rows2 := R2) (K := []) hden hd (fun p hp => ?_) hi (r2_ok hxk hS2) (r2_ds _) rfl rfl)⟩
  obtain ⟨g1, g2, g3⟩ := tmOk_mem h2 p hp
  exact .inr ⟨g1, g2, fun r hr => env_ids e1 e2 (g3 r hr)⟩
set_option maxRecDepth 100000 in
theorem feed_none (s : List UInt8) (w : World) : Calls Try.prog 21 #[.pointer none, stv s] w fun e w' => e = .returned (.tuple #[]) ∧ Below w.heap.size w w' := by
  refine At.calls (args := [.v (.pointer none), .v (stv s)]) (rows := []) (gl := []) (wr := []) (ρ := fun _ => (⟨0, 0, 0⟩ : Blk)) Try.func21 rfl rfl (init_rw ⟨rfl, rfl, trivial⟩ rfl rfl rfl (fun p hp => by cases hp) (fun p hp => by cases hp) (fun p hp => by cases hp)) rfl ?_
  exact At.fin rfl [] trivial [.d] (x := .tup []) (ob := []) (by kernel_rfl) trivial fun ρ' w' hf _ => ⟨rfl, hf.below⟩
set_option maxRecDepth 100000 in
theorem found_none (w : World) : Calls Try.prog 22 #[.pointer none] w fun e w' => e = .returned nilS ∧ Below w.heap.size w w' := by
  refine At.calls (args := [.v (.pointer none)]) (rows := []) (gl := []) (wr := []) (ρ := fun _ => (⟨0, 0, 0⟩ : Blk)) Try.func22 rfl rfl (init_rw ⟨rfl, trivial⟩ rfl rfl rfl (fun p hp => by cases hp) (fun p hp => by cases hp) (fun p hp => by cases hp)) rfl ?_
  exact At.fin rfl [] trivial [.d] (x := .v nilS) (ob := []) (by kernel_rfl) trivial fun ρ' w' hf _ => ⟨rfl, hf.below⟩
abbrev rwK (k : Nat) : Row := ⟨[.fnc (chunkF [.int .i64 (k : Int)] 1 1) 1 1], true, some (3, 1)⟩
abbrev hSk (r q : Nat) (k : Nat) : Hint := .call ⟨11, fun ρ => #[(TV.s (.lf (.sl r 0 0 1 1 none))).val ρ, (TV.s (.lf (.sl q 0 0 1 1 none))).val ρ], .v (.bool true), [(r, inR [k] 1), (q, rwK k)], [], none, []⟩
theorem hSk_ok (id r q k : Nat) : HintOk Try.prog id (hSk r q k) := by
  refine call_ok ent11 rfl (fun p hp => by cases hp) fun ρ w hr => ?_
  have h0 := hr _ (List.mem_cons_self ..)
  have h1 := hr _ (List.mem_cons_of_mem _ (List.mem_cons_self ..))
  have h2 : RowAt ρ q (inR [k] 1) w := rowAt_fn h1 fun i hi => by
    obtain rfl : i = 0 := by omega
    rfl
  have hc := same_pos [k] [k] (by show 1 ≤ _; decide) (by show 1 ≤ _; decide) w (fun x => if x = 0 then ρ r else ρ q) (inO_of h0 rfl) (inO_of h2 rfl)
  refine hc.mono ?_
  rintro e w' ⟨rfl, hf⟩
  exact ⟨⟨0, 0, 0⟩, by simp [TV.val, SV.val, Lf.val], Fr.of_below hf _, (fun p hp => by cases hp), fun row hrw => by cases hrw⟩
end
end Go.Proofs.Ytlofoeapfmcolaa
/- ScanCuts' law. Its condition: lengths that fit. -/
namespace Go.Proofs.Ytlofoeapfmcolaa
open Go Go.RowKit
set_option linter.unusedVariables false
set_option linter.unusedSimpArgs false
section
open E
abbrev noL : List UInt8 := [110, 111]
theorem find_no {s p : List UInt8} (hp : placesL s p ≠ []) : findL s [noL, p] = [1] := by
  have h0 : placesL s noL = [] := by unfold placesL; rw [show mayP noL = false by decide +kernel]; rfl
  unfold findL
  show List.filter (fun i => !(placesL s ([noL, p].getD i [])).isEmpty) [0, 1] = _
  rw [List.filter_cons_of_neg (by show ¬ (!(placesL s noL).isEmpty) = true; rw [h0]; simp), List.filter_cons_of_pos (by show (!(placesL s p).isEmpty) = true; simpa using hp)]
  rfl
theorem find_it {s p : List UInt8} (hp : placesL s p ≠ []) : findL s [p] = [0] := by
  unfold findL
  show List.filter (fun i => !(placesL s ([p].getD i [])).isEmpty) [0] = _
  rw [List.filter_cons_of_pos (by show (!(placesL s p).isEmpty) = true; simpa using hp)]
  rfl
theorem places_mid (a p b : List UInt8) (hp : mayP p = true) : placesL (a ++ p ++ b) p ≠ [] := by
  have h := (find_iff (a ++ p ++ b) p).2 ⟨hp, a.length, by rw [List.length_append, List.length_append]; omega, by
    rw [List.append_assoc, List.drop_append, List.drop_of_length_le (Nat.le_refl _), List.nil_append, Nat.sub_self, List.drop_zero, List.take_left]⟩
  intro e
  rw [e] at h; cases h
set_option maxRecDepth 100000 in
/-- From behind the second scanner's last bytes. -/
theorem cuts_end (W0 W : World) (x y : SB) (p s : List UInt8) (hs : s.length ≤ 1000000) (hp : p.length ≤ 1000000) (hpl : placesL s p ≠ []) (N : Nat) (hS : Two W0 W x y [noL, p] [p] s s N) :
    At Try.prog W ⟨[], enXY x y, []⟩ Try.f5.ntmps [] (rp Try.f5 15).tail (EndX Try.prog Try.f5 (FrQ W0)) [(9, .v (stv p)), (10, .v (stv s)), (11, ptrTo 21), (12, ptrTo 22)] R2 := by
  have hk1 : HintAt Try.prog W ⟨[], enXY x y, []⟩ 19001 (hFo1 21 19001 [1]) := by
    have := hFo1_ok (id := 19001) (r := 21) (wr := ⟨[], enXY x y, []⟩) hS.hx (by show 2 ≤ _; decide) (fun q hq => by
      simp only [List.mem_cons, List.not_mem_nil, or_false] at hq
      rcases hq with rfl | rfl
      · decide
      · exact hp) (by decide) rfl (by simp) (by simp) (by simp) (by rw [find_no hpl]; simp)
    rw [find_no hpl] at this
    exact this
  have hk2 : HintAt Try.prog W ⟨[], enXY x y, []⟩ 19006 (hFo1 22 19006 [0]) := by
    have := hFo1_ok (id := 19006) (r := 22) (wr := ⟨[], enXY x y, []⟩) hS.hy (by show 1 ≤ _; decide) (fun q hq => by
      obtain rfl := List.mem_singleton.1 hq
      exact hp) (by decide) rfl (by simp) (by simp) (by simp) (by rw [find_it hpl]; simp)
    rw [find_it hpl] at this
    exact this
  have hk3 := hI_pro1 (id := 19019) hs hp hpl
  have hpos : 0 < (placesL s p).length := List.length_pos_iff.2 hpl
  generalize placesL s p = l at hk3 hpos hpl
  have hn1 : HintOk Try.prog 18002 (pc 21 #[.pointer none, stv p] (.tup [])) := pc_ok ent21 (v := .tuple #[]) (fun x hx => by cases hx) (fun _ => rfl) fun w => feed_none p w
  have hn2 : HintOk Try.prog 19012 (pc 22 #[.pointer none] (.v nilS)) := pc_ok ent22 (v := nilS) rfl (fun _ => rfl) fun w => found_none w
  exact At.fin rfl [(18002, pc 21 #[.pointer none, stv p] (.tup [])), (19001, hFo1 21 19001 [1]), (19003, hSk 19001 19002 1), (19006, hFo1 22 19006 [0]), (19008, hSk 19006 19007 0), (19012, pc 22 #[.pointer none] (.v nilS)), (19019, hI1 14 (fun _ => #[stv s, stv p]) [] 19019 l), (2019021, .val (.v (.bool true))), (19024, hAw)]
    ⟨hn1, hk1, hSk_ok _ _ _ _, hk2, hSk_ok _ _ _ _, hn2, hk3, trivial, hAw_ok _, trivial⟩ [] (x := .v (.bool true)) (ob := [qL (pc 21 #[.pointer none, stv p] (.tup [])), qL (hFo1 21 19001 [1]), qL (hSk 19001 19002 1), qL (hFo1 22 19006 [0]), qL (hSk 19006 19007 0), qL (pc 22 #[.pointer none] (.v nilS)), qL (hI1 14 (fun _ => #[stv s, stv p]) [] 19019 l), [TV.v (.bool (decide ((l.length : Int) ≥ 1))) = TV.v (.bool true)], qL hAw].flatten) (by kernel_rfl)
    (all_flat ⟨all_qL _, all_qL _, all_qL _, all_qL _, all_qL _, all_qL _, all_qL _, ⟨tv_b (decide_eq_true (by omega)), trivial⟩, all_qL _, trivial⟩) fun ρ' w' hf _ => ⟨rfl, hS.fr.comp hf fun b hb => by cases hb⟩
abbrev cuS (p s : List UInt8) (k : Int) : List (Nat × TV) := [(9, .v (stv p)), (10, .v (stv s)), (11, ptrTo 21), (12, ptrTo 22), (14, .int .i64 k)]
set_option maxRecDepth 100000 in
/-- From the first loop's end on. -/
theorem cuts_mid (W0 W : World) (x y : SB) (p s : List UInt8) (c : Nat) (hc : c < 256) (hs : s.length ≤ 1000) (hp : p.length ≤ 1000000) (hpl : placesL s p ≠ []) (N : Nat) (hS : Two W0 W x y [noL, p] [p] s [] N) :
    At Try.prog W ⟨[], enXY x y, []⟩ Try.f5.ntmps [] (lp Try.f5 0) (EndX Try.prog Try.f5 (FrQ W0)) [(3, .int .u8 (c : Int)), (9, .v (stv p)), (10, .v (stv s)), (11, ptrTo 21), (12, ptrTo 22), (13, .int .i64 (s.length : Int))] R2 := by
  obtain ⟨k, hk⟩ : ∃ k, k = c % (s.length + 1) := ⟨_, rfl⟩
  have hkl : k ≤ s.length := by have := Nat.mod_lt c (show 0 < s.length + 1 by omega); omega
  have hkv : TV.int .i64 ((c : Int) % ((s.length : Int) + 1)) = TV.int .i64 (k : Int) := tv_int (by rw [hk]; simp)
  refine At.run rfl [(2014000, .val (.tup [])), (2013005, .val (.int .i64 (k : Int)))] ⟨trivial, trivial, trivial⟩ [.n] (tm2 := cuS p s k) (rows2 := R2) (ob := [decide ((s.length : Int) < (s.length : Int)) = false, IntKind.i64.wrap (c : Int) = (c : Int), inI ((s.length : Int) + 1), TV.int .i64 ((c : Int) % ((s.length : Int) + 1)) = TV.int .i64 (k : Int), 0 ≤ (c : Int) ∧ 0 < (s.length : Int) + 1]) (td := rp Try.f5 13) (by kernel_rfl) ⟨decide_eq_false (by omega), w64 ⟨by omega, by omega⟩, ⟨by omega, by omega⟩, hkv, ⟨by omega, by omega⟩, trivial⟩ rfl rfl (by intro h; cases h) ?_
  obtain ⟨q1, hq1⟩ : ∃ q, q = s.take k := ⟨_, rfl⟩
  obtain ⟨q2, hq2⟩ : ∃ q, q = s.drop k := ⟨_, rfl⟩
  have hl1 : q1.length ≤ 1000000 := by rw [hq1, List.length_take]; omega
  have hl2 : q2.length ≤ 1000000 := by rw [hq2, List.length_drop]; omega
  have hv1 : TV.v (stv (List.take (k : Int).toNat s)) = TV.v (stv q1) := tv_str (by rw [hq1, Int.toNat_natCast])
  have hv2 : TV.v (stv (List.drop (k : Int).toNat s)) = TV.v (stv q2) := tv_str (by rw [hq2, Int.toNat_natCast])
  refine E.At.reg rfl (E.Mid.run 4 [(2014003, .val (.v (stv q1)))] ⟨trivial, trivial⟩ (tm2 := [(9, .v (stv p)), (10, .v (stv s)), (11, ptrTo 21), (12, ptrTo 22), (14, .int .i64 (k : Int)), (63, ptrTo 22), (66, .v (stv q1))]) (rows2 := R2) (ob := [TV.v (stv (List.take (k : Int).toNat s)) = TV.v (stv q1), 0 ≤ (k : Int) ∧ (k : Int) ≤ (s.length : Int)]) (by kernel_rfl) ⟨hv1, ⟨by omega, by omega⟩, trivial⟩ rfl ?_)
  refine mid_feedY (d := 67) (cuS p s k) q1 hS hl1 rfl (by kernel_rfl) (by decide) ⟨⟨rfl, rfl, rfl⟩, ⟨rfl, rfl, rfl⟩, ⟨rfl, rfl, rfl⟩, ⟨rfl, rfl, rfl⟩, ⟨rfl, rfl, rfl⟩, trivial⟩ rfl fun W1 hS1 => E.Mid.out rfl ?_
  refine At.run rfl [(2015000, .val (.tup []))] ⟨trivial, trivial⟩ [] (tm2 := cuS p s k) (rows2 := R2) (ob := []) (td := rp Try.f5 14) (by kernel_rfl) trivial rfl rfl (by intro h; cases h) ?_
  refine E.At.reg rfl (E.Mid.run 1 [] trivial (tm2 := [(9, .v (stv p)), (10, .v (stv s)), (11, ptrTo 21), (12, ptrTo 22), (14, .int .i64 (k : Int)), (68, ptrTo 22)]) (rows2 := R2) (ob := []) (by kernel_rfl) trivial rfl ?_)
  refine mid_feedY (d := 69) (cuS p s k) [] hS1 (by decide) rfl (by kernel_rfl) (by decide) ⟨⟨rfl, rfl, rfl⟩, ⟨rfl, rfl, rfl⟩, ⟨rfl, rfl, rfl⟩, ⟨rfl, rfl, rfl⟩, ⟨rfl, rfl, rfl⟩, trivial⟩ rfl fun W2 hS2 => E.Mid.out rfl ?_
  refine At.run rfl [(2016000, .val (.tup []))] ⟨trivial, trivial⟩ [] (tm2 := cuS p s k) (rows2 := R2) (ob := []) (td := rp Try.f5 15) (by kernel_rfl) trivial rfl rfl (by intro h; cases h) ?_
  refine E.At.reg rfl (E.Mid.run 4 [(2016003, .val (.v (stv q2)))] ⟨trivial, trivial⟩ (tm2 := [(9, .v (stv p)), (10, .v (stv s)), (11, ptrTo 21), (12, ptrTo 22), (70, ptrTo 22), (73, .v (stv q2))]) (rows2 := R2) (ob := [TV.v (stv (List.drop (k : Int).toNat s)) = TV.v (stv q2), 0 ≤ (k : Int) ∧ (k : Int) ≤ (s.length : Int)]) (by kernel_rfl) ⟨hv2, ⟨by omega, by omega⟩, trivial⟩ rfl ?_)
  refine mid_feedY (d := 74) [(9, .v (stv p)), (10, .v (stv s)), (11, ptrTo 21), (12, ptrTo 22)] q2 hS2 hl2 rfl (by kernel_rfl) (by decide) ⟨⟨rfl, rfl, rfl⟩, ⟨rfl, rfl, rfl⟩, ⟨rfl, rfl, rfl⟩, ⟨rfl, rfl, rfl⟩, trivial⟩ rfl fun W3 hS3 => E.Mid.out rfl ?_
  have hT : [] ++ q1 ++ [] ++ q2 = s := by rw [hq1, hq2, List.append_nil, List.nil_append, List.take_append_drop]
  rw [hT] at hS3
  exact cuts_end W0 W3 x y p s (by omega) hp hpl N hS3
structure CuX where
  W : World
  i : Nat
set_option maxRecDepth 100000 in
theorem cuts_loop (W0 W : World) (x y : SB) (p s : List UInt8) (c : Nat) (hc : c < 256) (hs : s.length ≤ 1000) (hp : p.length ≤ 1000000) (hpl : placesL s p ≠ []) (N : Nat) (hS : Two W0 W x y [noL, p] [p] [] [] N) :
    At Try.prog W ⟨[], enXY x y, []⟩ Try.f5.ntmps [] (lp Try.f5 0) (EndX Try.prog Try.f5 (FrQ W0)) [(3, .int .u8 (c : Int)), (9, .v (stv p)), (10, .v (stv s)), (11, ptrTo 21), (12, ptrTo 22), (13, .int .i64 ((0 : Nat) : Int))] R2 := by
  refine At.loopW (fun z : CuX => z.W) (fun _ => ⟨[], enXY x y, []⟩) (fun z => [(3, .int .u8 (c : Int)), (9, .v (stv p)), (10, .v (stv s)), (11, ptrTo 21), (12, ptrTo 22), (13, .int .i64 (z.i : Int))]) (fun _ => R2) (fun z => z.i ≤ s.length ∧ Two W0 z.W x y [noL, p] [p] (s.take z.i) [] N) (fun z => s.length - z.i) (fun z hz ih => ?_) ⟨W, 0⟩ ⟨Nat.zero_le _, hS⟩
  obtain ⟨W1, i⟩ := z
  obtain ⟨hi, hT⟩ := hz
  simp only at hi hT ih ⊢
  by_cases h : i < s.length
  · refine At.run rfl [(2012000, .val (.tup []))] ⟨trivial, trivial⟩ [.y] (tm2 := [(3, .int .u8 (c : Int)), (9, .v (stv p)), (10, .v (stv s)), (11, ptrTo 21), (12, ptrTo 22), (13, .int .i64 (i : Int))]) (rows2 := R2) (ob := [decide ((i : Int) < (s.length : Int)) = true]) (td := rp Try.f5 11) (by kernel_rfl) ⟨decide_eq_true (by omega), trivial⟩ rfl rfl (by intro h; cases h) ?_
    obtain ⟨q, hq⟩ : ∃ q, q = (s.take (i + 1)).drop i := ⟨_, rfl⟩
    have hql : q.length ≤ 1000000 := by rw [hq, List.length_drop, List.length_take]; omega
    have hv : TV.v (stv (List.drop (i : Int).toNat (List.take ((i : Int) + 1).toNat s))) = TV.v (stv q) := tv_str (by rw [hq, Int.toNat_natCast, show ((i : Int) + 1).toNat = i + 1 by omega])
    refine E.At.reg rfl (E.Mid.run 6 [(2012005, .val (.v (stv q)))] ⟨trivial, trivial⟩ (tm2 := [(3, .int .u8 (c : Int)), (9, .v (stv p)), (10, .v (stv s)), (11, ptrTo 21), (12, ptrTo 22), (13, .int .i64 (i : Int)), (50, ptrTo 21), (55, .v (stv q))]) (rows2 := R2) (ob := [inI ((i : Int) + 1), TV.v (stv (List.drop (i : Int).toNat (List.take ((i : Int) + 1).toNat s))) = TV.v (stv q), 0 ≤ (i : Int) + 1 ∧ (i : Int) + 1 ≤ (s.length : Int), 0 ≤ (i : Int) ∧ (i : Int) ≤ (i : Int) + 1]) (by kernel_rfl) ⟨⟨by omega, by omega⟩, hv, ⟨by omega, by omega⟩, ⟨by omega, by omega⟩, trivial⟩ rfl ?_)
    refine mid_feedX (d := 56) [(3, .int .u8 (c : Int)), (9, .v (stv p)), (10, .v (stv s)), (11, ptrTo 21), (12, ptrTo 22), (13, .int .i64 (i : Int))] q hT hql rfl (by kernel_rfl) (by decide) ⟨⟨rfl, rfl, rfl⟩, ⟨rfl, rfl, rfl⟩, ⟨rfl, rfl, rfl⟩, ⟨rfl, rfl, rfl⟩, ⟨rfl, rfl, rfl⟩, ⟨rfl, rfl, rfl⟩, trivial⟩ rfl fun W2 hS2 => E.Mid.out rfl ?_
    have e : s.take i ++ q = s.take (i + 1) := by
      rw [hq]
      have := List.take_append_drop i (s.take (i + 1))
      rw [List.take_take, show min i (i + 1) = i by omega] at this
      exact this
    rw [e] at hS2
    exact At.run rfl [] trivial [] (tm2 := [(3, .int .u8 (c : Int)), (9, .v (stv p)), (10, .v (stv s)), (11, ptrTo 21), (12, ptrTo 22), (13, .int .i64 ((i + 1 : Nat) : Int))]) (rows2 := R2) (ob := [inI ((i : Int) + 1)]) (td := lp Try.f5 0) (by kernel_rfl) ⟨⟨by omega, by omega⟩, trivial⟩ rfl rfl (by intro h; cases h) (ih ⟨W2, i + 1⟩ ⟨h, hS2⟩ (by show s.length - (i + 1) < s.length - i; omega))
  · obtain rfl : i = s.length := by omega
    rw [List.take_length] at hT
    exact cuts_mid W0 W1 x y p s c hc hs hp hpl N hT
abbrev rowNo (p : List UInt8) : Row := ⟨[.fnc (chunkF [stv noL, stv p] 1 2) 1 2], true, some (9, 1)⟩
abbrev rowIt (p : List UInt8) : Row := ⟨[.fnc (chunkF [stv p] 1 1) 1 1], true, some (9, 1)⟩
theorem rowNo_is {p : List UInt8} {ρ : Env} {r : Nat} {w : World} (h : RowAt ρ r (rowNo p) w) : RowAt (fun _ => ρ r) 1 (strR [noL, p]) w := by
  have h1 : RowAt ρ r ⟨[.fnc (strF [noL, p]) 1 2], true, some (9, 1)⟩ w := rowAt_fn h fun i hi => by
    match i, hi with
    | 0, _ => rfl
    | 1, _ => rfl
  exact rowAt_ro (rowAt_mv h1 rfl)
theorem rowIt_is {p : List UInt8} {ρ : Env} {r : Nat} {w : World} (h : RowAt ρ r (rowIt p) w) : RowAt (fun _ => ρ r) 1 (strR [p]) w := by
  have h1 : RowAt ρ r ⟨[.fnc (strF [p]) 1 1], true, some (9, 1)⟩ w := rowAt_fn h fun i hi => by
    obtain rfl : i = 0 := by omega
    rfl
  exact rowAt_ro (rowAt_mv h1 rfl)
theorem sc_C {W : World} {x : SB} {L : Wl} {S : List UInt8 → Bool} {lv : List UInt8} (h : Sc W x L S lv) (hL : L ≠ []) : x.C.1 < W.heap.size := by
  obtain ⟨n, g1, g2, g3⟩ := h
  exact (g3 hL).2.1
set_option maxRecDepth 100000 in
/-- The two scanners made. -/
theorem cuts_made (W0 : World) (ρ0 : Env) (p s : List UInt8) (c : Nat) (hc : c < 256) (hs : s.length ≤ 1000) (hp : p.length ≤ 1000000) (hpl : placesL s p ≠ []) :
    At Try.prog W0 ⟨[], ρ0, []⟩ Try.f5.ntmps [] (rp Try.f5 5) (EndX Try.prog Try.f5 (FrQ W0)) [(3, .int .u8 (c : Int)), (9, .v (stv p)), (10, .v (stv s))] [] := by
  refine E.At.reg rfl (E.Mid.run 2 [] trivial (tm2 := [(3, .int .u8 (c : Int)), (9, .v (stv p)), (10, .v (stv s)), (33, .s (.lf (.sl 6001 0 0 1 2 none)))]) (rows2 := [(6001, rowNo p)]) (ob := []) (by kernel_rfl) trivial rfl ?_)
  refine E.Mid.op (α := World × SB) (some 34) (fun z => z.1) (fun z => ⟨[], fun _ => z.2.B, []⟩) (fun _ => [(3, .int .u8 (c : Int)), (9, .v (stv p)), (10, .v (stv s)), (34, ptrTo 21)]) (fun _ => [(21, noR)]) (fun z => Fr W0 [] z.1 ∧ W0.heap.size ≤ z.2.B.1 ∧ W0.heap.size ≤ z.2.mb ∧ scT z.1 z.2 [noL, p] []) rfl (fun a w ρ K QQ hden hk => ?_) fun z hz => ?_
  · have hr := (hden.rw 6001 _ rfl).1
    have hc1 := new_pos [noL, p] (by show 2 ≤ _; decide) (fun q hq => by
      simp only [List.mem_cons, List.not_mem_nil, or_false] at hq
      rcases hq with rfl | rfl
      · decide
      · exact hp) w (fun _ => ρ 6001) (rowNo_is hr)
    refine xCall_ok (d := 34) (f := 20) (vs := [.s (.lf (.sl 6001 0 0 1 2 none))]) (by kernel_rfl) hden ent20 (hc1.mono ?_)
    intro e w' hN
    obtain ⟨x, rfl, hF, g1, g2, g3, g4⟩ := new_st hN
    have hge := hden.fr.size
    refine ⟨_, rfl, hk (w', x) _ w' (fun _ => x.B) ⟨hden.fr.comp hF (fun y hy => by cases hy), Nat.le_trans hge g1, Nat.le_trans hge g3, g4⟩ (E.den_again (d := 34) (tm' := [(3, .int .u8 (c : Int)), (9, .v (stv p)), (10, .v (stv s)), (34, ptrTo 21)]) (rows2 := [(21, noR)]) (K := []) hden (by decide) (fun p hp => ?_) rfl (fun p hp => ?_) (fun p hp q hq hpq hw => ?_) rfl rfl)⟩
    · simp only [List.mem_cons, List.not_mem_nil, or_false] at hp
      rcases hp with rfl | rfl | rfl | rfl
      · exact .inr ⟨(show (3 : Nat) ≠ 34 by decide), rfl, fun r hr => by cases hr⟩
      · exact .inr ⟨(show (9 : Nat) ≠ 34 by decide), rfl, fun r hr => by cases hr⟩
      · exact .inr ⟨(show (10 : Nat) ≠ 34 by decide), rfl, fun r hr => by cases hr⟩
      · exact .inl ⟨rfl, rfl, trivial⟩
    · obtain rfl := List.mem_singleton.1 hp
      exact ⟨sc_noR g4 rfl, fun p hp => by cases hp⟩
    · obtain rfl := List.mem_singleton.1 hp
      cases hw
  obtain ⟨W1, x⟩ := z
  obtain ⟨hf1, hxB, hxm, hxS⟩ := hz
  simp only at hf1 hxB hxm hxS ⊢
  refine E.Mid.run 5 [] trivial (tm2 := [(3, .int .u8 (c : Int)), (9, .v (stv p)), (10, .v (stv s)), (34, ptrTo 21), (36, .s (.lf (.sl 6004 0 0 1 1 none)))]) (rows2 := [(21, noR), (6004, rowIt p)]) (ob := []) (by kernel_rfl) trivial rfl ?_
  refine E.Mid.op (α := World × SB) (some 37) (fun z => z.1) (fun z => ⟨[], enXY x z.2, []⟩) (fun _ => [(3, .int .u8 (c : Int)), (9, .v (stv p)), (10, .v (stv s)), (34, ptrTo 21), (37, ptrTo 22)]) (fun _ => R2) (fun z => Two W0 z.1 x z.2 [noL, p] [p] [] [] W1.heap.size) rfl (fun a w ρ K QQ hden hk => ?_) fun z hz => ?_
  · have e1 : ρ 21 = x.B := hden.e0 21 (.inl (by decide))
    have hr := (hden.rw 6004 _ rfl).1
    have hc1 := new_pos [p] (by show 1 ≤ _; decide) (fun q hq => by obtain rfl := List.mem_singleton.1 hq; exact hp) w (fun _ => ρ 6004) (rowIt_is hr)
    refine xCall_ok (d := 37) (f := 20) (vs := [.s (.lf (.sl 6004 0 0 1 1 none))]) (by kernel_rfl) hden ent20 (hc1.mono ?_)
    intro e w' hN
    obtain ⟨y, rfl, hF, g1, g2, g3, g4⟩ := new_st hN
    have hge := hden.fr.size
    have hFx : Fr W1 [] w' := hden.fr.comp hF fun b hb => by cases hb
    have hxk : scT w' x [noL, p] [] := hxS.keep2 hFx (by simp) (by simp) (by simp)
    have hlt := sc_lt hxS
    refine ⟨_, rfl, hk (w', y) _ w' (enXY x y) ⟨hf1.comp hFx (fun b hb => by cases hb), hxk, g4, hxB, hxm, hlt.2, hlt.1, fun hL => sc_C hxS hL, Nat.le_trans hge g1, Nat.le_trans hge g3, Nat.le_trans hge g2, hf1.size⟩ (E.den_again (d := 37) (tm' := [(3, .int .u8 (c : Int)), (9, .v (stv p)), (10, .v (stv s)), (34, ptrTo 21), (37, ptrTo 22)]) (rows2 := R2) (K := []) hden (by decide) (fun p hp => ?_) rfl (r2_ok hxk g4) (r2_ds _) rfl rfl)⟩
    simp only [List.mem_cons, List.not_mem_nil, or_false] at hp
    rcases hp with rfl | rfl | rfl | rfl | rfl
    · exact .inr ⟨(show (3 : Nat) ≠ 37 by decide), rfl, fun r hr => by cases hr⟩
    · exact .inr ⟨(show (9 : Nat) ≠ 37 by decide), rfl, fun r hr => by cases hr⟩
    · exact .inr ⟨(show (10 : Nat) ≠ 37 by decide), rfl, fun r hr => by cases hr⟩
    · exact .inr ⟨(show (34 : Nat) ≠ 37 by decide), rfl, fun r hr => by obtain rfl := List.mem_singleton.1 hr; exact e1.symm⟩
    · exact .inl ⟨rfl, rfl, trivial⟩
  obtain ⟨W2, y⟩ := z
  simp only at hz ⊢
  refine E.Mid.run 8 [] trivial (tm2 := [(3, .int .u8 (c : Int)), (9, .v (stv p)), (10, .v (stv s)), (11, ptrTo 21), (12, ptrTo 22)]) (rows2 := R2) (ob := []) (by kernel_rfl) trivial rfl (E.Mid.out rfl ?_)
  exact At.run rfl [] trivial [.d] (tm2 := [(3, .int .u8 (c : Int)), (9, .v (stv p)), (10, .v (stv s)), (11, ptrTo 21), (12, ptrTo 22), (13, .int .i64 ((0 : Nat) : Int))]) (rows2 := R2) (ob := []) (td := lp Try.f5 0) (by kernel_rfl) trivial rfl rfl (by intro h; cases h) (cuts_loop W0 W2 x y p s c hc hs hp hpl _ hz)
set_option maxRecDepth 100000 in
theorem cuts_any (a b : List UInt8) (n c : Nat) (hn : n < 256) (hc : c < 256) (w : World) : Calls Try.prog 5 #[stv a, stv b, .int .u8 (n : Int), .int .u8 (c : Int)] w (FrQ w) := by
  refine At.calls (args := [.v (stv a), .v (stv b), .int .u8 (n : Int), .int .u8 (c : Int)]) (rows := []) (gl := []) (wr := []) (ρ := fun _ => (⟨0, 0, 0⟩ : Blk)) Try.func5 rfl rfl (init_rw ⟨rfl, rfl, rfl, rfl, trivial⟩ rfl rfl rfl (fun p hp => by cases hp) (fun p hp => by cases hp) (fun p hp => by cases hp)) rfl ?_
  by_cases ha : ¬ a.length ≤ 100
  · exact At.fin rfl [(2002002, .val (.v (.bool true))), (3000, hAw)] ⟨trivial, hAw_ok _, trivial⟩ [.d] (x := .v (.bool true)) (ob := [[TV.v (.bool (decide ((a.length : Int) > 100))) = TV.v (.bool true)], qL hAw].flatten) (by kernel_rfl) (all_flat ⟨⟨tv_b (decide_eq_true (by omega)), trivial⟩, all_qL _, trivial⟩) fun ρ' w' hf _ => ⟨rfl, hf⟩
  by_cases hb : ¬ b.length ≤ 100
  · exact At.fin rfl [(2002002, .val (.v (.bool false))), (2002006, .val (.v (.bool true))), (3000, hAw)] ⟨trivial, trivial, hAw_ok _, trivial⟩ [.d] (x := .v (.bool true)) (ob := [[TV.v (.bool (decide ((a.length : Int) > 100))) = TV.v (.bool false), TV.v (.bool (decide ((b.length : Int) > 100))) = TV.v (.bool true)], qL hAw].flatten) (by kernel_rfl) (all_flat ⟨⟨tv_b (decide_eq_false (by omega)), tv_b (decide_eq_true (by omega)), trivial⟩, all_qL _, trivial⟩) fun ρ' w' hf _ => ⟨rfl, hf⟩
  have hpl := partL_len n
  have hpm := part_may n
  have hk := hPt_ok 4001 n hn
  obtain ⟨s, hs⟩ : ∃ s, s = a ++ partL n ++ b := ⟨_, rfl⟩
  have hsl : s.length ≤ 1000 := by rw [hs, List.length_append, List.length_append]; omega
  refine At.run rfl [(2002002, .val (.v (.bool false))), (2002006, .val (.v (.bool false))), (4001, hPt n), (2005004, .val (.v (stv s))), (2006000, .val (.tup []))] ⟨trivial, trivial, hk, trivial, trivial, trivial⟩ [.d] (tm2 := [(3, .int .u8 (c : Int)), (9, .v (stv (partL n))), (10, .v (stv s))]) (rows2 := []) (ob := [[TV.v (.bool (decide ((a.length : Int) > 100))) = TV.v (.bool false), TV.v (.bool (decide ((b.length : Int) > 100))) = TV.v (.bool false)], qL (hPt n), [(a.length : Int) + ((partL n).length : Int) ≤ 9223372036854775807, TV.v (stv (a ++ partL n ++ b)) = TV.v (stv s), ((a ++ partL n).length : Int) + (b.length : Int) ≤ 9223372036854775807]].flatten) (td := rp Try.f5 5) (by kernel_rfl) (all_flat ⟨⟨tv_b (decide_eq_false (by omega)), tv_b (decide_eq_false (by omega)), trivial⟩, all_qL _, ⟨by omega, tv_str hs.symm, by rw [List.length_append]; omega, trivial⟩, trivial⟩) rfl rfl (by intro h; cases h) ?_
  refine cuts_made w _ (partL n) s c hc hsl (by omega) ?_
  rw [hs]
  exact places_mid a (partL n) b hpm
theorem cuts_all (W : World) (a b : ByteArray) (n c : Int) (hn : 0 ≤ n ∧ n < 256) (hc : 0 ≤ c ∧ c < 256) : Calls Try.prog 5 #[.string a, .string b, .int .u8 n, .int .u8 c] W (FrQ W) := by
  obtain ⟨n, rfl⟩ := Int.eq_ofNat_of_zero_le hn.1
  obtain ⟨c, rfl⟩ := Int.eq_ofNat_of_zero_le hc.1
  have := hn.2
  have := hc.2
  exact cuts_any a.data.toList b.data.toList n c (by omega) (by omega) W
end
end Go.Proofs.Ytlofoeapfmcolaa
/- ScanChange's law over any values: numbers, as they came in, opened. Its condition: lengths that fit. -/
namespace Go.Proofs.Ytlofoeapfmcolaa
open Go.Deep Go.ChangeShapes Go.WideShapes Go.ChangeAt Go.RowKit
set_option linter.unusedVariables false
set_option linter.unusedSimpArgs false
theorem addr_add0 {g o i : Nat} : (⟨g, o, none⟩ : Addr).add i = ⟨g, o + i, none⟩ := by unfold Addr.add; split <;> simp_all
/-- Numbers in memory. -/
def NumIn (W : World) (pa : Option Addr) (len ca : Nat) (ns : List UInt8) : Prop := ns.length = len ∧ len ≤ ca ∧ (0 < len → ∃ b o, pa = some ⟨b, o, none⟩ ∧ b < W.heap.size ∧ ∀ i (h : i < ns.length), W.cell? ⟨b, o + i, none⟩ = some (.int .u8 (ns[i].toNat : Int)))
set_option maxRecDepth 100000 in
theorem nums_open {H : Type} {enc : TypeId × Value → H} {W : World} {fuel : Nat} {cs : List Value} {x : DataW H × List MemPlace} (h : DataW.trod enc Try.prog W 0 (fun _ => true) true fuel 31 cs = some x) :
    ∃ pa len ca ns, cs = [.slice pa len ca] ∧ NumIn W pa len ca ns ∧ (ca = 0 ∨ ∃ el sp, x.1 = .slice el sp ∧ el.length + sp.length = ca) := by
  rcases open_ints Try.underlying31 Try.underlying5 (by kernel_rfl) h with ⟨hcs, _⟩ | ⟨a, len, cap, zs, hcs, _, hl, hm, hz, hx, hcell, hwz⟩
  · exact ⟨none, 0, 0, [], hcs, ⟨rfl, Nat.le_refl _, fun h => absurd h (Nat.lt_irrefl _)⟩, .inl rfl⟩
  · have hz2 : zs.length = cap := by simpa using hz
    have hns : ((zs.take len).map fun z => UInt8.ofNat z.toNat).length = len := by rw [List.length_map, List.length_take]; omega
    refine ⟨some a, len, cap, (zs.take len).map fun z => UInt8.ofNat z.toNat, hcs, ⟨hns, hl, fun h0 => ?_⟩, .inr ⟨_, _, congrArg Prod.fst hx, ?_⟩⟩
    · obtain ⟨g, off, spot⟩ := a
      have hsp : spot = none := by
        have := World.cell?_spot (hcell 0 (by omega))
        simpa [Addr.add] using this
      subst hsp
      refine ⟨g, off, rfl, block_lt_of_cell (hcell 0 (by omega)), fun i hi => ?_⟩
      rw [hns] at hi
      have hc := hcell i (by omega)
      rw [addr_add0] at hc
      have hget : zs.getD i 0 = zs[i]'(by omega) := by rw [List.getD_eq_getElem?_getD, List.getElem?_eq_getElem (by omega)]; rfl
      have hw := hwz (zs[i]'(by omega)) (List.getElem_mem _)
      simp [Lit.wf, IntKind.min, IntKind.max, IntKind.signed, IntKind.bits] at hw
      rw [hc, hget, List.getElem_map, List.getElem_take]
      congr 2
      obtain ⟨k, hk⟩ := Int.eq_ofNat_of_zero_le hw.1
      rw [hk] at hw ⊢
      simp
      omega
    · simp [lits]; omega
section
open E
theorem nu_row {W : World} {b o c : Nat} {ns : List UInt8} (h0 : 0 < ns.length) (hb : b < W.heap.size) (h : ∀ i (h : i < ns.length), W.cell? ⟨b, o + i, none⟩ = some (.int .u8 (ns[i].toNat : Int))) (ρ : Env) (r : Nat) (hρ : ρ r = ⟨b, o, c⟩) : RowAt ρ r (nuR ns) W := by
  unfold RowAt
  rw [hρ]
  refine ⟨hb, fun j v hv => ⟨?_, fun hw => by cases hw⟩, (fun e k hc => by cases hc), cells_of_cell1 (h 0 h0)⟩
  have hj : j < ns.length := by
    have := (List.getElem?_eq_some_iff.1 hv).1
    rw [lst_fnc, flat_len (k := 1) ns.length (fun _ _ => rfl)] at this
    omega
  rw [lst_fnc, flat_get (f := byteF ns) (k := 1) (by omega) ns.length (fun _ _ => rfl) j (by omega), Nat.div_one, Nat.mod_one] at hv
  cases hv
  rw [h j hj]
  simp [byteF, hj]
/-- The law. -/
theorem change_any (W : World) (pa : Option Addr) (len ca : Nat) (ns : List UInt8) (hN : NumIn W pa len ca ns) (hca : ca ≤ 140737488355328) (a b : Int) (ha : 0 ≤ a ∧ a < 256) (hb : 0 ≤ b ∧ b < 256) : Calls Try.prog 6 #[.slice pa len ca, .int .u8 a, .int .u8 b] W (FrQ W) := by
  obtain ⟨a, rfl⟩ := Int.eq_ofNat_of_zero_le ha.1
  obtain ⟨b, rfl⟩ := Int.eq_ofNat_of_zero_le hb.1
  have ha := ha.2
  have hb := hb.2
  obtain ⟨hl, hcc, hN⟩ := hN
  subst hl
  rcases Nat.eq_zero_or_pos ns.length with e | e
  · rw [e]
    exact change_zero pa ca a b (by omega) (by omega) W
  · obtain ⟨g, o, rfl, hb2, hx⟩ := hN e
    exact change_pos ns (by omega) a b (by omega) (by omega) W (fun _ => ⟨g, o, ca⟩) (nu_row (c := ca) e hb2 hx _ 0 rfl)
end
end Go.Proofs.Ytlofoeapfmcolaa
