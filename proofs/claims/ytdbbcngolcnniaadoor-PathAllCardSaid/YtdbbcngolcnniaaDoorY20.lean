/- Several texts, one behind the other; each says by itself what it proves, and on what conditions. -/
import Derived.Test.YtdbbcngolcnniaaDoorY19
import Derived.Lib.MinMaxS
/- Of Source: a builder that is made, written to, told. Its conditions: lengths that fit. -/
namespace Go.Proofs.YtdbbcngolcnniaaDoor
open Go Go.RowKit
set_option linter.unusedVariables false
set_option linter.unusedSimpArgs false
section
open E
theorem ent13 : Enters Tryd.prog 13 := enters_of Tryd.func13 (by kernel_rfl) rfl
theorem ent33 : Enters Tryd.prog 33 := enters_of Tryd.func33 (by kernel_rfl) rfl
theorem E.xOp_ok {P : Program} {ops : Array Oper} {r : Option Nat} {m : Nat} {K : Act → World → Prop} {QQ : Exit → Act → World → Prop} {a : Act} {w w' : World} {o : Oper} {d : Tmp} {v : Value} (hnd : noDef ops = true) (ho : ops[m]? = some o) (hd : o.dst = some d) (hg : o.guard = none)
  (h : (execOp a.eval o).run P w = .ok (.value v) w') (hK : K (a.put (some d) v) w') : wpOpIn (FW r) 5 P ops QQ m K a w := by
 unfold wpOpIn
 rw [ho]
 simp only
 rw [if_pos (by unfold Region.wanted; rw [hg])]
 exact wpIn_of_wp (noDef_ok hnd ho) (wp_val h (by rw [hd]; exact hK))
def tmOk (d : Nat) (tm : List (Nat × TV)) : List (Nat × TV) → Prop
 | [] => True
 | p :: l => (Nat.beq p.1 d = false ∧ findT tm p.1 = some p.2 ∧ (p.2.ids.all fun r => Nat.beq r 1 || Nat.beq r 2) = true) ∧ tmOk d tm l
theorem tmOk_mem {d : Nat} {tm : List (Nat × TV)} : ∀ {l : List (Nat × TV)}, tmOk d tm l → ∀ p ∈ l, p.1 ≠ d ∧ findT tm p.1 = some p.2 ∧ ∀ r ∈ p.2.ids, r = 1 ∨ r = 2
 | [], _, p, hp => by cases hp
 | q :: l, h, p, hp => by
  rcases List.mem_cons.1 hp with rfl | hp
  ·obtain ⟨⟨h1, h2, h3⟩, _⟩ := h
   refine ⟨(fun e => by rw [e, Nat.beq_refl] at h1; cases h1), h2, fun r hr => ?_⟩
   have := List.all_eq_true.1 h3 r hr
   rw [Bool.or_eq_true] at this
   exact this.imp Nat.eq_of_beq_eq_true Nat.eq_of_beq_eq_true
  ·exact tmOk_mem h.2 p hp
abbrev bxB (b : Nat) : Blk := ⟨b, 0, 0⟩
abbrev enS (b1 : Blk) (b : Nat) : Env := fun r => bif Nat.beq r 2 then bxB b else b1
structure SrcI (W0 W : World) (b : Nat) (L : List UInt8) : Prop where
 fr : Fr W0 [] W
 bl : Bl b b L W
 hb : W0.heap.size ≤ b
theorem bl_noR {b : Nat} {L : List UInt8} {w : World} (h : Bl b b L w) {σ : Env} {q : Nat} (e : σ q = bxB b) : RowAt σ q noR w := by
 obtain ⟨c, hc⟩ := h.block
 unfold RowAt
 rw [e]
 exact ⟨(Array.getElem?_eq_some_iff.1 hc).1, (fun j v hv => by cases hv), (fun e k he => by cases he), c, 50, (0, 0), hc⟩
theorem SrcI.fwd {W0 W W' : World} {b : Nat} {L : List UInt8} (h : SrcI W0 W b L) (hf : Fr W [] W') : SrcI W0 W' b L := ⟨h.fr.comp hf (fun y hy => by cases hy), h.bl.below hf.below, h.hb⟩
def RwOk (W0 : World) (b1 : Blk) (R : List (Nat × Row)) : Prop := ∀ W' b L, SrcI W0 W' b L → ∀ p ∈ R, (p.1 = 1 ∨ p.1 = 2) ∧ RowAt (enS b1 b) p.1 p.2 W' ∧ pok p.2.ps ∧ p.2.w = false
theorem rwOk_one (W0 : World) (b1 : Blk) : RwOk W0 b1 [(2, noR)] := fun W' b L h p hp => by
 obtain rfl := List.mem_singleton.1 hp
 exact ⟨.inr rfl, bl_noR h.bl rfl, (fun p hp => by cases hp), rfl⟩
theorem rwOk_two {W0 : World} {ρ : Env} (ps : List (List UInt8)) (h1 : RowAt ρ 1 (strR ps) W0) : RwOk W0 (ρ 1) [(1, strR ps), (2, noR)] := fun W' b L h p hp => by
 simp only [List.mem_cons, List.not_mem_nil, or_false] at hp
 rcases hp with rfl | rfl
 ·exact ⟨.inl rfl, rowAt_mv (ρ := ρ) (rowAt_fr h1 h.fr (by simp)) rfl, strR_ok ps, rfl⟩
 ·exact ⟨.inr rfl, bl_noR h.bl rfl, (fun p hp => by cases hp), rfl⟩
theorem wl_nil {σ : Env} {R : List (Nat × Row)} (h : ∀ p ∈ R, p.2.w = false) : wlOf σ R = [] := by
 cases hw : wlOf σ R with
 | nil => rfl
 | cons x l =>
  obtain ⟨p, hp, hw2, _⟩ := wlOf_mem (σ := σ) (rows := R) (b := x) (by rw [hw]; exact List.mem_cons_self ..)
  rw [h p hp] at hw2; cases hw2
theorem env_ids {ρ : Env} {b1 : Blk} {b : Nat} (h1 : ρ 1 = b1) (h2 : ρ 2 = bxB b) {r : Nat} (h : r = 1 ∨ r = 2) : enS b1 b r = ρ r := by
 rcases h with rfl | rfl
 ·exact h1.symm
 ·exact h2.symm
theorem fr_kp {W0 w w' : World} {b : Nat} (hf : Fr W0 [] w) (hk : Below b w w') (hb : W0.heap.size ≤ b) : Fr W0 [] w' :=
 ⟨hk.os.trans hf.os, hk.tape.trans hf.tape, hk.output.trans hf.output, Nat.le_trans hf.size hk.size, fun k hk2 hn => (hk.block k (Nat.lt_of_lt_of_le hk2 hb)).trans (hf.block k hk2 hn)⟩
theorem mid_write {W0 W : World} {b1 : Blk} {b : Nat} {L : List UInt8} {R : List (Nat × Row)} {n k d : Nat} {todo : List Item} {Q : Exit → Act → World → Prop} {tm : List (Nat × TV)} (tm2 : List (Nat × TV)) (q : List UInt8) (hS : SrcI W0 W b L) (hR : RwOk W0 b1 R) (hq : L.length + q.length ≤ 140737488355328)
  (hsz : Nat.ble (k + 1) (hdOps todo).size = true) (hc : xCall (hdOps todo) k (mkSt n tm R []) = some (d, 32, [ptrTo 2, .v (stv q)])) (hd : d < n) (h2 : tmOk d tm tm2) (hi : idsOk tm2 R [] = true)
  (hK : ∀ W', SrcI W0 W' b (L ++ q) → E.Mid Tryd.prog W' ⟨[], enS b1 b, []⟩ n [] todo Q (k + 1) tm2 R) : E.Mid Tryd.prog W ⟨[], enS b1 b, []⟩ n [] todo Q k tm R := by
 refine E.Mid.op (α := World) (some d) (fun W => W) (fun _ => ⟨[], enS b1 b, []⟩) (fun _ => tm2) (fun _ => R) (fun W' => SrcI W0 W' b (L ++ q)) hsz (fun a w ρ K QQ hden hk => ?_) hK
 have e1 : ρ 1 = b1 := hden.e0 1 (.inl (by decide))
 have e2 : ρ 2 = bxB b := hden.e0 2 (.inl (by decide))
 have hSw := hS.fwd hden.fr
 have hv : (ptrTo 2).val ρ = .pointer (some ⟨b, 0, none⟩) := by
  show Value.pointer (some ⟨(ρ 2).1, (ρ 2).2 + (0 + 0 * 0 + 0), none⟩) = _
  rw [e2]
 have hbl := hSw.bl.block
 obtain ⟨c0, hc0⟩ := hbl
 have hlt := (Array.getElem?_eq_some_iff.1 hc0).1
 have hcl := wstr_any b b L q w hSw.bl hq (by omega)
 rw [← hv] at hcl
 refine xCall_ok hc hden ent32 (hcl.mono ?_)
 rintro e w' ⟨rfl, h1, h3⟩
 have hS2 : SrcI W0 w' b (L ++ q) := ⟨fr_kp hSw.fr h3.1 hSw.hb, h1, hS.hb⟩
 have hw : ∀ p ∈ R, p.2.w = false := fun p hp => (hR w' b _ hS2 p hp).2.2.2
 refine ⟨_, rfl, hk w' _ w' (enS b1 b) hS2 ?_⟩
 have := E.den_again (σ := enS b1 b) (d := d) (tm' := tm2) (rows2 := R) (K := []) hden hd (v := .tuple #[.int .i64 (q.length : Int), .nilIface]) (w' := w') (fun p hp => by
  obtain ⟨g1, g2, g3⟩ := tmOk_mem h2 p hp
  exact .inr ⟨g1, g2, fun r hr => env_ids e1 e2 (g3 r hr)⟩) hi (fun p hp => ⟨(hR w' b _ hS2 p hp).2.1, (hR w' b _ hS2 p hp).2.2.1⟩) (fun p hp q hq hpq hw2 => by rw [hw p hp] at hw2; cases hw2) rfl (List.all_eq_true.2 fun p hp => by
   rcases (hR w' b _ hS2 p hp).1 with h | h <;> rw [h] <;> rfl)
 rwa [wl_nil hw] at this
end
end Go.Proofs.YtdbbcngolcnniaaDoor
/- Past a test, step by step; a box made at its place. No condition. -/
namespace Go.Proofs.YtdbbcngolcnniaaDoor
open Go Go.RowKit
set_option linter.unusedVariables false
set_option linter.unusedSimpArgs false
section
open E
def st1 : List Item → List Item
 | .code (.seq x y) :: k => .code x :: .code y :: k
 | .code .skip :: k => k
 | t => t
def flatI : Nat → List Item → List Item
 | 0, t => t
 | n + 1, t => flatI n (st1 t)
def condT (b : Bool) : List Item → List Item
 | .code (.cond c x y) :: k => .code (if b then x else y) :: k
 | t => t
def condC : List Item → Operand
 | .code (.cond c x y) :: _ => c
 | _ => .func 0
def isCond : List Item → Bool
 | .code (.cond c x y) :: _ => true
 | _ => false
theorem kx_st1 {P : Program} {r : Option Nat} {Q : Exit → Act → World → Prop} {a : Act} {w : World} {t : List Item} (h : KX P r (st1 t) Q a w) : KX P r t Q a w := by
 unfold st1 at h
 split at h
 ·exact KX.step (fun b k cs _ => stepR_seq) h
 ·exact KX.step (fun b k cs _ => stepR_skip) h
 ·exact h
theorem kx_flat {P : Program} {r : Option Nat} {Q : Exit → Act → World → Prop} {a : Act} {w : World} : ∀ (n : Nat) (t : List Item), KX P r (flatI n t) Q a w → KX P r t Q a w
 | 0, _, h => h
 | n + 1, t, h => kx_st1 (kx_flat n _ h)
theorem E.At.test {P : Program} {w0 : World} {wr : Bs} {n : Nat} {gl : List Nat} {todo td : List Item} {Q : Exit → Act → World → Prop} {tm : List (Nat × TV)} {rows : List (Nat × Row)} {r : Option Nat} {mk : List Nat} (b : Bool) (hc : isCond todo = true)
  (hv : evalO (mkSt n tm rows gl mk) (condC todo) = some (.s (.lf (.v (.bool b))))) (ht : flatI 9 (condT b todo) = td) (h : At P w0 wr n gl td Q tm rows r mk) : At P w0 wr n gl todo Q tm rows r mk := by
 subst ht
 intro a w ρ hd
 have h1 := kx_flat 9 _ (h a w ρ hd)
 unfold isCond at hc
 split at hc
 ·rename_i c x y k
  have hev := (evalO_ok hd hv).1
  exact KX.step (t' := .code (if b then x else y) :: k) (fun b k cs _ => stepR_cond hev) h1
 ·cases hc
end
end Go.Proofs.YtdbbcngolcnniaaDoor
/- Source: the kind of a source, and Make of it. Its conditions: lengths that fit; the tables of sha as its text lays them. -/
namespace Go.Proofs.YtdbbcngolcnniaaDoor
open Go Go.RowKit
set_option linter.unusedVariables false
set_option linter.unusedSimpArgs false
section
open E
abbrev srcL : List UInt8 := [115, 111, 117, 114, 99, 101]
def accL (ps : List (List UInt8)) (i : Nat) : List UInt8 := srcL ++ ((ps.take i).map fun p => 58 :: p).flatten
def kindL (ps : List (List UInt8)) (sf : Bool) : List UInt8 := accL ps ps.length ++ (if sf then [58, 115, 101, 108, 102] else [])
def sourceR (ps : List (List UInt8)) (sf : Bool) (h n : List UInt8) : Option (List UInt8) := if riseL ps then makeR (kindL ps sf) h n else none
theorem acc_step {ps : List (List UInt8)} {i : Nat} (h : i < ps.length) : accL ps i ++ [58] ++ ps.getD i [] = accL ps (i + 1) := by
 unfold accL
 rw [List.take_add_one, List.map_append, List.flatten_append, List.getD_eq_getElem?_getD, List.getElem?_eq_getElem h]
 simp
theorem acc_len {ps : List (List UInt8)} (hp : ∀ p ∈ ps, p.length ≤ 1000) : ∀ i, i ≤ ps.length → (accL ps i).length ≤ 6 + i * 1001
 | 0, _ => by unfold accL; simp
 | i + 1, h => by
  rw [← acc_step h]
  have h1 := acc_len hp i (by omega)
  have h2 : (ps.getD i []).length ≤ 1000 := hp _ (by rw [List.getD_eq_getElem?_getD, List.getElem?_eq_getElem h]; exact List.getElem_mem _)
  simp only [List.length_append, List.length_cons, List.length_nil]
  omega
theorem E.At.flat {P : Program} {w0 : World} {wr : Bs} {n : Nat} {gl : List Nat} {todo td : List Item} {Q : Exit → Act → World → Prop} {tm : List (Nat × TV)} {rows : List (Nat × Row)} {r : Option Nat} {mk : List Nat} (ht : flatI 9 todo = td) (h : At P w0 wr n gl td Q tm rows r mk) : At P w0 wr n gl todo Q tm rows r mk := by
 subst ht
 exact fun a w ρ hd => kx_flat 9 _ (h a w ρ hd)
theorem inf50 : ((Tryd.prog.info? 50).bind (·.zero)).map (·.cells) = some #[.pointer none, .slice none 0 0] := by kernel_rfl
theorem run_alloc50 (w : World) (a : Act) (o : Oper) (h : o.op = .alloc 50) : (execOp a.eval o).run Tryd.prog w = .ok (.value (.pointer (some ⟨w.heap.size, 0, none⟩))) (w.alloc (.cells #[.pointer none, .slice none 0 0] 50)) := by
 obtain ⟨z, hz, hc⟩ := Option.map_eq_some_iff.1 inf50
 obtain ⟨i, hi, hz2⟩ := Option.bind_eq_some_iff.1 hz
 simp [execOp, h, Instr.alloc, zeroValue, typeInfo, hi, hz2, newVar, newRow, hc]
def tmOkA (d : Nat) (tm : List (Nat × TV)) : List (Nat × TV) → Prop
 | [] => True
 | p :: l => (Nat.beq p.1 d = false ∧ findT tm p.1 = some p.2 ∧ (p.2.ids.all fun r => Nat.beq r 1) = true) ∧ tmOkA d tm l
theorem tmOkA_mem {d : Nat} {tm : List (Nat × TV)} : ∀ {l : List (Nat × TV)}, tmOkA d tm l → ∀ p ∈ l, p.1 ≠ d ∧ findT tm p.1 = some p.2 ∧ ∀ r ∈ p.2.ids, r = 1
 | [], _, p, hp => by cases hp
 | q :: l, h, p, hp => by
  rcases List.mem_cons.1 hp with rfl | hp
  ·obtain ⟨⟨h1, h2, h3⟩, _⟩ := h
   exact ⟨(fun e => by rw [e, Nat.beq_refl] at h1; cases h1), h2, fun r hr => Nat.eq_of_beq_eq_true (List.all_eq_true.1 h3 r hr)⟩
  ·exact tmOkA_mem h.2 p hp
theorem mid_made {W0 : World} {ρ0 : Env} {R0 R : List (Nat × Row)} {Q : Exit → Act → World → Prop} {tm : List (Nat × TV)} (tmA : List (Nat × TV)) (hR : RwOk W0 (ρ0 1) R) (h2 : tmOkA 10 tm tmA) (hi : idsOk ((10, ptrTo 2) :: tmA) R [] = true)
  (hK : ∀ W' b, SrcI W0 W' b [] → E.Mid Tryd.prog W' ⟨[], enS (ρ0 1) b, []⟩ Tryd.f13.ntmps [] (rp Tryd.f13 3) Q 1 ((10, ptrTo 2) :: tmA) R) : E.Mid Tryd.prog W0 ⟨[], ρ0, []⟩ Tryd.f13.ntmps [] (rp Tryd.f13 3) Q 0 tm R0 := by
 refine E.Mid.op (α := World × Nat) (some 10) (fun y => y.1) (fun y => ⟨[], enS (ρ0 1) y.2, []⟩) (fun _ => (10, ptrTo 2) :: tmA) (fun _ => R) (fun y => SrcI W0 y.1 y.2 []) (by kernel_rfl) (fun a w ρ K QQ hden hk => ?_) fun y hy => hK y.1 y.2 hy
 have e1 : ρ 1 = ρ0 1 := hden.e0 1 (.inl (by decide))
 obtain ⟨oo, hoo, hop, hdst, hgd⟩ : ∃ oo : Oper, (hdOps (rp Tryd.f13 3))[0]? = some oo ∧ oo.op = .alloc 50 ∧ oo.dst = some 10 ∧ oo.guard = none := ⟨(hdOps (rp Tryd.f13 3)).getD 0 default, by kernel_rfl, by kernel_rfl, by kernel_rfl, by kernel_rfl⟩
 refine E.xOp_ok (o := oo) (d := 10) (v := .pointer (some ⟨w.heap.size, 0, none⟩)) (w' := w.alloc (.cells #[.pointer none, .slice none 0 0] 50)) rfl hoo hdst hgd (run_alloc50 _ _ _ hop) ?_
 have hS : SrcI W0 (w.alloc (.cells #[.pointer none, .slice none 0 0] 50)) w.heap.size [] := ⟨fr_kp hden.fr ((Below.refl _ _).alloc (Nat.le_refl _) _) hden.fr.size, Lib.IsBuilderF.of (Lib.fresh_isBuilder 50 5 w), hden.fr.size⟩
 have hw : ∀ p ∈ R, p.2.w = false := fun p hp => (hR _ _ _ hS p hp).2.2.2
 refine hk (w.alloc (.cells #[.pointer none, .slice none 0 0] 50), w.heap.size) _ _ (enS (ρ0 1) w.heap.size) hS ?_
 have := E.den_again (σ := enS (ρ0 1) w.heap.size) (d := 10) (tm' := (10, ptrTo 2) :: tmA) (rows2 := R) (K := []) hden (by decide) (v := .pointer (some ⟨w.heap.size, 0, none⟩)) (w' := w.alloc (.cells #[.pointer none, .slice none 0 0] 50)) (fun p hp => by
  rcases List.mem_cons.1 hp with rfl | hp
  ·exact .inl ⟨rfl, rfl, trivial⟩
  ·obtain ⟨g1, g2, g3⟩ := tmOkA_mem h2 p hp
   exact .inr ⟨g1, g2, fun r hr => by rw [g3 r hr]; exact e1.symm⟩) hi (fun p hp => ⟨(hR _ _ _ hS p hp).2.1, (hR _ _ _ hS p hp).2.2.1⟩) (fun p hp q hq hpq hw2 => by rw [hw p hp] at hw2; cases hw2) rfl (List.all_eq_true.2 fun p hp => by
   rcases (hR _ _ _ hS p hp).1 with h | h <;> rw [h] <;> rfl)
 rwa [wl_nil hw] at this
abbrev SrcOut (W0 : World) (o : Option (List UInt8)) (e : Ending) (w' : World) : Prop := e = .returned (makeW o) ∧ Fr W0 [] w'
set_option maxRecDepth 100000 in
theorem src_end {W0 W : World} (hG : S3.Glob W0) {b1 : Blk} {b : Nat} {L h n : List UInt8} (hS : SrcI W0 W b L) (hL : L.length ≤ 800000) (hh : h.length ≤ 1000000000) (hn : n.length ≤ 1000000000) :
  At Tryd.prog W ⟨[], enS b1 b, []⟩ Tryd.f13.ntmps [] (rp Tryd.f13 13) (EndX Tryd.prog Tryd.f13 (SrcOut W0 (makeR L h n))) [(2, .v (stv h)), (3, .v (stv n)), (10, ptrTo 2)] [(2, noR)] := by
 refine E.At.reg rfl (E.Mid.op (α := World) (some 29) (fun y => y) (fun _ => ⟨[], enS b1 b, []⟩) (fun _ => [(29, .v (stv L)), (2, .v (stv h)), (3, .v (stv n))]) (fun _ => [(2, noR)]) (fun y => SrcI W0 y b L) (by kernel_rfl) (fun a w ρ K QQ hden hk => ?_) fun W' hW' => ?_)
 ·have e1 : ρ 1 = b1 := hden.e0 1 (.inl (by decide))
  have e2 : ρ 2 = bxB b := hden.e0 2 (.inl (by decide))
  have hSw := hS.fwd hden.fr
  have hv : (ptrTo 2).val ρ = .pointer (some ⟨b, 0, none⟩) := by
   show Value.pointer (some ⟨(ρ 2).1, (ρ 2).2 + (0 + 0 * 0 + 0), none⟩) = _
   rw [e2]
  obtain ⟨c0, hc0⟩ := hSw.bl.block
  have hlt := (Array.getElem?_eq_some_iff.1 hc0).1
  have hcl := Builder_String_any_k b b L w hSw.bl (by omega)
  rw [← hv] at hcl
  refine xCall_ok (d := 29) (f := 33) (vs := [ptrTo 2]) (by kernel_rfl) hden ent33 (hcl.mono ?_)
  rintro e w' ⟨rfl, g1, g2, g3⟩
  have hS2 : SrcI W0 w' b L := ⟨fr_kp hSw.fr g2 hSw.hb, g1, hS.hb⟩
  refine ⟨_, rfl, hk w' _ w' (enS b1 b) hS2 (E.den_again (d := 29) (tm' := [(29, .v (stv L)), (2, .v (stv h)), (3, .v (stv n))]) (rows2 := [(2, noR)]) (K := []) hden (by decide) (fun p hp => ?_) rfl (fun p hp => ?_) (fun p hp q hq hpq hw => ?_) rfl rfl)⟩
  ·simp only [List.mem_cons, List.not_mem_nil, or_false] at hp
   rcases hp with rfl | rfl | rfl
   ·exact .inl ⟨rfl, rfl, rfl⟩
   ·exact .inr ⟨(show (2 : Nat) ≠ 29 by decide), rfl, fun r hr => by cases hr⟩
   ·exact .inr ⟨(show (3 : Nat) ≠ 29 by decide), rfl, fun r hr => by cases hr⟩
  ·obtain rfl := List.mem_singleton.1 hp
   exact ⟨bl_noR hS2.bl rfl, fun p hp => by cases hp⟩
  ·obtain rfl := List.mem_singleton.1 hp
   cases hw
 ·have hG' := glob_keep hG hW'.fr (by simp) (by simp)
  have hmk := hMk_ok (wr := ⟨[], enS b1 b, []⟩) 14003 L h n _ hL hh hn hG' (by simp) (by simp) rfl
  generalize makeR L h n = o at hmk
  have hfin : ∀ {w' : World}, Fr W' [] w' → Fr W0 [] w' := fun hf => hW'.fr.comp hf fun y hy => by cases hy
  cases o with
  | some t =>
   refine E.Mid.run 8 [(14003, hMk L h n (some t))] ⟨hmk, trivial⟩ (tm2 := [(8, .v (stv t)), (9, .v (.bool true))]) (rows2 := [(2, noR)]) (ob := qL (hMk L h n (some t))) (by kernel_rfl) (all_qL _) rfl ?_
   exact E.Mid.out (by kernel_rfl) (At.fin rfl [] trivial [] (x := makeV (some t)) (ob := []) (by kernel_rfl) trivial fun ρ' w' hf _ => ⟨rfl, hfin hf⟩)
  | none =>
   refine E.Mid.run 8 [(14003, hMk L h n none)] ⟨hmk, trivial⟩ (tm2 := [(8, .v (stv [])), (9, .v (.bool false))]) (rows2 := [(2, noR)]) (ob := qL (hMk L h n none)) (by kernel_rfl) (all_qL _) rfl ?_
   exact E.Mid.out (by kernel_rfl) (At.fin rfl [] trivial [] (x := makeV none) (ob := []) (by kernel_rfl) trivial fun ρ' w' hf _ => ⟨rfl, hfin hf⟩)
end
end Go.Proofs.YtdbbcngolcnniaaDoor
/- Source, whole. Its conditions: lengths that fit; the tables of sha as its text lays them. -/
namespace Go.Proofs.YtdbbcngolcnniaaDoor
open Go Go.RowKit
set_option linter.unusedVariables false
set_option linter.unusedSimpArgs false
section
open E
abbrev selfL : List UInt8 := [58, 115, 101, 108, 102]
set_option maxRecDepth 100000 in
theorem src_self {W0 W : World} (hG : S3.Glob W0) {b1 : Blk} {b : Nat} {L h n : List UInt8} (hS : SrcI W0 W b L) (hL : L.length ≤ 700000) (hh : h.length ≤ 1000000000) (hn : n.length ≤ 1000000000) :
  At Tryd.prog W ⟨[], enS b1 b, []⟩ Tryd.f13.ntmps [] (rp Tryd.f13 12) (EndX Tryd.prog Tryd.f13 (SrcOut W0 (makeR (L ++ selfL) h n))) [(2, .v (stv h)), (3, .v (stv n)), (10, ptrTo 2)] [(2, noR)] := by
 refine E.At.reg rfl (mid_write (d := 28) [(2, .v (stv h)), (3, .v (stv n)), (10, ptrTo 2)] selfL hS (rwOk_one _ _) (by show _ + 5 ≤ _; omega) (by kernel_rfl) (by kernel_rfl) (by decide) ⟨⟨rfl, rfl, rfl⟩, ⟨rfl, rfl, rfl⟩, ⟨rfl, rfl, rfl⟩, trivial⟩ rfl fun W' hS' => E.Mid.out (by kernel_rfl) (E.At.flat (td := rp Tryd.f13 13) (by kernel_rfl) (src_end hG hS' (by rw [List.length_append]; show _ + 5 ≤ _; omega) hh hn)))
structure SrX where
 W : World
 i : Nat
abbrev srT (ps : List (List UInt8)) (sf : Bool) (h n : List UInt8) (i : Nat) : List (Nat × TV) := [(1, .v (.bool sf)), (2, .v (stv h)), (3, .v (stv n)), (10, ptrTo 2), (17, .s (.lf (.sl 1 0 0 1 ps.length none))), (18, .int .i64 (ps.length : Int)), (19, .int .i64 (i : Int))]
set_option maxRecDepth 100000 in
theorem src_loop {W0 : World} (hG : S3.Glob W0) (ps : List (List UInt8)) (hps : ps.length ≤ 600) (hp : ∀ p ∈ ps, p.length ≤ 1000) (sf : Bool) {h n : List UInt8} (hh : h.length ≤ 1000000000) (hn : n.length ≤ 1000000000) (ρ0 : Env) (h1 : RowAt ρ0 1 (strR ps) W0) (b : Nat) :
  ∀ x : SrX, (SrcI W0 x.W b (accL ps x.i) ∧ x.i ≤ ps.length) → At Tryd.prog x.W ⟨[], enS (ρ0 1) b, []⟩ Tryd.f13.ntmps [] (lp Tryd.f13 0) (EndX Tryd.prog Tryd.f13 (SrcOut W0 (makeR (kindL ps sf) h n))) (srT ps sf h n x.i) [(1, strR ps), (2, noR)] := by
 refine At.loopW (fun x : SrX => x.W) (fun x => ⟨[], enS (ρ0 1) b, []⟩) (fun x => srT ps sf h n x.i) (fun x => [(1, strR ps), (2, noR)]) (fun x => SrcI W0 x.W b (accL ps x.i) ∧ x.i ≤ ps.length) (fun x => ps.length - x.i) ?_
 rintro ⟨W, i⟩ ⟨hS, hi⟩ ih
 simp only at hS hi ih ⊢
 have hal := acc_len hp i hi
 have hR := rwOk_two ps h1
 by_cases hlt : i < ps.length
 ·obtain ⟨x, hx⟩ : ∃ x, x = ps.getD i [] := ⟨_, rfl⟩
  have hxm : x ∈ ps := by rw [hx, List.getD_eq_getElem?_getD, List.getElem?_eq_getElem hlt]; exact List.getElem_mem hlt
  have hxl := hp x hxm
  have hv : TV.v (stv (ps.getD (addN 0 (i : Int).toNat) [])) = TV.v (stv x) := by rw [hx, addN_eq, Nat.zero_add, Int.toNat_natCast]
  have hd : decide ((i : Int) < (ps.length : Int)) = true := decide_eq_true (by omega)
  have hib : 0 ≤ (i : Int) ∧ (i : Int) < (ps.length : Int) := ⟨by omega, by omega⟩
  have hidx : addN 0 (i : Int).toNat < ps.length := by rw [addN_eq]; omega
  have i2 : inI ((i : Int) + 1) := ⟨by omega, by omega⟩
  have hst := acc_step hlt
  rw [← hx] at hst
  refine At.run rfl [(2008001, .val (.v (stv x)))] ⟨trivial, trivial⟩ [.y] (tm2 := (12, .v (stv x)) :: srT ps sf h n i) (rows2 := [(1, strR ps), (2, noR)]) (ob := [decide ((i : Int) < (ps.length : Int)) = true, 0 ≤ (i : Int) ∧ (i : Int) < (ps.length : Int), TV.v (stv (ps.getD (addN 0 (i : Int).toNat) [])) = TV.v (stv x), addN 0 (i : Int).toNat < ps.length]) (td := rp Tryd.f13 8) (by kernel_rfl) ⟨hd, hib, hv, hidx, trivial⟩ rfl rfl (by intro h; cases h) ?_
  refine E.At.reg rfl (mid_write (d := 23) ((12, .v (stv x)) :: srT ps sf h n i) [58] hS hR (by show _ + 1 ≤ _; omega) (by kernel_rfl) (by kernel_rfl) (by decide) ⟨⟨rfl, rfl, rfl⟩, ⟨rfl, rfl, rfl⟩, ⟨rfl, rfl, rfl⟩, ⟨rfl, rfl, rfl⟩, ⟨rfl, rfl, rfl⟩, ⟨rfl, rfl, rfl⟩, ⟨rfl, rfl, rfl⟩, ⟨rfl, rfl, rfl⟩, trivial⟩ rfl fun W' hS' => E.Mid.out (by kernel_rfl) (E.At.flat (td := rp Tryd.f13 9) (by kernel_rfl) ?_))
  refine E.At.reg rfl (E.Mid.run 1 [] trivial (tm2 := (24, .v (stv x)) :: srT ps sf h n i) (rows2 := [(1, strR ps), (2, noR)]) (ob := []) (by kernel_rfl) trivial rfl ?_)
  refine mid_write (d := 25) (srT ps sf h n i) x hS' hR (by rw [List.length_append]; show _ + 1 + _ ≤ _; omega) (by kernel_rfl) (by kernel_rfl) (by decide) ⟨⟨rfl, rfl, rfl⟩, ⟨rfl, rfl, rfl⟩, ⟨rfl, rfl, rfl⟩, ⟨rfl, rfl, rfl⟩, ⟨rfl, rfl, rfl⟩, ⟨rfl, rfl, rfl⟩, ⟨rfl, rfl, rfl⟩, trivial⟩ rfl fun W2 hS2 => E.Mid.out (by kernel_rfl) ?_
  rw [hst] at hS2
  exact At.run rfl [] trivial [] (tm2 := srT ps sf h n (i + 1)) (rows2 := [(1, strR ps), (2, noR)]) (ob := [inI ((i : Int) + 1)]) (td := lp Tryd.f13 0) (by kernel_rfl) ⟨i2, trivial⟩ rfl rfl (by intro h; cases h) (ih ⟨W2, i + 1⟩ ⟨hS2, hlt⟩ (by show ps.length - (i + 1) < ps.length - i; omega))
 ·obtain rfl : i = ps.length := by omega
  have hdc : decide ((ps.length : Int) < (ps.length : Int)) = false := decide_eq_false (by omega)
  cases sf with
  | true => exact At.run rfl [] trivial [.n, .d] (tm2 := [(2, .v (stv h)), (3, .v (stv n)), (10, ptrTo 2)]) (rows2 := [(2, noR)]) (ob := [decide ((ps.length : Int) < (ps.length : Int)) = false]) (td := rp Tryd.f13 12) (by kernel_rfl) ⟨hdc, trivial⟩ rfl rfl (by intro h; cases h) (src_self hG hS (by omega) hh hn)
  | false =>
   have hk : kindL ps false = accL ps ps.length := by unfold kindL; simp
   rw [hk]
   exact At.run rfl [] trivial [.n, .d] (tm2 := [(2, .v (stv h)), (3, .v (stv n)), (10, ptrTo 2)]) (rows2 := [(2, noR)]) (ob := [decide ((ps.length : Int) < (ps.length : Int)) = false]) (td := rp Tryd.f13 13) (by kernel_rfl) ⟨hdc, trivial⟩ rfl rfl (by intro h; cases h) (src_end hG hS (by omega) hh hn)
abbrev hRs (ps : List (List UInt8)) (b : Bool) : Hint := pr 31 (fun ρ => #[(TV.s (.lf (.sl 1 0 0 1 ps.length none))).val ρ]) (.v (.bool b)) [(1, strR ps)]
theorem hRs_ok (id : Nat) (ps : List (List UInt8)) (hps : ps.length ≤ 1000000) (hp : ∀ p ∈ ps, p.length ≤ 1000000) {b : Bool} (hb : riseL ps = b) : HintOk Tryd.prog id (hRs ps b) := pr_ok ent31 (v := .bool b) rfl (fun _ => rfl) fun ρ w h => by
 rw [← hb]
 exact rise_pos ps hps hp w ρ (h _ (List.mem_singleton.2 rfl))
abbrev s0T (ps : List (List UInt8)) (sf : Bool) (h n : List UInt8) : List (Nat × TV) := [(0, .s (.lf (.sl 1 0 0 1 ps.length none))), (1, .v (.bool sf)), (2, .v (stv h)), (3, .v (stv n))]
set_option maxRecDepth 100000 in
theorem source_pos (ps : List (List UInt8)) (hps : ps.length ≤ 600) (hp : ∀ p ∈ ps, p.length ≤ 1000) (sf : Bool) (h n : List UInt8) (hh : h.length ≤ 1000000000) (hn : n.length ≤ 1000000000) (W : World) (hG : S3.Glob W) (ρ : Env) (h1 : RowAt ρ 1 (strR ps) W) :
  Calls Tryd.prog 13 #[(TV.s (.lf (.sl 1 0 0 1 ps.length none))).val ρ, .bool sf, stv h, stv n] W (SrcOut W (sourceR ps sf h n)) := by
 refine At.calls (args := [.s (.lf (.sl 1 0 0 1 ps.length none)), .v (.bool sf), .v (stv h), .v (stv n)]) (rows := [(1, strR ps)]) (gl := []) (wr := []) (ρ := ρ) Tryd.func13 rfl rfl (init_rw ⟨trivial, rfl, rfl, rfl, trivial⟩ rfl rfl rfl (fun p hp => by obtain rfl := List.mem_singleton.1 hp; exact ⟨h1, strR_ok ps⟩) (fun p hp hw => by obtain rfl := List.mem_singleton.1 hp; cases hw) (fun p hp q hq hpq hw => by obtain rfl := List.mem_singleton.1 hp; cases hw)) rfl ?_
 cases hr : riseL ps with
 | false =>
  have hk := hRs_ok 2001 ps (by omega) (fun p h => Nat.le_trans (hp p h) (by decide)) hr
  have ho : sourceR ps sf h n = none := by unfold sourceR; rw [hr]; rfl
  rw [ho]
  exact At.fin rfl [(2001, hRs ps false)] ⟨hk, trivial⟩ [.d] (x := makeV none) (ob := qL (hRs ps false)) (by kernel_rfl) (all_qL _) fun ρ' w' hf _ => ⟨rfl, hf⟩
 | true =>
  have hk := hRs_ok 2001 ps (by omega) (fun p h => Nat.le_trans (hp p h) (by decide)) hr
  have ho : sourceR ps sf h n = makeR (kindL ps sf) h n := by unfold sourceR; rw [hr]; rfl
  rw [ho]
  refine At.run rfl [(2001, hRs ps true)] ⟨hk, trivial⟩ [] (tm2 := (15, .v (.bool false)) :: s0T ps sf h n) (rows2 := [(1, strR ps)]) (ob := qL (hRs ps true)) (td := flatI 3 (rp Tryd.f13 1).tail) (by kernel_rfl) (all_qL _) rfl rfl (by intro h; cases h) ?_
  refine E.At.test false (by kernel_rfl) (by kernel_rfl) (td := rp Tryd.f13 3) (by kernel_rfl) ?_
  have hR := rwOk_two ps h1
  refine E.At.reg rfl (mid_made (s0T ps sf h n) hR ⟨⟨rfl, rfl, rfl⟩, ⟨rfl, rfl, rfl⟩, ⟨rfl, rfl, rfl⟩, ⟨rfl, rfl, rfl⟩, trivial⟩ rfl fun W1 b hS1 => E.Mid.out (by kernel_rfl) (E.At.flat (td := rp Tryd.f13 4) (by kernel_rfl) ?_))
  refine E.At.reg rfl (mid_write (d := 16) ((10, ptrTo 2) :: s0T ps sf h n) srcL hS1 hR (by decide) (by kernel_rfl) (by kernel_rfl) (by decide) ⟨⟨rfl, rfl, rfl⟩, ⟨rfl, rfl, rfl⟩, ⟨rfl, rfl, rfl⟩, ⟨rfl, rfl, rfl⟩, ⟨rfl, rfl, rfl⟩, trivial⟩ rfl fun W2 hS2 => E.Mid.out (by kernel_rfl) ?_)
  exact At.run rfl [] trivial [] (tm2 := srT ps sf h n 0) (rows2 := [(1, strR ps), (2, noR)]) (ob := []) (td := lp Tryd.f13 0) (by kernel_rfl) trivial rfl rfl (by intro h; cases h) (src_loop hG ps hps hp sf hh hn ρ h1 b ⟨W2, 0⟩ ⟨hS2, Nat.zero_le _⟩)
set_option maxRecDepth 100000 in
theorem source_nil (pa : Option Addr) (ca : Nat) (sf : Bool) (h n : List UInt8) (hh : h.length ≤ 1000000000) (hn : n.length ≤ 1000000000) (W : World) (hG : S3.Glob W) :
  Calls Tryd.prog 13 #[.slice pa 0 ca, .bool sf, stv h, stv n] W (SrcOut W (makeR (kindL [] sf) h n)) := by
 refine At.calls (args := [.v (.slice pa 0 ca), .v (.bool sf), .v (stv h), .v (stv n)]) (rows := []) (gl := []) (wr := []) (ρ := fun _ => (⟨0, 0, 0⟩ : Blk)) Tryd.func13 rfl rfl (init_rw ⟨rfl, rfl, rfl, rfl, trivial⟩ rfl rfl rfl (fun p hp => by cases hp) (fun p hp => by cases hp) (fun p hp => by cases hp)) rfl ?_
 have hk : HintOk Tryd.prog 2001 (pc 31 #[.slice pa 0 ca] (.v (.bool true))) := pc_ok ent31 (v := .bool true) rfl (fun _ => rfl) fun w => rise_nil pa ca w
 refine At.run rfl [(2001, pc 31 #[.slice pa 0 ca] (.v (.bool true)))] ⟨hk, trivial⟩ [] (tm2 := [(15, .v (.bool false)), (0, .v (.slice pa 0 ca)), (1, .v (.bool sf)), (2, .v (stv h)), (3, .v (stv n))]) (rows2 := []) (ob := qL (pc 31 #[.slice pa 0 ca] (.v (.bool true)))) (td := flatI 3 (rp Tryd.f13 1).tail) (by kernel_rfl) (all_qL _) rfl rfl (by intro h; cases h) ?_
 refine E.At.test false (by kernel_rfl) (by kernel_rfl) (td := rp Tryd.f13 3) (by kernel_rfl) ?_
 have hR : RwOk W ⟨0, 0, 0⟩ [(2, noR)] := rwOk_one W _
 refine E.At.reg rfl (mid_made (ρ0 := fun _ => (⟨0, 0, 0⟩ : Blk)) [(0, .v (.slice pa 0 ca)), (1, .v (.bool sf)), (2, .v (stv h)), (3, .v (stv n))] hR ⟨⟨rfl, rfl, rfl⟩, ⟨rfl, rfl, rfl⟩, ⟨rfl, rfl, rfl⟩, ⟨rfl, rfl, rfl⟩, trivial⟩ rfl fun W1 b hS1 => E.Mid.out (by kernel_rfl) (E.At.flat (td := rp Tryd.f13 4) (by kernel_rfl) ?_))
 refine E.At.reg rfl (mid_write (d := 16) [(10, ptrTo 2), (0, .v (.slice pa 0 ca)), (1, .v (.bool sf)), (2, .v (stv h)), (3, .v (stv n))] srcL hS1 hR (by decide) (by kernel_rfl) (by kernel_rfl) (by decide) ⟨⟨rfl, rfl, rfl⟩, ⟨rfl, rfl, rfl⟩, ⟨rfl, rfl, rfl⟩, ⟨rfl, rfl, rfl⟩, ⟨rfl, rfl, rfl⟩, trivial⟩ rfl fun W2 hS2 => E.Mid.out (by kernel_rfl) ?_)
 cases sf with
 | true => exact At.run rfl [] trivial [.u, .d, .d] (tm2 := [(2, .v (stv h)), (3, .v (stv n)), (10, ptrTo 2)]) (rows2 := [(2, noR)]) (ob := []) (td := rp Tryd.f13 12) (by kernel_rfl) trivial rfl rfl (by intro h; cases h) (src_self hG hS2 (by decide) hh hn)
 | false => exact At.run rfl [] trivial [.u, .d, .d] (tm2 := [(2, .v (stv h)), (3, .v (stv n)), (10, ptrTo 2)]) (rows2 := [(2, noR)]) (ob := []) (td := rp Tryd.f13 13) (by kernel_rfl) trivial rfl rfl (by intro h; cases h) (src_end hG hS2 (by decide) hh hn)
end
end Go.Proofs.YtdbbcngolcnniaaDoor
/- PathKinds' law: the kind of a source names its refs, in order, and itself: it is Make of that. Its conditions: lengths that fit; the tables of sha as its text lays them. -/
namespace Go.Proofs.YtdbbcngolcnniaaDoor
open Go Go.RowKit
set_option linter.unusedVariables false
set_option linter.unusedSimpArgs false
section
open E
def minL (u v : List UInt8) : List UInt8 := if u < v ∨ u = v then u else v
def maxL (u v : List UInt8) : List UInt8 := if u < v then v else u
theorem minL_or (u v : List UInt8) : minL u v = u ∨ minL u v = v := by unfold minL; split <;> simp
theorem maxL_or (u v : List UInt8) : maxL u v = u ∨ maxL u v = v := by unfold maxL; split <;> simp
theorem run_minL (P : Program) (w : World) (a : Act) (o : Oper) (c : Call) (u v : List UInt8) (hop : o.op = .call c) (hcal : c.callee = .builtin .min) (h1 : c.args.map a.eval = #[stv u, stv v]) : (execOp a.eval o).run P w = .ok (.value (stv (minL u v))) w := by
 have h := Lib.run_min_strs (P := P) w c.argTypes o.type ⟨u.toArray⟩ ⟨v.toArray⟩
 have e : Lib.minS ⟨u.toArray⟩ ⟨v.toArray⟩ = ⟨(minL u v).toArray⟩ := by
  unfold Lib.minS minL
  simp only
  split <;> rfl
 rw [e] at h
 simp only [execOp, hop, resolve, hcal, Sem.run_bind, Sem.run_pure, Result.andThen_ok, invoke, builtin, h1]
 simp only [h, Result.andThen_ok, Sem.run_pure]
theorem run_maxL (P : Program) (w : World) (a : Act) (o : Oper) (c : Call) (u v : List UInt8) (hop : o.op = .call c) (hcal : c.callee = .builtin .max) (h1 : c.args.map a.eval = #[stv u, stv v]) : (execOp a.eval o).run P w = .ok (.value (stv (maxL u v))) w := by
 have h := Lib.run_max_strs (P := P) w c.argTypes o.type ⟨u.toArray⟩ ⟨v.toArray⟩
 have e : Lib.maxS ⟨u.toArray⟩ ⟨v.toArray⟩ = ⟨(maxL u v).toArray⟩ := by
  unfold Lib.maxS maxL
  simp only
  split <;> rfl
 rw [e] at h
 simp only [execOp, hop, resolve, hcal, Sem.run_bind, Sem.run_pure, Result.andThen_ok, invoke, builtin, h1]
 simp only [h, Result.andThen_ok, Sem.run_pure]
theorem leS_eq (x y : List UInt8) : leS x y = (decide (x < y) || x == y) := by
 unfold leS
 rw [Proofs.bytesLess_eq]; rfl
theorem rise_mm {u v : List UInt8} (hu : (parseR u).isSome = true) (hv : (parseR v).isSome = true) : riseL [minL u v, maxL u v] = !(minL u v == maxL u v) := by
 have h1 : (parseR (minL u v)).isSome = true := by rcases minL_or u v with h | h <;> rw [h] <;> assumption
 have h2 : (parseR (maxL u v)).isSome = true := by rcases maxL_or u v with h | h <;> rw [h] <;> assumption
 have h3 : ¬ maxL u v < minL u v := by
  unfold minL maxL
  by_cases h : u < v
  ·rw [if_pos h, if_pos (.inl h)]
   exact List.lt_asymm h
  ·rw [if_neg h]
   by_cases he : u = v
   ·rw [if_pos (.inr he)]
    exact List.lt_irrefl _
   ·rw [if_neg (fun h' => h'.elim h he)]
    exact h
 have h4 : leS (maxL u v) (minL u v) = (minL u v == maxL u v) := by
  rw [leS_eq, decide_eq_false h3, Bool.false_or, Bool.eq_iff_iff, beq_iff_eq, beq_iff_eq]
  exact ⟨Eq.symm, Eq.symm⟩
 show (okAt _ 0 && (okAt _ 1 && true)) = _
 unfold okAt
 show ((parseR (minL u v)).isSome && (decide (0 = 0) || _) && ((parseR (maxL u v)).isSome && (decide (1 = 0) || !leS (maxL u v) (minL u v)) && true)) = _
 rw [h1, h2, h4]
 simp
abbrev rwB (p q : List UInt8) : Row := ⟨[.fnc (chunkF [stv p, stv q] 1 2) 1 2], true, some (9, 1)⟩
theorem rwB_str {ρ : Env} {r : Nat} {p q : List UInt8} {w : World} (h : RowAt ρ r (rwB p q) w) : RowAt (fun _ => ρ r) 1 (strR [p, q]) w := by
 have hl : lst (fun _ => ρ r) (strR [p, q]).ps = lst ρ (rwB p q).ps := rfl
 unfold RowAt at h ⊢
 exact ⟨h.1, fun j v hv => ⟨(h.2.1 j v (by rw [← hl]; exact hv)).1, fun h => by cases h⟩, (fun e k he => by cases he), h.2.2.2⟩
theorem makeV_ok (o : Option (List UInt8)) : (makeV o).ok := by
 cases o <;> exact tup2_ok _ _ rfl rfl
theorem make_yes {k s n : List UInt8} (hs : s.length = 32) (hn : nmP n = true) : makeR k s n = some (makeL k s n) := by
 unfold makeR
 rw [hn, decide_eq_true hs]; rfl
end
end Go.Proofs.YtdbbcngolcnniaaDoor
/- PathKinds' law, whole. Its conditions: lengths that fit; the tables of sha as its text lays them. -/
namespace Go.Proofs.YtdbbcngolcnniaaDoor
open Go Go.RowKit
set_option linter.unusedVariables false
set_option linter.unusedSimpArgs false
section
open E
theorem two_args {a : Act} {x y : Value} {c : Call} {s t : Nat} (hc : c.args = #[.tmp s, .tmp t]) (hx : a.eval (.tmp s) = x) (hy : a.eval (.tmp t) = y) : c.args.map a.eval = #[x, y] := by
 rw [hc]
 simp [hx, hy]
end
end Go.Proofs.YtdbbcngolcnniaaDoor
