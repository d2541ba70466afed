/- Several texts, one behind the other; each says by itself what it proves, and on what conditions. -/
import Derived.Test.YtdbbcngolcnniaaGreatDoorY20
import Derived.ProofKit
import Derived.LaidMore
import Derived.LaidHandle
import Derived.LaidLaws
import Derived.OpenShut
import Derived.ChangeArms
import Derived.Stop.Joined
/- The document's Change. Its condition: lengths that fit. -/
namespace Go.Proofs.YtdbbcngolcnniaaGreatDoor
open Go.RowKit Go.Shelf
set_option linter.unusedVariables false
set_option linter.unusedSimpArgs false
section
open E
theorem ent10 : Enters Tryz.prog 10 := enters_of Tryz.func10 (by kernel_rfl) rfl
abbrev gF (b p : List UInt8) (x j : Nat) : Nat → List Value := fun q => [.int .u8 (((if x ≤ q ∧ q < x + j then p.getD (q - x) 0 else b.getD q 0).toNat : Nat) : Int)]
abbrev gFR (b p : List UInt8) (x j n : Nat) : Row := ⟨[.fnc (gF b p x j) 1 n], true, none⟩
theorem gF_zero (b p : List UInt8) (x q : Nat) : gF b p x 0 q = byteF b q := by
 show [Value.int .u8 _] = [Value.int .u8 _]
 rw [if_neg (by omega)]
theorem gF_all {b p : List UInt8} {x q : Nat} (h : x + p.length ≤ b.length) : gF b p x p.length q = byteF (putL b p x) q := by
 show [Value.int .u8 _] = [Value.int .u8 (((putL b p x).getD q 0).toNat : Int)]
 rw [putL_getD h]
theorem gF_step {b p : List UInt8} {x j q : Nat} : updF (gF b p x j) (addN 0 ((x : Int) + (j : Int)).toNat) ((gF b p x j (addN 0 ((x : Int) + (j : Int)).toNat)).set 0 (.int .u8 ((p.getD (j : Int).toNat 0).toNat : Int))) q = gF b p x (j + 1) q := by
 have e : addN 0 ((x : Int) + (j : Int)).toNat = x + j := by rw [addN_eq]; omega
 rw [e, Int.toNat_natCast]
 by_cases h : q = x + j
 ·subst h
  rw [updF_same]
  show [Value.int .u8 _] = [Value.int .u8 _]
  rw [if_pos (by omega), Nat.add_sub_cancel_left]
 ·rw [updF_ne _ _ h]
  show [Value.int .u8 _] = [Value.int .u8 _]
  by_cases h2 : x ≤ q ∧ q < x + j
  ·rw [if_pos h2, if_pos (by omega)]
  ·rw [if_neg h2, if_neg (by omega)]
abbrev dcT (p : List UInt8) (n m i : Nat) : List (Nat × TV) := [(2, .v (stv p)), (7, .s (.lf (.sl 4001 0 0 1 n none))), (8, .s (.lf (.sl 5002 0 0 1 m none))), (9, .int .i64 (i : Int))]
abbrev dcT2 (p : List UInt8) (n m i j : Nat) : List (Nat × TV) := [(2, .v (stv p)), (7, .s (.lf (.sl 4001 0 0 1 n none))), (8, .s (.lf (.sl 5002 0 0 1 m none))), (9, .int .i64 (i : Int)), (10, .int .i64 (j : Int))]
set_option maxRecDepth 100000 in
theorem rchange_any (s o p : List UInt8) (hs : s.length ≤ 1000000) (ho : o.length ≤ 1000000) (hp : p.length ≤ 1000000) (w : World) : Calls Tryz.prog 10 #[stv s, stv o, stv p] w fun e w' => e = .returned (stv (changeL s o p)) ∧ Fr w [] w' := by
 refine At.calls (args := [.v (stv s), .v (stv o), .v (stv p)]) (rows := []) (gl := []) (wr := []) (ρ := fun _ => (⟨0, 0, 0⟩ : Blk)) Tryz.func10 rfl rfl (init_rw ⟨rfl, rfl, rfl, trivial⟩ rfl rfl rfl (fun p hp => by cases hp) (fun p hp => by cases hp) (fun p hp => by cases hp)) rfl ?_
 cases hmo : mayP o with
 | false =>
  have e : changeL s o p = s := by unfold changeL; rw [hmo]; rfl
  rw [e]
  exact At.fin rfl [(2001, hMp o false), (2002003, .val (.v (.bool true)))] ⟨hMp_ok _ _ _ (by omega) hmo, trivial, trivial⟩ [.d] (x := .v (stv s)) (ob := [qL (hMp o false), [TV.v (.bool true) = TV.v (.bool true)]].flatten) (by kernel_rfl) (all_flat ⟨all_qL _, ⟨rfl, trivial⟩, trivial⟩) fun ρ' w' hf _ => ⟨rfl, hf⟩
 | true =>
  cases hm : mayP p with
  | false =>
   have e : changeL s o p = s := by unfold changeL; rw [hmo, hm]; rfl
   rw [e]
   exact At.fin rfl [(2001, hMp o true), (2002003, .val (.v (.bool false))), (2005, hMp p false)] ⟨hMp_ok _ _ _ (by omega) hmo, trivial, hMp_ok _ _ _ (by omega) hm, trivial⟩ [.d] (x := .v (stv s)) (ob := [qL (hMp o true), [TV.v (.bool false) = TV.v (.bool false)], qL (hMp p false)].flatten) (by kernel_rfl) (all_flat ⟨all_qL _, ⟨rfl, trivial⟩, all_qL _, trivial⟩) fun ρ' w' hf _ => ⟨rfl, hf⟩
  | true =>
   have hp32 := may_len hm
   have e : changeL s o p = (placesL s o).foldl (fun b i => putL b p i) s := by rw [changeL_eq, hm, if_pos rfl]
   rw [e]
   have hLl := places_len s o hs
   have hLb : ∀ x ∈ placesL s o, x + p.length ≤ s.length := fun x hx => by rw [hp32]; exact places_bnd x hx
   have hend : ∀ (b : List UInt8), b.length = s.length → TV.v (stv (List.map (fun q => ubyte (byteF b (addN 0 q))) (List.range s.length))) = TV.v (stv b) := fun b hb => tv_str (by rw [← hb]; exact str_of_bytes b)
   have hby : ∀ (b : List UInt8), b.length = s.length → ∀ q, q < s.length → ∃ d : UInt8, byteF b (addN 0 q) = [.int .u8 (d.toNat : Int)] := fun b hb q hq => bytes_q b q (by omega)
   by_cases h0 : placesL s o = []
   ·have hk := hI_doc0 (id := 5002) hs ho h0
    rw [h0]
    exact At.fin rfl [(2001, hMp o true), (2002003, .val (.v (.bool false))), (2005, hMp p true), (5002, hI0 9 (fun _ => #[stv s, stv o]) []), (2013001, .val (.v (stv s)))] ⟨hMp_ok _ _ _ (by omega) hmo, trivial, hMp_ok _ _ _ (by omega) hm, hk, trivial, trivial⟩ [.d, .u, .d] (x := .v (stv s)) (ob := [qL (hMp o true), [TV.v (.bool false) = TV.v (.bool false)], qL (hMp p true), qL (hI0 9 (fun _ => #[stv s, stv o]) []), [TV.v (stv (List.map (fun q => ubyte (byteF s (addN 0 q))) (List.range s.length))) = TV.v (stv s), 0 + s.length ≤ s.length, ∀ q, q < s.length → ∃ d : UInt8, byteF s (addN 0 q) = [.int .u8 (d.toNat : Int)]]].flatten) (by kernel_rfl) (all_flat ⟨all_qL _, ⟨rfl, trivial⟩, all_qL _, all_qL _, ⟨hend s rfl, by omega, hby s rfl, trivial⟩, trivial⟩) fun ρ' w' hf _ => ⟨rfl, hf⟩
   ·have hk := hI_doc1 (id := 5002) hs ho h0
    generalize placesL s o = L at hk hLl hLb h0
    have hlen : ∀ i, (putN s p L i).length = s.length := fun i => putN_len fun x hx => hLb x (List.mem_of_mem_take hx)
    have hloop : ∀ i : Nat, i ≤ L.length → At Tryz.prog w ⟨[], fun _ => (⟨0, 0, 0⟩ : Blk), []⟩ Tryz.f10.ntmps [] (lp Tryz.f10 0) (EndX Tryz.prog Tryz.f10 fun e w' => e = .returned (stv (L.foldl (fun b i => putL b p i) s)) ∧ Fr w [] w') (dcT p s.length L.length i) [(4001, byR (putN s p L i) s.length), (5002, inR L L.length)] := by
     refine At.loop (fun i : Nat => dcT p s.length L.length i) (fun i => [(4001, byR (putN s p L i) s.length), (5002, inR L L.length)]) (fun i => i ≤ L.length) (fun i => L.length - i) fun i hi ih => ?_
     by_cases hlt : i < L.length
     ·obtain ⟨x, hx⟩ : ∃ x, x = L.getD i 0 := ⟨_, rfl⟩
      have hxm : x ∈ L := by rw [hx, List.getD_eq_getElem?_getD, List.getElem?_eq_getElem hlt]; exact List.getElem_mem hlt
      have hxb := hLb x hxm
      have hv : TV.int .i64 ((L.getD (addN 0 (i : Int).toNat) 0 : Nat) : Int) = TV.int .i64 ((x : Nat) : Int) := by rw [hx, addN_eq, Nat.zero_add, Int.toNat_natCast]
      have hidx : addN 0 (i : Int).toNat < L.length := by rw [addN_eq]; omega
      have hst := putN_step (s := s) (p := p) hlt
      rw [← hx] at hst
      obtain ⟨b, hbb⟩ : ∃ b, b = putN s p L i := ⟨_, rfl⟩
      have hbl : b.length = s.length := by rw [hbb, hlen]
      have hnext := ih (i + 1) hlt (by show L.length - (i + 1) < L.length - i; omega)
      rw [hst, ← hbb] at hnext
      rw [← hbb]
      have hin : ∀ j : Nat, j ≤ p.length → At Tryz.prog w ⟨[], fun _ => (⟨0, 0, 0⟩ : Blk), []⟩ Tryz.f10.ntmps [] (lp Tryz.f10 1) (EndX Tryz.prog Tryz.f10 fun e w' => e = .returned (stv (L.foldl (fun b i => putL b p i) s)) ∧ Fr w [] w') (dcT2 p s.length L.length i j) [(4001, gFR b p x j s.length), (5002, inR L L.length)] := by
       refine At.loop (fun j : Nat => dcT2 p s.length L.length i j) (fun j => [(4001, gFR b p x j s.length), (5002, inR L L.length)]) (fun j => j ≤ p.length) (fun j => p.length - j) fun j hj ihj => ?_
       by_cases hjl : j < p.length
       ·have hj2 : addN 0 ((x : Int) + (j : Int)).toNat < s.length := by rw [addN_eq]; omega
        refine At.run rfl [(2012004, .val (.int .i64 (x : Int)))] ⟨trivial, trivial⟩ [.y] (tm2 := dcT2 p s.length L.length i (j + 1)) (rows2 := [(4001, ⟨[.fnc (updF (gF b p x j) (addN 0 ((x : Int) + (j : Int)).toNat) ((gF b p x j (addN 0 ((x : Int) + (j : Int)).toNat)).set 0 (.int .u8 ((p.getD (j : Int).toNat 0).toNat : Int)))) 1 s.length], true, none⟩), (5002, inR L L.length)])
         (ob := [decide ((j : Int) < (p.length : Int)) = true, 0 ≤ (i : Int) ∧ (i : Int) < (L.length : Int), TV.int .i64 ((L.getD (addN 0 (i : Int).toNat) 0 : Nat) : Int) = TV.int .i64 ((x : Nat) : Int), addN 0 (i : Int).toNat < L.length, inI ((x : Int) + (j : Int)), 0 ≤ (j : Int) ∧ (j : Int) < (p.length : Int), 0 ≤ (x : Int) + (j : Int) ∧ (x : Int) + (j : Int) < (s.length : Int), addN 0 ((x : Int) + (j : Int)).toNat < s.length, inI ((j : Int) + 1)]) (td := lp Tryz.f10 1) (by kernel_rfl) ⟨decide_eq_true (by omega), ⟨by omega, by omega⟩, hv, hidx, ⟨by omega, by omega⟩, ⟨by omega, by omega⟩, ⟨by omega, by omega⟩, hj2, ⟨by omega, by omega⟩, trivial⟩ rfl rfl (by intro h; cases h) ?_
        exact At.rows (rows2 := [(4001, gFR b p x (j + 1) s.length), (5002, inR L L.length)]) (rowsEq_fnc (fun q _ => gF_step) (rowsEq_same trivial)) rfl (ihj (j + 1) hjl (by show p.length - (j + 1) < p.length - j; omega))
       ·obtain rfl : j = p.length := by omega
        refine At.run rfl [] trivial [.n] (tm2 := dcT p s.length L.length (i + 1)) (rows2 := [(4001, gFR b p x p.length s.length), (5002, inR L L.length)]) (ob := [decide ((p.length : Int) < (p.length : Int)) = false, inI ((i : Int) + 1)]) (td := lp Tryz.f10 0) (by kernel_rfl) ⟨decide_eq_false (by omega), ⟨by omega, by omega⟩, trivial⟩ rfl rfl (by intro h; cases h) ?_
        exact At.rows (rows2 := [(4001, byR (putL b p x) s.length), (5002, inR L L.length)]) (rowsEq_fnc (fun q _ => gF_all (by omega)) (rowsEq_same trivial)) rfl hnext
      refine At.run rfl [] trivial [.y] (tm2 := dcT2 p s.length L.length i 0) (rows2 := [(4001, byR b s.length), (5002, inR L L.length)]) (ob := [decide ((i : Int) < (L.length : Int)) = true]) (td := lp Tryz.f10 1) (by kernel_rfl) ⟨decide_eq_true (by omega), trivial⟩ rfl rfl (by intro h; cases h) ?_
      exact At.rows (rows2 := [(4001, gFR b p x 0 s.length), (5002, inR L L.length)]) (rowsEq_fnc (fun q _ => (gF_zero b p x q).symm) (rowsEq_same trivial)) rfl (hin 0 (Nat.zero_le _))
     ·obtain rfl : i = L.length := by omega
      have hb : L.foldl (fun b i => putL b p i) s = putN s p L L.length := by unfold putN; rw [List.take_length]
      rw [hb]
      obtain ⟨b, hbb⟩ : ∃ b, b = putN s p L L.length := ⟨_, rfl⟩
      have hbl : b.length = s.length := by rw [hbb, hlen]
      rw [← hbb]
      exact At.fin rfl [(2013001, .val (.v (stv b)))] ⟨trivial, trivial⟩ [.n] (x := .v (stv b)) (ob := [decide ((L.length : Int) < (L.length : Int)) = false, TV.v (stv (List.map (fun q => ubyte (byteF b (addN 0 q))) (List.range s.length))) = TV.v (stv b), 0 + s.length ≤ s.length, ∀ q, q < s.length → ∃ d : UInt8, byteF b (addN 0 q) = [.int .u8 (d.toNat : Int)]]) (by kernel_rfl) ⟨decide_eq_false (by omega), hend b hbl, by omega, hby b hbl, trivial⟩ fun ρ' w' hf _ => ⟨rfl, hf⟩
    exact At.run rfl [(2001, hMp o true), (2002003, .val (.v (.bool false))), (2005, hMp p true), (5002, hI1 9 (fun _ => #[stv s, stv o]) [] 5002 L)] ⟨hMp_ok _ _ _ (by omega) hmo, trivial, hMp_ok _ _ _ (by omega) hm, hk, trivial⟩ [.d] (tm2 := dcT p s.length L.length 0) (rows2 := [(4001, byR (putN s p L 0) s.length), (5002, inR L L.length)]) (ob := [qL (hMp o true), [TV.v (.bool false) = TV.v (.bool false)], qL (hMp p true), qL (hI1 9 (fun _ => #[stv s, stv o]) [] 5002 L)].flatten) (td := lp Tryz.f10 0) (by kernel_rfl) (all_flat ⟨all_qL _, ⟨rfl, trivial⟩, all_qL _, all_qL _, trivial⟩) rfl rfl (by intro h; cases h) (hloop 0 (Nat.zero_le _))
abbrev hCd (s o p r : List UInt8) : Hint := .call ⟨10, fun _ => #[stv s, stv o, stv p], .v (stv r), [], [], none, []⟩
theorem hCd_ok (id : Nat) (s o p r : List UInt8) (hs : s.length ≤ 1000000) (ho : o.length ≤ 1000000) (hp : p.length ≤ 1000000) (h : changeL s o p = r) : HintOk Tryz.prog id (hCd s o p r) := by
 refine call_ok ent10 rfl (fun p hp => by cases hp) fun ρ w _ => (rchange_any s o p hs ho hp w).mono ?_
 rintro e w' ⟨rfl, hf⟩
 exact ⟨⟨0, 0, 0⟩, by rw [h]; rfl, hf, (fun p hp => by cases hp), fun row hrw => by cases hrw⟩
end
end Go.Proofs.YtdbbcngolcnniaaGreatDoor
/- What the listed variables' condition gives: the two tables of package sha stand in memory as the program's text lays them. -/
namespace Go.Proofs.YtdbbcngolcnniaaGreatDoor.S3
set_option linter.unusedSimpArgs false
open Go.ChangeShapes Go.WideShapes Go.RowKit
set_option linter.unusedVariables false
def laidL : List (String × DataW Unit) := Rows.pathModuloRow.laid
theorem gP10 : Tryz.prog.globalNamed ((laidL.map (·.1)).getD 2 "") = some 3 := by kernel_rfl
theorem gStart : Tryz.prog.globalNamed ((laidL.map (·.1)).getD 3 "") = some 0 := by kernel_rfl
theorem gConsts : Tryz.prog.globalNamed ((laidL.map (·.1)).getD 4 "") = some 1 := by kernel_rfl
theorem tConsts : (Tryz.prog.globals[1]?).map (·.type) = some 106 := by kernel_rfl
theorem tStart : (Tryz.prog.globals[0]?).map (·.type) = some 48 := by kernel_rfl
theorem tP10 : (Tryz.prog.globals[3]?).map (·.type) = some 119 := by kernel_rfl
theorem arr_of_trod {H : Type} {enc : TypeId × Value → H} {P : Program} {w : World} {base : Nat} {sp : Nat → Bool} {held : Bool} {fuel n : Nat} {t e : TypeId} {kd : IntKind} {cs : List Value} {p : List MemPlace}
  (ht : P.underlying t = some (.array n e)) (he : P.underlying e = some (.int kd)) (hce : P.cellsOf e = 1) (hct : P.cellsOf t = n) (ns : List Int)
  (hd : DataW.trod enc P w base sp held fuel t cs = some (.agg (ns.map fun k => .lit (.int kd k)), p)) : cs = ns.map (Value.int kd) := by
 obtain ⟨xs, m, rfl, hx, hlen, hn, hel⟩ := DataW.trod_array ht hd
 simp only [Prod.mk.injEq, DataW.agg.injEq] at hx
 have hx1 := hx.1
 have hnl : ns.length = n := by
  have := congrArg List.length hx1
  simp at this
  omega
 apply List.ext_getElem?
 intro i
 by_cases hi : i < n
 ·have h1 := hel i hi
  rw [hce, Nat.mul_one] at h1
  rw [List.getElem?_eq_getElem (by omega : i < xs.length)] at h1
  obtain ⟨k, e1, e2, _⟩ := DataW.trod_int he h1
  have hk : ns[i]? = some k := by
   have := congrArg (fun l => l[i]?) hx1
   simp only [List.getElem?_map, List.getElem?_eq_getElem (by omega : i < xs.length), List.getElem?_eq_getElem (by omega : i < ns.length), Option.map_some] at this
   rw [e2] at this
   rw [List.getElem?_eq_getElem (by omega : i < ns.length)]
   simp at this
   rw [this]
  rw [List.getElem?_map, hk]
  have h2 := congrArg (fun l => l[0]?) e1
  simp only [List.getElem?_take, List.getElem?_drop] at h2
  simpa using h2
 ·rw [List.getElem?_eq_none (by omega), List.getElem?_eq_none (by simp; omega)]
def startI : List Int := [1779033703, 3144134277, 1013904242, 2773480762, 1359893119, 2600822924, 528734635, 1541459225]
def constsI : List Int := kL.map fun (k : Nat) => (k : Int)
theorem start_data {H : Type} : (Rows.laid_shelfmark_sha_start : DataW H) = .agg (startI.map fun k => .lit (.int .u32 k)) := rfl
theorem consts_data {H : Type} : (Rows.laid_shelfmark_sha_consts : DataW H) = .agg (constsI.map fun k => .lit (.int .u32 k)) := rfl
def p10I : List Int := (List.range 20).map fun i => (10 : Int) ^ i
theorem p10_data {H : Type} : (Rows.laid_internal_strconv_uint64pow10 : DataW H) = .agg (p10I.map fun k => .lit (.int .u64 k)) := rfl
theorem row_of_var {W : World} {P : Program} {n : String} {g : Nat} {cs : Array Value} (hg : P.globalNamed n = some g) (hv : W.var? P n = some cs) (hfr : ∃ c t, W.heap[g]? = some (.cells c t (0, 0))) : ∃ t, W.heap[g]? = some (.cells cs t (0, 0)) := by
 obtain ⟨c, t, h⟩ := hfr
 simp only [World.var?, hg, Option.bind_some, h, Option.some.injEq] at hv
 subst hv
 exact ⟨t, h⟩
theorem mem_row (g n : Nat) (hn : 0 < n) : MemPlace.cell g 0 ∈ MemPlace.row ⟨g, 0, none⟩ n := by
 unfold MemPlace.row
 exact List.mem_map.2 ⟨0, List.mem_range.2 hn, rfl⟩
def Pows (W : World) : Prop := ∃ t, W.heap[3]? = some (.cells (p10I.map (Value.int .u64)).toArray t (0, 0))
def GlobP (W : World) : Prop := Glob W ∧ Pows W
theorem glob_of_laid {W : World} (h : laidMetH Tryz.prog laidL W) : GlobP W := by
 rw [MakeChecks.laidMetH_plain _ _ _ (by kernel_rfl)] at h
 obtain ⟨ps, ⟨ga, ta, csa, fa, pa, qa, hga, hta, hva, hda, ⟨gb, tb, csb, fb, pb, qb, hgb, htb, hvb, hdb, ⟨g2, t2, cs2, f2, p2, q2, hg2, ht2, hv2, hd2, ⟨g0, t0, cs0, f0, p0, q0, hg0, ht0, hv0, hd0, ⟨g1, t1, cs1, f1, p1, q1, hg1, ht1, hv1, hd1, hq, e1⟩, e0⟩, e2⟩, eb⟩, ea⟩, _, hfr⟩ := h
 obtain rfl := Option.some.inj (gStart.symm.trans hg0)
 obtain rfl := Option.some.inj (gConsts.symm.trans hg1)
 obtain rfl := Option.some.inj (gP10.symm.trans hg2)
 obtain rfl := Option.some.inj (tStart.symm.trans ht0)
 obtain rfl := Option.some.inj (tConsts.symm.trans ht1)
 obtain rfl := Option.some.inj (tP10.symm.trans ht2)
 rw [start_data] at hd0
 rw [consts_data] at hd1
 rw [p10_data] at hd2
 have c0 := arr_of_trod Tryz.underlying48 Tryz.underlying46 (by kernel_rfl) (by kernel_rfl) _ hd0
 have c1 := arr_of_trod Tryz.underlying106 Tryz.underlying46 (by kernel_rfl) (by kernel_rfl) _ hd1
 have c2 := arr_of_trod Tryz.underlying119 Tryz.underlying73 (by kernel_rfl) (by kernel_rfl) _ hd2
 obtain ⟨l0⟩ := cs0
 obtain ⟨l1⟩ := cs1
 obtain ⟨l2⟩ := cs2
 simp only at c0 c1 c2
 subst c0 c1 c2
 have hd : ∀ {x : MemPlace} {A B C : List MemPlace}, x ∈ A → x ∈ A ++ B ++ C := fun h => List.mem_append_left _ (List.mem_append_left _ h)
 have tl : ∀ {x : MemPlace} {A B C : List MemPlace}, x ∈ C → x ∈ A ++ B ++ C := fun h => List.mem_append_right _ h
 have z2 : MemPlace.cell 3 0 ∈ qb := by rw [e2]; exact hd (mem_row 3 _ (by show 0 < (p10I.map (Value.int .u64)).length; decide))
 have z0 : MemPlace.cell 0 0 ∈ q2 := by rw [e0]; exact hd (mem_row 0 _ (by show 0 < (startI.map (Value.int .u32)).length; decide))
 have z1 : MemPlace.cell 1 0 ∈ q0 := by rw [e1]; exact hd (mem_row 1 _ (by show 0 < (constsI.map (Value.int .u32)).length; decide))
 have up : ∀ x, x ∈ qb → x ∈ ps := fun x h => by rw [ea, eb]; exact tl (tl h)
 have up2 : ∀ x, x ∈ q2 → x ∈ ps := fun x h => up x (by rw [e2]; exact tl h)
 have m2 := up _ z2
 have m0 := up2 _ z0
 have m1 := up2 _ (by rw [e0]; exact tl z1)
 exact ⟨⟨row_of_var gConsts hv1 (hfr 1 0 m1).1, row_of_var gStart hv0 (hfr 0 0 m0).1⟩, row_of_var gP10 hv2 (hfr 3 0 m2).1⟩
theorem door_met (os : Os) (args : Array Value) : laidMetH Tryz.prog laidL ((World.doorLaid Tryz.prog 400 os).forCall (fun _ _ => 0) ⟨#[], args, []⟩).memory :=
 laidMetH_of_parts3 (fuel := 8) (laidMet_of_run' 8 (by kernel_rfl) (by kernel_rfl)) (by kernel_rfl) (by kernel_rfl)
end Go.Proofs.YtdbbcngolcnniaaGreatDoor.S3
/- Of Modulo: a nought repeated; the document's Zeros and Digits of numbers below 1000. No other condition. -/
namespace Go.Proofs.YtdbbcngolcnniaaGreatDoor
open Go Go.RowKit
set_option linter.unusedVariables false
set_option linter.unusedSimpArgs false
section
open E
theorem ent38 : Enters Tryz.prog 38 := enters_of Tryz.func38 (by kernel_rfl) rfl
theorem ent37 : Enters Tryz.prog 37 := enters_of Tryz.func37 (by kernel_rfl) rfl
theorem ent19r : Enters Tryz.prog 19 := enters_of Tryz.func19 (by kernel_rfl) rfl
theorem ent24z : Enters Tryz.prog 24 := enters_of Tryz.func24 (by kernel_rfl) rfl
theorem ent25z : Enters Tryz.prog 25 := enters_of Tryz.func25 (by kernel_rfl) rfl
abbrev hPq (s p : List UInt8) (b : Bool) : Hint := pc 38 #[stv s, stv p] (.v (.bool b))
set_option maxRecDepth 100000 in
theorem hPq_ok (id : Nat) (s p : List UInt8) (b : Bool) (hs : s.length ≤ 1000000000) (hp : p.length ≤ 1000000000) (h : preP s p = b) : HintOk Tryz.prog id (hPq s p b) := pc_ok ent38 (v := .bool b) rfl (fun _ => rfl) fun w => by
 refine At.calls (args := [.v (stv s), .v (stv p)]) (rows := []) (gl := []) (wr := []) (ρ := fun _ => (⟨0, 0, 0⟩ : Blk)) Tryz.func38 rfl rfl (init_rw ⟨rfl, rfl, trivial⟩ rfl rfl rfl (fun p hp => by cases hp) (fun p hp => by cases hp) (fun p hp => by cases hp)) rfl ?_
 exact At.fin rfl [(2002, hPr s p b)] ⟨hPr_ok _ _ _ _ hs hp h, trivial⟩ [] (x := .v (.bool b)) (ob := qL (hPr s p b)) (by kernel_rfl) (all_qL _) fun ρ' w' hf _ => ⟨rfl, hf.below⟩
abbrev zeroL : List UInt8 := List.replicate 32 48
abbrev hMu : Hint := pc 37 #[.int .u64 1, .int .u64 32] (.tup [.lf (.v (.int .u64 0)), .lf (.v (.int .u64 32))])
theorem hMu_ok (id : Nat) : HintOk Tryz.prog id hMu := pc_ok ent37 (v := .tuple #[.int .u64 0, .int .u64 32]) (tup2_ok _ _ rfl rfl) (fun _ => rfl) fun w => (bits_Mul 1 32 (by decide) (by decide) w).mono fun e w' h => ⟨h.1, by rw [h.2]; exact Below.refl _ _⟩
abbrev hRp : Hint := pc 19 #[stv [48], .int .i64 32] (.v (stv zeroL))
set_option maxRecDepth 100000 in
theorem hRp_ok (id : Nat) : HintOk Tryz.prog id hRp := pc_ok ent19r (v := stv zeroL) rfl (fun _ => rfl) fun w => by
 refine At.calls (args := [.v (stv [48]), .int .i64 32]) (rows := []) (gl := []) (wr := []) (ρ := fun _ => (⟨0, 0, 0⟩ : Blk)) Tryz.func19 rfl rfl (init_rw ⟨rfl, rfl, trivial⟩ rfl rfl rfl (fun p hp => by cases hp) (fun p hp => by cases hp) (fun p hp => by cases hp)) rfl ?_
 exact At.fin rfl [(9005, hMu), (2012001, .val (.int .i64 32)), (2015001, .val (.int .u8 48)), (21004, hPq (List.replicate 128 32) [48] false), (23004, hPq (List.replicate 128 45) [48] false), (25004, hPq (List.replicate 64 48) [48] true), (2026001, .val (.v (stv zeroL)))]
  ⟨hMu_ok _, trivial, trivial, hPq_ok _ _ _ _ (by decide) (by decide) (by decide +kernel), hPq_ok _ _ _ _ (by decide) (by decide) (by decide +kernel), hPq_ok _ _ _ _ (by decide) (by decide) (by decide +kernel), trivial, trivial⟩ [.d, .d, .d, .d, .d, .d, .d, .d, .d, .d, .d, .d] (x := .v (stv zeroL))
  (ob := [qL hMu, [TV.int .i64 32 = TV.int .i64 32, TV.int .u8 48 = TV.int .u8 48, 0 ≤ (0 : Int) ∧ (0 : Int) < ((1 : Nat) : Int)], qL (hPq (List.replicate 128 32) [48] false), qL (hPq (List.replicate 128 45) [48] false), qL (hPq (List.replicate 64 48) [48] true), [TV.v (stv ((List.replicate 64 (48 : UInt8)).take (Int.toNat 32))) = TV.v (stv zeroL), 0 ≤ (32 : Int) ∧ (32 : Int) ≤ ((64 : Nat) : Int)]].flatten) (by kernel_rfl)
  (all_flat ⟨all_qL _, ⟨rfl, rfl, ⟨by decide, by decide⟩, trivial⟩, all_qL _, all_qL _, all_qL _, ⟨rfl, ⟨by decide, by decide⟩, trivial⟩, trivial⟩) fun ρ' w' hf _ => ⟨rfl, hf.below⟩
abbrev hZe : Hint := pc 24 #[] (.v (stv zeroL))
set_option maxRecDepth 100000 in
theorem hZe_ok (id : Nat) : HintOk Tryz.prog id hZe := pc_ok ent24z (v := stv zeroL) rfl (fun _ => rfl) fun w => by
 refine At.calls (args := []) (rows := []) (gl := []) (wr := []) (ρ := fun _ => (⟨0, 0, 0⟩ : Blk)) Tryz.func24 rfl rfl (init_rw trivial rfl rfl rfl (fun p hp => by cases hp) (fun p hp => by cases hp) (fun p hp => by cases hp)) rfl ?_
 have hloop : ∀ i : Nat, i ≤ 32 → At Tryz.prog w nB Tryz.f24.ntmps [] (lp Tryz.f24 0) (EndX Tryz.prog Tryz.f24 fun e w' => e = .returned (stv zeroL) ∧ Below w.heap.size w w') [(1, .v (stv (List.replicate i 48)))] [] := by
  refine At.loop (fun i : Nat => [(1, .v (stv (List.replicate i 48)))]) (fun _ => []) (fun i => i ≤ 32) (fun i => 32 - i) fun i hi ih => ?_
  have hl : (List.replicate i (48 : UInt8)).length = i := List.length_replicate
  by_cases h : i < 32
  ·have hI := ih (i + 1) h (by show 32 - (i + 1) < 32 - i; omega)
   rw [List.replicate_succ'] at hI
   generalize List.replicate i (48 : UInt8) = X at hl hI ⊢
   exact At.run rfl [] trivial [.y] (tm2 := [(1, .v (stv (X ++ [48])))]) (rows2 := []) (ob := [decide ((X.length : Int) < 32) = true, (X.length : Int) + ((1 : Nat) : Int) ≤ 9223372036854775807]) (td := lp Tryz.f24 0) (by kernel_rfl) ⟨decide_eq_true (by omega), by omega, trivial⟩ rfl rfl (by intro h; cases h) hI
  ·obtain rfl : i = 32 := by omega
   exact At.fin rfl [] trivial [.n] (x := .v (stv zeroL)) (ob := [decide (((32 : Nat) : Int) < 32) = false]) (by kernel_rfl) ⟨by decide, trivial⟩ fun ρ' w' hf _ => ⟨rfl, hf.below⟩
 exact At.run rfl [] trivial [] (tm2 := [(1, .v (stv (List.replicate 0 48)))]) (rows2 := []) (ob := []) (td := lp Tryz.f24 0) (by kernel_rfl) trivial rfl rfl (by intro h; cases h) (hloop 0 (Nat.zero_le _))
def dg (k : Nat) : UInt8 := UInt8.ofNat (48 + k)
def digN (n : Nat) : List UInt8 := if n < 10 then [dg n] else if n < 100 then [dg (n / 10), dg (n % 10)] else [dg (n / 100), dg (n / 10 % 10), dg (n % 10)]
theorem dg_nat {k : Nat} (h : k < 10) : ((dg k).toNat : Int) = 48 + (k : Int) := by
 unfold dg
 rw [UInt8.toNat_ofNat', Nat.mod_eq_of_lt (by omega)]
 omega
theorem digN_len (n : Nat) : (digN n).length ≤ 3 := by unfold digN; split <;> (try split) <;> simp
theorem ch1 (c : UInt8) : (List.range 1).map (fun q => ubyte (chunkF [Value.int .u8 (c.toNat : Int)] 1 1 (addN 0 q))) = [c] := by
 show [UInt8.ofNat (Int.toNat (c.toNat : Int))] = [c]
 rw [Int.toNat_natCast]
 simp
theorem ch1_ok (c : UInt8) : ∀ q, q < 1 → ∃ d : UInt8, chunkF [Value.int .u8 (c.toNat : Int)] 1 1 (addN 0 q) = [.int .u8 (d.toNat : Int)] := fun q hq => by
 obtain rfl : q = 0 := by omega
 exact ⟨c, rfl⟩
abbrev dgR (c : UInt8) : List UInt8 := (List.range 1).map (fun q => ubyte (chunkF [Value.int .u8 (c.toNat : Int)] 1 1 (addN 0 q)))
theorem wr8 {k : Int} (h0 : 0 ≤ k) (h : k < 256) : IntKind.u8.wrap k = k := IntWalk.u8_in k ⟨h0, by omega⟩
theorem dg_end (w : World) (n : Nat) (X Y : List UInt8) (hn : n < 10) (hX : X.length ≤ 10) (hY : dg n :: X = Y) : At Tryz.prog w nB Tryz.f25.ntmps [] (lp Tryz.f25 0) (EndX Tryz.prog Tryz.f25 fun e w' => e = .returned (stv Y) ∧ Below w.heap.size w w') [(0, .int .i64 (n : Int)), (3, .v (stv X))] [] := by
 have hc := dg_nat hn
 generalize dg n = c at hc hY
 have hw : IntKind.u8.wrap (48 + (n : Int)) = (c.toNat : Int) := by rw [wr8 (by omega) (by omega), hc]
 exact At.fin rfl [(2006002, .val (.int .u8 (c.toNat : Int))), (2006004, .val (.v (stv [c]))), (2006006, .val (.v (stv Y)))] ⟨trivial, trivial, trivial, trivial⟩ [.n] (x := .v (stv Y)) (ob := [decide ((n : Int) ≥ 10) = false, inI (48 + (n : Int)), TV.int .u8 (IntKind.u8.wrap (48 + (n : Int))) = TV.int .u8 (c.toNat : Int), TV.v (stv (dgR c)) = TV.v (stv [c]), 1 ≤ 1, ∀ q, q < 1 → ∃ d : UInt8, chunkF [Value.int .u8 (c.toNat : Int)] 1 1 (addN 0 q) = [.int .u8 (d.toNat : Int)], TV.v (stv ([c] ++ X)) = TV.v (stv Y), (([c] : List UInt8).length : Int) + (X.length : Int) ≤ 9223372036854775807]) (by kernel_rfl)
  ⟨decide_eq_false (by omega), ⟨by omega, by omega⟩, tv_int hw, tv_str (ch1 c), Nat.le_refl 1, ch1_ok c, tv_str hY, by show (1 : Int) + _ ≤ _; omega, trivial⟩ fun ρ' w' hf _ => ⟨rfl, hf.below⟩
theorem dg_round {w : World} {R : Ending → World → Prop} (n : Nat) (X : List UInt8) (hn : 10 ≤ n) (hn2 : n ≤ 1000000) (hX : X.length ≤ 10) (h : At Tryz.prog w nB Tryz.f25.ntmps [] (lp Tryz.f25 0) (EndX Tryz.prog Tryz.f25 R) [(0, .int .i64 ((n / 10 : Nat) : Int)), (3, .v (stv (dg (n % 10) :: X)))] []) :
  At Tryz.prog w nB Tryz.f25.ntmps [] (lp Tryz.f25 0) (EndX Tryz.prog Tryz.f25 R) [(0, .int .i64 (n : Int)), (3, .v (stv X))] [] := by
 have hc := dg_nat (show n % 10 < 10 from Nat.mod_lt _ (by decide))
 generalize dg (n % 10) = c at hc h
 have hw : IntKind.u8.wrap (48 + (n : Int) % 10) = (c.toNat : Int) := by rw [wr8 (by omega) (by omega), hc]; omega
 obtain ⟨Y, hY⟩ : ∃ Y, c :: X = Y := ⟨_, rfl⟩
 rw [hY] at h
 exact At.run rfl [(2004003, .val (.int .u8 (c.toNat : Int))), (2004005, .val (.v (stv [c]))), (2004007, .val (.v (stv Y)))] ⟨trivial, trivial, trivial, trivial⟩ [.y] (tm2 := [(0, .int .i64 ((n / 10 : Nat) : Int)), (3, .v (stv Y))]) (rows2 := []) (ob := [decide ((n : Int) ≥ 10) = true, 0 ≤ (n : Int) ∧ (0 : Int) < 10, inI (48 + (n : Int) % 10), TV.int .u8 (IntKind.u8.wrap (48 + (n : Int) % 10)) = TV.int .u8 (c.toNat : Int), TV.v (stv (dgR c)) = TV.v (stv [c]), 1 ≤ 1, ∀ q, q < 1 → ∃ d : UInt8, chunkF [Value.int .u8 (c.toNat : Int)] 1 1 (addN 0 q) = [.int .u8 (d.toNat : Int)], TV.v (stv ([c] ++ X)) = TV.v (stv Y), (([c] : List UInt8).length : Int) + (X.length : Int) ≤ 9223372036854775807, 0 ≤ (n : Int) ∧ (0 : Int) < 10, IntKind.i64.wrap ((n : Int) / 10) = (n : Int) / 10]) (td := lp Tryz.f25 0) (by kernel_rfl)
  ⟨decide_eq_true (by omega), ⟨by omega, by decide⟩, ⟨by omega, by omega⟩, tv_int hw, tv_str (ch1 c), Nat.le_refl 1, ch1_ok c, tv_str hY, by show (1 : Int) + _ ≤ _; omega, ⟨by omega, by decide⟩, w64 ⟨by omega, by omega⟩, trivial⟩ rfl rfl (by intro h; cases h) h
abbrev hDg (n : Nat) : Hint := pc 25 #[.int .i64 (n : Int)] (.v (stv (digN n)))
set_option maxRecDepth 100000 in
theorem hDg_ok (id n : Nat) (hn : n < 1000) : HintOk Tryz.prog id (hDg n) := pc_ok ent25z (v := stv (digN n)) rfl (fun _ => rfl) fun w => by
 refine At.calls (args := [.int .i64 (n : Int)]) (rows := []) (gl := []) (wr := []) (ρ := fun _ => (⟨0, 0, 0⟩ : Blk)) Tryz.func25 rfl rfl (init_rw ⟨rfl, trivial⟩ rfl rfl rfl (fun p hp => by cases hp) (fun p hp => by cases hp) (fun p hp => by cases hp)) rfl ?_
 refine At.run rfl [] trivial [] (tm2 := [(0, .int .i64 (n : Int)), (3, .v (stv []))]) (rows2 := []) (ob := []) (td := lp Tryz.f25 0) (by kernel_rfl) trivial rfl rfl (by intro h; cases h) ?_
 unfold digN
 by_cases h1 : n < 10
 ·rw [if_pos h1]
  exact dg_end w n [] _ h1 (by decide) rfl
 rw [if_neg h1]
 by_cases h2 : n < 100
 ·rw [if_pos h2]
  exact dg_round n [] (by omega) (by omega) (by decide) (dg_end w (n / 10) [dg (n % 10)] _ (by omega) (by show 1 ≤ 10; decide) rfl)
 rw [if_neg h2]
 refine dg_round n [] (by omega) (by omega) (by decide) (dg_round (n / 10) [dg (n % 10)] (by omega) (by omega) (by show 1 ≤ 10; decide) (dg_end w (n / 10 / 10) [dg (n / 10 % 10), dg (n % 10)] _ (by omega) (by show 2 ≤ 10; decide) ?_))
 rw [Nat.div_div_eq_div_mul]
end
end Go.Proofs.YtdbbcngolcnniaaGreatDoor
