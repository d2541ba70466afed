/- Several texts, one behind the other; each says by itself what it proves, and on what conditions. -/
import Derived.Test.YtdbbcngolcnniaaDoorY27
import Derived.Deep.Slices
import Derived.ProofKit
import Derived.OpenShut
import Derived.ChangeOld
import Derived.SizedLaws
import Derived.ChangeSlices
import Derived.LaidMore
import Derived.LaidHandle
import Derived.LaidLaws
import Derived.ChangeArms
import Derived.Stop.Joined
/- PathMade's law: what is made has a parse, of just its name; by another order of refs there is none. Its conditions: lengths that fit; the tables of sha as its text lays them. -/
namespace Go.Proofs.YtdbbcngolcnniaaDoor
open Go Go.RowKit
set_option linter.unusedVariables false
set_option linter.unusedSimpArgs false
section
open E
abbrev hSq (r : Nat) (p q : List UInt8) (sf : Bool) (s n : List UInt8) (o : Option (List UInt8)) : Hint := .callW ⟨13, fun ρ => #[(TV.s (.lf (.sl r 0 0 1 2 none))).val ρ, .bool sf, stv s, stv n], makeV o, [(r, rwB p q)], [], none, []⟩
theorem hSq_ok {w0 : World} {wr : Bs} (id r : Nat) (p q : List UInt8) (hp : p.length ≤ 1000) (hq : q.length ≤ 1000) (sf : Bool) (s n : List UInt8) (hs : s.length ≤ 1000000000) (hn : n.length ≤ 1000000000) (hG : S3.Glob w0) (h0 : 0 ∉ wr.l) (h1 : 1 ∉ wr.l) {o : Option (List UInt8)} (ho : sourceR [p, q] sf s n = o) : HintAt Tryd.prog w0 wr id (hSq r p q sf s n o) := fun w ρ hk hf h00 => by
 subst ho
 refine callAt_ok ent13 (makeV_ok _) (fun p hp => by cases hp) ρ w fun hpre => ?_
 have hr := rwB_str (hpre (r, rwB p q) (List.mem_singleton.2 rfl))
 have hc := source_pos [p, q] (by show 2 ≤ _; decide) (fun x hx => by
  simp only [List.mem_cons, List.not_mem_nil, or_false] at hx
  rcases hx with rfl | rfl <;> assumption) sf s n hs hn w (glob_keep hG hf h0 h1) (fun _ => ρ r) hr
 refine Calls.mono hc ?_
 rintro e w' ⟨rfl, hF⟩
 refine ⟨⟨0, 0, 0⟩, ?_, hF, (fun p hp => by cases hp), fun row hrw => by cases hrw⟩
 cases sourceR [p, q] sf s n <;> rfl
abbrev hDs (r : Nat) (p q : List UInt8) (sf : Bool) (s n : List UInt8) (o : Option (List UInt8)) : Hint := pr 14 (fun ρ => #[(TV.s (.lf (.sl r 0 0 1 2 none))).val ρ, .bool sf, stv s, stv n]) (mkT o) [(r, rwB p q)]
theorem mkT_val (o : Option (List UInt8)) (ρ : Env) : (mkT o).val ρ = mkW o := by cases o <;> rfl
theorem hDs_ok (id r : Nat) (p q : List UInt8) (hp : p.length ≤ 300) (hq : q.length ≤ 300) (sf : Bool) (s n : List UInt8) (hs : s.length ≤ 1000000000) (hn : n.length ≤ 1000000000) {o : Option (List UInt8)} (ho : sourceR [p, q] sf s n = o) : HintOk Tryd.prog id (hDs r p q sf s n o) := by
 subst ho
 refine pr_ok ent14 (v := mkW (sourceR [p, q] sf s n)) (mkT_ok _) (mkT_val _) fun ρ w h => ?_
 have hr := rwB_str (h (r, rwB p q) (List.mem_singleton.2 rfl))
 exact rsource_pos [p, q] (by show 2 ≤ _; decide) (fun x hx => by
  simp only [List.mem_cons, List.not_mem_nil, or_false] at hx
  rcases hx with rfl | rfl <;> assumption) sf s n hs hn w (fun _ => ρ r) hr
abbrev hSnn (sf : Bool) (s n : List UInt8) (o : Option (List UInt8)) : Hint := pcW 13 #[.slice none 0 0, .bool sf, stv s, stv n] (makeV o)
theorem hSnn_ok {w0 : World} {wr : Bs} (id : Nat) (sf : Bool) (s n : List UInt8) (hs : s.length ≤ 1000000000) (hn : n.length ≤ 1000000000) (hG : S3.Glob w0) (h0 : 0 ∉ wr.l) (h1 : 1 ∉ wr.l) {o : Option (List UInt8)} (ho : makeR (kindL [] sf) s n = o) : HintAt Tryd.prog w0 wr id (hSnn sf s n o) := by
 subst ho
 refine pcW_ok ent13 (v := makeW (makeR (kindL [] sf) s n)) (makeV_ok _) (fun _ => ?_) fun w hf => source_nil none 0 sf s n hs hn w (glob_keep hG hf h0 h1)
 cases makeR (kindL [] sf) s n <;> rfl
abbrev hDn (sf : Bool) (s n : List UInt8) (o : Option (List UInt8)) : Hint := pc 14 #[.slice none 0 0, .bool sf, stv s, stv n] (mkT o)
theorem hDn_ok (id : Nat) (sf : Bool) (s n : List UInt8) (hs : s.length ≤ 1000000000) (hn : n.length ≤ 1000000000) {o : Option (List UInt8)} (ho : makeR (kindL [] sf) s n = o) : HintOk Tryd.prog id (hDn sf s n o) := by
 subst ho
 exact pc_ok ent14 (v := mkW (makeR (kindL [] sf) s n)) (mkT_ok _) (mkT_val _) fun w => rsource_nil none 0 sf s n hs hn w
theorem make_len (k h n : List UInt8) : (makeL k h n).length = 44 + n.length := by
 unfold makeL
 rw [List.length_append, List.length_append, List.length_append, partM_len]
 show 11 + 32 + 1 + _ = _
 omega
theorem rise_back {u v : List UInt8} : riseL [maxL u v, minL u v] = false := by
 have h3 : leS (minL u v) (maxL u v) = true := by
  rw [leS_eq]
  unfold minL maxL
  by_cases h : u < v
  ·rw [if_pos h, if_pos (.inl h), decide_eq_true h]; rfl
  ·rw [if_neg h]
   by_cases he : u = v
   ·rw [if_pos (.inr he)]; simp
   ·rw [if_neg (fun h' => h'.elim h he)]
    have : v < u := Decidable.byContradiction fun hc => he (List.le_antisymm (List.not_lt.1 hc) (List.not_lt.1 h))
    rw [decide_eq_true this]; rfl
 refine rise_no (i := 1) (by show 1 < 2; decide) ?_
 unfold okAt
 show ((parseR (minL u v)).isSome && (decide (1 = 0) || !leS (minL u v) (maxL u v))) = false
 rw [h3]
 simp
set_option maxRecDepth 100000 in
theorem made_end (W0 W : World) (hf0 : Fr W0 [] W) (hG : S3.Glob W) (sf : Bool) (p q n s : List UInt8) (hp : p.length ≤ 60) (hq : q.length ≤ 60) (hn1 : n.length ≤ 7) (hn : nmP n = true) (hsl : s.length = 32) (hr : riseL [p, q] = !(p == q)) (hrb : riseL [q, p] = false) :
  At Tryd.prog W nB Tryd.f4.ntmps [] (rp Tryd.f4 5) (EndX Tryd.prog Tryd.f4 (FrG W0)) [(4, .v (.bool sf)), (11, .v (stv s)), (12, .v (stv n)), (15, .v (stv p)), (16, .v (stv q))] [] := by
 have m2 := make_yes (k := kindL [] sf) hsl hn
 have hyp := parse_make (kindL [] sf) s n hn
 have hyl := make_len (kindL [] sf) s n
 obtain ⟨a, ha⟩ : ∃ a, a = partM (kindL [] sf) s n := ⟨_, rfl⟩
 rw [← ha] at hyp
 have g3 := hSnn_ok (w0 := W) (wr := nB) 8003 sf s n (by omega) (by omega) hG (by simp) (by simp) m2
 have g5 := hDn_ok 10023 sf s n (by omega) (by omega) m2
 generalize makeL (kindL [] sf) s n = y at hyp hyl g3 g5
 have hob : sourceR [q, p] sf s n = none := by unfold sourceR; rw [hrb]; rfl
 have g2 := hSq_ok (w0 := W) (wr := nB) 7006 7002 q p (by omega) (by omega) sf s n (by omega) (by omega) hG (by simp) (by simp) hob
 have hyy : TV.v (.bool (!(y == y))) = TV.v (.bool false) := tv_b (by simp)
 have hnn : TV.v (.bool (n == n)) = TV.v (.bool true) := tv_b (by simp)
 have g6 := hPa_ok 12001 y (some (a, n)) (by omega) hyp
 have g7 := hAw_ok (w0 := W) (wr := nB) 13018 hG (by simp) (by simp)
 cases hpq : p == q with
 | false =>
  have m1 := make_yes (k := kindL [p, q] sf) hsl hn
  have hxl := make_len (kindL [p, q] sf) s n
  have ho : sourceR [p, q] sf s n = some (makeL (kindL [p, q] sf) s n) := by unfold sourceR; rw [hr, hpq, m1]; rfl
  generalize makeL (kindL [p, q] sf) s n = x at ho hxl
  have g1 := hSq_ok (w0 := W) (wr := nB) 6006 6002 p q (by omega) (by omega) sf s n (by omega) (by omega) hG (by simp) (by simp) ho
  have g4 := hDs_ok 9006 9002 p q (by omega) (by omega) sf s n (by omega) (by omega) ho
  have hxx : TV.v (.bool (!(x == x))) = TV.v (.bool false) := tv_b (by simp)
  exact At.fin rfl [(6006, hSq 6002 p q sf s n (some x)), (7006, hSq 7002 q p sf s n none), (8003, hSnn sf s n (some y)), (9006, hDs 9002 p q sf s n (some x)), (2010003, .val (.v (.bool true))), (2010004, .val (.v (.bool false))), (2010016, .val (.v (.bool false))), (10023, hDn sf s n (some y)), (2010025, .val (.v (.bool false))), (12001, hPa y (some (a, n))), (2013004, .val (.v (.bool true))), (2013008, .val (.v (.bool false))), (2013014, .val (.v (.bool true))), (13018, hAw)]
   ⟨g1, g2, g3, hintAt g4, trivial, trivial, trivial, hintAt g5, trivial, hintAt g6, trivial, trivial, trivial, g7, trivial⟩ [.d] (x := .v (.bool true))
   (ob := [qL (hSq 6002 p q sf s n (some x)), qL (hSq 7002 q p sf s n none), qL (hSnn sf s n (some y)), qL (hDs 9002 p q sf s n (some x)), [TV.v (.bool (!(p == q))) = TV.v (.bool true), TV.v (.bool false) = TV.v (.bool false), TV.v (.bool (!(x == x))) = TV.v (.bool false)], qL (hDn sf s n (some y)), [TV.v (.bool (!(y == y))) = TV.v (.bool false)], qL (hPa y (some (a, n))), [TV.v (.bool (n == n)) = TV.v (.bool true), TV.v (.bool (x == [])) = TV.v (.bool false), TV.v (.bool ((x.length : Int) == (y.length : Int))) = TV.v (.bool true)], qL hAw].flatten) (by kernel_rfl)
   (all_flat ⟨all_qL _, all_qL _, all_qL _, all_qL _, ⟨tv_b (by rw [hpq]; rfl), rfl, hxx, trivial⟩, all_qL _, ⟨hyy, trivial⟩, all_qL _, ⟨hnn, tv_b (by cases x with | nil => simp at hxl; omega | cons c l => rfl), tv_b (by rw [hxl, hyl]; simp), trivial⟩, all_qL _, trivial⟩) fun ρ' w' hf _ => ⟨rfl, hf0.comp hf fun y hy => by cases hy⟩
 | true =>
  have ho : sourceR [p, q] sf s n = none := by unfold sourceR; rw [hr, hpq]; rfl
  have g1 := hSq_ok (w0 := W) (wr := nB) 6006 6002 p q (by omega) (by omega) sf s n (by omega) (by omega) hG (by simp) (by simp) ho
  have g4 := hDs_ok 9006 9002 p q (by omega) (by omega) sf s n (by omega) (by omega) ho
  exact At.fin rfl [(6006, hSq 6002 p q sf s n none), (7006, hSq 7002 q p sf s n none), (8003, hSnn sf s n (some y)), (9006, hDs 9002 p q sf s n none), (2010003, .val (.v (.bool false))), (10023, hDn sf s n (some y)), (2010025, .val (.v (.bool false))), (12001, hPa y (some (a, n))), (2013004, .val (.v (.bool true))), (13018, hAw)]
   ⟨g1, g2, g3, hintAt g4, trivial, hintAt g5, trivial, hintAt g6, trivial, g7, trivial⟩ [.d] (x := .v (.bool true))
   (ob := [qL (hSq 6002 p q sf s n none), qL (hSq 7002 q p sf s n none), qL (hSnn sf s n (some y)), qL (hDs 9002 p q sf s n none), [TV.v (.bool (!(p == q))) = TV.v (.bool false)], qL (hDn sf s n (some y)), [TV.v (.bool (!(y == y))) = TV.v (.bool false)], qL (hPa y (some (a, n))), [TV.v (.bool (n == n)) = TV.v (.bool true)], qL hAw].flatten) (by kernel_rfl)
   (all_flat ⟨all_qL _, all_qL _, all_qL _, all_qL _, ⟨tv_b (by rw [hpq]; rfl), trivial⟩, all_qL _, ⟨hyy, trivial⟩, all_qL _, ⟨hnn, trivial⟩, all_qL _, trivial⟩) fun ρ' w' hf _ => ⟨rfl, hf0.comp hf fun y hy => by cases hy⟩
abbrev mdT (sf : Bool) (s n p q : List UInt8) : List (Nat × TV) := [(4, .v (.bool sf)), (11, .v (stv s)), (12, .v (stv n)), (13, .v (stv p)), (14, .v (stv q))]
abbrev mdE (sf : Bool) (s n p q : List UInt8) : List (Nat × TV) := [(4, .v (.bool sf)), (11, .v (stv s)), (12, .v (stv n)), (15, .v (stv p)), (16, .v (stv q))]
set_option maxRecDepth 100000 in
theorem made_mm (W : World) (hG : S3.Glob W) (sf : Bool) (s n u v : List UInt8) (hu : u.length ≤ 60) (hv : v.length ≤ 60) (pu : (parseR u).isSome = true) (pv : (parseR v).isSome = true) (hn1 : n.length ≤ 7) (hn : nmP n = true) (hsl : s.length = 32) :
  At Tryd.prog W nB Tryd.f4.ntmps [] (rp Tryd.f4 4) (EndX Tryd.prog Tryd.f4 (FrG W)) (mdT sf s n u v) [] := by
 have hr := rise_mm (u := u) (v := v) pu pv
 have hrb := rise_back (u := u) (v := v)
 have hpl : (minL u v).length ≤ 60 := by rcases minL_or u v with e | e <;> rw [e] <;> assumption
 have hql : (maxL u v).length ≤ 60 := by rcases maxL_or u v with e | e <;> rw [e] <;> assumption
 have hru := run_minL Tryd.prog (u := u) (v := v)
 have hrv := run_maxL Tryd.prog (u := u) (v := v)
 generalize minL u v = p at hr hrb hpl hru
 generalize maxL u v = q at hr hrb hql hrv
 refine E.At.reg rfl (E.Mid.run 2 [] trivial (tm2 := mdT sf s n u v ++ [(40, .v (stv u)), (41, .v (stv v))]) (rows2 := []) (ob := []) (by kernel_rfl) trivial rfl ?_)
 refine E.Mid.op (α := World) (some 42) (fun y => y) (fun _ => nB) (fun _ => mdT sf s n u v ++ [(42, .v (stv p))]) (fun _ => []) (fun y => Fr W [] y) (by kernel_rfl) (fun a' w ρ K QQ hden hk => ?_) fun W1 hfW1 => ?_
 ·obtain ⟨oo, c, hoo, hop, hcal, hcar, hdst, hgd⟩ : ∃ (oo : Oper) (c : Call), (hdOps (rp Tryd.f4 4))[2]? = some oo ∧ oo.op = .call c ∧ c.callee = .builtin .min ∧ c.args = #[.tmp 40, .tmp 41] ∧ oo.dst = some 42 ∧ oo.guard = none := ⟨(hdOps (rp Tryd.f4 4)).getD 2 default, (match ((hdOps (rp Tryd.f4 4)).getD 2 default).op with | .call c => c | _ => default), by kernel_rfl, by kernel_rfl, by kernel_rfl, by kernel_rfl, by kernel_rfl, by kernel_rfl⟩
  have x1 : a'.eval (.tmp 40) = stv u := (evalO_ok hden (show evalO _ (Operand.tmp 40) = some (TV.v (stv u)) from rfl)).1
  have x2 : a'.eval (.tmp 41) = stv v := (evalO_ok hden (show evalO _ (Operand.tmp 41) = some (TV.v (stv v)) from rfl)).1
  refine E.xOp_ok (o := oo) (d := 42) (v := stv p) (w' := w) rfl hoo hdst hgd (hru w a' oo c hop hcal (two_args hcar x1 x2)) ?_
  refine hk w _ w (fun _ => ⟨0, 0, 0⟩) hden.fr (E.den_again (d := 42) (tm' := mdT sf s n u v ++ [(42, .v (stv p))]) (rows2 := []) (K := []) hden (by decide) (fun p hp => ?_) rfl (fun p hp => by cases hp) (fun p hp => by cases hp) rfl rfl)
  simp only [List.cons_append, List.nil_append, List.mem_cons, List.not_mem_nil, or_false] at hp
  rcases hp with rfl | rfl | rfl | rfl | rfl | rfl
  ·exact .inr ⟨(show (4 : Nat) ≠ 42 by decide), rfl, fun r hr => by cases hr⟩
  ·exact .inr ⟨(show (11 : Nat) ≠ 42 by decide), rfl, fun r hr => by cases hr⟩
  ·exact .inr ⟨(show (12 : Nat) ≠ 42 by decide), rfl, fun r hr => by cases hr⟩
  ·exact .inr ⟨(show (13 : Nat) ≠ 42 by decide), rfl, fun r hr => by cases hr⟩
  ·exact .inr ⟨(show (14 : Nat) ≠ 42 by decide), rfl, fun r hr => by cases hr⟩
  ·exact .inl ⟨rfl, rfl, rfl⟩
 refine E.Mid.run 5 [] trivial (tm2 := mdT sf s n u v ++ [(42, .v (stv p)), (43, .v (stv u)), (44, .v (stv v))]) (rows2 := []) (ob := []) (by kernel_rfl) trivial rfl ?_
 refine E.Mid.op (α := World) (some 45) (fun y => y) (fun _ => nB) (fun _ => mdT sf s n u v ++ [(42, .v (stv p)), (45, .v (stv q))]) (fun _ => []) (fun y => Fr W [] y) (by kernel_rfl) (fun a' w ρ K QQ hden hk => ?_) fun W2 hfW2 => ?_
 ·obtain ⟨oo, c, hoo, hop, hcal, hcar, hdst, hgd⟩ : ∃ (oo : Oper) (c : Call), (hdOps (rp Tryd.f4 4))[5]? = some oo ∧ oo.op = .call c ∧ c.callee = .builtin .max ∧ c.args = #[.tmp 43, .tmp 44] ∧ oo.dst = some 45 ∧ oo.guard = none := ⟨(hdOps (rp Tryd.f4 4)).getD 5 default, (match ((hdOps (rp Tryd.f4 4)).getD 5 default).op with | .call c => c | _ => default), by kernel_rfl, by kernel_rfl, by kernel_rfl, by kernel_rfl, by kernel_rfl, by kernel_rfl⟩
  have x1 : a'.eval (.tmp 43) = stv u := (evalO_ok hden (show evalO _ (Operand.tmp 43) = some (TV.v (stv u)) from rfl)).1
  have x2 : a'.eval (.tmp 44) = stv v := (evalO_ok hden (show evalO _ (Operand.tmp 44) = some (TV.v (stv v)) from rfl)).1
  refine E.xOp_ok (o := oo) (d := 45) (v := stv q) (w' := w) rfl hoo hdst hgd (hrv w a' oo c hop hcal (two_args hcar x1 x2)) ?_
  refine hk w _ w (fun _ => ⟨0, 0, 0⟩) (hfW1.comp hden.fr fun y hy => by cases hy) (E.den_again (d := 45) (tm' := mdT sf s n u v ++ [(42, .v (stv p)), (45, .v (stv q))]) (rows2 := []) (K := []) hden (by decide) (fun p hp => ?_) rfl (fun p hp => by cases hp) (fun p hp => by cases hp) rfl rfl)
  simp only [List.cons_append, List.nil_append, List.mem_cons, List.not_mem_nil, or_false] at hp
  rcases hp with rfl | rfl | rfl | rfl | rfl | rfl | rfl
  ·exact .inr ⟨(show (4 : Nat) ≠ 45 by decide), rfl, fun r hr => by cases hr⟩
  ·exact .inr ⟨(show (11 : Nat) ≠ 45 by decide), rfl, fun r hr => by cases hr⟩
  ·exact .inr ⟨(show (12 : Nat) ≠ 45 by decide), rfl, fun r hr => by cases hr⟩
  ·exact .inr ⟨(show (13 : Nat) ≠ 45 by decide), rfl, fun r hr => by cases hr⟩
  ·exact .inr ⟨(show (14 : Nat) ≠ 45 by decide), rfl, fun r hr => by cases hr⟩
  ·exact .inr ⟨(show (42 : Nat) ≠ 45 by decide), rfl, fun r hr => by cases hr⟩
  ·exact .inl ⟨rfl, rfl, rfl⟩
 refine E.Mid.run 8 [] trivial (tm2 := mdE sf s n p q) (rows2 := []) (ob := []) (by kernel_rfl) trivial rfl ?_
 exact E.Mid.out (by kernel_rfl) (E.At.flat (td := rp Tryd.f4 5) (by kernel_rfl) (made_end W W2 hfW2 (glob_keep hG hfW2 (by simp) (by simp)) sf p q n s hpl hql hn1 hn hsl hr hrb))
set_option maxRecDepth 100000 in
theorem made_any (a b m : Nat) (h : List UInt8) (sf : Bool) (ha : a < 256) (hb : b < 256) (hm : m < 256) (hh : h.length ≤ 9223372036854775807) (W : World) (hG : S3.Glob W) : Calls Tryd.prog 4 #[stv h, .int .u8 (a : Int), .int .u8 (b : Int), .int .u8 (m : Int), .bool sf] W (FrG W) := by
 refine At.calls (args := [.v (stv h), .int .u8 (a : Int), .int .u8 (b : Int), .int .u8 (m : Int), .v (.bool sf)]) (rows := []) (gl := []) (wr := []) (ρ := fun _ => (⟨0, 0, 0⟩ : Blk)) Tryd.func4 rfl rfl (init_rw ⟨rfl, rfl, rfl, rfl, rfl, trivial⟩ rfl rfl rfl (fun p hp => by cases hp) (fun p hp => by cases hp) (fun p hp => by cases hp)) rfl ?_
 have k1 : ∀ id, HintOk Tryd.prog id (pc 18 #[.int .u8 (a : Int), .int .u8 (m : Int)] (.v (stv (pathL a m)))) := fun id => hPh_ok id a m ha hm
 have k2 : ∀ id, HintOk Tryd.prog id (pc 18 #[.int .u8 (b : Int), .int .u8 (m : Int)] (.v (stv (pathL b m)))) := fun id => hPh_ok id b m hb hm
 have kS : ∀ id, HintOk Tryd.prog id (pc 17 #[stv h] (.v (stv (seedL h)))) := fun id => hSe_ok id h hh
 have hsl := seedL_len h
 have pu := path_parse a m
 have pv := path_parse b m
 have lu := path_len a m
 have lv := path_len b m
 generalize pathL a m = u at k1 pu lu
 generalize pathL b m = v at k2 pv lv
 generalize seedL h = s at kS hsl
 have su : (parseR u).isSome = true := by rw [pu]; rfl
 have sv : (parseR v).isSome = true := by rw [pv]; rfl
 by_cases e0 : m % 5 = 0
 ·exact At.run rfl [(2001, pc 17 #[stv h] (.v (stv s))), (2003002, .val (.int .u8 0)), (4002, pc 18 #[.int .u8 (a : Int), .int .u8 (m : Int)] (.v (stv u))), (4005, pc 18 #[.int .u8 (b : Int), .int .u8 (m : Int)] (.v (stv v)))] ⟨hintAt (kS _), trivial, hintAt (k1 _), hintAt (k2 _), trivial⟩ [] (tm2 := mdT sf s [97] u v) (rows2 := []) (ob := [qL (pc 17 #[stv h] (.v (stv s))), [TV.int .u8 ((m : Int) % 5) = TV.int .u8 0, 0 ≤ (m : Int) ∧ (0 : Int) < 5, 0 ≤ (0 : Int) ∧ (0 : Int) < ((5 : Nat) : Int), 0 < 5], qL (pc 18 #[.int .u8 (a : Int), .int .u8 (m : Int)] (.v (stv u))), qL (pc 18 #[.int .u8 (b : Int), .int .u8 (m : Int)] (.v (stv v)))].flatten) (td := rp Tryd.f4 4) (by kernel_rfl) (all_flat ⟨all_qL _, ⟨tv_int (by omega), ⟨by omega, by decide⟩, ⟨by decide, by decide⟩, by decide, trivial⟩, all_qL _, all_qL _, trivial⟩) rfl rfl (by intro h; cases h) (made_mm W hG sf s [97] u v lu lv su sv (by decide) (by decide +kernel) hsl)
 by_cases e1 : m % 5 = 1
 ·exact At.run rfl [(2001, pc 17 #[stv h] (.v (stv s))), (2003002, .val (.int .u8 1)), (4002, pc 18 #[.int .u8 (a : Int), .int .u8 (m : Int)] (.v (stv u))), (4005, pc 18 #[.int .u8 (b : Int), .int .u8 (m : Int)] (.v (stv v)))] ⟨hintAt (kS _), trivial, hintAt (k1 _), hintAt (k2 _), trivial⟩ [] (tm2 := mdT sf s [98] u v) (rows2 := []) (ob := [qL (pc 17 #[stv h] (.v (stv s))), [TV.int .u8 ((m : Int) % 5) = TV.int .u8 1, 0 ≤ (m : Int) ∧ (0 : Int) < 5, 0 ≤ (1 : Int) ∧ (1 : Int) < ((5 : Nat) : Int), 1 < 5], qL (pc 18 #[.int .u8 (a : Int), .int .u8 (m : Int)] (.v (stv u))), qL (pc 18 #[.int .u8 (b : Int), .int .u8 (m : Int)] (.v (stv v)))].flatten) (td := rp Tryd.f4 4) (by kernel_rfl) (all_flat ⟨all_qL _, ⟨tv_int (by omega), ⟨by omega, by decide⟩, ⟨by decide, by decide⟩, by decide, trivial⟩, all_qL _, all_qL _, trivial⟩) rfl rfl (by intro h; cases h) (made_mm W hG sf s [98] u v lu lv su sv (by decide) (by decide +kernel) hsl)
 by_cases e2 : m % 5 = 2
 ·exact At.run rfl [(2001, pc 17 #[stv h] (.v (stv s))), (2003002, .val (.int .u8 2)), (4002, pc 18 #[.int .u8 (a : Int), .int .u8 (m : Int)] (.v (stv u))), (4005, pc 18 #[.int .u8 (b : Int), .int .u8 (m : Int)] (.v (stv v)))] ⟨hintAt (kS _), trivial, hintAt (k1 _), hintAt (k2 _), trivial⟩ [] (tm2 := mdT sf s [108, 105, 98, 45, 49, 46, 48] u v) (rows2 := []) (ob := [qL (pc 17 #[stv h] (.v (stv s))), [TV.int .u8 ((m : Int) % 5) = TV.int .u8 2, 0 ≤ (m : Int) ∧ (0 : Int) < 5, 0 ≤ (2 : Int) ∧ (2 : Int) < ((5 : Nat) : Int), 2 < 5], qL (pc 18 #[.int .u8 (a : Int), .int .u8 (m : Int)] (.v (stv u))), qL (pc 18 #[.int .u8 (b : Int), .int .u8 (m : Int)] (.v (stv v)))].flatten) (td := rp Tryd.f4 4) (by kernel_rfl) (all_flat ⟨all_qL _, ⟨tv_int (by omega), ⟨by omega, by decide⟩, ⟨by decide, by decide⟩, by decide, trivial⟩, all_qL _, all_qL _, trivial⟩) rfl rfl (by intro h; cases h) (made_mm W hG sf s [108, 105, 98, 45, 49, 46, 48] u v lu lv su sv (by decide) (by decide +kernel) hsl)
 by_cases e3 : m % 5 = 3
 ·exact At.run rfl [(2001, pc 17 #[stv h] (.v (stv s))), (2003002, .val (.int .u8 3)), (4002, pc 18 #[.int .u8 (a : Int), .int .u8 (m : Int)] (.v (stv u))), (4005, pc 18 #[.int .u8 (b : Int), .int .u8 (m : Int)] (.v (stv v)))] ⟨hintAt (kS _), trivial, hintAt (k1 _), hintAt (k2 _), trivial⟩ [] (tm2 := mdT sf s [120, 95, 121] u v) (rows2 := []) (ob := [qL (pc 17 #[stv h] (.v (stv s))), [TV.int .u8 ((m : Int) % 5) = TV.int .u8 3, 0 ≤ (m : Int) ∧ (0 : Int) < 5, 0 ≤ (3 : Int) ∧ (3 : Int) < ((5 : Nat) : Int), 3 < 5], qL (pc 18 #[.int .u8 (a : Int), .int .u8 (m : Int)] (.v (stv u))), qL (pc 18 #[.int .u8 (b : Int), .int .u8 (m : Int)] (.v (stv v)))].flatten) (td := rp Tryd.f4 4) (by kernel_rfl) (all_flat ⟨all_qL _, ⟨tv_int (by omega), ⟨by omega, by decide⟩, ⟨by decide, by decide⟩, by decide, trivial⟩, all_qL _, all_qL _, trivial⟩) rfl rfl (by intro h; cases h) (made_mm W hG sf s [120, 95, 121] u v lu lv su sv (by decide) (by decide +kernel) hsl)
 have e4 : m % 5 = 4 := by omega
 exact At.run rfl [(2001, pc 17 #[stv h] (.v (stv s))), (2003002, .val (.int .u8 4)), (4002, pc 18 #[.int .u8 (a : Int), .int .u8 (m : Int)] (.v (stv u))), (4005, pc 18 #[.int .u8 (b : Int), .int .u8 (m : Int)] (.v (stv v)))] ⟨hintAt (kS _), trivial, hintAt (k1 _), hintAt (k2 _), trivial⟩ [] (tm2 := mdT sf s [113, 63, 61, 43] u v) (rows2 := []) (ob := [qL (pc 17 #[stv h] (.v (stv s))), [TV.int .u8 ((m : Int) % 5) = TV.int .u8 4, 0 ≤ (m : Int) ∧ (0 : Int) < 5, 0 ≤ (4 : Int) ∧ (4 : Int) < ((5 : Nat) : Int), 4 < 5], qL (pc 18 #[.int .u8 (a : Int), .int .u8 (m : Int)] (.v (stv u))), qL (pc 18 #[.int .u8 (b : Int), .int .u8 (m : Int)] (.v (stv v)))].flatten) (td := rp Tryd.f4 4) (by kernel_rfl) (all_flat ⟨all_qL _, ⟨tv_int (by omega), ⟨by omega, by decide⟩, ⟨by decide, by decide⟩, by decide, trivial⟩, all_qL _, all_qL _, trivial⟩) rfl rfl (by intro h; cases h) (made_mm W hG sf s [113, 63, 61, 43] u v lu lv su sv (by decide) (by decide +kernel) hsl)
theorem made_all (W : World) (h : ByteArray) (a b m : Int) (sf : Bool) (ha : 0 ≤ a ∧ a < 256) (hb : 0 ≤ b ∧ b < 256) (hm : 0 ≤ m ∧ m < 256) (hh : h.size ≤ 9223372036854775807) (hG : S3.Glob W) : Calls Tryd.prog 4 #[.string h, .int .u8 a, .int .u8 b, .int .u8 m, .bool sf] W (FrG W) := by
 obtain ⟨a, rfl⟩ := Int.eq_ofNat_of_zero_le ha.1
 obtain ⟨b, rfl⟩ := Int.eq_ofNat_of_zero_le hb.1
 obtain ⟨m, rfl⟩ := Int.eq_ofNat_of_zero_le hm.1
 have := ha.2
 have := hb.2
 have := hm.2
 exact made_any a b m h.data.toList sf (by omega) (by omega) (by omega) (by simpa using hh) W hG
end
end Go.Proofs.YtdbbcngolcnniaaDoor
/- Slices of texts, as they came in, opened. No condition. -/
namespace Go.Proofs.YtdbbcngolcnniaaDoor
set_option linter.unusedSimpArgs false
open Go.Deep Go.ChangeShapes Go.WideShapes Go.ChangeAt Go.RowKit
set_option linter.unusedVariables false
def TxtV (W : World) (v : Value) (l : List (List UInt8)) : Prop := l.length ≤ 9223372036854775807 ∧ ∃ a cap, v = .slice a l.length cap ∧ (0 < l.length → ∃ b o, a = some ⟨b, o, none⟩ ∧ b < W.heap.size ∧ ∀ i (h : i < l.length), W.cell? ⟨b, o + i, none⟩ = some (stv l[i]))
theorem addr_add0 {g o i : Nat} : (⟨g, o, none⟩ : Addr).add i = ⟨g, o + i, none⟩ := by unfold Addr.add; split <;> simp_all
set_option maxRecDepth 100000 in
theorem texts_open {H : Type} {enc : TypeId × Value → H} {W : World} {fuel : Nat} {cs : List Value} {x : DataW H × List MemPlace} (h : DataW.trod enc Tryd.prog W 0 (fun _ => true) true fuel 22 cs = some x) :
  ∃ pa len ca l, cs = [.slice pa len ca] ∧ TxtV W (.slice pa len ca) l ∧ len ≤ ca ∧ ca ≤ 9223372036854775807 ∧ l.length = len := by
 rcases open_slice1 Tryd.underlying22 (by kernel_rfl) h with ⟨rfl, -⟩ | ⟨a, len, cap, m, fu, V, D, Pl, rfl, -, hl, hm, hmm, hx, hel⟩
 ·exact ⟨none, 0, 0, [], rfl, ⟨by simp, none, 0, rfl, fun h => absurd h (Nat.lt_irrefl _)⟩, by omega, by omega, rfl⟩
 ·have hlm : len ≤ m := by rw [hmm]; split <;> omega
  unfold maxLen at hm
  obtain ⟨g, off, spot⟩ := a
  have hsp : 0 < len → spot = none := fun h0 => by
   have := World.cell?_spot (hel 0 (by omega)).1
   simpa [Addr.add] using this
  have each : ∀ i, i < len → ∃ s : List UInt8, W.cell? ⟨g, off + i, none⟩ = some (stv s) ∧ D i = .lit (.string s) ∧ s.length ≤ 9223372036854775807 := by
   intro i hi
   obtain rfl := hsp (by omega)
   obtain ⟨h1, h2⟩ := hel i (by omega)
   obtain ⟨s0, e0, e1, o0⟩ := DataW.trod_string Tryd.underlying9 h2
   simp only [List.cons.injEq, and_true] at e0
   rw [e0, addr_add0] at h1
   unfold maxLen at o0
   exact ⟨s0.data.toList, h1, congrArg Prod.fst e1, by rw [Array.length_toList]; show s0.size ≤ _; omega⟩
  obtain ⟨A, hA⟩ := choose_lt each
  have hlen : ((List.range len).map A).length = len := by simp
  refine ⟨some ⟨g, off, spot⟩, len, cap, (List.range len).map A, rfl, ⟨by rw [hlen]; omega, _, cap, by rw [hlen], fun h0 => ?_⟩, hl, by omega, hlen⟩
  rw [hlen] at h0
  obtain rfl := hsp h0
  refine ⟨g, off, rfl, block_lt_of_cell (hA 0 h0).1, fun i hi => ?_⟩
  rw [hlen] at hi
  rw [List.getElem_map, List.getElem_range]
  exact (hA i hi).1
section
open E
theorem tx_row {W : World} {b o c : Nat} {ps : List (List UInt8)} (h0 : 0 < ps.length) (hb : b < W.heap.size) (h : ∀ i (h : i < ps.length), W.cell? ⟨b, o + i, none⟩ = some (stv ps[i])) (ρ : Env) (r : Nat) (hρ : ρ r = ⟨b, o, c⟩) : RowAt ρ r (strR ps) W := by
 unfold RowAt
 rw [hρ]
 refine ⟨hb, fun j v hv => ⟨?_, fun hw => by cases hw⟩, (fun e k hc => by cases hc), cells_of_cell1 (h 0 h0)⟩
 have hj : j < ps.length := by
  have := (List.getElem?_eq_some_iff.1 hv).1
  rw [lst_fnc, flat_len (k := 1) ps.length (fun _ _ => rfl)] at this
  omega
 rw [lst_fnc, flat_get (f := strF ps) (k := 1) (by omega) ps.length (fun _ _ => rfl) j (by omega), Nat.div_one, Nat.mod_one] at hv
 cases hv
 rw [h j hj, List.getD_eq_getElem?_getD, List.getElem?_eq_getElem hj]; rfl
end
end Go.Proofs.YtdbbcngolcnniaaDoor
/- What the listed variables' condition gives: the two tables of package sha stand in memory as the program's text lays them. -/
namespace Go.Proofs.YtdbbcngolcnniaaDoor.S3
set_option linter.unusedSimpArgs false
open Go.ChangeShapes Go.WideShapes Go.RowKit
set_option linter.unusedVariables false
def laidL : List (String × DataW Unit) := Rows.pathNamesRow.laid
theorem gStart : Tryd.prog.globalNamed ((laidL.map (·.1)).getD 0 "") = some 0 := by kernel_rfl
theorem gConsts : Tryd.prog.globalNamed ((laidL.map (·.1)).getD 1 "") = some 1 := by kernel_rfl
theorem tConsts : (Tryd.prog.globals[1]?).map (·.type) = some 106 := by kernel_rfl
theorem tStart : (Tryd.prog.globals[0]?).map (·.type) = some 63 := by kernel_rfl
theorem arr_of_trod {H : Type} {enc : TypeId × Value → H} {P : Program} {w : World} {base : Nat} {sp : Nat → Bool} {held : Bool} {fuel n : Nat} {t e : TypeId} {kd : IntKind} {cs : List Value} {p : List MemPlace}
  (ht : P.underlying t = some (.array n e)) (he : P.underlying e = some (.int kd)) (hce : P.cellsOf e = 1) (hct : P.cellsOf t = n) (ns : List Int)
  (hd : DataW.trod enc P w base sp held fuel t cs = some (.agg (ns.map fun k => .lit (.int kd k)), p)) : cs = ns.map (Value.int kd) := by
 obtain ⟨xs, m, rfl, hx, hlen, hn, hel⟩ := DataW.trod_array ht hd
 simp only [Prod.mk.injEq, DataW.agg.injEq] at hx
 have hx1 := hx.1
 have hnl : ns.length = n := by
  have := congrArg List.length hx1
  simp at this
  omega
 apply List.ext_getElem?
 intro i
 by_cases hi : i < n
 ·have h1 := hel i hi
  rw [hce, Nat.mul_one] at h1
  rw [List.getElem?_eq_getElem (by omega : i < xs.length)] at h1
  obtain ⟨k, e1, e2, _⟩ := DataW.trod_int he h1
  have hk : ns[i]? = some k := by
   have := congrArg (fun l => l[i]?) hx1
   simp only [List.getElem?_map, List.getElem?_eq_getElem (by omega : i < xs.length), List.getElem?_eq_getElem (by omega : i < ns.length), Option.map_some] at this
   rw [e2] at this
   rw [List.getElem?_eq_getElem (by omega : i < ns.length)]
   simp at this
   rw [this]
  rw [List.getElem?_map, hk]
  have h2 := congrArg (fun l => l[0]?) e1
  simp only [List.getElem?_take, List.getElem?_drop] at h2
  simpa using h2
 ·rw [List.getElem?_eq_none (by omega), List.getElem?_eq_none (by simp; omega)]
def startI : List Int := [1779033703, 3144134277, 1013904242, 2773480762, 1359893119, 2600822924, 528734635, 1541459225]
def constsI : List Int := kL.map fun (k : Nat) => (k : Int)
theorem start_data {H : Type} : (Rows.laid_shelfmark_sha_start : DataW H) = .agg (startI.map fun k => .lit (.int .u32 k)) := rfl
theorem consts_data {H : Type} : (Rows.laid_shelfmark_sha_consts : DataW H) = .agg (constsI.map fun k => .lit (.int .u32 k)) := rfl
theorem row_of_var {W : World} {P : Program} {n : String} {g : Nat} {cs : Array Value} (hg : P.globalNamed n = some g) (hv : W.var? P n = some cs) (hfr : ∃ c t, W.heap[g]? = some (.cells c t (0, 0))) : ∃ t, W.heap[g]? = some (.cells cs t (0, 0)) := by
 obtain ⟨c, t, h⟩ := hfr
 simp only [World.var?, hg, Option.bind_some, h, Option.some.injEq] at hv
 subst hv
 exact ⟨t, h⟩
theorem mem_row (g n : Nat) (hn : 0 < n) : MemPlace.cell g 0 ∈ MemPlace.row ⟨g, 0, none⟩ n := by
 unfold MemPlace.row
 exact List.mem_map.2 ⟨0, List.mem_range.2 hn, rfl⟩
theorem glob_of_laid {W : World} (h : laidMetH Tryd.prog laidL W) : Glob W := by
 rw [MakeChecks.laidMetH_plain _ _ _ (by kernel_rfl)] at h
 obtain ⟨ps, ⟨g0, t0, cs0, f0, p0, q0, hg0, ht0, hv0, hd0, ⟨g1, t1, cs1, f1, p1, q1, hg1, ht1, hv1, hd1, hq, e1⟩, e0⟩, _, hfr⟩ := h
 obtain rfl := Option.some.inj (gStart.symm.trans hg0)
 obtain rfl := Option.some.inj (gConsts.symm.trans hg1)
 obtain rfl := Option.some.inj (tStart.symm.trans ht0)
 obtain rfl := Option.some.inj (tConsts.symm.trans ht1)
 rw [start_data] at hd0
 rw [consts_data] at hd1
 have c0 := arr_of_trod Tryd.underlying63 Tryd.underlying61 (by kernel_rfl) (by kernel_rfl) _ hd0
 have c1 := arr_of_trod Tryd.underlying106 Tryd.underlying61 (by kernel_rfl) (by kernel_rfl) _ hd1
 obtain ⟨l0⟩ := cs0
 obtain ⟨l1⟩ := cs1
 simp only at c0 c1
 subst c0 c1
 have m0 : MemPlace.cell 0 0 ∈ ps := by
  rw [e0]
  exact List.mem_append_left _ (List.mem_append_left _ (mem_row 0 _ (by decide)))
 have m1 : MemPlace.cell 1 0 ∈ ps := by
  rw [e0, e1]
  exact List.mem_append_right _ (List.mem_append_left _ (List.mem_append_left _ (mem_row 1 _ (by decide))))
 exact ⟨row_of_var gConsts hv1 (hfr 1 0 m1).1, row_of_var gStart hv0 (hfr 0 0 m0).1⟩
theorem door_met (os : Os) (args : Array Value) : laidMetH Tryd.prog laidL ((World.doorLaid Tryd.prog 400 os).forCall (fun _ _ => 0) ⟨#[], args, []⟩).memory :=
 laidMetH_of_parts3 (fuel := 8) (laidMet_of_run' 8 (by kernel_rfl) (by kernel_rfl)) (by kernel_rfl) (by kernel_rfl)
end Go.Proofs.YtdbbcngolcnniaaDoor.S3
/- PathAll's law: whether a name may be, what a path is, what is made of anything, is the document's. Its conditions: lengths that fit; the tables of sha as its text lays them. -/
namespace Go.Proofs.YtdbbcngolcnniaaDoor
open Go Go.RowKit
set_option linter.unusedVariables false
set_option linter.unusedSimpArgs false
section
open E
def pA (o : Option (List UInt8 × List UInt8)) : List UInt8 := (o.map (·.1)).getD []
def pN (o : Option (List UInt8 × List UInt8)) : List UInt8 := (o.map (·.2)).getD []
def mX (o : Option (List UInt8)) : List UInt8 := o.getD []
theorem parseV_let (o : Option (List UInt8 × List UInt8)) : parseV o = .tup [.lf (.v (stv (pA o))), .lf (.v (stv (pN o))), .lf (.v (.bool o.isSome))] := by cases o <;> rfl
theorem parsT_let (o : Option (List UInt8 × List UInt8)) : parsT o = .s (.agg [.one (.v (stv (pA o))), .one (.v (stv (pN o))), .one (.v (.bool o.isSome))]) := by cases o <;> rfl
theorem makeV_let (o : Option (List UInt8)) : makeV o = .tup [.lf (.v (stv (mX o))), .lf (.v (.bool o.isSome))] := by cases o <;> rfl
theorem mkT_let (o : Option (List UInt8)) : mkT o = .s (.agg [.one (.v (stv (mX o))), .one (.v (.bool o.isSome))]) := by cases o <;> rfl
abbrev hP3 (s a n : List UInt8) (b : Bool) : Hint := pc 9 #[stv s] (.tup [.lf (.v (stv a)), .lf (.v (stv n)), .lf (.v (.bool b))])
abbrev hD3 (s a n : List UInt8) (b : Bool) : Hint := pc 10 #[stv s] (.s (.agg [.one (.v (stv a)), .one (.v (stv n)), .one (.v (.bool b))]))
abbrev hM2 (k h n x : List UInt8) (b : Bool) : Hint := pcW 11 #[stv k, stv h, stv n] (.tup [.lf (.v (stv x)), .lf (.v (.bool b))])
abbrev hE2 (k h n x : List UInt8) (b : Bool) : Hint := pc 12 #[stv k, stv h, stv n] (.s (.agg [.one (.v (stv x)), .one (.v (.bool b))]))
abbrev hS2 (ps : List (List UInt8)) (sf : Bool) (h n x : List UInt8) (b : Bool) : Hint := .callW ⟨13, fun ρ => #[(TV.s (.lf (.sl 1 0 0 1 ps.length none))).val ρ, .bool sf, stv h, stv n], .tup [.lf (.v (stv x)), .lf (.v (.bool b))], [(1, strR ps)], [], none, []⟩
abbrev hF2 (ps : List (List UInt8)) (sf : Bool) (h n x : List UInt8) (b : Bool) : Hint := pr 14 (fun ρ => #[(TV.s (.lf (.sl 1 0 0 1 ps.length none))).val ρ, .bool sf, stv h, stv n]) (.s (.agg [.one (.v (stv x)), .one (.v (.bool b))])) [(1, strR ps)]
abbrev hS0 (pa : Option Addr) (ca : Nat) (sf : Bool) (h n x : List UInt8) (b : Bool) : Hint := pcW 13 #[.slice pa 0 ca, .bool sf, stv h, stv n] (.tup [.lf (.v (stv x)), .lf (.v (.bool b))])
abbrev hF0 (pa : Option Addr) (ca : Nat) (sf : Bool) (h n x : List UInt8) (b : Bool) : Hint := pc 14 #[.slice pa 0 ca, .bool sf, stv h, stv n] (.s (.agg [.one (.v (stv x)), .one (.v (.bool b))]))
theorem hP3_ok (id : Nat) (s : List UInt8) (hs : s.length ≤ 1000000) : HintOk Tryd.prog id (hP3 s (pA (parseR s)) (pN (parseR s)) (parseR s).isSome) := by
 have := hPa_ok id s (parseR s) hs rfl
 rw [show hPa s (parseR s) = _ from congrArg (pc 9 #[stv s]) (parseV_let _)] at this
 exact this
theorem hD3_ok (id : Nat) (s : List UInt8) (hs : s.length ≤ 1000000) : HintOk Tryd.prog id (hD3 s (pA (parseR s)) (pN (parseR s)) (parseR s).isSome) := by
 have := hDp_ok id s (parseR s) hs rfl
 rw [show hDp s (parseR s) = _ from congrArg (pc 10 #[stv s]) (parsT_let _)] at this
 exact this
theorem hM2_ok {w0 : World} {wr : Bs} (id : Nat) (k h n : List UInt8) (hk : k.length ≤ 800000) (hh : h.length ≤ 1000000000) (hn : n.length ≤ 1000000000) (hG : S3.Glob w0) (h0 : 0 ∉ wr.l) (h1 : 1 ∉ wr.l) : HintAt Tryd.prog w0 wr id (hM2 k h n (mX (makeR k h n)) (makeR k h n).isSome) := by
 have := hMk_ok (w0 := w0) (wr := wr) id k h n (makeR k h n) hk hh hn hG h0 h1 rfl
 rw [show hMk k h n (makeR k h n) = _ from congrArg (pcW 11 #[stv k, stv h, stv n]) (makeV_let _)] at this
 exact this
theorem hE2_ok (id : Nat) (k h n : List UInt8) (hk : k.length ≤ 9000) (hh : h.length ≤ 1000000000) (hn : n.length ≤ 1000000000) : HintOk Tryd.prog id (hE2 k h n (mX (makeR k h n)) (makeR k h n).isSome) := by
 have := hDm_ok id k h n (makeR k h n) hk hh hn rfl
 rw [show hDm k h n (makeR k h n) = _ from congrArg (pc 12 #[stv k, stv h, stv n]) (mkT_let _)] at this
 exact this
theorem hS2_ok {w0 : World} {wr : Bs} (id : Nat) (ps : List (List UInt8)) (hps : ps.length ≤ 20) (hp : ∀ p ∈ ps, p.length ≤ 300) (sf : Bool) (h n : List UInt8) (hh : h.length ≤ 1000000000) (hn : n.length ≤ 1000000000) (hG : S3.Glob w0) (h0 : 0 ∉ wr.l) (h1 : 1 ∉ wr.l) : HintAt Tryd.prog w0 wr id (hS2 ps sf h n (mX (sourceR ps sf h n)) (sourceR ps sf h n).isSome) := fun w ρ hk hf h00 => by
 refine callAt_ok ent13 (tup2_ok _ _ rfl rfl) (fun p hp => by cases hp) ρ w fun hpre => ?_
 have hr := hpre (1, strR ps) (List.mem_singleton.2 rfl)
 have hc := source_pos ps (by omega) (fun p h => Nat.le_trans (hp p h) (by decide)) sf h n hh hn w (glob_keep hG hf h0 h1) ρ hr
 refine Calls.mono hc ?_
 rintro e w' ⟨rfl, hF⟩
 refine ⟨⟨0, 0, 0⟩, ?_, hF, (fun p hp => by cases hp), fun row hrw => by cases hrw⟩
 cases sourceR ps sf h n <;> rfl
theorem agg2_ok (x : List UInt8) (b : Bool) : (TV.s (.agg [.one (.v (stv x)), .one (.v (.bool b))])).ok := by
 intro p hp
 simp only [List.mem_cons, List.not_mem_nil, or_false] at hp
 rcases hp with rfl | rfl <;> rfl
theorem hF2_ok (id : Nat) (ps : List (List UInt8)) (hps : ps.length ≤ 20) (hp : ∀ p ∈ ps, p.length ≤ 300) (sf : Bool) (h n : List UInt8) (hh : h.length ≤ 1000000000) (hn : n.length ≤ 1000000000) : HintOk Tryd.prog id (hF2 ps sf h n (mX (sourceR ps sf h n)) (sourceR ps sf h n).isSome) := by
 refine pr_ok ent14 (v := mkW (sourceR ps sf h n)) (agg2_ok _ _) (fun ρ => by cases sourceR ps sf h n <;> rfl) fun ρ w hr => ?_
 exact rsource_pos ps hps hp sf h n hh hn w ρ (hr (1, strR ps) (List.mem_singleton.2 rfl))
theorem hS0_ok {w0 : World} {wr : Bs} (id : Nat) (pa : Option Addr) (ca : Nat) (sf : Bool) (h n : List UInt8) (hh : h.length ≤ 1000000000) (hn : n.length ≤ 1000000000) (hG : S3.Glob w0) (h0 : 0 ∉ wr.l) (h1 : 1 ∉ wr.l) : HintAt Tryd.prog w0 wr id (hS0 pa ca sf h n (mX (makeR (kindL [] sf) h n)) (makeR (kindL [] sf) h n).isSome) :=
 pcW_ok ent13 (v := makeW (makeR (kindL [] sf) h n)) (tup2_ok _ _ rfl rfl) (fun _ => by cases makeR (kindL [] sf) h n <;> rfl) fun w hf => source_nil pa ca sf h n hh hn w (glob_keep hG hf h0 h1)
theorem hF0_ok (id : Nat) (pa : Option Addr) (ca : Nat) (sf : Bool) (h n : List UInt8) (hh : h.length ≤ 1000000000) (hn : n.length ≤ 1000000000) : HintOk Tryd.prog id (hF0 pa ca sf h n (mX (makeR (kindL [] sf) h n)) (makeR (kindL [] sf) h n).isSome) :=
 pc_ok ent14 (v := mkW (makeR (kindL [] sf) h n)) (agg2_ok _ _) (fun _ => by cases makeR (kindL [] sf) h n <;> rfl) fun w => rsource_nil pa ca sf h n hh hn w
abbrev alT (ps : List (List UInt8)) (sf : Bool) (n s k h : List UInt8) (i : Nat) : List (Nat × TV) := [(0, .v (stv n)), (1, .v (stv s)), (2, .v (stv k)), (3, .v (stv h)), (4, .s (.lf (.sl 1 0 0 1 ps.length none))), (5, .v (.bool sf)), (13, .int .i64 (i : Int))]
theorem bb (b : Bool) : TV.v (.bool (b == b)) = TV.v (.bool true) := tv_b (by cases b <;> rfl)
theorem ll (x : List UInt8) : TV.v (.bool (x == x)) = TV.v (.bool true) := tv_b (by simp)
set_option maxRecDepth 100000 in
theorem pall_end (ps : List (List UInt8)) (hps : ps.length ≤ 20) (hp : ∀ p ∈ ps, p.length ≤ 300) (sf : Bool) (n s k h : List UInt8) (hn : n.length ≤ 300) (hs : s.length ≤ 400) (hk : k.length ≤ 100) (hh : h.length ≤ 60) (W : World) (hG : S3.Glob W) (ρ : Env) :
  At Tryd.prog W ⟨[], ρ, []⟩ Tryd.f3.ntmps [] (lp Tryd.f3 0) (EndX Tryd.prog Tryd.f3 (FrG W)) (alT ps sf n s k h ps.length) [(1, strR ps)] := by
 have g1 := hP3_ok 9001 s (by omega)
 have g2 := hD3_ok 10001 s (by omega)
 have g3 := hM2_ok (w0 := W) (wr := ⟨[], ρ, []⟩) 11003 k h n (by omega) (by omega) (by omega) hG (by simp) (by simp)
 have g4 := hE2_ok 12003 k h n (by omega) (by omega) (by omega)
 have g5 := hS2_ok (w0 := W) (wr := ⟨[], ρ, []⟩) 13004 ps hps hp sf h n (by omega) (by omega) hG (by simp) (by simp)
 have g6 := hF2_ok 14004 ps hps hp sf h n (by omega) (by omega)
 have g7 := hAw_ok (w0 := W) (wr := ⟨[], ρ, []⟩) 15048 hG (by simp) (by simp)
 generalize pA (parseR s) = a at g1 g2
 generalize pN (parseR s) = m at g1 g2
 generalize (parseR s).isSome = b0 at g1 g2
 generalize mX (sourceR ps sf h n) = y at g5 g6
 generalize (sourceR ps sf h n).isSome = b2 at g5 g6
 generalize mX (makeR k h n) = x at g3 g4
 generalize (makeR k h n).isSome = b1 at g3 g4
 obtain ⟨b3, hb3⟩ : ∃ b3, nmP n = b3 := ⟨_, rfl⟩
 exact At.fin rfl [(9001, hP3 s a m b0), (10001, hD3 s a m b0), (11003, hM2 k h n x b1), (12003, hE2 k h n x b1), (13004, hS2 ps sf h n y b2), (14004, hF2 ps sf h n y b2), (15001, hMn n b3), (15003, hMq n b3), (2015004, .val (.v (.bool true))), (2015009, .val (.v (.bool true))), (2015015, .val (.v (.bool true))), (2015021, .val (.v (.bool true))), (2015027, .val (.v (.bool true))), (2015033, .val (.v (.bool true))), (2015039, .val (.v (.bool true))), (2015045, .val (.v (.bool true))), (15048, hAw)] ⟨hintAt g1, hintAt g2, g3, hintAt g4, g5, hintAt g6, hintAt (hMn_ok _ _ _ (by omega) hb3), hintAt (hMq_ok _ _ _ (by omega) hb3), trivial, trivial, trivial, trivial, trivial, trivial, trivial, trivial, g7, trivial⟩ [.n] (x := .v (.bool true))
  (ob := [[decide ((ps.length : Int) < (ps.length : Int)) = false], qL (hP3 s a m b0), qL (hD3 s a m b0), qL (hM2 k h n x b1), qL (hE2 k h n x b1), qL (hS2 ps sf h n y b2), qL (hF2 ps sf h n y b2), qL (hMn n b3), qL (hMq n b3), [TV.v (.bool (b3 == b3)) = TV.v (.bool true), TV.v (.bool (a == a)) = TV.v (.bool true), TV.v (.bool (m == m)) = TV.v (.bool true), TV.v (.bool (b0 == b0)) = TV.v (.bool true), TV.v (.bool (x == x)) = TV.v (.bool true), TV.v (.bool (b1 == b1)) = TV.v (.bool true), TV.v (.bool (y == y)) = TV.v (.bool true), TV.v (.bool (b2 == b2)) = TV.v (.bool true)], qL hAw].flatten) (by kernel_rfl)
  (all_flat ⟨⟨decide_eq_false (by omega), trivial⟩, all_qL _, all_qL _, all_qL _, all_qL _, all_qL _, all_qL _, all_qL _, all_qL _, ⟨bb b3, ll a, ll m, bb b0, ll x, bb b1, ll y, bb b2, trivial⟩, all_qL _, trivial⟩) fun ρ' w' hf _ => ⟨rfl, hf⟩
set_option maxRecDepth 100000 in
theorem pall_pos (ps : List (List UInt8)) (hpl : ps.length ≤ 9223372036854775807) (sf : Bool) (n s k h : List UInt8) (W : World) (hG : S3.Glob W) (ρ : Env) (h1 : RowAt ρ 1 (strR ps) W) : Calls Tryd.prog 3 #[stv n, stv s, stv k, stv h, (TV.s (.lf (.sl 1 0 0 1 ps.length none))).val ρ, .bool sf] W (FrG W) := by
 refine At.calls (args := [.v (stv n), .v (stv s), .v (stv k), .v (stv h), .s (.lf (.sl 1 0 0 1 ps.length none)), .v (.bool sf)]) (rows := [(1, strR ps)]) (gl := []) (wr := []) (ρ := ρ) Tryd.func3 rfl rfl (init_rw ⟨rfl, rfl, rfl, rfl, trivial, rfl, trivial⟩ rfl rfl rfl (fun p hp => by obtain rfl := List.mem_singleton.1 hp; exact ⟨h1, strR_ok ps⟩) (fun p hp hw => by obtain rfl := List.mem_singleton.1 hp; cases hw) (fun p hp q hq hpq hw => by obtain rfl := List.mem_singleton.1 hp; cases hw)) rfl ?_
 by_cases c0 : 300 < n.length
 ·exact At.fin rfl [(2002002, .val (.v (.bool true))), (3000, hAw)] ⟨trivial, hAw_ok _ hG (by simp) (by simp), trivial⟩ [.d] (x := .v (.bool true)) (ob := [[TV.v (.bool (decide ((n.length : Int) > 300))) = TV.v (.bool true)], qL hAw].flatten) (by kernel_rfl) (all_flat ⟨⟨tv_b (decide_eq_true (by omega)), trivial⟩, all_qL _, trivial⟩) fun ρ' w' hf _ => ⟨rfl, hf⟩
 by_cases c1 : 400 < s.length
 ·exact At.fin rfl [(2002002, .val (.v (.bool false))), (2002006, .val (.v (.bool true))), (3000, hAw)] ⟨trivial, trivial, hAw_ok _ hG (by simp) (by simp), trivial⟩ [.d] (x := .v (.bool true)) (ob := [[TV.v (.bool (decide ((n.length : Int) > 300))) = TV.v (.bool false), TV.v (.bool (decide ((s.length : Int) > 400))) = TV.v (.bool true)], qL hAw].flatten) (by kernel_rfl) (all_flat ⟨⟨tv_b (decide_eq_false (by omega)), tv_b (decide_eq_true (by omega)), trivial⟩, all_qL _, trivial⟩) fun ρ' w' hf _ => ⟨rfl, hf⟩
 by_cases c2 : 100 < k.length
 ·exact At.fin rfl [(2002002, .val (.v (.bool false))), (2002006, .val (.v (.bool false))), (2002011, .val (.v (.bool true))), (3000, hAw)] ⟨trivial, trivial, trivial, hAw_ok _ hG (by simp) (by simp), trivial⟩ [.d] (x := .v (.bool true)) (ob := [[TV.v (.bool (decide ((n.length : Int) > 300))) = TV.v (.bool false), TV.v (.bool (decide ((s.length : Int) > 400))) = TV.v (.bool false), TV.v (.bool (decide ((k.length : Int) > 100))) = TV.v (.bool true)], qL hAw].flatten) (by kernel_rfl) (all_flat ⟨⟨tv_b (decide_eq_false (by omega)), tv_b (decide_eq_false (by omega)), tv_b (decide_eq_true (by omega)), trivial⟩, all_qL _, trivial⟩) fun ρ' w' hf _ => ⟨rfl, hf⟩
 by_cases c3 : 60 < h.length
 ·exact At.fin rfl [(2002002, .val (.v (.bool false))), (2002006, .val (.v (.bool false))), (2002011, .val (.v (.bool false))), (2002016, .val (.v (.bool true))), (3000, hAw)] ⟨trivial, trivial, trivial, trivial, hAw_ok _ hG (by simp) (by simp), trivial⟩ [.d] (x := .v (.bool true)) (ob := [[TV.v (.bool (decide ((n.length : Int) > 300))) = TV.v (.bool false), TV.v (.bool (decide ((s.length : Int) > 400))) = TV.v (.bool false), TV.v (.bool (decide ((k.length : Int) > 100))) = TV.v (.bool false), TV.v (.bool (decide ((h.length : Int) > 60))) = TV.v (.bool true)], qL hAw].flatten) (by kernel_rfl) (all_flat ⟨⟨tv_b (decide_eq_false (by omega)), tv_b (decide_eq_false (by omega)), tv_b (decide_eq_false (by omega)), tv_b (decide_eq_true (by omega)), trivial⟩, all_qL _, trivial⟩) fun ρ' w' hf _ => ⟨rfl, hf⟩
 by_cases c4 : 20 < ps.length
 ·exact At.fin rfl [(2002002, .val (.v (.bool false))), (2002006, .val (.v (.bool false))), (2002011, .val (.v (.bool false))), (2002016, .val (.v (.bool false))), (2002021, .val (.v (.bool true))), (3000, hAw)] ⟨trivial, trivial, trivial, trivial, trivial, hAw_ok _ hG (by simp) (by simp), trivial⟩ [.d] (x := .v (.bool true)) (ob := [[TV.v (.bool (decide ((n.length : Int) > 300))) = TV.v (.bool false), TV.v (.bool (decide ((s.length : Int) > 400))) = TV.v (.bool false), TV.v (.bool (decide ((k.length : Int) > 100))) = TV.v (.bool false), TV.v (.bool (decide ((h.length : Int) > 60))) = TV.v (.bool false), TV.v (.bool (decide ((ps.length : Int) > 20))) = TV.v (.bool true)], qL hAw].flatten) (by kernel_rfl) (all_flat ⟨⟨tv_b (decide_eq_false (by omega)), tv_b (decide_eq_false (by omega)), tv_b (decide_eq_false (by omega)), tv_b (decide_eq_false (by omega)), tv_b (decide_eq_true (by omega)), trivial⟩, all_qL _, trivial⟩) fun ρ' w' hf _ => ⟨rfl, hf⟩
 have hloop : ∀ i : Nat, (i ≤ ps.length ∧ ∀ j (hj : j < ps.length), j < i → ps[j].length ≤ 300) → At Tryd.prog W ⟨[], ρ, []⟩ Tryd.f3.ntmps [] (lp Tryd.f3 0) (EndX Tryd.prog Tryd.f3 (FrG W)) (alT ps sf n s k h i) [(1, strR ps)] := by
  refine At.loop (fun i : Nat => alT ps sf n s k h i) (fun i => [(1, strR ps)]) (fun i => i ≤ ps.length ∧ ∀ j (hj : j < ps.length), j < i → ps[j].length ≤ 300) (fun i => ps.length - i) ?_
  rintro i ⟨hi, ha⟩ ih
  by_cases hlt : i < ps.length
  ·obtain ⟨x, hx⟩ : ∃ x, x = ps[i] := ⟨_, rfl⟩
   have hv : TV.v (stv (ps.getD (addN 0 (i : Int).toNat) [])) = TV.v (stv x) := by rw [hx, addN_eq, Nat.zero_add, Int.toNat_natCast, List.getD_eq_getElem?_getD, List.getElem?_eq_getElem hlt]; rfl
   have hd : decide ((i : Int) < (ps.length : Int)) = true := decide_eq_true (by omega)
   have hib : 0 ≤ (i : Int) ∧ (i : Int) < (ps.length : Int) := ⟨by omega, by omega⟩
   have hidx : addN 0 (i : Int).toNat < ps.length := by rw [addN_eq]; omega
   by_cases c5 : 300 < x.length
   ·exact At.fin rfl [(2007003, .val (.v (stv x))), (2007005, .val (.v (.bool true))), (8000, hAw)] ⟨trivial, trivial, hAw_ok _ hG (by simp) (by simp), trivial⟩ [.y, .d] (x := .v (.bool true)) (ob := [[decide ((i : Int) < (ps.length : Int)) = true, 0 ≤ (i : Int) ∧ (i : Int) < (ps.length : Int), TV.v (stv (ps.getD (addN 0 (i : Int).toNat) [])) = TV.v (stv x), addN 0 (i : Int).toNat < ps.length, TV.v (.bool (decide ((x.length : Int) > 300))) = TV.v (.bool true)], qL hAw].flatten) (by kernel_rfl) (all_flat ⟨⟨hd, hib, hv, hidx, tv_b (decide_eq_true (by omega)), trivial⟩, all_qL _, trivial⟩) fun ρ' w' hf _ => ⟨rfl, hf⟩
   ·exact At.run rfl [(2007003, .val (.v (stv x))), (2007005, .val (.v (.bool false)))] ⟨trivial, trivial, trivial⟩ [.y, .d] (tm2 := alT ps sf n s k h (i + 1)) (rows2 := [(1, strR ps)]) (ob := [decide ((i : Int) < (ps.length : Int)) = true, 0 ≤ (i : Int) ∧ (i : Int) < (ps.length : Int), TV.v (stv (ps.getD (addN 0 (i : Int).toNat) [])) = TV.v (stv x), addN 0 (i : Int).toNat < ps.length, TV.v (.bool (decide ((x.length : Int) > 300))) = TV.v (.bool false), inI ((i : Int) + 1)]) (td := lp Tryd.f3 0) (by kernel_rfl) ⟨hd, hib, hv, hidx, tv_b (decide_eq_false (by omega)), ⟨by omega, by omega⟩, trivial⟩ rfl rfl (by intro h; cases h) (ih (i + 1) ⟨hlt, fun j hj h2 => (by
     by_cases e : j = i
     ·subst e; rw [← hx]; omega
     ·exact ha j hj (by omega))⟩ (by show ps.length - (i + 1) < ps.length - i; omega))
  ·obtain rfl : i = ps.length := by omega
   exact pall_end ps (by omega) (fun p hp => by
    obtain ⟨j, hj, rfl⟩ := List.mem_iff_getElem.1 hp
    exact ha j hj hj) sf n s k h (by omega) (by omega) (by omega) (by omega) W hG ρ
 exact At.run rfl [(2002002, .val (.v (.bool false))), (2002006, .val (.v (.bool false))), (2002011, .val (.v (.bool false))), (2002016, .val (.v (.bool false))), (2002021, .val (.v (.bool false)))] ⟨trivial, trivial, trivial, trivial, trivial, trivial⟩ [.d] (tm2 := alT ps sf n s k h 0) (rows2 := [(1, strR ps)]) (ob := [TV.v (.bool (decide ((n.length : Int) > 300))) = TV.v (.bool false), TV.v (.bool (decide ((s.length : Int) > 400))) = TV.v (.bool false), TV.v (.bool (decide ((k.length : Int) > 100))) = TV.v (.bool false), TV.v (.bool (decide ((h.length : Int) > 60))) = TV.v (.bool false), TV.v (.bool (decide ((ps.length : Int) > 20))) = TV.v (.bool false)]) (td := lp Tryd.f3 0) (by kernel_rfl) ⟨tv_b (decide_eq_false (by omega)), tv_b (decide_eq_false (by omega)), tv_b (decide_eq_false (by omega)), tv_b (decide_eq_false (by omega)), tv_b (decide_eq_false (by omega)), trivial⟩ rfl rfl (by intro h; cases h) (hloop 0 ⟨Nat.zero_le _, fun j _ hj => absurd hj (Nat.not_lt_zero _)⟩)
set_option maxRecDepth 100000 in
theorem pall_nil (pa : Option Addr) (ca : Nat) (sf : Bool) (n s k h : List UInt8) (W : World) (hG : S3.Glob W) : Calls Tryd.prog 3 #[stv n, stv s, stv k, stv h, .slice pa 0 ca, .bool sf] W (FrG W) := by
 refine At.calls (args := [.v (stv n), .v (stv s), .v (stv k), .v (stv h), .v (.slice pa 0 ca), .v (.bool sf)]) (rows := []) (gl := []) (wr := []) (ρ := fun _ => (⟨0, 0, 0⟩ : Blk)) Tryd.func3 rfl rfl (init_rw ⟨rfl, rfl, rfl, rfl, rfl, rfl, trivial⟩ rfl rfl rfl (fun p hp => by cases hp) (fun p hp => by cases hp) (fun p hp => by cases hp)) rfl ?_
 by_cases c0 : 300 < n.length
 ·exact At.fin rfl [(2002002, .val (.v (.bool true))), (3000, hAw)] ⟨trivial, hAw_ok _ hG (by simp) (by simp), trivial⟩ [.d] (x := .v (.bool true)) (ob := [[TV.v (.bool (decide ((n.length : Int) > 300))) = TV.v (.bool true)], qL hAw].flatten) (by kernel_rfl) (all_flat ⟨⟨tv_b (decide_eq_true (by omega)), trivial⟩, all_qL _, trivial⟩) fun ρ' w' hf _ => ⟨rfl, hf⟩
 by_cases c1 : 400 < s.length
 ·exact At.fin rfl [(2002002, .val (.v (.bool false))), (2002006, .val (.v (.bool true))), (3000, hAw)] ⟨trivial, trivial, hAw_ok _ hG (by simp) (by simp), trivial⟩ [.d] (x := .v (.bool true)) (ob := [[TV.v (.bool (decide ((n.length : Int) > 300))) = TV.v (.bool false), TV.v (.bool (decide ((s.length : Int) > 400))) = TV.v (.bool true)], qL hAw].flatten) (by kernel_rfl) (all_flat ⟨⟨tv_b (decide_eq_false (by omega)), tv_b (decide_eq_true (by omega)), trivial⟩, all_qL _, trivial⟩) fun ρ' w' hf _ => ⟨rfl, hf⟩
 by_cases c2 : 100 < k.length
 ·exact At.fin rfl [(2002002, .val (.v (.bool false))), (2002006, .val (.v (.bool false))), (2002011, .val (.v (.bool true))), (3000, hAw)] ⟨trivial, trivial, trivial, hAw_ok _ hG (by simp) (by simp), trivial⟩ [.d] (x := .v (.bool true)) (ob := [[TV.v (.bool (decide ((n.length : Int) > 300))) = TV.v (.bool false), TV.v (.bool (decide ((s.length : Int) > 400))) = TV.v (.bool false), TV.v (.bool (decide ((k.length : Int) > 100))) = TV.v (.bool true)], qL hAw].flatten) (by kernel_rfl) (all_flat ⟨⟨tv_b (decide_eq_false (by omega)), tv_b (decide_eq_false (by omega)), tv_b (decide_eq_true (by omega)), trivial⟩, all_qL _, trivial⟩) fun ρ' w' hf _ => ⟨rfl, hf⟩
 by_cases c3 : 60 < h.length
 ·exact At.fin rfl [(2002002, .val (.v (.bool false))), (2002006, .val (.v (.bool false))), (2002011, .val (.v (.bool false))), (2002016, .val (.v (.bool true))), (3000, hAw)] ⟨trivial, trivial, trivial, trivial, hAw_ok _ hG (by simp) (by simp), trivial⟩ [.d] (x := .v (.bool true)) (ob := [[TV.v (.bool (decide ((n.length : Int) > 300))) = TV.v (.bool false), TV.v (.bool (decide ((s.length : Int) > 400))) = TV.v (.bool false), TV.v (.bool (decide ((k.length : Int) > 100))) = TV.v (.bool false), TV.v (.bool (decide ((h.length : Int) > 60))) = TV.v (.bool true)], qL hAw].flatten) (by kernel_rfl) (all_flat ⟨⟨tv_b (decide_eq_false (by omega)), tv_b (decide_eq_false (by omega)), tv_b (decide_eq_false (by omega)), tv_b (decide_eq_true (by omega)), trivial⟩, all_qL _, trivial⟩) fun ρ' w' hf _ => ⟨rfl, hf⟩
 have g1 := hP3_ok 9001 s (by omega)
 have g2 := hD3_ok 10001 s (by omega)
 have g3 := hM2_ok (w0 := W) (wr := nB) 11003 k h n (by omega) (by omega) (by omega) hG (by simp) (by simp)
 have g4 := hE2_ok 12003 k h n (by omega) (by omega) (by omega)
 have g5 := hS0_ok (w0 := W) (wr := nB) 13004 pa ca sf h n (by omega) (by omega) hG (by simp) (by simp)
 have g6 := hF0_ok 14004 pa ca sf h n (by omega) (by omega)
 have g7 := hAw_ok (w0 := W) (wr := nB) 15048 hG (by simp) (by simp)
 generalize pA (parseR s) = a at g1 g2
 generalize pN (parseR s) = m at g1 g2
 generalize (parseR s).isSome = b0 at g1 g2
 generalize mX (makeR (kindL [] sf) h n) = y at g5 g6
 generalize (makeR (kindL [] sf) h n).isSome = b2 at g5 g6
 generalize mX (makeR k h n) = x at g3 g4
 generalize (makeR k h n).isSome = b1 at g3 g4
 obtain ⟨b3, hb3⟩ : ∃ b3, nmP n = b3 := ⟨_, rfl⟩
 exact At.fin rfl [(2002002, .val (.v (.bool false))), (2002006, .val (.v (.bool false))), (2002011, .val (.v (.bool false))), (2002016, .val (.v (.bool false))), (9001, hP3 s a m b0), (10001, hD3 s a m b0), (11003, hM2 k h n x b1), (12003, hE2 k h n x b1), (13004, hS0 pa ca sf h n y b2), (14004, hF0 pa ca sf h n y b2), (15001, hMn n b3), (15003, hMq n b3), (2015004, .val (.v (.bool true))), (2015009, .val (.v (.bool true))), (2015015, .val (.v (.bool true))), (2015021, .val (.v (.bool true))), (2015027, .val (.v (.bool true))), (2015033, .val (.v (.bool true))), (2015039, .val (.v (.bool true))), (2015045, .val (.v (.bool true))), (15048, hAw)] ⟨trivial, trivial, trivial, trivial, hintAt g1, hintAt g2, g3, hintAt g4, g5, hintAt g6, hintAt (hMn_ok _ _ _ (by omega) hb3), hintAt (hMq_ok _ _ _ (by omega) hb3), trivial, trivial, trivial, trivial, trivial, trivial, trivial, trivial, g7, trivial⟩ [.d, .u, .d] (x := .v (.bool true))
  (ob := [[TV.v (.bool (decide ((n.length : Int) > 300))) = TV.v (.bool false), TV.v (.bool (decide ((s.length : Int) > 400))) = TV.v (.bool false), TV.v (.bool (decide ((k.length : Int) > 100))) = TV.v (.bool false), TV.v (.bool (decide ((h.length : Int) > 60))) = TV.v (.bool false)], qL (hP3 s a m b0), qL (hD3 s a m b0), qL (hM2 k h n x b1), qL (hE2 k h n x b1), qL (hS0 pa ca sf h n y b2), qL (hF0 pa ca sf h n y b2), qL (hMn n b3), qL (hMq n b3), [TV.v (.bool (b3 == b3)) = TV.v (.bool true), TV.v (.bool (a == a)) = TV.v (.bool true), TV.v (.bool (m == m)) = TV.v (.bool true), TV.v (.bool (b0 == b0)) = TV.v (.bool true), TV.v (.bool (x == x)) = TV.v (.bool true), TV.v (.bool (b1 == b1)) = TV.v (.bool true), TV.v (.bool (y == y)) = TV.v (.bool true), TV.v (.bool (b2 == b2)) = TV.v (.bool true)], qL hAw].flatten) (by kernel_rfl)
  (all_flat ⟨⟨tv_b (decide_eq_false (by omega)), tv_b (decide_eq_false (by omega)), tv_b (decide_eq_false (by omega)), tv_b (decide_eq_false (by omega)), trivial⟩, all_qL _, all_qL _, all_qL _, all_qL _, all_qL _, all_qL _, all_qL _, all_qL _, ⟨bb b3, ll a, ll m, bb b0, ll x, bb b1, ll y, bb b2, trivial⟩, all_qL _, trivial⟩) fun ρ' w' hf _ => ⟨rfl, hf⟩
theorem pall_any (W : World) (n s k h : ByteArray) (v : Value) (sf : Bool) (ps : List (List UInt8)) (ht : TxtV W v ps) (hG : S3.Glob W) : Calls Tryd.prog 3 #[.string n, .string s, .string k, .string h, v, .bool sf] W (FrG W) := by
 obtain ⟨hl, a, ca, rfl, hr⟩ := ht
 rcases Nat.eq_zero_or_pos ps.length with e | e
 ·rw [e]
  exact pall_nil a ca sf n.data.toList s.data.toList k.data.toList h.data.toList W hG
 ·obtain ⟨g, of, rfl, hb, hx⟩ := hr e
  exact pall_pos ps hl sf n.data.toList s.data.toList k.data.toList h.data.toList W hG (fun _ => ⟨g, of, ca⟩) (tx_row (c := ca) e hb hx _ 1 rfl)
end
end Go.Proofs.YtdbbcngolcnniaaDoor
