/- Several texts, one behind the other; each says by itself what it proves, and on what conditions. -/
import Derived.Test.YtdbbcngolcnniaaDoorX23
import Derived.Lib.FrozenHead2
import Derived.Lib.OthersKept
import Derived.Lib.MinMaxS
/- Of the program: a builder that is written to, one text or many. Its conditions: lengths that fit. -/
namespace Go.Proofs.YtdbbcngolcnniaaDoor
open Go.RowKit Go.Shelf
set_option linter.unusedVariables false
set_option linter.unusedSimpArgs false
theorem sizeB : (Tryd.prog.info? 50).map (·.size) = some 2 := by kernel_rfl
theorem liesB : liesAt Tryd.prog Tryd.prog.depth 50 (2 / Tryd.prog.cellsOf 50) 0 50 1 = true := by kernel_rfl
theorem infoB5 : (Tryd.prog.info? 5).map (fun i => (i.zero, i.size, i.bytes)) = some (some (.int .u8 0), 1, 1) := by kernel_rfl
set_option maxRecDepth 100000 in
theorem check_used (b : Nat) (w : World) (h0 : w.cell? ⟨b, 0, none⟩ = some (.pointer (some ⟨b, 0, none⟩))) :
    Calls Tryd.prog 58 #[.pointer (some ⟨b, 0, none⟩)] w fun e w' => e = .returned (.tuple #[]) ∧ w' = w := by
  obtain ⟨j, hj, _⟩ := Option.map_eq_some_iff.1 sizeB
  have t48 := Tryd.underlying48
  go_enter Tryd.func58, Tryd.ntmps58
  go_wp2
  rw [Lib.run_neq_ptr_same w _ t48 hj]
  go_wp2
  go_end0
  exact ⟨rfl, rfl⟩
set_option maxRecDepth 100000 in
theorem check_fresh (b : Nat) (w : World) (h0 : w.cell? ⟨b, 0, none⟩ = some (.pointer none)) (hsh : w.shape? b = some (50, 2)) (hfz : w.frozen? ⟨b, 0, none⟩ = false) :
    Calls Tryd.prog 58 #[.pointer (some ⟨b, 0, none⟩)] w fun e w' => e = .returned (.tuple #[]) ∧ w' = w.setCell ⟨b, 0, none⟩ (.pointer (some ⟨b, 0, none⟩)) := by
  obtain ⟨j, hj, hjs⟩ := Option.map_eq_some_iff.1 sizeB
  have t48 := Tryd.underlying48
  have t99 := Tryd.underlying99
  go_enter Tryd.func58, Tryd.ntmps58
  go_wp2
  rw [Lib.run_to_unsafe w ⟨b, 0, none⟩ t48 t99 hj (by rw [hjs]; decide) hsh (Nat.zero_lt_succ 1)]
  simp only [Result.andThen]
  rw [Oper.upon_value]
  go_wp2
  rw [run_callFunc_extern Tryd.func77 (by kernel_rfl) (by kernel_rfl) (by kernel_rfl) (e := Extern.AbiNoEscape.same) (by kernel_rfl)]
  rw [Lib.run_noEscape]
  simp only [Result.andThen]
  rw [Oper.upon_value]
  go_wp2
  rw [Lib.run_from_unsafe w ⟨b, 0, none⟩ t99 t48 hj hsh liesB]
  simp only [Result.andThen]
  rw [Oper.upon_value]
  go_wp2
  go_end0
  exact ⟨rfl, rfl⟩
/-- A builder in memory holds a text. -/
def Bl (B b : Nat) (l : List UInt8) (w : World) : Prop := Lib.IsBuilderF 50 5 B b (Lib.byteCells l) w
/-- What a builder's call leaves as it was. -/
def Kp (B b : Nat) (w w' : World) : Prop := Below B w w' ∧ Lib.OthersKept 5 (some b) w w'
theorem Kp.refl (B b : Nat) (w : World) : Kp B b w w := ⟨Below.refl _ _, Lib.OthersKept.refl _ _ _⟩
theorem Kp.trans {B b : Nat} {w w2 w3 : World} (h : Kp B b w w2) (k : Kp B b w2 w3) : Kp B b w w3 := ⟨h.1.trans k.1, h.2.trans k.2⟩
theorem check_any (B b : Nat) (bs : List Value) (w : World) (h : Lib.IsBuilderF 50 5 B b bs w) :
    Calls Tryd.prog 58 #[.pointer (some ⟨b, 0, none⟩)] w fun e w' => e = .returned (.tuple #[]) ∧ Lib.BuilderAtF 50 5 B b (.pointer (some ⟨b, 0, none⟩)) bs w' ∧ Kp B b w w' := by
  rcases h with h | h
  · refine (check_fresh b w h.cell0 h.shape h.frozen0).mono ?_
    rintro e w' ⟨rfl, rfl⟩
    exact ⟨rfl, h.used _, (Below.refl B w).setCell (p := ⟨b, 0, none⟩) h.1 _, (Lib.OthersKept.refl _ _ w).setCell ⟨b, 0, none⟩ rfl _⟩
  · refine (check_used b w h.cell0).mono ?_
    rintro e w' ⟨rfl, rfl⟩
    exact ⟨rfl, h, Kp.refl _ _ _⟩
theorem cells_app (l s : List UInt8) : Lib.byteCells (l ++ s) = Lib.byteCells l ++ Lib.byteCells s := by simp [Lib.byteCells]
theorem cells_str (s : List UInt8) : Lib.strCells ⟨s.toArray⟩ = Lib.byteCells s := by
  simp [Lib.strCells, Lib.byteCells]
set_option maxHeartbeats 2000000 in
set_option maxRecDepth 100000 in
theorem wstr_any (B b : Nat) (l s : List UInt8) (w : World) (h : Bl B b l w) (hlen : l.length + s.length ≤ 140737488355328) (hBw : B ≤ w.heap.size) :
    Calls Tryd.prog 32 #[.pointer (some ⟨b, 0, none⟩), stv s] w fun e w' => e = .returned (.tuple #[.int .i64 (s.length : Int), .nilIface]) ∧ Bl B b (l ++ s) w' ∧ Kp B b w w' := by
  obtain ⟨i0, hi, hz0, hz1, hz2⟩ := info_parts infoB5
  have t48 := Tryd.underlying48
  have t41 := Tryd.underlying41
  have t9 := Tryd.underlying9
  have en : ∀ args w, (callFunc 58 args).run Tryd.prog w = .ok (.enter 58 args) w := enters_of Tryd.func58 (by kernel_rfl) rfl
  have H := Lib.hid (check_any B b _ w h)
  obtain ⟨S, hS⟩ : ∃ x : ByteArray, x = ⟨s.toArray⟩ := ⟨_, rfl⟩
  have hsz : S.size = s.length := by rw [hS]; rfl
  have hcs : Lib.strCells S = Lib.byteCells s := by rw [hS]; exact cells_str s
  rw [show stv s = .string S by rw [hS], ← hsz]
  clear hS
  go_enter Tryd.func32, Tryd.ntmps32
  go_wp2_with (go_at_fn 58; refine H.out.mono ?_)
  rintro e w1 ⟨rfl, h1, hk⟩
  obtain ⟨hb1, hk1⟩ := hk
  obtain ⟨hB, v, hbk, hown, hne⟩ := h1
  have c0 : w1.cell? ⟨b, 0, none⟩ = some (.pointer (some ⟨b, 0, none⟩)) := by rw [Lib.cell_of_heap hbk]; rfl
  have c1 : w1.cell? ⟨b, 1, none⟩ = some v := by rw [Lib.cell_of_heap hbk]; rfl
  have hcl : (Lib.byteCells l).length = l.length := Lib.byteCells_length l
  go_wp2_with (at_builtin; refine Lib.wpList_append_own_stringF _ rfl _ _ 41 9 rfl B 5 i0 t41 t9 hi hz0 hz1 hz2 _ _ _ rfl hown S rfl ?c3 ?c4 ?c5 ?_)
  case c3 => unfold maxLen; omega
  case c4 => omega
  case c5 => have := hb1.size; omega
  intro v' w2 hown' hgrow _
  have hlt : b < w1.heap.size := by
    rcases Nat.lt_or_ge b w1.heap.size with h' | h'
    · exact h'
    · simp [Array.getElem?_eq_none h'] at hbk
  have hb2 : w2.heap[b]? = some (.cells #[.pointer (some ⟨b, 0, none⟩), v] 50 (0, 0)) := by
    rw [hgrow.block b hlt (fun e => hne e.symm)]
    exact hbk
  have d0 : w2.cell? ⟨b, 0, none⟩ = some (.pointer (some ⟨b, 0, none⟩)) := by rw [Lib.cell_of_heap hb2]; rfl
  have d1 : w2.cell? ⟨b, 1, none⟩ = some v := by rw [Lib.cell_of_heap hb2]; rfl
  have f1 : w2.frozen? ⟨b, 1, none⟩ = false := Lib.frozen_of_heap hb2 1
  obtain ⟨ao, n', cap, rfl⟩ : ∃ ao n' cap, v' = .slice ao n' cap := by
    rcases hown'.2 with ⟨hv, _⟩ | ⟨g, cap, cur, fz, hv, _⟩
    · exact ⟨_, _, _, hv⟩
    · exact ⟨_, _, _, hv⟩
  go_wp2
  go_ret2
  refine ⟨by rw [hsz]; rfl, .inr ?_, ?_, (hk1.grown hgrow (Lib.ownsRowF_kind hown)).setCell ⟨b, 1, none⟩ rfl _⟩
  · refine Lib.BuilderAtF.put (T := 50) (e := 5) hB hb2 (bs' := Lib.byteCells (l ++ s)) ?_ (by decide)
    rw [cells_app, List.length_append, Lib.byteCells_length, Lib.byteCells_length]
    exact hown'
  · exact (hb1.grown hgrow (by have := hb1.size; omega) (fun k hk => (hown.lt k hk).1)).setCell (p := ⟨b, 1, none⟩) hB _
theorem Bl.block {B b : Nat} {l : List UInt8} {w : World} (h : Bl B b l w) : ∃ c, w.heap[b]? = some (.cells c 50 (0, 0)) := by
  rcases h with h | h <;> (obtain ⟨_, v, h1, _⟩ := h; exact ⟨_, h1⟩)
theorem Kp.row {B b : Nat} {w w' : World} (h : Kp B b w w') {k : Nat} {c : Array Value} {t : TypeId} (hk : w.heap[k]? = some (.cells c t (0, 0))) (ht : t ≠ 5) (hb : k ≠ b) : w'.heap[k]? = some (.cells c t (0, 0)) :=
  h.2 k _ hk (fun e => hb (Option.some.inj e)) (fun c2 fz e => ht (by cases e; rfl))
theorem Bl.below {B b : Nat} {l : List UInt8} {w w' : World} (h : Bl B b l w) (hb : Below w.heap.size w w') : Bl B b l w' := by
  rcases h with h | h
  · refine .inl ?_
    obtain ⟨h1, v, h2, h3, h4⟩ := h
    have hlt := (Array.getElem?_eq_some_iff.1 h2).1
    refine ⟨h1, v, (hb.block b hlt).trans h2, ⟨h3.1, ?_⟩, h4⟩
    rcases h3.2 with h | ⟨g, cap, cur, fz, e1, e2, e3, e4⟩
    · exact .inl h
    · exact .inr ⟨g, cap, cur, fz, e1, e2, (hb.block g (Array.getElem?_eq_some_iff.1 e3).1).trans e3, e4⟩
  · refine .inr ?_
    obtain ⟨h1, v, h2, h3, h4⟩ := h
    have hlt := (Array.getElem?_eq_some_iff.1 h2).1
    refine ⟨h1, v, (hb.block b hlt).trans h2, ⟨h3.1, ?_⟩, h4⟩
    rcases h3.2 with h | ⟨g, cap, cur, fz, e1, e2, e3, e4⟩
    · exact .inl h
    · exact .inr ⟨g, cap, cur, fz, e1, e2, (hb.block g (Array.getElem?_eq_some_iff.1 e3).1).trans e3, e4⟩
theorem Kp.of_below {B b : Nat} {w w' : World} (h : Below w.heap.size w w') (hB : B ≤ w.heap.size) : Kp B b w w' :=
  ⟨h.mono hB, fun k o hk _ _ => (h.block k (Array.getElem?_eq_some_iff.1 hk).1).trans hk⟩
theorem ent32 : E.Enters Tryd.prog 32 := enters_of Tryd.func32 (by kernel_rfl) rfl
end Go.Proofs.YtdbbcngolcnniaaDoor
/- Do paths rise? Its condition: lengths that fit. -/
namespace Go.Proofs.YtdbbcngolcnniaaDoor
open Go Go.RowKit
set_option linter.unusedVariables false
set_option linter.unusedSimpArgs false
section
open E
theorem ent31 : Enters Tryd.prog 31 := enters_of Tryd.func31 (by kernel_rfl) rfl
/-- Texts in memory. -/
abbrev strR (ps : List (List UInt8)) : Row := ⟨[.fnc (strF ps) 1 ps.length], false, none⟩
theorem strR_ok (ps : List (List UInt8)) : pok (strR ps).ps := pok1 fun i => ⟨rfl, fun v hv => by obtain rfl := List.mem_singleton.1 hv; rfl⟩
/-- Is a text not above another? -/
def leS (x y : List UInt8) : Bool := Op.bytesLess (lb ⟨x.toArray⟩) (lb ⟨y.toArray⟩) || lb ⟨x.toArray⟩ == lb ⟨y.toArray⟩
def okAt (ps : List (List UInt8)) (k : Nat) : Bool := (parseR (ps.getD k [])).isSome && (decide (k = 0) || !leS (ps.getD k []) (ps.getD (k - 1) []))
/-- Each is a path, and above the one ahead of it. -/
def riseL (ps : List (List UInt8)) : Bool := (List.range ps.length).all (okAt ps)
theorem rise_no {ps : List (List UInt8)} {i : Nat} (h : i < ps.length) (hk : okAt ps i = false) : riseL ps = false := by
  unfold riseL
  rw [List.all_eq_false]
  exact ⟨i, List.mem_range.2 h, by rw [hk]; simp⟩
abbrev rsT (ps : List (List UInt8)) (i : Nat) : List (Nat × TV) := [(0, .s (.lf (.sl 1 0 0 1 ps.length none))), (8, .s (.lf (.sl 1 0 0 1 ps.length none))), (9, .int .i64 (ps.length : Int)), (10, .int .i64 (i : Int))]
set_option maxRecDepth 100000 in
theorem rise_pos (ps : List (List UInt8)) (hps : ps.length ≤ 1000000) (hp : ∀ p ∈ ps, p.length ≤ 1000000) (w : World) (ρ : Env) (h1 : RowAt ρ 1 (strR ps) w) : Calls Tryd.prog 31 #[(TV.s (.lf (.sl 1 0 0 1 ps.length none))).val ρ] w (BoolQ w (riseL ps)) := by
  refine At.calls (args := [.s (.lf (.sl 1 0 0 1 ps.length none))]) (rows := [(1, strR ps)]) (gl := []) (wr := []) (ρ := ρ) Tryd.func31 rfl rfl (init_rw ⟨trivial, trivial⟩ rfl rfl rfl (fun p hp => by obtain rfl := List.mem_singleton.1 hp; exact ⟨h1, strR_ok ps⟩) (fun p hp hw => by obtain rfl := List.mem_singleton.1 hp; cases hw) (fun p hp q hq hpq hw => by obtain rfl := List.mem_singleton.1 hp; cases hw)) rfl ?_
  have hloop : ∀ i : Nat, (i ≤ ps.length ∧ (List.range i).all (okAt ps) = true) → At Tryd.prog w ⟨[], ρ, []⟩ Tryd.f31.ntmps [] (lp Tryd.f31 0) (EndX Tryd.prog Tryd.f31 (BoolQ w (riseL ps))) (rsT ps i) [(1, strR ps)] := by
    refine At.loop (fun i : Nat => rsT ps i) (fun i => [(1, strR ps)]) (fun i => i ≤ ps.length ∧ (List.range i).all (okAt ps) = true) (fun i => ps.length - i) ?_
    rintro i ⟨hi, ha⟩ ih
    by_cases hlt : i < ps.length
    · obtain ⟨x, hx⟩ : ∃ x, x = ps.getD i [] := ⟨_, rfl⟩
      have hxm : x ∈ ps := by rw [hx, List.getD_eq_getElem?_getD, List.getElem?_eq_getElem hlt]; exact List.getElem_mem hlt
      have hxl := hp x hxm
      have hv : TV.v (stv (ps.getD (addN 0 (i : Int).toNat) [])) = TV.v (stv x) := by rw [hx, addN_eq, Nat.zero_add, Int.toNat_natCast]
      have hd : decide ((i : Int) < (ps.length : Int)) = true := decide_eq_true (by omega)
      have hib : 0 ≤ (i : Int) ∧ (i : Int) < (ps.length : Int) := ⟨by omega, by omega⟩
      have hidx : addN 0 (i : Int).toNat < ps.length := by rw [addN_eq]; omega
      have i2 : inI ((i : Int) + 1) := ⟨by omega, by omega⟩
      cases hpx : parseR x with
      | none =>
        rw [rise_no hlt (by unfold okAt; rw [← hx, hpx]; rfl)]
        exact At.fin rfl [(2004002, .val (.v (stv x))), (5001, hPa x none)] ⟨trivial, hPa_ok _ _ _ hxl hpx, trivial⟩ [.y, .d] (x := .v (.bool false)) (ob := [[decide ((i : Int) < (ps.length : Int)) = true, 0 ≤ (i : Int) ∧ (i : Int) < (ps.length : Int), TV.v (stv (ps.getD (addN 0 (i : Int).toNat) [])) = TV.v (stv x), addN 0 (i : Int).toNat < ps.length], qL (hPa x none)].flatten) (by kernel_rfl) (all_flat ⟨⟨hd, hib, hv, hidx, trivial⟩, all_qL _, trivial⟩) fun ρ' w' hf _ => ⟨rfl, hf.below⟩
      | some an =>
        obtain ⟨a, n⟩ := an
        by_cases h0 : i = 0
        · have hg : TV.v (.bool (decide ((i : Int) > 0))) = TV.v (.bool false) := tv_b (decide_eq_false (by omega))
          have hok : okAt ps i = true := by unfold okAt; rw [← hx, hpx, decide_eq_true h0]; rfl
          have h9 := ih (i + 1) ⟨hlt, by rw [List.range_succ, List.all_append, ha]; simp [hok]⟩ (by show ps.length - (i + 1) < ps.length - i; omega)
          exact At.run rfl [(2004002, .val (.v (stv x))), (5001, hPa x (some (a, n))), (2008002, .val (.v (.bool false)))] ⟨trivial, hPa_ok _ _ _ hxl hpx, trivial, trivial⟩ [.y, .d, .n] (tm2 := rsT ps (i + 1)) (rows2 := [(1, strR ps)]) (ob := [[decide ((i : Int) < (ps.length : Int)) = true, 0 ≤ (i : Int) ∧ (i : Int) < (ps.length : Int), TV.v (stv (ps.getD (addN 0 (i : Int).toNat) [])) = TV.v (stv x), addN 0 (i : Int).toNat < ps.length], qL (hPa x (some (a, n))), [TV.v (.bool (decide ((i : Int) > 0))) = TV.v (.bool false), false = false, inI ((i : Int) + 1)]].flatten) (td := lp Tryd.f31 0) (by kernel_rfl) (all_flat ⟨⟨hd, hib, hv, hidx, trivial⟩, all_qL _, ⟨hg, rfl, i2, trivial⟩, trivial⟩) rfl rfl (by intro h; cases h) h9
        · have hg : TV.v (.bool (decide ((i : Int) > 0))) = TV.v (.bool true) := tv_b (decide_eq_true (by omega))
          obtain ⟨y, hy⟩ : ∃ y, y = ps.getD (i - 1) [] := ⟨_, rfl⟩
          have hv2 : TV.v (stv (ps.getD (addN 0 ((i : Int) - 1).toNat) [])) = TV.v (stv y) := by rw [hy, addN_eq, Nat.zero_add, show ((i : Int) - 1).toNat = i - 1 by omega]
          have hib2 : 0 ≤ (i : Int) - 1 ∧ (i : Int) - 1 < (ps.length : Int) := ⟨by omega, by omega⟩
          have hidx2 : addN 0 ((i : Int) - 1).toNat < ps.length := by rw [addN_eq]; omega
          have i3 : inI ((i : Int) - 1) := ⟨by omega, by omega⟩
          cases hle : leS x y with
          | true =>
            have hle2 : TV.v (.bool (Op.bytesLess (lb ⟨x.toArray⟩) (lb ⟨y.toArray⟩) || lb ⟨x.toArray⟩ == lb ⟨y.toArray⟩)) = TV.v (.bool true) := tv_b hle
            rw [rise_no hlt (by unfold okAt; rw [← hx, ← hy, hle, decide_eq_false h0]; simp)]
            exact At.fin rfl [(2004002, .val (.v (stv x))), (5001, hPa x (some (a, n))), (2008002, .val (.v (.bool true))), (2008008, .val (.v (stv y))), (2008009, .val (.v (.bool true)))] ⟨trivial, hPa_ok _ _ _ hxl hpx, trivial, trivial, trivial, trivial⟩ [.y, .d, .d] (x := .v (.bool false)) (ob := [[decide ((i : Int) < (ps.length : Int)) = true, 0 ≤ (i : Int) ∧ (i : Int) < (ps.length : Int), TV.v (stv (ps.getD (addN 0 (i : Int).toNat) [])) = TV.v (stv x), addN 0 (i : Int).toNat < ps.length], qL (hPa x (some (a, n))), [TV.v (.bool (decide ((i : Int) > 0))) = TV.v (.bool true), inI ((i : Int) - 1), 0 ≤ (i : Int) - 1 ∧ (i : Int) - 1 < (ps.length : Int), TV.v (stv (ps.getD (addN 0 ((i : Int) - 1).toNat) [])) = TV.v (stv y), addN 0 ((i : Int) - 1).toNat < ps.length, TV.v (.bool (Op.bytesLess (lb ⟨x.toArray⟩) (lb ⟨y.toArray⟩) || lb ⟨x.toArray⟩ == lb ⟨y.toArray⟩)) = TV.v (.bool true)]].flatten) (by kernel_rfl) (all_flat ⟨⟨hd, hib, hv, hidx, trivial⟩, all_qL _, ⟨hg, i3, hib2, hv2, hidx2, hle2, trivial⟩, trivial⟩) fun ρ' w' hf _ => ⟨rfl, hf.below⟩
          | false =>
            have hle2 : TV.v (.bool (Op.bytesLess (lb ⟨x.toArray⟩) (lb ⟨y.toArray⟩) || lb ⟨x.toArray⟩ == lb ⟨y.toArray⟩)) = TV.v (.bool false) := tv_b hle
            have hok : okAt ps i = true := by unfold okAt; rw [← hx, ← hy, hle, hpx]; simp
            have h9 := ih (i + 1) ⟨hlt, by rw [List.range_succ, List.all_append, ha]; simp [hok]⟩ (by show ps.length - (i + 1) < ps.length - i; omega)
            exact At.run rfl [(2004002, .val (.v (stv x))), (5001, hPa x (some (a, n))), (2008002, .val (.v (.bool true))), (2008008, .val (.v (stv y))), (2008009, .val (.v (.bool false)))] ⟨trivial, hPa_ok _ _ _ hxl hpx, trivial, trivial, trivial, trivial⟩ [.y, .d, .d] (tm2 := rsT ps (i + 1)) (rows2 := [(1, strR ps)]) (ob := [[decide ((i : Int) < (ps.length : Int)) = true, 0 ≤ (i : Int) ∧ (i : Int) < (ps.length : Int), TV.v (stv (ps.getD (addN 0 (i : Int).toNat) [])) = TV.v (stv x), addN 0 (i : Int).toNat < ps.length], qL (hPa x (some (a, n))), [TV.v (.bool (decide ((i : Int) > 0))) = TV.v (.bool true), inI ((i : Int) - 1), 0 ≤ (i : Int) - 1 ∧ (i : Int) - 1 < (ps.length : Int), TV.v (stv (ps.getD (addN 0 ((i : Int) - 1).toNat) [])) = TV.v (stv y), addN 0 ((i : Int) - 1).toNat < ps.length, TV.v (.bool (Op.bytesLess (lb ⟨x.toArray⟩) (lb ⟨y.toArray⟩) || lb ⟨x.toArray⟩ == lb ⟨y.toArray⟩)) = TV.v (.bool false), inI ((i : Int) + 1)]].flatten) (td := lp Tryd.f31 0) (by kernel_rfl) (all_flat ⟨⟨hd, hib, hv, hidx, trivial⟩, all_qL _, ⟨hg, i3, hib2, hv2, hidx2, hle2, i2, trivial⟩, trivial⟩) rfl rfl (by intro h; cases h) h9
    · obtain rfl : i = ps.length := by omega
      rw [show riseL ps = true from ha]
      exact At.fin rfl [] trivial [.n] (x := .v (.bool true)) (ob := [decide ((ps.length : Int) < (ps.length : Int)) = false]) (by kernel_rfl) ⟨decide_eq_false (by omega), trivial⟩ fun ρ' w' hf _ => ⟨rfl, hf.below⟩
  exact At.run rfl [] trivial [] (tm2 := rsT ps 0) (rows2 := [(1, strR ps)]) (ob := []) (td := lp Tryd.f31 0) (by kernel_rfl) trivial rfl rfl (by intro h; cases h) (hloop 0 ⟨Nat.zero_le _, rfl⟩)
set_option maxRecDepth 100000 in
theorem rise_nil (pa : Option Addr) (ca : Nat) (w : World) : Calls Tryd.prog 31 #[.slice pa 0 ca] w (BoolQ w true) := by
  refine At.calls (args := [.v (.slice pa 0 ca)]) (rows := []) (gl := []) (wr := []) (ρ := fun _ => (⟨0, 0, 0⟩ : Blk)) Tryd.func31 rfl rfl (init_rw ⟨rfl, trivial⟩ rfl rfl rfl (fun p hp => by cases hp) (fun p hp => by cases hp) (fun p hp => by cases hp)) rfl ?_
  exact At.fin rfl [] trivial [.u, .d] (x := .v (.bool true)) (ob := []) (by kernel_rfl) trivial fun ρ' w' hf _ => ⟨rfl, hf.below⟩
end
end Go.Proofs.YtdbbcngolcnniaaDoor
/- Of Source: a builder that is made, written to, told. Its conditions: lengths that fit. -/
namespace Go.Proofs.YtdbbcngolcnniaaDoor
open Go Go.RowKit
set_option linter.unusedVariables false
set_option linter.unusedSimpArgs false
section
open E
theorem ent13 : Enters Tryd.prog 13 := enters_of Tryd.func13 (by kernel_rfl) rfl
theorem ent33 : Enters Tryd.prog 33 := enters_of Tryd.func33 (by kernel_rfl) rfl
/-- An operation of which the run is told. -/
theorem E.xOp_ok {P : Program} {ops : Array Oper} {r : Option Nat} {m : Nat} {K : Act → World → Prop} {QQ : Exit → Act → World → Prop} {a : Act} {w w' : World} {o : Oper} {d : Tmp} {v : Value} (hnd : noDef ops = true) (ho : ops[m]? = some o) (hd : o.dst = some d) (hg : o.guard = none)
    (h : (execOp a.eval o).run P w = .ok (.value v) w') (hK : K (a.put (some d) v) w') : wpOpIn (FW r) 5 P ops QQ m K a w := by
  unfold wpOpIn
  rw [ho]
  simp only
  rw [if_pos (by unfold Region.wanted; rw [hg])]
  exact wpIn_of_wp (noDef_ok hnd ho) (wp_val h (by rw [hd]; exact hK))
/-- Slots that stay, and name but the refs' row and the builder's box. -/
def tmOk (d : Nat) (tm : List (Nat × TV)) : List (Nat × TV) → Prop
  | [] => True
  | p :: l => (Nat.beq p.1 d = false ∧ findT tm p.1 = some p.2 ∧ (p.2.ids.all fun r => Nat.beq r 1 || Nat.beq r 2) = true) ∧ tmOk d tm l
theorem tmOk_mem {d : Nat} {tm : List (Nat × TV)} : ∀ {l : List (Nat × TV)}, tmOk d tm l → ∀ p ∈ l, p.1 ≠ d ∧ findT tm p.1 = some p.2 ∧ ∀ r ∈ p.2.ids, r = 1 ∨ r = 2
  | [], _, p, hp => by cases hp
  | q :: l, h, p, hp => by
    rcases List.mem_cons.1 hp with rfl | hp
    · obtain ⟨⟨h1, h2, h3⟩, _⟩ := h
      refine ⟨(fun e => by rw [e, Nat.beq_refl] at h1; cases h1), h2, fun r hr => ?_⟩
      have := List.all_eq_true.1 h3 r hr
      rw [Bool.or_eq_true] at this
      exact this.imp Nat.eq_of_beq_eq_true Nat.eq_of_beq_eq_true
    · exact tmOk_mem h.2 p hp
abbrev bxB (b : Nat) : Blk := ⟨b, 0, 0⟩
abbrev enS (b1 : Blk) (b : Nat) : Env := fun r => bif Nat.beq r 2 then bxB b else b1
/-- A builder of this call holds a text. -/
structure SrcI (W0 W : World) (b : Nat) (L : List UInt8) : Prop where
  fr : Fr W0 [] W
  bl : Bl b b L W
  hb : W0.heap.size ≤ b
theorem bl_noR {b : Nat} {L : List UInt8} {w : World} (h : Bl b b L w) {σ : Env} {q : Nat} (e : σ q = bxB b) : RowAt σ q noR w := by
  obtain ⟨c, hc⟩ := h.block
  unfold RowAt
  rw [e]
  exact ⟨(Array.getElem?_eq_some_iff.1 hc).1, (fun j v hv => by cases hv), (fun e k he => by cases he), c, 50, (0, 0), hc⟩
theorem SrcI.fwd {W0 W W' : World} {b : Nat} {L : List UInt8} (h : SrcI W0 W b L) (hf : Fr W [] W') : SrcI W0 W' b L := ⟨h.fr.comp hf (fun y hy => by cases hy), h.bl.below hf.below, h.hb⟩
/-- The rows: texts that the call was handed, or none; the box. -/
def RwOk (W0 : World) (b1 : Blk) (R : List (Nat × Row)) : Prop := ∀ W' b L, SrcI W0 W' b L → ∀ p ∈ R, (p.1 = 1 ∨ p.1 = 2) ∧ RowAt (enS b1 b) p.1 p.2 W' ∧ pok p.2.ps ∧ p.2.w = false
theorem rwOk_one (W0 : World) (b1 : Blk) : RwOk W0 b1 [(2, noR)] := fun W' b L h p hp => by
  obtain rfl := List.mem_singleton.1 hp
  exact ⟨.inr rfl, bl_noR h.bl rfl, (fun p hp => by cases hp), rfl⟩
theorem rwOk_two {W0 : World} {ρ : Env} (ps : List (List UInt8)) (h1 : RowAt ρ 1 (strR ps) W0) : RwOk W0 (ρ 1) [(1, strR ps), (2, noR)] := fun W' b L h p hp => by
  simp only [List.mem_cons, List.not_mem_nil, or_false] at hp
  rcases hp with rfl | rfl
  · exact ⟨.inl rfl, rowAt_mv (ρ := ρ) (rowAt_fr h1 h.fr (by simp)) rfl, strR_ok ps, rfl⟩
  · exact ⟨.inr rfl, bl_noR h.bl rfl, (fun p hp => by cases hp), rfl⟩
theorem wl_nil {σ : Env} {R : List (Nat × Row)} (h : ∀ p ∈ R, p.2.w = false) : wlOf σ R = [] := by
  cases hw : wlOf σ R with
  | nil => rfl
  | cons x l =>
    obtain ⟨p, hp, hw2, _⟩ := wlOf_mem (σ := σ) (rows := R) (b := x) (by rw [hw]; exact List.mem_cons_self ..)
    rw [h p hp] at hw2; cases hw2
theorem env_ids {ρ : Env} {b1 : Blk} {b : Nat} (h1 : ρ 1 = b1) (h2 : ρ 2 = bxB b) {r : Nat} (h : r = 1 ∨ r = 2) : enS b1 b r = ρ r := by
  rcases h with rfl | rfl
  · exact h1.symm
  · exact h2.symm
theorem fr_kp {W0 w w' : World} {b : Nat} (hf : Fr W0 [] w) (hk : Below b w w') (hb : W0.heap.size ≤ b) : Fr W0 [] w' :=
  ⟨hk.os.trans hf.os, hk.tape.trans hf.tape, hk.output.trans hf.output, Nat.le_trans hf.size hk.size, fun k hk2 hn => (hk.block k (Nat.lt_of_lt_of_le hk2 hb)).trans (hf.block k hk2 hn)⟩
/-- A text is written. -/
theorem mid_write {W0 W : World} {b1 : Blk} {b : Nat} {L : List UInt8} {R : List (Nat × Row)} {n k d : Nat} {todo : List Item} {Q : Exit → Act → World → Prop} {tm : List (Nat × TV)} (tm2 : List (Nat × TV)) (q : List UInt8) (hS : SrcI W0 W b L) (hR : RwOk W0 b1 R) (hq : L.length + q.length ≤ 140737488355328)
    (hsz : Nat.ble (k + 1) (hdOps todo).size = true) (hc : xCall (hdOps todo) k (mkSt n tm R []) = some (d, 32, [ptrTo 2, .v (stv q)])) (hd : d < n) (h2 : tmOk d tm tm2) (hi : idsOk tm2 R [] = true)
    (hK : ∀ W', SrcI W0 W' b (L ++ q) → E.Mid Tryd.prog W' ⟨[], enS b1 b, []⟩ n [] todo Q (k + 1) tm2 R) : E.Mid Tryd.prog W ⟨[], enS b1 b, []⟩ n [] todo Q k tm R := by
  refine E.Mid.op (α := World) (some d) (fun W => W) (fun _ => ⟨[], enS b1 b, []⟩) (fun _ => tm2) (fun _ => R) (fun W' => SrcI W0 W' b (L ++ q)) hsz (fun a w ρ K QQ hden hk => ?_) hK
  have e1 : ρ 1 = b1 := hden.e0 1 (.inl (by decide))
  have e2 : ρ 2 = bxB b := hden.e0 2 (.inl (by decide))
  have hSw := hS.fwd hden.fr
  have hv : (ptrTo 2).val ρ = .pointer (some ⟨b, 0, none⟩) := by
    show Value.pointer (some ⟨(ρ 2).1, (ρ 2).2 + (0 + 0 * 0 + 0), none⟩) = _
    rw [e2]
  have hbl := hSw.bl.block
  obtain ⟨c0, hc0⟩ := hbl
  have hlt := (Array.getElem?_eq_some_iff.1 hc0).1
  have hcl := wstr_any b b L q w hSw.bl hq (by omega)
  rw [← hv] at hcl
  refine xCall_ok hc hden ent32 (hcl.mono ?_)
  rintro e w' ⟨rfl, h1, h3⟩
  have hS2 : SrcI W0 w' b (L ++ q) := ⟨fr_kp hSw.fr h3.1 hSw.hb, h1, hS.hb⟩
  have hw : ∀ p ∈ R, p.2.w = false := fun p hp => (hR w' b _ hS2 p hp).2.2.2
  refine ⟨_, rfl, hk w' _ w' (enS b1 b) hS2 ?_⟩
  have := E.den_again (σ := enS b1 b) (d := d) (tm' := tm2) (rows2 := R) (K := []) hden hd (v := .tuple #[.int .i64 (q.length : Int), .nilIface]) (w' := w') (fun p hp => by
    obtain ⟨g1, g2, g3⟩ := tmOk_mem h2 p hp
    exact .inr ⟨g1, g2, fun r hr => env_ids e1 e2 (g3 r hr)⟩) hi (fun p hp => ⟨(hR w' b _ hS2 p hp).2.1, (hR w' b _ hS2 p hp).2.2.1⟩) (fun p hp q hq hpq hw2 => by rw [hw p hp] at hw2; cases hw2) rfl (List.all_eq_true.2 fun p hp => by
      rcases (hR w' b _ hS2 p hp).1 with h | h <;> rw [h] <;> rfl)
  rwa [wl_nil hw] at this
end
end Go.Proofs.YtdbbcngolcnniaaDoor
/- Past a test, step by step; a box made at its place. No condition. -/
namespace Go.Proofs.YtdbbcngolcnniaaDoor
open Go Go.RowKit
set_option linter.unusedVariables false
set_option linter.unusedSimpArgs false
section
open E
def st1 : List Item → List Item
  | .code (.seq x y) :: k => .code x :: .code y :: k
  | .code .skip :: k => k
  | t => t
def flatI : Nat → List Item → List Item
  | 0, t => t
  | n + 1, t => flatI n (st1 t)
def condT (b : Bool) : List Item → List Item
  | .code (.cond c x y) :: k => .code (if b then x else y) :: k
  | t => t
def condC : List Item → Operand
  | .code (.cond c x y) :: _ => c
  | _ => .func 0
def isCond : List Item → Bool
  | .code (.cond c x y) :: _ => true
  | _ => false
theorem kx_st1 {P : Program} {r : Option Nat} {Q : Exit → Act → World → Prop} {a : Act} {w : World} {t : List Item} (h : KX P r (st1 t) Q a w) : KX P r t Q a w := by
  unfold st1 at h
  split at h
  · exact KX.step (fun b k cs _ => stepR_seq) h
  · exact KX.step (fun b k cs _ => stepR_skip) h
  · exact h
theorem kx_flat {P : Program} {r : Option Nat} {Q : Exit → Act → World → Prop} {a : Act} {w : World} : ∀ (n : Nat) (t : List Item), KX P r (flatI n t) Q a w → KX P r t Q a w
  | 0, _, h => h
  | n + 1, t, h => kx_st1 (kx_flat n _ h)
theorem E.At.test {P : Program} {w0 : World} {wr : Bs} {n : Nat} {gl : List Nat} {todo td : List Item} {Q : Exit → Act → World → Prop} {tm : List (Nat × TV)} {rows : List (Nat × Row)} {r : Option Nat} {mk : List Nat} (b : Bool) (hc : isCond todo = true)
    (hv : evalO (mkSt n tm rows gl mk) (condC todo) = some (.s (.lf (.v (.bool b))))) (ht : flatI 9 (condT b todo) = td) (h : At P w0 wr n gl td Q tm rows r mk) : At P w0 wr n gl todo Q tm rows r mk := by
  subst ht
  intro a w ρ hd
  have h1 := kx_flat 9 _ (h a w ρ hd)
  unfold isCond at hc
  split at hc
  · rename_i c x y k
    have hev := (evalO_ok hd hv).1
    exact KX.step (t' := .code (if b then x else y) :: k) (fun b k cs _ => stepR_cond hev) h1
  · cases hc
end
end Go.Proofs.YtdbbcngolcnniaaDoor
/- Source: the kind of a source, and Make of it. Its conditions: lengths that fit; the tables of sha as its text lays them. -/
namespace Go.Proofs.YtdbbcngolcnniaaDoor
open Go Go.RowKit
set_option linter.unusedVariables false
set_option linter.unusedSimpArgs false
section
open E
abbrev srcL : List UInt8 := [115, 111, 117, 114, 99, 101]
def accL (ps : List (List UInt8)) (i : Nat) : List UInt8 := srcL ++ ((ps.take i).map fun p => 58 :: p).flatten
def kindL (ps : List (List UInt8)) (sf : Bool) : List UInt8 := accL ps ps.length ++ (if sf then [58, 115, 101, 108, 102] else [])
def sourceR (ps : List (List UInt8)) (sf : Bool) (h n : List UInt8) : Option (List UInt8) := if riseL ps then makeR (kindL ps sf) h n else none
theorem acc_step {ps : List (List UInt8)} {i : Nat} (h : i < ps.length) : accL ps i ++ [58] ++ ps.getD i [] = accL ps (i + 1) := by
  unfold accL
  rw [List.take_add_one, List.map_append, List.flatten_append, List.getD_eq_getElem?_getD, List.getElem?_eq_getElem h]
  simp
theorem acc_len {ps : List (List UInt8)} (hp : ∀ p ∈ ps, p.length ≤ 1000) : ∀ i, i ≤ ps.length → (accL ps i).length ≤ 6 + i * 1001
  | 0, _ => by unfold accL; simp
  | i + 1, h => by
    rw [← acc_step h]
    have h1 := acc_len hp i (by omega)
    have h2 : (ps.getD i []).length ≤ 1000 := hp _ (by rw [List.getD_eq_getElem?_getD, List.getElem?_eq_getElem h]; exact List.getElem_mem _)
    simp only [List.length_append, List.length_cons, List.length_nil]
    omega
theorem E.At.flat {P : Program} {w0 : World} {wr : Bs} {n : Nat} {gl : List Nat} {todo td : List Item} {Q : Exit → Act → World → Prop} {tm : List (Nat × TV)} {rows : List (Nat × Row)} {r : Option Nat} {mk : List Nat} (ht : flatI 9 todo = td) (h : At P w0 wr n gl td Q tm rows r mk) : At P w0 wr n gl todo Q tm rows r mk := by
  subst ht
  exact fun a w ρ hd => kx_flat 9 _ (h a w ρ hd)
theorem inf50 : ((Tryd.prog.info? 50).bind (·.zero)).map (·.cells) = some #[.pointer none, .slice none 0 0] := by kernel_rfl
theorem run_alloc50 (w : World) (a : Act) (o : Oper) (h : o.op = .alloc 50) : (execOp a.eval o).run Tryd.prog w = .ok (.value (.pointer (some ⟨w.heap.size, 0, none⟩))) (w.alloc (.cells #[.pointer none, .slice none 0 0] 50)) := by
  obtain ⟨z, hz, hc⟩ := Option.map_eq_some_iff.1 inf50
  obtain ⟨i, hi, hz2⟩ := Option.bind_eq_some_iff.1 hz
  simp [execOp, h, Instr.alloc, zeroValue, typeInfo, hi, hz2, newVar, newRow, hc]
/-- Slots that stay, and name but the refs' row. -/
def tmOkA (d : Nat) (tm : List (Nat × TV)) : List (Nat × TV) → Prop
  | [] => True
  | p :: l => (Nat.beq p.1 d = false ∧ findT tm p.1 = some p.2 ∧ (p.2.ids.all fun r => Nat.beq r 1) = true) ∧ tmOkA d tm l
theorem tmOkA_mem {d : Nat} {tm : List (Nat × TV)} : ∀ {l : List (Nat × TV)}, tmOkA d tm l → ∀ p ∈ l, p.1 ≠ d ∧ findT tm p.1 = some p.2 ∧ ∀ r ∈ p.2.ids, r = 1
  | [], _, p, hp => by cases hp
  | q :: l, h, p, hp => by
    rcases List.mem_cons.1 hp with rfl | hp
    · obtain ⟨⟨h1, h2, h3⟩, _⟩ := h
      exact ⟨(fun e => by rw [e, Nat.beq_refl] at h1; cases h1), h2, fun r hr => Nat.eq_of_beq_eq_true (List.all_eq_true.1 h3 r hr)⟩
    · exact tmOkA_mem h.2 p hp
/-- The box is made. -/
theorem mid_made {W0 : World} {ρ0 : Env} {R0 R : List (Nat × Row)} {Q : Exit → Act → World → Prop} {tm : List (Nat × TV)} (tmA : List (Nat × TV)) (hR : RwOk W0 (ρ0 1) R) (h2 : tmOkA 10 tm tmA) (hi : idsOk ((10, ptrTo 2) :: tmA) R [] = true)
    (hK : ∀ W' b, SrcI W0 W' b [] → E.Mid Tryd.prog W' ⟨[], enS (ρ0 1) b, []⟩ Tryd.f13.ntmps [] (rp Tryd.f13 3) Q 1 ((10, ptrTo 2) :: tmA) R) : E.Mid Tryd.prog W0 ⟨[], ρ0, []⟩ Tryd.f13.ntmps [] (rp Tryd.f13 3) Q 0 tm R0 := by
  refine E.Mid.op (α := World × Nat) (some 10) (fun y => y.1) (fun y => ⟨[], enS (ρ0 1) y.2, []⟩) (fun _ => (10, ptrTo 2) :: tmA) (fun _ => R) (fun y => SrcI W0 y.1 y.2 []) (by kernel_rfl) (fun a w ρ K QQ hden hk => ?_) fun y hy => hK y.1 y.2 hy
  have e1 : ρ 1 = ρ0 1 := hden.e0 1 (.inl (by decide))
  obtain ⟨oo, hoo, hop, hdst, hgd⟩ : ∃ oo : Oper, (hdOps (rp Tryd.f13 3))[0]? = some oo ∧ oo.op = .alloc 50 ∧ oo.dst = some 10 ∧ oo.guard = none := ⟨(hdOps (rp Tryd.f13 3)).getD 0 default, by kernel_rfl, by kernel_rfl, by kernel_rfl, by kernel_rfl⟩
  refine E.xOp_ok (o := oo) (d := 10) (v := .pointer (some ⟨w.heap.size, 0, none⟩)) (w' := w.alloc (.cells #[.pointer none, .slice none 0 0] 50)) rfl hoo hdst hgd (run_alloc50 _ _ _ hop) ?_
  have hS : SrcI W0 (w.alloc (.cells #[.pointer none, .slice none 0 0] 50)) w.heap.size [] := ⟨fr_kp hden.fr ((Below.refl _ _).alloc (Nat.le_refl _) _) hden.fr.size, Lib.IsBuilderF.of (Lib.fresh_isBuilder 50 5 w), hden.fr.size⟩
  have hw : ∀ p ∈ R, p.2.w = false := fun p hp => (hR _ _ _ hS p hp).2.2.2
  refine hk (w.alloc (.cells #[.pointer none, .slice none 0 0] 50), w.heap.size) _ _ (enS (ρ0 1) w.heap.size) hS ?_
  have := E.den_again (σ := enS (ρ0 1) w.heap.size) (d := 10) (tm' := (10, ptrTo 2) :: tmA) (rows2 := R) (K := []) hden (by decide) (v := .pointer (some ⟨w.heap.size, 0, none⟩)) (w' := w.alloc (.cells #[.pointer none, .slice none 0 0] 50)) (fun p hp => by
    rcases List.mem_cons.1 hp with rfl | hp
    · exact .inl ⟨rfl, rfl, trivial⟩
    · obtain ⟨g1, g2, g3⟩ := tmOkA_mem h2 p hp
      exact .inr ⟨g1, g2, fun r hr => by rw [g3 r hr]; exact e1.symm⟩) hi (fun p hp => ⟨(hR _ _ _ hS p hp).2.1, (hR _ _ _ hS p hp).2.2.1⟩) (fun p hp q hq hpq hw2 => by rw [hw p hp] at hw2; cases hw2) rfl (List.all_eq_true.2 fun p hp => by
      rcases (hR _ _ _ hS p hp).1 with h | h <;> rw [h] <;> rfl)
  rwa [wl_nil hw] at this
abbrev SrcOut (W0 : World) (o : Option (List UInt8)) (e : Ending) (w' : World) : Prop := e = .returned (makeW o) ∧ Fr W0 [] w'
set_option maxRecDepth 100000 in
/-- Told, and made. -/
theorem src_end {W0 W : World} (hG : S3.Glob W0) {b1 : Blk} {b : Nat} {L h n : List UInt8} (hS : SrcI W0 W b L) (hL : L.length ≤ 800000) (hh : h.length ≤ 1000000000) (hn : n.length ≤ 1000000000) :
    At Tryd.prog W ⟨[], enS b1 b, []⟩ Tryd.f13.ntmps [] (rp Tryd.f13 13) (EndX Tryd.prog Tryd.f13 (SrcOut W0 (makeR L h n))) [(2, .v (stv h)), (3, .v (stv n)), (10, ptrTo 2)] [(2, noR)] := by
  refine E.At.reg rfl (E.Mid.op (α := World) (some 29) (fun y => y) (fun _ => ⟨[], enS b1 b, []⟩) (fun _ => [(29, .v (stv L)), (2, .v (stv h)), (3, .v (stv n))]) (fun _ => [(2, noR)]) (fun y => SrcI W0 y b L) (by kernel_rfl) (fun a w ρ K QQ hden hk => ?_) fun W' hW' => ?_)
  · have e1 : ρ 1 = b1 := hden.e0 1 (.inl (by decide))
    have e2 : ρ 2 = bxB b := hden.e0 2 (.inl (by decide))
    have hSw := hS.fwd hden.fr
    have hv : (ptrTo 2).val ρ = .pointer (some ⟨b, 0, none⟩) := by
      show Value.pointer (some ⟨(ρ 2).1, (ρ 2).2 + (0 + 0 * 0 + 0), none⟩) = _
      rw [e2]
    obtain ⟨c0, hc0⟩ := hSw.bl.block
    have hlt := (Array.getElem?_eq_some_iff.1 hc0).1
    have hcl := Builder_String_any_k b b L w hSw.bl (by omega)
    rw [← hv] at hcl
    refine xCall_ok (d := 29) (f := 33) (vs := [ptrTo 2]) (by kernel_rfl) hden ent33 (hcl.mono ?_)
    rintro e w' ⟨rfl, g1, g2, g3⟩
    have hS2 : SrcI W0 w' b L := ⟨fr_kp hSw.fr g2 hSw.hb, g1, hS.hb⟩
    refine ⟨_, rfl, hk w' _ w' (enS b1 b) hS2 (E.den_again (d := 29) (tm' := [(29, .v (stv L)), (2, .v (stv h)), (3, .v (stv n))]) (rows2 := [(2, noR)]) (K := []) hden (by decide) (fun p hp => ?_) rfl (fun p hp => ?_) (fun p hp q hq hpq hw => ?_) rfl rfl)⟩
    · simp only [List.mem_cons, List.not_mem_nil, or_false] at hp
      rcases hp with rfl | rfl | rfl
      · exact .inl ⟨rfl, rfl, rfl⟩
      · exact .inr ⟨(show (2 : Nat) ≠ 29 by decide), rfl, fun r hr => by cases hr⟩
      · exact .inr ⟨(show (3 : Nat) ≠ 29 by decide), rfl, fun r hr => by cases hr⟩
    · obtain rfl := List.mem_singleton.1 hp
      exact ⟨bl_noR hS2.bl rfl, fun p hp => by cases hp⟩
    · obtain rfl := List.mem_singleton.1 hp
      cases hw
  · have hG' := glob_keep hG hW'.fr (by simp) (by simp)
    have hmk := hMk_ok (wr := ⟨[], enS b1 b, []⟩) 14003 L h n _ hL hh hn hG' (by simp) (by simp) rfl
    generalize makeR L h n = o at hmk
    have hfin : ∀ {w' : World}, Fr W' [] w' → Fr W0 [] w' := fun hf => hW'.fr.comp hf fun y hy => by cases hy
    cases o with
    | some t =>
      refine E.Mid.run 8 [(14003, hMk L h n (some t))] ⟨hmk, trivial⟩ (tm2 := [(8, .v (stv t)), (9, .v (.bool true))]) (rows2 := [(2, noR)]) (ob := qL (hMk L h n (some t))) (by kernel_rfl) (all_qL _) rfl ?_
      exact E.Mid.out (by kernel_rfl) (At.fin rfl [] trivial [] (x := makeV (some t)) (ob := []) (by kernel_rfl) trivial fun ρ' w' hf _ => ⟨rfl, hfin hf⟩)
    | none =>
      refine E.Mid.run 8 [(14003, hMk L h n none)] ⟨hmk, trivial⟩ (tm2 := [(8, .v (stv [])), (9, .v (.bool false))]) (rows2 := [(2, noR)]) (ob := qL (hMk L h n none)) (by kernel_rfl) (all_qL _) rfl ?_
      exact E.Mid.out (by kernel_rfl) (At.fin rfl [] trivial [] (x := makeV none) (ob := []) (by kernel_rfl) trivial fun ρ' w' hf _ => ⟨rfl, hfin hf⟩)
end
end Go.Proofs.YtdbbcngolcnniaaDoor
/- Source, whole. Its conditions: lengths that fit; the tables of sha as its text lays them. -/
namespace Go.Proofs.YtdbbcngolcnniaaDoor
open Go Go.RowKit
set_option linter.unusedVariables false
set_option linter.unusedSimpArgs false
section
open E
abbrev selfL : List UInt8 := [58, 115, 101, 108, 102]
set_option maxRecDepth 100000 in
/-- From the last word on. -/
theorem src_self {W0 W : World} (hG : S3.Glob W0) {b1 : Blk} {b : Nat} {L h n : List UInt8} (hS : SrcI W0 W b L) (hL : L.length ≤ 700000) (hh : h.length ≤ 1000000000) (hn : n.length ≤ 1000000000) :
    At Tryd.prog W ⟨[], enS b1 b, []⟩ Tryd.f13.ntmps [] (rp Tryd.f13 12) (EndX Tryd.prog Tryd.f13 (SrcOut W0 (makeR (L ++ selfL) h n))) [(2, .v (stv h)), (3, .v (stv n)), (10, ptrTo 2)] [(2, noR)] := by
  refine E.At.reg rfl (mid_write (d := 28) [(2, .v (stv h)), (3, .v (stv n)), (10, ptrTo 2)] selfL hS (rwOk_one _ _) (by show _ + 5 ≤ _; omega) (by kernel_rfl) (by kernel_rfl) (by decide) ⟨⟨rfl, rfl, rfl⟩, ⟨rfl, rfl, rfl⟩, ⟨rfl, rfl, rfl⟩, trivial⟩ rfl fun W' hS' => E.Mid.out (by kernel_rfl) (E.At.flat (td := rp Tryd.f13 13) (by kernel_rfl) (src_end hG hS' (by rw [List.length_append]; show _ + 5 ≤ _; omega) hh hn)))
structure SrX where
  W : World
  i : Nat
abbrev srT (ps : List (List UInt8)) (sf : Bool) (h n : List UInt8) (i : Nat) : List (Nat × TV) := [(1, .v (.bool sf)), (2, .v (stv h)), (3, .v (stv n)), (10, ptrTo 2), (17, .s (.lf (.sl 1 0 0 1 ps.length none))), (18, .int .i64 (ps.length : Int)), (19, .int .i64 (i : Int))]
set_option maxRecDepth 100000 in
theorem src_loop {W0 : World} (hG : S3.Glob W0) (ps : List (List UInt8)) (hps : ps.length ≤ 600) (hp : ∀ p ∈ ps, p.length ≤ 1000) (sf : Bool) {h n : List UInt8} (hh : h.length ≤ 1000000000) (hn : n.length ≤ 1000000000) (ρ0 : Env) (h1 : RowAt ρ0 1 (strR ps) W0) (b : Nat) :
    ∀ x : SrX, (SrcI W0 x.W b (accL ps x.i) ∧ x.i ≤ ps.length) → At Tryd.prog x.W ⟨[], enS (ρ0 1) b, []⟩ Tryd.f13.ntmps [] (lp Tryd.f13 0) (EndX Tryd.prog Tryd.f13 (SrcOut W0 (makeR (kindL ps sf) h n))) (srT ps sf h n x.i) [(1, strR ps), (2, noR)] := by
  refine At.loopW (fun x : SrX => x.W) (fun x => ⟨[], enS (ρ0 1) b, []⟩) (fun x => srT ps sf h n x.i) (fun x => [(1, strR ps), (2, noR)]) (fun x => SrcI W0 x.W b (accL ps x.i) ∧ x.i ≤ ps.length) (fun x => ps.length - x.i) ?_
  rintro ⟨W, i⟩ ⟨hS, hi⟩ ih
  simp only at hS hi ih ⊢
  have hal := acc_len hp i hi
  have hR := rwOk_two ps h1
  by_cases hlt : i < ps.length
  · obtain ⟨x, hx⟩ : ∃ x, x = ps.getD i [] := ⟨_, rfl⟩
    have hxm : x ∈ ps := by rw [hx, List.getD_eq_getElem?_getD, List.getElem?_eq_getElem hlt]; exact List.getElem_mem hlt
    have hxl := hp x hxm
    have hv : TV.v (stv (ps.getD (addN 0 (i : Int).toNat) [])) = TV.v (stv x) := by rw [hx, addN_eq, Nat.zero_add, Int.toNat_natCast]
    have hd : decide ((i : Int) < (ps.length : Int)) = true := decide_eq_true (by omega)
    have hib : 0 ≤ (i : Int) ∧ (i : Int) < (ps.length : Int) := ⟨by omega, by omega⟩
    have hidx : addN 0 (i : Int).toNat < ps.length := by rw [addN_eq]; omega
    have i2 : inI ((i : Int) + 1) := ⟨by omega, by omega⟩
    have hst := acc_step hlt
    rw [← hx] at hst
    refine At.run rfl [(2008001, .val (.v (stv x)))] ⟨trivial, trivial⟩ [.y] (tm2 := (12, .v (stv x)) :: srT ps sf h n i) (rows2 := [(1, strR ps), (2, noR)]) (ob := [decide ((i : Int) < (ps.length : Int)) = true, 0 ≤ (i : Int) ∧ (i : Int) < (ps.length : Int), TV.v (stv (ps.getD (addN 0 (i : Int).toNat) [])) = TV.v (stv x), addN 0 (i : Int).toNat < ps.length]) (td := rp Tryd.f13 8) (by kernel_rfl) ⟨hd, hib, hv, hidx, trivial⟩ rfl rfl (by intro h; cases h) ?_
    refine E.At.reg rfl (mid_write (d := 23) ((12, .v (stv x)) :: srT ps sf h n i) [58] hS hR (by show _ + 1 ≤ _; omega) (by kernel_rfl) (by kernel_rfl) (by decide) ⟨⟨rfl, rfl, rfl⟩, ⟨rfl, rfl, rfl⟩, ⟨rfl, rfl, rfl⟩, ⟨rfl, rfl, rfl⟩, ⟨rfl, rfl, rfl⟩, ⟨rfl, rfl, rfl⟩, ⟨rfl, rfl, rfl⟩, ⟨rfl, rfl, rfl⟩, trivial⟩ rfl fun W' hS' => E.Mid.out (by kernel_rfl) (E.At.flat (td := rp Tryd.f13 9) (by kernel_rfl) ?_))
    refine E.At.reg rfl (E.Mid.run 1 [] trivial (tm2 := (24, .v (stv x)) :: srT ps sf h n i) (rows2 := [(1, strR ps), (2, noR)]) (ob := []) (by kernel_rfl) trivial rfl ?_)
    refine mid_write (d := 25) (srT ps sf h n i) x hS' hR (by rw [List.length_append]; show _ + 1 + _ ≤ _; omega) (by kernel_rfl) (by kernel_rfl) (by decide) ⟨⟨rfl, rfl, rfl⟩, ⟨rfl, rfl, rfl⟩, ⟨rfl, rfl, rfl⟩, ⟨rfl, rfl, rfl⟩, ⟨rfl, rfl, rfl⟩, ⟨rfl, rfl, rfl⟩, ⟨rfl, rfl, rfl⟩, trivial⟩ rfl fun W2 hS2 => E.Mid.out (by kernel_rfl) ?_
    rw [hst] at hS2
    exact At.run rfl [] trivial [] (tm2 := srT ps sf h n (i + 1)) (rows2 := [(1, strR ps), (2, noR)]) (ob := [inI ((i : Int) + 1)]) (td := lp Tryd.f13 0) (by kernel_rfl) ⟨i2, trivial⟩ rfl rfl (by intro h; cases h) (ih ⟨W2, i + 1⟩ ⟨hS2, hlt⟩ (by show ps.length - (i + 1) < ps.length - i; omega))
  · obtain rfl : i = ps.length := by omega
    have hdc : decide ((ps.length : Int) < (ps.length : Int)) = false := decide_eq_false (by omega)
    cases sf with
    | true => exact At.run rfl [] trivial [.n, .d] (tm2 := [(2, .v (stv h)), (3, .v (stv n)), (10, ptrTo 2)]) (rows2 := [(2, noR)]) (ob := [decide ((ps.length : Int) < (ps.length : Int)) = false]) (td := rp Tryd.f13 12) (by kernel_rfl) ⟨hdc, trivial⟩ rfl rfl (by intro h; cases h) (src_self hG hS (by omega) hh hn)
    | false =>
      have hk : kindL ps false = accL ps ps.length := by unfold kindL; simp
      rw [hk]
      exact At.run rfl [] trivial [.n, .d] (tm2 := [(2, .v (stv h)), (3, .v (stv n)), (10, ptrTo 2)]) (rows2 := [(2, noR)]) (ob := [decide ((ps.length : Int) < (ps.length : Int)) = false]) (td := rp Tryd.f13 13) (by kernel_rfl) ⟨hdc, trivial⟩ rfl rfl (by intro h; cases h) (src_end hG hS (by omega) hh hn)
abbrev hRs (ps : List (List UInt8)) (b : Bool) : Hint := pr 31 (fun ρ => #[(TV.s (.lf (.sl 1 0 0 1 ps.length none))).val ρ]) (.v (.bool b)) [(1, strR ps)]
theorem hRs_ok (id : Nat) (ps : List (List UInt8)) (hps : ps.length ≤ 1000000) (hp : ∀ p ∈ ps, p.length ≤ 1000000) {b : Bool} (hb : riseL ps = b) : HintOk Tryd.prog id (hRs ps b) := pr_ok ent31 (v := .bool b) rfl (fun _ => rfl) fun ρ w h => by
  rw [← hb]
  exact rise_pos ps hps hp w ρ (h _ (List.mem_singleton.2 rfl))
abbrev s0T (ps : List (List UInt8)) (sf : Bool) (h n : List UInt8) : List (Nat × TV) := [(0, .s (.lf (.sl 1 0 0 1 ps.length none))), (1, .v (.bool sf)), (2, .v (stv h)), (3, .v (stv n))]
set_option maxRecDepth 100000 in
theorem source_pos (ps : List (List UInt8)) (hps : ps.length ≤ 600) (hp : ∀ p ∈ ps, p.length ≤ 1000) (sf : Bool) (h n : List UInt8) (hh : h.length ≤ 1000000000) (hn : n.length ≤ 1000000000) (W : World) (hG : S3.Glob W) (ρ : Env) (h1 : RowAt ρ 1 (strR ps) W) :
    Calls Tryd.prog 13 #[(TV.s (.lf (.sl 1 0 0 1 ps.length none))).val ρ, .bool sf, stv h, stv n] W (SrcOut W (sourceR ps sf h n)) := by
  refine At.calls (args := [.s (.lf (.sl 1 0 0 1 ps.length none)), .v (.bool sf), .v (stv h), .v (stv n)]) (rows := [(1, strR ps)]) (gl := []) (wr := []) (ρ := ρ) Tryd.func13 rfl rfl (init_rw ⟨trivial, rfl, rfl, rfl, trivial⟩ rfl rfl rfl (fun p hp => by obtain rfl := List.mem_singleton.1 hp; exact ⟨h1, strR_ok ps⟩) (fun p hp hw => by obtain rfl := List.mem_singleton.1 hp; cases hw) (fun p hp q hq hpq hw => by obtain rfl := List.mem_singleton.1 hp; cases hw)) rfl ?_
  cases hr : riseL ps with
  | false =>
    have hk := hRs_ok 2001 ps (by omega) (fun p h => Nat.le_trans (hp p h) (by decide)) hr
    have ho : sourceR ps sf h n = none := by unfold sourceR; rw [hr]; rfl
    rw [ho]
    exact At.fin rfl [(2001, hRs ps false)] ⟨hk, trivial⟩ [.d] (x := makeV none) (ob := qL (hRs ps false)) (by kernel_rfl) (all_qL _) fun ρ' w' hf _ => ⟨rfl, hf⟩
  | true =>
    have hk := hRs_ok 2001 ps (by omega) (fun p h => Nat.le_trans (hp p h) (by decide)) hr
    have ho : sourceR ps sf h n = makeR (kindL ps sf) h n := by unfold sourceR; rw [hr]; rfl
    rw [ho]
    refine At.run rfl [(2001, hRs ps true)] ⟨hk, trivial⟩ [] (tm2 := (15, .v (.bool false)) :: s0T ps sf h n) (rows2 := [(1, strR ps)]) (ob := qL (hRs ps true)) (td := flatI 3 (rp Tryd.f13 1).tail) (by kernel_rfl) (all_qL _) rfl rfl (by intro h; cases h) ?_
    refine E.At.test false (by kernel_rfl) (by kernel_rfl) (td := rp Tryd.f13 3) (by kernel_rfl) ?_
    have hR := rwOk_two ps h1
    refine E.At.reg rfl (mid_made (s0T ps sf h n) hR ⟨⟨rfl, rfl, rfl⟩, ⟨rfl, rfl, rfl⟩, ⟨rfl, rfl, rfl⟩, ⟨rfl, rfl, rfl⟩, trivial⟩ rfl fun W1 b hS1 => E.Mid.out (by kernel_rfl) (E.At.flat (td := rp Tryd.f13 4) (by kernel_rfl) ?_))
    refine E.At.reg rfl (mid_write (d := 16) ((10, ptrTo 2) :: s0T ps sf h n) srcL hS1 hR (by decide) (by kernel_rfl) (by kernel_rfl) (by decide) ⟨⟨rfl, rfl, rfl⟩, ⟨rfl, rfl, rfl⟩, ⟨rfl, rfl, rfl⟩, ⟨rfl, rfl, rfl⟩, ⟨rfl, rfl, rfl⟩, trivial⟩ rfl fun W2 hS2 => E.Mid.out (by kernel_rfl) ?_)
    exact At.run rfl [] trivial [] (tm2 := srT ps sf h n 0) (rows2 := [(1, strR ps), (2, noR)]) (ob := []) (td := lp Tryd.f13 0) (by kernel_rfl) trivial rfl rfl (by intro h; cases h) (src_loop hG ps hps hp sf hh hn ρ h1 b ⟨W2, 0⟩ ⟨hS2, Nat.zero_le _⟩)
set_option maxRecDepth 100000 in
theorem source_nil (pa : Option Addr) (ca : Nat) (sf : Bool) (h n : List UInt8) (hh : h.length ≤ 1000000000) (hn : n.length ≤ 1000000000) (W : World) (hG : S3.Glob W) :
    Calls Tryd.prog 13 #[.slice pa 0 ca, .bool sf, stv h, stv n] W (SrcOut W (makeR (kindL [] sf) h n)) := by
  refine At.calls (args := [.v (.slice pa 0 ca), .v (.bool sf), .v (stv h), .v (stv n)]) (rows := []) (gl := []) (wr := []) (ρ := fun _ => (⟨0, 0, 0⟩ : Blk)) Tryd.func13 rfl rfl (init_rw ⟨rfl, rfl, rfl, rfl, trivial⟩ rfl rfl rfl (fun p hp => by cases hp) (fun p hp => by cases hp) (fun p hp => by cases hp)) rfl ?_
  have hk : HintOk Tryd.prog 2001 (pc 31 #[.slice pa 0 ca] (.v (.bool true))) := pc_ok ent31 (v := .bool true) rfl (fun _ => rfl) fun w => rise_nil pa ca w
  refine At.run rfl [(2001, pc 31 #[.slice pa 0 ca] (.v (.bool true)))] ⟨hk, trivial⟩ [] (tm2 := [(15, .v (.bool false)), (0, .v (.slice pa 0 ca)), (1, .v (.bool sf)), (2, .v (stv h)), (3, .v (stv n))]) (rows2 := []) (ob := qL (pc 31 #[.slice pa 0 ca] (.v (.bool true)))) (td := flatI 3 (rp Tryd.f13 1).tail) (by kernel_rfl) (all_qL _) rfl rfl (by intro h; cases h) ?_
  refine E.At.test false (by kernel_rfl) (by kernel_rfl) (td := rp Tryd.f13 3) (by kernel_rfl) ?_
  have hR : RwOk W ⟨0, 0, 0⟩ [(2, noR)] := rwOk_one W _
  refine E.At.reg rfl (mid_made (ρ0 := fun _ => (⟨0, 0, 0⟩ : Blk)) [(0, .v (.slice pa 0 ca)), (1, .v (.bool sf)), (2, .v (stv h)), (3, .v (stv n))] hR ⟨⟨rfl, rfl, rfl⟩, ⟨rfl, rfl, rfl⟩, ⟨rfl, rfl, rfl⟩, ⟨rfl, rfl, rfl⟩, trivial⟩ rfl fun W1 b hS1 => E.Mid.out (by kernel_rfl) (E.At.flat (td := rp Tryd.f13 4) (by kernel_rfl) ?_))
  refine E.At.reg rfl (mid_write (d := 16) [(10, ptrTo 2), (0, .v (.slice pa 0 ca)), (1, .v (.bool sf)), (2, .v (stv h)), (3, .v (stv n))] srcL hS1 hR (by decide) (by kernel_rfl) (by kernel_rfl) (by decide) ⟨⟨rfl, rfl, rfl⟩, ⟨rfl, rfl, rfl⟩, ⟨rfl, rfl, rfl⟩, ⟨rfl, rfl, rfl⟩, ⟨rfl, rfl, rfl⟩, trivial⟩ rfl fun W2 hS2 => E.Mid.out (by kernel_rfl) ?_)
  cases sf with
  | true => exact At.run rfl [] trivial [.u, .d, .d] (tm2 := [(2, .v (stv h)), (3, .v (stv n)), (10, ptrTo 2)]) (rows2 := [(2, noR)]) (ob := []) (td := rp Tryd.f13 12) (by kernel_rfl) trivial rfl rfl (by intro h; cases h) (src_self hG hS2 (by decide) hh hn)
  | false => exact At.run rfl [] trivial [.u, .d, .d] (tm2 := [(2, .v (stv h)), (3, .v (stv n)), (10, ptrTo 2)]) (rows2 := [(2, noR)]) (ob := []) (td := rp Tryd.f13 13) (by kernel_rfl) trivial rfl rfl (by intro h; cases h) (src_end hG hS2 (by decide) hh hn)
end
end Go.Proofs.YtdbbcngolcnniaaDoor
/- PathKinds' law: the kind of a source names its refs, in order, and itself: it is Make of that. Its conditions: lengths that fit; the tables of sha as its text lays them. -/
namespace Go.Proofs.YtdbbcngolcnniaaDoor
open Go Go.RowKit
set_option linter.unusedVariables false
set_option linter.unusedSimpArgs false
section
open E
def minL (u v : List UInt8) : List UInt8 := if u < v ∨ u = v then u else v
def maxL (u v : List UInt8) : List UInt8 := if u < v then v else u
theorem minL_or (u v : List UInt8) : minL u v = u ∨ minL u v = v := by unfold minL; split <;> simp
theorem maxL_or (u v : List UInt8) : maxL u v = u ∨ maxL u v = v := by unfold maxL; split <;> simp
theorem run_minL (P : Program) (w : World) (a : Act) (o : Oper) (c : Call) (u v : List UInt8) (hop : o.op = .call c) (hcal : c.callee = .builtin .min) (h1 : c.args.map a.eval = #[stv u, stv v]) : (execOp a.eval o).run P w = .ok (.value (stv (minL u v))) w := by
  have h := Lib.run_min_strs (P := P) w c.argTypes o.type ⟨u.toArray⟩ ⟨v.toArray⟩
  have e : Lib.minS ⟨u.toArray⟩ ⟨v.toArray⟩ = ⟨(minL u v).toArray⟩ := by
    unfold Lib.minS minL
    simp only
    split <;> rfl
  rw [e] at h
  simp only [execOp, hop, resolve, hcal, Sem.run_bind, Sem.run_pure, Result.andThen_ok, invoke, builtin, h1]
  simp only [h, Result.andThen_ok, Sem.run_pure]
theorem run_maxL (P : Program) (w : World) (a : Act) (o : Oper) (c : Call) (u v : List UInt8) (hop : o.op = .call c) (hcal : c.callee = .builtin .max) (h1 : c.args.map a.eval = #[stv u, stv v]) : (execOp a.eval o).run P w = .ok (.value (stv (maxL u v))) w := by
  have h := Lib.run_max_strs (P := P) w c.argTypes o.type ⟨u.toArray⟩ ⟨v.toArray⟩
  have e : Lib.maxS ⟨u.toArray⟩ ⟨v.toArray⟩ = ⟨(maxL u v).toArray⟩ := by
    unfold Lib.maxS maxL
    simp only
    split <;> rfl
  rw [e] at h
  simp only [execOp, hop, resolve, hcal, Sem.run_bind, Sem.run_pure, Result.andThen_ok, invoke, builtin, h1]
  simp only [h, Result.andThen_ok, Sem.run_pure]
theorem leS_eq (x y : List UInt8) : leS x y = (decide (x < y) || x == y) := by
  unfold leS
  rw [Proofs.bytesLess_eq]; rfl
theorem rise_mm {u v : List UInt8} (hu : (parseR u).isSome = true) (hv : (parseR v).isSome = true) : riseL [minL u v, maxL u v] = !(minL u v == maxL u v) := by
  have h1 : (parseR (minL u v)).isSome = true := by rcases minL_or u v with h | h <;> rw [h] <;> assumption
  have h2 : (parseR (maxL u v)).isSome = true := by rcases maxL_or u v with h | h <;> rw [h] <;> assumption
  have h3 : ¬ maxL u v < minL u v := by
    unfold minL maxL
    by_cases h : u < v
    · rw [if_pos h, if_pos (.inl h)]
      exact List.lt_asymm h
    · rw [if_neg h]
      by_cases he : u = v
      · rw [if_pos (.inr he)]
        exact List.lt_irrefl _
      · rw [if_neg (fun h' => h'.elim h he)]
        exact h
  have h4 : leS (maxL u v) (minL u v) = (minL u v == maxL u v) := by
    rw [leS_eq, decide_eq_false h3, Bool.false_or, Bool.eq_iff_iff, beq_iff_eq, beq_iff_eq]
    exact ⟨Eq.symm, Eq.symm⟩
  show (okAt _ 0 && (okAt _ 1 && true)) = _
  unfold okAt
  show ((parseR (minL u v)).isSome && (decide (0 = 0) || _) && ((parseR (maxL u v)).isSome && (decide (1 = 0) || !leS (maxL u v) (minL u v)) && true)) = _
  rw [h1, h2, h4]
  simp
/-- A row of two texts, made. -/
abbrev rwB (p q : List UInt8) : Row := ⟨[.fnc (chunkF [stv p, stv q] 1 2) 1 2], true, some (9, 1)⟩
theorem rwB_str {ρ : Env} {r : Nat} {p q : List UInt8} {w : World} (h : RowAt ρ r (rwB p q) w) : RowAt (fun _ => ρ r) 1 (strR [p, q]) w := by
  have hl : lst (fun _ => ρ r) (strR [p, q]).ps = lst ρ (rwB p q).ps := rfl
  unfold RowAt at h ⊢
  exact ⟨h.1, fun j v hv => ⟨(h.2.1 j v (by rw [← hl]; exact hv)).1, fun h => by cases h⟩, (fun e k he => by cases he), h.2.2.2⟩
abbrev hSo (p q : List UInt8) (sf : Bool) (s n : List UInt8) (o : Option (List UInt8)) : Hint := .callW ⟨13, fun ρ => #[(TV.s (.lf (.sl 8002 0 0 1 2 none))).val ρ, .bool sf, stv s, stv n], makeV o, [(8002, rwB p q)], [], none, []⟩
theorem makeV_ok (o : Option (List UInt8)) : (makeV o).ok := by
  cases o <;> exact tup2_ok _ _ rfl rfl
theorem hSo_ok {w0 : World} {wr : Bs} (id : Nat) (p q : List UInt8) (hp : p.length ≤ 1000) (hq : q.length ≤ 1000) (sf : Bool) (s n : List UInt8) (hs : s.length ≤ 1000000000) (hn : n.length ≤ 1000000000) (hG : S3.Glob w0) (h0 : 0 ∉ wr.l) (h1 : 1 ∉ wr.l) {o : Option (List UInt8)} (ho : sourceR [p, q] sf s n = o) : HintAt Tryd.prog w0 wr id (hSo p q sf s n o) := fun w ρ hk hf he => by
  subst ho
  refine callAt_ok ent13 (makeV_ok _) (fun p hp => by cases hp) ρ w fun hpre => ?_
  have hr := rwB_str (hpre (8002, rwB p q) (List.mem_singleton.2 rfl))
  have hc := source_pos [p, q] (by show 2 ≤ _; decide) (fun x hx => by
    simp only [List.mem_cons, List.not_mem_nil, or_false] at hx
    rcases hx with rfl | rfl <;> assumption) sf s n hs hn w (glob_keep hG hf h0 h1) (fun _ => ρ 8002) hr
  refine Calls.mono hc ?_
  rintro e w' ⟨rfl, hF⟩
  refine ⟨⟨0, 0, 0⟩, ?_, hF, (fun p hp => by cases hp), fun row hrw => by cases hrw⟩
  cases sourceR [p, q] sf s n <;> rfl
abbrev hSn (s n : List UInt8) (o : Option (List UInt8)) : Hint := pcW 13 #[.slice none 0 0, .bool false, stv s, stv n] (makeV o)
theorem hSn_ok {w0 : World} {wr : Bs} (id : Nat) (s n : List UInt8) (hs : s.length ≤ 1000000000) (hn : n.length ≤ 1000000000) (hG : S3.Glob w0) (h0 : 0 ∉ wr.l) (h1 : 1 ∉ wr.l) {o : Option (List UInt8)} (ho : makeR srcL s n = o) : HintAt Tryd.prog w0 wr id (hSn s n o) := by
  subst ho
  refine pcW_ok ent13 (v := makeW (makeR srcL s n)) (makeV_ok _) (fun _ => ?_) fun w hf => source_nil none 0 false s n hs hn w (glob_keep hG hf h0 h1)
  cases makeR srcL s n <;> rfl
theorem make_yes {k s n : List UInt8} (hs : s.length = 32) (hn : nmP n = true) : makeR k s n = some (makeL k s n) := by
  unfold makeR
  rw [hn, decide_eq_true hs]; rfl
set_option maxRecDepth 100000 in
theorem kinds_end (W0 W : World) (hf0 : Fr W0 [] W) (hG : S3.Glob W) (sf : Bool) (h p q n k : List UInt8) (hh : h.length ≤ 9223372036854775807) (hp : p.length ≤ 60) (hq : q.length ≤ 60) (hn1 : n.length ≤ 7) (hn : nmP n = true) (hr : riseL [p, q] = !(p == q)) (hk : kindL [p, q] sf = k) :
    At Tryd.prog W nB Tryd.f7.ntmps [] (rp Tryd.f7 6) (EndX Tryd.prog Tryd.f7 (FrG W0)) [(3, .v (stv h)), (4, .v (.bool sf)), (11, .v (stv p)), (12, .v (stv q)), (13, .v (stv n)), (14, .v (stv k))] [] := by
  have hkl : k.length ≤ 300 := by
    rw [← hk]
    have := acc_len (ps := [p, q]) (fun x hx => by
      simp only [List.mem_cons, List.not_mem_nil, or_false] at hx
      rcases hx with rfl | rfl <;> omega) 2 (by show 2 ≤ 2; decide)
    unfold kindL accL
    simp only [List.length_append, List.length_cons, List.length_nil, List.take, List.map, List.flatten]
    split <;> simp <;> omega
  have kS : ∀ id, HintOk Tryd.prog id (pc 17 #[stv h] (.v (stv (seedL h)))) := fun id => hSe_ok id h hh
  have hsl := seedL_len h
  generalize seedL h = s at kS hsl
  have m1 := make_yes (k := k) hsl hn
  have m2 := make_yes (k := srcL) hsl hn
  generalize makeL k s n = x at m1
  generalize makeL srcL s n = z at m2
  have g1 := hMk_ok (w0 := W) (wr := nB) 7004 k s n (some x) (by omega) (by omega) (by omega) hG (by simp) (by simp) m1
  have g2 := hMk_ok (w0 := W) (wr := nB) 9003 srcL s n (some z) (by decide) (by omega) (by omega) hG (by simp) (by simp) m2
  have g3 := hSn_ok (w0 := W) (wr := nB) 10003 s n (by omega) (by omega) hG (by simp) (by simp) m2
  have hzz : TV.v (.bool (z == z)) = TV.v (.bool true) := tv_b (by simp)
  cases hpq : p == q with
  | false =>
    have ho : sourceR [p, q] sf s n = some x := by unfold sourceR; rw [hr, hpq, hk, m1]; rfl
    have g4 := hSo_ok (w0 := W) (wr := nB) 8007 p q (by omega) (by omega) sf s n (by omega) (by omega) hG (by simp) (by simp) ho
    exact At.fin rfl [(7002, pc 17 #[stv h] (.v (stv s))), (7004, hMk k s n (some x)), (8005, pc 17 #[stv h] (.v (stv s))), (8007, hSo p q sf s n (some x)), (9001, pc 17 #[stv h] (.v (stv s))), (9003, hMk srcL s n (some z)), (10001, pc 17 #[stv h] (.v (stv s))), (10003, hSn s n (some z)), (11029, hAw), (2011005, .val (.v (.bool true))), (2011006, .val (.v (.bool true))), (2011014, .val (.v (.bool true))), (2011026, .val (.v (.bool true)))] ⟨hintAt (kS _), g1, hintAt (kS _), g4, hintAt (kS _), g2, hintAt (kS _), g3, hAw_ok _ hG (by simp) (by simp), trivial, trivial, trivial, trivial, trivial⟩ [] (x := .v (.bool true))
      (ob := [qL (pc 17 #[stv h] (.v (stv s))), qL (hMk k s n (some x)), qL (pc 17 #[stv h] (.v (stv s))), qL (hSo p q sf s n (some x)), qL (pc 17 #[stv h] (.v (stv s))), qL (hMk srcL s n (some z)), qL (pc 17 #[stv h] (.v (stv s))), qL (hSn s n (some z)), [TV.v (.bool (!(p == q))) = TV.v (.bool true), TV.v (.bool true) = TV.v (.bool true), TV.v (.bool (x == x)) = TV.v (.bool true), TV.v (.bool (z == z)) = TV.v (.bool true)], qL hAw].flatten) (by kernel_rfl)
      (all_flat ⟨all_qL _, all_qL _, all_qL _, all_qL _, all_qL _, all_qL _, all_qL _, all_qL _, ⟨tv_b (by rw [hpq]; rfl), rfl, tv_b (by simp), hzz, trivial⟩, all_qL _, trivial⟩) fun ρ' w' hf _ => ⟨rfl, hf0.comp hf fun y hy => by cases hy⟩
  | true =>
    have ho : sourceR [p, q] sf s n = none := by unfold sourceR; rw [hr, hpq]; rfl
    have g4 := hSo_ok (w0 := W) (wr := nB) 8007 p q (by omega) (by omega) sf s n (by omega) (by omega) hG (by simp) (by simp) ho
    exact At.fin rfl [(7002, pc 17 #[stv h] (.v (stv s))), (7004, hMk k s n (some x)), (8005, pc 17 #[stv h] (.v (stv s))), (8007, hSo p q sf s n none), (9001, pc 17 #[stv h] (.v (stv s))), (9003, hMk srcL s n (some z)), (10001, pc 17 #[stv h] (.v (stv s))), (10003, hSn s n (some z)), (11029, hAw), (2011005, .val (.v (.bool false))), (2011006, .val (.v (.bool true))), (2011026, .val (.v (.bool true)))] ⟨hintAt (kS _), g1, hintAt (kS _), g4, hintAt (kS _), g2, hintAt (kS _), g3, hAw_ok _ hG (by simp) (by simp), trivial, trivial, trivial, trivial⟩ [] (x := .v (.bool true))
      (ob := [qL (pc 17 #[stv h] (.v (stv s))), qL (hMk k s n (some x)), qL (pc 17 #[stv h] (.v (stv s))), qL (hSo p q sf s n none), qL (pc 17 #[stv h] (.v (stv s))), qL (hMk srcL s n (some z)), qL (pc 17 #[stv h] (.v (stv s))), qL (hSn s n (some z)), [TV.v (.bool (!(p == q))) = TV.v (.bool false), TV.v (.bool true) = TV.v (.bool true), TV.v (.bool (z == z)) = TV.v (.bool true)], qL hAw].flatten) (by kernel_rfl)
      (all_flat ⟨all_qL _, all_qL _, all_qL _, all_qL _, all_qL _, all_qL _, all_qL _, all_qL _, ⟨tv_b (by rw [hpq]; rfl), rfl, hzz, trivial⟩, all_qL _, trivial⟩) fun ρ' w' hf _ => ⟨rfl, hf0.comp hf fun y hy => by cases hy⟩
end
end Go.Proofs.YtdbbcngolcnniaaDoor
/- PathKinds' law, whole. Its conditions: lengths that fit; the tables of sha as its text lays them. -/
namespace Go.Proofs.YtdbbcngolcnniaaDoor
open Go Go.RowKit
set_option linter.unusedVariables false
set_option linter.unusedSimpArgs false
section
open E
abbrev kiT (m : Nat) (h p q : List UInt8) (sf : Bool) : List (Nat × TV) := [(2, .int .u8 (m : Int)), (3, .v (stv h)), (4, .v (.bool sf)), (11, .v (stv p)), (12, .v (stv q))]
abbrev sr2 : List UInt8 := [115, 111, 117, 114, 99, 101, 58]
theorem kind_two (p q : List UInt8) (sf : Bool) : kindL [p, q] sf = sr2 ++ p ++ [58] ++ q ++ (if sf then selfL else []) := by
  unfold kindL accL
  simp
set_option maxRecDepth 100000 in
theorem kinds_mid (W0 W : World) (hf0 : Fr W0 [] W) (hG : S3.Glob W) (sf : Bool) (h p q n : List UInt8) (hh : h.length ≤ 9223372036854775807) (hp : p.length ≤ 60) (hq : q.length ≤ 60) (hn1 : n.length ≤ 7) (hn : nmP n = true) (hr : riseL [p, q] = !(p == q)) (k0 : List UInt8) (hk0 : sr2 ++ p ++ [58] ++ q = k0) :
    At Tryd.prog W nB Tryd.f7.ntmps [] (flatI 3 (rp Tryd.f7 4).tail) (EndX Tryd.prog Tryd.f7 (FrG W0)) [(3, .v (stv h)), (4, .v (.bool sf)), (11, .v (stv p)), (12, .v (stv q)), (13, .v (stv n)), (14, .v (stv k0)), (43, .v (.bool sf))] [] := by
  have hk := kind_two p q sf
  rw [hk0] at hk
  have hl : k0.length ≤ 200 := by rw [← hk0]; simp only [List.length_append, List.length_cons, List.length_nil]; omega
  cases sf with
  | true =>
    obtain ⟨k, hkk⟩ : ∃ k, k = k0 ++ selfL := ⟨_, rfl⟩
    have hk2 : kindL [p, q] true = k := by rw [hk, hkk]; rfl
    exact At.run rfl [(2006001, .val (.v (stv k))), (7002, .val (.tup []))] ⟨trivial, trivial, trivial⟩ [.d] (tm2 := [(3, .v (stv h)), (4, .v (.bool true)), (11, .v (stv p)), (12, .v (stv q)), (13, .v (stv n)), (14, .v (stv k))]) (rows2 := []) (ob := [TV.v (stv (k0 ++ selfL)) = TV.v (stv k), (k0.length : Int) + ((5 : Nat) : Int) ≤ 9223372036854775807]) (td := rp Tryd.f7 6) (by kernel_rfl) ⟨tv_str hkk.symm, by omega, trivial⟩ rfl rfl (by intro h; cases h) (kinds_end W0 W hf0 hG true h p q n k hh hp hq hn1 hn hr hk2)
  | false =>
    have hk2 : kindL [p, q] false = k0 := by rw [hk]; simp
    exact At.run rfl [(7002, .val (.tup []))] ⟨trivial, trivial⟩ [.d] (tm2 := [(3, .v (stv h)), (4, .v (.bool false)), (11, .v (stv p)), (12, .v (stv q)), (13, .v (stv n)), (14, .v (stv k0))]) (rows2 := []) (ob := []) (td := rp Tryd.f7 6) (by kernel_rfl) trivial rfl rfl (by intro h; cases h) (kinds_end W0 W hf0 hG false h p q n k0 hh hp hq hn1 hn hr hk2)
set_option maxRecDepth 100000 in
theorem kinds_two (W0 W : World) (hf0 : Fr W0 [] W) (hG : S3.Glob W) (sf : Bool) (m : Nat) (h p q : List UInt8) (hh : h.length ≤ 9223372036854775807) (hp : p.length ≤ 60) (hq : q.length ≤ 60) (hr : riseL [p, q] = !(p == q)) :
    At Tryd.prog W nB Tryd.f7.ntmps [] (rp Tryd.f7 2) (EndX Tryd.prog Tryd.f7 (FrG W0)) (kiT m h p q sf) [] := by
  obtain ⟨k0, hk0⟩ : ∃ k0, k0 = sr2 ++ p ++ [58] ++ q := ⟨_, rfl⟩
  have hkv : TV.v (stv (sr2 ++ p ++ [58] ++ q)) = TV.v (stv k0) := tv_str hk0.symm
  have l1 : ((7 : Nat) : Int) + (p.length : Int) ≤ 9223372036854775807 := by omega
  have l2 : ((sr2 ++ p).length : Int) + ((1 : Nat) : Int) ≤ 9223372036854775807 := by simp only [List.length_append, List.length_cons, List.length_nil]; omega
  have l3 : ((sr2 ++ p ++ [58]).length : Int) + (q.length : Int) ≤ 9223372036854775807 := by simp only [List.length_append, List.length_cons, List.length_nil]; omega
  by_cases e0 : m % 3 = 0
  · exact At.run rfl [(2003002, .val (.int .u8 0)), (2004004, .val (.v (stv k0)))] ⟨trivial, trivial, trivial⟩ [] (tm2 := [(3, .v (stv h)), (4, .v (.bool sf)), (11, .v (stv p)), (12, .v (stv q)), (13, .v (stv [97])), (14, .v (stv k0)), (43, .v (.bool sf))]) (rows2 := []) (ob := [TV.int .u8 ((m : Int) % 3) = TV.int .u8 0, 0 ≤ (m : Int) ∧ (0 : Int) < 3, 0 ≤ (0 : Int) ∧ (0 : Int) < ((3 : Nat) : Int), 0 < 3, ((7 : Nat) : Int) + (p.length : Int) ≤ 9223372036854775807, ((sr2 ++ p).length : Int) + ((1 : Nat) : Int) ≤ 9223372036854775807, TV.v (stv (sr2 ++ p ++ [58] ++ q)) = TV.v (stv k0), ((sr2 ++ p ++ [58]).length : Int) + (q.length : Int) ≤ 9223372036854775807]) (td := flatI 3 (rp Tryd.f7 4).tail) (by kernel_rfl) ⟨tv_int (by omega), ⟨by omega, by decide⟩, ⟨by decide, by decide⟩, by decide, l1, l2, hkv, l3, trivial⟩ rfl rfl (by intro h; cases h) (kinds_mid W0 W hf0 hG sf h p q [97] hh hp hq (by decide) (by decide +kernel) hr k0 hk0.symm)
  by_cases e1 : m % 3 = 1
  · exact At.run rfl [(2003002, .val (.int .u8 1)), (2004004, .val (.v (stv k0)))] ⟨trivial, trivial, trivial⟩ [] (tm2 := [(3, .v (stv h)), (4, .v (.bool sf)), (11, .v (stv p)), (12, .v (stv q)), (13, .v (stv [98])), (14, .v (stv k0)), (43, .v (.bool sf))]) (rows2 := []) (ob := [TV.int .u8 ((m : Int) % 3) = TV.int .u8 1, 0 ≤ (m : Int) ∧ (0 : Int) < 3, 0 ≤ (1 : Int) ∧ (1 : Int) < ((3 : Nat) : Int), 1 < 3, ((7 : Nat) : Int) + (p.length : Int) ≤ 9223372036854775807, ((sr2 ++ p).length : Int) + ((1 : Nat) : Int) ≤ 9223372036854775807, TV.v (stv (sr2 ++ p ++ [58] ++ q)) = TV.v (stv k0), ((sr2 ++ p ++ [58]).length : Int) + (q.length : Int) ≤ 9223372036854775807]) (td := flatI 3 (rp Tryd.f7 4).tail) (by kernel_rfl) ⟨tv_int (by omega), ⟨by omega, by decide⟩, ⟨by decide, by decide⟩, by decide, l1, l2, hkv, l3, trivial⟩ rfl rfl (by intro h; cases h) (kinds_mid W0 W hf0 hG sf h p q [98] hh hp hq (by decide) (by decide +kernel) hr k0 hk0.symm)
  have e2 : m % 3 = 2 := by omega
  exact At.run rfl [(2003002, .val (.int .u8 2)), (2004004, .val (.v (stv k0)))] ⟨trivial, trivial, trivial⟩ [] (tm2 := [(3, .v (stv h)), (4, .v (.bool sf)), (11, .v (stv p)), (12, .v (stv q)), (13, .v (stv [108, 105, 98, 45, 49, 46, 48])), (14, .v (stv k0)), (43, .v (.bool sf))]) (rows2 := []) (ob := [TV.int .u8 ((m : Int) % 3) = TV.int .u8 2, 0 ≤ (m : Int) ∧ (0 : Int) < 3, 0 ≤ (2 : Int) ∧ (2 : Int) < ((3 : Nat) : Int), 2 < 3, ((7 : Nat) : Int) + (p.length : Int) ≤ 9223372036854775807, ((sr2 ++ p).length : Int) + ((1 : Nat) : Int) ≤ 9223372036854775807, TV.v (stv (sr2 ++ p ++ [58] ++ q)) = TV.v (stv k0), ((sr2 ++ p ++ [58]).length : Int) + (q.length : Int) ≤ 9223372036854775807]) (td := flatI 3 (rp Tryd.f7 4).tail) (by kernel_rfl) ⟨tv_int (by omega), ⟨by omega, by decide⟩, ⟨by decide, by decide⟩, by decide, l1, l2, hkv, l3, trivial⟩ rfl rfl (by intro h; cases h) (kinds_mid W0 W hf0 hG sf h p q [108, 105, 98, 45, 49, 46, 48] hh hp hq (by decide) (by decide +kernel) hr k0 hk0.symm)
abbrev k1T (a b m : Nat) (h : List UInt8) (sf : Bool) : List (Nat × TV) := [(0, .int .u8 (a : Int)), (1, .int .u8 (b : Int)), (2, .int .u8 (m : Int)), (3, .v (stv h)), (4, .v (.bool sf))]
theorem two_args {a : Act} {x y : Value} {c : Call} {s t : Nat} (hc : c.args = #[.tmp s, .tmp t]) (hx : a.eval (.tmp s) = x) (hy : a.eval (.tmp t) = y) : c.args.map a.eval = #[x, y] := by
  rw [hc]
  simp [hx, hy]
set_option maxRecDepth 100000 in
theorem kinds_any (a b m : Nat) (h : List UInt8) (sf : Bool) (ha : a < 256) (hb : b < 256) (hm : m < 256) (hh : h.length ≤ 9223372036854775807) (W : World) (hG : S3.Glob W) : Calls Tryd.prog 7 #[.int .u8 (a : Int), .int .u8 (b : Int), .int .u8 (m : Int), stv h, .bool sf] W (FrG W) := by
  refine At.calls (args := [.int .u8 (a : Int), .int .u8 (b : Int), .int .u8 (m : Int), .v (stv h), .v (.bool sf)]) (rows := []) (gl := []) (wr := []) (ρ := fun _ => (⟨0, 0, 0⟩ : Blk)) Tryd.func7 rfl rfl (init_rw ⟨rfl, rfl, rfl, rfl, rfl, trivial⟩ rfl rfl rfl (fun p hp => by cases hp) (fun p hp => by cases hp) (fun p hp => by cases hp)) rfl ?_
  have k1 : ∀ id, HintOk Tryd.prog id (pc 18 #[.int .u8 (a : Int), .int .u8 0] (.v (stv (pathL a 0)))) := fun id => hPh_ok id a 0 ha (by decide)
  have k2 : ∀ id, HintOk Tryd.prog id (pc 18 #[.int .u8 (b : Int), .int .u8 1] (.v (stv (pathL b 1)))) := fun id => hPh_ok id b 1 hb (by decide)
  have pu := path_parse a 0
  have pv := path_parse b 1
  have lu := path_len a 0
  have lv := path_len b 1
  generalize pathL a 0 = u at k1 pu lu
  generalize pathL b 1 = v at k2 pv lv
  have hr := rise_mm (u := u) (v := v) (by rw [pu]; rfl) (by rw [pv]; rfl)
  have hpl : (minL u v).length ≤ 60 := by rcases minL_or u v with e | e <;> rw [e] <;> assumption
  have hql : (maxL u v).length ≤ 60 := by rcases maxL_or u v with e | e <;> rw [e] <;> assumption
  have hru := run_minL Tryd.prog (u := u) (v := v)
  have hrv := run_maxL Tryd.prog (u := u) (v := v)
  generalize minL u v = p at hr hpl hru
  generalize maxL u v = q at hr hql hrv
  refine At.run rfl [(2002004, .val (.tup [])), (2002, .val (.tup []))] ⟨trivial, trivial, trivial⟩ [] (tm2 := k1T a b m h sf) (rows2 := []) (ob := []) (td := rp Tryd.f7 1) (by kernel_rfl) trivial rfl rfl (by intro h; cases h) ?_
  refine E.At.reg rfl (E.Mid.run 4 [(2001, pc 18 #[.int .u8 (a : Int), .int .u8 0] (.v (stv u))), (2003, pc 18 #[.int .u8 (b : Int), .int .u8 1] (.v (stv v)))] ⟨hintAt (k1 _), hintAt (k2 _), trivial⟩ (tm2 := k1T a b m h sf ++ [(24, .v (stv u)), (26, .v (stv v))]) (rows2 := []) (ob := [qL (pc 18 #[.int .u8 (a : Int), .int .u8 0] (.v (stv u))), qL (pc 18 #[.int .u8 (b : Int), .int .u8 1] (.v (stv v)))].flatten) (by kernel_rfl) (all_flat ⟨all_qL _, all_qL _, trivial⟩) rfl ?_)
  refine E.Mid.op (α := World) (some 27) (fun y => y) (fun _ => nB) (fun _ => k1T a b m h sf ++ [(27, .v (stv p))]) (fun _ => []) (fun y => Fr W [] y) (by kernel_rfl) (fun a' w ρ K QQ hden hk => ?_) fun W1 hf1 => ?_
  · obtain ⟨oo, c, hoo, hop, hcal, hcar, hdst, hgd⟩ : ∃ (oo : Oper) (c : Call), (hdOps (rp Tryd.f7 1))[4]? = some oo ∧ oo.op = .call c ∧ c.callee = .builtin .min ∧ c.args = #[.tmp 24, .tmp 26] ∧ oo.dst = some 27 ∧ oo.guard = none := ⟨(hdOps (rp Tryd.f7 1)).getD 4 default, (match ((hdOps (rp Tryd.f7 1)).getD 4 default).op with | .call c => c | _ => default), by kernel_rfl, by kernel_rfl, by kernel_rfl, by kernel_rfl, by kernel_rfl, by kernel_rfl⟩
    have x1 : a'.eval (.tmp 24) = stv u := (evalO_ok hden (show evalO _ (Operand.tmp 24) = some (TV.v (stv u)) from rfl)).1
    have x2 : a'.eval (.tmp 26) = stv v := (evalO_ok hden (show evalO _ (Operand.tmp 26) = some (TV.v (stv v)) from rfl)).1
    refine E.xOp_ok (o := oo) (d := 27) (v := stv p) (w' := w) rfl hoo hdst hgd (hru w a' oo c hop hcal (two_args hcar x1 x2)) ?_
    refine hk w _ w (fun _ => ⟨0, 0, 0⟩) hden.fr (E.den_again (d := 27) (tm' := k1T a b m h sf ++ [(27, .v (stv p))]) (rows2 := []) (K := []) hden (by decide) (fun p hp => ?_) rfl (fun p hp => by cases hp) (fun p hp => by cases hp) rfl rfl)
    simp only [List.cons_append, List.nil_append, List.mem_cons, List.not_mem_nil, or_false] at hp
    rcases hp with rfl | rfl | rfl | rfl | rfl | rfl
    · exact .inr ⟨(show (0 : Nat) ≠ 27 by decide), rfl, fun r hr => by cases hr⟩
    · exact .inr ⟨(show (1 : Nat) ≠ 27 by decide), rfl, fun r hr => by cases hr⟩
    · exact .inr ⟨(show (2 : Nat) ≠ 27 by decide), rfl, fun r hr => by cases hr⟩
    · exact .inr ⟨(show (3 : Nat) ≠ 27 by decide), rfl, fun r hr => by cases hr⟩
    · exact .inr ⟨(show (4 : Nat) ≠ 27 by decide), rfl, fun r hr => by cases hr⟩
    · exact .inl ⟨rfl, rfl, rfl⟩
  refine E.Mid.run 9 [(2006, pc 18 #[.int .u8 (a : Int), .int .u8 0] (.v (stv u))), (2008, pc 18 #[.int .u8 (b : Int), .int .u8 1] (.v (stv v)))] ⟨hintAt (k1 _), hintAt (k2 _), trivial⟩ (tm2 := k1T a b m h sf ++ [(27, .v (stv p)), (29, .v (stv u)), (31, .v (stv v))]) (rows2 := []) (ob := [qL (pc 18 #[.int .u8 (a : Int), .int .u8 0] (.v (stv u))), qL (pc 18 #[.int .u8 (b : Int), .int .u8 1] (.v (stv v)))].flatten) (by kernel_rfl) (all_flat ⟨all_qL _, all_qL _, trivial⟩) rfl ?_
  refine E.Mid.op (α := World) (some 32) (fun y => y) (fun _ => nB) (fun _ => k1T a b m h sf ++ [(27, .v (stv p)), (32, .v (stv q))]) (fun _ => []) (fun y => Fr W [] y) (by kernel_rfl) (fun a' w ρ K QQ hden hk => ?_) fun W2 hf2 => ?_
  · obtain ⟨oo, c, hoo, hop, hcal, hcar, hdst, hgd⟩ : ∃ (oo : Oper) (c : Call), (hdOps (rp Tryd.f7 1))[9]? = some oo ∧ oo.op = .call c ∧ c.callee = .builtin .max ∧ c.args = #[.tmp 29, .tmp 31] ∧ oo.dst = some 32 ∧ oo.guard = none := ⟨(hdOps (rp Tryd.f7 1)).getD 9 default, (match ((hdOps (rp Tryd.f7 1)).getD 9 default).op with | .call c => c | _ => default), by kernel_rfl, by kernel_rfl, by kernel_rfl, by kernel_rfl, by kernel_rfl, by kernel_rfl⟩
    have x1 : a'.eval (.tmp 29) = stv u := (evalO_ok hden (show evalO _ (Operand.tmp 29) = some (TV.v (stv u)) from rfl)).1
    have x2 : a'.eval (.tmp 31) = stv v := (evalO_ok hden (show evalO _ (Operand.tmp 31) = some (TV.v (stv v)) from rfl)).1
    refine E.xOp_ok (o := oo) (d := 32) (v := stv q) (w' := w) rfl hoo hdst hgd (hrv w a' oo c hop hcal (two_args hcar x1 x2)) ?_
    refine hk w _ w (fun _ => ⟨0, 0, 0⟩) (hf1.comp hden.fr fun y hy => by cases hy) (E.den_again (d := 32) (tm' := k1T a b m h sf ++ [(27, .v (stv p)), (32, .v (stv q))]) (rows2 := []) (K := []) hden (by decide) (fun p hp => ?_) rfl (fun p hp => by cases hp) (fun p hp => by cases hp) rfl rfl)
    simp only [List.cons_append, List.nil_append, List.mem_cons, List.not_mem_nil, or_false] at hp
    rcases hp with rfl | rfl | rfl | rfl | rfl | rfl | rfl
    · exact .inr ⟨(show (0 : Nat) ≠ 32 by decide), rfl, fun r hr => by cases hr⟩
    · exact .inr ⟨(show (1 : Nat) ≠ 32 by decide), rfl, fun r hr => by cases hr⟩
    · exact .inr ⟨(show (2 : Nat) ≠ 32 by decide), rfl, fun r hr => by cases hr⟩
    · exact .inr ⟨(show (3 : Nat) ≠ 32 by decide), rfl, fun r hr => by cases hr⟩
    · exact .inr ⟨(show (4 : Nat) ≠ 32 by decide), rfl, fun r hr => by cases hr⟩
    · exact .inr ⟨(show (27 : Nat) ≠ 32 by decide), rfl, fun r hr => by cases hr⟩
    · exact .inl ⟨rfl, rfl, rfl⟩
  refine E.Mid.run 12 [] trivial (tm2 := kiT m h p q sf) (rows2 := []) (ob := []) (by kernel_rfl) trivial rfl ?_
  exact E.Mid.out (by kernel_rfl) (E.At.flat (td := rp Tryd.f7 2) (by kernel_rfl) (kinds_two W W2 hf2 (glob_keep hG hf2 (by simp) (by simp)) sf m h p q hh hpl hql hr))
theorem kinds_all (W : World) (a b m : Int) (h : ByteArray) (sf : Bool) (ha : 0 ≤ a ∧ a < 256) (hb : 0 ≤ b ∧ b < 256) (hm : 0 ≤ m ∧ m < 256) (hh : h.size ≤ 9223372036854775807) (hG : S3.Glob W) : Calls Tryd.prog 7 #[.int .u8 a, .int .u8 b, .int .u8 m, .string h, .bool sf] W (FrG W) := by
  obtain ⟨a, rfl⟩ := Int.eq_ofNat_of_zero_le ha.1
  obtain ⟨b, rfl⟩ := Int.eq_ofNat_of_zero_le hb.1
  obtain ⟨m, rfl⟩ := Int.eq_ofNat_of_zero_le hm.1
  have := ha.2
  have := hb.2
  have := hm.2
  exact kinds_any a b m h.data.toList sf (by omega) (by omega) (by omega) (by simpa using hh) W hG
end
end Go.Proofs.YtdbbcngolcnniaaDoor
