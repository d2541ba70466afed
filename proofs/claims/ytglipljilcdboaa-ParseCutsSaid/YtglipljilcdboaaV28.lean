/- Several texts, one behind the other; each says by itself what it proves, and on what conditions. -/
import Derived.Test.YtglipljilcdboaaV27
import Derived.Deep.Slices
import Derived.ProofKit
import Derived.OpenShut
import Derived.ChangeOld
import Derived.SizedLaws
import Derived.ChangeSlices
/- The statements: ParseCuts: what it calls. No condition but what each names. -/
namespace Go.Proofs.Ytglipljilcdboaa
open Go.RowKit Go.Shelf
set_option linter.unusedVariables false
set_option linter.unusedSimpArgs false
section
open E
/-- Numbers in memory. -/
def cuf (cs : List Nat) (i : Nat) : Nat := cs.getD i 0
abbrev cutRow (cs : List Nat) : Row := ⟨[.fnc (fun i => [.int .u16 ((cuf cs i : Nat) : Int)]) 1 cs.length], false, none⟩
theorem cutRow_ok (cs : List Nat) : pok (cutRow cs).ps := fun p hp => by
  obtain rfl := List.mem_singleton.1 hp
  exact fun i hi => ⟨rfl, fun v hv => by obtain rfl := List.mem_singleton.1 hv; rfl⟩
abbrev cuA (cs : List Nat) (cc : Nat) : TV := .s (.lf (.sl 2 0 0 1 cs.length (some cc)))
/-- A list as it stands. -/
abbrev fzN (L : List Nd) : Row := ⟨[.fnc (ndc L) 3 L.length], false, some (55, 3)⟩
theorem fzN_ok (L : List Nd) : pok (fzN L).ps := rowN_ok L L.length
theorem fz_row {ρ : Env} {r : Nat} {L : List Nd} {w : World} (h : RowAt ρ r (rowN L L.length) w) : RowAt ρ r (fzN L) w := ⟨h.1, fun j v hv => ⟨(h.2.1 j v hv).1, fun h => by cases h⟩, h.2.2.1, h.2.2.2⟩
theorem fzN_z {ρ : Env} {r : Nat} {L : List Nd} {w : World} (h : RowAt ρ r (fzN L) w) : (ρ r).2 = 0 := (h.2.2.1 55 3 rfl).1
theorem nodes_fz {ρ : Env} {r : Nat} {L : List Nd} {w : World} (h : RowAt ρ r (fzN L) w) : Nodes w (ρ r).1 0 L := by
  have z := fzN_z h
  refine ⟨h.1, fun i hi => ?_⟩
  have hc : ∀ c, c < 3 → w.cell? ⟨(ρ r).1, i * 3 + c, none⟩ = (ndc L i)[c]? := fun c hc => by
    have hg : (lst ρ (fzN L).ps)[i * 3 + c]? = (ndc L i)[c]? := by
      rw [lst_fnc, flat_get (f := ndc L) (k := 3) (by decide) L.length (fun _ _ => rfl) (i * 3 + c) (by omega)]
      rw [show (i * 3 + c) / 3 = i by omega, show (i * 3 + c) % 3 = c by omega]
    have hv : (ndc L i)[c]? = some ((ndc L i).getD c undef) := by
      rw [List.getD_eq_getElem?_getD]
      have : c < (ndc L i).length := hc
      rw [List.getElem?_eq_getElem this]; rfl
    have := (h.2.1 (i * 3 + c) _ (hg.trans hv)).1
    rw [z, Nat.zero_add] at this
    rw [this, hv]
  have e := ndf_at L i hi
  refine ⟨?_, ?_, ?_⟩
  · rw [show 0 + i * 3 = i * 3 + 0 by omega, hc 0 (by decide), ← e]; rfl
  · rw [show 0 + i * 3 + 1 = i * 3 + 1 by omega, hc 1 (by decide), ← e]; rfl
  · rw [show 0 + i * 3 + 2 = i * 3 + 2 by omega, hc 2 (by decide), ← e]; rfl
abbrev hSmZ (r1 r2 : Nat) (L : List Nd) : Hint := pr 14 (fun ρ => #[(TV.s (.lf (slN r1 L.length))).val ρ, (TV.s (.lf (slN r2 L.length))).val ρ]) (.v (.bool true)) [(r1, fzN L), (r2, fzN L)]
theorem hSmZ_ok (id r1 r2 : Nat) (L : List Nd) (hL : L.length ≤ 100000) : HintOk Try.prog id (hSmZ r1 r2 L) := by
  refine pr_ok ent14 (v := .bool true) rfl (fun _ => rfl) fun ρ w h => ?_
  have h1 := h (r1, fzN L) (by simp)
  have h2 := h (r2, fzN L) (by simp)
  have e1 : (TV.s (.lf (slN r1 L.length))).val ρ = slV (ρ r1).1 0 L.length (ρ r1).3 := slN_val rfl (fzN_z h1)
  have e2 : (TV.s (.lf (slN r2 L.length))).val ρ = slV (ρ r2).1 0 L.length (ρ r2).3 := slN_val rfl (fzN_z h2)
  have e3 := same_any _ 0 (ρ r1).3 _ 0 (ρ r2).3 L L (by omega) (by omega) w (nodes_fz h1) (nodes_fz h2)
  rw [show sameL L L = true from (same_iff L L).2 rfl] at e3
  rw [e1, e2]
  exact e3
/-- A reader made: its row. -/
abbrev newR : Row := ⟨(rdP (.v nilS) (.v nilS) (.v nilS) 0 [] false).ps, true, some (74, 6)⟩
abbrev hNw (id : Nat) : Hint := .call ⟨19, fun _ => #[], ptrTo id, [], [], some newR, []⟩
theorem hNw_ok (id : Nat) : HintOk Try.prog id (hNw id) := by
  refine call_ok ent19 trivial (fun p hp => by cases hp) fun ρ w hr => ((callsIn_wide (n := 6)).1 (new_in 6 w)).mono ?_
  rintro e w' ⟨rfl, rfl⟩
  refine ⟨⟨w.heap.size, 0, 1⟩, ?_, fr_alloc _ _, (fun p hp => by cases hp), fun row hrw => ?_⟩
  · show _ = Ending.returned (.pointer (some ⟨(setE ρ id ⟨w.heap.size, 0, 1⟩ id).1, (setE ρ id ⟨w.heap.size, 0, 1⟩ id).2 + (0 + 0 * 0 + 0), none⟩))
    rw [setE_same]
  · cases hrw
    have h0 : RowAt (fun _ => ⟨w.heap.size, 0, 0⟩) 0 (rdP (.v nilS) (.v nilS) (.v nilS) 0 [] false) (w.alloc (.cells #[nilS, .int .i64 0, .string ⟨#[]⟩, nilS, nilS, .bool false] 74)) := row_new6 w _ 74 (rdP (.v nilS) (.v nilS) (.v nilS) 0 [] false).ps rfl
    refine ⟨Nat.le_refl _, ?_, rdP_ok _ _ _ rfl rfl rfl⟩
    unfold RowAt at h0 ⊢
    rw [setE_same]
    refine ⟨h0.1, h0.2.1, fun e k hc => ?_, h0.2.2.2⟩
    cases hc
    exact ⟨rfl, by show 1 ≤ maxLen; unfold maxLen; omega, (by show 6 ≤ 1 * 6; omega), _, Go.heap_alloc_new w _, rfl⟩
theorem new_rd {ρ : Env} {r : Nat} {w : World} (h : RowAt ρ r newR w) : (ρ r).2 = 0 ∧ RdS w (ρ r).1 (some (t0, [])) [] := by
  have z := (h.2.2.1 74 6 rfl).1
  refine ⟨z, good_t0, .inl rfl, nilS, [], [], rfl, .inl ⟨rfl, rfl, rfl⟩, ⟨nilS, nilS, ?_, .inl ⟨rfl, rfl, rfl, rfl⟩, by simp⟩, by simp⟩
  unfold RowAt at h ⊢
  refine ⟨h.1, fun j v hv => ?_, (fun e k hc => by cases hc), h.2.2.2⟩
  have := h.2.1 j v hv
  rw [z] at this
  exact this
set_option maxRecDepth 100000 in
theorem end_none (w : World) : Calls Try.prog 21 #[.pointer none] w fun e w' => e = .returned (.tuple #[nilS, .int .i64 2]) ∧ Below w.heap.size w w' := by
  refine At.calls (args := [.v (.pointer none)]) (rows := []) (gl := []) (wr := []) (ρ := fun _ => (⟨0, 0, 0⟩ : Blk)) Try.func21 rfl rfl (init_rw ⟨rfl, trivial⟩ rfl rfl rfl (fun p hp => by cases hp) (fun p hp => by cases hp) (fun p hp => by cases hp)) rfl ?_
  exact At.fin rfl [] trivial [.y] (x := .tup [.lf (.v nilS), .lf (.v (.int .i64 2))]) (ob := [true = true]) (by kernel_rfl) ⟨rfl, trivial⟩ fun ρ' w' hf _ => ⟨rfl, hf.below⟩
set_option maxRecDepth 100000 in
theorem feed_none (s : List UInt8) (w : World) : Calls Try.prog 20 #[.pointer none, stv s] w fun e w' => e = .returned (.int .i64 2) ∧ Below w.heap.size w w' := by
  refine At.calls (args := [.v (.pointer none), .v (stv s)]) (rows := []) (gl := []) (wr := []) (ρ := fun _ => (⟨0, 0, 0⟩ : Blk)) Try.func20 rfl rfl (init_rw ⟨rfl, rfl, trivial⟩ rfl rfl rfl (fun p hp => by cases hp) (fun p hp => by cases hp) (fun p hp => by cases hp)) rfl ?_
  exact At.fin rfl [] trivial [.y] (x := .v (.int .i64 2)) (ob := [true = true]) (by kernel_rfl) ⟨rfl, trivial⟩ fun ρ' w' hf _ => ⟨rfl, hf.below⟩
abbrev hEn0 : Hint := pr 21 (fun _ => #[.pointer none]) (.tup [.lf (.v nilS), .lf (.v (.int .i64 2))]) []
theorem hEn0_ok (id : Nat) : HintOk Try.prog id hEn0 := pr_ok ent21 (v := .tuple #[nilS, .int .i64 2]) (fun x hx => by simp only [List.mem_cons, List.not_mem_nil, or_false] at hx; rcases hx with rfl | rfl <;> rfl) (fun _ => rfl) fun ρ w _ => end_none w
abbrev hFd0 (s : List UInt8) : Hint := pc 20 #[.pointer none, stv s] (.v (.int .i64 2))
theorem hFd0_ok (id : Nat) (s : List UInt8) : HintOk Try.prog id (hFd0 s) := pc_ok ent20 (v := .int .i64 2) rfl (fun _ => rfl) fun w => feed_none s w
/-- Where a reader's blocks lie. -/
theorem RdS.lt {W : World} {b : Nat} {r : Option (TS × List UInt8)} {D : List Nat} (h : RdS W b r D) : b < W.heap.size := by
  cases r with
  | none => exact (show RowAt (fun _ => ⟨b, 0, 0⟩) 0 wrongR W from h).1
  | some r =>
    obtain ⟨t, bs⟩ := r
    obtain ⟨_, _, vb, E, D', rfl, hby, ⟨vn, vo, h1, hv, hn1⟩, hn⟩ := h
    exact h1.1
theorem RdS.ltD {W : World} {b : Nat} {t : TS} {bs : List UInt8} {D : List Nat} (h : RdS W b (some (t, bs)) D) : ∀ y ∈ D, y < W.heap.size := by
  obtain ⟨_, _, vb, E, D', rfl, hby, ⟨vn, vo, h1, hv, hn1⟩, hn⟩ := h
  intro y hy
  rcases List.mem_append.1 hy with hy | hy
  · exact hby.lt y hy
  · rcases hv with ⟨_, _, _, rfl⟩ | ⟨_, Bn, Bo, _, _, h3, h4, rfl⟩
    · cases hy
    · simp only [List.mem_cons, List.not_mem_nil, or_false] at hy
      rcases hy with rfl | rfl
      · exact h3.1
      · exact h4.1
theorem RdS.frl {W W' : World} {b : Nat} {t : TS} {bs : List UInt8} {D l : List Nat} (h : RdS W b (some (t, bs)) D) (hf : Fr W l W') (hd : ∀ x ∈ b :: D, x ∉ l) : RdS W' b (some (t, bs)) D := by
  obtain ⟨g1, g2, g3⟩ := h
  exact ⟨g1, g2, g3.fr hf hd⟩
theorem may_front {L : List Nd} (h : mayL L = true) {a b : List UInt8} (hab : treeL L = a ++ b) : ∃ t c, runM t0 a = some (t, c) := by
  obtain ⟨t, h1, _⟩ := may_runs h
  rw [hab, runM_app] at h1
  cases hr : runM t0 a with
  | none => rw [hr] at h1; cases h1
  | some y => exact ⟨y.1, y.2, rfl⟩
/-- What stands begun of a reader that was fed little. -/
abbrev noT : List UInt8 := [110, 111]
theorem no_run : runM t0 noT = some (t0, noT) := by kernel_rfl
end
end Go.Proofs.Ytglipljilcdboaa
/- Slices of texts, as they came in, opened: each text's length is among the weights. No condition. -/
namespace Go.Proofs.Ytglipljilcdboaa
set_option linter.unusedSimpArgs false
open Go.Deep Go.ChangeShapes Go.WideShapes Go.ChangeAt Go.RowKit
set_option linter.unusedVariables false
theorem addr_add0 {g o i : Nat} : (⟨g, o, none⟩ : Addr).add i = ⟨g, o + i, none⟩ := by unfold Addr.add; split <;> simp_all
theorem in_weights {H : Type} {P : Program} {e : TypeId} : ∀ {l : List (DataW H)} {d : DataW H}, d ∈ l → ∀ n ∈ d.weights P e, n ∈ DataW.weightsAll P e l
  | [], d, h, n, hn => by cases h
  | x :: l, d, h, n, hn => by
    rw [DataW.weightsAll]
    rcases List.mem_cons.1 h with rfl | h
    · exact List.mem_append.2 (.inl hn)
    · exact List.mem_append.2 (.inr (in_weights h n hn))
set_option maxRecDepth 100000 in
theorem texts_open {H : Type} {enc : TypeId × Value → H} {W : World} {fuel : Nat} {cs : List Value} {x : DataW H × List MemPlace} (h : DataW.trod enc Try.prog W 0 (fun _ => true) true fuel 34 cs = some x) :
    ∃ pa len ca l, cs = [.slice pa len ca] ∧ TxtV W (.slice pa len ca) l ∧ len ≤ ca ∧ ca ≤ 9223372036854775807 ∧ l.length = len ∧ ∀ c ∈ l, c.length ∈ x.1.weights Try.prog 34 := by
  rcases open_slice1 Try.underlying34 (by kernel_rfl) h with ⟨rfl, -⟩ | ⟨a, len, cap, m, fu, V, D, Pl, rfl, -, hl, hm, hmm, hx, hel⟩
  · exact ⟨none, 0, 0, [], rfl, ⟨by simp, none, 0, rfl, fun h => absurd h (Nat.lt_irrefl _)⟩, by omega, by omega, rfl, fun c hc => by cases hc⟩
  · have hlm : len ≤ m := by rw [hmm]; split <;> omega
    unfold maxLen at hm
    obtain ⟨g, off, spot⟩ := a
    have hsp : 0 < len → spot = none := fun h0 => by
      have := World.cell?_spot (hel 0 (by omega)).1
      simpa [Addr.add] using this
    have each : ∀ i, i < len → ∃ s : List UInt8, W.cell? ⟨g, off + i, none⟩ = some (strV s) ∧ D i = .lit (.string s) ∧ s.length ≤ 9223372036854775807 := by
      intro i hi
      obtain rfl := hsp (by omega)
      obtain ⟨h1, h2⟩ := hel i (by omega)
      obtain ⟨s0, e0, e1, o0⟩ := DataW.trod_string Try.underlying9 h2
      simp only [List.cons.injEq, and_true] at e0
      rw [e0, addr_add0] at h1
      unfold maxLen at o0
      exact ⟨s0.data.toList, h1, congrArg Prod.fst e1, by rw [Array.length_toList]; show s0.size ≤ _; omega⟩
    obtain ⟨A, hA⟩ := choose_lt each
    have hlen : ((List.range len).map A).length = len := by simp
    refine ⟨some ⟨g, off, spot⟩, len, cap, (List.range len).map A, rfl, ⟨by rw [hlen]; omega, _, cap, by rw [hlen], fun h0 => ?_⟩, hl, by omega, hlen, fun c hc => ?_⟩
    · rw [hlen] at h0
      obtain rfl := hsp h0
      refine ⟨g, off, rfl, block_lt_of_cell (hA 0 h0).1, fun i hi => ?_⟩
      rw [hlen] at hi
      rw [List.getElem_map, List.getElem_range]
      exact (hA i hi).1
    · obtain ⟨i, hi, rfl⟩ := List.mem_map.1 hc
      have hi2 := List.mem_range.1 hi
      rw [hx]
      simp only [DataW.weights, Try.underlying34]
      refine List.mem_cons_of_mem _ (List.mem_append.2 (.inl (in_weights (d := D i) (List.mem_map.2 ⟨i, hi, rfl⟩) _ ?_)))
      rw [(hA i hi2).2.1]
      simp [DataW.weights]
end Go.Proofs.Ytglipljilcdboaa
/- Numbers, as they came in, opened. No condition. -/
namespace Go.Proofs.Ytglipljilcdboaa
set_option linter.unusedSimpArgs false
open Go.Deep Go.ChangeShapes Go.WideShapes Go.ChangeAt Go.RowKit
set_option linter.unusedVariables false
/-- Numbers in memory. -/
def NumIn (W : World) (pa : Option Addr) (len ca : Nat) (ns : List UInt8) : Prop := ns.length = len ∧ len ≤ ca ∧ (0 < len → ∃ b o, pa = some ⟨b, o, none⟩ ∧ b < W.heap.size ∧ ∀ i (h : i < ns.length), W.cell? ⟨b, o + i, none⟩ = some (.int .u8 (ns[i].toNat : Int)))
set_option maxRecDepth 100000 in
theorem nums_open {H : Type} {enc : TypeId × Value → H} {W : World} {fuel : Nat} {cs : List Value} {x : DataW H × List MemPlace} (h : DataW.trod enc Try.prog W 0 (fun _ => true) true fuel 33 cs = some x) :
    ∃ pa len ca ns, cs = [.slice pa len ca] ∧ NumIn W pa len ca ns ∧ (ca = 0 ∨ ∃ el sp, x.1 = .slice el sp ∧ el.length + sp.length = ca) := by
  rcases open_ints Try.underlying33 Try.underlying5 (by kernel_rfl) h with ⟨hcs, _⟩ | ⟨a, len, cap, zs, hcs, _, hl, hm, hz, hx, hcell, hwz⟩
  · exact ⟨none, 0, 0, [], hcs, ⟨rfl, Nat.le_refl _, fun h => absurd h (Nat.lt_irrefl _)⟩, .inl rfl⟩
  · have hz2 : zs.length = cap := by simpa using hz
    have hns : ((zs.take len).map fun z => UInt8.ofNat z.toNat).length = len := by rw [List.length_map, List.length_take]; omega
    refine ⟨some a, len, cap, (zs.take len).map fun z => UInt8.ofNat z.toNat, hcs, ⟨hns, hl, fun h0 => ?_⟩, .inr ⟨_, _, congrArg Prod.fst hx, ?_⟩⟩
    · obtain ⟨g, off, spot⟩ := a
      have hsp : spot = none := by
        have := World.cell?_spot (hcell 0 (by omega))
        simpa [Addr.add] using this
      subst hsp
      refine ⟨g, off, rfl, block_lt_of_cell (hcell 0 (by omega)), fun i hi => ?_⟩
      rw [hns] at hi
      have hc := hcell i (by omega)
      rw [addr_add0] at hc
      have hget : zs.getD i 0 = zs[i]'(by omega) := by rw [List.getD_eq_getElem?_getD, List.getElem?_eq_getElem (by omega)]; rfl
      have hw := hwz (zs[i]'(by omega)) (List.getElem_mem _)
      simp [Lit.wf, IntKind.min, IntKind.max, IntKind.signed, IntKind.bits] at hw
      rw [hc, hget, List.getElem_map, List.getElem_take]
      congr 2
      obtain ⟨k, hk⟩ := Int.eq_ofNat_of_zero_le hw.1
      rw [hk] at hw ⊢
      simp
      omega
    · simp [lits]; omega
def NumIn16 (W : World) (pa : Option Addr) (len ca : Nat) (ns : List Nat) : Prop := ns.length = len ∧ len ≤ ca ∧ (∀ x ∈ ns, x < 65536) ∧ (0 < len → ∃ b o, pa = some ⟨b, o, none⟩ ∧ b < W.heap.size ∧ ∀ i (h : i < ns.length), W.cell? ⟨b, o + i, none⟩ = some (.int .u16 (ns[i] : Int)))
set_option maxRecDepth 100000 in
theorem nums_open16 {H : Type} {enc : TypeId × Value → H} {W : World} {fuel : Nat} {cs : List Value} {x : DataW H × List MemPlace} (h : DataW.trod enc Try.prog W 0 (fun _ => true) true fuel 46 cs = some x) :
    ∃ pa len ca ns, cs = [.slice pa len ca] ∧ NumIn16 W pa len ca ns ∧ (ca = 0 ∨ ∃ el sp, x.1 = .slice el sp ∧ el.length + sp.length = ca) := by
  rcases open_ints Try.underlying46 Try.underlying35 (by kernel_rfl) h with ⟨hcs, _⟩ | ⟨a, len, cap, zs, hcs, _, hl, hm, hz, hx, hcell, hwz⟩
  · exact ⟨none, 0, 0, [], hcs, ⟨rfl, Nat.le_refl _, (fun x hx => by cases hx), fun h => absurd h (Nat.lt_irrefl _)⟩, .inl rfl⟩
  · have hz2 : zs.length = cap := by simpa using hz
    have hns : ((zs.take len).map fun z => z.toNat).length = len := by rw [List.length_map, List.length_take]; omega
    have h16 : ∀ x ∈ (zs.take len).map fun z => z.toNat, x < 65536 := by
      intro x hx
      obtain ⟨z, hz3, rfl⟩ := List.mem_map.1 hx
      have hw := hwz z (List.mem_of_mem_take hz3)
      simp [Lit.wf, IntKind.min, IntKind.max, IntKind.signed, IntKind.bits] at hw
      omega
    refine ⟨some a, len, cap, (zs.take len).map fun z => z.toNat, hcs, ⟨hns, hl, h16, fun h0 => ?_⟩, .inr ⟨_, _, congrArg Prod.fst hx, ?_⟩⟩
    · obtain ⟨g, off, spot⟩ := a
      have hsp : spot = none := by
        have := World.cell?_spot (hcell 0 (by omega))
        simpa [Addr.add] using this
      subst hsp
      refine ⟨g, off, rfl, block_lt_of_cell (hcell 0 (by omega)), fun i hi => ?_⟩
      rw [hns] at hi
      have hc := hcell i (by omega)
      rw [addr_add0] at hc
      have hget : zs.getD i 0 = zs[i]'(by omega) := by rw [List.getD_eq_getElem?_getD, List.getElem?_eq_getElem (by omega)]; rfl
      have hw := hwz (zs[i]'(by omega)) (List.getElem_mem _)
      simp [Lit.wf, IntKind.min, IntKind.max, IntKind.signed, IntKind.bits] at hw
      rw [hc, hget, List.getElem_map, List.getElem_take]
      congr 2
      obtain ⟨k, hk⟩ := Int.eq_ofNat_of_zero_le hw.1
      rw [hk] at hw ⊢
      simp
      all_goals omega
    · simp [lits]; omega
section
open E
theorem num_row {W : World} {b o : Nat} {ns : List UInt8} (h0 : 0 < ns.length) (hb : b < W.heap.size) (h : ∀ i (h : i < ns.length), W.cell? ⟨b, o + i, none⟩ = some (.int .u8 (ns[i].toNat : Int))) (ρ : Env) (r : Nat) (hρ : ρ r = ⟨b, o, 0⟩) : RowAt ρ r (numRow ns) W := by
  unfold RowAt
  rw [hρ]
  refine ⟨hb, fun j v hv => ⟨?_, fun hw => by cases hw⟩, (fun e k hc => by cases hc), cells_of_cell1 (h 0 h0)⟩
  have hj : j < ns.length := by
    have := (List.getElem?_eq_some_iff.1 hv).1
    rw [lst_fnc, flat_len (k := 1) ns.length (fun _ _ => rfl)] at this
    omega
  rw [lst_fnc, flat_get (f := fun i => [.int .u8 ((nsf ns i).toNat : Int)]) (k := 1) (by omega) ns.length (fun _ _ => rfl) j (by omega), Nat.div_one, Nat.mod_one] at hv
  cases hv
  rw [h j hj]
  simp [nsf, hj]
theorem cut_row {W : World} {b o : Nat} {ns : List Nat} (h0 : 0 < ns.length) (hb : b < W.heap.size) (h : ∀ i (h : i < ns.length), W.cell? ⟨b, o + i, none⟩ = some (.int .u16 (ns[i] : Int))) (ρ : Env) (r : Nat) (hρ : ρ r = ⟨b, o, 0⟩) : RowAt ρ r (cutRow ns) W := by
  unfold RowAt
  rw [hρ]
  refine ⟨hb, fun j v hv => ⟨?_, fun hw => by cases hw⟩, (fun e k hc => by cases hc), cells_of_cell1 (h 0 h0)⟩
  have hj : j < ns.length := by
    have := (List.getElem?_eq_some_iff.1 hv).1
    rw [lst_fnc, flat_len (k := 1) ns.length (fun _ _ => rfl)] at this
    omega
  rw [lst_fnc, flat_get (f := fun i => [.int .u16 ((cuf ns i : Nat) : Int)]) (k := 1) (by omega) ns.length (fun _ _ => rfl) j (by omega), Nat.div_one, Nat.mod_one] at hv
  cases hv
  rw [h j hj]
  simp [cuf, hj]
end
end Go.Proofs.Ytglipljilcdboaa
