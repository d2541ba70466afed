/- Several texts, one behind the other; each says by itself what it proves, and on what conditions. -/
import Derived.Test.YtglipljilcdboaaU20
/- Of the program: feeding, whole; a reader that is wrong. Its conditions: what a tree keeps, what is begun, lengths that fit. -/
namespace Go.Proofs.Ytglipljilcdboaa
open Go.RowKit Go.Shelf
set_option linter.unusedVariables false
set_option linter.unusedSimpArgs false
section
open E
set_option maxRecDepth 100000 in
theorem feed_any (W : World) (b : Nat) (t : TS) (bs s : List UInt8) (D0 : List Nat) (hg : Good t) (hst : Stuck t bs) (hlen : bs.length + s.length ≤ 100000000000) (hrd : RdAt W b t bs D0) : Calls Try.prog 20 #[.pointer (some ⟨b, 0, none⟩), stv s] W (FdQ W b D0 (runM t (bs ++ s))) := by
  have hrd0 := hrd
  obtain ⟨vb, E, D', rfl, hby, ⟨vn, vo, h1, hv, hn1⟩, hn⟩ := hrd
  obtain ⟨hvn, hvo⟩ := trv_cells hv
  have hvb := hby.cell
  refine At.calls (args := [ptrTo 0, .v (stv s)]) (rows := [(0, roR (rdP (.v vb) (.v vn) (.v vo) t.pl t.path false))]) (gl := []) (wr := []) (ρ := fun _ => (⟨b, 0, 0⟩ : Blk)) Try.func20 rfl rfl (init_ro1 ⟨trivial, rfl, trivial⟩ rfl rfl ⟨⟨ro_row h1, rdP_ok _ _ _ hvb hvn hvo⟩, trivial⟩) rfl ?_
  refine At.run rfl [] trivial [.n, .n] (tm2 := [(1, .v (stv s)), (2, ptrTo 1000), (4, ptrTo 1001)]) (rows2 := [(0, roR (rdP (.v vb) (.v vn) (.v vo) t.pl t.path false)), (1000, ⟨[.one (.ptr 0 0 0 0 0)], true, none⟩), (1001, intR 0)]) (ob := [false = false, false = false]) (td := rp Try.f20 5) (by kernel_rfl) ⟨rfl, rfl, trivial⟩ rfl rfl (by intro h; cases h) ?_
  intro a w ρ hden
  have e0 : ρ 0 = ⟨b, 0, 0⟩ := hden.e0 0 (.inl (by decide))
  obtain ⟨q1, _, _, _, q1w⟩ := hden.rw 1000 _ rfl
  obtain ⟨q2, _, _, _, q2w⟩ := hden.rw 1001 _ rfl
  have q12 := hden.ds 1000 1001 _ _ rfl rfl (by decide) rfl
  obtain ⟨pr, hpr⟩ : ∃ pr, pr = ρ 1000 := ⟨_, rfl⟩
  obtain ⟨pc, hpc⟩ : ∃ pc, pc = ρ 1001 := ⟨_, rfl⟩
  have hprW : W.heap.size ≤ pr.1 := by rw [hpr]; exact (q1w rfl).resolve_right (by simp)
  have hpcW : W.heap.size ≤ pc.1 := by rw [hpc]; exact (q2w rfl).resolve_right (by simp)
  have hbW : b < W.heap.size := hrd0.lt b (List.mem_cons_self ..)
  have ow : Own w b pr pc 0 := by
    refine ⟨?_, ?_, by omega, by omega, by rw [hpr, hpc]; exact q12⟩
    · have := ro_row q1
      unfold RowAt at this ⊢
      rw [← hpr] at this
      have e : lst ρ (roR (⟨[.one (.ptr 0 0 0 0 0)], true, none⟩ : Row)).ps = lst (fun _ => pr) (⟨[.one (.v (.pointer (some ⟨b, 0, none⟩)))], false, none⟩ : Row).ps := by
        show [Value.pointer (some ⟨(ρ 0).1, (ρ 0).2 + (0 + 0 * 0 + 0), none⟩)] = [Value.pointer (some ⟨b, 0, none⟩)]
        rw [e0]
      rw [e] at this
      exact this
    · have := q2
      unfold RowAt at this ⊢
      rw [← hpc] at this
      exact this
  have t1 := (hden.tm 1 _ rfl).1
  have t2 : a.tmps[2]? = some (.pointer (some ⟨pr.1, pr.2 + (0 + 0 * 0 + 0), none⟩)) := by rw [hpr]; exact (hden.tm 2 _ rfl).1
  have t4 : a.tmps[4]? = some (.pointer (some ⟨pc.1, pc.2 + (0 + 0 * 0 + 0), none⟩)) := by rw [hpc]; exact (hden.tm 4 _ rfl).1
  have hcell : w.cell? ⟨pr.1, pr.2 + (0 + 0 * 0 + 0), none⟩ = some (.pointer (some ⟨b, 0, none⟩)) := (ow.r.2.1 0 _ rfl).1
  obtain ⟨wd, hwd⟩ : ∃ wd : World, wd = { w with drawn := w.drawn + 1 } := ⟨_, rfl⟩
  have fd : Fr w [] wd := by rw [hwd]; exact ⟨rfl, rfl, rfl, Nat.le_refl _, fun _ _ _ => rfl⟩
  rw [isRegD_ok (t := rp Try.f20 5) rfl]
  refine KX.code (n := 5) (K := fun a w => KX Try.prog none (rp Try.f20 5).tail (EndX Try.prog Try.f20 (FdQ W b (E ++ D') (runM t (bs ++ s)))) a w) (any_last (K := fun a' w' => w' = wd ∧ Kn Try.f20.ntmps [] (B5 s ⟨pr.1, pr.2 + (0 + 0 * 0 + 0), none⟩ ⟨pc.1, pc.2 + (0 + 0 * 0 + 0), none⟩) (D5 b s) (fun _ => true) a') rfl last5 ?_ ?_) fun a w h => h
  · rw [← hwd]
    have h5 := pure5 5 (w := wd) (a := a) hden.sz hden.df (fun p hp => by
      simp only [List.mem_cons, List.not_mem_nil, or_false] at hp
      rcases hp with rfl | rfl | rfl
      · exact t1
      · exact t2
      · exact t4) (by rw [hwd]; exact hcell)
    have h8 : (hdOps (rp Try.f20 5)).pop.size = 8 := by rw [Array.size_pop, size5]
    rw [h8]
    exact h5
  · rintro a' w' ⟨hw', hk⟩
    rw [hw']
    have hd2 : Den wd nB (fun _ => ⟨0, 0, 0⟩) (mkSt Try.f20.ntmps [(15, .v (.pointer (some ⟨b, 0, none⟩))), (16, .v (stv s)), (20, .v (mfv b))] [] []) a' wd := by
      refine den_new hk.sz hk.df ⟨List.nodup_nil, fun D hD => by cases hD⟩ (KeepsOthers.refl _) (Fr.refl _ _) (fun p hp => ?_) rfl (fun p hp => by cases hp) (fun p hp => by cases hp) (fun p hp => by cases hp) rfl rfl
      simp only [List.mem_cons, List.not_mem_nil, or_false] at hp
      rcases hp with rfl | rfl | rfl
      · exact ⟨hk.d 2 _ rfl rfl, rfl⟩
      · exact ⟨hk.d 3 _ rfl rfl, rfl⟩
      · exact ⟨hk.d 7 _ rfl rfl, rfl⟩
    have h8 : (hdOps (rp Try.f20 5)).pop.size = 8 := by rw [Array.size_pop, size5]
    rw [h8]
    refine xCall_ok (d := 21) (f := 32) (vs := [.v (.pointer (some ⟨b, 0, none⟩)), .v (stv s), .v (mfv b)]) (by kernel_rfl) hd2 ent32 ((mk_any b s wd).mono ?_)
    rintro e w2 ⟨p1, p2, p3, rfl, hf2, l1, l2, l3, r1, r2, r3⟩
    refine ⟨_, rfl, rfl, ?_⟩
    have hsz : W.heap.size ≤ wd.heap.size := by rw [hwd]; exact hden.fr.size
    have hprw : pr.1 < wd.heap.size := by rw [hwd]; exact ow.r.1
    have hpcw : pc.1 < wd.heap.size := by rw [hwd]; exact ow.c.1
    have hW2 : Fr W [] w2 := ((hden.fr).comp fd (fun x hx => by cases hx)).comp hf2 (fun x hx => by cases hx)
    have ow2 : Own w2 b pr pc 0 := (ow.fr fd (by simp) (by simp)).fr hf2 (by simp) (by simp)
    have main := range_at (D0 := E ++ D') (t := t) (bs := bs) (s := s) hW2 hprW hpcW hrd0 ow2 r1 r2 r3 (by omega) ⟨by omega, by omega, by omega⟩ ⟨by omega, by omega, by omega⟩ hg hst hlen
    have key : At Try.prog w2 nB Try.f20.ntmps [] (rp Try.f20 5).tail (EndX Try.prog Try.f20 (FdQ W b (E ++ D') (runM t (bs ++ s)))) [(2, .v ((ptrTo 1).val (envF b pr pc))), (4, .v ((ptrTo 2).val (envF b pr pc))), (21, .v (cloV p1 p2 p3))] [] :=
      At.run rfl [] trivial [] (tm2 := [(2, .v ((ptrTo 1).val (envF b pr pc))), (4, .v ((ptrTo 2).val (envF b pr pc))), (21, .v (cloV p1 p2 p3))]) (rows2 := []) (ob := []) (td := rg Try.f20 0) (by kernel_rfl) trivial rfl rfl (by intro h; cases h) main
    refine key _ w2 (fun _ => ⟨0, 0, 0⟩) ?_
    have hput : ∀ t, t ≠ 21 → (a'.put (some 21) (cloV p1 p2 p3)).tmps[t]? = a'.tmps[t]? := fun t ht => by
      show (a'.tmps.setIfInBounds 21 _)[t]? = _
      rw [Array.getElem?_setIfInBounds, if_neg (Ne.symm ht)]
    refine den_new (by rw [put_size]; exact hk.sz) (by rw [put_defers]; exact hk.df) ⟨List.nodup_nil, fun D hD => by cases hD⟩ (KeepsOthers.refl _) (Fr.refl _ _) (fun p hp => ?_) rfl (fun p hp => by cases hp) (fun p hp => by cases hp) (fun p hp => by cases hp) rfl rfl
    simp only [List.mem_cons, List.not_mem_nil, or_false] at hp
    rcases hp with rfl | rfl | rfl
    · exact ⟨(hput 2 (by decide)).trans (hk.b (2, .pointer (some ⟨pr.1, pr.2 + (0 + 0 * 0 + 0), none⟩)) (List.mem_cons_of_mem _ (List.mem_cons_self ..))), rfl⟩
    · exact ⟨(hput 4 (by decide)).trans (hk.b (4, .pointer (some ⟨pc.1, pc.2 + (0 + 0 * 0 + 0), none⟩)) (List.mem_cons_of_mem _ (List.mem_cons_of_mem _ (List.mem_cons_self ..)))), rfl⟩
    · refine ⟨?_, rfl⟩
      show (a'.tmps.setIfInBounds 21 _)[21]? = _
      have : a'.tmps.size = 37 := hk.sz
      rw [Array.getElem?_setIfInBounds, if_pos rfl, if_pos (by rw [this]; decide)]
      rfl
set_option maxRecDepth 100000 in
theorem feed_wrong (W : World) (b : Nat) (s : List UInt8) (h : RowAt (fun _ => ⟨b, 0, 0⟩) 0 wrongR W) : Calls Try.prog 20 #[.pointer (some ⟨b, 0, none⟩), stv s] W fun e w' => e = .returned (.int .i64 4) ∧ Fr W [] w' := by
  refine At.calls (args := [ptrTo 0, .v (stv s)]) (rows := [(0, roR wrongR)]) (gl := []) (wr := []) (ρ := fun _ => (⟨b, 0, 0⟩ : Blk)) Try.func20 rfl rfl (init_ro1 ⟨trivial, rfl, trivial⟩ rfl rfl ⟨⟨ro_row h, rdP_ok _ _ _ rfl rfl rfl⟩, trivial⟩) rfl ?_
  exact At.fin rfl [] trivial [.n, .y] (x := .int .i64 4) (ob := [false = false, true = true]) (by kernel_rfl) ⟨rfl, rfl, trivial⟩ fun ρ' w' hf _ => ⟨rfl, hf⟩
end
end Go.Proofs.Ytglipljilcdboaa
/- Of the program: a reader made, fed, asked for its tree. Its conditions: lengths that fit. -/
namespace Go.Proofs.Ytglipljilcdboaa
open Go.RowKit Go.Shelf
set_option linter.unusedVariables false
set_option linter.unusedSimpArgs false
section
open E
attribute [local go_sem] Oper.semAt_some
/-- A reader in memory: a tree as far as it came and what is begun, or wrong. -/
def RdS (W : World) (b : Nat) (r : Option (TS × List UInt8)) (D : List Nat) : Prop := match r with
  | some (t, bs) => Good t ∧ Stuck t bs ∧ RdAt W b t bs D
  | none => RowAt (fun _ => ⟨b, 0, 0⟩) 0 wrongR W
def feedO (r : Option (TS × List UInt8)) (s : List UInt8) : Option (TS × List UInt8) := match r with
  | some (t, bs) => runM t (bs ++ s)
  | none => none
def begO (r : Option (TS × List UInt8)) : Nat := match r with
  | some (_, bs) => bs.length
  | none => 0
def errO (r : Option (TS × List UInt8)) : Int := match r with
  | some _ => 0
  | none => 4
theorem ent19 : Enters Try.prog 19 := enters_of Try.func19 (by kernel_rfl) rfl
theorem ent20 : Enters Try.prog 20 := enters_of Try.func20 (by kernel_rfl) rfl
theorem ent21 : Enters Try.prog 21 := enters_of Try.func21 (by kernel_rfl) rfl
theorem ent35 : Enters Try.prog 35 := enters_of Try.func35 (by kernel_rfl) rfl
theorem new_in (n : Nat) (w : World) : CallsIn Fence.wide n Try.prog 19 #[] w fun e w' => e = .returned (.pointer (some ⟨w.heap.size, 0, none⟩)) ∧ w.alloc (.cells #[nilS, .int .i64 0, .string ⟨#[]⟩, nilS, nilS, .bool false] 74) = w' := by
  refine callsIn_of_wp Try.func19 rfl trivial ?_ rfl
  simp only [Try.ntmps19, List.size_toArray, List.length_cons, List.length_nil, Nat.reduceAdd, Nat.reduceSub, Array.replicate_succ, Array.replicate_zero, List.push_toArray, List.append_toArray, List.nil_append, List.cons_append]
  gi_wp2
  go_ret
  exact ⟨rfl, rfl⟩
theorem row_new6 (w : World) (l : List Value) (ty : TypeId) (ps : List Pc) (h : lst (fun _ => ⟨w.heap.size, 0, 0⟩) ps = l) : RowAt (fun _ => ⟨w.heap.size, 0, 0⟩) 0 ⟨ps, true, none⟩ (w.alloc (.cells l.toArray ty)) := by
  refine ⟨by show w.heap.size < (w.alloc _).heap.size; rw [World.size_alloc]; omega, fun j x hx => ⟨?_, fun _ => ?_⟩, (fun e k h => by cases h), ⟨l.toArray, ty, _, Go.heap_alloc_new w _⟩⟩
  · rw [h] at hx
    show (w.alloc (.cells l.toArray ty)).cell? ⟨w.heap.size, 0 + j, none⟩ = some x
    rw [Nat.zero_add, cell_alloc_new]
    simpa using hx
  · show (w.alloc (.cells l.toArray ty)).frozen? ⟨w.heap.size, 0 + j, none⟩ = false
    unfold World.frozen?
    rw [show (w.alloc (.cells l.toArray ty)).heap[w.heap.size]? = some (.cells l.toArray ty (0, 0)) from Go.heap_alloc_new w _]
    simp
theorem good_t0 : Good t0 := good0
theorem new_any (w : World) : Calls Try.prog 19 #[] w fun e w' => ∃ b, e = .returned (.pointer (some ⟨b, 0, none⟩)) ∧ w.heap.size ≤ b ∧ Fr w [] w' ∧ RdS w' b (some (t0, [])) [] := by
  refine ((callsIn_wide (n := 6)).1 (new_in 6 w)).mono ?_
  rintro e w' ⟨rfl, rfl⟩
  exact ⟨w.heap.size, rfl, Nat.le_refl _, fr_alloc _ _, good_t0, .inl rfl, nilS, [], [], rfl, .inl ⟨rfl, rfl, rfl⟩, ⟨nilS, nilS, row_new6 w _ 74 (rdP (.v nilS) (.v nilS) (.v nilS) 0 [] false).ps rfl, .inl ⟨rfl, rfl, rfl, rfl⟩, by simp⟩, by simp⟩
theorem feedS (W : World) (b : Nat) (r : Option (TS × List UInt8)) (D : List Nat) (s : List UInt8) (hlen : begO r + s.length ≤ 100000000000) (h : RdS W b r D) : Calls Try.prog 20 #[.pointer (some ⟨b, 0, none⟩), stv s] W fun e W' => e = .returned (.int .i64 (errO (feedO r s))) ∧ Fr W (b :: D) W' ∧ ∃ D', RdS W' b (feedO r s) D' ∧ ∀ y ∈ D', y ∈ D ∨ W.heap.size ≤ y := by
  cases r with
  | some r =>
    obtain ⟨t, bs⟩ := r
    obtain ⟨h1, h2, h3⟩ := h
    refine (feed_any W b t bs s D h1 h2 hlen h3).mono ?_
    rintro e W' ⟨hf, hm⟩
    show _ = Ending.returned (.int .i64 (errO (runM t (bs ++ s)))) ∧ _ ∧ ∃ D', RdS W' b (runM t (bs ++ s)) D' ∧ _
    cases hR : runM t (bs ++ s) with
    | some r' =>
      obtain ⟨t', bs'⟩ := r'
      rw [hR] at hm
      obtain ⟨rfl, g1, g2, D', g3, g4⟩ := hm
      exact ⟨rfl, hf, D', ⟨g1, g2, g3⟩, g4⟩
    | none =>
      rw [hR] at hm
      obtain ⟨rfl, g1⟩ := hm
      exact ⟨rfl, hf, [], g1, fun y hy => by cases hy⟩
  | none =>
    refine (feed_wrong W b s h).mono ?_
    rintro e W' ⟨rfl, hf⟩
    exact ⟨rfl, hf.widen (fun x hx => by cases hx), [], rowAt_fr (show RowAt (fun _ => ⟨b, 0, 0⟩) 0 wrongR W from h) hf (by simp), fun y hy => by cases hy⟩
/-! ### The tree asked for -/
set_option maxRecDepth 100000 in
theorem clone_any (L : List Nd) (hL : L.length ≤ 256) (ρ : Env) (w : World) (h : RowAt ρ 1 (roR (rowN L L.length)) w) : Calls Try.prog 35 #[(TV.s (.lf (slN 1 L.length))).val ρ] w fun e w' => ∃ B : Blk, e = .returned (.slice (some ⟨B.1, 0, none⟩) L.length B.3) ∧ B.2 = 0 ∧ Fr w [] w' ∧ w.heap.size ≤ B.1 ∧ RowAt (fun _ => B) 0 (rowN L L.length) w' := by
  refine At.calls (args := [.s (.lf (slN 1 L.length))]) (rows := [(1, roR (rowN L L.length))]) (gl := []) (wr := []) (ρ := ρ) Try.func35 rfl rfl (init_ro1 ⟨trivial, trivial⟩ rfl rfl ⟨⟨h, rowN_ok _ _⟩, trivial⟩) rfl ?_
  refine At.finR rfl [] trivial [.n] (rows2 := [(4002, ⟨[.fnc (appF (chunkF [] 3 0) 0 fun q => ndc L (addN 0 q)) 3 (0 + L.length)], true, some (55, 3)⟩)]) (x := .s (.lf (.sl 4002 0 0 3 (0 + L.length) none))) (ob := [false = false, (0 : Nat) = 0, 0 + L.length ≤ 9223372036854775807, (0 + L.length) * 40 ≤ 140737488355328, 0 + L.length ≤ L.length]) (by kernel_rfl) ⟨rfl, rfl, by omega, by omega, by omega, trivial⟩ fun ρ' w' hf he _ hq => ?_
  obtain ⟨g1, _, g3⟩ := hq _ (List.mem_singleton.2 rfl)
  have g2 : RowAt ρ' 4002 (rowN L L.length) w' := row_eq g1 (Nat.zero_add _) fun i hi => by
    rw [appF_hi (Nat.zero_le _), addN_eq, Nat.sub_zero, Nat.zero_add]
  refine ⟨ρ' 4002, ?_, rowN_z g2, hf, (g3 rfl).resolve_right (by simp), rowAt_mv g2 rfl⟩
  show Ending.returned (.slice (some ⟨(ρ' 4002).1, (ρ' 4002).2 + (0 + 0 * 3), none⟩) (0 + L.length) ((ρ' 4002).3 - 0)) = _
  rw [rowN_z g2, show 0 + L.length = L.length from Nat.zero_add _]; rfl
abbrev hCl (r id : Nat) (L : List Nd) : Hint := .call ⟨35, fun ρ => #[(TV.s (.lf (slN r L.length))).val ρ], .s (.lf (slN id L.length)), [(r, roR (rowN L L.length))], [], some (rowN L L.length), []⟩
theorem hCl_ok (id : Nat) (L : List Nd) (hL : L.length ≤ 256) : HintOk Try.prog id (hCl 1 id L) := by
  refine call_ok ent35 trivial (fun p hp => by cases hp) fun ρ w hr => (clone_any L hL ρ w (hr (1, _) (by simp))).mono ?_
  rintro e w' ⟨B, rfl, h0, hf, hb, hrow⟩
  refine ⟨B, ?_, hf, (fun p hp => by cases hp), fun row hrw => ?_⟩
  · show _ = Ending.returned (.slice (some ⟨(setE ρ id B id).1, (setE ρ id B id).2 + (0 + 0 * 3), none⟩) L.length ((setE ρ id B id).3 - 0))
    rw [setE_same, h0]
    rfl
  · cases hrw
    exact ⟨hb, rowAt_mv hrow (setE_same ρ id B), rowN_ok _ _⟩
abbrev mkT : Value → Int → Value := fun v e => .tuple #[v, .int .i64 e]
set_option maxRecDepth 100000 in
/-- End. -/
theorem endS (W : World) (b : Nat) (r : Option (TS × List UInt8)) (D : List Nat) (h : RdS W b r D) : Calls Try.prog 21 #[.pointer (some ⟨b, 0, none⟩)] W (GOut mkT W (finM r)) := by
  cases r with
  | none =>
    have h : RowAt (fun _ => ⟨b, 0, 0⟩) 0 wrongR W := h
    refine At.calls (args := [ptrTo 0]) (rows := [(0, roR wrongR)]) (gl := []) (wr := []) (ρ := fun _ => (⟨b, 0, 0⟩ : Blk)) Try.func21 rfl rfl (init_ro1 ⟨trivial, trivial⟩ rfl rfl ⟨⟨ro_row h, rdP_ok _ _ _ rfl rfl rfl⟩, trivial⟩) rfl ?_
    exact At.fin rfl [] trivial [.n, .y] (x := .tup [.lf (.v nilS), .lf (.v (.int .i64 4))]) (ob := [false = false, true = true]) (by kernel_rfl) ⟨rfl, rfl, trivial⟩ fun ρ' w' hf _ => .inr ⟨(by decide : (4 : Int) ≠ 0), rfl, rfl, hf⟩
  | some r =>
    obtain ⟨t, bs⟩ := r
    obtain ⟨hg, hst, vb, E, D', rfl, hby, ⟨vn, vo, h1, hv, hn1⟩, hn⟩ := h
    obtain ⟨hvn, hvo⟩ := trv_cells hv
    by_cases h17 : t.pl = 17
    · have hne : t.nodes ≠ [] := good_ne hg (by omega) (by omega)
      have hn256 := hg.n
      rcases hv with ⟨e, _⟩ | ⟨_, Bn, Bo, rfl, rfl, r1, r2, rfl⟩
      · exact absurd e hne
      have z1 := rowN_z r1
      have d1 : b ≠ Bn.1 := fun e => (List.nodup_cons.1 hn1).1 (by rw [e]; simp)
      have hpt : #[Value.pointer (some ⟨b, 0, none⟩)] = (List.map (TV.val (envT b Bn Bo)) [ptrTo 0]).toArray := rfl
      refine At.calls (args := [ptrTo 0]) (rows := [(0, roR (rdP (.v vb) (slN 1 t.nodes.length) (.v (.slice (some ⟨Bo.1, 0, none⟩) t.opens.length Bo.3)) t.pl t.path false)), (1, roR (rowN t.nodes t.nodes.length))]) (gl := []) (wr := []) (ρ := envT b Bn Bo) Try.func21 rfl rfl (init_ro1 ⟨trivial, trivial⟩ rfl rfl ⟨⟨ro_row (rdP_mv h1 rfl rfl (slN_val env1 z1) rfl), rdP_ok _ _ _ hby.cell trivial rfl⟩, ⟨ro_row (rowAt_mv r1 env1), rowN_ok _ _⟩, trivial⟩) hpt ?_
      refine At.finR rfl [(8005, hCl 1 8005 t.nodes)] ⟨hCl_ok _ _ hn256, trivial⟩ [.n, .n, .n] (rows2 := [(8005, rowN t.nodes t.nodes.length)]) (x := .tup [.lf (slN 8005 t.nodes.length), .lf (.v (.int .i64 0))]) (ob := [[false = false, false = false, (!((t.pl : Int) == 17)) = false], qL (hCl 1 8005 t.nodes)].flatten) (by kernel_rfl) (all_flat ⟨⟨rfl, rfl, by rw [h17]; rfl, trivial⟩, all_qL _, trivial⟩) fun ρ' w' hf he _ hq => ?_
      obtain ⟨g1, _, g3⟩ := hq _ (List.mem_singleton.2 rfl)
      have hfin : finM (some (t, bs)) = (t.nodes, 0) := by simp [finM, h17]
      rw [hfin]
      refine .inl ⟨rfl, ρ' 8005, ?_, rowN_z g1, hf, (g3 rfl).resolve_right (by simp), rowAt_mv g1 rfl⟩
      show Ending.returned (.tuple #[.slice (some ⟨(ρ' 8005).1, (ρ' 8005).2 + (0 + 0 * 3), none⟩) t.nodes.length ((ρ' 8005).3 - 0), .int .i64 0]) = _
      rw [rowN_z g1]; rfl
    · have hfin : finM (some (t, bs)) = ([], 5) := by simp [finM, h17]
      rw [hfin]
      refine At.calls (args := [ptrTo 0]) (rows := [(0, roR (rdP (.v vb) (.v vn) (.v vo) t.pl t.path false))]) (gl := []) (wr := []) (ρ := fun _ => (⟨b, 0, 0⟩ : Blk)) Try.func21 rfl rfl (init_ro1 ⟨trivial, trivial⟩ rfl rfl ⟨⟨ro_row h1, rdP_ok _ _ _ hby.cell hvn hvo⟩, trivial⟩) rfl ?_
      exact At.fin rfl [] trivial [.n, .n, .y] (x := .tup [.lf (.v nilS), .lf (.v (.int .i64 5))]) (ob := [false = false, false = false, (!((t.pl : Int) == 17)) = true]) (by kernel_rfl) ⟨rfl, rfl, by simpa using (by omega : ¬ (t.pl : Int) = 17), trivial⟩ fun ρ' w' hf _ => .inr ⟨(by decide : (5 : Int) ≠ 0), rfl, rfl, hf⟩
end
end Go.Proofs.Ytglipljilcdboaa
/- Of the program: Get. Its condition: bytes that fit. -/
namespace Go.Proofs.Ytglipljilcdboaa
open Go.RowKit Go.Shelf
set_option linter.unusedVariables false
set_option linter.unusedSimpArgs false
section
open E
theorem GOut.before {mk : Value → Int → Value} {W w w' : World} {r : List Nd × Int} {e : Ending} (hf : Fr W [] w) (h : GOut mk w r e w') : GOut mk W r e w' := by
  rcases h with ⟨h1, B, h2, h3, h4, h5, h6⟩ | ⟨h1, h2, h3, h4⟩
  · exact .inl ⟨h1, B, h2, h3, hf.comp h4 (fun x hx => by cases hx), Nat.le_trans hf.size h5, h6⟩
  · exact .inr ⟨h1, h2, h3, hf.comp h4 (fun x hx => by cases hx)⟩
theorem GOut.after {mk : Value → Int → Value} {W w w' : World} {r : List Nd × Int} {e : Ending} (h : GOut mk W r e w) (hf : Fr w [] w') : GOut mk W r e w' := by
  rcases h with ⟨h1, B, h2, h3, h4, h5, h6⟩ | ⟨h1, h2, h3, h4⟩
  · exact .inl ⟨h1, B, h2, h3, h4.comp hf (fun x hx => by cases hx), h5, rowAt_fr h6 hf (by simp)⟩
  · exact .inr ⟨h1, h2, h3, h4.comp hf (fun x hx => by cases hx)⟩
theorem GOut.val {mk : Value → Int → Value} {w w' : World} {r : List Nd × Int} {e : Ending} (h : GOut mk w r e w') : ∃ v, v.oneCell' = true ∧ e = .returned (mk v r.2) := by
  rcases h with ⟨h1, B, rfl, _⟩ | ⟨h1, h2, rfl, _⟩
  · exact ⟨_, rfl, by rw [h1]⟩
  · exact ⟨_, rfl, rfl⟩
abbrev ptV (b : Nat) : Value := .pointer (some ⟨b, 0, none⟩)
set_option maxRecDepth 100000 in
theorem pget_any (s : List UInt8) (hs : s.length ≤ 100000000000) (W : World) : Calls Try.prog 12 #[stv s] W (GOut mkT W (getL s)) := by
  refine At.calls (args := [.v (stv s)]) (rows := []) (gl := []) (wr := []) (ρ := fun _ => (⟨0, 0, 0⟩ : Blk)) Try.func12 rfl rfl (init_rw ⟨rfl, trivial⟩ rfl rfl rfl (fun p hp => by cases hp) (fun p hp => by cases hp) (fun p hp => by cases hp)) rfl ?_
  refine At.run rfl [] trivial [] (tm2 := [(0, .v (stv s))]) (rows2 := []) (ob := []) (td := rp Try.f12 1) (by kernel_rfl) trivial rfl rfl (by intro h; cases h) ?_
  refine At.opX (α := World × Nat) 0 5 [] trivial (fun x => x.1) (fun _ => nB) (fun x => [(0, .v (stv s)), (5, .v (ptV x.2))]) (fun x => [(0, .v (stv s)), (4, .v (ptV x.2))]) (fun _ => []) (fun _ => []) (fun x => W.heap.size ≤ x.2 ∧ Fr W [] x.1 ∧ RdS x.1 x.2 (some (t0, [])) []) rfl (tm1 := [(0, .v (stv s))]) (rows1 := []) (o1 := []) (o2 := fun _ => []) (by kernel_rfl) trivial rfl ?_ (fun x _ => by kernel_rfl) (fun x _ => trivial) (fun x => rfl) (fun x hx => ?_)
  · intro a w ρ K QQ hden hk
    refine xCall_ok (d := 5) (f := 19) (vs := []) (by kernel_rfl) hden ent19 ((new_any w).mono ?_)
    rintro e w' ⟨b, rfl, h1, h2, h3⟩
    refine ⟨_, rfl, hk (w', b) (ptV b) w' (fun _ => ⟨0, 0, 0⟩) ⟨Nat.le_trans hden.fr.size h1, hden.fr.comp h2 (fun x hx => by cases hx), h3⟩ (den_again (d := 5) (tm' := [(0, .v (stv s)), (5, .v (ptV b))]) (rows2 := []) (K := []) hden (by decide) (fun p hp => ?_) rfl (fun p hp => by cases hp) (fun p hp => by cases hp) rfl rfl)⟩
    simp only [List.mem_cons, List.not_mem_nil, or_false] at hp
    rcases hp with rfl | rfl
    · exact .inr ⟨(show (0 : Nat) ≠ 5 by decide), rfl, fun r hr => by cases hr⟩
    · exact .inl ⟨rfl, rfl, rfl⟩
  obtain ⟨W1, b⟩ := x
  obtain ⟨hb, hf1, hr1⟩ := hx
  simp only at hb hf1 hr1 ⊢
  refine At.run rfl [] trivial [] (tm2 := [(0, .v (stv s)), (4, .v (ptV b))]) (rows2 := []) (ob := []) (td := rp Try.f12 2) (by kernel_rfl) trivial rfl rfl (by intro h; cases h) ?_
  refine At.opX (α := World) 2 8 [] trivial (fun x => x) (fun _ => nB) (fun x => [(4, .v (ptV b))]) (fun x => [(4, .v (ptV b))]) (fun _ => []) (fun _ => []) (fun x => Fr W [] x ∧ ∃ D, RdS x b (runM t0 s) D) rfl (tm1 := [(4, .v (ptV b)), (6, .v (ptV b)), (7, .v (stv s))]) (rows1 := []) (o1 := []) (o2 := fun _ => []) (by kernel_rfl) trivial rfl ?_ (fun x _ => by kernel_rfl) (fun x _ => trivial) (fun x => rfl) (fun x hx => ?_)
  · intro a w ρ K QQ hden hk
    have hr2 : RdS w b (some (t0, [])) [] := by
      obtain ⟨g1, g2, g3⟩ := hr1
      exact ⟨g1, g2, g3.fr hden.fr (fun x _ hx => by cases hx)⟩
    refine xCall_ok (d := 8) (f := 20) (vs := [.v (ptV b), .v (stv s)]) (by kernel_rfl) hden ent20 ((feedS w b (some (t0, [])) [] s (by show 0 + s.length ≤ _; omega) hr2).mono ?_)
    rintro e w' ⟨rfl, h2, D', h3, h4⟩
    refine ⟨_, rfl, hk w' _ w' (fun _ => ⟨0, 0, 0⟩) ⟨(hf1.comp hden.fr (fun x hx => by cases hx)).comp h2 (fun x hx => ?_), D', h3⟩ (den_again (d := 8) (tm' := [(4, .v (ptV b))]) (rows2 := []) (K := []) hden (by decide) (fun p hp => ?_) rfl (fun p hp => by cases hp) (fun p hp => by cases hp) rfl rfl)⟩
    · obtain rfl := List.mem_singleton.1 hx; exact .inr hb
    · obtain rfl := List.mem_singleton.1 hp
      exact .inr ⟨(show (4 : Nat) ≠ 8 by decide), rfl, fun r hr => by cases hr⟩
  obtain ⟨hf2, D, hr3⟩ := hx
  refine At.run rfl [] trivial [] (tm2 := [(4, .v (ptV b))]) (rows2 := []) (ob := []) (td := rp Try.f12 3) (by kernel_rfl) trivial rfl rfl (by intro h; cases h) ?_
  refine At.opX (α := World × Value) 1 10 [] trivial (fun x => x.1) (fun _ => nB) (fun x => [(10, .tup [.lf (.v x.2), .lf (.v (.int .i64 (getL s).2))])]) (fun x => [(2, .v x.2), (3, .int .i64 (getL s).2)]) (fun _ => []) (fun _ => []) (fun x => x.2.oneCell' = true ∧ GOut mkT W (getL s) (.returned (mkT x.2 (getL s).2)) x.1) rfl (tm1 := [(9, .v (ptV b))]) (rows1 := []) (o1 := []) (o2 := fun _ => []) (by kernel_rfl) trivial rfl ?_ (fun x _ => by kernel_rfl) (fun x _ => trivial) (fun x => rfl) (fun y hy => ?_)
  · intro a w ρ K QQ hden hk
    have hr4 : RdS w b (runM t0 s) D := by
      revert hr3
      cases runM t0 s with
      | none => intro hr3; exact rowAt_fr (show RowAt (fun _ => ⟨b, 0, 0⟩) 0 wrongR x from hr3) hden.fr (by simp)
      | some r =>
        obtain ⟨t, bs⟩ := r
        rintro ⟨g1, g2, g3⟩
        exact ⟨g1, g2, g3.fr hden.fr (fun x _ hx => by cases hx)⟩
    refine xCall_ok (d := 10) (f := 21) (vs := [.v (ptV b)]) (by kernel_rfl) hden ent21 ((endS w b (runM t0 s) D hr4).mono ?_)
    intro e w' hq
    have hq2 : GOut mkT W (getL s) e w' := GOut.before (hf2.comp hden.fr (fun x hx => by cases hx)) hq
    obtain ⟨v, hv, rfl⟩ := hq2.val
    refine ⟨_, rfl, hk (w', v) (mkT v (getL s).2) w' (fun _ => ⟨0, 0, 0⟩) ⟨hv, hq2⟩ (den_again (d := 10) (tm' := [(10, .tup [.lf (.v v), .lf (.v (.int .i64 (getL s).2))])]) (rows2 := []) (K := []) hden (by decide) (fun p hp => ?_) rfl (fun p hp => by cases hp) (fun p hp => by cases hp) rfl rfl)⟩
    obtain rfl := List.mem_singleton.1 hp
    refine .inl ⟨rfl, rfl, fun x hx => ?_⟩
    simp only [List.mem_cons, List.not_mem_nil, or_false] at hx
    rcases hx with rfl | rfl
    · exact hv
    · rfl
  · obtain ⟨W3, v⟩ := y
    exact At.fin rfl [] trivial [] (x := .tup [.lf (.v v), .lf (.v (.int .i64 (getL s).2))]) (ob := []) (by kernel_rfl) trivial fun ρ' w' hf _ => hy.2.after hf
end
end Go.Proofs.Ytglipljilcdboaa
/- May of the document: whether nodes are a tree. Its condition: lengths that fit. -/
namespace Go.Proofs.Ytglipljilcdboaa
open Go.RowKit Go.Shelf
set_option linter.unusedVariables false
set_option linter.unusedSimpArgs false
set_option maxRecDepth 100000 in
set_option maxHeartbeats 1000000 in
theorem may_nil (a : Option Addr) (cap : Nat) (w : World) : Calls Try.prog 29 #[.slice a 0 cap] w fun e w' => e = .returned (.bool false) ∧ w' = w := by
  go_enter Try.func29, Try.ntmps29
  go_wp2_with fail
  go_ret
  exact ⟨rfl, rfl⟩
theorem cut_len (p : List UInt8) : (cutL p).2.length ≤ p.length := by
  unfold cutL
  split
  · rw [List.length_reverse]
    exact Nat.le_trans (List.takeWhile_sublist _).length_le (by rw [List.length_reverse]; exact Nat.le_refl _)
  · exact Nat.le_refl _
set_option maxRecDepth 100000 in
set_option maxHeartbeats 2000000 in
theorem may_pos (b o cap : Nat) (d : Nd) (r : List Nd) (hl : r.length + 1 ≤ 100000) (hp : ∀ c ∈ d :: r, c.path.length ≤ 1000000) (hd : ∀ c ∈ d :: r, c.data.length ≤ 1000000) (w : World) (hN : Nodes w b o (d :: r)) :
    Calls Try.prog 29 #[slV b o (r.length + 1) cap] w fun e w' => e = .returned (.bool (mayL (d :: r))) ∧ Below w.heap.size w w' := by
  have HN := Lib.hid hN
  clear hN
  obtain ⟨B, hB⟩ : ∃ B, Hid (B = mayL (d :: r)) := ⟨_, Lib.hid rfl⟩
  rw [← hB.out]
  have hBe : Hid (B = (decide (r.length + 1 ≤ 256) && decide (d.path = []) && mayDataL d && r.all (fun c => mayNameL (cutL c.path).2 && decide (deepL c.path ≤ 64) && mayDataL c) && decide ((restU (fuelN r) d r).length = 0))) := Lib.hid (by rw [hB.out]; rfl)
  obtain ⟨n, hn⟩ : ∃ n, Hid (n = r.length) := ⟨_, Lib.hid rfl⟩
  rw [← hn.out] at hl ⊢
  have c0 := (HN.out.2 0 (by simp)).1
  have c1 := (HN.out.2 0 (by simp)).2.1
  have c2 := (HN.out.2 0 (by simp)).2.2
  simp only [List.getElem_cons_zero, Nat.zero_mul, Nat.add_zero] at c0 c1 c2
  obtain ⟨P, hP⟩ : ∃ x : ByteArray, Hid (x = ⟨d.path.toArray⟩) := ⟨_, Lib.hid rfl⟩
  obtain ⟨D, hD⟩ : ∃ x : ByteArray, Hid (x = ⟨d.data.toArray⟩) := ⟨_, Lib.hid rfl⟩
  rw [show strV d.path = .string P by rw [hP.out]; rfl] at c0
  rw [show strV d.data = .string D by rw [hD.out]; rfl] at c2
  have HM : Hid (∀ w, Calls Try.prog 38 #[.agg #[.string P, .int .i64 d.kind, .string D]] w fun e w' => e = .returned (.bool (mayDataL d)) ∧ Below w.heap.size w w') := Lib.hid (fun w => by
    have h := mayData_any d (hp d (by simp)) (hd d (by simp)) w
    rw [show ndV d = #[.string P, .int .i64 d.kind, .string D] by rw [hP.out, hD.out]; rfl] at h
    exact h)
  have HLp : Hid (∀ k (hk : k < r.length), r[k].path.length ≤ 1000000 ∧ r[k].data.length ≤ 1000000) := Lib.hid (fun k hk => ⟨hp _ (by simp), hd _ (by simp)⟩)
  have HU : Hid (∀ w, Nodes w b o (d :: r) → Calls Try.prog 44 #[slV b o (n + 1) cap, .int .i64 0] w fun e w' => e = .returned (.int .i64 ((n + 1 - (restU (fuelN r) d r).length : Nat) : Int)) ∧ Below w.heap.size w w') := Lib.hid (fun w hw => by
    have h := under_any b o cap (d :: r) (by have := hn.out; simp only [List.length_cons]; omega) hp (r.length + 1) 0 (by simp) (by simp) w hw
    have e : underP (d :: r) 0 (by simp) = n + 1 - (restU (fuelN r) d r).length := by
      show r.length + 1 - (restU (fuelN r) d r).length = _
      rw [hn.out]
    rw [e] at h
    have e2 : (d :: r).length = n + 1 := by rw [List.length_cons, ← hn.out]
    rw [e2] at h
    exact h)
  unfold slV at HU ⊢
  have hI1 : ¬ (n : Int) + 1 < 1 := by omega
  have BW : ∀ {w2 : World}, Below w.heap.size w w2 → Below w.heap.size w w2 := fun h => h
  by_cases h256 : n + 1 ≤ 256
  · have hI2 : ¬ (256 : Int) < (n : Int) + 1 := by omega
    rw [decide_eq_true (show r.length + 1 ≤ 256 by rw [← hn.out]; exact h256), Bool.true_and] at hBe
    by_cases hpath : d.path = []
    · rw [decide_eq_true hpath, Bool.true_and] at hBe
      have hPe : P.toList = [] := by rw [ByteArray.toList_eq, hP.out, hpath]
      have hPe2 : P.toList.isEmpty = true := by rw [hPe]; rfl
      clear hpath
      go_enter Try.func29, Try.ntmps29
      go_wp2_with fail
      with_reducible refine (HM.out _).mono ?_
      rintro e w2 ⟨rfl, hb⟩
      have HB2 := Lib.hid hb
      clear hb HM
      cases hmd : mayDataL d
      · rw [hmd, Bool.false_and, Bool.false_and] at hBe
        go_wp2_with fail
        go_ret
        exact ⟨by rw [hBe.out]; rfl, HB2.out⟩
      · rw [hmd, Bool.true_and] at hBe
        go_wp2_with fail
        clear c0 c1 c2 hPe hPe2
        go_loopw [3] (fun x wr => ∃ k : Nat, 1 ≤ k ∧ k ≤ n + 1 ∧ x = .int .i64 (k : Int) ∧ (r.take (k - 1)).all (fun c => mayNameL (cutL c.path).2 && decide (deepL c.path ≤ 64) && mayDataL c) = true ∧ Below w.heap.size w wr) (fun x _ => n + 1 - (intOf x).toNat)
        case atStart => exact ⟨1, by omega, by omega, rfl, by simp, HB2.out⟩
        case round =>
          clear HB2
          obtain ⟨k, hk1, hk, rfl, hall, hb⟩ := hrel
          have HALL := Lib.hid hall
          have HBr := Lib.hid hb
          clear hall hb
          by_cases hlt : k < n + 1
          · have hltI : (k : Int) < (n : Int) + 1 := by omega
            have HNr := Lib.hid (HN.out.below (W2 := wr) HBr.out)
            have hkr : k - 1 < r.length := by have := hn.out; omega
            have hkl : k < (d :: r).length := by rw [List.length_cons]; omega
            obtain ⟨c, hc⟩ : ∃ c, Hid (c = r[k - 1]) := ⟨_, Lib.hid rfl⟩
            have hget : (d :: r)[k] = c := by
              rw [hc.out]
              obtain ⟨j, rfl⟩ : ∃ j, k = j + 1 := ⟨k - 1, by omega⟩
              rfl
            have c0 := (HNr.out.2 k hkl).1
            have c1 := (HNr.out.2 k hkl).2.1
            have c2 := (HNr.out.2 k hkl).2.2
            rw [hget] at c0 c1 c2
            have hcl := HLp.out (k - 1) hkr
            rw [← hc.out] at hcl
            obtain ⟨A, hA⟩ : ∃ x : ByteArray, Hid (x = ⟨c.path.toArray⟩) := ⟨_, Lib.hid rfl⟩
            obtain ⟨E, hE⟩ : ∃ x : ByteArray, Hid (x = ⟨c.data.toArray⟩) := ⟨_, Lib.hid rfl⟩
            obtain ⟨X, hX⟩ : ∃ x : ByteArray, Hid (x = ⟨(cutL c.path).1.toArray⟩) := ⟨_, Lib.hid rfl⟩
            obtain ⟨Y, hY⟩ : ∃ x : ByteArray, Hid (x = ⟨(cutL c.path).2.toArray⟩) := ⟨_, Lib.hid rfl⟩
            rw [show strV c.path = .string A by rw [hA.out]; rfl] at c0
            rw [show strV c.data = .string E by rw [hE.out]; rfl] at c2
            have hAL : A.data.toList = c.path := by rw [hA.out]
            have hAs : A.size ≤ 1000000 := by rw [hA.out]; exact hcl.1
            have H36 : Hid (∀ w, Calls Try.prog 41 #[.string A] w fun e w' => e = .returned (.tuple #[.string X, .string Y]) ∧ Below w.heap.size w w') := Lib.hid (fun w => by
              have h := cut_any A hAs w
              rw [hAL] at h
              rw [hX.out, hY.out]
              exact h)
            have hYs : Y.size ≤ 1000000 := by
              rw [hY.out]
              exact Nat.le_trans (cut_len c.path) hcl.1
            have H18 : Hid (∀ w, Calls Try.prog 42 #[.string Y] w fun e w' => e = .returned (.bool (mayNameL (cutL c.path).2)) ∧ w' = w) := Lib.hid (fun w => by
              have h := mayName_any Y hYs w
              rw [show Y.data.toList = (cutL c.path).2 by rw [hY.out]] at h
              exact h)
            have H37 : Hid (∀ w, Calls Try.prog 43 #[.string A] w fun e w' => e = .returned (.int .i64 (deepL c.path : Int)) ∧ w' = w) := Lib.hid (fun w => by
              have h := deep_any A hAs w
              rw [hAL] at h
              exact h)
            have H35 : Hid (∀ w, Calls Try.prog 38 #[.agg #[.string A, .int .i64 c.kind, .string E]] w fun e w' => e = .returned (.bool (mayDataL c)) ∧ Below w.heap.size w w') := Lib.hid (fun w => by
              have h := mayData_any c hcl.1 hcl.2 w
              rw [show ndV c = #[.string A, .int .i64 c.kind, .string E] by rw [hA.out, hE.out]; rfl] at h
              exact h)
            have hbad : Hid ((mayNameL (cutL c.path).2 && decide (deepL c.path ≤ 64) && mayDataL c) = false → B = false) := Lib.hid (fun h => by
              rw [hBe.out]
              have : r.all (fun c => mayNameL (cutL c.path).2 && decide (deepL c.path ≤ 64) && mayDataL c) = false := by
                rw [List.all_eq_false]
                exact ⟨c, by rw [hc.out]; exact List.getElem_mem _, by simpa using h⟩
              rw [this, Bool.false_and])
            have hgood : Hid ((mayNameL (cutL c.path).2 && decide (deepL c.path ≤ 64) && mayDataL c) = true → (r.take (k + 1 - 1)).all (fun c => mayNameL (cutL c.path).2 && decide (deepL c.path ≤ 64) && mayDataL c) = true) := Lib.hid (fun h => by
              rw [show k + 1 - 1 = (k - 1) + 1 by omega, List.take_add_one, List.getElem?_eq_getElem hkr, List.all_append, HALL.out, ← hc.out, Bool.true_and]
              simpa using h)
            clear hA hE hX hY hAL hAs hYs hcl hget hc hkl hkr
            go_wp2_with fail
            with_reducible refine (H36.out _).mono ?_
            rintro e w3 ⟨rfl, hb⟩
            have HB3 := Lib.hid (HBr.out.trans (hb.mono HBr.out.size))
            have c0b := (hb.cell (Nat.lt_of_lt_of_le HN.out.1 HBr.out.size)).trans c0
            have c1b := (hb.cell (Nat.lt_of_lt_of_le HN.out.1 HBr.out.size)).trans c1
            have c2b := (hb.cell (Nat.lt_of_lt_of_le HN.out.1 HBr.out.size)).trans c2
            clear hb HBr c0 c1 c2
            go_wp2_with fail
            with_reducible refine (H18.out _).mono ?_
            rintro e w4 ⟨rfl, rfl⟩
            cases m1 : mayNameL (cutL c.path).2
            · have hz := hbad.out (by rw [m1]; rfl)
              go_wp2_with fail
              go_ret
              exact ⟨by rw [hz]; rfl, HB3.out⟩
            · go_wp2_with fail
              with_reducible refine (H37.out _).mono ?_
              rintro e w5 ⟨rfl, rfl⟩
              by_cases m2 : deepL c.path ≤ 64
              · have m2I : ¬ (deepL c.path : Int) > 64 := by omega
                go_wp2_with fail
                with_reducible refine (H35.out _).mono ?_
                rintro e w6 ⟨rfl, hb⟩
                have HB4 := Lib.hid (HB3.out.trans (hb.mono HB3.out.size))
                clear hb
                cases m3 : mayDataL c
                · have hz := hbad.out (by rw [m3, Bool.and_false])
                  go_wp2_with fail
                  go_ret
                  exact ⟨by rw [hz]; rfl, HB4.out⟩
                · have hz := hgood.out (by rw [m1, m3, decide_eq_true m2]; rfl)
                  have f1 : n + 1 - (k + 1) < n + 1 - k := by omega
                  go_wp2_with fail
                  go_roundw
                  case rel => exact ⟨k + 1, by omega, by omega, by first | rfl | simp | go_num, hz, HB4.out⟩
                  case measure => simp [intOf] <;> omega
              · have m2I : (deepL c.path : Int) > 64 := by omega
                have hz := hbad.out (by rw [decide_eq_false m2, Bool.and_false, Bool.false_and])
                go_wp2_with fail
                go_ret
                exact ⟨by rw [hz]; rfl, HB3.out⟩
          · obtain rfl : k = n + 1 := by omega
            have hltI : ¬ ((n + 1 : Nat) : Int) < (n : Int) + 1 := by omega
            have HNr := Lib.hid (HN.out.below (W2 := wr) HBr.out)
            have hz : Hid (B = decide ((restU (fuelN r) d r).length = 0)) := Lib.hid (by
              have h := HALL.out
              rw [List.take_of_length_le (by have := hn.out; omega)] at h
              rw [hBe.out, h, Bool.true_and])
            have hrl : Hid ((restU (fuelN r) d r).length ≤ n) := Lib.hid (by rw [hn.out]; exact (rest_len _).1 _ _)
            obtain ⟨R, hR⟩ : ∃ R, R = (restU (fuelN r) d r).length := ⟨_, rfl⟩
            rw [← hR] at hz hrl HU
            clear hR
            go_wp2_with fail
            with_reducible refine (HU.out _ HNr.out).mono ?_
            rintro e w3 ⟨rfl, hb⟩
            have HB3 := Lib.hid (HBr.out.trans (hb.mono HBr.out.size))
            clear hb HBr
            by_cases h0 : R = 0
            · have hq : ((n + 1 - R : Nat) : Int) = (n : Int) + 1 := by omega
              rw [decide_eq_true h0] at hz
              rw [hq]
              go_wp2_with fail
              go_ret
              exact ⟨by rw [hz.out]; rfl, HB3.out⟩
            · have hq : ¬ ((n + 1 - R : Nat) : Int) = (n : Int) + 1 := by have := hrl.out; omega
              rw [decide_eq_false h0] at hz
              generalize ((n + 1 - R : Nat) : Int) = V at *
              have hq2 : (V == (n : Int) + 1) = false := by simpa using hq
              go_wp2_with fail
              go_ret
              exact ⟨by rw [hz.out, ← hq2]; rfl, HB3.out⟩
    · rw [decide_eq_false hpath, Bool.false_and, Bool.false_and, Bool.false_and] at hBe
      have hPe : ¬ P.toList = [] := by rw [ByteArray.toList_eq, hP.out]; exact hpath
      have hPe2 : P.toList.isEmpty = false := by
        cases h : P.toList with
        | nil => exact absurd h hPe
        | cons => rfl
      clear hpath
      go_enter Try.func29, Try.ntmps29
      go_wp2_with fail
      go_ret
      exact ⟨by rw [hBe.out]; rfl, Below.refl _ _⟩
  · have hI2 : (256 : Int) < (n : Int) + 1 := by omega
    rw [decide_eq_false (show ¬ r.length + 1 ≤ 256 by rw [← hn.out]; exact h256), Bool.false_and, Bool.false_and, Bool.false_and, Bool.false_and] at hBe
    go_enter Try.func29, Try.ntmps29
    go_wp2_with fail
    go_ret
    exact ⟨by rw [hBe.out]; rfl, Below.refl _ _⟩
end Go.Proofs.Ytglipljilcdboaa
