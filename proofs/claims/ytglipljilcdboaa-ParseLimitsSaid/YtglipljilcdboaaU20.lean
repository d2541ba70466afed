/- Several texts, one behind the other; each says by itself what it proves, and on what conditions. -/
import Derived.Test.YtglipljilcdboaaU19
import Derived.RangeFuncNested
import Derived.RangeFuncBound
import Derived.RangeFuncCalls
import Derived.RangeFuncLeaves
import Derived.WalkKit
import Derived.OwnWalkIn
import Derived.TacticsInMore
import Derived.RangeFuncBox
import Derived.RangeFuncFrom
/- Of the program: what feeding does with a text. Its conditions: what a tree keeps. -/
namespace Go.Proofs.Ytglipljilcdboaa
open Go.RowKit Go.Shelf
set_option linter.unusedVariables false
set_option linter.unusedSimpArgs false
section
open E
abbrev nilS : Value := .slice none 0 0
abbrev wrongR : Row := rdP (.v nilS) (.v nilS) (.v nilS) 0 [] true
abbrev intR (x : Int) : Row := ⟨[.one (.v (.int .i64 x))], true, none⟩
def envF (b : Nat) (pr pc : Blk) : Env := fun i => if i = 0 then ⟨b, 0, 0⟩ else if i = 1 then pr else pc
abbrev rwF (vb vn vo : Value) (p : Nat) (pa : List UInt8) : List (Nat × Row) := [(0, rdP (.v vb) (.v vn) (.v vo) p pa false), (1, ⟨[.one (.ptr 0 0 0 0 0)], false, none⟩), (2, intR 0)]
abbrev roR (r : Row) : Row := ⟨r.ps, false, none⟩
abbrev rwF0 (vb vn vo : Value) (p : Nat) (pa : List UInt8) : List (Nat × Row) := [(0, roR (rdP (.v vb) (.v vn) (.v vo) p pa false)), (1, ⟨[.one (.ptr 0 0 0 0 0)], false, none⟩), (2, roR (intR 0))]
abbrev tmFd (tx : List UInt8) (ok : Bool) : List (Nat × TV) := [(2, ptrTo 1), (4, ptrTo 2), (5, .v (stv tx)), (6, .v (.bool ok))]
theorem ro_row {ρ : Env} {r : Nat} {row : Row} {w : World} (h : RowAt ρ r row w) : RowAt ρ r (roR row) w := ⟨h.1, fun j v hv => ⟨(h.2.1 j v hv).1, fun h => by cases h⟩, (fun e k h => by cases h), h.2.2.2⟩
/-- Feeding's own cells: where the reader lies, what it tells. -/
structure Own (W : World) (b : Nat) (pr pc : Blk) (x : Int) : Prop where
  r : RowAt (fun _ => pr) 0 ⟨[.one (.v (.pointer (some ⟨b, 0, none⟩)))], false, none⟩ W
  c : RowAt (fun _ => pc) 0 (intR x) W
  n1 : b ≠ pr.1
  n2 : b ≠ pc.1
  n3 : pr.1 ≠ pc.1
noncomputable abbrev bodyF : Code := hdBody (rg Try.f20 0)
/-- An activation as it stands when a round's code begins. -/
structure ActF (a : Act) (b : Nat) (pr pc : Blk) (tx : List UInt8) (ok : Bool) : Prop where
  sz : a.tmps.size = Try.f20.ntmps
  df : a.defers = []
  t2 : a.tmps[2]? = some ((ptrTo 1).val (envF b pr pc))
  t4 : a.tmps[4]? = some ((ptrTo 2).val (envF b pr pc))
  t5 : a.tmps[5]? = some (stv tx)
  t6 : a.tmps[6]? = some (.bool ok)
theorem act_den {a : Act} {b : Nat} {pr pc : Blk} {tx : List UInt8} {ok : Bool} (h : ActF a b pr pc tx ok) {rows : List (Nat × Row)} {w : World} {wl : List Nat} (hi : idsOk (tmFd tx ok) rows [] = true) (hr : ∀ p ∈ rows, RowAt (envF b pr pc) p.1 p.2 w ∧ pok p.2.ps) (hds : ∀ p ∈ rows, ∀ q ∈ rows, p.1 ≠ q.1 → p.2.w = true → (envF b pr pc p.1).1 ≠ (envF b pr pc q.1).1) (hw : ∀ p ∈ rows, p.2.w = true → w.heap.size ≤ (envF b pr pc p.1).1 ∨ (envF b pr pc p.1).1 ∈ wl) (hk5 : rows.all (fun p => Nat.ble (p.1 + 1) 500 || Nat.ble 1000 p.1) = true) : Den w ⟨wl, envF b pr pc, []⟩ (envF b pr pc) (mkSt Try.f20.ntmps (tmFd tx ok) rows []) a w := by
  refine den_new h.sz h.df ⟨List.nodup_nil, fun D hD => by cases hD⟩ (KeepsOthers.refl _) (Fr.refl _ _) (fun p hp => ?_) hi hr hds hw rfl hk5
  simp only [List.mem_cons, List.not_mem_nil, or_false] at hp
  rcases hp with rfl | rfl | rfl | rfl
  · exact ⟨h.t2, trivial⟩
  · exact ⟨h.t4, trivial⟩
  · exact ⟨h.t5, rfl⟩
  · exact ⟨h.t6, rfl⟩
theorem own_rows {W : World} {b : Nat} {pr pc : Blk} (ho : Own W b pr pc 0) {vb vn vo : Value} {p : Nat} {pa : List UInt8} (hvb : vb.oneCell' = true) (hvn : vn.oneCell' = true) (hvo : vo.oneCell' = true) (h0 : RowAt (fun _ => ⟨b, 0, 0⟩) 0 (rdP (.v vb) (.v vn) (.v vo) p pa false) W) :
    (∀ q ∈ rwF vb vn vo p pa, RowAt (envF b pr pc) q.1 q.2 W ∧ pok q.2.ps) ∧ (∀ q ∈ rwF vb vn vo p pa, ∀ r ∈ rwF vb vn vo p pa, q.1 ≠ r.1 → q.2.w = true → (envF b pr pc q.1).1 ≠ (envF b pr pc r.1).1) ∧ (∀ q ∈ rwF vb vn vo p pa, q.2.w = true → W.heap.size ≤ (envF b pr pc q.1).1 ∨ (envF b pr pc q.1).1 ∈ [b, pc.1]) := by
  refine ⟨fun q hq => ?_, fun q hq r hr hqr hw => ?_, fun q hq hw => ?_⟩
  · simp only [List.mem_cons, List.not_mem_nil, or_false] at hq
    rcases hq with rfl | rfl | rfl
    · exact ⟨rdP_mv h0 rfl rfl rfl rfl, rdP_ok _ _ _ hvb hvn hvo⟩
    · exact ⟨ho.r, fun p hp => by obtain rfl := List.mem_singleton.1 hp; trivial⟩
    · exact ⟨ho.c, fun p hp => by obtain rfl := List.mem_singleton.1 hp; rfl⟩
  · simp only [List.mem_cons, List.not_mem_nil, or_false] at hq hr
    rcases hq with rfl | rfl | rfl <;> rcases hr with rfl | rfl | rfl <;> first | exact absurd rfl hqr | (cases hw; done) | exact ho.n1 | exact ho.n2 | exact Ne.symm ho.n2 | exact Ne.symm ho.n3
  · simp only [List.mem_cons, List.not_mem_nil, or_false] at hq
    rcases hq with rfl | rfl | rfl
    · exact .inr (List.mem_cons_self ..)
    · cases hw
    · exact .inr (List.mem_cons_of_mem _ (List.mem_singleton.2 rfl))
/-- What a round that is the last leaves. -/
def NoQ (W : World) (b : Nat) (pr pc : Blk) (D : List Nat) (e : Exit) (a : Act) (W' : World) : Prop := e = .ret ∧ Fr W (b :: (D ++ [pc.1])) W' ∧ RowAt (fun _ => ⟨b, 0, 0⟩) 0 wrongR W' ∧ RowAt (fun _ => pc) 0 (intR 4) W'
def GoQ (W : World) (b : Nat) (vb : Value) (t' : TS) (D : List Nat) (e : Exit) (a : Act) (W' : World) : Prop := e = .normal ∧ Fr W (b :: D) W' ∧ ∃ D', TkPre W' b vb t' D' ∧ ∀ x ∈ D', x ∈ D ∨ W.heap.size ≤ x
theorem no_fin {W w w' : World} {b : Nat} {pr pc : Blk} {D : List Nat} (hf : Fr W (b :: D) w) (hf2 : Fr w [b, pc.1] w') {ρ : Env} (he : ∀ r, r < 1000 → ρ r = envF b pr pc r) (hq : ∀ p ∈ [(0, wrongR), (2, intR 4)], RowAt ρ p.1 p.2 w') (a : Act) : NoQ W b pr pc D .ret a w' := by
  have e0 := he 0 (by decide)
  have e2 := he 2 (by decide)
  refine ⟨rfl, (hf.widen (fun x hx => ?_)).comp hf2 (fun x hx => .inl ?_), rdP_mv (hq _ (List.mem_cons_self ..)) e0.symm rfl rfl rfl, ?_⟩
  · rcases List.mem_cons.1 hx with rfl | h
    · exact List.mem_cons_self ..
    · exact List.mem_cons_of_mem _ (List.mem_append.2 (.inl h))
  · simp only [List.mem_cons, List.not_mem_nil, or_false] at hx
    rcases hx with rfl | rfl
    · exact List.mem_cons_self ..
    · exact List.mem_cons_of_mem _ (List.mem_append.2 (.inr (List.mem_singleton.2 rfl)))
  · have := hq _ (List.mem_cons_of_mem _ (List.mem_singleton.2 rfl))
    unfold RowAt at this ⊢
    rw [e2] at this
    exact this
set_option maxRecDepth 100000 in
/-- Not a text. -/
theorem body_false {L : Nat} {W : World} {b : Nat} {pr pc : Blk} {tx : List UInt8} {a : Act} (ha : ActF a b pr pc tx false) (ho : Own W b pr pc 0) {vb : Value} (hvb : vb.oneCell' = true) {t : TS} {D : List Nat} (h : TkPre W b vb t D) : KX Try.prog (some L) [.code bodyF] (NoQ W b pr pc D) a W := by
  obtain ⟨vn, vo, h1, hv, hd⟩ := h
  obtain ⟨hvn, hvo⟩ := trv_cells hv
  obtain ⟨g1, g2, g3⟩ := own_rows ho hvb hvn hvo h1
  have key : At Try.prog W ⟨[b, pc.1], envF b pr pc, []⟩ Try.f20.ntmps [] [.code bodyF] (NoQ W b pr pc D) (tmFd tx false) (rwF vb vn vo t.pl t.path) (some L) := At.finQ rfl [] trivial [.y] (rows2 := [(0, wrongR), (2, intR 4)]) (e := .ret) (ob := [true = true]) (by kernel_rfl) ⟨rfl, trivial⟩ fun a ρ w hko hf he hq => no_fin (Fr.refl _ _) hf he (fun p hp => (hq p hp).1) a
  exact key a W _ (act_den ha rfl g1 g2 g3 rfl)
set_option maxRecDepth 100000 in
theorem body_true {L : Nat} {W : World} {b : Nat} {pr pc : Blk} {tx : List UInt8} {a : Act} (ha : ActF a b pr pc tx true) (ho : Own W b pr pc 0) {vb : Value} (hvb : vb.oneCell' = true) {t : TS} {D : List Nat} (h : TkPre W b vb t D) (hg : Good t) (hlen : t.pl = 14 → tx.length ≤ 255) (hpr : pr.1 ∉ D) (hpc : pc.1 ∉ D) : KX Try.prog (some L) [.code bodyF] (match takeM t tx with
    | some t' => GoQ W b vb t' D
    | none => NoQ W b pr pc D) a W := by
  have h0 := h
  obtain ⟨vn, vo, h1, hv, hd⟩ := h
  obtain ⟨hvn, hvo⟩ := trv_cells hv
  obtain ⟨g1, g2, g3⟩ := own_rows ho hvb hvn hvo h1
  have den : Den W ⟨[], envF b pr pc, []⟩ (envF b pr pc) (mkSt Try.f20.ntmps (tmFd tx true) (rwF0 vb vn vo t.pl t.path) []) a W := by
    refine act_den ha rfl (fun q hq => ?_) (fun q hq r hr hqr hw => ?_) (fun q hq hw => ?_) rfl
    · simp only [List.mem_cons, List.not_mem_nil, or_false] at hq
      rcases hq with rfl | rfl | rfl
      · exact ⟨ro_row (g1 _ (List.mem_cons_self ..)).1, (g1 _ (List.mem_cons_self ..)).2⟩
      · exact g1 _ (by simp)
      · exact ⟨ro_row (g1 (2, intR 0) (by simp)).1, (g1 (2, intR 0) (by simp)).2⟩
    · simp only [List.mem_cons, List.not_mem_nil, or_false] at hq
      rcases hq with rfl | rfl | rfl <;> cases hw
    · simp only [List.mem_cons, List.not_mem_nil, or_false] at hq
      rcases hq with rfl | rfl | rfl <;> cases hw
  have hcall : ∀ (r : Option TS), takeM t tx = r → ∀ (ops : Array Oper) (tm1 : List (Nat × TV)) (w : World) (ρ : Env) (a : Act) (K : Act → World → Prop) (QQ : Exit → Act → World → Prop), Den W ⟨[], envF b pr pc, []⟩ ρ (mkSt Try.f20.ntmps tm1 (rwF0 vb vn vo t.pl t.path) []) a w → xCallG ops 7 (mkSt Try.f20.ntmps tm1 (rwF0 vb vn vo t.pl t.path) []) = some (31, 34, #[], #[], [.s (.lf (.ptr 0 1 0 0 0)), .v (stv tx)]) → (∀ w', TkQ w b vb D r (.returned (.bool r.isSome)) w' → K (a.put (some 31) (.bool r.isSome)) w') → wpOpIn (FW (some L)) 5 Try.prog ops QQ 7 K a w := by
    intro r ht ops tm1 w ρ a K QQ hden hy hk
    have e0 : ρ 0 = ⟨b, 0, 0⟩ := hden.e0 0 (.inl (by decide))
    refine xCallG_ok hy hden ent34 ?_
    rw [show #[] ++ (List.map (TV.val ρ) [.s (.lf (.ptr 0 1 0 0 0)), .v (stv tx)]).toArray ++ #[] = #[.pointer (some ⟨b, 1, none⟩), stv tx] by rw [show List.map (TV.val ρ) [.s (.lf (.ptr 0 1 0 0 0)), .v (stv tx)] = [.pointer (some ⟨b, 1, none⟩), stv tx] by rw [← ptT_val e0]; rfl]; rfl]
    refine (take_any w b vb hvb t hg D (h0.below hden.fr) tx hlen).mono ?_
    intro e w' hq
    rw [ht] at hq
    have := hq.bool
    subst this
    exact ⟨_, rfl, hk w' hq⟩
  cases ht : takeM t tx with
  | some t' =>
    refine (?_ : At Try.prog W ⟨[], envF b pr pc, []⟩ Try.f20.ntmps [] [.code bodyF] (GoQ W b vb t' D) (tmFd tx true) (rwF0 vb vn vo t.pl t.path) (some L)) a W _ den
    refine At.run rfl [] trivial [] (tm2 := tmFd tx true) (rows2 := rwF0 vb vn vo t.pl t.path) (ob := []) (td := rp Try.f20 8) (by kernel_rfl) trivial rfl rfl (by intro h; cases h) ?_
    refine At.opX (α := World) 7 31 [] trivial (fun x => x) (fun _ => nB) (fun _ => [(26, .v (.bool false)), (31, .v (.bool true))]) (fun _ => [(33, .v (.bool false))]) (fun _ => []) (fun _ => []) (fun x => GoQ W b vb t' D .normal a x) rfl (tm1 := [(26, .v (.bool false)), (29, .s (.lf (.ptr 0 1 0 0 0))), (30, .v (stv tx))]) (rows1 := rwF0 vb vn vo t.pl t.path) (o1 := []) (o2 := fun _ => []) (by kernel_rfl) trivial rfl ?_ (fun x _ => by kernel_rfl) (fun x _ => trivial) (fun x => rfl) (fun x hx => ?_)
    · intro a2 w ρ K QQ hden hk
      refine hcall (some t') ht _ _ w ρ a2 K QQ hden (by kernel_rfl) fun w' hq => ?_
      obtain ⟨_, D', q1, q2, q3⟩ := hq.before hden.fr
      refine hk w' (.bool true) w' (fun _ => ⟨0, 0, 0⟩) ⟨rfl, q2, D', q1, q3⟩ (den_again (d := 31) (tm' := [(26, .v (.bool false)), (31, .v (.bool true))]) (rows2 := []) (K := []) hden (by decide) (fun p hp => ?_) rfl (fun p hp => by cases hp) (fun p hp => by cases hp) rfl rfl)
      simp only [List.mem_cons, List.not_mem_nil, or_false] at hp
      rcases hp with rfl | rfl
      · exact .inr ⟨(show (26 : Nat) ≠ 31 by decide), rfl, fun r hr => by cases hr⟩
      · exact .inl ⟨rfl, rfl, rfl⟩
    · refine At.finQ rfl [] trivial [.n] (rows2 := []) (e := .normal) (ob := [false = false]) (by kernel_rfl) ⟨rfl, trivial⟩ fun a ρ w hko hf he hq => ?_
      obtain ⟨_, h2, D', h3, h4⟩ := hx
      exact ⟨rfl, h2.comp hf (fun x hx => by cases hx), D', h3.below hf, h4⟩
  | none =>
    refine (?_ : At Try.prog W ⟨[], envF b pr pc, []⟩ Try.f20.ntmps [] [.code bodyF] (NoQ W b pr pc D) (tmFd tx true) (rwF0 vb vn vo t.pl t.path) (some L)) a W _ den
    refine At.run rfl [] trivial [] (tm2 := tmFd tx true) (rows2 := rwF0 vb vn vo t.pl t.path) (ob := []) (td := rp Try.f20 8) (by kernel_rfl) trivial rfl rfl (by intro h; cases h) ?_
    refine At.opX (α := World × Value × Value × Nat × List UInt8) 7 31 [] trivial (fun x => x.1) (fun _ => ⟨[b, pc.1], envF b pr pc, []⟩) (fun _ => [(2, ptrTo 1), (4, ptrTo 2), (26, .v (.bool false)), (31, .v (.bool false))]) (fun _ => [(2, ptrTo 1), (4, ptrTo 2), (33, .v (.bool true))]) (fun x => rwF vb x.2.1 x.2.2.1 x.2.2.2.1 x.2.2.2.2) (fun x => rwF vb x.2.1 x.2.2.1 x.2.2.2.1 x.2.2.2.2) (fun x => Fr W (b :: D) x.1) rfl (tm1 := [(2, ptrTo 1), (4, ptrTo 2), (26, .v (.bool false)), (29, .s (.lf (.ptr 0 1 0 0 0))), (30, .v (stv tx))]) (rows1 := rwF0 vb vn vo t.pl t.path) (o1 := []) (o2 := fun _ => []) (by kernel_rfl) trivial rfl ?_ (fun x _ => by kernel_rfl) (fun x _ => trivial) (fun x => rfl) (fun x hx => ?_)
    · intro a2 w ρ K QQ hden hk
      refine hcall none ht _ _ w ρ a2 K QQ hden (by kernel_rfl) fun w' hq => ?_
      have e1 : ρ 1 = pr := hden.e0 1 (.inl (by decide))
      have e2 : ρ 2 = pc := hden.e0 2 (.inl (by decide))
      obtain ⟨_, q2, vn2, vo2, pl2, pa2, q3, q4, q5⟩ := hq.before hden.fr
      have ho2 : Own w' b pr pc 0 := ⟨rowAt_fr ho.r q2 (fun hm => by rcases List.mem_cons.1 hm with h | h; exact ho.n1 h.symm; exact hpr h), rowAt_fr ho.c q2 (fun hm => by rcases List.mem_cons.1 hm with h | h; exact ho.n2 h.symm; exact hpc h), ho.n1, ho.n2, ho.n3⟩
      obtain ⟨k1, k2, k3⟩ := own_rows ho2 hvb q3 q4 q5
      have hd2 := den_again (d := 31) (v := .bool false) (σ := envF b pr pc) (tm' := [(2, ptrTo 1), (4, ptrTo 2), (26, .v (.bool false)), (31, .v (.bool false))]) (rows2 := rwF vb vn2 vo2 pl2 pa2) (K := []) hden (by decide) (fun p hp => ?_) rfl k1 k2 rfl rfl
      · exact hk (w', vn2, vo2, pl2, pa2) (.bool false) w' (envF b pr pc) q2 hd2
      · simp only [List.mem_cons, List.not_mem_nil, or_false] at hp
        rcases hp with rfl | rfl | rfl | rfl
        · exact .inr ⟨(show (2 : Nat) ≠ 31 by decide), rfl, fun r hr => by obtain rfl := List.mem_singleton.1 hr; exact e1.symm⟩
        · exact .inr ⟨(show (4 : Nat) ≠ 31 by decide), rfl, fun r hr => by obtain rfl := List.mem_singleton.1 hr; exact e2.symm⟩
        · exact .inr ⟨(show (26 : Nat) ≠ 31 by decide), rfl, fun r hr => by cases hr⟩
        · exact .inl ⟨rfl, rfl, rfl⟩
    · exact At.finQ rfl [] trivial [.y] (rows2 := [(0, wrongR), (2, intR 4)]) (e := .ret) (ob := [true = true]) (by kernel_rfl) ⟨rfl, trivial⟩ fun a ρ w hko hf he hq => no_fin hx hf he (fun p hp => (hq p hp).1) a
end
end Go.Proofs.Ytglipljilcdboaa
/- Of the program: the iterator over texts made. No condition. -/
namespace Go.Proofs.Ytglipljilcdboaa
open Go.RowKit Go.Shelf
set_option linter.unusedVariables false
set_option linter.unusedSimpArgs false
section
open E
theorem row_new1 (w : World) (v : Value) (ty : TypeId) : RowAt (fun _ => ⟨w.heap.size, 0, 0⟩) 0 ⟨[.one (.v v)], false, none⟩ (w.alloc (.cells #[v] ty)) := by
  refine ⟨by show w.heap.size < (w.alloc _).heap.size; rw [World.size_alloc]; omega, fun j x hx => ⟨?_, fun h => by cases h⟩, (fun e k h => by cases h), ⟨#[v], ty, _, Go.heap_alloc_new w _⟩⟩
  have hx2 : [v][j]? = some x := hx
  match j, hx2 with
  | 0, h => cases h; exact cell_alloc_new
  | j + 1, h => cases h
theorem fr_alloc (w : World) (o : Obj) : Fr w [] (w.alloc o) := Fr.of_below ((Below.refl _ w).alloc (Nat.le_refl _) o) _
attribute [local go_sem] Oper.semAt_some
theorem mk_in (n : Nat) (q : Addr) (s : ByteArray) (f : Fn) (fi ca : Array Value) (w : World) :
    CallsIn Fence.wide n Try.prog 32 #[.pointer (some q), .string s, .func f fi ca] w fun e w' => e = .returned (.func (.func 46) #[] #[.pointer (some ⟨w.heap.size + 1, 0, none⟩), .pointer (some ⟨w.heap.size + 1 + 1, 0, none⟩), .pointer (some ⟨w.heap.size, 0, none⟩)]) ∧ ((w.alloc (.cells #[.pointer (some q)] 87)).alloc (.cells #[.string s] 9)).alloc (.cells #[.func f fi ca] 78) = w' := by
  refine callsIn_of_wp Try.func32 rfl trivial ?_ rfl
  simp only [Try.ntmps32, List.size_toArray, List.length_cons, List.length_nil, Nat.reduceAdd, Nat.reduceSub, Array.replicate_succ, Array.replicate_zero, List.push_toArray, List.append_toArray, List.nil_append, List.cons_append]
  gi_wp2
  go_ret
  exact ⟨rfl, rfl⟩
theorem ent32 : Enters Try.prog 32 := enters_of Try.func32 (by kernel_rfl) rfl
/-- The iterator made, with its boxes. -/
theorem mk_any (b : Nat) (s : List UInt8) (w : World) : Calls Try.prog 32 #[.pointer (some ⟨b, 0, none⟩), stv s, mfv b] w fun e w' => ∃ p1 p2 p3, e = .returned (.func (.func 46) #[] #[.pointer (some ⟨p1, 0, none⟩), .pointer (some ⟨p2, 0, none⟩), .pointer (some ⟨p3, 0, none⟩)]) ∧ Fr w [] w' ∧ w.heap.size ≤ p1 ∧ w.heap.size ≤ p2 ∧ w.heap.size ≤ p3 ∧
    RowAt (fun _ => ⟨p1, 0, 0⟩) 0 ⟨[.one (.v (stv s))], false, none⟩ w' ∧ RowAt (fun _ => ⟨p2, 0, 0⟩) 0 ⟨[.one (.v (mfv b))], false, none⟩ w' ∧ RowAt (fun _ => ⟨p3, 0, 0⟩) 0 ⟨[.one (.v (.pointer (some ⟨b, 0, none⟩)))], false, none⟩ w' := by
  refine ((callsIn_wide (n := 6)).1 (mk_in 6 ⟨b, 0, none⟩ ⟨s.toArray⟩ (.func 33) #[.pointer (some ⟨b, 1, none⟩)] #[] w)).mono ?_
  rintro e w' ⟨rfl, rfl⟩
  have f1 := fr_alloc w (.cells #[.pointer (some ⟨b, 0, none⟩)] 87)
  have f2 := fr_alloc (w.alloc (.cells #[.pointer (some ⟨b, 0, none⟩)] 87)) (.cells #[stv s] 9)
  have f3 := fr_alloc ((w.alloc (.cells #[.pointer (some ⟨b, 0, none⟩)] 87)).alloc (.cells #[stv s] 9)) (.cells #[mfv b] 78)
  have r3 := row_new1 w (.pointer (some ⟨b, 0, none⟩)) 87
  have r1 := row_new1 (w.alloc (.cells #[.pointer (some ⟨b, 0, none⟩)] 87)) (stv s) 9
  have r2 := row_new1 ((w.alloc (.cells #[.pointer (some ⟨b, 0, none⟩)] 87)).alloc (.cells #[stv s] 9)) (mfv b) 78
  rw [World.size_alloc] at r1 r2
  rw [World.size_alloc] at r2
  exact ⟨w.heap.size + 1, w.heap.size + 1 + 1, w.heap.size, rfl, (f1.comp f2 (fun x hx => by cases hx)).comp f3 (fun x hx => by cases hx), by omega, by omega, Nat.le_refl _, rowAt_fr r1 f3 (by simp), r2, rowAt_fr (rowAt_fr r3 f2 (by simp)) f3 (by simp)⟩
end
end Go.Proofs.Ytglipljilcdboaa
/- Of the program: a round of feeding, as the iterator asks for it. Its conditions: what a tree keeps. -/
namespace Go.Proofs.Ytglipljilcdboaa
open Go.RowKit Go.Shelf
set_option linter.unusedVariables false
set_option linter.unusedSimpArgs false
section
open E
noncomputable abbrev asgF : Code := hdAsg (rg Try.f20 0)
theorem asgF_ok : asg asgF = some [(5, .tmp 22), (6, .tmp 23)] := by kernel_rfl
theorem fr_put (w : World) (l : Nat) (o : Obj) : Fr w [l] (w.putObj l o) := by
  have h := grownBy_putObj' w l o
  exact ⟨h.os, h.tape, h.output, h.size, fun k hk hn => World.putObj_heap_other (fun e => hn (by rw [e]; simp))⟩
theorem TkPre.fr {W W' : World} {b : Nat} {vb : Value} {t : TS} {D S : List Nat} (h : TkPre W b vb t D) (hf : Fr W S W') (hd : ∀ x ∈ b :: D, x ∉ S) : TkPre W' b vb t D := by
  obtain ⟨vn, vo, h1, h2, h3⟩ := h
  exact ⟨vn, vo, rowAt_fr h1 hf (hd b (List.mem_cons_self ..)), h2.fr hf fun x hx => hd x (List.mem_cons_of_mem _ hx), h3⟩
theorem Own.fr {W W' : World} {b : Nat} {pr pc : Blk} {x : Int} {S : List Nat} (h : Own W b pr pc x) (hf : Fr W S W') (h1 : pr.1 ∉ S) (h2 : pc.1 ∉ S) : Own W' b pr pc x := ⟨rowAt_fr h.r hf h1, rowAt_fr h.c hf h2, h.n1, h.n2, h.n3⟩
/-- The loop's record. -/
noncomputable def recF (fn : FuncId) (a : Act) (n : Nat) (st : LoopState) (pe : Option Code) : Loop := { state := st, pending := pe, fn := fn, tmps := a.tmps, params := #[22, 23], assign := asgF, body := bodyF, defers := n }
def JF (b : Nat) (pr pc : Blk) (n : Nat) (rc : Loop) (W : World) : Prop := W.heap[n + 1]? = some (.loop rc) ∧ W.heap[n]? = some (.deferred (some [])) ∧ Own W b pr pc 0
def JxF (b : Nat) (pr pc : Blk) (n : Nat) (rc : Loop) (W : World) : Prop := W.heap[n + 1]? = some (.loop rc) ∧ W.heap[n]? = some (.deferred (some [])) ∧ RowAt (fun _ => ⟨b, 0, 0⟩) 0 wrongR W ∧ RowAt (fun _ => pc) 0 (intR 4) W
theorem act_round {a : Act} {b : Nat} {pr pc : Blk} (hsz : a.tmps.size = Try.f20.ntmps) (h2 : a.tmps[2]? = some ((ptrTo 1).val (envF b pr pc))) (h4 : a.tmps[4]? = some ((ptrTo 2).val (envF b pr pc))) (s : List UInt8) (ok : Bool) :
    ActF (asgA [(5, .tmp 22), (6, .tmp 23)] { tmps := ((#[22, 23] : Array Tmp).zip #[stv s, .bool ok]).foldl (fun t (p, v) => t.setIfInBounds p v) a.tmps, defers := [] }) b pr pc s ok := by
  have hn : Try.f20.ntmps = 37 := rfl
  have e : ((#[22, 23] : Array Tmp).zip #[stv s, .bool ok]).foldl (fun t (p, v) => t.setIfInBounds p v) a.tmps = (a.tmps.setIfInBounds 22 (stv s)).setIfInBounds 23 (.bool ok) := by
    rw [← Array.foldl_toList, Array.toList_zip]
    rfl
  rw [e]
  have g22 : ((a.tmps.setIfInBounds 22 (stv s)).setIfInBounds 23 (.bool ok))[22]? = some (stv s) := by
    rw [Array.getElem?_setIfInBounds, if_neg (by decide), Array.getElem?_setIfInBounds, if_pos rfl]; simp [hsz, hn]
  have g23 : ((a.tmps.setIfInBounds 22 (stv s)).setIfInBounds 23 (.bool ok))[23]? = some (.bool ok) := by
    rw [Array.getElem?_setIfInBounds, if_pos rfl]; simp [hsz, hn]
  obtain ⟨T, hT⟩ : ∃ T, T = (a.tmps.setIfInBounds 22 (stv s)).setIfInBounds 23 (.bool ok) := ⟨_, rfl⟩
  have hTs : T.size = 37 := by rw [hT]; simp [hsz, hn]
  have g2 : T[2]? = some ((ptrTo 1).val (envF b pr pc)) := by rw [hT, Array.getElem?_setIfInBounds, if_neg (by decide), Array.getElem?_setIfInBounds, if_neg (by decide)]; exact h2
  have g4 : T[4]? = some ((ptrTo 2).val (envF b pr pc)) := by rw [hT, Array.getElem?_setIfInBounds, if_neg (by decide), Array.getElem?_setIfInBounds, if_neg (by decide)]; exact h4
  rw [← hT] at g22 g23 ⊢
  have e2 : asgA [(5, .tmp 22), (6, .tmp 23)] { tmps := T, defers := [] } = { tmps := (T.setIfInBounds 5 (stv s)).setIfInBounds 6 (.bool ok), defers := [] } := by
    show (Act.mk ((T.setIfInBounds 5 (T.getD 22 undef)).setIfInBounds 6 ((T.setIfInBounds 5 (T.getD 22 undef)).getD 23 undef)) []) = _
    have q1 : T.getD 22 undef = stv s := by rw [Array.getD_eq_getD_getElem?, g22]; rfl
    rw [q1]
    have q2 : (T.setIfInBounds 5 (stv s)).getD 23 undef = .bool ok := by rw [Array.getD_eq_getD_getElem?, Array.getElem?_setIfInBounds, if_neg (by decide), g23]; rfl
    rw [q2]
  rw [e2]
  refine ⟨by simp [hTs, hn], rfl, ?_, ?_, ?_, ?_⟩
  · show ((T.setIfInBounds 5 (stv s)).setIfInBounds 6 (.bool ok))[2]? = _
    rw [Array.getElem?_setIfInBounds, if_neg (by decide), Array.getElem?_setIfInBounds, if_neg (by decide)]; exact g2
  · show ((T.setIfInBounds 5 (stv s)).setIfInBounds 6 (.bool ok))[4]? = _
    rw [Array.getElem?_setIfInBounds, if_neg (by decide), Array.getElem?_setIfInBounds, if_neg (by decide)]; exact g4
  · show ((T.setIfInBounds 5 (stv s)).setIfInBounds 6 (.bool ok))[5]? = _
    rw [Array.getElem?_setIfInBounds, if_neg (by decide), Array.getElem?_setIfInBounds, if_pos rfl]; simp [hTs]
  · show ((T.setIfInBounds 5 (stv s)).setIfInBounds 6 (.bool ok))[6]? = _
    rw [Array.getElem?_setIfInBounds, if_pos rfl]; simp [hTs]
/-- A round asked for: it begins, its code runs, it ends. -/
theorem round_ask {fn : FuncId} {a : Act} {b n : Nat} {pr pc : Blk} {W : World} {s : List UInt8} {ok : Bool} {R : Ending → World → Prop} (hJ : W.heap[n + 1]? = some (.loop (recF fn a n .ready none))) (Q : Exit → Act → World → Prop)
    (hb : ∀ a1, ActF a1 b pr pc s ok → KX Try.prog (some (n + 1)) [.code bodyF] Q a1 (W.putObj (n + 1) (.loop (recF fn a n .busy none)))) (hsz : a.tmps.size = Try.f20.ntmps) (h2 : a.tmps[2]? = some ((ptrTo 1).val (envF b pr pc))) (h4 : a.tmps[4]? = some ((ptrTo 2).val (envF b pr pc)))
    (hQ : ∀ e a1 W2, Q e a1 W2 → roundPost Try.prog (n + 1) R e a1 W2) : YieldAt (FW none) 4 Try.prog (n + 1) #[stv s, .bool ok] W R := by
  have hy := run_yield (P := Try.prog) (args := #[stv s, .bool ok]) hJ rfl
  refine ⟨fn, _, asgF, bodyF, hy, roundIn_of_wpIn trivial (asg_ok asgF_ok ?_)⟩
  refine ⟨_, run_beginRound hJ rfl, ?_⟩
  exact wpIn_mono ((hb _ (act_round hsz h2 h4 s ok)).wpIn (n := 4)) hQ
theorem ctx_ok {fn : FuncId} {a : Act} {b n : Nat} {pr pc : Blk} (hsz : a.tmps.size = Try.f20.ntmps) (h2 : a.tmps[2]? = some ((ptrTo 1).val (envF b pr pc))) (h4 : a.tmps[4]? = some ((ptrTo 2).val (envF b pr pc))) : YCtx b (n + 1) [n + 1, n, pr.1, pc.1] (JF b pr pc n (recF fn a n .ready none)) (JxF b pr pc n (recF fn a n .done (some .ret))) := by
  have hlt : ∀ {W : World} {k : Nat} {o : Obj}, W.heap[k]? = some o → k < W.heap.size := fun h => (Array.getElem?_eq_some_iff.1 h).1
  have put : ∀ {W : World} {st : LoopState} {pe : Option Code} {D : List Nat} {vb : Value} {t : TS}, TkPre W b vb t D → (∀ x ∈ b :: D, x ∉ [n + 1, n, pr.1, pc.1]) → TkPre (W.putObj (n + 1) (.loop (recF fn a n st pe))) b vb t D := fun h hd => h.fr (fr_put _ _ _) fun x hx hm => hd x hx (by simp at hm; simp [hm])
  refine ⟨fun W ⟨j1, j2, j3⟩ x hx => ?_, fun W W' S ⟨j1, j2, j3⟩ hf hS => ?_, fun W W' ⟨j1, j2, j3, j4⟩ hf => ?_, fun W t D vb s t' hvb hg hlen ⟨j1, j2, j3⟩ hp hk ht => ?_, fun W t D vb s ok hvb hg ⟨j1, j2, j3⟩ hp hk hok => ?_⟩
  · simp only [List.mem_cons, List.not_mem_nil, or_false] at hx
    rcases hx with rfl | rfl | rfl | rfl
    · exact hlt j1
    · exact hlt j2
    · exact j3.r.1
    · exact j3.c.1
  · exact ⟨(hf.block _ (hlt j1) fun h => hS _ h (by simp)).trans j1, (hf.block _ (hlt j2) fun h => hS _ h (by simp)).trans j2, j3.fr hf (fun h => hS _ h (by simp)) (fun h => hS _ h (by simp))⟩
  · exact ⟨(hf.block _ (hlt j1) (by simp)).trans j1, (hf.block _ (hlt j2) (by simp)).trans j2, rowAt_fr j3 hf (by simp), rowAt_fr j4 hf (by simp)⟩
  · have n1 : n + 1 ∉ b :: D := fun h => hk _ h (by simp)
    have n2 : n ∉ b :: D := fun h => hk _ h (by simp)
    have n3 : pr.1 ∉ b :: D := fun h => hk _ h (by simp)
    have n4 : pc.1 ∉ b :: D := fun h => hk _ h (by simp)
    have hpr1 : pr.1 ≠ n + 1 := fun e => by
      obtain ⟨cur, ty, fz, hc⟩ := j3.r.2.2.2
      simp only at hc
      rw [e, j1] at hc; cases hc
    have hpc1 : pc.1 ≠ n + 1 := fun e => by
      obtain ⟨cur, ty, fz, hc⟩ := j3.c.2.2.2
      simp only at hc
      rw [e, j1] at hc; cases hc
    have hpr2 : pr.1 ≠ n := fun e => by
      obtain ⟨cur, ty, fz, hc⟩ := j3.r.2.2.2
      simp only at hc
      rw [e, j2] at hc; cases hc
    have hpc2 : pc.1 ≠ n := fun e => by
      obtain ⟨cur, ty, fz, hc⟩ := j3.c.2.2.2
      simp only at hc
      rw [e, j2] at hc; cases hc
    have f1 := fr_put W (n + 1) (.loop (recF fn a n .busy none))
    have ho := j3.fr f1 (by simpa using hpr1) (by simpa using hpc1)
    have hl2 : (W.putObj (n + 1) (.loop (recF fn a n .busy none))).heap[n + 1]? = some (.loop (recF fn a n .busy none)) := World.putObj_heap_same (hlt j1)
    have hk2 : (W.putObj (n + 1) (.loop (recF fn a n .busy none))).heap[n]? = some (.deferred (some [])) := (World.putObj_heap_other (by omega)).trans j2
    refine round_ask j1 (GoQ (W.putObj (n + 1) (.loop (recF fn a n .busy none))) b vb t' D) (fun a1 ha => by
      have := body_true (L := n + 1) ha ho hvb (put hp hk) hg hlen (fun h => n3 (List.mem_cons_of_mem _ h)) (fun h => n4 (List.mem_cons_of_mem _ h))
      rw [ht] at this
      exact this) hsz h2 h4 fun e a1 W2 hq => ?_
    obtain ⟨rfl, hf, D', q1, q2⟩ := hq
    have l2 := (hf.block _ (hlt hl2) n1).trans hl2
    have k2 := (hf.block _ (hlt hk2) n2).trans hk2
    have f2 := fr_put W2 (n + 1) (.loop (recF fn a n .ready none))
    have hDn : ∀ x ∈ b :: D', x ∉ [n + 1] := fun x hx hm => by
      obtain rfl := List.mem_singleton.1 hm
      rcases List.mem_cons.1 hx with h | h
      · exact n1 (h ▸ List.mem_cons_self ..)
      · rcases q2 _ h with h3 | h3
        · exact n1 (List.mem_cons_of_mem _ h3)
        · have := hlt hl2; omega
    refine ⟨_, _, run_endRound none l2, rfl, ⟨World.putObj_heap_same (hlt l2), (World.putObj_heap_other (by omega)).trans k2, (ho.fr hf n3 n4).fr f2 (by simpa using hpr1) (by simpa using hpc1)⟩, D', q1.fr f2 hDn, ?_, fun x hx => ?_⟩
    · refine ((f1.widen (fun x hx => ?_)).comp hf fun x hx => .inl (List.mem_append.2 (.inl hx))).comp f2 fun x hx => .inl ?_
      · obtain rfl := List.mem_singleton.1 hx; simp
      · obtain rfl := List.mem_singleton.1 hx; simp
    · rcases q2 x hx with h | h
      · exact .inl h
      · exact .inr (Nat.le_trans f1.size h)
  · have n1 : n + 1 ∉ b :: D := fun h => hk _ h (by simp)
    have n2 : n ∉ b :: D := fun h => hk _ h (by simp)
    have n3 : pr.1 ∉ b :: D := fun h => hk _ h (by simp)
    have n4 : pc.1 ∉ b :: D := fun h => hk _ h (by simp)
    have hpr1 : pr.1 ≠ n + 1 := fun e => by
      obtain ⟨cur, ty, fz, hc⟩ := j3.r.2.2.2
      simp only at hc
      rw [e, j1] at hc; cases hc
    have hpc1 : pc.1 ≠ n + 1 := fun e => by
      obtain ⟨cur, ty, fz, hc⟩ := j3.c.2.2.2
      simp only at hc
      rw [e, j1] at hc; cases hc
    have hpc2 : pc.1 ≠ n := fun e => by
      obtain ⟨cur, ty, fz, hc⟩ := j3.c.2.2.2
      simp only at hc
      rw [e, j2] at hc; cases hc
    have f1 := fr_put W (n + 1) (.loop (recF fn a n .busy none))
    have ho := j3.fr f1 (by simpa using hpr1) (by simpa using hpc1)
    have hl2 : (W.putObj (n + 1) (.loop (recF fn a n .busy none))).heap[n + 1]? = some (.loop (recF fn a n .busy none)) := World.putObj_heap_same (hlt j1)
    have hk2 : (W.putObj (n + 1) (.loop (recF fn a n .busy none))).heap[n]? = some (.deferred (some [])) := (World.putObj_heap_other (by omega)).trans j2
    refine round_ask j1 (NoQ (W.putObj (n + 1) (.loop (recF fn a n .busy none))) b pr pc D) (fun a1 ha => by
      cases ok with
      | false => exact body_false (L := n + 1) ha ho hvb (put hp hk)
      | true =>
        have := body_true (L := n + 1) ha ho hvb (put hp hk) hg (hok rfl).1 (fun h => n3 (List.mem_cons_of_mem _ h)) (fun h => n4 (List.mem_cons_of_mem _ h))
        rw [(hok rfl).2] at this
        exact this) hsz h2 h4 fun e a1 W2 hq => ?_
    obtain ⟨rfl, hf, q1, q2⟩ := hq
    have hDp : ∀ y, y ≠ pc.1 → y ∉ b :: D → y ∉ b :: (D ++ [pc.1]) := fun y h1 h2 hm => by
      rcases List.mem_cons.1 hm with h | h
      · exact h2 (h ▸ List.mem_cons_self ..)
      · rcases List.mem_append.1 h with h | h
        · exact h2 (List.mem_cons_of_mem _ h)
        · exact h1 (List.mem_singleton.1 h)
    have l2 := (hf.block _ (hlt hl2) (hDp _ (Ne.symm hpc1) n1)).trans hl2
    have k2 := (hf.block _ (hlt hk2) (hDp _ (Ne.symm hpc2) n2)).trans hk2
    have f2 := fr_put W2 (n + 1) (.loop (recF fn a n .done (some .ret)))
    have hbn : b ∉ [n + 1] := fun h => n1 (by rw [List.mem_singleton.1 h]; simp)
    refine ⟨_, _, run_endRound (some .ret) l2, rfl, ⟨World.putObj_heap_same (hlt l2), (World.putObj_heap_other (by omega)).trans k2, rowAt_fr q1 f2 hbn, rowAt_fr q2 f2 (by simpa using hpc1)⟩, ?_⟩
    refine ((f1.widen (fun x hx => ?_)).comp hf fun x hx => .inl ?_).comp f2 fun x hx => .inl ?_
    · obtain rfl := List.mem_singleton.1 hx; simp
    · rcases List.mem_cons.1 hx with rfl | h
      · simp
      · rcases List.mem_append.1 h with h | h
        · exact List.mem_append.2 (.inl (List.mem_cons_of_mem _ h))
        · obtain rfl := List.mem_singleton.1 h; simp
    · obtain rfl := List.mem_singleton.1 hx; simp
end
end Go.Proofs.Ytglipljilcdboaa
/- Of the program: feeding, where it ranges over the texts. Its conditions: what a tree keeps, what is begun. -/
namespace Go.Proofs.Ytglipljilcdboaa
open Go.RowKit Go.Shelf
set_option linter.unusedVariables false
set_option linter.unusedSimpArgs false
section
open E
theorem RdAt.fr {W W' : World} {b : Nat} {t : TS} {bs : List UInt8} {D S : List Nat} (h : RdAt W b t bs D) (hf : Fr W S W') (hd : ∀ x ∈ b :: D, x ∉ S) : RdAt W' b t bs D := by
  obtain ⟨vb, E, D', rfl, h1, h2, h3⟩ := h
  refine ⟨vb, E, D', rfl, h1.fr hf fun x hx => hd x (List.mem_cons_of_mem _ (List.mem_append.2 (.inl hx))), h2.fr hf fun x hx => ?_, h3⟩
  rcases List.mem_cons.1 hx with rfl | h
  · exact hd _ (List.mem_cons_self ..)
  · exact hd x (List.mem_cons_of_mem _ (List.mem_append.2 (.inr h)))
theorem RdAt.lt {W : World} {b : Nat} {t : TS} {bs : List UInt8} {D : List Nat} (h : RdAt W b t bs D) : ∀ x ∈ b :: D, x < W.heap.size := by
  obtain ⟨vb, E, D', rfl, h1, ⟨vn, vo, h2, h4, _⟩, h3⟩ := h
  intro x hx
  rcases List.mem_cons.1 hx with rfl | h
  · exact h2.1
  · rcases List.mem_append.1 h with h | h
    · exact h1.lt x h
    · exact h4.lt x h
abbrev cloV (p1 p2 p3 : Nat) : Value := .func (.func 46) #[] #[.pointer (some ⟨p1, 0, none⟩), .pointer (some ⟨p2, 0, none⟩), .pointer (some ⟨p3, 0, none⟩)]
/-- Ahead of the range. -/
structure RgPre (a : Act) (W : World) (b : Nat) (pr pc : Blk) (t : TS) (bs s : List UInt8) (D0 : List Nat) (p1 p2 p3 : Nat) : Prop where
  sz : a.tmps.size = Try.f20.ntmps
  df : a.defers = []
  t2 : a.tmps[2]? = some ((ptrTo 1).val (envF b pr pc))
  t4 : a.tmps[4]? = some ((ptrTo 2).val (envF b pr pc))
  t21 : a.tmps[21]? = some (cloV p1 p2 p3)
  rd : RdAt W b t bs D0
  ow : Own W b pr pc 0
  r1 : RowAt (fun _ => ⟨p1, 0, 0⟩) 0 ⟨[.one (.v (stv s))], false, none⟩ W
  r2 : RowAt (fun _ => ⟨p2, 0, 0⟩) 0 ⟨[.one (.v (mfv b))], false, none⟩ W
  r3 : RowAt (fun _ => ⟨p3, 0, 0⟩) 0 ⟨[.one (.v (.pointer (some ⟨b, 0, none⟩)))], false, none⟩ W
  n1 : p1 ∉ b :: D0
  n2 : p2 ∉ b :: (D0 ++ [pr.1, pc.1])
  n3 : p3 ∉ b :: (D0 ++ [pr.1, pc.1])
  k1 : pr.1 ∉ b :: D0
  k2 : pc.1 ∉ b :: D0
theorem range_any {a : Act} {W : World} {b : Nat} {pr pc : Blk} {t : TS} {bs s : List UInt8} {D0 : List Nat} {p1 p2 p3 : Nat} (h : RgPre a W b pr pc t bs s D0 p1 p2 p3) (hg : Good t) (hst : Stuck t bs) (hlen : bs.length + s.length ≤ 100000000000) {k : List Item} {Q : Exit → Act → World → Prop}
    (hdone : ∀ t' bs' D' W' a', runM t (bs ++ s) = some (t', bs') → a'.tmps = a.tmps → a'.defers = [markD W.heap.size] → Good t' → RdAt W' b t' bs' D' → Own W' b pr pc 0 → Fr W (b :: (D0 ++ [pr.1, pc.1])) W' → (∀ y ∈ D', (y ∈ D0 ∨ W.heap.size ≤ y) ∧ y ∉ [W.heap.size + 1, W.heap.size, pr.1, pc.1]) → W'.heap[W.heap.size]? = some (.deferred (some [])) → KX Try.prog none k Q a' W')
    (hstop : ∀ W' a', runM t (bs ++ s) = none → a'.tmps = a.tmps → a'.defers = [markD W.heap.size] → RowAt (fun _ => ⟨b, 0, 0⟩) 0 wrongR W' → RowAt (fun _ => pc) 0 (intR 4) W' → Fr W (b :: (D0 ++ [pr.1, pc.1])) W' → W'.heap[W.heap.size]? = some (.deferred (some [])) → Q .ret a' W') :
    KX Try.prog none (.code (.rangeFunc (.tmp 21) #[22, 23] asgF bodyF) :: k) Q a W := by
  refine KX.codeR (n := 6) (wpIn_rangeFunc ?_)
  intro fn hfn
  have hev : a.eval (.tmp 21) = cloV p1 p2 p3 := by
    show a.tmps.getD 21 undef = _
    rw [Array.getD_eq_getD_getElem?, h.t21]; rfl
  obtain ⟨W1, hW1⟩ : ∃ W1, (W.alloc (.deferred (some []))).alloc (.loop (recF fn a W.heap.size .ready none)) = W1 := ⟨_, rfl⟩
  have hsz1 : W1.heap.size = W.heap.size + 2 := by rw [← hW1]; simp
  have hL1 : W1.heap[W.heap.size + 1]? = some (.loop (recF fn a W.heap.size .ready none)) := by
    rw [← hW1]; have := World.alloc_heap_new (W.alloc (.deferred (some []))) (.loop (recF fn a W.heap.size .ready none)); rwa [World.size_alloc] at this
  have hK1 : W1.heap[W.heap.size]? = some (.deferred (some [])) := by
    rw [← hW1]; exact (Below.heap_alloc _ _ _ (by simp)).trans (World.alloc_heap_new W _)
  have f1 : Fr W [] W1 := by rw [← hW1]; exact (fr_alloc W _).comp (fr_alloc _ _) (fun x hx => by cases hx)
  have hlt := h.rd.lt
  have hnil : ∀ {l : List Nat} (x : Nat), x ∈ l → x ∉ ([] : List Nat) := fun x _ hx => by cases hx
  have ho1 := h.ow.fr f1 (by simp) (by simp)
  have hJ : JF b pr pc W.heap.size (recF fn a W.heap.size .ready none) W1 := ⟨hL1, hK1, ho1⟩
  have hk : ∀ y ∈ b :: D0, y ∉ [W.heap.size + 1, W.heap.size, pr.1, pc.1] := fun y hy hm => by
    have := hlt y hy
    simp only [List.mem_cons, List.not_mem_nil, or_false] at hm
    rcases hm with rfl | rfl | rfl | rfl
    · omega
    · omega
    · exact h.k1 hy
    · exact h.k2 hy
  have hpn : ∀ p, p < W.heap.size → p ∉ b :: (D0 ++ [pr.1, pc.1]) → p ∉ b :: (D0 ++ [W.heap.size + 1, W.heap.size, pr.1, pc.1]) := fun p hp hn hm => by
    simp only [List.mem_cons, List.mem_append, List.not_mem_nil, or_false, not_or] at hn hm
    rcases hm with h | h | h | h | h | h
    · exact hn.1 h
    · exact hn.2.1 h
    · omega
    · omega
    · exact hn.2.2.1 h
    · exact hn.2.2.2 h
  have hbx : BxT W1 b p2 p3 D0 [W.heap.size + 1, W.heap.size, pr.1, pc.1] := ⟨rowAt_fr h.r2 f1 (by simp), rowAt_fr h.r3 f1 (by simp), hpn _ h.r2.1 h.n2, hpn _ h.r3.1 h.n3⟩
  have main := texts_any (ctx_ok (fn := fn) (n := W.heap.size) h.sz h.t2 h.t4) t bs s [] hg hst hlen (h.rd.fr f1 hnil) hJ hk hbx (rowAt_fr h.r1 f1 (by simp)) h.n1
  refine ⟨W.heap.size + 1, [{ target := .collected W.heap.size, args := #[] }], W1, { target := .fn (.func 46) #[.pointer (some ⟨p1, 0, none⟩), .pointer (some ⟨p2, 0, none⟩), .pointer (some ⟨p3, 0, none⟩)], args := #[yv (W.heap.size + 1)] }, W1, 46, #[yv (W.heap.size + 1), .pointer (some ⟨p1, 0, none⟩), .pointer (some ⟨p2, 0, none⟩), .pointer (some ⟨p3, 0, none⟩)], W1, ?_, ?_, ?_, ?_, fun h => (by cases h), ?_⟩
  · rw [← hW1]; exact run_enterLoop_outer _ _ _ _ _
  · simp only [resolve, rangeCall, hev]
    simp [go_sem]
  · intro f' _; trivial
  · simp [invoke, go_sem]
  refine callsIn_FW (main.mono ?_)
  rintro e W3 ⟨⟨v, rfl⟩, hf, hm⟩
  have f3 : ∀ o, Fr W (b :: (D0 ++ [pr.1, pc.1])) (W3.putObj (W.heap.size + 1) o) := fun o => ((f1.widen (fun x hx => by cases hx)).comp hf (fun x hx => by
    simp only [List.mem_cons, List.mem_append, List.not_mem_nil, or_false] at hx ⊢
    rcases hx with h | h | h | h | h | h
    · exact .inl (.inl h)
    · exact .inl (.inr (.inl h))
    · exact .inr (by omega)
    · exact .inr (by omega)
    · exact .inl (.inr (.inr (.inl h)))
    · exact .inl (.inr (.inr (.inr h))))).comp (fr_put _ _ _) (fun x hx => by obtain rfl := List.mem_singleton.1 hx; exact .inr (by omega))
  have nD : ∀ {o : Obj}, W3.heap[W.heap.size]? = some (.deferred (some [])) → (W3.putObj (W.heap.size + 1) o).heap[W.heap.size]? = some (.deferred (some [])) := fun h => (World.putObj_heap_other (by omega)).trans h
  cases hR : runM t (bs ++ s) with
  | some r =>
    obtain ⟨t', bs'⟩ := r
    rw [hR] at hm
    obtain ⟨⟨j1, j2, j3⟩, hg', D', hrd, hD⟩ := hm
    have f2 := fr_put W3 (W.heap.size + 1) (.loop { recF fn a W.heap.size .ready none with state := .exhausted })
    have hDn : ∀ x ∈ b :: D', x ∉ [W.heap.size + 1] := fun x hx hm => by
      obtain rfl := List.mem_singleton.1 hm
      rcases List.mem_cons.1 hx with h1 | h1
      · have := hlt b (List.mem_cons_self ..); omega
      · exact (hD _ h1).2 (by simp)
    refine ⟨none, _, run_endLoop j1 (by intro h; cases h), ?_⟩
    refine hdone t' bs' D' _ _ hR rfl (by rw [h.df]; rfl) hg' (hrd.fr f2 hDn) (j3.fr f2 (fun hm => ?_) (fun hm => ?_)) (f3 _) (fun y hy => ?_) (nD j2)
    · have := List.mem_singleton.1 hm
      have h4 := h.ow.r.1
      simp only at h4
      omega
    · have := List.mem_singleton.1 hm
      have h4 := h.ow.c.1
      simp only at h4
      omega
    · refine ⟨?_, (hD y hy).2⟩
      rcases (hD y hy).1 with h1 | h1
      · exact .inl h1
      · exact .inr (by omega)
  | none =>
    rw [hR] at hm
    obtain ⟨j1, j2, j3, j4⟩ := hm
    have f2 := fr_put W3 (W.heap.size + 1) (.loop { recF fn a W.heap.size .done (some .ret) with state := .exhausted })
    refine ⟨some .ret, _, run_endLoop j1 (by intro h; cases h), ?_⟩
    refine wpIn_ret ?_
    refine hstop _ _ hR rfl (by rw [h.df]; rfl) (rowAt_fr j3 f2 fun hm => ?_) (rowAt_fr j4 f2 fun hm => ?_) (f3 _) (nD j2)
    · have := List.mem_singleton.1 hm
      have h4 := hlt b (List.mem_cons_self ..)
      simp only at this
      omega
    · have := List.mem_singleton.1 hm
      have h4 := h.ow.c.1
      simp only at h4 this
      omega
end
end Go.Proofs.Ytglipljilcdboaa
/- Of the program: feeding's end; the region that makes the iterator. No condition but what each names. -/
namespace Go.Proofs.Ytglipljilcdboaa
open Go.RowKit Go.Shelf
set_option linter.unusedVariables false
set_option linter.unusedSimpArgs false
section
open E
theorem tl20 : (rg Try.f20 0).tail = [.inBlock 0, .code (.seq (.region 11 (hdOps (rp Try.f20 11)) false) .ret)] := by kernel_rfl
theorem ops11 : (hdOps (rp Try.f20 11)).toList.map (fun o => (o.op, o.guard, o.dst)) = [(.store 24 (.tmp 4) (.const (.int .i64 0)), none, none)] := by kernel_rfl
theorem row_int {w : World} {B : Blk} {x : Int} (y : Int) (h : RowAt (fun _ => B) 0 (intR x) w) : RowAt (fun _ => B) 0 (intR y) (w.setCell ⟨B.1, B.2, none⟩ (.int .i64 y)) ∧ Fr w [B.1] (w.setCell ⟨B.1, B.2, none⟩ (.int .i64 y)) ∧ w.cell? ⟨B.1, B.2, none⟩ = some (.int .i64 x) ∧ w.frozen? ⟨B.1, B.2, none⟩ = false := by
  obtain ⟨h1, h2, h3, cur, t, fz, h4⟩ := h
  have h20 := h2 0 (.int .i64 x) rfl
  have e : B.2 + 0 = B.2 := Nat.add_zero _
  simp only [e] at h20
  refine ⟨⟨by simpa [World.setCell] using h1, fun j v hv => ?_, (fun e k h => by cases h), ?_⟩, ⟨rfl, rfl, rfl, by simp [World.setCell], fun k hk hn => Below.heap_setCell _ _ _ _ (fun e => hn (by rw [e]; simp))⟩, h20.1, h20.2 trivial⟩
  · have hv2 : [Value.int .i64 y][j]? = some v := hv
    match j, hv2 with
    | 0, hv2 =>
      cases hv2
      show (w.setCell ⟨B.1, B.2, none⟩ (.int .i64 y)).cell? ⟨B.1, B.2 + 0, none⟩ = _ ∧ (_ → (w.setCell ⟨B.1, B.2, none⟩ (.int .i64 y)).frozen? ⟨B.1, B.2 + 0, none⟩ = false)
      rw [e, cell_setCell, if_pos rfl, frozen_setCell, h20.1]
      exact ⟨rfl, fun _ => h20.2 trivial⟩
    | j + 1, hv2 => cases hv2
  · exact ⟨_, _, _, heap_setCell_self h4⟩
/-- The result told, the loop's mark taken. -/
theorem end_cell {W : World} {a : Act} {b D : Nat} {pr pc : Blk} {x : Int} {R : Ending → World → Prop} (hsz : a.tmps.size = Try.f20.ntmps) (h4 : a.tmps[4]? = some ((ptrTo 2).val (envF b pr pc))) (hdf : a.defers = [markD D]) (hD : W.heap[D]? = some (.deferred (some []))) (hc : RowAt (fun _ => pc) 0 (intR x) W) (hR : R (.returned (.int .i64 x)) (W.putObj D (.deferred none))) : EndX Try.prog Try.f20 R .ret a W := by
  refine ⟨.inr rfl, ?_⟩
  rw [hdf]
  have hne : pc.1 ∉ [D] := fun hm => by
    obtain ⟨cur, t, fz, h5⟩ := hc.2.2.2
    simp only at h5
    rw [List.mem_singleton.1 hm, hD] at h5
    cases h5
  have hc2 := rowAt_fr hc (fr_put W D (.deferred none)) hne
  refine leaves_marks (n0 := 0) [D] W ⟨by simp, fun E hE => by obtain rfl := List.mem_singleton.1 hE; exact ⟨Nat.zero_le _, hD⟩⟩ ?_
  have hden : Den (W.putObj D (.deferred none)) ⟨[], envF b pr pc, []⟩ (envF b pr pc) (mkSt Try.f20.ntmps [(4, ptrTo 2)] [(2, roR (intR x))] []) { tmps := a.tmps, defers := [] } (W.putObj D (.deferred none)) := by
    refine den_new hsz rfl ⟨List.nodup_nil, fun D hD => by cases hD⟩ (KeepsOthers.refl _) (Fr.refl _ _) (fun p hp => ?_) rfl (fun p hp => ?_) (fun p hp q hq hpq hw => ?_) (fun p hp hw => ?_) rfl rfl
    · obtain rfl := List.mem_singleton.1 hp; exact ⟨h4, trivial⟩
    · obtain rfl := List.mem_singleton.1 hp; exact ⟨ro_row hc2, fun p hp => by obtain rfl := List.mem_singleton.1 hp; rfl⟩
    · obtain rfl := List.mem_singleton.1 hp; cases hw
    · obtain rfl := List.mem_singleton.1 hp; cases hw
  obtain ⟨g1, g2⟩ := resT_ok (P := Try.prog) (x := .int .i64 x) (fn := Try.f20) (ob := []) hden (by kernel_rfl) trivial
  exact ⟨_, g1, hR⟩
/-- Behind the loop. -/
theorem tail_any {W : World} {a : Act} {b D : Nat} {pr pc : Blk} {R : Ending → World → Prop} (hsz : a.tmps.size = Try.f20.ntmps) (h4 : a.tmps[4]? = some ((ptrTo 2).val (envF b pr pc))) (hdf : a.defers = [markD D]) (hD : W.heap[D]? = some (.deferred (some []))) (hc : RowAt (fun _ => pc) 0 (intR 0) W) (hR : ∀ W', Fr W [pc.1, D] W' → R (.returned (.int .i64 0)) W') : KX Try.prog none (rg Try.f20 0).tail (EndX Try.prog Try.f20 R) a W := by
  rw [tl20]
  refine KX.step (t' := [.code (.seq (.region 11 (hdOps (rp Try.f20 11)) false) .ret)]) (fun b k cs _ => stepR_inBlock) (KX.step (t' := [.code (.region 11 (hdOps (rp Try.f20 11)) false), .code .ret]) (fun b k cs _ => stepR_seq) ?_)
  obtain ⟨k1, k2, k3, k4⟩ := row_int 0 hc
  have hD2 : (W.setCell ⟨pc.1, pc.2, none⟩ (.int .i64 0)).heap[D]? = some (.deferred (some [])) := (Below.heap_setCell _ _ _ _ (fun e => by
    obtain ⟨cur, t, fz, h5⟩ := hc.2.2.2
    simp only at h5 e
    rw [← e, hD] at h5
    cases h5)).trans hD
  refine KX.code (n := 5) (K := fun a' w' => a' = a ∧ w' = W.setCell ⟨pc.1, pc.2, none⟩ (.int .i64 0)) (wpIn_region ?_) ?_
  · have hops := ops11
    obtain ⟨o, ho⟩ : ∃ o, (hdOps (rp Try.f20 11)).toList = [o] := by
      have := congrArg List.length hops
      simp only [List.length_map, List.length_singleton] at this
      exact List.length_eq_one_iff.1 this
    rw [ho] at hops
    simp only [List.map_cons, List.map_nil, List.cons.injEq, Prod.mk.injEq, and_true] at hops
    obtain ⟨o1, o2, o3⟩ := hops
    have hs : (hdOps (rp Try.f20 11)).size = 1 := by rw [← Array.length_toList, ho]; rfl
    have h0 : (hdOps (rp Try.f20 11))[0]? = some o := by rw [← Array.getElem?_toList, ho]; rfl
    rw [hs]
    show wpOpsIn _ _ _ _ _ [0] a W
    rw [wpOpsIn_cons]
    unfold wpOpIn
    rw [h0]
    simp only
    rw [if_pos (by simp [Region.wanted, o2])]
    refine ⟨fun _ _ => trivial, ?_⟩
    rw [Oper.semAt_eq _ _ _ (by rw [o1]; intro c hc; cases hc)]
    have hev : a.eval (.tmp 4) = .pointer (some ⟨pc.1, pc.2, none⟩) := by
      show a.tmps.getD 4 undef = _
      rw [Array.getD_eq_getD_getElem?, h4]; rfl
    have hrun : (execOp a.eval o).run Try.prog W = .ok .skip (W.setCell ⟨pc.1, pc.2, none⟩ (.int .i64 0)) := by
      unfold execOp; rw [o1]; simp only [hev]; go_simp
    rw [hrun]
    exact ⟨rfl, by rw [o3]; rfl, rfl⟩
  · rintro a' w' ⟨rfl, rfl⟩
    refine KX.ret (end_cell hsz h4 hdf hD2 k1 (hR _ ((k2.widen (fun x hx => ?_)).comp (fr_put _ _ _) fun x hx => .inl ?_)))
    · obtain rfl := List.mem_singleton.1 hx; simp
    · obtain rfl := List.mem_singleton.1 hx; simp
theorem ops5 : (hdOps (rp Try.f20 5)).pop.toList.map (·.op) = [.load 42 (.tmp 2), .nilCheck (.tmp 13), .fieldAddr 74 (.tmp 14) 0, .move (.tmp 1), .load 42 (.tmp 2), .nilCheck (.tmp 17), .fieldAddr 74 (.tmp 18) 1, .makeFunc (.func 33) #[.tmp 19] #[]] := by kernel_rfl
theorem dst5 : (hdOps (rp Try.f20 5)).pop.toList.map (fun o => (o.dst, o.guard)) = [(some 13, none), (some 14, none), (some 15, none), (some 16, none), (some 17, none), (some 18, none), (some 19, none), (some 20, none)] := by kernel_rfl
theorem dep5 : (hdOps (rp Try.f20 5)).pop.toList.map (fun x => (x.after.toList.filter (Region.binds .any ·)).map (·.on)) = [[], [0], [1], [], [], [4], [5], [6]] := by kernel_rfl
theorem last5 : lastOk (hdOps (rp Try.f20 5)) = true := by kernel_rfl
theorem fwd5 : fwd (hdOps (rp Try.f20 5)).pop = true := by kernel_rfl
theorem size5 : (hdOps (rp Try.f20 5)).size = 9 := by kernel_rfl
/-- What the operations that make the iterator come to. -/
abbrev D5 (b : Nat) (s : List UInt8) : List (Tmp × Value) := [(13, .pointer (some ⟨b, 0, none⟩)), (14, .pointer (some ⟨b, 0, none⟩)), (15, .pointer (some ⟨b, 0, none⟩)), (16, stv s), (17, .pointer (some ⟨b, 0, none⟩)), (18, .pointer (some ⟨b, 0, none⟩)), (19, .pointer (some ⟨b, 1, none⟩)), (20, mfv b)]
abbrev B5 (s : List UInt8) (q2 q4 : Addr) : List (Tmp × Value) := [(1, stv s), (2, .pointer (some q2)), (4, .pointer (some q4))]
theorem pure5 (m : Nat) {b : Nat} {s : List UInt8} {q2 q4 : Addr} {w : World} {a : Act} (hsz : a.tmps.size = Try.f20.ntmps) (hdf : a.defers = []) (hB : ∀ p ∈ B5 s q2 q4, a.tmps[p.1]? = some p.2) (hc : w.cell? q2 = some (.pointer (some ⟨b, 0, none⟩))) :
    wpAnyIn (FW none) m Try.prog .any (hdOps (rp Try.f20 5)).pop (fun e a w' => e = .normal ∧ w' = w ∧ Kn Try.f20.ntmps [] (B5 s q2 q4) (D5 b s) (fun _ => true) a) 8 (Array.replicate 8 false) a w := by
  have hps : (hdOps (rp Try.f20 5)).pop.size = 8 := by rw [Array.size_pop, size5]
  have hgetM : ∀ {β : Type} (f : Oper → β) (l : List β), (hdOps (rp Try.f20 5)).pop.toList.map f = l → ∀ (i : Nat) (x : Oper), (hdOps (rp Try.f20 5)).pop[i]? = some x → l[i]? = some (f x) := fun f l hl i x hx => by rw [← hl, List.getElem?_map, Array.getElem?_toList, hx]; rfl
  refine any_pure (D := D5 b s) fwd5 hps.symm (show [13, 14, 15, 16, 17, 18, 19, 20].Nodup by decide) (fun q hq p hp => ?_) (fun p hp => ?_) (fun i x hx => ?_) (fun i x p L a2 hx hp hL hk => ?_) 8 _ a (by rw [hps]; rfl) (by rw [hps]; decide) ⟨hsz, hdf, hB, fun i p hp hl => ?_⟩
  · simp only [List.mem_cons, List.not_mem_nil, or_false] at hq hp
    rcases hq with rfl | rfl | rfl <;> rcases hp with rfl | rfl | rfl | rfl | rfl | rfl | rfl | rfl <;> simp
  · simp only [List.mem_cons, List.not_mem_nil, or_false] at hp
    rcases hp with rfl | rfl | rfl | rfl | rfl | rfl | rfl | rfl <;> simp [show Try.f20.ntmps = 37 from rfl]
  · have h1 := hgetM _ _ dst5 i x hx
    have h2 := hgetM _ _ ops5 i x hx
    have hi : i < 8 := (List.getElem?_eq_some_iff.1 h1).1
    have : i = 0 ∨ i = 1 ∨ i = 2 ∨ i = 3 ∨ i = 4 ∨ i = 5 ∨ i = 6 ∨ i = 7 := by omega
    rcases this with rfl | rfl | rfl | rfl | rfl | rfl | rfl | rfl <;>
    · simp only [List.getElem?_cons_zero, List.getElem?_cons_succ, Option.some.injEq, Prod.mk.injEq] at h1 h2
      refine ⟨h1.2.symm, (fun c hc => by rw [hc] at h2; cases h2), fun p hp => ?_⟩
      simp only [List.getElem?_cons_zero, List.getElem?_cons_succ, Option.some.injEq] at hp
      rw [← h1.1, ← hp]
  · have h2 := hgetM _ _ ops5 i x hx
    have h3 := hgetM _ _ dep5 i x hx
    have hev : ∀ t v, a2.tmps[t]? = some v → a2.eval (.tmp t) = v := fun t v h => by
      show a2.tmps.getD t undef = v
      rw [Array.getD_eq_getD_getElem?, h]; rfl
    have hdep : ∀ k, k ∈ ((x.after.toList.filter (Region.binds .any ·)).map (·.on)) → L k = true := fun k hk2 => by
      obtain ⟨e, he, rfl⟩ := List.mem_map.1 hk2
      rw [List.mem_filter] at he
      exact hL e (by simpa using he.1) he.2
    have t1 := hev _ _ (hk.b (1, stv s) (by simp))
    have t2 := hev _ _ (hk.b (2, .pointer (some q2)) (by simp))
    have hi : i < 8 := (List.getElem?_eq_some_iff.1 h2).1
    have : i = 0 ∨ i = 1 ∨ i = 2 ∨ i = 3 ∨ i = 4 ∨ i = 5 ∨ i = 6 ∨ i = 7 := by omega
    rcases this with rfl | rfl | rfl | rfl | rfl | rfl | rfl | rfl <;>
      simp only [List.getElem?_cons_zero, List.getElem?_cons_succ, Option.some.injEq] at h2 h3 hp <;> rw [← hp]
    · unfold execOp; rw [← h2]; simp only [t2]; go_simp
    · have t13 := hev _ _ (hk.d 0 _ rfl (hdep 0 (by rw [← h3]; simp)))
      unfold execOp; rw [← h2]; simp only [t13]; go_simp
    · have t14 := hev _ _ (hk.d 1 _ rfl (hdep 1 (by rw [← h3]; simp)))
      unfold execOp; rw [← h2]; simp only [t14]; go_simp
    · unfold execOp; rw [← h2]; simp only [t1]; go_simp
    · unfold execOp; rw [← h2]; simp only [t2]; go_simp
    · have t17 := hev _ _ (hk.d 4 _ rfl (hdep 4 (by rw [← h3]; simp)))
      unfold execOp; rw [← h2]; simp only [t17]; go_simp
    · have t18 := hev _ _ (hk.d 5 _ rfl (hdep 5 (by rw [← h3]; simp)))
      unfold execOp; rw [← h2]; simp only [t18]; go_simp
    · have t19 := hev _ _ (hk.d 6 _ rfl (hdep 6 (by rw [← h3]; simp)))
      unfold execOp; rw [← h2]; simp [Instr.makeFunc, t19]
  · rw [Array.getD_eq_getD_getElem?, Array.getElem?_replicate] at hl
    split at hl <;> cases hl
end
end Go.Proofs.Ytglipljilcdboaa
/- Of the program: feeding, whole. Its conditions: what a tree keeps, what is begun, lengths that fit. -/
namespace Go.Proofs.Ytglipljilcdboaa
open Go.RowKit Go.Shelf
set_option linter.unusedVariables false
set_option linter.unusedSimpArgs false
section
open E
theorem E.any_last {P : Program} {r : Option Nat} {m rid : Nat} {ops : Array Oper} {a : Act} {w : World} {Q : Exit → Act → World → Prop} {K : Act → World → Prop} (hm : P.follows .mixedOrders = true) (hl : lastOk ops = true)
    (h8 : wpAnyIn (FW r) m P .any ops.pop (fun e a w' => e = .normal ∧ K a w') ops.pop.size (Array.replicate ops.pop.size false) a { w with drawn := w.drawn + 1 })
    (hlast : ∀ a w, K a w → wpOpIn (FW r) m P ops Q ops.pop.size (fun a w => Q .normal a w) a w) : (Code.region rid ops true).wpIn (FW r) m P Q a w := by
  simp only [lastOk, Bool.and_eq_true] at hl
  obtain ⟨hsz, hf, hanc, hgd⟩ := hl
  have hsz := Nat.le_of_ble_eq_true hsz
  have hback : ops.pop.push (ops.back (by omega)) = ops := by
    apply Array.ext'
    rw [Array.toList_push, Array.toList_pop, ← Array.getLast_toList]
    exact List.dropLast_concat_getLast (by intro h; have := congrArg List.length h; simp at this; simp [this] at hsz)
  refine wpIn_region_any hm ?_
  have key := any_push (F := FW r) (n := m) (P := P) (ops := ops.pop) (o := ops.back (by omega)) (A := ancs ops.toList []) (Q := Q) (fun i x hx => ?_) (by
      rw [hback]
      intro j o hj i hi
      exact ancs_ok ops.toList [] j o (by simpa using hj) i (by simpa using hi)) (fun i hi => hasN_iff.1 (List.all_eq_true.1 hanc i (List.mem_range.2 hi))) (by rw [hback]; exact hf) (K := K) (fun a w hk => by rw [hback]; exact hlast a w hk) _ _ _ _ (by simp) ?_ h8
  · rw [hback] at key
    have e : (Array.replicate ops.pop.size false).push false = Array.replicate ops.size false := by
      apply Array.ext'
      rw [Array.toList_push, Array.toList_replicate, Array.toList_replicate, ← List.replicate_succ', Array.size_pop]
      congr 1
      omega
    rw [e] at key
    rwa [show ops.pop.size + 1 = ops.size by rw [Array.size_pop]; omega] at key
  · have := List.all_eq_true.1 hgd x (List.mem_of_getElem? (by rw [Array.getElem?_toList]; exact hx))
    split at this
    · assumption
    · cases this
  · intro k hk i hi
    rw [getD_push] at hk
    rcases Nat.lt_or_ge k ops.pop.size with h | h
    · rw [Array.getD_eq_getD_getElem?, Array.getElem?_replicate, if_pos h] at hk; cases hk
    · rw [Array.getD_eq_getD_getElem?, Array.getElem?_replicate, if_neg (by omega)] at hk; cases hk
theorem stuck_of {t t' : TS} {r bs : List UInt8} (h : runM t r = some (t', bs)) : Stuck t' bs := by
  obtain ⟨h1, h2⟩ := run_stuck _ t r t' bs (Nat.le_refl _) h
  by_cases hb : bs = []
  · exact .inl hb
  · exact .inr (h2 hb)
/-- What feeding comes to. -/
def FdQ (W : World) (b : Nat) (D0 : List Nat) (r : Option (TS × List UInt8)) : Ending → World → Prop := fun e W' => Fr W (b :: D0) W' ∧ match r with
  | some (t, bs) => e = .returned (.int .i64 0) ∧ Good t ∧ Stuck t bs ∧ ∃ D, RdAt W' b t bs D ∧ ∀ y ∈ D, y ∈ D0 ∨ W.heap.size ≤ y
  | none => e = .returned (.int .i64 4) ∧ RowAt (fun _ => ⟨b, 0, 0⟩) 0 wrongR W'
theorem rg20 : rg Try.f20 0 = .code (.rangeFunc (.tmp 21) #[22, 23] asgF bodyF) :: (rg Try.f20 0).tail := by kernel_rfl
set_option maxRecDepth 100000 in
theorem range_at {W W2 : World} {b : Nat} {pr pc : Blk} {t : TS} {bs s : List UInt8} {D0 : List Nat} {p1 p2 p3 : Nat} (hf0 : Fr W [] W2) (hpr : W.heap.size ≤ pr.1) (hpc : W.heap.size ≤ pc.1) (hrd : RdAt W b t bs D0) (ow : Own W2 b pr pc 0)
    (r1 : RowAt (fun _ => ⟨p1, 0, 0⟩) 0 ⟨[.one (.v (stv s))], false, none⟩ W2) (r2 : RowAt (fun _ => ⟨p2, 0, 0⟩) 0 ⟨[.one (.v (mfv b))], false, none⟩ W2) (r3 : RowAt (fun _ => ⟨p3, 0, 0⟩) 0 ⟨[.one (.v (.pointer (some ⟨b, 0, none⟩)))], false, none⟩ W2)
    (n1 : W.heap.size ≤ p1) (n2 : W.heap.size ≤ p2 ∧ p2 ≠ pr.1 ∧ p2 ≠ pc.1) (n3 : W.heap.size ≤ p3 ∧ p3 ≠ pr.1 ∧ p3 ≠ pc.1) (hg : Good t) (hst : Stuck t bs) (hlen : bs.length + s.length ≤ 100000000000) :
    At Try.prog W2 nB Try.f20.ntmps [] (rg Try.f20 0) (EndX Try.prog Try.f20 (FdQ W b D0 (runM t (bs ++ s)))) [(2, .v ((ptrTo 1).val (envF b pr pc))), (4, .v ((ptrTo 2).val (envF b pr pc))), (21, .v (cloV p1 p2 p3))] [] := by
  intro a w ρ hden
  have hf := hden.fr
  have hlt := hrd.lt
  have hnb : ∀ p, W.heap.size ≤ p → p ∉ b :: D0 := fun p hp hm => by have := hlt p hm; omega
  have hno : ∀ p, W.heap.size ≤ p → p ≠ pr.1 → p ≠ pc.1 → p ∉ b :: (D0 ++ [pr.1, pc.1]) := fun p hp h1 h2 hm => by
    simp only [List.mem_cons, List.mem_append, List.not_mem_nil, or_false] at hm
    rcases hm with h | h | h | h
    · exact hnb p hp (by rw [h]; simp)
    · exact hnb p hp (List.mem_cons_of_mem _ h)
    · exact h1 h
    · exact h2 h
  have hfw : Fr W [] w := hf0.comp hf (fun x hx => by cases hx)
  have h : RgPre a w b pr pc t bs s D0 p1 p2 p3 := ⟨hden.sz, hden.df, (hden.tm 2 _ rfl).1, (hden.tm 4 _ rfl).1, (hden.tm 21 _ rfl).1, hrd.fr hfw (fun x _ hx => by cases hx), ow.fr hf (by simp) (by simp), rowAt_fr r1 hf (by simp), rowAt_fr r2 hf (by simp), rowAt_fr r3 hf (by simp), hnb p1 n1, hno p2 n2.1 n2.2.1 n2.2.2, hno p3 n3.1 n3.2.1 n3.2.2, hnb _ hpr, hnb _ hpc⟩
  have hpc3 : pc.1 < w.heap.size := h.ow.c.1
  have hwW : W.heap.size ≤ w.heap.size := hfw.size
  have hout : ∀ {W' : World}, Fr w (b :: (D0 ++ [pr.1, pc.1])) W' → Fr W (b :: D0) W' := fun h2 => (hfw.widen (fun x hx => by cases hx)).comp h2 fun x hx => by
    simp only [List.mem_cons, List.mem_append, List.not_mem_nil, or_false] at hx
    rcases hx with h | h | h | h
    · exact .inl (by rw [h]; simp)
    · exact .inl (List.mem_cons_of_mem _ h)
    · exact .inr (by omega)
    · exact .inr (by omega)
  rw [rg20]
  refine range_any h hg hst hlen (fun t' bs' D' W' a' hR e1 e2 hg' hrd' how hfr hD hdd => ?_) (fun W' a' hR e1 e2 hw hc hfr hdd => ?_)
  · refine tail_any (b := b) (pr := pr) (by rw [e1]; exact h.sz) (by rw [e1]; exact h.t4) e2 hdd how.c fun W'' hf2 => ⟨(hout hfr).comp hf2 fun x hx => ?_, ?_⟩
    · simp only [List.mem_cons, List.not_mem_nil, or_false] at hx
      rcases hx with rfl | rfl <;> exact .inr (by omega)
    · rw [hR]
      refine ⟨rfl, hg', stuck_of hR, D', hrd'.fr hf2 fun x hx hm => ?_, fun y hy => ?_⟩
      · simp only [List.mem_cons, List.not_mem_nil, or_false] at hm
        rcases List.mem_cons.1 hx with h2 | h2
        · have := hlt b (List.mem_cons_self ..)
          rcases hm with hm | hm <;> omega
        · have := (hD x h2).2
          simp only [List.mem_cons, List.not_mem_nil, or_false, not_or] at this
          rcases hm with hm | hm
          · exact this.2.2.2 hm
          · exact this.2.1 hm
      · rcases (hD y hy).1 with h2 | h2
        · exact .inl h2
        · exact .inr (by omega)
  · refine end_cell (b := b) (pr := pr) (by rw [e1]; exact h.sz) (by rw [e1]; exact h.t4) e2 hdd hc ⟨(hout hfr).comp (fr_put _ _ _) fun x hx => ?_, ?_⟩
    · obtain rfl := List.mem_singleton.1 hx; exact .inr hwW
    · rw [hR]
      refine ⟨rfl, rowAt_fr hw (fr_put _ _ _) fun hm => ?_⟩
      have := List.mem_singleton.1 hm
      have h2 := hlt b (List.mem_cons_self ..)
      simp only at this
      omega
end
end Go.Proofs.Ytglipljilcdboaa
