/- Several texts, one behind the other; each says by itself what it proves, and on what conditions. -/
import Derived.Test.YtlofoeapfmcolaaX17
/- The scanner's look: what stands in a text is missed no more. Its condition: lengths that fit. -/
namespace Go.Proofs.Ytlofoeapfmcolaa
open Go Go.RowKit
set_option linter.unusedVariables false
set_option linter.unusedSimpArgs false
section
open E
/-- Where a run stops. -/
def stopAt (P : Program) (C : Hints) (π : List Ch) (todo : List Item) (s : St) : List Item := match go P C 10000 π todo s with
  | some (_, .at td, _) => td
  | _ => []
noncomputable def tdL : List Item := stopAt Try.prog (findC [(2004000, .val (.tup []))]) [] [.code (hdBody (rg Try.f29 0))] (mkSt Try.f29.ntmps [] [] [])
/-- A scanner in memory. -/
abbrev scR (pv : Value) (mb : Nat) (lv : List UInt8) (wr : Bool) : Row := ⟨[.one (.v pv), .one (.v (.map (some mb))), .one (.v (stv lv))], wr, none⟩
theorem scR_ok (pv : Value) (mb : Nat) (lv : List UInt8) (wr : Bool) (h : pv.oneCell' = true) : pok (scR pv mb lv wr).ps := fun p hp => by
  simp only [List.mem_cons, List.not_mem_nil, or_false] at hp
  rcases hp with rfl | rfl | rfl
  · exact h
  · rfl
  · rfl
theorem ent29 : Enters Try.prog 29 := enters_of Try.func29 (by kernel_rfl) rfl
abbrev lkS (S : List UInt8 → Bool) (s : List UInt8) (xs : List (Fin (s.length - 31))) : List UInt8 → Bool := fun q => S q && xs.all fun x => !(q == wnd s x.1)
abbrev lkT : List (Nat × TV) := [(2, .s (.lf (.ptr 1000 0 0 0 0))), (7, .s (.lf (.clo 37 [2001])))]
abbrev lkR (pv : Value) (mb : Nat) (lv s : List UInt8) : List (Nat × Row) := [(0, scR pv mb lv false), (1000, ⟨[.one (.ptr 0 0 0 0 0)], true, none⟩), (2001, wndR s)]
abbrev lkO (pv : Value) (mb : Nat) (lv s : List UInt8) : List (Nat × Row) := [(0, scR pv mb lv false), (1000, ⟨[.one (.ptr 0 0 0 0 0)], false, none⟩), (2001, wndR s)]
set_option maxRecDepth 100000 in
theorem look_any (s lv : List UInt8) (pv : Value) (hpv : pv.oneCell' = true) (mb n : Nat) (S : List UInt8 → Bool) (hs : s.length ≤ 1000000000) (W0 : World) (ρ0 : Env) (h0 : RowAt ρ0 0 (scR pv mb lv false) W0) (hM : MsR W0 mb n S) :
    Calls Try.prog 29 #[(ptrTo 0).val ρ0, stv s] W0 fun e w' => e = .returned (.tuple #[]) ∧ Fr W0 [mb] w' ∧ MsR w' mb n (lkS S s (List.finRange (s.length - 31))) := by
  refine At.calls (args := [ptrTo 0, .v (stv s)]) (rows := [(0, scR pv mb lv false)]) (gl := []) (wr := []) (ρ := ρ0) Try.func29 rfl rfl (init_rw ⟨trivial, rfl, trivial⟩ rfl rfl rfl (fun p hp => by obtain rfl := List.mem_singleton.1 hp; exact ⟨h0, scR_ok pv mb lv false hpv⟩) (fun p hp hw => by obtain rfl := List.mem_singleton.1 hp; cases hw) (fun p hp q hq hpq hw => by obtain rfl := List.mem_singleton.1 hp; cases hw)) rfl ?_
  refine At.run rfl [(2001, hWn s 2001)] ⟨hWn_ok _ _, trivial⟩ [] (tm2 := lkT) (rows2 := lkR pv mb lv s) (ob := qL (hWn s 2001)) (td := rg Try.f29 0) (by kernel_rfl) (all_qL _) rfl rfl (by intro h; cases h) ?_
  refine E.At.ro ?_
  refine E.At.rangeMAt (rows := lkO pv mb lv s) (α := Fin (s.length - 31)) (gf := 37) (rs := [2001]) mb [0, 1000, 2001] [2001] (fun xs W => MsR W mb n (lkS S s xs)) (fun x => [.int .i64 (x.1 : Int), .v (stv (wnd s x.1))]) (S := fun xs => xs = List.finRange (s.length - 31)) (Sp := fun _ => True) (N := s.length - 31) (fun x => (5, .v (stv (wnd s x.1))) :: lkT)
    rfl rfl ent37 (fun ρ w h => ?_) rfl rfl rfl rfl (fun x => ⟨rfl, ⟨rfl, rfl, trivial⟩, rfl⟩) (fun x => ?_) (fun w hf => ?_) (fun xs W h => ?_) (fun xs W W' h hb => h.keep hb) ?_ ?_
  · have h6 : RowAt (fun _ => ρ 2001) 0 (wndR s) w := by
      have := h 2001 (wndR s) rfl
      unfold RowAt at this ⊢
      exact this
    have h1 := wnd_stops s (by omega) w (fun _ => ρ 2001) (fun W hW => rowAt_keep h6 (Fr.of_below hW []).size ((Fr.of_below hW []).block _ h6.1 (by simp)))
    have e1 : (fun W W' : World => ∀ r ∈ [0], W'.heap[((fun _ : Nat => ρ 2001) r).1]? = W.heap[((fun _ : Nat => ρ 2001) r).1]?) = fun W W' => ∀ r ∈ [2001], W'.heap[(ρ r).1]? = W.heap[(ρ r).1]? := by funext W W'; simp
    rw [e1] at h1
    exact h1
  · kernel_rfl
  · have := hM.keep (W' := w) (hf.block mb hM.lt (by simp))
    unfold lkS
    simpa using this
  · obtain ⟨D, ⟨es, c, h1, _⟩, _⟩ := h
    exact ⟨es, c, h1⟩
  · intro l pre x W ρ hpl hX
    show At Try.prog W ⟨[], ρ, [0, 1000, 2001]⟩ Try.f29.ntmps [] [.code (hdBody (rg Try.f29 0))] (fun e _ W' => e = .normal ∧ Fr W [mb] W' ∧ MsR W' mb n (lkS S s (pre ++ [x]))) ((5, .v (stv (wnd s x.1))) :: lkT) (lkO pv mb lv s) (some l) []
    refine At.run rfl [(2004000, .val (.tup []))] ⟨trivial, trivial⟩ [] (tm2 := (5, .v (stv (wnd s x.1))) :: lkT) (rows2 := lkO pv mb lv s) (ob := []) (td := tdL) (by kernel_rfl) trivial rfl rfl (by intro h; cases h) ?_
    refine E.At.opY (α := World) 5 none [] trivial (fun y => y) (fun _ => nB) (fun _ => []) (fun _ => []) (fun _ => []) (fun _ => []) (fun y => Fr W [mb] y ∧ MsR y mb n (lkS S s (pre ++ [x]))) rfl (tm1 := [(13, .v (.map (some mb))), (14, .v (stv (wnd s x.1)))]) (rows1 := lkO pv mb lv s) (o1 := []) (o2 := fun _ => []) (by kernel_rfl) trivial rfl ?_ (fun y _ => by kernel_rfl) (fun y _ => trivial) (fun y => rfl) (fun y hy => ?_)
    · intro a' w ρ' K QQ hden hk
      have h13 : a'.eval (.tmp 13) = .map (some mb) := (evalO_ok hden (x := .tmp 13) (y := .v (.map (some mb))) rfl).1
      have h14 : a'.eval (.tmp 14) = stv (wnd s x.1) := (evalO_ok hden (x := .tmp 14) (y := .v (stv (wnd s x.1))) rfl).1
      have hMw : MsR w mb n (lkS S s pre) := hX.keep (hden.fr.block mb hX.lt (by simp))
      obtain ⟨oo, hoo, hop, hdst, hgd, hty⟩ : ∃ oo : Oper, (hdOps tdL)[5]? = some oo ∧ oo.op = .call { callee := .builtin .delete, args := #[.tmp 13, .tmp 14], argTypes := #[50, 9] } ∧ oo.dst = none ∧ oo.guard = none ∧ True := ⟨(hdOps tdL).getD 5 default, by kernel_rfl, by kernel_rfl, by kernel_rfl, by kernel_rfl, trivial⟩
      obtain ⟨w', hrun, hM2, hF2⟩ := ms_drop hMw (p := wnd s x.1) (by show ((s.drop x.1).take 32).length ≤ _; rw [List.length_take]; unfold maxLen; omega) oo.type
      refine E.xOp0_ok (o := oo) (v := .tuple #[]) (w' := w') rfl hoo hgd ?_ ?_
      · simp [execOp, hop, resolve, invoke, builtin, h13, h14, hrun, Result.andThen]
      · rw [hdst]
        refine hk w' (.tuple #[]) w' (fun _ => ⟨0, 0, 0⟩) ⟨?_, ?_⟩ ⟨hden.sz, hden.df, ⟨List.nodup_nil, fun D hD => by cases hD⟩, KeepsOthers.refl _, (fun t y h => by cases h), (fun r y h => by cases h), (fun r q y z h => by cases h), Fr.refl _ _, (fun _ _ => rfl), (fun r h => by cases h), (fun g hg hu => by cases hu), (fun r B h => by cases h)⟩
        · have hf1 : Fr W [mb] w := hden.fr.widen fun y hy => by cases hy
          exact hf1.comp hF2 fun y hy => .inl hy
        · unfold lkS at hM2 ⊢
          simpa [List.all_append, Bool.and_assoc] using hM2
    · obtain ⟨hf1, hm1⟩ := hy
      exact At.finQ rfl [] trivial [] (rows2 := []) (ob := []) (e := .normal) (by kernel_rfl) trivial fun a ρ2 w2 _ hf2 _ _ => ⟨rfl, hf1.comp hf2 (fun y hy => by cases hy), hm1.keep (hf2.block mb hm1.lt (by simp))⟩
  · intro D xs a W hS hX hf hD hb hdef
    subst hS
    have htl : (rg Try.f29 0).tail = [.inBlock 0] := by kernel_rfl
    rw [htl]
    refine KX.step (t' := []) (fun b k cs _ => rfl) ?_
    refine KX.nil (Q := EndX Try.prog Try.f29 fun e w' => e = .returned (.tuple #[]) ∧ Fr W0 [mb] w' ∧ MsR w' mb n (lkS S s (List.finRange (s.length - 31)))) ⟨.inl rfl, ?_⟩
    rw [hdef]
    have hne : mb ≠ D := fun e => by
      obtain ⟨DD, ⟨es, c, h1, _⟩, _⟩ := hX
      rw [e, hb] at h1; cases h1
    refine leaves_marks (n0 := W0.heap.size) [D] W ⟨by simp, fun E hE => by obtain rfl := List.mem_singleton.1 hE; exact ⟨hD, hb⟩⟩ ⟨.tuple #[], ?_, rfl, ?_, ?_⟩
    · have hr : Try.f29.results = #[] := by kernel_rfl
      unfold results
      rw [hr]
      rw [Sem.run_bind, Array.mapM_eq_mapM_toList, Sem.run_map]
      rfl
    · exact ⟨hf.os, hf.tape, hf.output, by simpa [shut] using hf.size, fun k hk hn => (World.putObj_heap_other (by omega)).trans (hf.block k hk hn)⟩
    · exact hX.keep (World.putObj_heap_other hne)
end
end Go.Proofs.Ytlofoeapfmcolaa
/- The scanner's Feed. Its condition: lengths that fit. -/
namespace Go.Proofs.Ytlofoeapfmcolaa
open Go Go.RowKit
set_option linter.unusedVariables false
set_option linter.unusedSimpArgs false
section
open E
theorem ent21 : Enters Try.prog 21 := enters_of Try.func21 (by kernel_rfl) rfl
abbrev fdS (S : List UInt8 → Bool) (lv s : List UInt8) : List UInt8 → Bool := lkS (lkS S (lv ++ s.take 31) (List.finRange ((lv ++ s.take 31).length - 31))) s (List.finRange (s.length - 31))
set_option maxRecDepth 100000 in
theorem feed_any (s lv : List UInt8) (pv : Value) (hpv : pv.oneCell' = true) (mb n : Nat) (S : List UInt8 → Bool) (hs : s.length ≤ 1000000) (hlv : lv.length ≤ 31) (W0 : World) (ρ0 : Env) (h0 : RowAt ρ0 0 (scR pv mb lv true) W0) (hM : MsR W0 mb n S) :
    Calls Try.prog 21 #[(ptrTo 0).val ρ0, stv s] W0 fun e w' => e = .returned (.tuple #[]) ∧ Fr W0 [mb, (ρ0 0).1] w' ∧ RowAt ρ0 0 (scR pv mb (endL (lv ++ endL s)) true) w' ∧ MsR w' mb n (fdS S lv s) := by
  refine At.calls (args := [ptrTo 0, .v (stv s)]) (rows := [(0, scR pv mb lv true)]) (gl := []) (wr := [(ρ0 0).1]) (ρ := ρ0) Try.func21 rfl rfl (init_rw ⟨trivial, rfl, trivial⟩ rfl rfl rfl (fun p hp => by obtain rfl := List.mem_singleton.1 hp; exact ⟨h0, scR_ok pv mb lv true hpv⟩) (fun p hp hw => by obtain rfl := List.mem_singleton.1 hp; exact List.mem_singleton.2 rfl) (fun p hp q hq hpq hw => by obtain rfl := List.mem_singleton.1 hp; obtain rfl := List.mem_singleton.1 hq; exact absurd rfl hpq)) rfl ?_
  refine At.run rfl [(2002000, .val (.tup []))] ⟨trivial, trivial⟩ [.n] (tm2 := [(0, ptrTo 0), (1, .v (stv s))]) (rows2 := [(0, scR pv mb lv true)]) (ob := [false = false]) (td := rp Try.f21 1) (by kernel_rfl) ⟨rfl, trivial⟩ rfl rfl (by intro h; cases h) ?_
  obtain ⟨k, hk⟩ : ∃ k, k = min 31 s.length := ⟨_, rfl⟩
  have hkv : TV.int .i64 (bif false then (if (s.length : Int) > 31 then (s.length : Int) else 31) else (if (s.length : Int) < 31 then (s.length : Int) else 31)) = TV.int .i64 (k : Int) := tv_int (by
    rw [cond_false, hk]
    split <;> omega)
  have htk : TV.v (stv (List.take (k : Int).toNat s)) = TV.v (stv (s.take 31)) := tv_str (by
    rw [Int.toNat_natCast, hk]
    by_cases h : s.length ≤ 31
    · rw [List.take_of_length_le (by omega), List.take_of_length_le h]
    · rw [show min 31 s.length = 31 by omega])
  have htl : (s.take 31).length ≤ 31 := by rw [List.length_take]; omega
  have HM := hM
  refine At.opL (α := World) rfl 17 [(2002008, .val (.int .i64 (k : Int))), (2002009, .val (.v (stv (s.take 31))))] ⟨trivial, trivial, trivial⟩ (fun x => x) (fun _ => ⟨[(ρ0 0).1], ρ0, []⟩) (fun _ => [(0, ptrTo 0), (1, .v (stv s))]) (fun _ => [(0, scR pv mb lv true)]) (fun x => Fr W0 [mb, (ρ0 0).1] x ∧ MsR x mb n (lkS S (lv ++ s.take 31) (List.finRange ((lv ++ s.take 31).length - 31)))) rfl
    (tm1 := [(0, ptrTo 0), (1, .v (stv s)), (6, ptrTo 0), (16, .v (stv (lv ++ s.take 31)))]) (rows1 := [(0, scR pv mb lv true)]) (o1 := [TV.int .i64 (bif false then (if (s.length : Int) > 31 then (s.length : Int) else 31) else (if (s.length : Int) < 31 then (s.length : Int) else 31)) = TV.int .i64 (k : Int), TV.v (stv (List.take (k : Int).toNat s)) = TV.v (stv (s.take 31)), 0 ≤ (k : Int) ∧ (k : Int) ≤ (s.length : Int), (lv.length : Int) + ((s.take 31).length : Int) ≤ 9223372036854775807]) (by kernel_rfl) ⟨hkv, htk, ⟨by omega, by omega⟩, by omega, trivial⟩ rfl rfl ?_ (fun x hx => ?_)
  · intro a' w ρ K QQ hden hk
    have e0 : ρ 0 = ρ0 0 := hden.e0 0 (.inl (by decide))
    have hrow := (hden.rw 0 (scR pv mb lv true) rfl).1
    have hMw : MsR w mb n S := HM.keep (by
      obtain ⟨D, ⟨es, c, h1, _⟩, _⟩ := HM
      rw [h1]
      exact hden.ko.same mb _ h1 rfl)
    have hro : RowAt ρ 0 (scR pv mb lv false) w := by
      obtain ⟨k1, k2, _, k4⟩ := hrow
      exact ⟨k1, fun j v hv => ⟨(k2 j v hv).1, fun h => by cases h⟩, (fun e k he => by cases he), k4⟩
    have hnm : (ρ 0).1 ≠ mb := fun he => by
      obtain ⟨cur, t, fz, hcur⟩ := hrow.2.2.2
      obtain ⟨D, ⟨es, c, h1, _⟩, _⟩ := hMw
      rw [he, h1] at hcur; cases hcur
    refine xCall_ok (d := 17) (f := 29) (vs := [ptrTo 0, .v (stv (lv ++ s.take 31))]) (by kernel_rfl) hden ent29 ((look_any (lv ++ s.take 31) lv pv hpv mb n S (by rw [List.length_append]; omega) w ρ hro hMw).mono ?_)
    rintro e w' ⟨rfl, hF, hM2⟩
    have hb : w'.heap[(ρ 0).1]? = w.heap[(ρ 0).1]? := hF.block _ hrow.1 fun hm => hnm (List.mem_singleton.1 hm)
    have hrow2 : RowAt ρ0 0 (scR pv mb lv true) w' := by
      have := rowAt_keep hrow hF.size hb
      unfold RowAt at this ⊢
      rw [← e0]
      exact this
    refine ⟨_, rfl, hk w' _ w' ρ0 ⟨(hden.fr.widen fun y hy => List.mem_cons_of_mem _ hy).comp hF fun y hy => .inl (by obtain rfl := List.mem_singleton.1 hy; exact List.mem_cons_self ..), hM2⟩ (E.den_again (d := 17) (tm' := [(0, ptrTo 0), (1, .v (stv s))]) (rows2 := [(0, scR pv mb lv true)]) (K := []) hden (by decide) (fun p hp => ?_) rfl (fun p hp => ?_) (fun p hp q hq hpq hw => ?_) rfl rfl)⟩
    · simp only [List.mem_cons, List.not_mem_nil, or_false] at hp
      rcases hp with rfl | rfl
      · refine .inr ⟨(show (0 : Nat) ≠ 17 by decide), rfl, fun r hr => ?_⟩
        obtain rfl := List.mem_singleton.1 hr
        exact e0.symm
      · exact .inr ⟨(show (1 : Nat) ≠ 17 by decide), rfl, fun r hr => by cases hr⟩
    · obtain rfl := List.mem_singleton.1 hp
      exact ⟨hrow2, scR_ok pv mb lv true hpv⟩
    · obtain rfl := List.mem_singleton.1 hp
      obtain rfl := List.mem_singleton.1 hq
      exact absurd rfl hpq
  obtain ⟨hf1, hM1⟩ := hx
  obtain ⟨S1, hS1⟩ : ∃ S1, S1 = lkS S (lv ++ s.take 31) (List.finRange ((lv ++ s.take 31).length - 31)) := ⟨_, rfl⟩
  rw [← hS1] at hM1
  have HM := hM1
  refine At.run rfl [(2003000, .val (.tup []))] ⟨trivial, trivial⟩ [] (tm2 := [(0, ptrTo 0), (1, .v (stv s))]) (rows2 := [(0, scR pv mb lv true)]) (ob := []) (td := rp Try.f21 2) (by kernel_rfl) trivial rfl rfl (by intro h; cases h) ?_
  refine At.opX (α := World) 2 20 [] trivial (fun y => y) (fun _ => ⟨[(ρ0 0).1], ρ0, []⟩) (fun _ => [(0, ptrTo 0), (1, .v (stv s))]) (fun _ => [(0, ptrTo 0), (1, .v (stv s))]) (fun _ => [(0, scR pv mb lv true)]) (fun _ => [(0, scR pv mb lv true)]) (fun y => Fr x [mb, (ρ0 0).1] y ∧ MsR y mb n (lkS S1 s (List.finRange (s.length - 31)))) rfl
    (tm1 := [(0, ptrTo 0), (1, .v (stv s)), (18, ptrTo 0), (19, .v (stv s))]) (rows1 := [(0, scR pv mb lv true)]) (o1 := []) (o2 := fun _ => []) (by kernel_rfl) trivial rfl ?_ (fun y _ => by kernel_rfl) (fun y _ => trivial) (fun y => rfl) (fun y hy => ?_)
  · intro a' w ρ K QQ hden hk
    have e0 : ρ 0 = ρ0 0 := hden.e0 0 (.inl (by decide))
    have hrow := (hden.rw 0 (scR pv mb lv true) rfl).1
    have hMw : MsR w mb n S1 := HM.keep (by
      obtain ⟨D, ⟨es, c, h1, _⟩, _⟩ := HM
      rw [h1]
      exact hden.ko.same mb _ h1 rfl)
    have hro : RowAt ρ 0 (scR pv mb lv false) w := by
      obtain ⟨k1, k2, _, k4⟩ := hrow
      exact ⟨k1, fun j v hv => ⟨(k2 j v hv).1, fun h => by cases h⟩, (fun e k he => by cases he), k4⟩
    have hnm : (ρ 0).1 ≠ mb := fun he => by
      obtain ⟨cur, t, fz, hcur⟩ := hrow.2.2.2
      obtain ⟨D, ⟨es, c, h1, _⟩, _⟩ := hMw
      rw [he, h1] at hcur; cases hcur
    refine xCall_ok (d := 20) (f := 29) (vs := [ptrTo 0, .v (stv s)]) (by kernel_rfl) hden ent29 ((look_any s lv pv hpv mb n S1 (by omega) w ρ hro hMw).mono ?_)
    rintro e w' ⟨rfl, hF, hM2⟩
    have hb : w'.heap[(ρ 0).1]? = w.heap[(ρ 0).1]? := hF.block _ hrow.1 fun hm => hnm (List.mem_singleton.1 hm)
    have hrow2 : RowAt ρ0 0 (scR pv mb lv true) w' := by
      have := rowAt_keep hrow hF.size hb
      unfold RowAt at this ⊢
      rw [← e0]
      exact this
    refine ⟨_, rfl, hk w' _ w' ρ0 ⟨(hden.fr.widen fun y hy => List.mem_cons_of_mem _ hy).comp hF fun y hy => .inl (by obtain rfl := List.mem_singleton.1 hy; exact List.mem_cons_self ..), hM2⟩ (E.den_again (d := 20) (tm' := [(0, ptrTo 0), (1, .v (stv s))]) (rows2 := [(0, scR pv mb lv true)]) (K := []) hden (by decide) (fun p hp => ?_) rfl (fun p hp => ?_) (fun p hp q hq hpq hw => ?_) rfl rfl)⟩
    · simp only [List.mem_cons, List.not_mem_nil, or_false] at hp
      rcases hp with rfl | rfl
      · refine .inr ⟨(show (0 : Nat) ≠ 20 by decide), rfl, fun r hr => ?_⟩
        obtain rfl := List.mem_singleton.1 hr
        exact e0.symm
      · exact .inr ⟨(show (1 : Nat) ≠ 20 by decide), rfl, fun r hr => by cases hr⟩
    · obtain rfl := List.mem_singleton.1 hp
      exact ⟨hrow2, scR_ok pv mb lv true hpv⟩
    · obtain rfl := List.mem_singleton.1 hp
      obtain rfl := List.mem_singleton.1 hq
      exact absurd rfl hpq
  obtain ⟨hf2, hM2⟩ := hy
  have hel := endL_len s
  refine At.finR rfl [(4006, hEd s), (4008, hEd (lv ++ endL s)), (4009, hCl (endL (lv ++ endL s)))] ⟨hEd_ok _ _ (by omega), hEd_ok _ _ (by rw [List.length_append]; omega), hCl_ok _ _ (by have := endL_len (lv ++ endL s); omega), trivial⟩ [] (rows2 := [(0, scR pv mb (endL (lv ++ endL s)) true)]) (x := .tup []) (ob := [qL (hEd s), [(lv.length : Int) + ((endL s).length : Int) ≤ 9223372036854775807], qL (hEd (lv ++ endL s)), qL (hCl (endL (lv ++ endL s)))].flatten) (by kernel_rfl) (all_flat ⟨all_qL _, ⟨by omega, trivial⟩, all_qL _, all_qL _, trivial⟩) fun ρ' w' hf he _ hq => ?_
  obtain ⟨g1, _, _⟩ := hq _ (List.mem_singleton.2 rfl)
  refine ⟨rfl, (hf1.comp hf2 fun y hy => .inl hy).comp hf (fun y hy => .inl (List.mem_cons_of_mem _ hy)), ?_, ?_⟩
  · unfold RowAt at g1 ⊢
    rw [he 0 (by decide)] at g1
    exact g1
  · show MsR w' mb n (lkS (lkS S (lv ++ s.take 31) (List.finRange ((lv ++ s.take 31).length - 31))) s (List.finRange (s.length - 31)))
    rw [← hS1]
    refine hM2.keep (hf.block mb hM2.lt fun hm => ?_)
    have hm := List.mem_singleton.1 hm
    obtain ⟨cur, t, fz, hcur⟩ := h0.2.2.2
    obtain ⟨D, ⟨es, c, h1, _⟩, _⟩ := hM
    rw [← hm, h1] at hcur; cases hcur
end
end Go.Proofs.Ytlofoeapfmcolaa
/- The document's Change. Its condition: lengths that fit. -/
namespace Go.Proofs.Ytlofoeapfmcolaa
open Go.RowKit Go.Shelf
set_option linter.unusedVariables false
set_option linter.unusedSimpArgs false
section
open E
theorem ent17 : Enters Try.prog 17 := enters_of Try.func17 (by kernel_rfl) rfl
abbrev gF (b p : List UInt8) (x j : Nat) : Nat → List Value := fun q => [.int .u8 (((if x ≤ q ∧ q < x + j then p.getD (q - x) 0 else b.getD q 0).toNat : Nat) : Int)]
abbrev gFR (b p : List UInt8) (x j n : Nat) : Row := ⟨[.fnc (gF b p x j) 1 n], true, none⟩
theorem gF_zero (b p : List UInt8) (x q : Nat) : gF b p x 0 q = byteF b q := by
  show [Value.int .u8 _] = [Value.int .u8 _]
  rw [if_neg (by omega)]
theorem gF_all {b p : List UInt8} {x q : Nat} (h : x + p.length ≤ b.length) : gF b p x p.length q = byteF (putL b p x) q := by
  show [Value.int .u8 _] = [Value.int .u8 (((putL b p x).getD q 0).toNat : Int)]
  rw [putL_getD h]
theorem gF_step {b p : List UInt8} {x j q : Nat} : updF (gF b p x j) (addN 0 ((x : Int) + (j : Int)).toNat) ((gF b p x j (addN 0 ((x : Int) + (j : Int)).toNat)).set 0 (.int .u8 ((p.getD (j : Int).toNat 0).toNat : Int))) q = gF b p x (j + 1) q := by
  have e : addN 0 ((x : Int) + (j : Int)).toNat = x + j := by rw [addN_eq]; omega
  rw [e, Int.toNat_natCast]
  by_cases h : q = x + j
  · subst h
    rw [updF_same]
    show [Value.int .u8 _] = [Value.int .u8 _]
    rw [if_pos (by omega), Nat.add_sub_cancel_left]
  · rw [updF_ne _ _ h]
    show [Value.int .u8 _] = [Value.int .u8 _]
    by_cases h2 : x ≤ q ∧ q < x + j
    · rw [if_pos h2, if_pos (by omega)]
    · rw [if_neg h2, if_neg (by omega)]
abbrev dcT (p : List UInt8) (n m i : Nat) : List (Nat × TV) := [(2, .v (stv p)), (7, .s (.lf (.sl 4001 0 0 1 n none))), (8, .s (.lf (.sl 5002 0 0 1 m none))), (9, .int .i64 (i : Int))]
abbrev dcT2 (p : List UInt8) (n m i j : Nat) : List (Nat × TV) := [(2, .v (stv p)), (7, .s (.lf (.sl 4001 0 0 1 n none))), (8, .s (.lf (.sl 5002 0 0 1 m none))), (9, .int .i64 (i : Int)), (10, .int .i64 (j : Int))]
set_option maxRecDepth 100000 in
theorem rchange_any (s o p : List UInt8) (hs : s.length ≤ 1000000) (ho : o.length ≤ 1000000) (hp : p.length ≤ 1000000) (w : World) : Calls Try.prog 17 #[stv s, stv o, stv p] w fun e w' => e = .returned (stv (changeL s o p)) ∧ Fr w [] w' := by
  refine At.calls (args := [.v (stv s), .v (stv o), .v (stv p)]) (rows := []) (gl := []) (wr := []) (ρ := fun _ => (⟨0, 0, 0⟩ : Blk)) Try.func17 rfl rfl (init_rw ⟨rfl, rfl, rfl, trivial⟩ rfl rfl rfl (fun p hp => by cases hp) (fun p hp => by cases hp) (fun p hp => by cases hp)) rfl ?_
  cases hmo : mayP o with
  | false =>
    have e : changeL s o p = s := by unfold changeL; rw [hmo]; rfl
    rw [e]
    exact At.fin rfl [(2001, hMp o false), (2002003, .val (.v (.bool true)))] ⟨hMp_ok _ _ _ (by omega) hmo, trivial, trivial⟩ [.d] (x := .v (stv s)) (ob := [qL (hMp o false), [TV.v (.bool true) = TV.v (.bool true)]].flatten) (by kernel_rfl) (all_flat ⟨all_qL _, ⟨rfl, trivial⟩, trivial⟩) fun ρ' w' hf _ => ⟨rfl, hf⟩
  | true =>
    cases hm : mayP p with
    | false =>
      have e : changeL s o p = s := by unfold changeL; rw [hmo, hm]; rfl
      rw [e]
      exact At.fin rfl [(2001, hMp o true), (2002003, .val (.v (.bool false))), (2005, hMp p false)] ⟨hMp_ok _ _ _ (by omega) hmo, trivial, hMp_ok _ _ _ (by omega) hm, trivial⟩ [.d] (x := .v (stv s)) (ob := [qL (hMp o true), [TV.v (.bool false) = TV.v (.bool false)], qL (hMp p false)].flatten) (by kernel_rfl) (all_flat ⟨all_qL _, ⟨rfl, trivial⟩, all_qL _, trivial⟩) fun ρ' w' hf _ => ⟨rfl, hf⟩
    | true =>
      have hp32 := may_len hm
      have e : changeL s o p = (placesL s o).foldl (fun b i => putL b p i) s := by rw [changeL_eq, hm, if_pos rfl]
      rw [e]
      have hLl := places_len s o hs
      have hLb : ∀ x ∈ placesL s o, x + p.length ≤ s.length := fun x hx => by rw [hp32]; exact places_bnd x hx
      have hend : ∀ (b : List UInt8), b.length = s.length → TV.v (stv (List.map (fun q => ubyte (byteF b (addN 0 q))) (List.range s.length))) = TV.v (stv b) := fun b hb => tv_str (by rw [← hb]; exact str_of_bytes b)
      have hby : ∀ (b : List UInt8), b.length = s.length → ∀ q, q < s.length → ∃ d : UInt8, byteF b (addN 0 q) = [.int .u8 (d.toNat : Int)] := fun b hb q hq => bytes_q b q (by omega)
      by_cases h0 : placesL s o = []
      · have hk := hI_doc0 (id := 5002) hs ho h0
        rw [h0]
        exact At.fin rfl [(2001, hMp o true), (2002003, .val (.v (.bool false))), (2005, hMp p true), (5002, hI0 15 (fun _ => #[stv s, stv o]) []), (2013001, .val (.v (stv s)))] ⟨hMp_ok _ _ _ (by omega) hmo, trivial, hMp_ok _ _ _ (by omega) hm, hk, trivial, trivial⟩ [.d, .u, .d] (x := .v (stv s)) (ob := [qL (hMp o true), [TV.v (.bool false) = TV.v (.bool false)], qL (hMp p true), qL (hI0 15 (fun _ => #[stv s, stv o]) []), [TV.v (stv (List.map (fun q => ubyte (byteF s (addN 0 q))) (List.range s.length))) = TV.v (stv s), 0 + s.length ≤ s.length, ∀ q, q < s.length → ∃ d : UInt8, byteF s (addN 0 q) = [.int .u8 (d.toNat : Int)]]].flatten) (by kernel_rfl) (all_flat ⟨all_qL _, ⟨rfl, trivial⟩, all_qL _, all_qL _, ⟨hend s rfl, by omega, hby s rfl, trivial⟩, trivial⟩) fun ρ' w' hf _ => ⟨rfl, hf⟩
      · have hk := hI_doc1 (id := 5002) hs ho h0
        generalize placesL s o = L at hk hLl hLb h0
        have hlen : ∀ i, (putN s p L i).length = s.length := fun i => putN_len fun x hx => hLb x (List.mem_of_mem_take hx)
        have hloop : ∀ i : Nat, i ≤ L.length → At Try.prog w ⟨[], fun _ => (⟨0, 0, 0⟩ : Blk), []⟩ Try.f17.ntmps [] (lp Try.f17 0) (EndX Try.prog Try.f17 fun e w' => e = .returned (stv (L.foldl (fun b i => putL b p i) s)) ∧ Fr w [] w') (dcT p s.length L.length i) [(4001, byR (putN s p L i) s.length), (5002, inR L L.length)] := by
          refine At.loop (fun i : Nat => dcT p s.length L.length i) (fun i => [(4001, byR (putN s p L i) s.length), (5002, inR L L.length)]) (fun i => i ≤ L.length) (fun i => L.length - i) fun i hi ih => ?_
          by_cases hlt : i < L.length
          · obtain ⟨x, hx⟩ : ∃ x, x = L.getD i 0 := ⟨_, rfl⟩
            have hxm : x ∈ L := by rw [hx, List.getD_eq_getElem?_getD, List.getElem?_eq_getElem hlt]; exact List.getElem_mem hlt
            have hxb := hLb x hxm
            have hv : TV.int .i64 ((L.getD (addN 0 (i : Int).toNat) 0 : Nat) : Int) = TV.int .i64 ((x : Nat) : Int) := by rw [hx, addN_eq, Nat.zero_add, Int.toNat_natCast]
            have hidx : addN 0 (i : Int).toNat < L.length := by rw [addN_eq]; omega
            have hst := putN_step (s := s) (p := p) hlt
            rw [← hx] at hst
            obtain ⟨b, hbb⟩ : ∃ b, b = putN s p L i := ⟨_, rfl⟩
            have hbl : b.length = s.length := by rw [hbb, hlen]
            have hnext := ih (i + 1) hlt (by show L.length - (i + 1) < L.length - i; omega)
            rw [hst, ← hbb] at hnext
            rw [← hbb]
            have hin : ∀ j : Nat, j ≤ p.length → At Try.prog w ⟨[], fun _ => (⟨0, 0, 0⟩ : Blk), []⟩ Try.f17.ntmps [] (lp Try.f17 1) (EndX Try.prog Try.f17 fun e w' => e = .returned (stv (L.foldl (fun b i => putL b p i) s)) ∧ Fr w [] w') (dcT2 p s.length L.length i j) [(4001, gFR b p x j s.length), (5002, inR L L.length)] := by
              refine At.loop (fun j : Nat => dcT2 p s.length L.length i j) (fun j => [(4001, gFR b p x j s.length), (5002, inR L L.length)]) (fun j => j ≤ p.length) (fun j => p.length - j) fun j hj ihj => ?_
              by_cases hjl : j < p.length
              · have hj2 : addN 0 ((x : Int) + (j : Int)).toNat < s.length := by rw [addN_eq]; omega
                refine At.run rfl [(2012004, .val (.int .i64 (x : Int)))] ⟨trivial, trivial⟩ [.y] (tm2 := dcT2 p s.length L.length i (j + 1)) (rows2 := [(4001, ⟨[.fnc (updF (gF b p x j) (addN 0 ((x : Int) + (j : Int)).toNat) ((gF b p x j (addN 0 ((x : Int) + (j : Int)).toNat)).set 0 (.int .u8 ((p.getD (j : Int).toNat 0).toNat : Int)))) 1 s.length], true, none⟩), (5002, inR L L.length)])
                  (ob := [decide ((j : Int) < (p.length : Int)) = true, 0 ≤ (i : Int) ∧ (i : Int) < (L.length : Int), TV.int .i64 ((L.getD (addN 0 (i : Int).toNat) 0 : Nat) : Int) = TV.int .i64 ((x : Nat) : Int), addN 0 (i : Int).toNat < L.length, inI ((x : Int) + (j : Int)), 0 ≤ (j : Int) ∧ (j : Int) < (p.length : Int), 0 ≤ (x : Int) + (j : Int) ∧ (x : Int) + (j : Int) < (s.length : Int), addN 0 ((x : Int) + (j : Int)).toNat < s.length, inI ((j : Int) + 1)]) (td := lp Try.f17 1) (by kernel_rfl) ⟨decide_eq_true (by omega), ⟨by omega, by omega⟩, hv, hidx, ⟨by omega, by omega⟩, ⟨by omega, by omega⟩, ⟨by omega, by omega⟩, hj2, ⟨by omega, by omega⟩, trivial⟩ rfl rfl (by intro h; cases h) ?_
                exact At.rows (rows2 := [(4001, gFR b p x (j + 1) s.length), (5002, inR L L.length)]) (rowsEq_fnc (fun q _ => gF_step) (rowsEq_same trivial)) rfl (ihj (j + 1) hjl (by show p.length - (j + 1) < p.length - j; omega))
              · obtain rfl : j = p.length := by omega
                refine At.run rfl [] trivial [.n] (tm2 := dcT p s.length L.length (i + 1)) (rows2 := [(4001, gFR b p x p.length s.length), (5002, inR L L.length)]) (ob := [decide ((p.length : Int) < (p.length : Int)) = false, inI ((i : Int) + 1)]) (td := lp Try.f17 0) (by kernel_rfl) ⟨decide_eq_false (by omega), ⟨by omega, by omega⟩, trivial⟩ rfl rfl (by intro h; cases h) ?_
                exact At.rows (rows2 := [(4001, byR (putL b p x) s.length), (5002, inR L L.length)]) (rowsEq_fnc (fun q _ => gF_all (by omega)) (rowsEq_same trivial)) rfl hnext
            refine At.run rfl [] trivial [.y] (tm2 := dcT2 p s.length L.length i 0) (rows2 := [(4001, byR b s.length), (5002, inR L L.length)]) (ob := [decide ((i : Int) < (L.length : Int)) = true]) (td := lp Try.f17 1) (by kernel_rfl) ⟨decide_eq_true (by omega), trivial⟩ rfl rfl (by intro h; cases h) ?_
            exact At.rows (rows2 := [(4001, gFR b p x 0 s.length), (5002, inR L L.length)]) (rowsEq_fnc (fun q _ => (gF_zero b p x q).symm) (rowsEq_same trivial)) rfl (hin 0 (Nat.zero_le _))
          · obtain rfl : i = L.length := by omega
            have hb : L.foldl (fun b i => putL b p i) s = putN s p L L.length := by unfold putN; rw [List.take_length]
            rw [hb]
            obtain ⟨b, hbb⟩ : ∃ b, b = putN s p L L.length := ⟨_, rfl⟩
            have hbl : b.length = s.length := by rw [hbb, hlen]
            rw [← hbb]
            exact At.fin rfl [(2013001, .val (.v (stv b)))] ⟨trivial, trivial⟩ [.n] (x := .v (stv b)) (ob := [decide ((L.length : Int) < (L.length : Int)) = false, TV.v (stv (List.map (fun q => ubyte (byteF b (addN 0 q))) (List.range s.length))) = TV.v (stv b), 0 + s.length ≤ s.length, ∀ q, q < s.length → ∃ d : UInt8, byteF b (addN 0 q) = [.int .u8 (d.toNat : Int)]]) (by kernel_rfl) ⟨decide_eq_false (by omega), hend b hbl, by omega, hby b hbl, trivial⟩ fun ρ' w' hf _ => ⟨rfl, hf⟩
        exact At.run rfl [(2001, hMp o true), (2002003, .val (.v (.bool false))), (2005, hMp p true), (5002, hI1 15 (fun _ => #[stv s, stv o]) [] 5002 L)] ⟨hMp_ok _ _ _ (by omega) hmo, trivial, hMp_ok _ _ _ (by omega) hm, hk, trivial⟩ [.d] (tm2 := dcT p s.length L.length 0) (rows2 := [(4001, byR (putN s p L 0) s.length), (5002, inR L L.length)]) (ob := [qL (hMp o true), [TV.v (.bool false) = TV.v (.bool false)], qL (hMp p true), qL (hI1 15 (fun _ => #[stv s, stv o]) [] 5002 L)].flatten) (td := lp Try.f17 0) (by kernel_rfl) (all_flat ⟨all_qL _, ⟨rfl, trivial⟩, all_qL _, all_qL _, trivial⟩) rfl rfl (by intro h; cases h) (hloop 0 (Nat.zero_le _))
abbrev hCd (s o p r : List UInt8) : Hint := .call ⟨17, fun _ => #[stv s, stv o, stv p], .v (stv r), [], [], none, []⟩
theorem hCd_ok (id : Nat) (s o p r : List UInt8) (hs : s.length ≤ 1000000) (ho : o.length ≤ 1000000) (hp : p.length ≤ 1000000) (h : changeL s o p = r) : HintOk Try.prog id (hCd s o p r) := by
  refine call_ok ent17 rfl (fun p hp => by cases hp) fun ρ w _ => (rchange_any s o p hs ho hp w).mono ?_
  rintro e w' ⟨rfl, hf⟩
  exact ⟨⟨0, 0, 0⟩, by rw [h]; rfl, hf, (fun p hp => by cases hp), fun row hrw => by cases hrw⟩
end
end Go.Proofs.Ytlofoeapfmcolaa
/- The document's Find. Its condition: lengths that fit. -/
namespace Go.Proofs.Ytlofoeapfmcolaa
open Go.RowKit Go.Shelf
set_option linter.unusedVariables false
set_option linter.unusedSimpArgs false
section
open E
theorem ent13 : Enters Try.prog 13 := enters_of Try.func13 (by kernel_rfl) rfl
/-- Texts in memory. -/
abbrev strF (ps : List (List UInt8)) : Nat → List Value := fun q => [stv (ps.getD q [])]
abbrev strR (ps : List (List UInt8)) : Row := ⟨[.fnc (strF ps) 1 ps.length], false, none⟩
theorem strR_ok (ps : List (List UInt8)) : pok (strR ps).ps := pok1 fun i => ⟨rfl, fun v hv => by obtain rfl := List.mem_singleton.1 hv; rfl⟩
/-- The places told of the first texts. -/
def findN (s : List UInt8) (ps : List (List UInt8)) (i : Nat) : List Nat := (List.range i).filter fun i => !(placesL s (ps.getD i [])).isEmpty
theorem findN_all (s : List UInt8) (ps : List (List UInt8)) : findN s ps ps.length = findL s ps := rfl
theorem findN_yes {s : List UInt8} {ps : List (List UInt8)} {i : Nat} (h : placesL s (ps.getD i []) ≠ []) : findN s ps (i + 1) = findN s ps i ++ [i] := by
  unfold findN
  rw [List.range_succ, List.filter_append]
  congr 1
  rw [List.filter_cons_of_pos (by simpa using h)]; rfl
theorem findN_no {s : List UInt8} {ps : List (List UInt8)} {i : Nat} (h : placesL s (ps.getD i []) = []) : findN s ps (i + 1) = findN s ps i := by
  unfold findN
  rw [List.range_succ, List.filter_append, List.filter_cons_of_neg (by rw [h]; simp)]
  simp
theorem findN_len (s : List UInt8) (ps : List (List UInt8)) (i : Nat) : (findN s ps i).length ≤ i := by
  have := List.length_filter_le (fun i => !(placesL s (ps.getD i [])).isEmpty) (List.range i)
  rw [List.length_range] at this
  exact this
structure FdX where
  i : Nat
  l : List Nat
  n : Nat
abbrev fdT (s : List UInt8) (ps : List (List UInt8)) (r : Nat) (x : FdX) : List (Nat × TV) := [(0, .v (stv s)), (1, .s (.lf (.sl 1 0 0 1 ps.length none))), (5, slT r x.n), (6, .int .i64 (x.i : Int))]
set_option maxRecDepth 100000 in
theorem rfind_pos (s : List UInt8) (ps : List (List UInt8)) (hs : s.length ≤ 1000000) (hps : ps.length ≤ 1000000) (hp : ∀ p ∈ ps, p.length ≤ 1000000) (w : World) (ρ : Env) (h1 : RowAt ρ 1 (strR ps) w) : Calls Try.prog 13 #[stv s, (TV.s (.lf (.sl 1 0 0 1 ps.length none))).val ρ] w (IOut w (findL s ps)) := by
  refine At.calls (args := [.v (stv s), .s (.lf (.sl 1 0 0 1 ps.length none))]) (rows := [(1, strR ps)]) (gl := []) (wr := []) (ρ := ρ) Try.func13 rfl rfl (init_rw ⟨rfl, trivial, trivial⟩ rfl rfl rfl (fun p hp => by obtain rfl := List.mem_singleton.1 hp; exact ⟨h1, strR_ok ps⟩) (fun p hp hw => by obtain rfl := List.mem_singleton.1 hp; cases hw) (fun p hp q hq hpq hw => by obtain rfl := List.mem_singleton.1 hp; cases hw)) rfl ?_
  have hloop : ∀ x : FdX, (x.n = x.l.length ∧ x.l = findN s ps x.i ∧ x.i ≤ ps.length) → At Try.prog w ⟨[], ρ, []⟩ Try.f13.ntmps [] (lp Try.f13 0) (EndX Try.prog Try.f13 (IOut w (findL s ps))) (fdT s ps 2904 x) ((1, strR ps) :: rwT 2904 x.l x.n) := by
    refine At.loop (fun x : FdX => fdT s ps 2904 x) (fun x => (1, strR ps) :: rwT 2904 x.l x.n) (fun x => x.n = x.l.length ∧ x.l = findN s ps x.i ∧ x.i ≤ ps.length) (fun x => ps.length - x.i) ?_
    rintro ⟨i, l, n⟩ ⟨hn, hl, hi⟩ ih
    simp only at hn hl hi ih ⊢
    have hnl : n ≤ 1000000 := by
      have := findN_len s ps i
      rw [hn, hl]; omega
    by_cases h : i < ps.length
    · obtain ⟨p, hpp⟩ : ∃ p, p = ps.getD i [] := ⟨_, rfl⟩
      have hpm : p ∈ ps := by rw [hpp, List.getD_eq_getElem?_getD, List.getElem?_eq_getElem h]; exact List.getElem_mem h
      have hpl := hp p hpm
      have hv : TV.v (stv (ps.getD (addN 0 (i : Int).toNat) [])) = TV.v (stv p) := by rw [hpp, addN_eq, Nat.zero_add, Int.toNat_natCast]
      have hidx : addN 0 (i : Int).toNat < ps.length := by rw [addN_eq]; omega
      have i2 : inI ((i : Int) + 1) := ⟨by omega, by omega⟩
      have hd : decide ((i : Int) < (ps.length : Int)) = true := decide_eq_true (by omega)
      by_cases hL : placesL s p = []
      · have hk := hI_doc0 (id := 6005) hs hpl hL
        have h9 := ih ⟨i + 1, l, n⟩ ⟨hn, by rw [hl]; exact (findN_no (by rw [← hpp]; exact hL)).symm, h⟩ (by show ps.length - (i + 1) < ps.length - i; omega)
        have hob : all [[decide ((i : Int) < (ps.length : Int)) = true, 0 ≤ (i : Int) ∧ (i : Int) < (ps.length : Int), TV.v (stv (ps.getD (addN 0 (i : Int).toNat) [])) = TV.v (stv p), addN 0 (i : Int).toNat < ps.length], qL (hI0 15 (fun _ => #[stv s, stv p]) []), [inI ((i : Int) + 1)]].flatten := all_flat ⟨⟨hd, ⟨by omega, by omega⟩, hv, hidx, trivial⟩, all_qL _, ⟨i2, trivial⟩, trivial⟩
        cases n with
        | zero => exact At.run rfl [(2006004, .val (.v (stv p))), (6005, hI0 15 (fun _ => #[stv s, stv p]) [])] ⟨trivial, hk, trivial⟩ [.y, .d] (tm2 := fdT s ps 2904 ⟨i + 1, l, 0⟩) (rows2 := [(1, strR ps)]) (ob := [[decide ((i : Int) < (ps.length : Int)) = true, 0 ≤ (i : Int) ∧ (i : Int) < (ps.length : Int), TV.v (stv (ps.getD (addN 0 (i : Int).toNat) [])) = TV.v (stv p), addN 0 (i : Int).toNat < ps.length], qL (hI0 15 (fun _ => #[stv s, stv p]) []), [inI ((i : Int) + 1)]].flatten) (td := lp Try.f13 0) (by kernel_rfl) hob rfl rfl (by intro h; cases h) h9
        | succ n => exact At.run rfl [(2006004, .val (.v (stv p))), (6005, hI0 15 (fun _ => #[stv s, stv p]) [])] ⟨trivial, hk, trivial⟩ [.y, .d] (tm2 := fdT s ps 2904 ⟨i + 1, l, n + 1⟩) (rows2 := [(1, strR ps), (2904, inR l (n + 1))]) (ob := [[decide ((i : Int) < (ps.length : Int)) = true, 0 ≤ (i : Int) ∧ (i : Int) < (ps.length : Int), TV.v (stv (ps.getD (addN 0 (i : Int).toNat) [])) = TV.v (stv p), addN 0 (i : Int).toNat < ps.length], qL (hI0 15 (fun _ => #[stv s, stv p]) []), [inI ((i : Int) + 1)]].flatten) (td := lp Try.f13 0) (by kernel_rfl) hob rfl rfl (by intro h; cases h) h9
      · have hk := hI_doc1 (id := 6005) hs hpl hL
        have hpos : 0 < (placesL s p).length := by
          rcases Nat.eq_zero_or_pos (placesL s p).length with h | h
          · exact absurd (List.length_eq_zero_iff.1 h) hL
          · exact h
        have h9 := ih ⟨i + 1, l ++ [i], n + 1⟩ ⟨by rw [List.length_append, hn]; rfl, by rw [hl]; exact (findN_yes (by rw [← hpp]; exact hL)).symm, h⟩ (by show ps.length - (i + 1) < ps.length - i; omega)
        generalize placesL s p = L at hk hpos
        have hren : At Try.prog w ⟨[], ρ, []⟩ Try.f13.ntmps [] (lp Try.f13 0) (EndX Try.prog Try.f13 (IOut w (findL s ps))) [(0, .v (stv s)), (1, .s (.lf (.sl 1 0 0 1 ps.length none))), (5, .s (.lf (.sl 7003 0 0 1 (n + 1) none))), (6, .int .i64 ((i + 1 : Nat) : Int))] [(1, strR ps), (7003, inR (l ++ [i]) (n + 1))] :=
          At.ren [(2904, 7003)] (fdT s ps 2904 ⟨i + 1, l ++ [i], n + 1⟩) ((1, strR ps) :: rwT 2904 (l ++ [i]) (n + 1)) rfl rfl rfl rfl rfl h9
        cases n with
        | zero =>
          obtain rfl : l = [] := List.length_eq_zero_iff.1 hn.symm
          refine At.run rfl [(2006004, .val (.v (stv p))), (6005, hI1 15 (fun _ => #[stv s, stv p]) [] 6005 L)] ⟨trivial, hk, trivial⟩ [.y, .y] (tm2 := [(0, .v (stv s)), (1, .s (.lf (.sl 1 0 0 1 ps.length none))), (5, .s (.lf (.sl 7003 0 0 1 (0 + 1) none))), (6, .int .i64 ((i + 1 : Nat) : Int))]) (rows2 := [(1, strR ps), (7003, ⟨[.fnc (fun q => chunkF [.int .i64 (i : Int)] 1 1 (addN 0 q)) 1 1], true, some (3, 1)⟩)])
            (ob := [[decide ((i : Int) < (ps.length : Int)) = true, 0 ≤ (i : Int) ∧ (i : Int) < (ps.length : Int), TV.v (stv (ps.getD (addN 0 (i : Int).toNat) [])) = TV.v (stv p), addN 0 (i : Int).toNat < ps.length], qL (hI1 15 (fun _ => #[stv s, stv p]) [] 6005 L), [decide ((L.length : Int) > 0) = true, 0 < 1, 1 ≤ 9223372036854775807, 8 ≤ 140737488355328, 1 ≤ 1, inI ((i : Int) + 1)]].flatten) (td := lp Try.f13 0) (by kernel_rfl) (all_flat ⟨⟨hd, ⟨by omega, by omega⟩, hv, hidx, trivial⟩, all_qL _, ⟨decide_eq_true (by omega), by decide, by decide, by decide, by decide, i2, trivial⟩, trivial⟩) rfl rfl (by intro h; cases h) ?_
          exact At.rows (rows2 := [(1, strR ps), (7003, inR ([] ++ [i]) (0 + 1))]) (rowsEq_same (rowsEq_fnc (in_one i) trivial)) rfl hren
        | succ n =>
          refine At.run rfl [(2006004, .val (.v (stv p))), (6005, hI1 15 (fun _ => #[stv s, stv p]) [] 6005 L)] ⟨trivial, hk, trivial⟩ [.y, .y] (tm2 := [(0, .v (stv s)), (1, .s (.lf (.sl 1 0 0 1 ps.length none))), (5, .s (.lf (.sl 7003 0 0 1 (n + 1 + 1) none))), (6, .int .i64 ((i + 1 : Nat) : Int))]) (rows2 := [(1, strR ps), (7003, ⟨[.fnc (appF (inF l) (n + 1) fun q => chunkF [.int .i64 (i : Int)] 1 1 (addN 0 q)) 1 (n + 1 + 1)], true, some (3, 1)⟩)])
            (ob := [[decide ((i : Int) < (ps.length : Int)) = true, 0 ≤ (i : Int) ∧ (i : Int) < (ps.length : Int), TV.v (stv (ps.getD (addN 0 (i : Int).toNat) [])) = TV.v (stv p), addN 0 (i : Int).toNat < ps.length], qL (hI1 15 (fun _ => #[stv s, stv p]) [] 6005 L), [decide ((L.length : Int) > 0) = true, n + 1 = n + 1, n + 1 + 1 ≤ 9223372036854775807, (n + 1 + 1) * 8 ≤ 140737488355328, 1 ≤ 1, inI ((i : Int) + 1)]].flatten) (td := lp Try.f13 0) (by kernel_rfl) (all_flat ⟨⟨hd, ⟨by omega, by omega⟩, hv, hidx, trivial⟩, all_qL _, ⟨decide_eq_true (by omega), rfl, by omega, by omega, by decide, i2, trivial⟩, trivial⟩) rfl rfl (by intro h; cases h) ?_
          exact At.rows (rows2 := [(1, strR ps), (7003, inR (l ++ [i]) (n + 1 + 1))]) (rowsEq_same (rowsEq_fnc (in_step l (n + 1) i hn) trivial)) rfl hren
    · obtain rfl : i = ps.length := by omega
      rw [findN_all] at hl
      rw [← hl]
      cases n with
      | zero =>
        obtain rfl : l = [] := List.length_eq_zero_iff.1 hn.symm
        exact At.fin rfl [] trivial [.n] (x := .v nilS) (ob := [decide ((ps.length : Int) < (ps.length : Int)) = false]) (by kernel_rfl) ⟨decide_eq_false (by omega), trivial⟩ fun ρ' w' hf _ => ⟨hf, .inl ⟨rfl, rfl⟩⟩
      | succ n =>
        refine At.finR rfl [] trivial [.n] (rows2 := [(2904, inR l (n + 1))]) (x := .s (.lf (.sl 2904 0 0 1 (n + 1) none))) (ob := [decide ((ps.length : Int) < (ps.length : Int)) = false]) (by kernel_rfl) ⟨decide_eq_false (by omega), trivial⟩ fun ρ' w' hf he _ hq => ?_
        obtain ⟨g1, _, g3⟩ := hq _ (List.mem_singleton.2 rfl)
        exact iout_row hf g1 hn ((g3 rfl).resolve_right (by simp))
  exact At.run rfl [] trivial [] (tm2 := fdT s ps 2904 ⟨0, [], 0⟩) (rows2 := [(1, strR ps)]) (ob := []) (td := lp Try.f13 0) (by kernel_rfl) trivial rfl rfl (by intro h; cases h) (hloop ⟨0, [], 0⟩ ⟨rfl, rfl, Nat.zero_le _⟩)
set_option maxRecDepth 100000 in
theorem rfind_nil (s : List UInt8) (pa : Option Addr) (ca : Nat) (w : World) : Calls Try.prog 13 #[stv s, .slice pa 0 ca] w (IOut w []) := by
  refine At.calls (args := [.v (stv s), .v (.slice pa 0 ca)]) (rows := []) (gl := []) (wr := []) (ρ := fun _ => (⟨0, 0, 0⟩ : Blk)) Try.func13 rfl rfl (init_rw ⟨rfl, rfl, trivial⟩ rfl rfl rfl (fun p hp => by cases hp) (fun p hp => by cases hp) (fun p hp => by cases hp)) rfl ?_
  exact At.fin rfl [] trivial [.u, .d] (x := .v nilS) (ob := []) (by kernel_rfl) trivial fun ρ' w' hf _ => ⟨hf, .inl ⟨rfl, rfl⟩⟩
end
end Go.Proofs.Ytlofoeapfmcolaa
/- The scanner's Found. Its condition: lengths that fit. -/
namespace Go.Proofs.Ytlofoeapfmcolaa
open Go Go.RowKit
set_option linter.unusedVariables false
set_option linter.unusedSimpArgs false
section
open E
theorem ent22 : Enters Try.prog 22 := enters_of Try.func22 (by kernel_rfl) rfl
/-- What a set of texts has is told ahead. -/
abbrev hLk (mb : Nat) (p : List UInt8) (b : Bool) : Hint := .look 50 (.map (some mb)) (stv p) (.tup [.agg [], .lf (.v (.bool b))])
theorem hLk_ok {w0 : World} {wr : Bs} {mb n : Nat} {S : List UInt8 → Bool} {p : List UInt8} (id : Nat) (h : MsR w0 mb n S) (hp : p.length ≤ maxLen) : HintAt Try.prog w0 wr id (hLk mb p (S p)) := by
  refine ⟨fun x hx => ?_, fun ρ w hk => ?_⟩
  · simp only [List.mem_cons, List.not_mem_nil, or_false] at hx
    rcases hx with rfl | rfl
    · exact fun p hp => by cases hp
    · rfl
  · have h2 : MsR w mb n S := h.keep (by
      obtain ⟨D, ⟨es, c, h1, _⟩, _⟩ := h
      rw [h1]
      exact hk.same mb _ h1 rfl)
    exact ms_look h2 hp
/-- The parts that are looked for, with their places. -/
abbrev Wl := List (List UInt8 × Nat)
abbrev wF (L : Wl) : Nat → List Value := fun q => [stv (L.getD q ([], 0)).1, .int .i64 ((L.getD q ([], 0)).2 : Int)]
abbrev wR (L : Wl) (wr : Bool) (cp : Option (TypeId × Nat)) : Row := ⟨[.fnc (wF L) 2 L.length], wr, cp⟩
theorem wR_ok (L : Wl) (wr : Bool) (cp : Option (TypeId × Nat)) : pok (wR L wr cp).ps := pok1 fun i => ⟨rfl, fun v hv => by
  simp only [List.mem_cons, List.not_mem_nil, or_false] at hv
  rcases hv with rfl | rfl <;> rfl⟩
/-- A scanner's cells: its parts lie in a row, or there is none. -/
abbrev scX (x : Lf) (mb : Nat) (lv : List UInt8) (wr : Bool) : Row := ⟨[.one x, .one (.v (.map (some mb))), .one (.v (stv lv))], wr, none⟩
abbrev wSl (L : Wl) : Lf := .sl 6 0 0 2 L.length none
theorem scX_ok (L : Wl) (mb : Nat) (lv : List UInt8) (wr : Bool) : pok (scX (wSl L) mb lv wr).ps := fun p hp => by
  simp only [List.mem_cons, List.not_mem_nil, or_false] at hp
  rcases hp with rfl | rfl | rfl
  · trivial
  · rfl
  · rfl
/-- Which of the parts are missed no more. -/
def foundN (S : List UInt8 → Bool) (L : Wl) (i : Nat) : List Nat := ((L.take i).filter fun x => !S x.1).map (·.2)
def foundL (S : List UInt8 → Bool) (L : Wl) : List Nat := (L.filter fun x => !S x.1).map (·.2)
theorem foundN_all (S : List UInt8 → Bool) (L : Wl) : foundN S L L.length = foundL S L := by unfold foundN foundL; rw [List.take_length]
theorem foundN_len (S : List UInt8 → Bool) (L : Wl) (i : Nat) : (foundN S L i).length ≤ i := by
  unfold foundN
  rw [List.length_map]
  exact Nat.le_trans (List.length_filter_le _ _) (by rw [List.length_take]; omega)
theorem foundN_yes {S : List UInt8 → Bool} {L : Wl} {i : Nat} (h : i < L.length) (hs : S (L[i]).1 = false) : foundN S L (i + 1) = foundN S L i ++ [(L[i]).2] := by
  unfold foundN
  rw [List.take_add_one, List.getElem?_eq_getElem h, List.filter_append, List.map_append]
  congr 1
  show ((List.filter _ [L[i]]).map _) = _
  rw [List.filter_cons_of_pos (by rw [hs]; rfl)]; rfl
theorem foundN_no {S : List UInt8 → Bool} {L : Wl} {i : Nat} (h : i < L.length) (hs : S (L[i]).1 = true) : foundN S L (i + 1) = foundN S L i := by
  unfold foundN
  rw [List.take_add_one, List.getElem?_eq_getElem h, List.filter_append, List.map_append]
  show _ ++ ((List.filter _ [L[i]]).map _) = _
  rw [List.filter_cons_of_neg (by rw [hs]; simp)]
  simp
abbrev fnT (L : Wl) (r : Nat) (x : FdX) : List (Nat × TV) := [(0, ptrTo 0), (3, slT r x.n), (13, .s (.lf (wSl L))), (14, .int .i64 (L.length : Int)), (15, .int .i64 (x.i : Int))]
abbrev fnR (L : Wl) (mb : Nat) (lv : List UInt8) : List (Nat × Row) := [(0, scX (wSl L) mb lv false), (6, wR L false none)]
theorem found_nil (mb : Nat) (lv : List UInt8) (W : World) (ρ : Env) (h0 : RowAt ρ 0 (scR nilS mb lv false) W) : Calls Try.prog 22 #[(ptrTo 0).val ρ] W (IOut W []) := by
  refine At.calls (args := [ptrTo 0]) (rows := [(0, scR nilS mb lv false)]) (gl := []) (wr := []) (ρ := ρ) Try.func22 rfl rfl (init_rw ⟨trivial, trivial⟩ rfl rfl rfl (fun p hp => by obtain rfl := List.mem_singleton.1 hp; exact ⟨h0, scR_ok nilS mb lv false rfl⟩) (fun p hp hw => by obtain rfl := List.mem_singleton.1 hp; cases hw) (fun p hp q hq hpq hw => by obtain rfl := List.mem_singleton.1 hp; cases hw)) rfl ?_
  exact At.fin rfl [] trivial [.n, .u, .d] (x := .v nilS) (ob := [false = false]) (by kernel_rfl) ⟨rfl, trivial⟩ fun ρ' w' hf _ => ⟨hf, .inl ⟨rfl, rfl⟩⟩
set_option maxRecDepth 100000 in
theorem found_pos (L : Wl) (hL : L.length ≤ 1000000) (hp : ∀ x ∈ L, x.1.length ≤ 1000000) (mb n : Nat) (S : List UInt8 → Bool) (lv : List UInt8) (W : World) (ρ : Env) (hM : MsR W mb n S)
    (h0 : RowAt ρ 0 (scX (wSl L) mb lv false) W) (h6 : RowAt ρ 6 (wR L false none) W) : Calls Try.prog 22 #[(ptrTo 0).val ρ] W (IOut W (foundL S L)) := by
  refine At.calls (args := [ptrTo 0]) (rows := fnR L mb lv) (gl := []) (wr := []) (ρ := ρ) Try.func22 rfl rfl (init_rw ⟨trivial, trivial⟩ rfl rfl rfl (fun p hp => by
    simp only [List.mem_cons, List.not_mem_nil, or_false] at hp
    rcases hp with rfl | rfl
    · exact ⟨h0, scX_ok L mb lv false⟩
    · exact ⟨h6, wR_ok L false none⟩) (fun p hp hw => by
    simp only [List.mem_cons, List.not_mem_nil, or_false] at hp
    rcases hp with rfl | rfl <;> cases hw) (fun p hp q hq hpq hw => by
    simp only [List.mem_cons, List.not_mem_nil, or_false] at hp
    rcases hp with rfl | rfl <;> cases hw)) rfl ?_
  have hloop : ∀ x : FdX, (x.n = x.l.length ∧ x.l = foundN S L x.i ∧ x.i ≤ L.length) → At Try.prog W ⟨[], ρ, []⟩ Try.f22.ntmps [] (lp Try.f22 0) (EndX Try.prog Try.f22 (IOut W (foundL S L))) (fnT L 2904 x) (fnR L mb lv ++ rwT 2904 x.l x.n) := by
    refine At.loop (fun x : FdX => fnT L 2904 x) (fun x => fnR L mb lv ++ rwT 2904 x.l x.n) (fun x => x.n = x.l.length ∧ x.l = foundN S L x.i ∧ x.i ≤ L.length) (fun x => L.length - x.i) ?_
    rintro ⟨i, l, n⟩ ⟨hn, hl, hi⟩ ih
    simp only at hn hl hi ih ⊢
    have hnl : n ≤ 1000000 := by
      have := foundN_len S L i
      rw [hn, hl]; omega
    by_cases h : i < L.length
    · obtain ⟨p, hpp⟩ : ∃ p, p = (L[i]).1 := ⟨_, rfl⟩
      obtain ⟨t, htt⟩ : ∃ t, t = (L[i]).2 := ⟨_, rfl⟩
      have hpl := hp _ (List.getElem_mem h)
      rw [← hpp] at hpl
      have hge : L.getD (addN 0 (i : Int).toNat) ([], 0) = L[i] := by rw [addN_eq, Nat.zero_add, Int.toNat_natCast, List.getD_eq_getElem?_getD, List.getElem?_eq_getElem h]; rfl
      have hv : TV.s (.agg [.one (.v (stv (L.getD (addN 0 (i : Int).toNat) ([], 0)).1)), .one (.v (.int .i64 ((L.getD (addN 0 (i : Int).toNat) ([], 0)).2 : Int)))]) = TV.s (.agg [.one (.v (stv p)), .one (.v (.int .i64 (t : Int)))]) := by rw [hge, hpp, htt]
      have hidx : addN 0 (i : Int).toNat < L.length := by rw [addN_eq]; omega
      have i2 : inI ((i : Int) + 1) := ⟨by omega, by omega⟩
      have hd : decide ((i : Int) < (L.length : Int)) = true := decide_eq_true (by omega)
      have hk := hLk_ok (wr := ⟨[], ρ, []⟩) 8006 hM (p := p) (by unfold maxLen; omega)
      have hrfl : TV.s (SV.lf (Lf.v (Value.map (some mb)))) = TV.s (SV.lf (Lf.v (Value.map (some mb)))) := rfl
      by_cases hS : S p = true
      · rw [hS] at hk
        have h9 := ih ⟨i + 1, l, n⟩ ⟨hn, by rw [hl]; exact (foundN_no h (by rw [← hpp]; exact hS)).symm, h⟩ (by show L.length - (i + 1) < L.length - i; omega)
        cases n with
        | zero => exact At.run rfl [(2007001, .val (.s (.agg [.one (.v (stv p)), .one (.v (.int .i64 (t : Int)))]))), (8006, hLk mb p true)] ⟨trivial, hk, trivial⟩ [.y, .d] (tm2 := fnT L 2904 ⟨i + 1, l, 0⟩) (rows2 := fnR L mb lv) (ob := [decide ((i : Int) < (L.length : Int)) = true, 0 ≤ (i : Int) ∧ (i : Int) < (L.length : Int), TV.s (.agg [.one (.v (stv (L.getD (addN 0 (i : Int).toNat) ([], 0)).1)), .one (.v (.int .i64 ((L.getD (addN 0 (i : Int).toNat) ([], 0)).2 : Int)))]) = TV.s (.agg [.one (.v (stv p)), .one (.v (.int .i64 (t : Int)))]), addN 0 (i : Int).toNat < L.length, 50 = 50, TV.v (.map (some mb)) = TV.v (.map (some mb)), TV.v (stv p) = TV.v (stv p), inI ((i : Int) + 1)]) (td := lp Try.f22 0) (by kernel_rfl) ⟨hd, ⟨by omega, by omega⟩, hv, hidx, rfl, rfl, rfl, i2, trivial⟩ rfl rfl (by intro h; cases h) h9
        | succ n => exact At.run rfl [(2007001, .val (.s (.agg [.one (.v (stv p)), .one (.v (.int .i64 (t : Int)))]))), (8006, hLk mb p true)] ⟨trivial, hk, trivial⟩ [.y, .d] (tm2 := fnT L 2904 ⟨i + 1, l, n + 1⟩) (rows2 := fnR L mb lv ++ [(2904, inR l (n + 1))]) (ob := [decide ((i : Int) < (L.length : Int)) = true, 0 ≤ (i : Int) ∧ (i : Int) < (L.length : Int), TV.s (.agg [.one (.v (stv (L.getD (addN 0 (i : Int).toNat) ([], 0)).1)), .one (.v (.int .i64 ((L.getD (addN 0 (i : Int).toNat) ([], 0)).2 : Int)))]) = TV.s (.agg [.one (.v (stv p)), .one (.v (.int .i64 (t : Int)))]), addN 0 (i : Int).toNat < L.length, 50 = 50, TV.v (.map (some mb)) = TV.v (.map (some mb)), TV.v (stv p) = TV.v (stv p), inI ((i : Int) + 1)]) (td := lp Try.f22 0) (by kernel_rfl) ⟨hd, ⟨by omega, by omega⟩, hv, hidx, rfl, rfl, rfl, i2, trivial⟩ rfl rfl (by intro h; cases h) h9
      · have hS : S p = false := by simpa using hS
        rw [hS] at hk
        have h9 := ih ⟨i + 1, l ++ [t], n + 1⟩ ⟨by rw [List.length_append, hn]; rfl, by rw [hl, htt]; exact (foundN_yes h (by rw [← hpp]; exact hS)).symm, h⟩ (by show L.length - (i + 1) < L.length - i; omega)
        have hren : At Try.prog W ⟨[], ρ, []⟩ Try.f22.ntmps [] (lp Try.f22 0) (EndX Try.prog Try.f22 (IOut W (foundL S L))) [(0, ptrTo 0), (3, .s (.lf (.sl 10004 0 0 1 (n + 1) none))), (13, .s (.lf (wSl L))), (14, .int .i64 (L.length : Int)), (15, .int .i64 ((i + 1 : Nat) : Int))] ([(0, scX (wSl L) mb lv false), (6, wR L false none), (10004, inR (l ++ [t]) (n + 1))]) :=
          At.ren [(2904, 10004)] (fnT L 2904 ⟨i + 1, l ++ [t], n + 1⟩) (fnR L mb lv ++ rwT 2904 (l ++ [t]) (n + 1)) rfl rfl rfl rfl rfl h9
        cases n with
        | zero =>
          obtain rfl : l = [] := List.length_eq_zero_iff.1 hn.symm
          refine At.run rfl [(2007001, .val (.s (.agg [.one (.v (stv p)), .one (.v (.int .i64 (t : Int)))]))), (8006, hLk mb p false)] ⟨trivial, hk, trivial⟩ [.y, .d] (tm2 := [(0, ptrTo 0), (3, .s (.lf (.sl 10004 0 0 1 (0 + 1) none))), (13, .s (.lf (wSl L))), (14, .int .i64 (L.length : Int)), (15, .int .i64 ((i + 1 : Nat) : Int))]) (rows2 := [(0, scX (wSl L) mb lv false), (6, wR L false none), (10004, ⟨[.fnc (fun q => chunkF [.int .i64 (t : Int)] 1 1 (addN 0 q)) 1 1], true, some (3, 1)⟩)])
            (ob := [decide ((i : Int) < (L.length : Int)) = true, 0 ≤ (i : Int) ∧ (i : Int) < (L.length : Int), TV.s (.agg [.one (.v (stv (L.getD (addN 0 (i : Int).toNat) ([], 0)).1)), .one (.v (.int .i64 ((L.getD (addN 0 (i : Int).toNat) ([], 0)).2 : Int)))]) = TV.s (.agg [.one (.v (stv p)), .one (.v (.int .i64 (t : Int)))]), addN 0 (i : Int).toNat < L.length, 50 = 50, TV.v (.map (some mb)) = TV.v (.map (some mb)), TV.v (stv p) = TV.v (stv p), 0 < 1, 1 ≤ 9223372036854775807, 8 ≤ 140737488355328, 1 ≤ 1, inI ((i : Int) + 1)]) (td := lp Try.f22 0) (by kernel_rfl) ⟨hd, ⟨by omega, by omega⟩, hv, hidx, rfl, rfl, rfl, by decide, by decide, by decide, by decide, i2, trivial⟩ rfl rfl (by intro h; cases h) ?_
          exact At.rows (rows2 := [(0, scX (wSl L) mb lv false), (6, wR L false none), (10004, inR ([] ++ [t]) (0 + 1))]) (rowsEq_same (rowsEq_same (rowsEq_fnc (in_one t) trivial))) rfl hren
        | succ n =>
          refine At.run rfl [(2007001, .val (.s (.agg [.one (.v (stv p)), .one (.v (.int .i64 (t : Int)))]))), (8006, hLk mb p false)] ⟨trivial, hk, trivial⟩ [.y, .d] (tm2 := [(0, ptrTo 0), (3, .s (.lf (.sl 10004 0 0 1 (n + 1 + 1) none))), (13, .s (.lf (wSl L))), (14, .int .i64 (L.length : Int)), (15, .int .i64 ((i + 1 : Nat) : Int))]) (rows2 := [(0, scX (wSl L) mb lv false), (6, wR L false none), (10004, ⟨[.fnc (appF (inF l) (n + 1) fun q => chunkF [.int .i64 (t : Int)] 1 1 (addN 0 q)) 1 (n + 1 + 1)], true, some (3, 1)⟩)])
            (ob := [decide ((i : Int) < (L.length : Int)) = true, 0 ≤ (i : Int) ∧ (i : Int) < (L.length : Int), TV.s (.agg [.one (.v (stv (L.getD (addN 0 (i : Int).toNat) ([], 0)).1)), .one (.v (.int .i64 ((L.getD (addN 0 (i : Int).toNat) ([], 0)).2 : Int)))]) = TV.s (.agg [.one (.v (stv p)), .one (.v (.int .i64 (t : Int)))]), addN 0 (i : Int).toNat < L.length, 50 = 50, TV.v (.map (some mb)) = TV.v (.map (some mb)), TV.v (stv p) = TV.v (stv p), n + 1 = n + 1, n + 1 + 1 ≤ 9223372036854775807, (n + 1 + 1) * 8 ≤ 140737488355328, 1 ≤ 1, inI ((i : Int) + 1)]) (td := lp Try.f22 0) (by kernel_rfl) ⟨hd, ⟨by omega, by omega⟩, hv, hidx, rfl, rfl, rfl, rfl, by omega, by omega, by decide, i2, trivial⟩ rfl rfl (by intro h; cases h) ?_
          exact At.rows (rows2 := [(0, scX (wSl L) mb lv false), (6, wR L false none), (10004, inR (l ++ [t]) (n + 1 + 1))]) (rowsEq_same (rowsEq_same (rowsEq_fnc (in_step l (n + 1) t hn) trivial))) rfl hren
    · obtain rfl : i = L.length := by omega
      rw [foundN_all] at hl
      rw [← hl]
      cases n with
      | zero =>
        obtain rfl : l = [] := List.length_eq_zero_iff.1 hn.symm
        exact At.fin rfl [] trivial [.n] (x := .v nilS) (ob := [decide ((L.length : Int) < (L.length : Int)) = false]) (by kernel_rfl) ⟨decide_eq_false (by omega), trivial⟩ fun ρ' w' hf _ => ⟨hf, .inl ⟨rfl, rfl⟩⟩
      | succ n =>
        refine At.finR rfl [] trivial [.n] (rows2 := [(2904, inR l (n + 1))]) (x := .s (.lf (.sl 2904 0 0 1 (n + 1) none))) (ob := [decide ((L.length : Int) < (L.length : Int)) = false]) (by kernel_rfl) ⟨decide_eq_false (by omega), trivial⟩ fun ρ' w' hf he _ hq => ?_
        obtain ⟨g1, _, g3⟩ := hq _ (List.mem_singleton.2 rfl)
        exact iout_row hf g1 hn ((g3 rfl).resolve_right (by simp))
  exact At.run rfl [] trivial [.n] (tm2 := fnT L 2904 ⟨0, [], 0⟩) (rows2 := fnR L mb lv) (ob := [false = false]) (td := lp Try.f22 0) (by kernel_rfl) ⟨rfl, trivial⟩ rfl rfl (by intro h; cases h) (hloop ⟨0, [], 0⟩ ⟨rfl, rfl, Nat.zero_le _⟩)
end
end Go.Proofs.Ytlofoeapfmcolaa
