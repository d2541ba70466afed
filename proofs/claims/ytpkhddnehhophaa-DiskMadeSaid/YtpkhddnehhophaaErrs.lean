/- What the calls of package disk tell that may not be, and that awake of the law returns true. -/
import Derived.Test.YtpkhddnehhophaaNew
namespace Go.Proofs.Ytpkhddnehhophaa
open Go.RowKit
set_option linter.unusedVariables false

theorem turn_nil (i k v : Int) (w : World) : Calls Try.prog 21 #[.pointer none, .int .i64 i, .int .i64 k, .int .i64 v] w fun e w' => e = .returned (.int .i64 1) ∧ w = w' := by
  go_enter Try.func21, Try.ntmps21
  go_wp2
  go_ret
  exact ⟨rfl, rfl⟩

set_option maxHeartbeats 400000 in
theorem turn_noSector {w : World} {B b bs : Nat} {lv : Value} {D : DS} (h : Rep w B b bs lv D) (i k v : Int) (hi : i < 0 ∨ (D.n : Int) ≤ i) :
    Calls Try.prog 21 #[.pointer (some ⟨b, 0, none⟩), .int .i64 i, .int .i64 k, .int .i64 v] w fun e w' => e = .returned (.int .i64 1) ∧ w = w' := by
  obtain ⟨c0, -, -, -⟩ := h.c
  have K := has_no b bs D.n D.n i w hi c0
  clear h hi
  go_enter Try.func21, Try.ntmps21
  go_wp2_with (go_at_call 30; refine K.mono ?_; clear K; rintro e w' ⟨rfl, rfl⟩)
  go_ret
  exact ⟨rfl, rfl⟩

set_option maxHeartbeats 400000 in
theorem turn_badPlace {w : World} {B b bs : Nat} {lv : Value} {D : DS} (h : Rep w B b bs lv D) (i k v : Int) (h0 : 0 ≤ i) (h1 : i < D.n) (hp : decide (k < 0) = true ∨ (decide (k < 0) = false ∧ decide (64 ≤ k) = true) ∨ (decide (k < 0) = false ∧ decide (64 ≤ k) = false ∧ decide (v < 1) = true) ∨ (decide (k < 0) = false ∧ decide (64 ≤ k) = false ∧ decide (v < 1) = false ∧ decide (255 < v) = true)) :
    Calls Try.prog 21 #[.pointer (some ⟨b, 0, none⟩), .int .i64 i, .int .i64 k, .int .i64 v] w fun e w' => e = .returned (.int .i64 1) ∧ w = w' := by
  obtain ⟨c0, -, -, -⟩ := h.c
  have K := has_yes b bs D.n D.n i w h0 h1 c0
  clear h h0 h1
  rcases hp with h1 | ⟨h1, h2⟩ | ⟨h1, h2, h3⟩ | ⟨h1, h2, h3, h4⟩
  all_goals
    go_enter Try.func21, Try.ntmps21
    go_wp2_with (go_at_call 30; refine K.mono ?_; clear K; rintro e w' ⟨rfl, rfl⟩)
    go_ret
    exact ⟨rfl, rfl⟩

set_option maxHeartbeats 400000 in
theorem turn_have {w : World} {B b bs : Nat} {lv : Value} {D : DS} (h : Rep w B b bs lv D) (i k v : Int) (h0 : 0 ≤ i) (h1 : i < D.n) (hk : decide (k < 0) = false) (hk2 : decide (64 ≤ k) = false) (hv : decide (v < 1) = false) (hv2 : decide (255 < v) = false) (hl : 0 < D.loose.length) :
    Calls Try.prog 21 #[.pointer (some ⟨b, 0, none⟩), .int .i64 i, .int .i64 k, .int .i64 v] w fun e w' => e = .returned (.int .i64 3) ∧ w = w' := by
  obtain ⟨c0, c1, -, -⟩ := h.c
  obtain ⟨p, c, rfl⟩ := h.sl
  have K := has_yes b bs D.n D.n i w h0 h1 c0
  have hm := h.hm
  clear h h0 h1
  generalize D.loose.length = m at *
  go_enter Try.func21, Try.ntmps21
  go_wp2_with (go_at_call 30; refine K.mono ?_; clear K; rintro e w' ⟨rfl, rfl⟩)
  go_ret
  exact ⟨rfl, rfl⟩

theorem write_nil (i : Int) (s : ByteArray) (w : World) : Calls Try.prog 15 #[.pointer none, .int .i64 i, .string s] w fun e w' => e = .returned (.int .i64 1) ∧ w = w' := by
  go_enter Try.func15, Try.ntmps15
  go_wp2
  go_ret
  exact ⟨rfl, rfl⟩
theorem len_nil (w : World) : Calls Try.prog 22 #[.pointer none] w fun e w' => e = .returned (.int .i64 0) ∧ w = w' := by
  go_enter Try.func22, Try.ntmps22
  go_wp2
  go_ret
  exact ⟨rfl, rfl⟩
theorem loose_nil (w : World) : Calls Try.prog 17 #[.pointer none] w fun e w' => e = .returned (.int .i64 0) ∧ w = w' := by
  go_enter Try.func17, Try.ntmps17
  go_wp2
  go_ret
  exact ⟨rfl, rfl⟩
theorem crash_nil (v : Value) (w : World) : Calls Try.prog 18 #[.pointer none, v] w fun e w' => e = .returned (.tuple #[]) ∧ w.alloc (.cells #[.pointer none] 28) = w' := by
  go_enter Try.func18, Try.ntmps18
  go_wp2

  refine bodyPost_ret (results_none rfl _ _ _) rfl ?_
  exact ⟨rfl, rfl⟩

theorem wpList_runG {P : Program} {ops : Array Oper} {rest : List Oper} {o : Oper} {a : Act} {w w2 : World} {Q : Exit → Act → World → Prop} (hw : Region.wanted o (yielded ops a.tmps) = true) (v : Value)
    (hrun : (execOp a.eval o).run P w = .ok (.value v) w2) (h : wpList P ops Q rest (a.put o.dst v) w2) : wpList P ops Q (o :: rest) a w :=
  wpList_step fun K hK => by rw [if_pos hw]; unfold Oper.wp; rw [hrun]; exact hK _ _ h

theorem exec_convert_bytes {P : Program} {ρ : Operand → Value} {o : Oper} (w : World) (src dst e : TypeId) (x : Operand) (ho : o.op = .convert src dst x)
    (ad : Addr) (len cap : Nat) (hx : ρ x = .slice (some ad) len cap) (l : List UInt8) (hl : l.length = len) (hs : P.underlying src = some (.slice e)) (he : P.underlying e = some (.int .u8)) (hd : P.underlying dst = some .string)
    (hc : ∀ j (hj : j < l.length), w.cell? (ad.add j) = some (.int .u8 (l[j].toNat : Int))) : (execOp ρ o).run P w = .ok (.value (.string ⟨l.toArray⟩)) w := by
  subst hl
  unfold execOp
  simp only [ho, hx, Sem.run_bind, run_convert_bytes_back w src dst e ad cap l hs he hd hc, Result.andThen_ok]
  rfl

/-- Turn of a byte that is there, at any numbers. -/
theorem turn_okI {w : World} {B b bs : Nat} {lv : Value} {D : DS} (h : Rep w B b bs lv D) (hd : D.loose = []) (i k v : Nat) (hi : i < D.n) (hk : k < 64) (hv : 1 ≤ v) (hv2 : v ≤ 255) :
    Calls Try.prog 21 #[.pointer (some ⟨b, 0, none⟩), .int .i64 i, .int .i64 k, .int .i64 v] w fun e w' => e = .returned (.int .i64 0) ∧
      (Rep w' B b bs lv { D with firm := upd D.firm i ((D.firm i).set k ((D.firm i).getD k 0 ^^^ UInt8.ofNat v)), now := upd D.now i ((D.firm i).set k ((D.firm i).getD k 0 ^^^ UInt8.ofNat v)) } ∧ Fr (Foot b bs lv) w w') := turn_ok h hd i k v hi hk hv hv2

theorem Rep.kept {w w' : World} {B b bs : Nat} {lv : Value} {D : DS} (h : Rep w B b bs lv D) {S : Nat → Prop} (hf : Fr S w w') (hS : ∀ k, Foot b bs lv k → ¬ S k) : Rep w' B b bs lv D := by
  have hbN : b < w.heap.size := (Array.getElem?_eq_some_iff.1 h.hd).1
  obtain ⟨cur, hg, hs⟩ := h.hs
  have hbsN : bs < w.heap.size := (Array.getElem?_eq_some_iff.1 hg).1
  refine ⟨h.hb, h.hbs, (hf.block b hbN (hS _ (Or.inl rfl))).trans h.hd, h.hn, ⟨cur, (hf.block bs hbsN (hS _ (Or.inr (Or.inl rfl)))).trans hg, hs⟩, ?_, h.hx, h.hm, h.hf⟩
  refine ⟨h.hl.1, ?_⟩
  rcases h.hl.2 with h1 | ⟨g, cap, cur, hv, hb, hgg, rest⟩
  · exact Or.inl h1
  · exact Or.inr ⟨g, cap, cur, hv, hb, (hf.block g (Array.getElem?_eq_some_iff.1 hgg).1 (hS _ (Or.inr (Or.inr (by rw [hv]; rfl))))).trans hgg, rest⟩
theorem Rep.frame_new {w : World} {B b bs : Nat} {lv : Value} {D : DS} (h : Rep w B b bs lv D) (o : Obj) : Rep (w.alloc o) B b bs lv D :=
  h.kept ((Fr.refl (fun _ => False) w).alloc o) (fun _ _ => id)

/-- A new row of 64 noughts. -/
def zblk : Obj := .cells (madeCells (Value.int .u8 0).cells (64 * 1)) 5
theorem make64 {ρ : Operand → Value} {o : Oper} (w : World) (x y : Operand) (ho : o.op = .makeSlice 25 x y) (hx : ρ x = .int .i64 64) (hy : ρ y = .int .i64 64) :
    (execOp ρ o).run Try.prog w = .ok (.value (.slice (some ⟨w.heap.size, 0, none⟩) 64 64)) (w.alloc zblk) := by
  obtain ⟨i0, hi, hz0, hz1, hz2⟩ := info_parts info5
  exact exec_makeSlice (P := Try.prog) w 25 5 x y ho i0 _ 1 Try.underlying25 hi hz0 hz1 64 hx hy (by rw [hz2]; omega) (by omega)
theorem zeros_row (w : World) : ∀ j (hj : j < z64.length), (w.alloc zblk).cell? ((⟨w.heap.size, 0, none⟩ : Addr).add j) = some (.int .u8 (z64[j].toNat : Int)) := by
  intro j hj
  have hj2 := hj
  rw [z64_length] at hj
  unfold zblk
  rw [addr_add, Nat.zero_add, cell_of_row _ w.heap.size j _ 5 (0, 0) (heap_alloc_new w _)]
  refine (made_get (.int .u8 0) (64 * 1) j rfl hj).trans ?_
  have : z64[j] = 0 := List.eq_of_mem_replicate (List.getElem_mem hj2)
  rw [this]
  rfl

/-- The document's example, and one more. -/
theorem awake_ok (w : World) : Calls Try.prog 9 #[] w fun e w' => e = .returned (.bool true) ∧ Fr (fun _ => False) w w' := by
  go_enter Try.func9, Try.ntmps9
  go_wp2_with fail
  refine (new_bad 31 (by omega) _).mono ?_
  rintro e w1 ⟨rfl, rfl⟩
  go_wp2_with fail
  refine (new_ok 32 (by omega) (by omega) w w.heap.size (Nat.le_refl _)).mono ?_
  rintro e w1 ⟨b, bs, rfl, hb, hbs, R1, F1⟩
  go_wp2_with fail
  have hr := read_ok R1 rfl 31 (by show 31 < 32; omega)
  rw [show (DS.new 32).now 31 = z64 from rfl] at hr
  refine hr.mono ?_
  clear hr
  rintro e w2 ⟨rfl, rfl⟩
  go_wp2_with fail
  refine (err_any 1 _).mono ?_
  rintro e w2 ⟨rfl, rfl⟩
  go_wp2_with fail
  refine (err_any 0 _).mono ?_
  rintro e w2 ⟨rfl, rfl⟩
  go_wp2_with fail
  refine (err_any 0 _).mono ?_
  rintro e w2 ⟨rfl, rfl⟩
  have tok : True := trivial
  have tok2 : True := trivial
  go_wp2_with (first | (have _t := tok; refine wpList_runG rfl _ (make64 w1 (.const (.int .i64 64)) (.const (.int .i64 64)) rfl rfl rfl) ?_; clear tok; simp only [Act.put, List.setIfInBounds_toArray, List.set_cons_succ, List.set_cons_zero]) | ((fail_if_success (have _t := tok)); have _t := tok2; refine wpList_runG rfl _ (exec_convert_bytes (w1.alloc zblk) 25 9 5 (.tmp 35) rfl ⟨w1.heap.size, 0, none⟩ 64 64 rfl z64 z64_length Try.underlying25 Try.underlying5 Try.underlying9 (zeros_row w1)) ?_; clear tok2) | fail)


  have hl := len_any (R1.frame_new zblk)
  refine hl.mono ?_
  rintro e w2 ⟨rfl, rfl⟩
  clear hl
  go_wp2_with fail
  go_ret
  exact ⟨rfl, F1.alloc _⟩
end Go.Proofs.Ytpkhddnehhophaa
