/- Slices of texts, as they came in, opened: each text's length is among the weights. No condition. -/
import Derived.Test.YtglipljilcdboaaU24
import Derived.Deep.Slices
import Derived.ProofKit
import Derived.OpenShut
import Derived.ChangeOld
import Derived.SizedLaws
import Derived.ChangeSlices
namespace Go.Proofs.Ytglipljilcdboaa
open Go.RowKit Go.Shelf
set_option linter.unusedVariables false
set_option linter.unusedSimpArgs false
/-- Texts as cells of memory, from a place on. -/
def Txts (W : World) (b o : Nat) (l : List (List UInt8)) : Prop := b < W.heap.size ∧ ∀ i (h : i < l.length), W.cell? ⟨b, o + i, none⟩ = some (strV l[i])
theorem Txts.below {W W2 : World} {b o : Nat} {l : List (List UInt8)} (h : Txts W b o l) (hb : Below W.heap.size W W2) : Txts W2 b o l :=
  ⟨Nat.lt_of_lt_of_le h.1 hb.size, fun i hi => (hb.cell h.1).trans (h.2 i hi)⟩
set_option maxRecDepth 100000 in
set_option maxHeartbeats 1000000 in
theorem text_nil (a : Option Addr) (cap : Nat) (i : Int) (w : World) : Calls Try.prog 27 #[.slice a 0 cap, .int .i64 i] w fun e w' => e = .returned (strV []) ∧ w' = w := by
  go_enter Try.func27, Try.ntmps27
  go_wp2_with fail
  go_ret
  exact ⟨rfl, rfl⟩
set_option maxRecDepth 100000 in
set_option maxHeartbeats 1000000 in
theorem text_pos (b o cap : Nat) (l : List (List UInt8)) (hl : l.length ≤ 9223372036854775807) (h0 : 0 < l.length) (i : Nat) (hi : i ≤ 9223372036854775807) (w : World) (hN : Txts w b o l) :
    Calls Try.prog 27 #[slV b o l.length cap, .int .i64 (i : Int)] w fun e w' => e = .returned (strV (textL l i)) ∧ w' = w := by
  obtain ⟨k, hk⟩ : ∃ k, k = i % l.length := ⟨_, rfl⟩
  have hkl : k < l.length := by rw [hk]; exact Nat.mod_lt _ h0
  have hc := hN.2 k hkl
  have hz : Hid (textL l i = l[k]) := Lib.hid (by
    unfold textL
    rw [if_neg (by intro e; rw [e] at h0; exact absurd h0 (by decide)), List.getD_eq_getElem?_getD, ← hk, List.getElem?_eq_getElem hkl]
    rfl)
  rw [hz.out]
  obtain ⟨X, hX⟩ : ∃ x : ByteArray, Hid (x = ⟨l[k].toArray⟩) := ⟨_, Lib.hid rfl⟩
  rw [show strV l[k] = .string X by rw [hX.out]; rfl] at hc ⊢
  have hm : (i : Int).tmod (l.length : Int) = (k : Int) := by rw [Int.tmod_eq_emod_of_nonneg (by omega), hk]; rfl
  have hm2 : (i : Int) % (l.length : Int) = (k : Int) := by rw [hk]; rfl
  have hnz : ¬ (l.length : Int) = 0 := by omega
  have hkI : (k : Int) < (l.length : Int) := by omega
  obtain ⟨n, hn⟩ : ∃ n, Hid (n = l.length) := ⟨_, Lib.hid rfl⟩
  rw [← hn.out] at hm hm2 hnz hkI hl ⊢
  clear hz hX hk h0 hN hkl
  unfold slV
  go_enter Try.func27, Try.ntmps27
  go_wp2_with fail
  go_ret
  exact ⟨rfl, rfl⟩
end Go.Proofs.Ytglipljilcdboaa
namespace Go.Proofs.Ytglipljilcdboaa
open Go.RowKit Go.Shelf
set_option linter.unusedVariables false
set_option linter.unusedSimpArgs false
section
open E
/-- A slice of texts. -/
def TxtV (W : World) (v : Value) (l : List (List UInt8)) : Prop := l.length ≤ 9223372036854775807 ∧ ∃ a cap, v = .slice a l.length cap ∧ (0 < l.length → ∃ b o, a = some ⟨b, o, none⟩ ∧ Txts W b o l)
def txf (l : List (List UInt8)) (i : Nat) : List UInt8 := l.getD i []
/-- All that came in the first pieces. -/
def catL (ps : List (List UInt8)) (i : Nat) : List UInt8 := (ps.take i).flatten
theorem cat_succ {ps : List (List UInt8)} {i : Nat} (h : i < ps.length) : catL ps i ++ txf ps i = catL ps (i + 1) := by
  unfold catL txf
  rw [List.take_add_one, List.flatten_append, List.getD_eq_getElem?_getD, List.getElem?_eq_getElem h]
  simp
theorem feed_cat (S x : List UInt8) : feedO (runM t0 S) x = runM t0 (S ++ x) := by
  rw [runM_app]
  unfold feedO
  cases runM t0 S with
  | none => rfl
  | some r => rfl
/-- What is begun is an end of what came. -/
theorem run_len : ∀ (n : Nat) (t : TS) (r : List UInt8) (t' : TS) (b : List UInt8), r.length ≤ n → runM t r = some (t', b) → b.length ≤ r.length
  | n, t, r, t', b, hn, h => by
    by_cases hr : r = []
    · subst hr; rw [runM_nil] at h; cases h; exact Nat.le_refl _
    · cases hm : mostM t.pl with
      | none => rw [runM_none hr hm] at h; cases h
      | some m =>
        cases hc : cutT m r with
        | more => rw [runM_more hm hc] at h; cases h; exact Nat.le_refl _
        | form => rw [runM_form hr hm hc] at h; cases h
        | ok s rest =>
          rw [runM_ok hm hc] at h
          cases ht : takeM t s with
          | none => rw [ht] at h; cases h
          | some t2 =>
            rw [ht] at h
            have hl := cut_ok_len hc
            cases n with
            | zero => omega
            | succ n =>
              have := run_len n t2 rest t' b (by omega) h
              omega
theorem beg_len (S : List UInt8) : begO (runM t0 S) ≤ S.length := by
  cases h : runM t0 S with
  | none => exact Nat.zero_le _
  | some r =>
    obtain ⟨t, b⟩ := r
    exact run_len _ t0 S t b (Nat.le_refl _) h
theorem RdS.fr {W W' : World} {b : Nat} {r : Option (TS × List UInt8)} {D : List Nat} (h : RdS W b r D) (hf : Fr W [] W') : RdS W' b r D := by
  cases r with
  | none => exact rowAt_fr (show RowAt (fun _ => ⟨b, 0, 0⟩) 0 wrongR W from h) hf (by simp)
  | some r =>
    obtain ⟨t, bs⟩ := r
    obtain ⟨g1, g2, g3⟩ := h
    exact ⟨g1, g2, g3.fr hf (fun x _ hx => by cases hx)⟩
/-- What comes of bytes: a list; not enough; no tree. -/
theorem came (S : List UInt8) : (∃ L, getL S = (L, 0) ∧ L.length ≤ 256 ∧ errO (runM t0 S) = 0) ∨ (getL S = ([], 5) ∧ errO (runM t0 S) = 0) ∨ (getL S = ([], 4) ∧ errO (runM t0 S) = 4) := by
  rcases getL_cases S with ⟨L, hL, hn⟩ | ⟨e, hE, he⟩
  · refine .inl ⟨L, hL, hn, ?_⟩
    unfold getL finR at hL
    cases h : runM t0 S with
    | none => rw [h] at hL; exact absurd (congrArg Prod.snd hL) (show (4 : Int) ≠ 0 by decide)
    | some r => rfl
  · unfold getL finR at hE ⊢
    cases h : runM t0 S with
    | none => exact .inr (.inr ⟨rfl, rfl⟩)
    | some r =>
      obtain ⟨t, b⟩ := r
      rw [h] at hE
      refine .inr (.inl ⟨?_, rfl⟩)
      unfold finM at hE ⊢
      by_cases h17 : t.pl = 17
      · simp only [h17, if_true] at hE
        exact absurd (congrArg Prod.snd hE).symm he
      · simp only [h17, if_false]
abbrev txtRow (l : List (List UInt8)) : Row := ⟨[.fnc (fun i => [stv (txf l i)]) 1 l.length], false, none⟩
theorem cells_of_cell1 {W : World} {b o : Nat} {v : Value} (h : W.cell? ⟨b, o, none⟩ = some v) : ∃ cur t fz, W.heap[b]? = some (.cells cur t fz) := by
  unfold World.cell? at h
  simp only at h
  split at h
  · rename_i cur t fz h2; exact ⟨cur, t, fz, h2⟩
  · cases h
theorem txt_row {W : World} {b o : Nat} {tx : List (List UInt8)} (h0 : 0 < tx.length) (h : Txts W b o tx) (ρ : Env) (r : Nat) (hρ : ρ r = ⟨b, o, 0⟩) : RowAt ρ r (txtRow tx) W := by
  unfold RowAt
  rw [hρ]
  refine ⟨h.1, fun j v hv => ⟨?_, fun hw => by cases hw⟩, (fun e k hc => by cases hc), cells_of_cell1 (h.2 0 h0)⟩
  have hj : j < tx.length := by
    have := (List.getElem?_eq_some_iff.1 hv).1
    rw [lst_fnc, flat_len (k := 1) tx.length (fun _ _ => rfl)] at this
    omega
  rw [lst_fnc, flat_get (f := fun i => [stv (txf tx i)]) (k := 1) (by omega) tx.length (fun _ _ => rfl) j (by omega), Nat.div_one, Nat.mod_one] at hv
  cases hv
  show W.cell? ⟨b, o + j, none⟩ = _
  rw [h.2 j hj]
  simp [txf, hj, strV]
theorem txtRow_ok (l : List (List UInt8)) : pok (txtRow l).ps := fun p hp => by
  obtain rfl := List.mem_singleton.1 hp
  exact fun i hi => ⟨rfl, fun v hv => by obtain rfl := List.mem_singleton.1 hv; rfl⟩
/-- How a statement ends. -/
abbrev LwQ (W0 : World) : Ending → World → Prop := fun e w' => e = .returned (.bool true) ∧ Fr W0 [] w'
abbrev en1 (B : Blk) : Env := fun _ => B
theorem fr_new {W0 W w' : World} {l : List Nat} (h : Fr W0 [] W) (k : Fr W l w') (hl : ∀ x ∈ l, W0.heap.size ≤ x) : Fr W0 [] w' := h.comp k fun x hx => .inr (hl x hx)
/-- A state said otherwise, and less of it. -/
theorem E.At.less {P : Program} {w0 : World} {wr : Bs} {n : Nat} {gl : List Nat} {todo : List Item} {Q : Exit → Act → World → Prop} {tm tm' : List (Nat × TV)} {rows rows' : List (Nat × Row)} {r : Option Nat} {mk : List Nat}
    (ht : ∀ p ∈ tm', ∃ x, findT tm p.1 = some x ∧ (∀ ρ : Env, (∀ r, r < 1000 → ρ r = wr.e r) → x.val ρ = p.2.val ρ) ∧ p.2.ok) (hr : ∀ p ∈ rows', findR rows p.1 = some p.2) (hi : idsOk tm' rows' gl = true) (hk : wr.k.all (hasN (rows'.map (·.1) ++ gl.map (500 + ·))) = true) (hg : gl.all (fun g => Nat.ble (g + 1) 500) = true)
    (h : At P w0 wr n gl todo Q tm' rows' r mk) : At P w0 wr n gl todo Q tm rows r mk := by
  intro a w ρ hd
  simp only [idsOk, Bool.and_eq_true, List.all_eq_true] at hi
  have hm : ∀ r x, findR rows' r = some x → findR rows r = some x := fun r x hx => hr _ (findR_mem hx)
  have h5 : ∀ g, g < 500 → ∀ l : List (Nat × Row), hasN (l.map (·.1) ++ gl.map (500 + ·)) (500 + g) = true → True := fun _ _ _ _ => trivial
  refine h a w ρ ⟨hd.sz, hd.df, hd.mf, hd.ko, fun t x hx => ?_, fun q y hy => ?_, fun q u y z hy hz hqu hw => hd.ds q u y z (hm _ _ hy) (hm _ _ hz) hqu hw, hd.fr, hd.e0, fun q hq => List.all_eq_true.1 hk q hq, fun g hg2 hu => ?_, fun q B hq => by cases hq⟩
  · have hp := findT_mem (show findT tm' t = some x from hx)
    obtain ⟨x0, h1, h2, h3⟩ := ht _ hp
    obtain ⟨g1, g2, g3⟩ := hd.tm t x0 h1
    exact ⟨by rw [g1, h2 ρ (fun r hr => hd.e0 r (.inl hr))], h3, fun r hr2 => hi.1 _ hp r hr2⟩
  · have hp := findR_mem (show findR rows' q = some y from hy)
    obtain ⟨g1, g2, g3, g4, g5⟩ := hd.rw q y (hm _ _ hy)
    exact ⟨g1, g2, hasN_iff.2 (List.mem_append.2 (.inl (List.mem_map.2 ⟨_, hp, rfl⟩))), fun q2 hq2 => hi.2 _ hp q2 hq2, g5⟩
  · have hu2 := hasN_iff.1 hu
    refine hd.gl g hg2 (hasN_iff.2 ?_)
    rcases List.mem_append.1 hu2 with h6 | h6
    · obtain ⟨p, hp, he⟩ := List.mem_map.1 h6
      have := findR_mem (hr p hp)
      exact List.mem_append.2 (.inl (List.mem_map.2 ⟨_, this, he⟩))
    · exact List.mem_append.2 (.inr h6)
/-- Where something lies, and nothing of it. -/
abbrev noR : Row := ⟨[], false, none⟩
theorem noR_at {W : World} {b : Nat} {r : Option (TS × List UInt8)} {D : List Nat} (h : RdS W b r D) (ρ : Env) (k : Nat) (hρ : ρ k = ⟨b, 0, 0⟩) : RowAt ρ k noR W := by
  have key : ∀ row : Row, RowAt (fun _ => ⟨b, 0, 0⟩) 0 row W → RowAt ρ k noR W := fun row h => by
    unfold RowAt at h ⊢
    rw [hρ]
    exact ⟨h.1, (fun j x hx => by cases hx), (fun e k hc => by cases hc), h.2.2.2⟩
  cases r with
  | none => exact key _ h
  | some r =>
    obtain ⟨t, bs⟩ := r
    obtain ⟨_, _, vb, E, D', rfl, hby, ⟨vn, vo, h1, hv, hn1⟩, hn⟩ := h
    exact key _ h1
set_option maxRecDepth 100000 in
/-- The pieces' end: what the reader has is what the document has. -/
theorem pc_tail (σ : Env) (W0 W : World) (b : Nat) (S : List UInt8) (D : List Nat) (hS : S.length ≤ 5000) (hr : RdS W b (runM t0 S) D) (hf : Fr W0 [] W) : At Try.prog W ⟨[], σ, []⟩ Try.f6.ntmps [] (rp Try.f6 16) (EndX Try.prog Try.f6 (LwQ W0)) [(3, .v (ptV b)), (4, .v (stv S))] [] := by
  have hs : S.length ≤ 100000000000 := by omega
  rcases getL_cases S with ⟨L, hL, hn⟩ | ⟨e, hE, he⟩
  · refine At.opX (α := World × Blk) 1 61 [] trivial (fun x => x.1) (fun x => ⟨wlOf (en1 x.2) [(1, rowN L L.length)], en1 x.2, []⟩) (fun x => [(4, .v (stv S)), (61, .tup [.lf (slN 1 L.length), .lf (.v (.int .i64 0))])]) (fun x => [(4, .v (stv S)), (7, .s (.lf (slN 1 L.length))), (8, .int .i64 0)]) (fun _ => [(1, rowN L L.length)]) (fun _ => [(1, rowN L L.length)]) (fun x => W0.heap.size ≤ x.2.1 ∧ Fr W0 [] x.1) rfl (tm1 := [(4, .v (stv S)), (60, .v (ptV b))]) (rows1 := []) (o1 := []) (o2 := fun _ => []) (by kernel_rfl) trivial rfl ?_ (fun x _ => by kernel_rfl) (fun x _ => trivial) (fun x => rfl) (fun x hx => ?_)
    · intro a w ρ K QQ hden hk
      refine xCall_ok (d := 61) (f := 21) (vs := [.v (ptV b)]) (by kernel_rfl) hden ent21 ((endS w b (runM t0 S) D (hr.fr hden.fr)).mono ?_)
      rintro e w' (⟨_, B, rfl, h0, h1, h2, h3⟩ | ⟨h1, _⟩)
      · have hL' : finM (runM t0 S) = (L, 0) := hL
        rw [hL'] at h3 ⊢
        have hrow : RowAt (en1 B) 1 (rowN L L.length) w' := rowAt_mv h3 rfl
        refine ⟨_, rfl, hk (w', B) _ w' (en1 B) ⟨Nat.le_trans (hf.comp hden.fr (fun x hx => by cases hx)).size h2, (hf.comp hden.fr (fun x hx => by cases hx)).comp h1 (fun x hx => by cases hx)⟩ (den_again (d := 61) (tm' := [(4, .v (stv S)), (61, .tup [.lf (slN 1 L.length), .lf (.v (.int .i64 0))])]) (rows2 := [(1, rowN L L.length)]) (K := []) hden (by decide) (fun p hp => ?_) rfl (fun p hp => ?_) (fun p hp q hq hpq => ?_) rfl rfl)⟩
        · simp only [List.mem_cons, List.not_mem_nil, or_false] at hp
          rcases hp with rfl | rfl
          · exact .inr ⟨(show (4 : Nat) ≠ 61 by decide), rfl, fun r hr => by cases hr⟩
          · refine .inl ⟨rfl, ?_, ?_⟩
            · show Value.tuple #[.slice (some ⟨B.1, 0, none⟩) L.length B.3, .int .i64 0] = .tuple #[.slice (some ⟨B.1, B.2 + (0 + 0 * 3), none⟩) L.length (B.3 - 0), .int .i64 0]
              rw [h0]; rfl
            · intro x hx
              simp only [List.mem_cons, List.not_mem_nil, or_false] at hx
              rcases hx with rfl | rfl <;> first | trivial | rfl
        · obtain rfl := List.mem_singleton.1 hp
          exact ⟨hrow, rowN_ok _ _⟩
        · obtain rfl := List.mem_singleton.1 hp
          obtain rfl := List.mem_singleton.1 hq
          exact absurd rfl hpq
      · have hL' : finM (runM t0 S) = (L, 0) := hL
        rw [hL'] at h1; exact absurd rfl h1
    · obtain ⟨W1, B⟩ := x
      obtain ⟨hb, hf1⟩ := hx
      exact At.fin rfl [(18001, hR0 18001 S L), (19003, hSmT 1 18001 L), (19006, hEr 0), (19012, hAw)] ⟨hR0_ok _ hs hL, hSmT_ok _ _ _ _ (by omega), hEr_ok _ _, hAw_ok _, trivial⟩ [] (x := .v (.bool true)) (ob := [qL (hR0 18001 S L), qL (hSmT 1 18001 L), qL (hEr 0), qL hAw].flatten) (by kernel_rfl) (all_flat ⟨all_qL _, all_qL _, all_qL _, all_qL _, trivial⟩) fun ρ' w' hf _ => ⟨rfl, fr_new hf1 hf (fun x hx => by
        obtain rfl := List.mem_singleton.1 hx
        exact hb)⟩
  · refine At.opX (α := World) 1 61 [] trivial (fun x => x) (fun x => nB) (fun x => [(4, .v (stv S)), (61, .tup [.lf (.v nilS), .lf (.v (.int .i64 e))])]) (fun x => [(4, .v (stv S)), (7, .v nilS), (8, .int .i64 e)]) (fun _ => []) (fun _ => []) (fun x => Fr W0 [] x) rfl (tm1 := [(4, .v (stv S)), (60, .v (ptV b))]) (rows1 := []) (o1 := []) (o2 := fun _ => []) (by kernel_rfl) trivial rfl ?_ (fun x _ => by kernel_rfl) (fun x _ => trivial) (fun x => rfl) (fun x hx => ?_)
    · intro a w ρ K QQ hden hk
      refine xCall_ok (d := 61) (f := 21) (vs := [.v (ptV b)]) (by kernel_rfl) hden ent21 ((endS w b (runM t0 S) D (hr.fr hden.fr)).mono ?_)
      have hE' : finM (runM t0 S) = ([], e) := hE
      rw [hE']
      rintro en w' (⟨h1, _⟩ | ⟨_, _, rfl, h1⟩)
      · exact absurd h1 he
      · refine ⟨_, rfl, hk w' _ w' (fun _ => ⟨0, 0, 0⟩) ((hf.comp hden.fr (fun x hx => by cases hx)).comp h1 (fun x hx => by cases hx)) (den_again (d := 61) (tm' := [(4, .v (stv S)), (61, .tup [.lf (.v nilS), .lf (.v (.int .i64 e))])]) (rows2 := []) (K := []) hden (by decide) (fun p hp => ?_) rfl (fun p hp => by cases hp) (fun p hp => by cases hp) rfl rfl)⟩
        simp only [List.mem_cons, List.not_mem_nil, or_false] at hp
        rcases hp with rfl | rfl
        · exact .inr ⟨(show (4 : Nat) ≠ 61 by decide), rfl, fun r hr => by cases hr⟩
        · refine .inl ⟨rfl, rfl, fun x hx => ?_⟩
          simp only [List.mem_cons, List.not_mem_nil, or_false] at hx
          rcases hx with rfl | rfl <;> rfl
    · exact At.fin rfl [(18001, hR1 S e), (19003, hSm0), (19006, hEr e), (2019009, .val (.v (.bool true))), (19012, hAw)] ⟨hR1_ok _ hs hE he, hSm0_ok _, hEr_ok _ _, trivial, hAw_ok _, trivial⟩ [] (x := .v (.bool true)) (ob := [qL (hR1 S e), qL hSm0, qL (hEr e), [TV.v (.bool (e == e)) = TV.v (.bool true)], qL hAw].flatten) (by kernel_rfl) (all_flat ⟨all_qL _, all_qL _, all_qL _, ⟨by rw [beq_self_eq_true], trivial⟩, all_qL _, trivial⟩) fun ρ' w' hf _ => ⟨rfl, hx.comp hf (fun x hx => by cases hx)⟩
end
end Go.Proofs.Ytglipljilcdboaa
namespace Go.Proofs.Ytglipljilcdboaa
open Go.RowKit Go.Shelf
set_option linter.unusedVariables false
set_option linter.unusedSimpArgs false
section
open E
structure PcX where
  W : World
  i : Nat
  D : List Nat
abbrev txA (ps : List (List UInt8)) (ct : Nat) : TV := .s (.lf (.sl 1 0 0 1 ps.length (some ct)))
abbrev pcT (ps : List (List UInt8)) (ct b i : Nat) : List (Nat × TV) := [(0, txA ps ct), (3, .v (ptV b)), (4, .v (stv (catL ps i))), (5, .int .i64 (i : Int))]
abbrev envP (B : Blk) (b : Nat) : Env := fun k => if k = 5 then ⟨b, 0, 0⟩ else B
abbrev pcB (σ : Env) : Bs := ⟨[], σ, []⟩
def PcI (W0 : World) (σ : Env) (b : Nat) (ps : List (List UInt8)) (x : PcX) : Prop := RdS x.W b (runM t0 (catL ps x.i)) x.D ∧ x.i ≤ ps.length ∧ (catL ps x.i).length ≤ 5000 ∧ Fr W0 [] x.W ∧ W0.heap.size ≤ b ∧ (∀ y ∈ x.D, W0.heap.size ≤ y) ∧ RowAt (σ) 1 (txtRow ps) x.W
set_option maxRecDepth 100000 in
theorem pc_loop (W0 : World) (σ : Env) (b ct : Nat) (ps : List (List UInt8)) (hn : ps.length ≤ 12) (hpl0 : ∀ c ∈ ps, c.length ≤ 9223372036854770000) (hB : (σ 1).1 < W0.heap.size) : ∀ x : PcX, PcI W0 σ b ps x → At Try.prog x.W (pcB σ) Try.f6.ntmps [] (lp Try.f6 0) (EndX Try.prog Try.f6 (LwQ W0)) (pcT ps ct b x.i) [(1, txtRow ps)] := by
  refine At.loopW (fun x : PcX => x.W) (fun x => pcB σ) (fun x => pcT ps ct b x.i) (fun x => [(1, txtRow ps)]) (PcI W0 σ b ps) (fun x => ps.length - x.i) ?_
  rintro ⟨W, i, D⟩ ⟨hr, hi, hS, hf, hb, hD, hrow⟩ ih
  simp only at hr hi hS hf hb hD hrow ih ⊢
  by_cases h : i < ps.length
  · have hcat := cat_succ h
    obtain ⟨T, hT⟩ : ∃ T, T = catL ps (i + 1) := ⟨_, rfl⟩
    rw [← hT] at hcat
    obtain ⟨px, hpx⟩ : ∃ px, px = txf ps (addN 0 (i : Int).toNat) := ⟨_, rfl⟩
    have hpx2 : px = txf ps i := by rw [hpx, addN_eq, Nat.zero_add, Int.toNat_natCast]
    have hlen : ((catL ps i).length : Int) + (px.length : Int) = (T.length : Int) := by rw [← hcat, List.length_append, hpx2]; omega
    have hpl : (px.length : Int) ≤ 9223372036854775807 - 5000 := by
      rw [hpx2]
      have : txf ps i ∈ ps := by unfold txf; rw [List.getD_eq_getElem?_getD, List.getElem?_eq_getElem h]; exact List.getElem_mem h
      have := hpl0 _ this
      omega
    have i1 : inI ((i : Int) + 1) := ⟨by omega, by omega⟩
    have ad : addN 0 (i : Int).toNat < ps.length := by rw [addN_eq, Nat.zero_add, Int.toNat_natCast]; exact h
    have bd : (0 : Int) ≤ (i : Int) ∧ (i : Int) < (ps.length : Int) := ⟨by omega, by omega⟩
    have dc : decide ((i : Int) < (ps.length : Int)) = true := decide_eq_true (by omega)
    have hst : TV.v (.string ⟨(catL ps i ++ txf ps (addN 0 (i : Int).toNat)).toArray⟩) = TV.v (stv T) := by rw [← hpx, hpx2, hcat]
    by_cases hbig : 5000 < (T.length : Int)
    · have iN : inI (((catL ps i).length : Int) + ((txf ps (addN 0 (i : Int).toNat)).length : Int)) := by
        have : (px.length : Int) ≤ 9223372036854775807 - 5000 := hpl
        exact ⟨by omega, by rw [← hpx]; omega⟩
      exact At.fin rfl [(10000, hAw)] ⟨hAw_ok _, trivial⟩ [.y, .y] (x := .v (.bool true)) (ob := [[decide ((i : Int) < (ps.length : Int)) = true, 0 ≤ (i : Int) ∧ (i : Int) < (ps.length : Int), addN 0 (i : Int).toNat < ps.length, inI (((catL ps i).length : Int) + ((txf ps (addN 0 (i : Int).toNat)).length : Int)), decide (((catL ps i).length : Int) + ((txf ps (addN 0 (i : Int).toNat)).length : Int) > 5000) = true], qL hAw].flatten) (by kernel_rfl) (all_flat ⟨⟨dc, bd, ad, iN, decide_eq_true (by rw [← hpx, hlen]; exact hbig), trivial⟩, all_qL _, trivial⟩) fun ρ' w' hf2 _ => ⟨rfl, hf.comp hf2 (fun x hx => by cases hx)⟩
    · have iN : inI (((catL ps i).length : Int) + ((txf ps (addN 0 (i : Int).toNat)).length : Int)) := by rw [← hpx]; exact ⟨by omega, by omega⟩
      have iM : ((catL ps i).length : Int) + ((txf ps (addN 0 (i : Int).toNat)).length : Int) ≤ 9223372036854775807 := iN.2
      have dN : decide (((catL ps i).length : Int) + ((txf ps (addN 0 (i : Int).toNat)).length : Int) > 5000) = false := decide_eq_false (by rw [← hpx]; omega)
      have hs : T.length ≤ 100000000000 := by omega
      have hfed : ∀ E : Int, errO (runM t0 T) = E → At Try.prog W (pcB σ) Try.f6.ntmps [] (rp Try.f6 14) (EndX Try.prog Try.f6 (LwQ W0)) [(0, txA ps ct), (3, .v (ptV b)), (4, .v (stv T)), (5, .int .i64 (i : Int)), (6, .int .i64 E)] [(1, txtRow ps)] := by
        intro E hE
        refine At.opX (α := World × List Nat) 5 55 [(15006, hEr E), (2015008, .val (.v (.bool false)))] ⟨hEr_ok _ _, trivial, trivial⟩ (fun x => x.1) (fun x => pcB σ) (fun x => [(0, txA ps ct), (3, .v (ptV b)), (4, .v (stv T)), (5, .int .i64 (i : Int)), (6, .int .i64 E), (55, .int .i64 E)]) (fun x => [(0, txA ps ct), (3, .v (ptV b)), (4, .v (stv T)), (5, .int .i64 (i : Int)), (58, .v (.bool false))]) (fun _ => [(1, txtRow ps)]) (fun _ => [(1, txtRow ps)]) (fun x => RdS x.1 b (runM t0 T) x.2 ∧ Fr W0 [] x.1 ∧ (∀ y ∈ x.2, W0.heap.size ≤ y) ∧ RowAt (σ) 1 (txtRow ps) x.1) rfl (tm1 := [(0, txA ps ct), (3, .v (ptV b)), (4, .v (stv T)), (5, .int .i64 (i : Int)), (6, .int .i64 E), (50, .v (ptV b)), (54, .v (stv (txf ps (addN 0 (i : Int).toNat))))]) (rows1 := [(1, txtRow ps)]) (o1 := [0 ≤ (i : Int) ∧ (i : Int) < (ps.length : Int), addN 0 (i : Int).toNat < ps.length]) (o2 := fun _ => [qL (hEr E), [TV.v (.bool (E != E)) = TV.v (.bool false)]].flatten) (by kernel_rfl) ⟨bd, ad, trivial⟩ rfl ?_ (fun x _ => by kernel_rfl) (fun x _ => all_flat ⟨all_qL _, ⟨by simp, trivial⟩, trivial⟩) (fun x => rfl) (fun x hx => ?_)
        · intro a w ρ K QQ hden hk
          have hB2 : (σ 1).1 ∉ b :: D := fun hm => by
            have hb1 : (σ 1).1 < W0.heap.size := hB
            rcases List.mem_cons.1 hm with e | e
            · rw [e] at hb1; omega
            · have := hD _ e; omega
          refine xCall_ok (d := 55) (f := 20) (vs := [.v (ptV b), .v (stv (txf ps (addN 0 (i : Int).toNat)))]) (by kernel_rfl) hden ent20 ((feedS w b (runM t0 (catL ps i)) D (txf ps (addN 0 (i : Int).toNat)) (by rw [← hpx]; have := beg_len (catL ps i); omega) (hr.fr hden.fr)).mono ?_)
          rw [← hpx, hpx2, feed_cat, hcat, hE]
          rintro e w' ⟨rfl, h2, D', h3, h4⟩
          have hf2 : Fr W0 [] w := hf.comp hden.fr (fun x hx => by cases hx)
          have hrow2 : RowAt (σ) 1 (txtRow ps) w' := rowAt_fr (rowAt_fr hrow hden.fr (by simp)) h2 hB2
          refine ⟨_, rfl, hk (w', D') _ w' (σ) ⟨h3, fr_new hf2 h2 (fun x hx => ?_), fun y hy => ?_, hrow2⟩ (den_again (d := 55) (tm' := [(0, txA ps ct), (3, .v (ptV b)), (4, .v (stv T)), (5, .int .i64 (i : Int)), (6, .int .i64 E), (55, .int .i64 E)]) (rows2 := [(1, txtRow ps)]) (K := []) hden (by decide) (fun p hp => ?_) rfl (fun p hp => ?_) (fun p hp q hq hpq hw => ?_) rfl rfl)⟩
          · rcases List.mem_cons.1 hx with rfl | hx
            · exact hb
            · exact hD _ hx
          · rcases h4 y hy with h5 | h5
            · exact hD _ h5
            · exact Nat.le_trans hf2.size h5
          · simp only [List.mem_cons, List.not_mem_nil, or_false] at hp
            rcases hp with rfl | rfl | rfl | rfl | rfl | rfl
            · refine .inr ⟨(show (0 : Nat) ≠ 55 by decide), rfl, fun r hr2 => ?_⟩
              obtain rfl := List.mem_singleton.1 hr2
              exact (hden.e0 1 (.inl (by decide))).symm
            · exact .inr ⟨(show (3 : Nat) ≠ 55 by decide), rfl, fun r hr2 => by cases hr2⟩
            · exact .inr ⟨(show (4 : Nat) ≠ 55 by decide), rfl, fun r hr2 => by cases hr2⟩
            · exact .inr ⟨(show (5 : Nat) ≠ 55 by decide), rfl, fun r hr2 => by cases hr2⟩
            · exact .inr ⟨(show (6 : Nat) ≠ 55 by decide), rfl, fun r hr2 => by cases hr2⟩
            · exact .inl ⟨rfl, rfl, rfl⟩
          · obtain rfl := List.mem_singleton.1 hp
            exact ⟨hrow2, txtRow_ok ps⟩
          · obtain rfl := List.mem_singleton.1 hp
            obtain rfl := List.mem_singleton.1 hq
            exact absurd rfl hpq
        · obtain ⟨W1, D1⟩ := x
          obtain ⟨g1, g2, g3, g4⟩ := hx
          have h9 := ih ⟨W1, i + 1, D1⟩ ⟨by rw [← hT]; exact g1, by show i + 1 ≤ ps.length; omega, by rw [← hT]; omega, g2, hb, g3, g4⟩ (by show ps.length - (i + 1) < ps.length - i; omega)
          refine At.run rfl [] trivial [.n] (tm2 := [(0, txA ps ct), (3, .v (ptV b)), (4, .v (stv T)), (5, .int .i64 ((i + 1 : Nat) : Int))]) (rows2 := [(1, txtRow ps)]) (ob := [false = false, inI ((i : Int) + 1)]) (td := lp Try.f6 0) (by kernel_rfl) ⟨rfl, i1, trivial⟩ rfl rfl (by intro h; cases h) ?_
          rw [hT]
          exact h9
      rcases came T with ⟨L, hL, hn2, hE⟩ | ⟨hG, hE⟩ | ⟨hG, hE⟩
      · exact At.run rfl [(2011005, .val (.v (stv T))), (12001, hR0 12001 T L)] ⟨trivial, hR0_ok _ hs hL, trivial⟩ [.y, .n, .n] (tm2 := [(0, txA ps ct), (3, .v (ptV b)), (4, .v (stv T)), (5, .int .i64 (i : Int)), (6, .int .i64 0)]) (rows2 := [(1, txtRow ps)]) (ob := [[decide ((i : Int) < (ps.length : Int)) = true, 0 ≤ (i : Int) ∧ (i : Int) < (ps.length : Int), addN 0 (i : Int).toNat < ps.length, inI (((catL ps i).length : Int) + ((txf ps (addN 0 (i : Int).toNat)).length : Int)), decide (((catL ps i).length : Int) + ((txf ps (addN 0 (i : Int).toNat)).length : Int) > 5000) = false, 0 ≤ (i : Int) ∧ (i : Int) < (ps.length : Int), addN 0 (i : Int).toNat < ps.length, TV.v (.string ⟨(catL ps i ++ txf ps (addN 0 (i : Int).toNat)).toArray⟩) = TV.v (stv T), ((catL ps i).length : Int) + ((txf ps (addN 0 (i : Int).toNat)).length : Int) ≤ 9223372036854775807], qL (hR0 12001 T L), [false = false]].flatten) (td := rp Try.f6 14) (by kernel_rfl) (all_flat ⟨⟨dc, bd, ad, iN, dN, bd, ad, hst, iM, trivial⟩, all_qL _, ⟨rfl, trivial⟩, trivial⟩) rfl rfl (by intro h; cases h) (hfed 0 hE)
      · exact At.run rfl [(2011005, .val (.v (stv T))), (12001, hR1 T 5)] ⟨trivial, hR1_ok _ hs hG (by decide), trivial⟩ [.y, .n, .y] (tm2 := [(0, txA ps ct), (3, .v (ptV b)), (4, .v (stv T)), (5, .int .i64 (i : Int)), (6, .int .i64 0)]) (rows2 := [(1, txtRow ps)]) (ob := [[decide ((i : Int) < (ps.length : Int)) = true, 0 ≤ (i : Int) ∧ (i : Int) < (ps.length : Int), addN 0 (i : Int).toNat < ps.length, inI (((catL ps i).length : Int) + ((txf ps (addN 0 (i : Int).toNat)).length : Int)), decide (((catL ps i).length : Int) + ((txf ps (addN 0 (i : Int).toNat)).length : Int) > 5000) = false, 0 ≤ (i : Int) ∧ (i : Int) < (ps.length : Int), addN 0 (i : Int).toNat < ps.length, TV.v (.string ⟨(catL ps i ++ txf ps (addN 0 (i : Int).toNat)).toArray⟩) = TV.v (stv T), ((catL ps i).length : Int) + ((txf ps (addN 0 (i : Int).toNat)).length : Int) ≤ 9223372036854775807], qL (hR1 T 5), [true = true]].flatten) (td := rp Try.f6 14) (by kernel_rfl) (all_flat ⟨⟨dc, bd, ad, iN, dN, bd, ad, hst, iM, trivial⟩, all_qL _, ⟨rfl, trivial⟩, trivial⟩) rfl rfl (by intro h; cases h) (hfed 0 hE)
      · exact At.run rfl [(2011005, .val (.v (stv T))), (12001, hR1 T 4)] ⟨trivial, hR1_ok _ hs hG (by decide), trivial⟩ [.y, .n, .n] (tm2 := [(0, txA ps ct), (3, .v (ptV b)), (4, .v (stv T)), (5, .int .i64 (i : Int)), (6, .int .i64 4)]) (rows2 := [(1, txtRow ps)]) (ob := [[decide ((i : Int) < (ps.length : Int)) = true, 0 ≤ (i : Int) ∧ (i : Int) < (ps.length : Int), addN 0 (i : Int).toNat < ps.length, inI (((catL ps i).length : Int) + ((txf ps (addN 0 (i : Int).toNat)).length : Int)), decide (((catL ps i).length : Int) + ((txf ps (addN 0 (i : Int).toNat)).length : Int) > 5000) = false, 0 ≤ (i : Int) ∧ (i : Int) < (ps.length : Int), addN 0 (i : Int).toNat < ps.length, TV.v (.string ⟨(catL ps i ++ txf ps (addN 0 (i : Int).toNat)).toArray⟩) = TV.v (stv T), ((catL ps i).length : Int) + ((txf ps (addN 0 (i : Int).toNat)).length : Int) ≤ 9223372036854775807], qL (hR1 T 4), [false = false]].flatten) (td := rp Try.f6 14) (by kernel_rfl) (all_flat ⟨⟨dc, bd, ad, iN, dN, bd, ad, hst, iM, trivial⟩, all_qL _, ⟨rfl, trivial⟩, trivial⟩) rfl rfl (by intro h; cases h) (hfed 4 hE)
  · obtain rfl : i = ps.length := by omega
    exact At.run rfl [] trivial [.n] (tm2 := [(3, .v (ptV b)), (4, .v (stv (catL ps ps.length)))]) (rows2 := []) (ob := [decide ((ps.length : Int) < (ps.length : Int)) = false]) (td := rp Try.f6 16) (by kernel_rfl) ⟨decide_eq_false (by omega), trivial⟩ rfl rfl (by intro h; cases h) (pc_tail (σ) W0 W b _ D hS hr hf)
set_option maxRecDepth 100000 in
theorem pc_row (W0 : World) (B : Blk) (ct : Nat) (ps : List (List UInt8)) (hp : ∀ c ∈ ps, c.length ≤ 9223372036854770000) (hrow : RowAt (en1 B) 1 (txtRow ps) W0) : Calls Try.prog 6 #[(txA ps ct).val (en1 B)] W0 (LwQ W0) := by
  refine At.calls (args := [(txA ps ct)]) (rows := [(1, txtRow ps)]) (gl := []) (wr := []) (ρ := en1 B) Try.func6 rfl rfl (init_rw ⟨trivial, trivial⟩ rfl rfl rfl (fun p hp2 => by obtain rfl := List.mem_singleton.1 hp2; exact ⟨hrow, txtRow_ok ps⟩) (fun p hp2 hw => by obtain rfl := List.mem_singleton.1 hp2; cases hw) (fun p hp2 q hq hpq hw => by obtain rfl := List.mem_singleton.1 hp2; cases hw)) rfl ?_
  refine At.run rfl [] trivial [] (tm2 := [(0, (txA ps ct))]) (rows2 := [(1, txtRow ps)]) (ob := []) (td := rp Try.f6 1) (by kernel_rfl) trivial rfl rfl (by intro h; cases h) ?_
  refine At.opX (α := World × Nat) 0 10 [] trivial (fun x => x.1) (fun x => ⟨[], envP B x.2, []⟩) (fun x => [(0, (txA ps ct)), (10, ptrTo 5)]) (fun x => [(0, (txA ps ct)), (3, ptrTo 5)]) (fun _ => [(1, txtRow ps), (5, noR)]) (fun _ => [(1, txtRow ps), (5, noR)]) (fun x => W0.heap.size ≤ x.2 ∧ Fr W0 [] x.1 ∧ RdS x.1 x.2 (some (t0, [])) [] ∧ RowAt (en1 B) 1 (txtRow ps) x.1) rfl (tm1 := [(0, (txA ps ct))]) (rows1 := [(1, txtRow ps)]) (o1 := []) (o2 := fun _ => []) (by kernel_rfl) trivial rfl ?_ (fun x _ => by kernel_rfl) (fun x _ => trivial) (fun x => rfl) (fun x hx => ?_)
  · intro a w ρ K QQ hden hk
    refine xCall_ok (d := 10) (f := 19) (vs := []) (by kernel_rfl) hden ent19 ((new_any w).mono ?_)
    rintro e w' ⟨b, rfl, h1, h2, h3⟩
    have hrow2 : RowAt (en1 B) 1 (txtRow ps) w' := rowAt_fr (rowAt_fr hrow hden.fr (by simp)) h2 (by simp)
    refine ⟨_, rfl, hk (w', b) (ptV b) w' (envP B b) ⟨Nat.le_trans hden.fr.size h1, hden.fr.comp h2 (fun x hx => by cases hx), h3, hrow2⟩ (den_again (d := 10) (tm' := [(0, (txA ps ct)), (10, ptrTo 5)]) (rows2 := [(1, txtRow ps), (5, noR)]) (K := []) hden (by decide) (fun p hp => ?_) rfl (fun p hp => ?_) (fun p hp q hq hpq hw => ?_) rfl rfl)⟩
    · simp only [List.mem_cons, List.not_mem_nil, or_false] at hp
      rcases hp with rfl | rfl
      · refine .inr ⟨(show (0 : Nat) ≠ 10 by decide), rfl, fun r hr => ?_⟩
        obtain rfl := List.mem_singleton.1 hr; exact (hden.e0 1 (.inl (by decide))).symm
      · exact .inl ⟨rfl, rfl, trivial⟩
    · simp only [List.mem_cons, List.not_mem_nil, or_false] at hp
      rcases hp with rfl | rfl
      · exact ⟨rowAt_mv hrow2 rfl, txtRow_ok ps⟩
      · exact ⟨noR_at h3 _ _ rfl, fun p hp => by cases hp⟩
    · simp only [List.mem_cons, List.not_mem_nil, or_false] at hp
      rcases hp with rfl | rfl <;> cases hw
  obtain ⟨W1, b⟩ := x
  obtain ⟨hb, hf1, hr1, hrow1⟩ := hx
  simp only at hb hf1 hr1 hrow1 ⊢
  have hr0 : runM t0 [] = some (t0, []) := runM_nil t0
  by_cases hn : 12 < ps.length
  · exact At.fin rfl [(4003, hAw)] ⟨hAw_ok _, trivial⟩ [.y] (x := .v (.bool true)) (ob := [[decide ((ps.length : Int) > 12) = true], qL hAw].flatten) (by kernel_rfl) (all_flat ⟨⟨decide_eq_true (by omega), trivial⟩, all_qL _, trivial⟩) fun ρ' w' hf _ => ⟨rfl, hf1.comp hf (fun x hx => by cases hx)⟩
  · refine At.run rfl [] trivial [.n] (tm2 := [(0, txA ps ct), (3, ptrTo 5), (4, .v (stv [])), (5, .int .i64 0)]) (rows2 := [(1, txtRow ps), (5, noR)]) (ob := [decide ((ps.length : Int) > 12) = false]) (td := lp Try.f6 0) (by kernel_rfl) ⟨decide_eq_false (by omega), trivial⟩ rfl rfl (by intro h; cases h) ?_
    refine At.less (wr := ⟨[], envP B b, []⟩) (tm' := pcT ps ct b 0) (rows' := [(1, txtRow ps)]) (fun p hp => ?_) (fun p hp => ?_) rfl rfl rfl ?_
    · simp only [List.mem_cons, List.not_mem_nil, or_false] at hp
      rcases hp with rfl | rfl | rfl | rfl
      · exact ⟨_, rfl, fun ρ hρ => rfl, trivial⟩
      · refine ⟨ptrTo 5, rfl, fun ρ hρ => ?_, rfl⟩
        show Value.pointer (some ⟨(ρ 5).1, (ρ 5).2 + (0 + 0 * 0 + 0), none⟩) = _
        rw [hρ 5 (by decide)]; rfl
      · exact ⟨_, rfl, fun ρ hρ => rfl, rfl⟩
      · exact ⟨_, rfl, fun ρ hρ => rfl, rfl⟩
    · obtain rfl := List.mem_singleton.1 hp
      rfl
    by_cases h0 : B.1 < W0.heap.size
    · exact pc_loop W0 (envP B b) b ct ps (by omega) hp h0 ⟨W1, 0, []⟩ ⟨by show RdS W1 b (runM t0 []) []; rw [hr0]; exact hr1, Nat.zero_le _, Nat.zero_le _, hf1, hb, (fun y hy => by cases hy), rowAt_mv hrow1 rfl⟩
    · exact absurd hrow.1 h0
set_option maxRecDepth 100000 in
theorem pc_nil (W0 : World) (a : Option Addr) (ct : Nat) : Calls Try.prog 6 #[.slice a 0 ct] W0 (LwQ W0) := by
  refine At.calls (args := [(.v (.slice a 0 ct))]) (rows := []) (gl := []) (wr := []) (ρ := (fun _ => (⟨0, 0, 0⟩ : Blk))) Try.func6 rfl rfl (init_rw ⟨rfl, trivial⟩ rfl rfl rfl (fun p hp => by cases hp) (fun p hp => by cases hp) (fun p hp => by cases hp)) rfl ?_
  refine At.run rfl [] trivial [] (tm2 := [(0, (.v (.slice a 0 ct)))]) (rows2 := []) (ob := []) (td := rp Try.f6 1) (by kernel_rfl) trivial rfl rfl (by intro h; cases h) ?_
  refine At.opX (α := World × Nat) 0 10 [] trivial (fun x => x.1) (fun x => ⟨[], en1 ⟨x.2, 0, 0⟩, []⟩) (fun x => [(0, (.v (.slice a 0 ct))), (10, ptrTo 5)]) (fun x => [(0, (.v (.slice a 0 ct))), (3, ptrTo 5)]) (fun _ => [(5, noR)]) (fun _ => [(5, noR)]) (fun x => W0.heap.size ≤ x.2 ∧ Fr W0 [] x.1 ∧ RdS x.1 x.2 (some (t0, [])) []) rfl (tm1 := [(0, (.v (.slice a 0 ct)))]) (rows1 := []) (o1 := []) (o2 := fun _ => []) (by kernel_rfl) trivial rfl ?_ (fun x _ => by kernel_rfl) (fun x _ => trivial) (fun x => rfl) (fun x hx => ?_)
  · intro a' w ρ K QQ hden hk
    refine xCall_ok (d := 10) (f := 19) (vs := []) (by kernel_rfl) hden ent19 ((new_any w).mono ?_)
    rintro e w' ⟨b, rfl, h1, h2, h3⟩
    refine ⟨_, rfl, hk (w', b) (ptV b) w' (en1 ⟨b, 0, 0⟩) ⟨Nat.le_trans hden.fr.size h1, hden.fr.comp h2 (fun x hx => by cases hx), h3⟩ (den_again (d := 10) (tm' := [(0, (.v (.slice a 0 ct))), (10, ptrTo 5)]) (rows2 := [(5, noR)]) (K := []) hden (by decide) (fun p hp => ?_) rfl (fun p hp => ?_) (fun p hp q hq hpq hw => ?_) rfl rfl)⟩
    · simp only [List.mem_cons, List.not_mem_nil, or_false] at hp
      rcases hp with rfl | rfl
      · refine .inr ⟨(show (0 : Nat) ≠ 10 by decide), rfl, fun r hr => ?_⟩
        cases hr
      · exact .inl ⟨rfl, rfl, trivial⟩
    · obtain rfl := List.mem_singleton.1 hp
      exact ⟨noR_at h3 _ _ rfl, fun p hp => by cases hp⟩
    · obtain rfl := List.mem_singleton.1 hp
      cases hw
  obtain ⟨W1, b⟩ := x
  obtain ⟨hb, hf1, hr1⟩ := hx
  simp only at hb hf1 hr1 ⊢
  have hr0 : runM t0 [] = some (t0, []) := runM_nil t0
  refine At.run rfl [] trivial [.n, .u, .n] (tm2 := [(3, ptrTo 5), (4, .v (stv []))]) (rows2 := [(5, noR)]) (ob := [false = false, false = false]) (td := rp Try.f6 16) (by kernel_rfl) ⟨rfl, rfl, trivial⟩ rfl rfl (by intro h; cases h) ?_
  refine At.less (wr := ⟨[], en1 ⟨b, 0, 0⟩, []⟩) (tm' := [(3, .v (ptV b)), (4, .v (stv []))]) (rows' := []) (fun p hp => ?_) (fun p hp => by cases hp) rfl rfl rfl (pc_tail (en1 ⟨b, 0, 0⟩) W0 W1 b [] [] (by decide) (by rw [hr0]; exact hr1) hf1)
  simp only [List.mem_cons, List.not_mem_nil, or_false] at hp
  rcases hp with rfl | rfl
  · refine ⟨ptrTo 5, rfl, fun ρ hρ => ?_, rfl⟩
    show Value.pointer (some ⟨(ρ 5).1, (ρ 5).2 + (0 + 0 * 0 + 0), none⟩) = _
    rw [hρ 5 (by decide)]; rfl
  · exact ⟨_, rfl, fun ρ hρ => rfl, rfl⟩
theorem pieces_any (W : World) (v : Value) (ps : List (List UInt8)) (hT : TxtV W v ps) (hp : ∀ c ∈ ps, c.length ≤ 9223372036854770000) : Calls Try.prog 6 #[v] W (LwQ W) := by
  obtain ⟨hl, a, ct, rfl, hx⟩ := hT
  by_cases h0 : 0 < ps.length
  · obtain ⟨b, o, rfl, hN⟩ := hx h0
    exact pc_row W ⟨b, o, 0⟩ ct ps hp (txt_row h0 hN _ _ rfl)
  · have e : ps = [] := List.length_eq_zero_iff.1 (by omega)
    subst e
    exact pc_nil W a ct
end
end Go.Proofs.Ytglipljilcdboaa
namespace Go.Proofs.Ytglipljilcdboaa
open Go.Deep Go.ChangeShapes Go.WideShapes Go.ChangeAt Go.RowKit
set_option linter.unusedVariables false
theorem addr_add0 {g o i : Nat} : (⟨g, o, none⟩ : Addr).add i = ⟨g, o + i, none⟩ := by unfold Addr.add; split <;> simp_all
theorem in_weights {H : Type} {P : Program} {e : TypeId} : ∀ {l : List (DataW H)} {d : DataW H}, d ∈ l → ∀ n ∈ d.weights P e, n ∈ DataW.weightsAll P e l
  | [], d, h, n, hn => by cases h
  | x :: l, d, h, n, hn => by
    rw [DataW.weightsAll]
    rcases List.mem_cons.1 h with rfl | h
    · exact List.mem_append.2 (.inl hn)
    · exact List.mem_append.2 (.inr (in_weights h n hn))
set_option maxRecDepth 100000 in
theorem texts_open {H : Type} {enc : TypeId × Value → H} {W : World} {fuel : Nat} {cs : List Value} {x : DataW H × List MemPlace} (h : DataW.trod enc Try.prog W 0 (fun _ => true) true fuel 34 cs = some x) :
    ∃ pa len ca l, cs = [.slice pa len ca] ∧ TxtV W (.slice pa len ca) l ∧ len ≤ ca ∧ ca ≤ 9223372036854775807 ∧ l.length = len ∧ ∀ c ∈ l, c.length ∈ x.1.weights Try.prog 34 := by
  rcases open_slice1 Try.underlying34 (by kernel_rfl) h with ⟨rfl, -⟩ | ⟨a, len, cap, m, fu, V, D, Pl, rfl, -, hl, hm, hmm, hx, hel⟩
  · exact ⟨none, 0, 0, [], rfl, ⟨by simp, none, 0, rfl, fun h => absurd h (Nat.lt_irrefl _)⟩, by omega, by omega, rfl, fun c hc => by cases hc⟩
  · have hlm : len ≤ m := by rw [hmm]; split <;> omega
    unfold maxLen at hm
    obtain ⟨g, off, spot⟩ := a
    have hsp : 0 < len → spot = none := fun h0 => by
      have := World.cell?_spot (hel 0 (by omega)).1
      simpa [Addr.add] using this
    have each : ∀ i, i < len → ∃ s : List UInt8, W.cell? ⟨g, off + i, none⟩ = some (strV s) ∧ D i = .lit (.string s) ∧ s.length ≤ 9223372036854775807 := by
      intro i hi
      obtain rfl := hsp (by omega)
      obtain ⟨h1, h2⟩ := hel i (by omega)
      obtain ⟨s0, e0, e1, o0⟩ := DataW.trod_string Try.underlying9 h2
      simp only [List.cons.injEq, and_true] at e0
      rw [e0, addr_add0] at h1
      unfold maxLen at o0
      exact ⟨s0.data.toList, h1, congrArg Prod.fst e1, by rw [Array.length_toList]; show s0.size ≤ _; omega⟩
    obtain ⟨A, hA⟩ := choose_lt each
    have hlen : ((List.range len).map A).length = len := by simp
    refine ⟨some ⟨g, off, spot⟩, len, cap, (List.range len).map A, rfl, ⟨by rw [hlen]; omega, _, cap, by rw [hlen], fun h0 => ?_⟩, hl, by omega, hlen, fun c hc => ?_⟩
    · rw [hlen] at h0
      obtain rfl := hsp h0
      refine ⟨g, off, rfl, block_lt_of_cell (hA 0 h0).1, fun i hi => ?_⟩
      rw [hlen] at hi
      rw [List.getElem_map, List.getElem_range]
      exact (hA i hi).1
    · obtain ⟨i, hi, rfl⟩ := List.mem_map.1 hc
      have hi2 := List.mem_range.1 hi
      rw [hx]
      simp only [DataW.weights, Try.underlying34]
      refine List.mem_cons_of_mem _ (List.mem_append.2 (.inl (in_weights (d := D i) (List.mem_map.2 ⟨i, hi, rfl⟩) _ ?_)))
      rw [(hA i hi2).2.1]
      simp [DataW.weights]
end Go.Proofs.Ytglipljilcdboaa
