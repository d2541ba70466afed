/- Several texts, one behind the other; each says by itself what it proves, and on what conditions. -/
import Derived.Test.YtglipljilcdboaaV24
/- Of the laws: nodes in a directory, by three numbers each, level below level. Its conditions: texts of at most 300, a list of at most 16. -/
namespace Go.Proofs.Ytglipljilcdboaa
open Go.RowKit Go.Shelf
set_option linter.unusedVariables false
set_option linter.unusedSimpArgs false
section
open E
abbrev slBb (c i i0 : Nat) : Nat := bif Nat.beq c i then i0 else i0 + i
theorem slBb_eq {c i i0 : Nat} (h : i < c) : slBb c i i0 = i0 + i := by
  unfold slBb
  rw [show Nat.beq c i = false by cases hb : Nat.beq c i with | false => rfl | true => have := Nat.eq_of_beq_eq_true hb; omega]
  rfl
theorem slBb_end {c i0 : Nat} : slBb c c i0 = i0 := by unfold slBb; simp
abbrev nmsL : List (List UInt8) := (List.range 6).map nmL
theorem txs_nms : TxSrc (.s (.lf (.sl 2000 0 0 1 6 none))) [(2000, nmRow)] nmsL := fun ρ w h => by
  have h2 := h (2000, nmRow) (by simp)
  refine ⟨by decide, _, _, rfl, fun h0 => ⟨_, _, rfl, h2.1, fun i hi => ?_⟩⟩
  have hi6 : i < 6 := by simpa using hi
  refine (h2.2.1 i (strV nmsL[i]) ?_).1
  rw [lst_fnc, flat_get (f := fun i => [stv (nmL i)]) (k := 1) (by omega) 6 (fun _ _ => rfl) i (by omega), Nat.div_one, Nat.mod_one]
  clear h2 h
  have : i = 0 ∨ i = 1 ∨ i = 2 ∨ i = 3 ∨ i = 4 ∨ i = 5 := by omega
  rcases this with rfl | rfl | rfl | rfl | rfl | rfl <;> rfl
theorem textL_nms (i : Nat) : textL nmsL i = nmL (i % 6) := by
  unfold textL
  rw [if_neg (by decide)]
  have : i % 6 < 6 := Nat.mod_lt _ (by decide)
  rw [List.getD_eq_getElem?_getD]
  simp [nmsL, this]
/-! ### What stands in a directory, step by step -/
theorem drop3 (ns : List UInt8) (i : Nat) (h : i + 2 < ns.length) : ns.drop i = nsf ns i :: nsf ns (i + 1) :: nsf ns (i + 2) :: ns.drop (i + 3) := by
  rw [List.drop_eq_getElem_cons (show i < ns.length by omega), List.drop_eq_getElem_cons (show i + 1 < ns.length by omega), List.drop_eq_getElem_cons (show i + 1 + 1 < ns.length by omega)]
  unfold nsf
  rw [List.getD_eq_getElem?_getD, List.getD_eq_getElem?_getD, List.getD_eq_getElem?_getD, List.getElem?_eq_getElem (show i < ns.length by omega), List.getElem?_eq_getElem (show i + 1 < ns.length by omega), List.getElem?_eq_getElem (show i + 2 < ns.length by omega)]
  rfl
theorem dir_end (tx : List (List UInt8)) (f dl : Nat) (p ns : List UInt8) (k cnt i : Nat) (h : ¬ i + 2 < ns.length ∨ 6 ≤ k ∨ 14 ≤ cnt) : dirL tx f dl p (ns.drop i) k cnt = [] := by
  cases f with
  | zero => rw [dirL]
  | succ f =>
    by_cases h3 : i + 2 < ns.length
    · rw [drop3 ns i h3, dirL, if_neg (by omega)]
    · have hl : (ns.drop i).length ≤ 2 := by rw [List.length_drop]; omega
      generalize ns.drop i = z at hl
      match z, hl with
      | [], _ => rw [dirL]; all_goals (intros; simp_all)
      | [_], _ => rw [dirL]; all_goals (intros; simp_all)
      | [_, _], _ => rw [dirL]; all_goals (intros; simp_all)
abbrev ndD (tx : List (List UInt8)) (p ns : List UInt8) (k i : Nat) : Nd := ⟨joinL p (nmL (k + (nsf ns i).toNat % 3)), ((1 + (nsf ns (i + 1)).toNat % 4 : Nat) : Int), dataL tx (1 + (nsf ns (i + 1)).toNat % 4) (nsf ns i) (nsf ns (i + 1)) (nsf ns (i + 2))⟩
theorem dir_step (tx : List (List UInt8)) (f dl : Nat) (p ns : List UInt8) (k cnt i : Nat) (h : i + 2 < ns.length) (hk : k < 6) (hc : cnt < 14) (hk2 : k + (nsf ns i).toNat % 3 < 6) (hb : ¬ (1 + (nsf ns (i + 1)).toNat % 4 = 4 ∧ 0 < dl)) :
    dirL tx (f + 1) dl p (ns.drop i) k cnt = ndD tx p ns k i :: dirL tx f dl p (ns.drop (i + 3)) (k + (nsf ns i).toNat % 3 + 1) (cnt + 1) := by
  rw [drop3 ns i h, dirL, if_pos ⟨hk, hc⟩, if_pos hk2, if_neg hb]
theorem dir_out (tx : List (List UInt8)) (f dl : Nat) (p ns : List UInt8) (k cnt i : Nat) (h : i + 2 < ns.length) (hk : k < 6) (hc : cnt < 14) (hk2 : ¬ k + (nsf ns i).toNat % 3 < 6) : dirL tx f dl p (ns.drop i) k cnt = [] := by
  cases f with
  | zero => rw [dirL]
  | succ f => rw [drop3 ns i h, dirL, if_pos ⟨hk, hc⟩, if_neg hk2]
theorem dir_down (tx : List (List UInt8)) (f dl : Nat) (p ns : List UInt8) (k cnt i : Nat) (h : i + 2 < ns.length) (hk : k < 6) (hc : cnt < 14) (hk2 : k + (nsf ns i).toNat % 3 < 6) (hb : 1 + (nsf ns (i + 1)).toNat % 4 = 4 ∧ 0 < dl) :
    dirL tx (f + 1) dl p (ns.drop i) k cnt = ndD tx p ns k i :: (dirL tx f (dl - 1) (joinL p (nmL (k + (nsf ns i).toNat % 3))) ((ns.drop (i + 3)).take ((ns.drop (i + 3)).length / 2)) 0 (cnt + 1) ++
      dir2L tx p ((ns.drop (i + 3)).drop ((ns.drop (i + 3)).length / 2)) (k + (nsf ns i).toNat % 3 + 1) (cnt + 1 + (dirL tx f (dl - 1) (joinL p (nmL (k + (nsf ns i).toNat % 3))) ((ns.drop (i + 3)).take ((ns.drop (i + 3)).length / 2)) 0 (cnt + 1)).length)) := by
  rw [drop3 ns i h, dirL, if_pos ⟨hk, hc⟩, if_pos hk2, if_pos hb]
/-! ### Duties -/
abbrev vB (b c : Bool) : Prop := TV.v (.bool b) = TV.v (.bool c)
abbrev o1 (N : List UInt8) (i0 n k i len : Nat) : List Prop := [inI ((i : Int) + 2), vB (decide ((i : Int) + 2 < (n : Int))) true, vB (decide ((k : Int) < ((6 : Nat) : Int))) true, vB (decide ((len : Int) < 14)) true, true = true, 0 ≤ (i : Int) ∧ (i : Int) < (n : Int), addN i0 i < N.length, IntKind.i64.wrap ((nsf N (addN i0 i)).toNat : Int) = ((nsf N (addN i0 i)).toNat : Int), 0 ≤ ((nsf N (addN i0 i)).toNat : Int) ∧ (0 : Int) < 3, inI ((k : Int) + ((nsf N (addN i0 i)).toNat : Int) % 3)]
theorem wrapN (b : UInt8) : IntKind.i64.wrap (b.toNat : Int) = (b.toNat : Int) := by have := b.toNat_lt; rw [IntKind.wrap_i64]; omega
theorem o1_ok {N : List UInt8} {i0 n k i len : Nat} (h : i + 2 < n) (hn : n ≤ 9223372036854775807) (hN : i0 + n ≤ N.length) (hk : k < 6) (hl : len < 14) : all (o1 N i0 n k i len) := by
  have hb := (nsf N (addN i0 i)).toNat_lt
  exact ⟨⟨by omega, by omega⟩, by show TV.v _ = TV.v _; rw [decide_eq_true (by omega)], by show TV.v _ = TV.v _; rw [decide_eq_true (by omega)], by show TV.v _ = TV.v _; rw [decide_eq_true (by omega)], rfl, ⟨by omega, by omega⟩, by rw [addN_eq]; omega, wrapN _, ⟨by omega, by omega⟩, ⟨by omega, by omega⟩, trivial⟩
abbrev kI (N : List UInt8) (i0 k i : Nat) : Int := (k : Int) + ((nsf N (addN i0 i)).toNat : Int) % 3
abbrev o2 (N : List UInt8) (i0 n k i : Nat) (q : Int) : List Prop := [decide ((k : Int) + ((nsf N (addN i0 i)).toNat : Int) % 3 ≥ ((6 : Nat) : Int)) = false, 0 ≤ (k : Int) + ((nsf N (addN i0 i)).toNat : Int) % 3 ∧ (k : Int) + ((nsf N (addN i0 i)).toNat : Int) % 3 < ((6 : Nat) : Int), ((k : Int) + ((nsf N (addN i0 i)).toNat : Int) % 3).toNat < 6, inI ((i : Int) + 1), 0 ≤ (i : Int) + 1 ∧ (i : Int) + 1 < (n : Int), addN i0 (i + 1) < N.length, IntKind.i64.wrap ((nsf N (addN i0 (i + 1))).toNat : Int) = ((nsf N (addN i0 (i + 1))).toNat : Int), 0 ≤ ((nsf N (addN i0 (i + 1))).toNat : Int) ∧ (0 : Int) < 4, TV.int .i64 (1 + ((nsf N (addN i0 (i + 1))).toNat : Int) % 4) = TV.int .i64 q, inI (1 + ((nsf N (addN i0 (i + 1))).toNat : Int) % 4)]
theorem o2_ok {N : List UInt8} {i0 n k i : Nat} {q : Int} (h : i + 2 < n) (hn : n ≤ 9223372036854775807) (hN : i0 + n ≤ N.length) (hk : ((k : Int) + ((nsf N (addN i0 i)).toNat : Int) % 3).toNat < 6) (hq : 1 + ((nsf N (addN i0 (i + 1))).toNat : Int) % 4 = q) : all (o2 N i0 n k i q) := by
  have hb := (nsf N (addN i0 (i + 1))).toNat_lt
  exact ⟨decide_eq_false (by omega), ⟨by omega, by omega⟩, hk, ⟨by omega, by omega⟩, ⟨by omega, by omega⟩, by rw [addN_eq]; omega, wrapN _, ⟨by omega, by omega⟩, by rw [hq], ⟨by omega, by omega⟩, trivial⟩
abbrev o3n (p : List UInt8) : List Prop := [(!(lb ⟨p.toArray⟩ == lb ⟨#[]⟩)) = false]
abbrev o3y (p nm : List UInt8) (kk : Int) (K : Nat) : List Prop := [(!(lb ⟨p.toArray⟩ == lb ⟨#[]⟩)) = true, ((lb ⟨p.toArray⟩).length : Int) + 1 ≤ 9223372036854775807, 0 ≤ kk ∧ kk < ((6 : Nat) : Int), K < 6, (((p ++ [47]).length : Nat) : Int) + (nm.length : Int) ≤ 9223372036854775807]
theorem o3y_ok {p nm : List UInt8} {kk : Int} {K : Nat} (hp : p ≠ []) (hpl : p.length ≤ 1000000) (hnm : nm.length ≤ 3) (hk : kk = K) (hK : K < 6) : all (o3y p nm kk K) := by
  have hl : (lb ⟨p.toArray⟩).length = p.length := rfl
  refine ⟨?_, by omega, ⟨by omega, by omega⟩, hK, ?_, trivial⟩
  · cases p with
    | nil => exact absurd rfl hp
    | cons a q => rfl
  · rw [List.length_append, List.length_cons, List.length_nil]; omega
abbrev o5 (N : List UInt8) (i0 n i : Nat) : List Prop := [inI ((i : Int) + 2), 0 ≤ (i : Int) + 2 ∧ (i : Int) + 2 < (n : Int), addN i0 (i + 2) < N.length, IntKind.i64.wrap ((nsf N (addN i0 (i + 2))).toNat : Int) = ((nsf N (addN i0 (i + 2))).toNat : Int)]
theorem o5_ok {N : List UInt8} {i0 n i : Nat} (h : i + 2 < n) (hn : n ≤ 9223372036854775807) (hN : i0 + n ≤ N.length) : all (o5 N i0 n i) :=
  ⟨⟨by omega, by omega⟩, ⟨by omega, by omega⟩, by rw [addN_eq]; omega, wrapN _, trivial⟩
abbrev dB (N : List UInt8) (i0 i : Nat) : List UInt8 := [nsf N (addN i0 i), nsf N (addN i0 (i + 1))]
abbrev o5b (N S : List UInt8) (i0 c i : Nat) : List Prop := [inI ((i : Int) + 2), 0 ≤ (i : Int) + 2 ∧ (i : Int) + 2 ≤ (c : Int), 0 ≤ (i : Int) ∧ (i : Int) ≤ (i : Int) + 2, TV.v (.string (bl ((List.range (i + 2 - i)).map fun q => ubyte [Value.int .u8 ((nsf N (addN (slBb c i i0) q)).toNat : Int)]))) = TV.v (stv (dB N i0 i)), slBb c i i0 + (i + 2 - i) ≤ N.length,
  ∀ q, q < i + 2 - i → ∃ b : UInt8, [Value.int .u8 ((nsf N (addN (slBb c i i0) q)).toNat : Int)] = [Value.int .u8 (b.toNat : Int)], (S.length : Int) + 2 ≤ 9223372036854775807]
theorem o5b_ok {N S : List UInt8} {i0 n c i : Nat} (h : i + 2 < n) (hn : n ≤ 9223372036854775807) (hN : i0 + n ≤ N.length) (hc : n ≤ c) (hS : S.length ≤ 300) : all (o5b N S i0 c i) := by
  have e := slBb_eq (i0 := i0) (show i < c by omega)
  refine ⟨⟨by omega, by omega⟩, ⟨by omega, by omega⟩, ⟨by omega, by omega⟩, ?_, by rw [e]; omega, fun q _ => ⟨_, rfl⟩, by omega, trivial⟩
  rw [e, show i + 2 - i = 2 by omega]
  have u : ∀ b : UInt8, ubyte [Value.int .u8 (b.toNat : Int)] = b := fun b => by show UInt8.ofNat ((b.toNat : Int)).toNat = b; simp
  show TV.v (.string (bl [ubyte [Value.int .u8 ((nsf N (addN (i0 + i) 0)).toNat : Int)], ubyte [Value.int .u8 ((nsf N (addN (i0 + i) 1)).toNat : Int)]])) = _
  rw [u, u]
  unfold dB
  simp only [addN_eq]
  rfl
abbrev o6 (len : Nat) : List Prop := [len = len, len + 1 ≤ 9223372036854775807, (len + 1) * 40 ≤ 140737488355328, 1 ≤ 1]
theorem o6_ok {len : Nat} (h : len < 14) : all (o6 len) := ⟨rfl, by omega, by omega, by omega, trivial⟩
abbrev hDir (R f id : Nat) (tv : TV) (rl : List (Nat × Row)) (N : List UInt8) (L L2 : List Nd) (n n2 : Nat) (p : List UInt8) (i0 nn c : Nat) (z : Int) : Hint := .call ⟨f, fun ρ => #[(TV.s (.lf (.sl R 0 0 3 n none))).val ρ, stv p, (TV.s (.lf (.sl 0 0 i0 1 nn (some c)))).val ρ, tv.val ρ, .int .i64 z], .s (.lf (.sl id 0 0 3 n2 none)), (0, numRow N) :: (rl ++ [(R, rowN L n)]), [], some (rowN L2 n2), [R]⟩
theorem hDir_of {R f id : Nat} {tv : TV} {rl : List (Nat × Row)} {N : List UInt8} {L L2 : List Nd} {n n2 : Nat} {p : List UInt8} {i0 nn c : Nat} {z : Int} (he : Enters Try.prog f)
    (h : ∀ (ρ : Env) (w : World), (∀ q ∈ (0, numRow N) :: (rl ++ [(R, rowN L n)]), RowAt ρ q.1 q.2 w) → PreDs ρ ((0, numRow N) :: (rl ++ [(R, rowN L n)])) → Calls Try.prog f #[(TV.s (.lf (.sl R 0 0 3 n none))).val ρ, stv p, (TV.s (.lf (.sl 0 0 i0 1 nn (some c)))).val ρ, tv.val ρ, .int .i64 z] w (LOut w (ρ R).1 L2 n2)) :
    HintOk Try.prog id (hDir R f id tv rl N L L2 n n2 p i0 nn c z) := by
  refine callE_ok he trivial (fun p hp => by cases hp) fun ρ w hr hd => (h ρ w hr hd).mono ?_
  rintro e w' ⟨B, rfl, h0, hf, hb, hrow⟩
  refine ⟨B, ?_, hf, (fun p hp => by cases hp), fun row hrw => ?_⟩
  · show _ = Ending.returned (.slice (some ⟨(setE ρ id B id).1, (setE ρ id B id).2 + (0 + 0 * 3), none⟩) n2 ((setE ρ id B id).3 - 0))
    rw [setE_same, h0]
    rfl
  · cases hrw
    refine ⟨?_, rowAt_mv hrow (setE_same ρ id B), rowN_ok L2 n2⟩
    rcases hb with hb | hb
    · exact .inl hb
    · exact .inr ⟨R, List.mem_singleton.2 rfl, hb⟩
theorem ent61 : Enters Try.prog 40 := enters_of Try.func40 (by kernel_rfl) rfl
theorem ent46 : Enters Try.prog 28 := enters_of Try.func28 (by kernel_rfl) rfl
def atR (R : Nat) (ρ : Env) : Env := fun r => if r = 2 then ρ R else ρ r
theorem pre_mv1 {w : World} {ρ : Env} {N : List UInt8} {tx : List (List UInt8)} {L : List Nd} {n R : Nat} (hR : R ≠ 0 ∧ R ≠ 1) (hr : ∀ q ∈ (0, numRow N) :: ([(1, txtRow tx)] ++ [(R, rowN L n)]), RowAt ρ q.1 q.2 w) (hd : PreDs ρ ((0, numRow N) :: ([(1, txtRow tx)] ++ [(R, rowN L n)]))) :
    (∀ q ∈ ([(0, numRow N), (1, txtRow tx), (2, rowN L n)] : List (Nat × Row)), RowAt (atR R ρ) q.1 q.2 w) ∧ PreDs (atR R ρ) [(0, numRow N), (1, txtRow tx), (2, rowN L n)] := by
  have e2 : atR R ρ 2 = ρ R := rfl
  constructor
  · intro q hq
    simp only [List.mem_cons, List.not_mem_nil, or_false] at hq
    rcases hq with rfl | rfl | rfl
    · exact rowAt_mv (hr (0, numRow N) (by simp)) rfl
    · exact rowAt_mv (hr (1, txtRow tx) (by simp)) rfl
    · exact rowAt_mv (hr (R, rowN L n) (by simp)) rfl
  · intro q hq u hu hne hw
    simp only [List.mem_cons, List.not_mem_nil, or_false] at hq hu
    rcases hq with rfl | rfl | rfl
    · cases hw
    · cases hw
    · rcases hu with rfl | rfl | rfl
      · exact hd (R, rowN L n) (by simp) (0, numRow N) (by simp) hR.1 rfl
      · exact hd (R, rowN L n) (by simp) (1, txtRow tx) (by simp) hR.2 rfl
      · exact absurd rfl hne
theorem hDir2_ok1 (R id : Nat) (hR : R ≠ 0 ∧ R ≠ 1) (N : List UInt8) (tx : List (List UInt8)) (ta : Option Addr) (ct : Nat) (hT : TxSrc (TV.s (.lf (.sl 1 0 0 1 tx.length (some ct)))) [(1, txtRow tx)] tx) (l : List Nd) (m : Nat) (hm : m = l.length) (hm2 : m ≤ 1000000) (p : List UInt8) (hp : p.length ≤ 1000000) (i0 n c k : Nat) (hi : i0 + n ≤ N.length) (hn : n ≤ 9223372036854775807) (hk : k ≤ 1000000) :
    HintOk Try.prog id (hDir R 40 id (TV.s (.lf (.sl 1 0 0 1 tx.length (some ct)))) [(1, txtRow tx)] N l (l ++ dir2L tx p ((N.drop i0).take n) k m) m (m + d2n n k m) p i0 n c (k : Int)) :=
  hDir_of ent61 fun ρ w hr hd => by
    obtain ⟨h1, h2⟩ := pre_mv1 (tx := tx) hR hr hd
    exact dir2_run1 N tx ta ct hT l m hm hm2 p hp i0 n c k hi hn hk (atR R ρ) w h1 h2
abbrev tmd1 (p : List UInt8) (i0 n c k : Nat) (tx : List (List UInt8)) (ta : Option Addr) (ct i m R : Nat) (dp : Int) : List (Nat × TV) := [(0, .s (.lf (.sl R 0 0 3 m none))), (1, .v (stv p)), (2, .s (.lf (.sl 0 0 i0 1 n (some c)))), (3, (TV.s (.lf (.sl 1 0 0 1 tx.length (some ct))))), (4, .int .i64 dp), (11, .s (.lf (.sl 2000 0 0 1 6 none))), (12, .int .i64 k), (13, .int .i64 i)]
abbrev rowsd1 (N : List UInt8) (tx : List (List UInt8)) (L : List Nd) (m R : Nat) : List (Nat × Row) := [(0, numRow N), (1, txtRow tx), (R, rowN L m), (2000, nmRow)]
theorem pre_mv0 {w : World} {ρ : Env} {N : List UInt8} {tx : List (List UInt8)} {L : List Nd} {n R : Nat} (hR : R ≠ 0 ∧ R ≠ 1) (hr : ∀ q ∈ (0, numRow N) :: ([] ++ [(R, rowN L n)]), RowAt ρ q.1 q.2 w) (hd : PreDs ρ ((0, numRow N) :: ([] ++ [(R, rowN L n)]))) :
    (∀ q ∈ ([(0, numRow N), (2, rowN L n)] : List (Nat × Row)), RowAt (atR R ρ) q.1 q.2 w) ∧ PreDs (atR R ρ) [(0, numRow N), (2, rowN L n)] := by
  have e2 : atR R ρ 2 = ρ R := rfl
  constructor
  · intro q hq
    simp only [List.mem_cons, List.not_mem_nil, or_false] at hq
    rcases hq with rfl | rfl
    · exact rowAt_mv (hr (0, numRow N) (by simp)) rfl
    
    · exact rowAt_mv (hr (R, rowN L n) (by simp)) rfl
  · intro q hq u hu hne hw
    simp only [List.mem_cons, List.not_mem_nil, or_false] at hq hu
    rcases hq with rfl | rfl
    · cases hw
    
    · rcases hu with rfl | rfl
      · exact hd (R, rowN L n) (by simp) (0, numRow N) (by simp) hR.1 rfl
      
      · exact absurd rfl hne
theorem hDir2_ok0 (R id : Nat) (hR : R ≠ 0 ∧ R ≠ 1) (N : List UInt8) (tx : List (List UInt8)) (ta : Option Addr) (ct : Nat) (hT : TxSrc (TV.v (.slice ta 0 ct)) [] tx) (l : List Nd) (m : Nat) (hm : m = l.length) (hm2 : m ≤ 1000000) (p : List UInt8) (hp : p.length ≤ 1000000) (i0 n c k : Nat) (hi : i0 + n ≤ N.length) (hn : n ≤ 9223372036854775807) (hk : k ≤ 1000000) :
    HintOk Try.prog id (hDir R 40 id (TV.v (.slice ta 0 ct)) [] N l (l ++ dir2L tx p ((N.drop i0).take n) k m) m (m + d2n n k m) p i0 n c (k : Int)) :=
  hDir_of ent61 fun ρ w hr hd => by
    obtain ⟨h1, h2⟩ := pre_mv0 (tx := tx) hR hr hd
    exact dir2_run0 N tx ta ct hT l m hm hm2 p hp i0 n c k hi hn hk (atR R ρ) w h1 h2
abbrev tmd0 (p : List UInt8) (i0 n c k : Nat) (tx : List (List UInt8)) (ta : Option Addr) (ct i m R : Nat) (dp : Int) : List (Nat × TV) := [(0, .s (.lf (.sl R 0 0 3 m none))), (1, .v (stv p)), (2, .s (.lf (.sl 0 0 i0 1 n (some c)))), (3, (TV.v (.slice ta 0 ct))), (4, .int .i64 dp), (11, .s (.lf (.sl 2000 0 0 1 6 none))), (12, .int .i64 k), (13, .int .i64 i)]
abbrev rowsd0 (N : List UInt8) (tx : List (List UInt8)) (L : List Nd) (m R : Nat) : List (Nat × Row) := [(0, numRow N), (R, rowN L m), (2000, nmRow)]
end
end Go.Proofs.Ytglipljilcdboaa
/- Of the laws: what dir makes of a list. Its conditions: texts of at most 300, a list of at most 16, numbers of at most 2^47. -/
namespace Go.Proofs.Ytglipljilcdboaa
open Go.RowKit Go.Shelf
set_option linter.unusedVariables false
set_option linter.unusedSimpArgs false
section
open E
/-- What dir is to make of any list, so many levels ahead of the last. -/
def DirOk1 (N : List UInt8) (tx : List (List UInt8)) (ta : Option Addr) (ct dl : Nat) : Prop := ∀ (l : List Nd) (m : Nat) (_ : m = l.length) (_ : m ≤ 16) (p : List UInt8) (_ : p.length + 10 * dl ≤ 900000) (i0 n c : Nat) (_ : i0 + n ≤ N.length) (_ : n ≤ c) (_ : c ≤ 140737488355328) (f : Nat) (_ : n < f) (ρ : Env) (w : World)
  (_ : ∀ q ∈ ([(0, numRow N), (1, txtRow tx), (2, rowN l m)] : List (Nat × Row)), RowAt ρ q.1 q.2 w) (_ : PreDs ρ [(0, numRow N), (1, txtRow tx), (2, rowN l m)]),
  Calls Try.prog 28 #[(TV.s (.lf (.sl 2 0 0 3 m none))).val ρ, strV p, (TV.s (.lf (.sl 0 0 i0 1 n (some c)))).val ρ, (TV.s (.lf (.sl 1 0 0 1 tx.length (some ct)))).val ρ, .int .i64 (3 - (dl : Int))] w (LOut w (ρ 2).1 (l ++ dirL tx f dl p ((N.drop i0).take n) 0 m) (m + (dirL tx f dl p ((N.drop i0).take n) 0 m).length))
theorem hDir_ok1 (R id : Nat) (hR : R ≠ 0 ∧ R ≠ 1) {N : List UInt8} {tx : List (List UInt8)} {ta : Option Addr} {ct d : Nat} (h : DirOk1 N tx ta ct d) (l : List Nd) (m : Nat) (hm : m = l.length) (hm2 : m ≤ 16) (p : List UInt8) (hp : p.length + 10 * d ≤ 900000) (i0 n c : Nat) (hi : i0 + n ≤ N.length) (hc : n ≤ c) (hc2 : c ≤ 140737488355328) (f : Nat) (hf : n < f) :
    HintOk Try.prog id (hDir R 28 id (TV.s (.lf (.sl 1 0 0 1 tx.length (some ct)))) [(1, txtRow tx)] N l (l ++ dirL tx f d p ((N.drop i0).take n) 0 m) m (m + (dirL tx f d p ((N.drop i0).take n) 0 m).length) p i0 n c (3 - (d : Int))) :=
  hDir_of ent46 fun ρ w hr hd => by
    obtain ⟨h1, h2⟩ := pre_mv1 (tx := tx) hR hr hd
    exact h l m hm hm2 p hp i0 n c hi hc hc2 f hf (atR R ρ) w h1 h2
abbrev DirQ (w : World) (b0 : Nat) (L : List Nd) (n : Nat) : Exit → Act → World → Prop := EndX Try.prog Try.f28 (LOut w b0 L n)
abbrev tmz1 (p : List UInt8) (i0 n c : Nat) (z : Int) (tx : List (List UInt8)) (ta : Option Addr) (ct i m R : Nat) (dp : Int) : List (Nat × TV) := [(0, .s (.lf (.sl R 0 0 3 m none))), (1, .v (stv p)), (2, .s (.lf (.sl 0 0 i0 1 n (some c)))), (3, (TV.s (.lf (.sl 1 0 0 1 tx.length (some ct))))), (4, .int .i64 dp), (11, .s (.lf (.sl 2000 0 0 1 6 none))), (12, .int .i64 z), (13, .int .i64 i)]
set_option maxRecDepth 100000 in
theorem head1_0 (N : List UInt8) (tx : List (List UInt8)) (ta : Option Addr) (ct : Nat) (p : List UInt8) (i0 n c k i : Nat) (L : List Nd) (m : Nat) (dp : Int) (w : World) (ρ : Env) (wr : List Nat) (Q : Exit → Act → World → Prop) (q : Nat) (h : i + 2 < n) (hn : n ≤ 9223372036854775807) (hN : i0 + n ≤ N.length) (hk : k < 6) (hL : m < 14) (hk2 : (((k : Int) + ((nsf N (addN i0 i)).toNat : Int) % 3)).toNat < 6) (hq : 1 + ((nsf N (addN i0 (i + 1))).toNat : Int) % 4 = (q : Int)) (hpe : p = []) (hpl : p.length ≤ 1000000) (hK : At Try.prog w ⟨wr, ρ, []⟩ Try.f28.ntmps [] (rp Try.f28 11) Q ((14, .s (.lf (.ptr 9013 0 0 0 0))) :: tmz1 p i0 n c ((k : Int) + ((nsf N (addN i0 i)).toNat : Int) % 3) tx ta ct i m 2904 dp) ((9013, ⟨[.one (.v (stv (nmL ((((k : Int) + ((nsf N (addN i0 i)).toNat : Int) % 3)).toNat)))), .one (.v (.int .i64 q)), .one (.v (stv []))], true, none⟩) :: rowsd1 N tx L m 2904)) :
    At Try.prog w ⟨wr, ρ, []⟩ Try.f28.ntmps [] (lp Try.f28 0) Q (tmd1 p i0 n c k tx ta ct i m 2904 dp) (rowsd1 N tx L m 2904) := by
  have hA0 := (nsf N (addN i0 i)).toNat_lt
  exact At.run rfl [(2005004, .val (.v (.bool true))), (2005009, .val (.v (.bool true))), (2005014, .val (.v (.bool true))), (2009011, .val (.int .i64 q)), (2012000, .val (.tup []))] ⟨trivial, trivial, trivial, trivial, trivial, trivial⟩ [.y, .n, .n] (tm2 := ((14, .s (.lf (.ptr 9013 0 0 0 0))) :: tmz1 p i0 n c ((k : Int) + ((nsf N (addN i0 i)).toNat : Int) % 3) tx ta ct i m 2904 dp)) (rows2 := ((9013, ⟨[.one (.v (stv (nmL ((((k : Int) + ((nsf N (addN i0 i)).toNat : Int) % 3)).toNat)))), .one (.v (.int .i64 q)), .one (.v (stv []))], true, none⟩) :: rowsd1 N tx L m 2904))
    (ob := [o1 N i0 n k i m, o2 N i0 n k i q, o3n p].flatten) (td := (rp Try.f28 11)) (by kernel_rfl) (all_flat ⟨o1_ok h hn hN hk hL, o2_ok h hn hN hk2 hq, ⟨by rw [hpe]; rfl, trivial⟩, trivial⟩) rfl rfl (by intro h; cases h) hK
set_option maxRecDepth 100000 in
theorem head1_1 (N : List UInt8) (tx : List (List UInt8)) (ta : Option Addr) (ct : Nat) (p : List UInt8) (i0 n c k i : Nat) (L : List Nd) (m : Nat) (dp : Int) (w : World) (ρ : Env) (wr : List Nat) (Q : Exit → Act → World → Prop) (q : Nat) (h : i + 2 < n) (hn : n ≤ 9223372036854775807) (hN : i0 + n ≤ N.length) (hk : k < 6) (hL : m < 14) (hk2 : (((k : Int) + ((nsf N (addN i0 i)).toNat : Int) % 3)).toNat < 6) (hq : 1 + ((nsf N (addN i0 (i + 1))).toNat : Int) % 4 = (q : Int)) (hpe : p ≠ []) (hpl : p.length ≤ 1000000) (hK : At Try.prog w ⟨wr, ρ, []⟩ Try.f28.ntmps [] (rp Try.f28 11) Q ((14, .s (.lf (.ptr 9013 0 0 0 0))) :: tmz1 p i0 n c ((k : Int) + ((nsf N (addN i0 i)).toNat : Int) % 3) tx ta ct i m 2904 dp) ((9013, ⟨[.one (.v (stv ((p ++ [47]) ++ nmL ((((k : Int) + ((nsf N (addN i0 i)).toNat : Int) % 3)).toNat)))), .one (.v (.int .i64 q)), .one (.v (stv []))], true, none⟩) :: rowsd1 N tx L m 2904)) :
    At Try.prog w ⟨wr, ρ, []⟩ Try.f28.ntmps [] (lp Try.f28 0) Q (tmd1 p i0 n c k tx ta ct i m 2904 dp) (rowsd1 N tx L m 2904) := by
  have hA0 := (nsf N (addN i0 i)).toNat_lt
  exact At.run rfl [(2005004, .val (.v (.bool true))), (2005009, .val (.v (.bool true))), (2005014, .val (.v (.bool true))), (2009011, .val (.int .i64 q)), (2012000, .val (.tup []))] ⟨trivial, trivial, trivial, trivial, trivial, trivial⟩ [.y, .n, .y] (tm2 := ((14, .s (.lf (.ptr 9013 0 0 0 0))) :: tmz1 p i0 n c ((k : Int) + ((nsf N (addN i0 i)).toNat : Int) % 3) tx ta ct i m 2904 dp)) (rows2 := ((9013, ⟨[.one (.v (stv ((p ++ [47]) ++ nmL ((((k : Int) + ((nsf N (addN i0 i)).toNat : Int) % 3)).toNat)))), .one (.v (.int .i64 q)), .one (.v (stv []))], true, none⟩) :: rowsd1 N tx L m 2904))
    (ob := [o1 N i0 n k i m, o2 N i0 n k i q, o3y p (nmL ((((k : Int) + ((nsf N (addN i0 i)).toNat : Int) % 3)).toNat)) ((k : Int) + ((nsf N (addN i0 i)).toNat : Int) % 3) ((((k : Int) + ((nsf N (addN i0 i)).toNat : Int) % 3)).toNat)].flatten) (td := (rp Try.f28 11)) (by kernel_rfl) (all_flat ⟨o1_ok h hn hN hk hL, o2_ok h hn hN hk2 hq, o3y_ok hpe hpl (nm_len _) (by omega) hk2, trivial⟩) rfl rfl (by intro h; cases h) hK
set_option maxRecDepth 100000 in
theorem tail1_1 (N : List UInt8) (tx : List (List UInt8)) (ta : Option Addr) (ct : Nat) (p : List UInt8) (i0 n c k i : Nat) (L : List Nd) (m : Nat) (dp : Int) (w : World) (ρ : Env) (wr : List Nat) (Q : Exit → Act → World → Prop) (h : i + 2 < n) (hn : n ≤ 9223372036854775807) (hN : i0 + n ≤ N.length) (hcn : n ≤ c) (hL : m < 14) (hi18 : i ≤ 18) (z : Int) (hz : 0 ≤ z ∧ z < 6) (P : List UInt8) (hT : TxSrc (TV.s (.lf (.sl 1 0 0 1 tx.length (some ct)))) [(1, txtRow tx)] tx) (hS : (textL tx (nsf N (addN i0 (i + 2))).toNat).length ≤ 300) (hK : At Try.prog w ⟨wr, ρ, []⟩ Try.f28.ntmps [] (lp Try.f28 0) Q (tmz1 p i0 n c (z + 1) tx ta ct (i + 3) (m + 1) 19003 dp) [(0, numRow N), (1, txtRow tx), (19003, ⟨[.fnc (appF (ndc L) m fun y => chunkF [stv P, .int .i64 1, stv (textL tx (nsf N (addN i0 (i + 2))).toNat ++ dB N i0 i)] 3 1 (addN 0 y)) 3 (m + 1)], true, some (55, 3)⟩), (2000, nmRow)]) :
    At Try.prog w ⟨wr, ρ, []⟩ Try.f28.ntmps [] (rp Try.f28 11) Q ((14, .s (.lf (.ptr 9013 0 0 0 0))) :: tmz1 p i0 n c z tx ta ct i m 2904 dp) ((9013, ⟨[.one (.v (stv P)), .one (.v (.int .i64 1)), .one (.v (stv []))], true, none⟩) :: rowsd1 N tx L m 2904) := by
  have hC0 : (nsf N (addN i0 (i + 2))).toNat ≤ 9223372036854775807 := by have := (nsf N (addN i0 (i + 2))).toNat_lt; omega
  exact At.run rfl [(16007, hText (TV.s (.lf (.sl 1 0 0 1 tx.length (some ct)))) [(1, txtRow tx)] (nsf N (addN i0 (i + 2))).toNat (textL tx (nsf N (addN i0 (i + 2))).toNat)), (2016013, .val (.v (stv (dB N i0 i))))] ⟨hText_ok _ hT _ hC0, trivial, trivial⟩ [.y, .y, .n] (tm2 := (tmz1 p i0 n c (z + 1) tx ta ct (i + 3) (m + 1) 19003 dp)) (rows2 := [(0, numRow N), (1, txtRow tx), (19003, ⟨[.fnc (appF (ndc L) m fun y => chunkF [stv P, .int .i64 1, stv (textL tx (nsf N (addN i0 (i + 2))).toNat ++ dB N i0 i)] 3 1 (addN 0 y)) 3 (m + 1)], true, some (55, 3)⟩), (2000, nmRow)])
    (ob := [[inI (z + 1)], [true = true, true = true], o5 N i0 n i, qL (hText (TV.s (.lf (.sl 1 0 0 1 tx.length (some ct)))) [(1, txtRow tx)] (nsf N (addN i0 (i + 2))).toNat (textL tx (nsf N (addN i0 (i + 2))).toNat)), o5b N (textL tx (nsf N (addN i0 (i + 2))).toNat) i0 c i, o6 m, [false = false, inI ((i : Int) + 3)]].flatten) (td := (lp Try.f28 0)) (by kernel_rfl) (all_flat ⟨⟨⟨by omega, by omega⟩, trivial⟩, ⟨rfl, rfl, trivial⟩, o5_ok h hn hN, all_qL _, o5b_ok h hn hN hcn hS, o6_ok hL, ⟨rfl, ⟨by omega, by omega⟩, trivial⟩, trivial⟩) rfl rfl (by intro h; cases h) hK
set_option maxRecDepth 100000 in
theorem tail1_2 (N : List UInt8) (tx : List (List UInt8)) (ta : Option Addr) (ct : Nat) (p : List UInt8) (i0 n c k i : Nat) (L : List Nd) (m : Nat) (dp : Int) (w : World) (ρ : Env) (wr : List Nat) (Q : Exit → Act → World → Prop) (h : i + 2 < n) (hn : n ≤ 9223372036854775807) (hN : i0 + n ≤ N.length) (hcn : n ≤ c) (hL : m < 14) (hi18 : i ≤ 18) (z : Int) (hz : 0 ≤ z ∧ z < 6) (P : List UInt8) (hT : TxSrc (TV.s (.lf (.sl 1 0 0 1 tx.length (some ct)))) [(1, txtRow tx)] tx) (hS : (textL tx (nsf N (addN i0 (i + 2))).toNat).length ≤ 300) (hK : At Try.prog w ⟨wr, ρ, []⟩ Try.f28.ntmps [] (lp Try.f28 0) Q (tmz1 p i0 n c (z + 1) tx ta ct (i + 3) (m + 1) 19003 dp) [(0, numRow N), (1, txtRow tx), (19003, ⟨[.fnc (appF (ndc L) m fun y => chunkF [stv P, .int .i64 2, stv (textL tx (nsf N (addN i0 (i + 2))).toNat ++ dB N i0 i)] 3 1 (addN 0 y)) 3 (m + 1)], true, some (55, 3)⟩), (2000, nmRow)]) :
    At Try.prog w ⟨wr, ρ, []⟩ Try.f28.ntmps [] (rp Try.f28 11) Q ((14, .s (.lf (.ptr 9013 0 0 0 0))) :: tmz1 p i0 n c z tx ta ct i m 2904 dp) ((9013, ⟨[.one (.v (stv P)), .one (.v (.int .i64 2)), .one (.v (stv []))], true, none⟩) :: rowsd1 N tx L m 2904) := by
  have hC0 : (nsf N (addN i0 (i + 2))).toNat ≤ 9223372036854775807 := by have := (nsf N (addN i0 (i + 2))).toNat_lt; omega
  exact At.run rfl [(16007, hText (TV.s (.lf (.sl 1 0 0 1 tx.length (some ct)))) [(1, txtRow tx)] (nsf N (addN i0 (i + 2))).toNat (textL tx (nsf N (addN i0 (i + 2))).toNat)), (2016013, .val (.v (stv (dB N i0 i))))] ⟨hText_ok _ hT _ hC0, trivial, trivial⟩ [.n, .y, .n] (tm2 := (tmz1 p i0 n c (z + 1) tx ta ct (i + 3) (m + 1) 19003 dp)) (rows2 := [(0, numRow N), (1, txtRow tx), (19003, ⟨[.fnc (appF (ndc L) m fun y => chunkF [stv P, .int .i64 2, stv (textL tx (nsf N (addN i0 (i + 2))).toNat ++ dB N i0 i)] 3 1 (addN 0 y)) 3 (m + 1)], true, some (55, 3)⟩), (2000, nmRow)])
    (ob := [[inI (z + 1)], [false = false, true = true], o5 N i0 n i, qL (hText (TV.s (.lf (.sl 1 0 0 1 tx.length (some ct)))) [(1, txtRow tx)] (nsf N (addN i0 (i + 2))).toNat (textL tx (nsf N (addN i0 (i + 2))).toNat)), o5b N (textL tx (nsf N (addN i0 (i + 2))).toNat) i0 c i, o6 m, [false = false, inI ((i : Int) + 3)]].flatten) (td := (lp Try.f28 0)) (by kernel_rfl) (all_flat ⟨⟨⟨by omega, by omega⟩, trivial⟩, ⟨rfl, rfl, trivial⟩, o5_ok h hn hN, all_qL _, o5b_ok h hn hN hcn hS, o6_ok hL, ⟨rfl, ⟨by omega, by omega⟩, trivial⟩, trivial⟩) rfl rfl (by intro h; cases h) hK
set_option maxRecDepth 100000 in
theorem tail1_3 (N : List UInt8) (tx : List (List UInt8)) (ta : Option Addr) (ct : Nat) (p : List UInt8) (i0 n c k i : Nat) (L : List Nd) (m : Nat) (dp : Int) (w : World) (ρ : Env) (wr : List Nat) (Q : Exit → Act → World → Prop) (h : i + 2 < n) (hn : n ≤ 9223372036854775807) (hN : i0 + n ≤ N.length) (hcn : n ≤ c) (hL : m < 14) (hi18 : i ≤ 18) (z : Int) (hz : 0 ≤ z ∧ z < 6) (P : List UInt8) (hK : At Try.prog w ⟨wr, ρ, []⟩ Try.f28.ntmps [] (lp Try.f28 0) Q (tmz1 p i0 n c (z + 1) tx ta ct (i + 3) (m + 1) 19003 dp) [(0, numRow N), (1, txtRow tx), (19003, ⟨[.fnc (appF (ndc L) m fun y => chunkF [stv P, .int .i64 3, stv ([116, 111, 47] ++ textL nmsL (nsf N (addN i0 (i + 2))).toNat)] 3 1 (addN 0 y)) 3 (m + 1)], true, some (55, 3)⟩), (2000, nmRow)]) :
    At Try.prog w ⟨wr, ρ, []⟩ Try.f28.ntmps [] (rp Try.f28 11) Q ((14, .s (.lf (.ptr 9013 0 0 0 0))) :: tmz1 p i0 n c z tx ta ct i m 2904 dp) ((9013, ⟨[.one (.v (stv P)), .one (.v (.int .i64 3)), .one (.v (stv []))], true, none⟩) :: rowsd1 N tx L m 2904) := by
  have hC0 : (nsf N (addN i0 (i + 2))).toNat ≤ 9223372036854775807 := by have := (nsf N (addN i0 (i + 2))).toNat_lt; omega
  have hS3 : (textL nmsL (nsf N (addN i0 (i + 2))).toNat).length ≤ 3 := by rw [textL_nms]; exact nm_len _
  exact At.run rfl [(18007, hText (.s (.lf (.sl 2000 0 0 1 6 none))) [(2000, nmRow)] (nsf N (addN i0 (i + 2))).toNat (textL nmsL (nsf N (addN i0 (i + 2))).toNat))] ⟨hText_ok _ txs_nms _ hC0, trivial⟩ [.n, .n, .y, .n] (tm2 := (tmz1 p i0 n c (z + 1) tx ta ct (i + 3) (m + 1) 19003 dp)) (rows2 := [(0, numRow N), (1, txtRow tx), (19003, ⟨[.fnc (appF (ndc L) m fun y => chunkF [stv P, .int .i64 3, stv ([116, 111, 47] ++ textL nmsL (nsf N (addN i0 (i + 2))).toNat)] 3 1 (addN 0 y)) 3 (m + 1)], true, some (55, 3)⟩), (2000, nmRow)])
    (ob := [[inI (z + 1)], [false = false, false = false, true = true], o5 N i0 n i, qL (hText (.s (.lf (.sl 2000 0 0 1 6 none))) [(2000, nmRow)] (nsf N (addN i0 (i + 2))).toNat (textL nmsL (nsf N (addN i0 (i + 2))).toNat)), [(3 : Int) + ((textL nmsL (nsf N (addN i0 (i + 2))).toNat).length : Int) ≤ 9223372036854775807], o6 m, [false = false, inI ((i : Int) + 3)]].flatten) (td := (lp Try.f28 0)) (by kernel_rfl) (all_flat ⟨⟨⟨by omega, by omega⟩, trivial⟩, ⟨rfl, rfl, rfl, trivial⟩, o5_ok h hn hN, all_qL _, ⟨by omega, trivial⟩, o6_ok hL, ⟨rfl, ⟨by omega, by omega⟩, trivial⟩, trivial⟩) rfl rfl (by intro h; cases h) hK
set_option maxRecDepth 100000 in
theorem tail1_4 (N : List UInt8) (tx : List (List UInt8)) (ta : Option Addr) (ct : Nat) (p : List UInt8) (i0 n c k i : Nat) (L : List Nd) (m : Nat) (dp : Int) (w : World) (ρ : Env) (wr : List Nat) (Q : Exit → Act → World → Prop) (h : i + 2 < n) (hn : n ≤ 9223372036854775807) (hN : i0 + n ≤ N.length) (hcn : n ≤ c) (hL : m < 14) (hi18 : i ≤ 18) (z : Int) (hz : 0 ≤ z ∧ z < 6) (P : List UInt8) (hdp : 3 ≤ dp) (hK : At Try.prog w ⟨wr, ρ, []⟩ Try.f28.ntmps [] (lp Try.f28 0) Q (tmz1 p i0 n c (z + 1) tx ta ct (i + 3) (m + 1) 19003 dp) [(0, numRow N), (1, txtRow tx), (19003, ⟨[.fnc (appF (ndc L) m fun y => chunkF [stv P, .int .i64 4, stv []] 3 1 (addN 0 y)) 3 (m + 1)], true, some (55, 3)⟩), (2000, nmRow)]) :
    At Try.prog w ⟨wr, ρ, []⟩ Try.f28.ntmps [] (rp Try.f28 11) Q ((14, .s (.lf (.ptr 9013 0 0 0 0))) :: tmz1 p i0 n c z tx ta ct i m 2904 dp) ((9013, ⟨[.one (.v (stv P)), .one (.v (.int .i64 4)), .one (.v (stv []))], true, none⟩) :: rowsd1 N tx L m 2904) := by
  have hC0 : (nsf N (addN i0 (i + 2))).toNat ≤ 9223372036854775807 := by have := (nsf N (addN i0 (i + 2))).toNat_lt; omega
  exact At.run rfl [(2020005, .val (.v (.bool false)))] ⟨trivial, trivial⟩ [.n, .n, .n, .n] (tm2 := (tmz1 p i0 n c (z + 1) tx ta ct (i + 3) (m + 1) 19003 dp)) (rows2 := [(0, numRow N), (1, txtRow tx), (19003, ⟨[.fnc (appF (ndc L) m fun y => chunkF [stv P, .int .i64 4, stv []] 3 1 (addN 0 y)) 3 (m + 1)], true, some (55, 3)⟩), (2000, nmRow)])
    (ob := [[inI (z + 1)], [false = false, false = false, false = false], o6 m, [vB (decide (dp < 3)) false, false = false, inI ((i : Int) + 3)]].flatten) (td := (lp Try.f28 0)) (by kernel_rfl) (all_flat ⟨⟨⟨by omega, by omega⟩, trivial⟩, ⟨rfl, rfl, rfl, trivial⟩, o6_ok hL, ⟨by show TV.v _ = TV.v _; rw [decide_eq_false (by omega)], rfl, ⟨by omega, by omega⟩, trivial⟩, trivial⟩) rfl rfl (by intro h; cases h) hK
set_option maxRecDepth 100000 in
theorem tail1_4d (N : List UInt8) (tx : List (List UInt8)) (ta : Option Addr) (ct : Nat) (p : List UInt8) (i0 n c k i : Nat) (L : List Nd) (m : Nat) (dp : Int) (w : World) (ρ : Env) (wr : List Nat) (Q : Exit → Act → World → Prop) (h : i + 2 < n) (hn : n ≤ 9223372036854775807) (hN : i0 + n ≤ N.length) (hcn : n ≤ c) (hL : m < 14) (hi18 : i ≤ 18) (z : Int) (hz : 0 ≤ z ∧ z < 6) (P : List UInt8) (hdp : dp < 3) (hK : At Try.prog w ⟨wr, ρ, []⟩ Try.f28.ntmps [] (rp Try.f28 20) Q [(14, .s (.lf (.ptr 9013 0 0 0 0))), (0, .s (.lf (.sl 19003 0 0 3 (m + 1) none))), (1, .v (stv p)), (2, .s (.lf (.sl 0 0 i0 1 n (some c)))), (3, (TV.s (.lf (.sl 1 0 0 1 tx.length (some ct))))), (4, .int .i64 dp), (12, .int .i64 (z + 1)), (13, .int .i64 i)] [(0, numRow N), (1, txtRow tx), (19003, ⟨[.fnc (appF (ndc L) m fun y => chunkF [stv P, .int .i64 4, stv []] 3 1 (addN 0 y)) 3 (m + 1)], true, some (55, 3)⟩), (9013, ⟨[.one (.v (stv P)), .one (.v (.int .i64 4)), .one (.v (stv []))], true, none⟩)]) :
    At Try.prog w ⟨wr, ρ, []⟩ Try.f28.ntmps [] (rp Try.f28 11) Q ((14, .s (.lf (.ptr 9013 0 0 0 0))) :: tmz1 p i0 n c z tx ta ct i m 2904 dp) ((9013, ⟨[.one (.v (stv P)), .one (.v (.int .i64 4)), .one (.v (stv []))], true, none⟩) :: rowsd1 N tx L m 2904) := by
  have hC0 : (nsf N (addN i0 (i + 2))).toNat ≤ 9223372036854775807 := by have := (nsf N (addN i0 (i + 2))).toNat_lt; omega
  exact At.run rfl [(2020005, .val (.v (.bool true))), (2021000, .val (.tup []))] ⟨trivial, trivial, trivial⟩ [.n, .n, .n, .y] (tm2 := [(14, .s (.lf (.ptr 9013 0 0 0 0))), (0, .s (.lf (.sl 19003 0 0 3 (m + 1) none))), (1, .v (stv p)), (2, .s (.lf (.sl 0 0 i0 1 n (some c)))), (3, (TV.s (.lf (.sl 1 0 0 1 tx.length (some ct))))), (4, .int .i64 dp), (12, .int .i64 (z + 1)), (13, .int .i64 i)]) (rows2 := [(0, numRow N), (1, txtRow tx), (19003, ⟨[.fnc (appF (ndc L) m fun y => chunkF [stv P, .int .i64 4, stv []] 3 1 (addN 0 y)) 3 (m + 1)], true, some (55, 3)⟩), (9013, ⟨[.one (.v (stv P)), .one (.v (.int .i64 4)), .one (.v (stv []))], true, none⟩)])
    (ob := [[inI (z + 1)], [false = false, false = false, false = false], o6 m, [vB (decide (dp < 3)) true, true = true]].flatten) (td := (rp Try.f28 20)) (by kernel_rfl) (all_flat ⟨⟨⟨by omega, by omega⟩, trivial⟩, ⟨rfl, rfl, rfl, trivial⟩, o6_ok hL, ⟨by show TV.v _ = TV.v _; rw [decide_eq_true (by omega)], rfl, trivial⟩, trivial⟩) rfl rfl (by intro h; cases h) hK
def DirOk0 (N : List UInt8) (tx : List (List UInt8)) (ta : Option Addr) (ct dl : Nat) : Prop := ∀ (l : List Nd) (m : Nat) (_ : m = l.length) (_ : m ≤ 16) (p : List UInt8) (_ : p.length + 10 * dl ≤ 900000) (i0 n c : Nat) (_ : i0 + n ≤ N.length) (_ : n ≤ c) (_ : c ≤ 140737488355328) (f : Nat) (_ : n < f) (ρ : Env) (w : World)
  (_ : ∀ q ∈ ([(0, numRow N), (2, rowN l m)] : List (Nat × Row)), RowAt ρ q.1 q.2 w) (_ : PreDs ρ [(0, numRow N), (2, rowN l m)]),
  Calls Try.prog 28 #[(TV.s (.lf (.sl 2 0 0 3 m none))).val ρ, strV p, (TV.s (.lf (.sl 0 0 i0 1 n (some c)))).val ρ, (TV.v (.slice ta 0 ct)).val ρ, .int .i64 (3 - (dl : Int))] w (LOut w (ρ 2).1 (l ++ dirL tx f dl p ((N.drop i0).take n) 0 m) (m + (dirL tx f dl p ((N.drop i0).take n) 0 m).length))
theorem hDir_ok0 (R id : Nat) (hR : R ≠ 0 ∧ R ≠ 1) {N : List UInt8} {tx : List (List UInt8)} {ta : Option Addr} {ct d : Nat} (h : DirOk0 N tx ta ct d) (l : List Nd) (m : Nat) (hm : m = l.length) (hm2 : m ≤ 16) (p : List UInt8) (hp : p.length + 10 * d ≤ 900000) (i0 n c : Nat) (hi : i0 + n ≤ N.length) (hc : n ≤ c) (hc2 : c ≤ 140737488355328) (f : Nat) (hf : n < f) :
    HintOk Try.prog id (hDir R 28 id (TV.v (.slice ta 0 ct)) [] N l (l ++ dirL tx f d p ((N.drop i0).take n) 0 m) m (m + (dirL tx f d p ((N.drop i0).take n) 0 m).length) p i0 n c (3 - (d : Int))) :=
  hDir_of ent46 fun ρ w hr hd => by
    obtain ⟨h1, h2⟩ := pre_mv0 (tx := tx) hR hr hd
    exact h l m hm hm2 p hp i0 n c hi hc hc2 f hf (atR R ρ) w h1 h2
abbrev tmz0 (p : List UInt8) (i0 n c : Nat) (z : Int) (tx : List (List UInt8)) (ta : Option Addr) (ct i m R : Nat) (dp : Int) : List (Nat × TV) := [(0, .s (.lf (.sl R 0 0 3 m none))), (1, .v (stv p)), (2, .s (.lf (.sl 0 0 i0 1 n (some c)))), (3, (TV.v (.slice ta 0 ct))), (4, .int .i64 dp), (11, .s (.lf (.sl 2000 0 0 1 6 none))), (12, .int .i64 z), (13, .int .i64 i)]
set_option maxRecDepth 100000 in
theorem head0_0 (N : List UInt8) (tx : List (List UInt8)) (ta : Option Addr) (ct : Nat) (p : List UInt8) (i0 n c k i : Nat) (L : List Nd) (m : Nat) (dp : Int) (w : World) (ρ : Env) (wr : List Nat) (Q : Exit → Act → World → Prop) (q : Nat) (h : i + 2 < n) (hn : n ≤ 9223372036854775807) (hN : i0 + n ≤ N.length) (hk : k < 6) (hL : m < 14) (hk2 : (((k : Int) + ((nsf N (addN i0 i)).toNat : Int) % 3)).toNat < 6) (hq : 1 + ((nsf N (addN i0 (i + 1))).toNat : Int) % 4 = (q : Int)) (hpe : p = []) (hpl : p.length ≤ 1000000) (hK : At Try.prog w ⟨wr, ρ, []⟩ Try.f28.ntmps [] (rp Try.f28 11) Q ((14, .s (.lf (.ptr 9013 0 0 0 0))) :: tmz0 p i0 n c ((k : Int) + ((nsf N (addN i0 i)).toNat : Int) % 3) tx ta ct i m 2904 dp) ((9013, ⟨[.one (.v (stv (nmL ((((k : Int) + ((nsf N (addN i0 i)).toNat : Int) % 3)).toNat)))), .one (.v (.int .i64 q)), .one (.v (stv []))], true, none⟩) :: rowsd0 N tx L m 2904)) :
    At Try.prog w ⟨wr, ρ, []⟩ Try.f28.ntmps [] (lp Try.f28 0) Q (tmd0 p i0 n c k tx ta ct i m 2904 dp) (rowsd0 N tx L m 2904) := by
  have hA0 := (nsf N (addN i0 i)).toNat_lt
  exact At.run rfl [(2005004, .val (.v (.bool true))), (2005009, .val (.v (.bool true))), (2005014, .val (.v (.bool true))), (2009011, .val (.int .i64 q)), (2012000, .val (.tup []))] ⟨trivial, trivial, trivial, trivial, trivial, trivial⟩ [.y, .n, .n] (tm2 := ((14, .s (.lf (.ptr 9013 0 0 0 0))) :: tmz0 p i0 n c ((k : Int) + ((nsf N (addN i0 i)).toNat : Int) % 3) tx ta ct i m 2904 dp)) (rows2 := ((9013, ⟨[.one (.v (stv (nmL ((((k : Int) + ((nsf N (addN i0 i)).toNat : Int) % 3)).toNat)))), .one (.v (.int .i64 q)), .one (.v (stv []))], true, none⟩) :: rowsd0 N tx L m 2904))
    (ob := [o1 N i0 n k i m, o2 N i0 n k i q, o3n p].flatten) (td := (rp Try.f28 11)) (by kernel_rfl) (all_flat ⟨o1_ok h hn hN hk hL, o2_ok h hn hN hk2 hq, ⟨by rw [hpe]; rfl, trivial⟩, trivial⟩) rfl rfl (by intro h; cases h) hK
set_option maxRecDepth 100000 in
theorem head0_1 (N : List UInt8) (tx : List (List UInt8)) (ta : Option Addr) (ct : Nat) (p : List UInt8) (i0 n c k i : Nat) (L : List Nd) (m : Nat) (dp : Int) (w : World) (ρ : Env) (wr : List Nat) (Q : Exit → Act → World → Prop) (q : Nat) (h : i + 2 < n) (hn : n ≤ 9223372036854775807) (hN : i0 + n ≤ N.length) (hk : k < 6) (hL : m < 14) (hk2 : (((k : Int) + ((nsf N (addN i0 i)).toNat : Int) % 3)).toNat < 6) (hq : 1 + ((nsf N (addN i0 (i + 1))).toNat : Int) % 4 = (q : Int)) (hpe : p ≠ []) (hpl : p.length ≤ 1000000) (hK : At Try.prog w ⟨wr, ρ, []⟩ Try.f28.ntmps [] (rp Try.f28 11) Q ((14, .s (.lf (.ptr 9013 0 0 0 0))) :: tmz0 p i0 n c ((k : Int) + ((nsf N (addN i0 i)).toNat : Int) % 3) tx ta ct i m 2904 dp) ((9013, ⟨[.one (.v (stv ((p ++ [47]) ++ nmL ((((k : Int) + ((nsf N (addN i0 i)).toNat : Int) % 3)).toNat)))), .one (.v (.int .i64 q)), .one (.v (stv []))], true, none⟩) :: rowsd0 N tx L m 2904)) :
    At Try.prog w ⟨wr, ρ, []⟩ Try.f28.ntmps [] (lp Try.f28 0) Q (tmd0 p i0 n c k tx ta ct i m 2904 dp) (rowsd0 N tx L m 2904) := by
  have hA0 := (nsf N (addN i0 i)).toNat_lt
  exact At.run rfl [(2005004, .val (.v (.bool true))), (2005009, .val (.v (.bool true))), (2005014, .val (.v (.bool true))), (2009011, .val (.int .i64 q)), (2012000, .val (.tup []))] ⟨trivial, trivial, trivial, trivial, trivial, trivial⟩ [.y, .n, .y] (tm2 := ((14, .s (.lf (.ptr 9013 0 0 0 0))) :: tmz0 p i0 n c ((k : Int) + ((nsf N (addN i0 i)).toNat : Int) % 3) tx ta ct i m 2904 dp)) (rows2 := ((9013, ⟨[.one (.v (stv ((p ++ [47]) ++ nmL ((((k : Int) + ((nsf N (addN i0 i)).toNat : Int) % 3)).toNat)))), .one (.v (.int .i64 q)), .one (.v (stv []))], true, none⟩) :: rowsd0 N tx L m 2904))
    (ob := [o1 N i0 n k i m, o2 N i0 n k i q, o3y p (nmL ((((k : Int) + ((nsf N (addN i0 i)).toNat : Int) % 3)).toNat)) ((k : Int) + ((nsf N (addN i0 i)).toNat : Int) % 3) ((((k : Int) + ((nsf N (addN i0 i)).toNat : Int) % 3)).toNat)].flatten) (td := (rp Try.f28 11)) (by kernel_rfl) (all_flat ⟨o1_ok h hn hN hk hL, o2_ok h hn hN hk2 hq, o3y_ok hpe hpl (nm_len _) (by omega) hk2, trivial⟩) rfl rfl (by intro h; cases h) hK
set_option maxRecDepth 100000 in
theorem tail0_1 (N : List UInt8) (tx : List (List UInt8)) (ta : Option Addr) (ct : Nat) (p : List UInt8) (i0 n c k i : Nat) (L : List Nd) (m : Nat) (dp : Int) (w : World) (ρ : Env) (wr : List Nat) (Q : Exit → Act → World → Prop) (h : i + 2 < n) (hn : n ≤ 9223372036854775807) (hN : i0 + n ≤ N.length) (hcn : n ≤ c) (hL : m < 14) (hi18 : i ≤ 18) (z : Int) (hz : 0 ≤ z ∧ z < 6) (P : List UInt8) (hT : TxSrc (TV.v (.slice ta 0 ct)) [] tx) (hS : (textL tx (nsf N (addN i0 (i + 2))).toNat).length ≤ 300) (hK : At Try.prog w ⟨wr, ρ, []⟩ Try.f28.ntmps [] (lp Try.f28 0) Q (tmz0 p i0 n c (z + 1) tx ta ct (i + 3) (m + 1) 19003 dp) [(0, numRow N), (19003, ⟨[.fnc (appF (ndc L) m fun y => chunkF [stv P, .int .i64 1, stv (textL tx (nsf N (addN i0 (i + 2))).toNat ++ dB N i0 i)] 3 1 (addN 0 y)) 3 (m + 1)], true, some (55, 3)⟩), (2000, nmRow)]) :
    At Try.prog w ⟨wr, ρ, []⟩ Try.f28.ntmps [] (rp Try.f28 11) Q ((14, .s (.lf (.ptr 9013 0 0 0 0))) :: tmz0 p i0 n c z tx ta ct i m 2904 dp) ((9013, ⟨[.one (.v (stv P)), .one (.v (.int .i64 1)), .one (.v (stv []))], true, none⟩) :: rowsd0 N tx L m 2904) := by
  have hC0 : (nsf N (addN i0 (i + 2))).toNat ≤ 9223372036854775807 := by have := (nsf N (addN i0 (i + 2))).toNat_lt; omega
  exact At.run rfl [(16007, hText (TV.v (.slice ta 0 ct)) [] (nsf N (addN i0 (i + 2))).toNat (textL tx (nsf N (addN i0 (i + 2))).toNat)), (2016013, .val (.v (stv (dB N i0 i))))] ⟨hText_ok _ hT _ hC0, trivial, trivial⟩ [.y, .y, .n] (tm2 := (tmz0 p i0 n c (z + 1) tx ta ct (i + 3) (m + 1) 19003 dp)) (rows2 := [(0, numRow N), (19003, ⟨[.fnc (appF (ndc L) m fun y => chunkF [stv P, .int .i64 1, stv (textL tx (nsf N (addN i0 (i + 2))).toNat ++ dB N i0 i)] 3 1 (addN 0 y)) 3 (m + 1)], true, some (55, 3)⟩), (2000, nmRow)])
    (ob := [[inI (z + 1)], [true = true, true = true], o5 N i0 n i, qL (hText (TV.v (.slice ta 0 ct)) [] (nsf N (addN i0 (i + 2))).toNat (textL tx (nsf N (addN i0 (i + 2))).toNat)), o5b N (textL tx (nsf N (addN i0 (i + 2))).toNat) i0 c i, o6 m, [false = false, inI ((i : Int) + 3)]].flatten) (td := (lp Try.f28 0)) (by kernel_rfl) (all_flat ⟨⟨⟨by omega, by omega⟩, trivial⟩, ⟨rfl, rfl, trivial⟩, o5_ok h hn hN, all_qL _, o5b_ok h hn hN hcn hS, o6_ok hL, ⟨rfl, ⟨by omega, by omega⟩, trivial⟩, trivial⟩) rfl rfl (by intro h; cases h) hK
set_option maxRecDepth 100000 in
theorem tail0_2 (N : List UInt8) (tx : List (List UInt8)) (ta : Option Addr) (ct : Nat) (p : List UInt8) (i0 n c k i : Nat) (L : List Nd) (m : Nat) (dp : Int) (w : World) (ρ : Env) (wr : List Nat) (Q : Exit → Act → World → Prop) (h : i + 2 < n) (hn : n ≤ 9223372036854775807) (hN : i0 + n ≤ N.length) (hcn : n ≤ c) (hL : m < 14) (hi18 : i ≤ 18) (z : Int) (hz : 0 ≤ z ∧ z < 6) (P : List UInt8) (hT : TxSrc (TV.v (.slice ta 0 ct)) [] tx) (hS : (textL tx (nsf N (addN i0 (i + 2))).toNat).length ≤ 300) (hK : At Try.prog w ⟨wr, ρ, []⟩ Try.f28.ntmps [] (lp Try.f28 0) Q (tmz0 p i0 n c (z + 1) tx ta ct (i + 3) (m + 1) 19003 dp) [(0, numRow N), (19003, ⟨[.fnc (appF (ndc L) m fun y => chunkF [stv P, .int .i64 2, stv (textL tx (nsf N (addN i0 (i + 2))).toNat ++ dB N i0 i)] 3 1 (addN 0 y)) 3 (m + 1)], true, some (55, 3)⟩), (2000, nmRow)]) :
    At Try.prog w ⟨wr, ρ, []⟩ Try.f28.ntmps [] (rp Try.f28 11) Q ((14, .s (.lf (.ptr 9013 0 0 0 0))) :: tmz0 p i0 n c z tx ta ct i m 2904 dp) ((9013, ⟨[.one (.v (stv P)), .one (.v (.int .i64 2)), .one (.v (stv []))], true, none⟩) :: rowsd0 N tx L m 2904) := by
  have hC0 : (nsf N (addN i0 (i + 2))).toNat ≤ 9223372036854775807 := by have := (nsf N (addN i0 (i + 2))).toNat_lt; omega
  exact At.run rfl [(16007, hText (TV.v (.slice ta 0 ct)) [] (nsf N (addN i0 (i + 2))).toNat (textL tx (nsf N (addN i0 (i + 2))).toNat)), (2016013, .val (.v (stv (dB N i0 i))))] ⟨hText_ok _ hT _ hC0, trivial, trivial⟩ [.n, .y, .n] (tm2 := (tmz0 p i0 n c (z + 1) tx ta ct (i + 3) (m + 1) 19003 dp)) (rows2 := [(0, numRow N), (19003, ⟨[.fnc (appF (ndc L) m fun y => chunkF [stv P, .int .i64 2, stv (textL tx (nsf N (addN i0 (i + 2))).toNat ++ dB N i0 i)] 3 1 (addN 0 y)) 3 (m + 1)], true, some (55, 3)⟩), (2000, nmRow)])
    (ob := [[inI (z + 1)], [false = false, true = true], o5 N i0 n i, qL (hText (TV.v (.slice ta 0 ct)) [] (nsf N (addN i0 (i + 2))).toNat (textL tx (nsf N (addN i0 (i + 2))).toNat)), o5b N (textL tx (nsf N (addN i0 (i + 2))).toNat) i0 c i, o6 m, [false = false, inI ((i : Int) + 3)]].flatten) (td := (lp Try.f28 0)) (by kernel_rfl) (all_flat ⟨⟨⟨by omega, by omega⟩, trivial⟩, ⟨rfl, rfl, trivial⟩, o5_ok h hn hN, all_qL _, o5b_ok h hn hN hcn hS, o6_ok hL, ⟨rfl, ⟨by omega, by omega⟩, trivial⟩, trivial⟩) rfl rfl (by intro h; cases h) hK
set_option maxRecDepth 100000 in
theorem tail0_3 (N : List UInt8) (tx : List (List UInt8)) (ta : Option Addr) (ct : Nat) (p : List UInt8) (i0 n c k i : Nat) (L : List Nd) (m : Nat) (dp : Int) (w : World) (ρ : Env) (wr : List Nat) (Q : Exit → Act → World → Prop) (h : i + 2 < n) (hn : n ≤ 9223372036854775807) (hN : i0 + n ≤ N.length) (hcn : n ≤ c) (hL : m < 14) (hi18 : i ≤ 18) (z : Int) (hz : 0 ≤ z ∧ z < 6) (P : List UInt8) (hK : At Try.prog w ⟨wr, ρ, []⟩ Try.f28.ntmps [] (lp Try.f28 0) Q (tmz0 p i0 n c (z + 1) tx ta ct (i + 3) (m + 1) 19003 dp) [(0, numRow N), (19003, ⟨[.fnc (appF (ndc L) m fun y => chunkF [stv P, .int .i64 3, stv ([116, 111, 47] ++ textL nmsL (nsf N (addN i0 (i + 2))).toNat)] 3 1 (addN 0 y)) 3 (m + 1)], true, some (55, 3)⟩), (2000, nmRow)]) :
    At Try.prog w ⟨wr, ρ, []⟩ Try.f28.ntmps [] (rp Try.f28 11) Q ((14, .s (.lf (.ptr 9013 0 0 0 0))) :: tmz0 p i0 n c z tx ta ct i m 2904 dp) ((9013, ⟨[.one (.v (stv P)), .one (.v (.int .i64 3)), .one (.v (stv []))], true, none⟩) :: rowsd0 N tx L m 2904) := by
  have hC0 : (nsf N (addN i0 (i + 2))).toNat ≤ 9223372036854775807 := by have := (nsf N (addN i0 (i + 2))).toNat_lt; omega
  have hS3 : (textL nmsL (nsf N (addN i0 (i + 2))).toNat).length ≤ 3 := by rw [textL_nms]; exact nm_len _
  exact At.run rfl [(18007, hText (.s (.lf (.sl 2000 0 0 1 6 none))) [(2000, nmRow)] (nsf N (addN i0 (i + 2))).toNat (textL nmsL (nsf N (addN i0 (i + 2))).toNat))] ⟨hText_ok _ txs_nms _ hC0, trivial⟩ [.n, .n, .y, .n] (tm2 := (tmz0 p i0 n c (z + 1) tx ta ct (i + 3) (m + 1) 19003 dp)) (rows2 := [(0, numRow N), (19003, ⟨[.fnc (appF (ndc L) m fun y => chunkF [stv P, .int .i64 3, stv ([116, 111, 47] ++ textL nmsL (nsf N (addN i0 (i + 2))).toNat)] 3 1 (addN 0 y)) 3 (m + 1)], true, some (55, 3)⟩), (2000, nmRow)])
    (ob := [[inI (z + 1)], [false = false, false = false, true = true], o5 N i0 n i, qL (hText (.s (.lf (.sl 2000 0 0 1 6 none))) [(2000, nmRow)] (nsf N (addN i0 (i + 2))).toNat (textL nmsL (nsf N (addN i0 (i + 2))).toNat)), [(3 : Int) + ((textL nmsL (nsf N (addN i0 (i + 2))).toNat).length : Int) ≤ 9223372036854775807], o6 m, [false = false, inI ((i : Int) + 3)]].flatten) (td := (lp Try.f28 0)) (by kernel_rfl) (all_flat ⟨⟨⟨by omega, by omega⟩, trivial⟩, ⟨rfl, rfl, rfl, trivial⟩, o5_ok h hn hN, all_qL _, ⟨by omega, trivial⟩, o6_ok hL, ⟨rfl, ⟨by omega, by omega⟩, trivial⟩, trivial⟩) rfl rfl (by intro h; cases h) hK
set_option maxRecDepth 100000 in
theorem tail0_4 (N : List UInt8) (tx : List (List UInt8)) (ta : Option Addr) (ct : Nat) (p : List UInt8) (i0 n c k i : Nat) (L : List Nd) (m : Nat) (dp : Int) (w : World) (ρ : Env) (wr : List Nat) (Q : Exit → Act → World → Prop) (h : i + 2 < n) (hn : n ≤ 9223372036854775807) (hN : i0 + n ≤ N.length) (hcn : n ≤ c) (hL : m < 14) (hi18 : i ≤ 18) (z : Int) (hz : 0 ≤ z ∧ z < 6) (P : List UInt8) (hdp : 3 ≤ dp) (hK : At Try.prog w ⟨wr, ρ, []⟩ Try.f28.ntmps [] (lp Try.f28 0) Q (tmz0 p i0 n c (z + 1) tx ta ct (i + 3) (m + 1) 19003 dp) [(0, numRow N), (19003, ⟨[.fnc (appF (ndc L) m fun y => chunkF [stv P, .int .i64 4, stv []] 3 1 (addN 0 y)) 3 (m + 1)], true, some (55, 3)⟩), (2000, nmRow)]) :
    At Try.prog w ⟨wr, ρ, []⟩ Try.f28.ntmps [] (rp Try.f28 11) Q ((14, .s (.lf (.ptr 9013 0 0 0 0))) :: tmz0 p i0 n c z tx ta ct i m 2904 dp) ((9013, ⟨[.one (.v (stv P)), .one (.v (.int .i64 4)), .one (.v (stv []))], true, none⟩) :: rowsd0 N tx L m 2904) := by
  have hC0 : (nsf N (addN i0 (i + 2))).toNat ≤ 9223372036854775807 := by have := (nsf N (addN i0 (i + 2))).toNat_lt; omega
  exact At.run rfl [(2020005, .val (.v (.bool false)))] ⟨trivial, trivial⟩ [.n, .n, .n, .n] (tm2 := (tmz0 p i0 n c (z + 1) tx ta ct (i + 3) (m + 1) 19003 dp)) (rows2 := [(0, numRow N), (19003, ⟨[.fnc (appF (ndc L) m fun y => chunkF [stv P, .int .i64 4, stv []] 3 1 (addN 0 y)) 3 (m + 1)], true, some (55, 3)⟩), (2000, nmRow)])
    (ob := [[inI (z + 1)], [false = false, false = false, false = false], o6 m, [vB (decide (dp < 3)) false, false = false, inI ((i : Int) + 3)]].flatten) (td := (lp Try.f28 0)) (by kernel_rfl) (all_flat ⟨⟨⟨by omega, by omega⟩, trivial⟩, ⟨rfl, rfl, rfl, trivial⟩, o6_ok hL, ⟨by show TV.v _ = TV.v _; rw [decide_eq_false (by omega)], rfl, ⟨by omega, by omega⟩, trivial⟩, trivial⟩) rfl rfl (by intro h; cases h) hK
set_option maxRecDepth 100000 in
theorem tail0_4d (N : List UInt8) (tx : List (List UInt8)) (ta : Option Addr) (ct : Nat) (p : List UInt8) (i0 n c k i : Nat) (L : List Nd) (m : Nat) (dp : Int) (w : World) (ρ : Env) (wr : List Nat) (Q : Exit → Act → World → Prop) (h : i + 2 < n) (hn : n ≤ 9223372036854775807) (hN : i0 + n ≤ N.length) (hcn : n ≤ c) (hL : m < 14) (hi18 : i ≤ 18) (z : Int) (hz : 0 ≤ z ∧ z < 6) (P : List UInt8) (hdp : dp < 3) (hK : At Try.prog w ⟨wr, ρ, []⟩ Try.f28.ntmps [] (rp Try.f28 20) Q [(14, .s (.lf (.ptr 9013 0 0 0 0))), (0, .s (.lf (.sl 19003 0 0 3 (m + 1) none))), (1, .v (stv p)), (2, .s (.lf (.sl 0 0 i0 1 n (some c)))), (3, (TV.v (.slice ta 0 ct))), (4, .int .i64 dp), (12, .int .i64 (z + 1)), (13, .int .i64 i)] [(0, numRow N), (19003, ⟨[.fnc (appF (ndc L) m fun y => chunkF [stv P, .int .i64 4, stv []] 3 1 (addN 0 y)) 3 (m + 1)], true, some (55, 3)⟩), (9013, ⟨[.one (.v (stv P)), .one (.v (.int .i64 4)), .one (.v (stv []))], true, none⟩)]) :
    At Try.prog w ⟨wr, ρ, []⟩ Try.f28.ntmps [] (rp Try.f28 11) Q ((14, .s (.lf (.ptr 9013 0 0 0 0))) :: tmz0 p i0 n c z tx ta ct i m 2904 dp) ((9013, ⟨[.one (.v (stv P)), .one (.v (.int .i64 4)), .one (.v (stv []))], true, none⟩) :: rowsd0 N tx L m 2904) := by
  have hC0 : (nsf N (addN i0 (i + 2))).toNat ≤ 9223372036854775807 := by have := (nsf N (addN i0 (i + 2))).toNat_lt; omega
  exact At.run rfl [(2020005, .val (.v (.bool true))), (2021000, .val (.tup []))] ⟨trivial, trivial, trivial⟩ [.n, .n, .n, .y] (tm2 := [(14, .s (.lf (.ptr 9013 0 0 0 0))), (0, .s (.lf (.sl 19003 0 0 3 (m + 1) none))), (1, .v (stv p)), (2, .s (.lf (.sl 0 0 i0 1 n (some c)))), (3, (TV.v (.slice ta 0 ct))), (4, .int .i64 dp), (12, .int .i64 (z + 1)), (13, .int .i64 i)]) (rows2 := [(0, numRow N), (19003, ⟨[.fnc (appF (ndc L) m fun y => chunkF [stv P, .int .i64 4, stv []] 3 1 (addN 0 y)) 3 (m + 1)], true, some (55, 3)⟩), (9013, ⟨[.one (.v (stv P)), .one (.v (.int .i64 4)), .one (.v (stv []))], true, none⟩)])
    (ob := [[inI (z + 1)], [false = false, false = false, false = false], o6 m, [vB (decide (dp < 3)) true, true = true]].flatten) (td := (rp Try.f28 20)) (by kernel_rfl) (all_flat ⟨⟨⟨by omega, by omega⟩, trivial⟩, ⟨rfl, rfl, rfl, trivial⟩, o6_ok hL, ⟨by show TV.v _ = TV.v _; rw [decide_eq_true (by omega)], rfl, trivial⟩, trivial⟩) rfl rfl (by intro h; cases h) hK
end
end Go.Proofs.Ytglipljilcdboaa
