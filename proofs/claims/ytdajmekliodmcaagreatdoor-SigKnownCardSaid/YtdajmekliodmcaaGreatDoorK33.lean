/- Several texts, one behind the other; each says by itself what it proves, and on what conditions. -/
import Derived.Test.YtdajmekliodmcaaGreatDoorK32
import Derived.Deep.RegionLaw
import Derived.BigRegion
import Derived.Shelf.Abstract
import Derived.Lib.TrimByte
namespace Go.Proofs.YtdajmekliodmcaaGreatDoor
open Go.Proofs.YtdajmekliodmcaaGreatDoor.P8
set_option linter.unusedVariables false
set_option linter.unusedSimpArgs false
def dv (t : Nat) : List Nat → Nat
  | [] => 0
  | d :: l => d + 2 ^ t * dv t l
theorem dv_append (t : Nat) : ∀ l m : List Nat, dv t (l ++ m) = dv t l + 2 ^ (t * l.length) * dv t m
  | [], m => by simp [dv]
  | d :: l, m => by
    show d + 2 ^ t * dv t (l ++ m) = d + 2 ^ t * dv t l + 2 ^ (t * (l.length + 1)) * dv t m
    have e : 2 ^ (t * (l.length + 1)) * dv t m = 2 ^ t * (2 ^ (t * l.length) * dv t m) := by rw [Nat.mul_succ, Nat.pow_add, Nat.mul_comm (2 ^ (t * l.length)), Nat.mul_assoc]
    rw [dv_append t l m, Nat.mul_add, e]
    omega
theorem dv_snoc (t : Nat) (l : List Nat) (x : Nat) : dv t (l ++ [x]) = dv t l + 2 ^ (t * l.length) * x := by
  rw [dv_append]; simp [dv]
theorem dv_emit (t h : Nat) : ∀ k, dv t ((List.range k).map fun i => h / 2 ^ (t * i) % 2 ^ t) + 2 ^ (t * k) * (h / 2 ^ (t * k)) = h
  | 0 => by simp [dv]
  | k + 1 => by
    have ih := dv_emit t h k
    rw [List.range_succ, List.map_append, List.map_singleton, dv_snoc]
    rw [List.length_map, List.length_range, Nat.mul_succ t k, Nat.pow_add]
    have h2 : h / (2 ^ (t * k) * 2 ^ t) = h / 2 ^ (t * k) / 2 ^ t := (Nat.div_div_eq_div_mul _ _ _).symm
    rw [h2]
    have h3 := Nat.mod_add_div (h / 2 ^ (t * k)) (2 ^ t)
    rw [Nat.mul_assoc, Nat.add_assoc, ← Nat.mul_add, h3]
    exact ih
structure LoInv (f t : Nat) (l : List Nat) (s : Nat × Nat × List Nat) : Prop where
  h : s.1 < 2 ^ s.2.1
  n : s.2.1 < t
  len : t * s.2.2.length + s.2.1 = f * l.length
  val : dv t s.2.2 + 2 ^ (t * s.2.2.length) * s.1 = dv f l
  lt : ∀ x ∈ s.2.2, x < 2 ^ t
theorem or_shift (h n x : Nat) (hh : h < 2 ^ n) (hn : x * 2 ^ n < 18446744073709551616) : h ||| x * 2 ^ n % 18446744073709551616 = h + 2 ^ n * x := by
  rw [Nat.mod_eq_of_lt hn, Nat.or_comm, Nat.mul_comm x, ← Nat.two_pow_add_eq_or_of_lt hh]
  omega
theorem LoInv.step {f t : Nat} {l : List Nat} {s : Nat × Nat × List Nat} (hs : LoInv f t l s) (x : Nat) (hx : x < 2 ^ f) (ht8 : t ≤ 8) (hf8 : f ≤ 8) : LoInv f t (l ++ [x]) (loStep f t s x) := by
  obtain ⟨h, n, out⟩ := s
  obtain ⟨h1, h2, h3, h4, h5⟩ := hs
  simp only at h1 h2 h3 h4 h5
  have hb : x * 2 ^ n < 18446744073709551616 := by
    have e1 : x * 2 ^ n < 2 ^ f * 2 ^ n := Nat.mul_lt_mul_of_pos_right hx (Nat.two_pow_pos n)
    rw [← Nat.pow_add] at e1
    exact Nat.lt_of_lt_of_le e1 (Nat.pow_le_pow_right (by decide) (by omega : f + n ≤ 64))
  have hor := or_shift h n x h1 hb
  obtain ⟨q, hq⟩ : ∃ q, q = h + 2 ^ n * x := ⟨_, rfl⟩
  have hql : q < 2 ^ (n + f) := by
    rw [hq, Nat.pow_add]
    have e1 : 2 ^ n * (x + 1) ≤ 2 ^ n * 2 ^ f := Nat.mul_le_mul_left _ hx
    rw [Nat.mul_succ] at e1
    omega
  have hm := Nat.div_add_mod (n + f) t
  have ht : 0 < t := by omega
  unfold loStep
  simp only [hor, ← hq]
  refine ⟨?_, Nat.mod_lt _ ht, ?_, ?_, ?_⟩
  · show q / 2 ^ (t * ((n + f) / t)) < 2 ^ ((n + f) % t)
    apply Nat.div_lt_of_lt_mul
    rw [← Nat.pow_add, hm]
    exact hql
  · show t * (out ++ loEmit t q (n + f)).length + (n + f) % t = f * (l ++ [x]).length
    rw [List.length_append, loEmit_length, List.length_append, List.length_singleton, Nat.mul_add, Nat.mul_add, Nat.mul_one]
    omega
  · show dv t (out ++ loEmit t q (n + f)) + 2 ^ (t * (out ++ loEmit t q (n + f)).length) * (q / 2 ^ (t * ((n + f) / t))) = dv f (l ++ [x])
    rw [dv_append, dv_snoc, List.length_append, loEmit_length, Nat.mul_add, Nat.pow_add, Nat.mul_assoc, Nat.add_assoc, ← Nat.mul_add]
    have e := dv_emit t q ((n + f) / t)
    unfold loEmit
    rw [e, hq, Nat.mul_add, ← Nat.add_assoc, h4, ← Nat.mul_assoc, ← Nat.pow_add, h3]
  · intro y hy
    rcases List.mem_append.1 hy with h | h
    · exact h5 y h
    · obtain ⟨i, -, rfl⟩ := List.mem_map.1 h
      exact Nat.mod_lt _ (Nat.two_pow_pos t)
open Go.RowKit Go.Shelf
theorem natsOf_nb (s : ByteArray) : natsOf s = nb s.data.toList := rfl
theorem only_any (s : ByteArray) (so : Bool) (w : World) :
    Calls Tryz.prog 107 #[.string s, .bool so] w fun e w2 => e = .returned (.tuple #[.string (if so then s else ⟨#[]⟩), .bool so]) ∧ w2 = w := by
  cases so
  · go_enter Tryz.func107, Tryz.ntmps107
    go_wp2
    go_ret2
    exact ⟨rfl, rfl⟩
  · go_enter Tryz.func107, Tryz.ntmps107
    go_wp2
    go_ret2
    exact ⟨rfl, rfl⟩
theorem map_ofNat_nb : ∀ l : List UInt8, (nb l).map UInt8.ofNat = l
  | [] => rfl
  | c :: l => by
    show UInt8.ofNat c.toNat :: (nb l).map UInt8.ofNat = c :: l
    rw [map_ofNat_nb l]; simp
theorem toList_data (s : ByteArray) : s.toList = s.data.toList := ByteArray.toList_eq s
def told (o : Option (List UInt8)) : Value := match o with
  | some l => .tuple #[.string ⟨l.toArray⟩, .bool true]
  | none => .tuple #[.string ⟨#[]⟩, .bool false]
def by64B : ByteArray := ⟨#[65, 66, 67, 68, 69, 70, 71, 72, 73, 74, 75, 76, 77, 78, 79, 80, 81, 82, 83, 84, 85, 86, 87, 88, 89, 90, 97, 98, 99, 100, 101, 102, 103, 104, 105, 106, 107, 108, 109, 110, 111, 112, 113, 114, 115, 116, 117, 118, 119, 120, 121, 122, 48, 49, 50, 51, 52, 53, 54, 55, 56, 57, 43, 47]⟩
theorem by64_set : ∀ y, y < 64 → UInt8.ofNat (setAt by64B y) = six y := by decide +kernel
theorem by64_size : by64B.size = 64 := by decide +kernel
theorem map_six (ds : List Nat) (h : ∀ x ∈ ds, x < 64) : (ds.map (setAt by64B)).map UInt8.ofNat = ds.map six := by
  rw [List.map_map]
  apply List.map_congr_left
  intro x hx
  exact by64_set x (h x hx)
theorem sx_length (l : List UInt8) : (sx l).length ≤ (l.length + 2) / 3 * 4 := by
  induction l using sx.induct with
  | case1 a b c l ih => simp only [sx, List.length_cons]; omega
  | case2 a b => simp [sx]
  | case3 a => simp [sx]
  | case4 => simp [sx]
theorem b64_split (l : List UInt8) : b64 l = (sx l).map six ++ List.replicate ((l.length + 2) / 3 * 4 - (sx l).length) 61 := by
  induction l using sx.induct with
  | case1 a b c l ih =>
    have hl := sx_length l
    simp only [sx, b64, List.map_cons, List.cons_append, List.length_cons]
    rw [ih]
    have e : (l.length + 2) / 3 * 4 - (sx l).length = (l.length + 1 + 1 + 1 + 2) / 3 * 4 - ((sx l).length + 1 + 1 + 1 + 1) := by omega
    rw [e]
  | case2 a b => simp [sx, b64]
  | case3 a => simp [sx, b64]
  | case4 => rfl
theorem rep_one (n : Nat) : Lib.repeatL [61] n = List.replicate n 61 := by
  induction n with
  | zero => rfl
  | succ n ih => rw [List.replicate_succ, ← ih]; rfl
theorem cat_bytes (l : List UInt8) (m : Array UInt8) : ((⟨l.toArray⟩ : ByteArray) ++ ⟨m⟩) = ⟨(l ++ m.toList).toArray⟩ := by
  apply ByteArray.ext
  simp
set_option maxHeartbeats 1000000 in
theorem base64_any (s : ByteArray) (w : World) (hs : s.size ≤ 549755813888) :
    Calls Tryz.prog 60 #[.string s] w fun e w2 => e = .returned (.string ⟨(b64 s.data.toList).toArray⟩) ∧ Below w.heap.size w w2 := by
  obtain ⟨A, hA⟩ : ∃ A, A = s.size + 2 := ⟨_, rfl⟩
  obtain ⟨C, hC⟩ : ∃ C, C = A / 3 := ⟨_, rfl⟩
  obtain ⟨N, hN⟩ : ∃ N, N = C * 4 := ⟨_, rfl⟩
  have h8 : IntKind.i64.wrap ((s.size : Int) + 2) = (A : Int) := by rw [IntKind.wrap_i64]; omega
  have h4 : (A : Int) / 3 = (C : Int) := by omega
  have h5 : IntKind.i64.wrap ((C : Int) * 4) = (N : Int) := by rw [IntKind.wrap_i64]; omega
  have hNle : N ≤ 1099511627776 := by omega
  have hAb : A ≤ 549755813890 := by omega
  have hCb : C ≤ 549755813890 := by omega
  have hNm : (s.data.toList.length + 2) / 3 * 4 = N := by rw [hN, hC, hA]; simp
  obtain ⟨L, hL⟩ : ∃ L, L = (sx s.data.toList).map six := ⟨_, rfl⟩
  have hsl : (sx s.data.toList).length ≤ N := by rw [← hNm]; exact sx_length _
  have hLl : L.length ≤ N := by rw [hL, List.length_map]; exact hsl
  obtain ⟨D, hD⟩ : ∃ D, D = N - L.length := ⟨_, rfl⟩
  have hsub : IntKind.i64.wrap ((N : Int) - (L.length : Int)) = (D : Int) := by rw [IntKind.wrap_i64]; omega
  have hres : (((hiAll 8 6 (natsOf s)).map (setAt by64B)).take N).map UInt8.ofNat = L := by
    rw [natsOf_nb, all86, List.take_of_length_le (by rw [List.length_map]; exact hsl), map_six _ (sx_lt _), hL]
  have h64 : ∀ y ∈ hiAll 8 6 (natsOf s), y < by64B.size := by rw [natsOf_nb, by64_size, all86]; exact sx_lt _
  have hb : b64 s.data.toList = L ++ List.replicate D 61 := by rw [b64_split, hNm, ← hL, hD, hL, List.length_map]
  have hrep : ∀ w, Calls Tryz.prog 110 #[.string ⟨#[61]⟩, .int .i64 (D : Int)] w fun e w' => e = .returned (.string ⟨(List.replicate D 61).toArray⟩) ∧ Below w.heap.size w w' := fun w => by
    have := strings_Repeat ⟨#[61]⟩ D w (by omega) (by show 1 * D ≤ _; omega)
    rwa [show (⟨#[61]⟩ : ByteArray).data.toList = [61] from rfl, rep_one] at this
  have hLD : ¬ 9223372036854775807 < L.length + D := by omega
  have HR := Lib.hid hres
  have H64 := Lib.hid h64
  have HB := Lib.hid hb
  clear hA hC hN hNm hres h64 hL hb hD hsl hLl
  go_enter Tryz.func60, Tryz.ntmps60
  go_wp2_with (first
    | (go_at_call 106; refine (forward_mk s w (by omega)).mono ?_; rintro e w1 ⟨⟨v1, rfl, h1⟩, b1⟩)
    | (go_at_call 104; refine (highest_mk 8 6 (by decide) (by decide) (by decide) (by decide) v1 _ w1 h1).mono ?_; rintro e w2 ⟨⟨v2, rfl, h2⟩, b2⟩)
    | (go_at_call 109; refine (letters_mk by64B v2 _ w2 h2 H64.out).mono ?_; rintro e w3 ⟨⟨v3, rfl, h3⟩, b3⟩)
    | (go_at_call 103; refine (first_res N v3 _ w3 h3 hNle _ HR.out).mono ?_; rintro e w4 ⟨rfl, b4⟩)
    | (go_at_call 110; refine (hrep w4).mono ?_; rintro e w5 ⟨rfl, b5⟩))
  go_ret
  refine ⟨?_, below_then (below_then (below_then (below_then b1 b2) b3) b4) b5⟩
  rw [HB.out]
  show Ending.returned (.string ((⟨L.toArray⟩ : ByteArray) ++ ⟨Array.replicate D 61⟩)) = _
  rw [show ((⟨L.toArray⟩ : ByteArray) ++ ⟨Array.replicate D 61⟩) = ⟨(L ++ List.replicate D 61).toArray⟩ by rw [cat_bytes]; simp]
end Go.Proofs.YtdajmekliodmcaaGreatDoor
namespace Go.Proofs.YtdajmekliodmcaaGreatDoor.R
open Go.Proofs.YtdajmekliodmcaaGreatDoor.P8
open Go.RowKit
set_option linter.unusedVariables false
set_option linter.unusedSimpArgs false
def plI (l : List UInt8) (c : UInt8) : Int := if placeN l c < l.length then (placeN l c : Int) else -1
theorem plI_found (l : List UInt8) (c : UInt8) (k : Nat) (hk : k < l.length) (hno : ∀ j, (h : j < k) → l[j]'(by omega) ≠ c) (he : l[k] = c) : plI l c = (k : Int) := by
  have h : placeN l c = k := by
    unfold placeN
    rw [List.findIdx_eq hk]
    exact ⟨by simp [he], fun j hj => by simp [hno j hj]⟩
  unfold plI
  rw [h, if_pos hk]
theorem plI_none (l : List UInt8) (c : UInt8) (hno : ∀ j, (h : j < l.length) → l[j] ≠ c) : plI l c = -1 := by
  have h : placeN l c = l.length := by
    unfold placeN
    rw [List.findIdx_eq_length]
    intro x hx
    obtain ⟨j, hj, rfl⟩ := List.mem_iff_getElem.1 hx
    simp [hno j hj]
  unfold plI
  rw [h, if_neg (by omega)]
set_option maxRecDepth 100000 in
set_option maxHeartbeats 1000000 in
theorem place_any (s : ByteArray) (c : UInt8) (hs : s.size ≤ 549755813888) (w : World) :
    Calls Tryz.prog 54 #[.string s, .int .u8 (c.toNat : Int)] w fun e w' => e = .returned (.int .i64 (plI s.data.toList c)) ∧ w' = w := by
  have hF := Lib.hid (plI_found s.data.toList c)
  have hNo := Lib.hid (plI_none s.data.toList c)
  go_enter Tryz.func54, Tryz.ntmps54
  go_wp2
  go_loopw [5] (fun i wr => ∃ k : Nat, k ≤ s.size ∧ i = .int .i64 k ∧ (∀ j, (h : j < k) → (h2 : j < s.size) → s[j] ≠ c) ∧ wr = w) (fun i _ => s.size - (intOf i).toNat)
  case atStart => exact ⟨0, by omega, rfl, fun j h => by omega, rfl⟩
  case round =>
    obtain ⟨k, hk, rfl, hno, rfl⟩ := hrel
    have HNO := Lib.hid hno
    clear hno
    by_cases hlt : k < s.size
    · have hltI : (k : Int) < (s.size : Int) := by omega
      by_cases he : s[k] = c
      · have hR := Lib.hid (hF.out k hlt (fun j hj => HNO.out j hj (by omega)) he)
        have d : ((s[k].toNat : Int) == (c.toNat : Int)) = true := by rw [he]; simp
        generalize hx : (s[k].toNat : Int) = x at *
        generalize (c.toNat : Int) = y at *
        clear hF hNo HNO he
        go_wp2
        go_ret
        exact ⟨by rw [hR.out]; rfl, rfl⟩
      · have HN : Hid (∀ j, (h : j < k + 1) → (h2 : j < s.size) → s[j] ≠ c) := Lib.hid (fun j h h2 => by
          by_cases e : j = k
          · subst e; exact he
          · exact HNO.out j (by omega) h2)
        have d : ((s[k].toNat : Int) == (c.toNat : Int)) = false := by
          simp only [beq_eq_false_iff_ne, ne_eq]
          intro h
          exact he (UInt8.toNat_inj.1 (by omega))
        generalize hx : (s[k].toNat : Int) = x at *
        generalize (c.toNat : Int) = y at *
        clear hF hNo HNO he
        go_wp2
        go_roundw
        case rel => exact ⟨k + 1, by omega, by first | rfl | simp | go_num, HN.out, by simp⟩
        case measure => simp [intOf]; omega
    · have hk2 : k = s.size := by omega
      subst hk2
      have hR := Lib.hid (hNo.out (fun j hj => HNO.out j hj hj))
      clear hF hNo HNO
      go_wp2
      go_ret
      exact ⟨by rw [hR.out]; rfl, rfl⟩
theorem conv_nil (w : World) : (Go.convert 33 9 (.slice none 0 0)).run Tryz.prog w = .ok (.string ⟨#[]⟩) w := by kernel_rfl
open Go.RowKit Go.Shelf
theorem enters29 : ∀ args w, (callFunc 54 args).run Tryz.prog w = .ok (.enter 54 args) w := enters_of Tryz.func54 (by kernel_rfl) rfl
theorem bcell {W w1 : World} (hb : Below W.heap.size W w1) : (∀ b o, b < W.heap.size → w1.cell? ⟨b, o, none⟩ = W.cell? ⟨b, o, none⟩) := fun b o hlt => hb.cell hlt
theorem own_str {wr : World} {B : Nat} {v : Value} {n : Nat} {l : List UInt8} (hown : wr.ownsRow B 5 1 v n (bytesV l)) (h0 : n = 0 → v = .slice none 0 0) :
    ∃ ad cap, v = .slice ad n cap ∧ ∀ W, Below wr.heap.size wr W → (Go.convert 33 9 (.slice ad n cap)).run Tryz.prog W = .ok (.string ⟨l.toArray⟩) W := by
  have hl : l.length = n := by have := hown.1; rw [bytesV_length] at this; omega
  by_cases hn : n = 0
  · subst hn
    have : l = [] := List.eq_nil_of_length_eq_zero hl
    subst this
    exact ⟨none, 0, h0 rfl, fun W _ => conv_nil W⟩
  · rcases hown.2 with ⟨_, h0⟩ | ⟨g, cap, cur, rfl, hg2⟩
    · exact absurd h0 hn
    · subst hl
      refine ⟨some ⟨g, 0, none⟩, cap, rfl, fun W hb => run_convert_bytes_back W 33 9 5 ⟨g, 0, none⟩ cap l Tryz.underlying33 Tryz.underlying5 Tryz.underlying9 (fun j hj => ?_)⟩
      have hc := hown.cellAt j (by omega)
      have hlt : g < wr.heap.size := lt_of_block hg2.2.1
      rw [addr_add, Nat.zero_add, bcell hb _ _ hlt, hc]
      unfold bytesV
      rw [List.getElem?_map, List.getElem?_eq_getElem hj]
      rfl
def saidV (S : ByteArray) (b : Bool) : Array Value := [Value.string S, Value.bool b].toArray
def said (o : Option (List UInt8)) : Array Value := match o with
  | some l => saidV ⟨l.toArray⟩ true
  | none => saidV ⟨#[]⟩ false
theorem size27 (S : ByteArray) (b : Bool) : (Tryz.prog.info? 26).map (·.size) = some [Value.string S, Value.bool b].length := by kernel_rfl
theorem saidOne (S : ByteArray) (b : Bool) : ∀ v ∈ [Value.string S, Value.bool b], v.oneCell' = true := by
  intro v hv
  simp at hv
  rcases hv with rfl | rfl <;> rfl
theorem zero27 (w : World) : (zeroValue 26).run Tryz.prog w = .ok (.agg (saidV ⟨#[]⟩ false)) w := by kernel_rfl
theorem load27 {W : World} {g : Nat} (S : ByteArray) (b : Bool) {t : TypeId} (hg : W.heap[g]? = some (.cells (saidV S b) t (0, 0))) : (loadVar 26 ⟨g, 0, none⟩).run Tryz.prog W = .ok (.agg (saidV S b)) W :=
  run_loadVar_seg W 26 g 0 [.string S, .bool b] _ (fun j v hv => by rw [Nat.zero_add, cell_of_row W g j _ t (0, 0) hg, saidV, List.getElem?_toArray, hv]) Tryz.underlying26 rfl (size27 S b)
theorem exec_store27 {ρ : Operand → Value} {o : Oper} (w : World) (x y : Operand) (ho : o.op = .store 26 x y) (g : Nat) (hx : ρ x = .pointer (some ⟨g, 0, none⟩)) (S : ByteArray) (b : Bool) (hy : ρ y = .agg (saidV S b)) (cur : Array Value) (t : TypeId)
    (hg : w.heap[g]? = some (.cells cur t (0, 0))) (h8 : cur.size = 2) : (execOp ρ o).run Tryz.prog w = .ok .skip (w.setRow g (saidV S b)) := by
  have h := exec_store_seg (P := Tryz.prog) (ρ := ρ) (o := o) w 26 x y ho g 0 hx [.string S, .bool b] hy cur t hg (by simp; omega) (saidOne S b) (size27 S b)
  rwa [splice_all _ _ (by simp; exact h8)] at h
theorem build27_0 (w : World) : (Instr.build 26 #[]).run Tryz.prog w = .ok (.agg (saidV ⟨#[]⟩ false)) w := by kernel_rfl
theorem build27 (S : ByteArray) (b : Bool) (w : World) : (Instr.build 26 #[(0, .string S), (1, .bool b)]).run Tryz.prog w = .ok (.agg (saidV S b)) w := by kernel_rfl
theorem exec_build2 {ρ : Operand → Value} {o : Oper} (w : World) (t : TypeId) (k k2 : Nat) (x x2 : Operand) (ho : o.op = .build t #[(k, x), (k2, x2)]) (u u2 : Value) (hx : ρ x = u) (hx2 : ρ x2 = u2) (v : Value)
    (hrun : (Instr.build t #[(k, u), (k2, u2)]).run Tryz.prog w = .ok v w) : (execOp ρ o).run Tryz.prog w = .ok (.value v) w := by
  subst hx hx2
  unfold execOp
  simp [ho, hrun]
theorem exec_build0g {ρ : Operand → Value} {o : Oper} {t : TypeId} (ho : o.op = .build t #[]) (v : Value) {w : World} (hrun : (Instr.build t #[]).run Tryz.prog w = .ok v w) (w2 : World) (hw : w2 = w := by rfl) : (execOp ρ o).run Tryz.prog w2 = .ok (.value v) w2 := by
  subst hw
  unfold execOp
  simp [ho, hrun]
theorem exec_index_str {ρ : Operand → Value} {o : Oper} (x y : Operand) (ho : o.op = .index 9 x y) (s : ByteArray) (i : Nat) (hi : i < s.size) (hx : ρ x = .string s) (hy : ρ y = .int .i64 (i : Int)) (w : World) : (execOp ρ o).run Tryz.prog w = .ok (.value (.int .u8 (s[i].toNat : Int))) w := by
  unfold execOp
  rw [ho]
  simp only [hx, hy]
  go_simp
theorem str_ne {V s : ByteArray} (he : V ≠ s) : (V.toList == s.toList) = false := by
  simp only [beq_eq_false_iff_ne, ne_eq]
  intro h
  apply he
  rw [ByteArray.toList_eq, ByteArray.toList_eq] at h
  exact ByteArray.ext (Array.toList_inj.1 h)
theorem str_eq {V s : ByteArray} (he : V = s) : (V.toList == s.toList) = true := by rw [he]; simp
theorem exec_slice1 {ρ : Operand → Value} {o : Oper} (x : Operand) (ho : o.op = .buildSlice 33 1 #[(0, x)]) (b : Nat) (hx : ρ x = .int .u8 (b : Int)) (w : World) :
    (execOp ρ o).run Tryz.prog w = .ok (.value (.slice (some ⟨w.heap.size, 0, none⟩) 1 1)) (w.alloc (.cells #[.int .u8 (b : Int)] 5)) := by
  unfold execOp
  simp only [ho]
  have h : ∀ v, v = Value.int .u8 (b : Int) → (Instr.buildSlice 33 1 #[(0, v)]).run Tryz.prog w = .ok (.slice (some ⟨w.heap.size, 0, none⟩) 1 1) (w.alloc (.cells #[.int .u8 (b : Int)] 5)) := by
    rintro v rfl
    kernel_rfl
  simp [h _ hx]
theorem exec_conv35 {ρ : Operand → Value} {o : Oper} (x : Operand) (ho : o.op = .convert 3 5 x) (a : Int) (b : Nat) (hx : ρ x = .int .i64 a) (hb : IntKind.u8.wrap a = (b : Int)) (w : World) : (execOp ρ o).run Tryz.prog w = .ok (.value (.int .u8 (b : Int))) w := by
  unfold execOp
  rw [ho]
  simp only [hx]
  go_simp
def bt (l : List UInt8) (j : Nat) : Nat := (l.getD j 0).toNat
end Go.Proofs.YtdajmekliodmcaaGreatDoor.R
namespace Go.Proofs.YtdajmekliodmcaaGreatDoor
open Go.Proofs.YtdajmekliodmcaaGreatDoor.P8
open Go.RowKit Go.Shelf
set_option linter.unusedVariables false
set_option linter.unusedSimpArgs false
theorem b64_len (l : List UInt8) : (b64 l).length = (l.length + 2) / 3 * 4 := by
  induction l using b64.induct with
  | case1 a b c l ih => simp only [b64, List.length_cons]; omega
  | case2 a b => simp [b64]
  | case3 a => simp [b64]
  | case4 => rfl
theorem textL_len (n g : List UInt8) : (textL n g).length ≤ 153 := by
  by_cases h : mayL n = true ∧ g.length = 64
  · rw [text_may h.1 h.2]
    have := (may_len h.1).2
    have h2 := b64_len g
    simp only [List.length_append, List.length_cons, h2, h.2]
    omega
  · rw [text_none h]; simp
set_option maxRecDepth 100000 in
set_option maxHeartbeats 1000000 in
theorem text_any (n g : ByteArray) (hg : g.size ≤ 549755813888) (w : World) : Calls Tryz.prog 27 #[.string n, .string g] w fun e w' => e = .returned (.string ⟨(textL n.data.toList g.data.toList).toArray⟩) ∧ Below w.heap.size w w' := by
  obtain ⟨t, ht⟩ : ∃ t : ByteArray, Hid (t = ⟨(textL n.data.toList g.data.toList).toArray⟩) := ⟨_, Lib.hid rfl⟩
  rw [← ht.out]
  have hsl : g.data.toList.length = g.size := rfl
  have HM := Lib.hid (may_any n)
  obtain ⟨b, hb⟩ : ∃ b, Hid (b = mayL n.data.toList) := ⟨_, Lib.hid rfl⟩
  rw [← hb.out] at HM
  cases b with
  | false =>
    have hfin : Hid (t = ⟨#[]⟩) := by
      unfold Hid
      rw [ht.out, text_none (fun h => by rw [← hb.out] at h; cases h.1)]
    go_enter Tryz.func27, Tryz.ntmps27
    go_wp2_with (go_at_call 25; refine (HM.out _).mono ?_; rintro e w1 ⟨rfl, rfl⟩)
    go_ret
    exact ⟨by rw [hfin.out]; rfl, Below.refl _ _⟩
  | true =>
    by_cases h64 : g.size = 64
    · have hI : (g.size : Int) = 64 := by omega
      obtain ⟨u, hu⟩ : ∃ u : ByteArray, Hid (u = ⟨(b64 g.data.toList).toArray⟩) := ⟨_, Lib.hid rfl⟩
      have hul : u.size ≤ 88 := by
        rw [hu.out]
        show (b64 g.data.toList).length ≤ 88
        rw [b64_len, hsl, h64]
        decide
      have hnl := (may_len hb.out.symm).2
      have hns : n.size ≤ 64 := hnl
      have HB := Lib.hid (fun w => base64_any g w hg)
      rw [← hu.out] at HB
      have hfin : Hid ((n ++ ⟨#[58]⟩) ++ u = t) := by
        unfold Hid
        rw [ht.out, text_may hb.out.symm h64, hu.out]
        apply ByteArray.ext
        apply Array.toList_inj.1
        simp
      clear ht hu hnl
      go_enter Tryz.func27, Tryz.ntmps27
      go_wp2_with (first
        | (go_at_call 25; refine (HM.out _).mono ?_; rintro e w1 ⟨rfl, rfl⟩)
        | (go_at_call 60; refine (HB.out _).mono ?_; rintro e w1 ⟨rfl, hb1⟩))
      go_ret
      exact ⟨by rw [hfin.out]; rfl, hb1⟩
    · have hI : ¬ (g.size : Int) = 64 := by omega
      have hfin : Hid (t = ⟨#[]⟩) := by
        unfold Hid
        rw [ht.out, text_none (fun h => h64 h.2)]
      go_enter Tryz.func27, Tryz.ntmps27
      go_wp2_with (go_at_call 25; refine (HM.out _).mono ?_; rintro e w1 ⟨rfl, rfl⟩)
      go_ret
      exact ⟨by rw [hfin.out]; rfl, Below.refl _ _⟩
def bRow (l : List UInt8) : Array Value := (l.map fun b => Value.int .u8 (b.toNat : Int)).toArray
theorem bRow_get (l : List UInt8) (j : Nat) (hj : j < l.length) : (bRow l)[j]? = some (.int .u8 (l[j].toNat : Int)) := by simp [bRow, hj]
def Row8 (W : World) (g : Nat) (l : List UInt8) : Prop := W.heap[g]? = some (.cells (bRow l) 5 (0, 0))
theorem Row8.cell {W : World} {g : Nat} {l : List UInt8} (h : Row8 W g l) (j : Nat) (hj : j < l.length) : W.cell? ⟨g, j, none⟩ = some (.int .u8 (l[j].toNat : Int)) := by
  rw [cell_of_row W g j _ 5 _ h]
  exact bRow_get l j hj
theorem Row8.free {W : World} {g : Nat} {l : List UInt8} (h : Row8 W g l) (j : Nat) : W.frozen? ⟨g, j, none⟩ = false := by
  have h2 : W.heap[g]? = some (.cells (bRow l) 5 (0, 0)) := h
  unfold World.frozen?
  simp [h2]
theorem Row8.lt {W : World} {g : Nat} {l : List UInt8} (h : Row8 W g l) : g < W.heap.size := (Array.getElem?_eq_some_iff.1 h).1
theorem Row8.str {W : World} {g cap n : Nat} {l : List UInt8} (h : Row8 W g l) (hn : l.length = n) : (Go.convert 33 9 (.slice (some ⟨g, 0, none⟩) n cap)).run Tryz.prog W = .ok (.string ⟨l.toArray⟩) W := by
  rw [← hn]
  refine run_convert_bytes_back (P := Tryz.prog) W 33 9 5 ⟨g, 0, none⟩ cap l Tryz.underlying33 Tryz.underlying5 Tryz.underlying9 (fun j hj => ?_)
  rw [show (⟨g, 0, none⟩ : Addr).add j = ⟨g, j, none⟩ by unfold Addr.add; split <;> simp_all, h.cell j hj]
theorem Row8.set {W : World} {g : Nat} {l : List UInt8} (h : Row8 W g l) (j : Nat) (c : UInt8) : Row8 (W.setCell ⟨g, j, none⟩ (.int .u8 (c.toNat : Int))) g (l.set j c) := by
  unfold Row8
  rw [setCell_eq_setRow W g j _ 5 (0, 0) _ h, setRow_heap W g _ _ 5 (0, 0) h]
  simp [bRow, List.map_set]
theorem Row8.same {W W' : World} {g : Nat} {l : List UInt8} (h : Row8 W g l) (hb : Below W.heap.size W W') : Row8 W' g l := (hb.block g h.lt).trans h
theorem make32 : ∀ w : World, (Instr.makeSlice 33 (.int .i64 32) (.int .i64 32)).run Tryz.prog w = .ok (.slice (some ⟨w.heap.size, 0, none⟩) 32 32) (w.alloc (.cells (bRow (List.replicate 32 0)) 5)) := fun w => by kernel_rfl
theorem six_ne : ∀ d, d < 64 → six d ≠ 61 := by decide +kernel
theorem numAt64 : ∀ d, d < 64 → numAt by64B (six d).toNat = d := by decide +kernel
theorem by64_all : ∀ c, (Lib.indexByte by64B.data.toList c).toNat < 256 := by
  have h : ∀ n, n < 256 → (Lib.indexByte by64B.data.toList (UInt8.ofNat n)).toNat < 256 := by decide +kernel
  intro c
  have := h c.toNat c.toNat_lt
  simpa using this
theorem trim_split (ds : List Nat) (h : ∀ x ∈ ds, x < 64) (m : Nat) : Lib.trimRightB (ds.map six ++ List.replicate m 61) 61 = ds.map six := by
  rw [Lib.trimRightB_take _ _ ds.length (by simp) ?_ ?_, List.take_left' (by simp)]
  · intro j b hj hb
    rw [List.getElem?_append_right (by simpa using hj)] at hb
    exact List.eq_of_mem_replicate (List.mem_of_getElem? hb)
  · intro b hk hb
    rw [List.getElem?_append_left (by simp; omega)] at hb
    obtain ⟨d, hd, rfl⟩ := List.mem_map.1 (List.mem_of_getElem? hb)
    exact six_ne d (h d hd)
theorem nums64 : ∀ ds : List Nat, (∀ x ∈ ds, x < 64) → (nb (ds.map six)).map (numAt by64B) = ds
  | [], _ => rfl
  | d :: ds, h => by
    show numAt by64B (six d).toNat :: (nb (ds.map six)).map (numAt by64B) = d :: ds
    rw [numAt64 d (h d (by simp)), nums64 ds (fun x hx => h x (by simp [hx]))]
def rd64 (s : List UInt8) : List UInt8 := ((hiAll 6 8 ((nb (Lib.trimRightB s 61)).map (numAt by64B))).take (6 * (Lib.trimRightB s 61).length / 8)).map UInt8.ofNat
theorem rd64_b64 (b : List UInt8) : rd64 (b64 b) = b := by
  unfold rd64
  rw [b64_split, trim_split _ (sx_lt b), nums64 _ (sx_lt b), List.length_map, (all68 b).2, (all68 b).1, map_ofNat_nb]
theorem trim_le (s : List UInt8) (c : UInt8) : (Lib.trimRightB s c).length ≤ s.length := by
  unfold Lib.trimRightB
  rw [List.length_reverse]
  have := (List.dropWhile_sublist (p := (· == c)) (l := s.reverse)).length_le
  simpa using this
theorem rd64_length (s : List UInt8) : (rd64 s).length ≤ s.length := by
  have := trim_le s 61
  unfold rd64
  rw [List.length_map, List.length_take]
  omega
set_option maxHeartbeats 1000000 in
theorem getBase64_any (s : ByteArray) (w : World) (hs : s.size ≤ 549755813888) :
    Calls Tryz.prog 56 #[.string s] w fun e w2 => e = .returned (told (get64 s.data.toList)) ∧ Below w.heap.size w w2 := by
  obtain ⟨L, hL⟩ : ∃ L, L = Lib.trimRightB s.data.toList 61 := ⟨_, rfl⟩
  have hlen : s.data.toList.length = s.size := by simp
  have hLl : L.length ≤ s.size := by rw [hL, ← hlen]; exact trim_le _ _
  obtain ⟨T, hT⟩ : ∃ T, T = L.length := ⟨_, rfl⟩
  obtain ⟨M, hM⟩ : ∃ M, M = 6 * T := ⟨_, rfl⟩
  obtain ⟨N, hN⟩ : ∃ N, N = M / 8 := ⟨_, rfl⟩
  have hmul : IntKind.i64.wrap (6 * (L.length : Int)) = (M : Int) := by rw [IntKind.wrap_i64]; omega
  have hquo : (M : Int) / 8 = (N : Int) := by omega
  have hNle : N ≤ 1099511627776 := by omega
  obtain ⟨X, hX⟩ : ∃ X, X = rd64 s.data.toList := ⟨_, rfl⟩
  have hres : ((hiAll 6 8 ((natsOf ⟨L.toArray⟩).map (numAt by64B))).take N).map UInt8.ofNat = X := by rw [hX, rd64, ← hL, ← hT, ← hM, ← hN, natsOf_nb]
  have hXl : X.length ≤ s.size := by rw [hX, ← hlen]; exact rd64_length _
  have hget : get64 s.data.toList = if b64 X = s.data.toList then some X else none := get64_of s.data.toList X (fun b hb => by rw [hX, ← hb, rd64_b64])
  have htr : ∀ w, Calls Tryz.prog 102 #[.string s, .string ⟨#[61]⟩] w fun e w' => e = .returned (.string ⟨L.toArray⟩) ∧ w' = w := fun w => by
    rw [hL]; exact strings_TrimRight_one s 61 (by decide) w (by omega)
  have hLs : (⟨L.toArray⟩ : ByteArray).size ≤ 549755813888 := by show L.toArray.size ≤ _; simp; omega
  have HR := Lib.hid hres
  have HG := Lib.hid hget
  have HX := base64_any ⟨X.toArray⟩
  clear hN hM hT hres hX hget hL
  by_cases hc : b64 X = s.data.toList
  · have hso : (b64 X == s.toList) = true := by rw [toList_data, hc]; simp
    have hT := only_any ⟨X.toArray⟩ true
    have HF : Hid (get64 s.data.toList = some X) := by unfold Hid; rw [HG.out, if_pos hc]
    clear hc
    go_enter Tryz.func56, Tryz.ntmps56
    go_wp2_with (first
      | (go_at_call 102; refine (htr w).mono ?_; rintro e w0 ⟨rfl, rfl⟩)
      | (go_at_call 106; refine (forward_mk ⟨L.toArray⟩ _ (by omega)).mono ?_; rintro e w1 ⟨⟨v1, rfl, h1⟩, b1⟩)
      | (go_at_call 105; refine (numbers_mk by64B v1 _ w1 h1 by64_all).mono ?_; rintro e w2 ⟨⟨v2, rfl, h2⟩, b2⟩)
      | (go_at_call 104; refine (highest_mk 6 8 (by decide) (by decide) (by decide) (by decide) v2 _ w2 h2).mono ?_; rintro e w3 ⟨⟨v3, rfl, h3⟩, b3⟩)
      | (go_at_call 103; refine (first_res N v3 _ w3 h3 hNle _ HR.out).mono ?_; rintro e w4 ⟨rfl, b4⟩)
      | (go_at_call 60; refine (HX w4 (by show X.toArray.size ≤ _; simp; omega)).mono ?_; rintro e w5 ⟨rfl, b5⟩)
      | (go_at_call 107; refine (hT w5).mono ?_; rintro e w6 ⟨rfl, rfl⟩))
    go_ret2
    exact ⟨by rw [HF.out]; rfl, below_then (below_then (below_then (below_then b1 b2) b3) b4) b5⟩
  · have hso : (b64 X == s.toList) = false := by rw [toList_data]; simpa using hc
    have hT := only_any ⟨X.toArray⟩ false
    have HF : Hid (get64 s.data.toList = none) := by unfold Hid; rw [HG.out, if_neg hc]
    clear hc
    go_enter Tryz.func56, Tryz.ntmps56
    go_wp2_with (first
      | (go_at_call 102; refine (htr w).mono ?_; rintro e w0 ⟨rfl, rfl⟩)
      | (go_at_call 106; refine (forward_mk ⟨L.toArray⟩ _ (by omega)).mono ?_; rintro e w1 ⟨⟨v1, rfl, h1⟩, b1⟩)
      | (go_at_call 105; refine (numbers_mk by64B v1 _ w1 h1 by64_all).mono ?_; rintro e w2 ⟨⟨v2, rfl, h2⟩, b2⟩)
      | (go_at_call 104; refine (highest_mk 6 8 (by decide) (by decide) (by decide) (by decide) v2 _ w2 h2).mono ?_; rintro e w3 ⟨⟨v3, rfl, h3⟩, b3⟩)
      | (go_at_call 103; refine (first_res N v3 _ w3 h3 hNle _ HR.out).mono ?_; rintro e w4 ⟨rfl, b4⟩)
      | (go_at_call 60; refine (HX w4 (by show X.toArray.size ≤ _; simp; omega)).mono ?_; rintro e w5 ⟨rfl, b5⟩)
      | (go_at_call 107; refine (hT w5).mono ?_; rintro e w6 ⟨rfl, rfl⟩))
    go_ret2
    exact ⟨by rw [HF.out]; rfl, below_then (below_then (below_then (below_then b1 b2) b3) b4) b5⟩
end Go.Proofs.YtdajmekliodmcaaGreatDoor
namespace Go.Proofs.YtdajmekliodmcaaGreatDoor.R
open Go.Proofs.YtdajmekliodmcaaGreatDoor.P8
open Go.RowKit Go.Shelf
set_option linter.unusedVariables false
set_option linter.unusedSimpArgs false
end Go.Proofs.YtdajmekliodmcaaGreatDoor.R
