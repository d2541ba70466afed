/- Several texts, one behind the other; each says by itself what it proves, and on what conditions. -/
import Derived.Test.YtlofoeapfmcolaaX11
import Derived.Test.YtlofoeapfmcolaaX15
/- Package codec's Base32 and GetBase32: they tell the arithmetic's letters, and bytes. Their condition: a length that fits. -/
namespace Go.Proofs.Ytlofoeapfmcolaa
set_option linter.unusedSimpArgs false
open Go.RowKit Go.Shelf
set_option linter.unusedVariables false

def by32B : ByteArray := ⟨#[48, 49, 50, 51, 52, 53, 54, 55, 56, 57, 97, 98, 99, 100, 102, 103, 104, 105, 106, 107, 108, 109, 110, 112, 113, 114, 115, 118, 119, 120, 121, 122]⟩
theorem by32_set : ∀ y, y < 32 → UInt8.ofNat (setAt by32B y) = lett y := by decide +kernel
theorem by32_size : by32B.size = 32 := by decide +kernel
theorem numAt32 : ∀ d, d < 32 → numAt by32B (lett d).toNat = d := by decide +kernel
theorem by32_all0 : ∀ n, n < 256 → (Lib.indexByte by32B.data.toList (UInt8.ofNat n)).toNat < 32 := by decide +kernel
theorem by32_all32 (c : UInt8) : (Lib.indexByte by32B.data.toList c).toNat < 32 := by
  have := by32_all0 c.toNat c.toNat_lt
  simpa using this
theorem by32_all (c : UInt8) : (Lib.indexByte by32B.data.toList c).toNat < 256 := by have := by32_all32 c; omega
theorem nb_lt (l : List UInt8) : ∀ x ∈ nb l, x < 2 ^ 8 := by
  intro x hx
  obtain ⟨c, -, rfl⟩ := List.mem_map.1 hx
  exact c.toNat_lt
theorem nb_length (l : List UInt8) : (nb l).length = l.length := by simp [nb]
theorem lo85 (l : List UInt8) : dv 5 (loAll 8 5 (nb l)) = num l ∧ (loAll 8 5 (nb l)).length = many32 l.length ∧ ∀ x ∈ loAll 8 5 (nb l), x < 32 := by
  obtain ⟨h1, h2, h3⟩ := lo_all 8 5 (by decide) (by decide) (by decide) (nb l) (nb_lt l)
  rw [nb_length] at h2
  exact ⟨h1.trans (dv_num l), h2, h3⟩
theorem map_letters (ds : List Nat) (h : ∀ x ∈ ds, x < 32) : (ds.map (setAt by32B)).map UInt8.ofNat = ds.map lett := by
  rw [List.map_map]
  apply List.map_congr_left
  intro x hx
  exact by32_set x (h x hx)
/-- The letters, those of the first byte first. -/
def lets (l : List UInt8) : List UInt8 := (loAll 8 5 (nb l)).map lett
theorem lets_length (l : List UInt8) : (lets l).length = many32 l.length := by unfold lets; rw [List.length_map, (lo85 l).2.1]
theorem lets_rev (l : List UInt8) : (lets l).reverse = b32 l := by
  unfold lets b32
  rw [dv_enc _ (lo85 l).2.2, (lo85 l).1, (lo85 l).2.1]
/-- What n bytes are read of letters, whether or not they say anything. -/
def rd32 (s : List UInt8) (n : Nat) : List UInt8 := ((loAll 5 8 ((nb s).reverse.map (numAt by32B))).take n).map UInt8.ofNat
theorem rd32_b32 (b : List UInt8) : rd32 (b32 b) b.length = b := by
  have e1 : (nb (b32 b)).reverse = nb (lets b) := by rw [← lets_rev]; simp [nb]
  have e2 : (nb (lets b)).map (numAt by32B) = loAll 8 5 (nb b) := by
    unfold lets nb
    rw [List.map_map, List.map_map]
    have : ∀ ds : List Nat, (∀ x ∈ ds, x < 32) → ds.map (numAt by32B ∘ UInt8.toNat ∘ lett) = ds := by
      intro ds
      induction ds with
      | nil => intro _; rfl
      | cons d ds ih =>
        intro h
        show numAt by32B (lett d).toNat :: _ = _
        rw [numAt32 d (h d (by simp)), ih (fun x hx => h x (by simp [hx]))]
    exact this _ (lo85 b).2.2
  unfold rd32
  rw [e1, e2]
  obtain ⟨h1, h2, h3⟩ := lo_all 5 8 (by decide) (by decide) (by decide) (loAll 8 5 (nb b)) (lo85 b).2.2
  rw [dv_bytes b.length _ h3 (by rw [h2, (lo85 b).2.1]; unfold many32; omega), h1, (lo85 b).1, bytesOf_num]

set_option maxHeartbeats 1000000 in
theorem base32_any (s : ByteArray) (w : World) (hs : s.size ≤ 549755813888) :
    Calls Try.prog 36 #[.string s] w fun e w2 => e = .returned (.string ⟨(b32 s.data.toList).toArray⟩) ∧ Below w.heap.size w w2 := by
  obtain ⟨A, hA⟩ : ∃ A, A = 8 * s.size := ⟨_, rfl⟩
  obtain ⟨C, hC⟩ : ∃ C, C = A + 4 := ⟨_, rfl⟩
  obtain ⟨N, hN⟩ : ∃ N, N = C / 5 := ⟨_, rfl⟩
  have h8 : IntKind.i64.wrap (8 * (s.size : Int)) = (A : Int) := by rw [IntKind.wrap_i64]; omega
  have h4 : IntKind.i64.wrap ((A : Int) + 4) = (C : Int) := by rw [IntKind.wrap_i64]; omega
  have h5 : (C : Int) / 5 = (N : Int) := by omega
  have hNle : N ≤ 1099511627776 := by omega
  have hNm : many32 s.data.toList.length = N := by rw [hN, hC, hA]; unfold many32; simp
  have hres : (((loAll 8 5 (natsOf s)).map (setAt by32B)).take N).map UInt8.ofNat = lets s.data.toList := by
    rw [natsOf_nb, List.take_of_length_le (by rw [List.length_map, (lo85 _).2.1, hNm]; exact Nat.le_refl _), map_letters _ (lo85 _).2.2]; rfl
  have h32 : ∀ y ∈ loAll 8 5 (natsOf s), y < by32B.size := by rw [natsOf_nb, by32_size]; exact (lo85 _).2.2
  obtain ⟨L, hL⟩ : ∃ L, L = lets s.data.toList := ⟨_, rfl⟩
  rw [← hL] at hres
  have hLl : L.length = N := by rw [hL, lets_length, hNm]
  have hres2 : (((natsOf ⟨L.toArray⟩).reverse).take N).map UInt8.ofNat = b32 s.data.toList := by
    have e : natsOf ⟨L.toArray⟩ = nb L := by simp [natsOf, nb]
    rw [e, List.take_of_length_le (by rw [List.length_reverse, nb_length, hLl]; exact Nat.le_refl _), ← lets_rev, ← hL, List.map_reverse, map_ofNat_nb]
  have hLs : (⟨L.toArray⟩ : ByteArray).size ≤ 9223372036854775807 := by show L.toArray.size ≤ _; simp; omega
  have HR := Lib.hid hres
  have HR2 := Lib.hid hres2
  have H32 := Lib.hid h32
  have HLS := Lib.hid hLs
  clear hA hC hN hNm hres hres2 h32 hL hLl hLs
  go_enter Try.func36, Try.ntmps36
  go_wp2_with (first
    | (go_at_call 48; refine (forward_mk s w (by omega)).mono ?_; rintro e w1 ⟨⟨v1, rfl, h1⟩, b1⟩)
    | (go_at_call 32; refine (lowest_mk 8 5 (by decide) (by decide) (by decide) (by decide) v1 _ w1 h1).mono ?_; rintro e w2 ⟨⟨v2, rfl, h2⟩, b2⟩)
    | (go_at_call 47; refine (letters_mk by32B v2 _ w2 h2 H32.out).mono ?_; rintro e w3 ⟨⟨v3, rfl, h3⟩, b3⟩)
    | (go_at_call 31; refine (first_res N v3 _ w3 h3 hNle _ HR.out).mono ?_; clear h3; rintro e w4 ⟨rfl, b4⟩)
    | (go_at_call 34; refine (backward_mk ⟨L.toArray⟩ w4 HLS.out).mono ?_; rintro e w5 ⟨⟨v5, rfl, h6⟩, b5⟩)
    | (go_at_call 31; refine (first_res N v5 _ w5 h6 hNle _ HR2.out).mono ?_; rintro e w6 ⟨rfl, b6⟩))
  go_ret
  exact ⟨rfl, below_then (below_then (below_then (below_then (below_then b1 b2) b3) b4) b5) b6⟩
end Go.Proofs.Ytlofoeapfmcolaa
/- Package codec's GetBase32: it tells the arithmetic's bytes, or that there are none. Its condition: a length that fits. -/
namespace Go.Proofs.Ytlofoeapfmcolaa
set_option linter.unusedSimpArgs false
open Go.RowKit Go.Shelf
set_option linter.unusedVariables false

/-- What letters say: n bytes, n any number. -/
def get32I (s : List UInt8) (n : Int) : Option (List UInt8) := if 0 ≤ n then get32 s n.toNat else none
theorem get32I_out (s : List UInt8) (n : Int) (h : n < 0 ∨ 64 < n) : get32I s n = none := by
  unfold get32I
  by_cases h0 : 0 ≤ n
  · rw [if_pos h0]
    unfold get32
    rw [if_neg]
    rintro ⟨h1, -⟩
    omega
  · rw [if_neg h0]
theorem rd32_le (s : List UInt8) (n : Nat) : (rd32 s n).length ≤ n := by
  unfold rd32
  rw [List.length_map, List.length_take]
  omega
theorem rd32_lt (s : List UInt8) (n : Nat) : ∀ x ∈ (nb s).reverse.map (numAt by32B), x < 256 := by
  intro x hx
  obtain ⟨y, -, rfl⟩ := List.mem_map.1 hx
  exact by32_all _

set_option maxHeartbeats 1000000 in
theorem getBase32_in (s : ByteArray) (m : Nat) (hm : m ≤ 64) (w : World) (hs : s.size ≤ 549755813888) :
    Calls Try.prog 23 #[.string s, .int .i64 (m : Int)] w fun e w2 => e = .returned (told (get32 s.data.toList m)) ∧ Below w.heap.size w w2 := by
  obtain ⟨X, hX⟩ : ∃ X, X = rd32 s.data.toList m := ⟨_, rfl⟩
  have hres : ((loAll 5 8 ((natsOf s).reverse.map (numAt by32B))).take m).map UInt8.ofNat = X := by rw [hX, rd32, natsOf_nb]
  have hXl : X.length ≤ m := by rw [hX]; exact rd32_le _ _
  have hof : ∀ b : List UInt8, b.length = m → b32 b = s.data.toList → X = b := fun b hb he => by rw [hX, ← he, ← hb, rd32_b32]
  have HR := Lib.hid hres
  have HX := base32_any ⟨X.toArray⟩
  have hXs : (⟨X.toArray⟩ : ByteArray).size = X.length := by show X.toArray.size = _; simp
  have hXle : (⟨X.toArray⟩ : ByteArray).size ≤ 549755813888 := by omega
  have HXL := Lib.hid hXle
  have hmn : ¬ ((m : Int) < 0) := by omega
  have hm64 : ¬ ((m : Int) > 64) := by omega
  clear hX hres hXle
  by_cases hlen : X.length = m
  · have hq : ((X.length : Int) = (m : Int)) := by omega
    by_cases hc : b32 X = s.data.toList
    · have hso : (b32 X == s.toList) = true := by rw [toList_data, hc]; simp
      have hT := only_any ⟨X.toArray⟩ true
      have HF : Hid (get32 s.data.toList m = some X) := (get32_iff _ _ _).2 ⟨hm, hlen, hc⟩
      clear hc hof hlen
      go_enter Try.func23, Try.ntmps23
      go_wp2_with (first
        | (go_at_call 34; refine (backward_mk s w (by omega)).mono ?_; rintro e w1 ⟨⟨v1, rfl, h1⟩, b1⟩)
        | (go_at_call 33; refine (numbers_mk by32B v1 _ w1 h1 by32_all).mono ?_; rintro e w2 ⟨⟨v2, rfl, h2⟩, b2⟩)
        | (go_at_call 32; refine (lowest_mk 5 8 (by decide) (by decide) (by decide) (by decide) v2 _ w2 h2).mono ?_; rintro e w3 ⟨⟨v3, rfl, h3⟩, b3⟩)
        | (go_at_call 31; refine (first_res m v3 _ w3 h3 (by omega) _ HR.out).mono ?_; rintro e w4 ⟨rfl, b4⟩)
        | (go_at_call 36; refine (HX w4 HXL.out).mono ?_; rintro e w5 ⟨rfl, b5⟩)
        | (go_at_call 35; refine (hT w5).mono ?_; rintro e w6 ⟨rfl, rfl⟩))
      go_ret2
      exact ⟨by rw [HF.out]; rfl, below_then (below_then (below_then (below_then b1 b2) b3) b4) b5⟩
    · have hso : (b32 X == s.toList) = false := by rw [toList_data]; simpa using hc
      have hT := only_any ⟨X.toArray⟩ false
      have HF : Hid (get32 s.data.toList m = none) := by unfold Hid; rw [get32_of s.data.toList m hm X hlen hof, if_neg hc]
      clear hc hof hlen
      go_enter Try.func23, Try.ntmps23
      go_wp2_with (first
        | (go_at_call 34; refine (backward_mk s w (by omega)).mono ?_; rintro e w1 ⟨⟨v1, rfl, h1⟩, b1⟩)
        | (go_at_call 33; refine (numbers_mk by32B v1 _ w1 h1 by32_all).mono ?_; rintro e w2 ⟨⟨v2, rfl, h2⟩, b2⟩)
        | (go_at_call 32; refine (lowest_mk 5 8 (by decide) (by decide) (by decide) (by decide) v2 _ w2 h2).mono ?_; rintro e w3 ⟨⟨v3, rfl, h3⟩, b3⟩)
        | (go_at_call 31; refine (first_res m v3 _ w3 h3 (by omega) _ HR.out).mono ?_; rintro e w4 ⟨rfl, b4⟩)
        | (go_at_call 36; refine (HX w4 HXL.out).mono ?_; rintro e w5 ⟨rfl, b5⟩)
        | (go_at_call 35; refine (hT w5).mono ?_; rintro e w6 ⟨rfl, rfl⟩))
      go_ret2
      exact ⟨by rw [HF.out]; rfl, below_then (below_then (below_then (below_then b1 b2) b3) b4) b5⟩
  · have hq : ¬ ((X.length : Int) = (m : Int)) := by omega
    have hT := only_any ⟨X.toArray⟩ false
    have HF : Hid (get32 s.data.toList m = none) := by
      unfold Hid
      cases hg : get32 s.data.toList m with
      | none => rfl
      | some b =>
        obtain ⟨-, h2, h3⟩ := get32_some hg
        exact absurd (by rw [hof b h2 h3]; exact h2) hlen
    clear hof hlen
    go_enter Try.func23, Try.ntmps23
    go_wp2_with (first
      | (go_at_call 34; refine (backward_mk s w (by omega)).mono ?_; rintro e w1 ⟨⟨v1, rfl, h1⟩, b1⟩)
      | (go_at_call 33; refine (numbers_mk by32B v1 _ w1 h1 by32_all).mono ?_; rintro e w2 ⟨⟨v2, rfl, h2⟩, b2⟩)
      | (go_at_call 32; refine (lowest_mk 5 8 (by decide) (by decide) (by decide) (by decide) v2 _ w2 h2).mono ?_; rintro e w3 ⟨⟨v3, rfl, h3⟩, b3⟩)
      | (go_at_call 31; refine (first_res m v3 _ w3 h3 (by omega) _ HR.out).mono ?_; rintro e w4 ⟨rfl, b4⟩)
      | (go_at_call 35; refine (hT w4).mono ?_; rintro e w6 ⟨rfl, rfl⟩))
    go_ret2
    exact ⟨by rw [HF.out]; rfl, below_then (below_then (below_then b1 b2) b3) b4⟩

theorem getBase32_any (s : ByteArray) (n : Int) (w : World) (hs : s.size ≤ 549755813888) :
    Calls Try.prog 23 #[.string s, .int .i64 n] w fun e w2 => e = .returned (told (get32I s.data.toList n)) ∧ Below w.heap.size w w2 := by
  by_cases hr : 0 ≤ n ∧ n ≤ 64
  · obtain ⟨m, rfl⟩ : ∃ m : Nat, n = (m : Int) := ⟨n.toNat, by omega⟩
    have h := getBase32_in s m (by omega) w hs
    have e : get32I s.data.toList (m : Int) = get32 s.data.toList m := by unfold get32I; rw [if_pos (by omega)]; simp
    rw [e]
    exact h
  · have e := Lib.hid (get32I_out s.data.toList n (by omega))
    by_cases h1 : n < 0
    · clear hr
      go_enter Try.func23, Try.ntmps23
      go_wp2
      go_ret2
      exact ⟨by rw [e.out]; rfl, Below.refl _ _⟩
    · have h2 : n > 64 := by omega
      clear hr
      go_enter Try.func23, Try.ntmps23
      go_wp2
      go_ret2
      exact ⟨by rw [e.out]; rfl, Below.refl _ _⟩
end Go.Proofs.Ytlofoeapfmcolaa
/- The program's May and windows. Its condition: lengths that fit. -/
namespace Go.Proofs.Ytlofoeapfmcolaa
open Go.RowKit Go.Shelf
set_option linter.unusedVariables false
set_option linter.unusedSimpArgs false
section
open E
theorem ent23 : Enters Try.prog 23 := enters_of Try.func23 (by kernel_rfl) rfl
theorem ent9 : Enters Try.prog 9 := enters_of Try.func9 (by kernel_rfl) rfl
theorem ent37 : Enters Try.prog 37 := enters_of Try.func37 (by kernel_rfl) rfl
theorem ent26 : Enters Try.prog 26 := enters_of Try.func26 (by kernel_rfl) rfl
abbrev hG (s : List UInt8) (t : List UInt8) (b : Bool) : Hint := pc 23 #[stv s, .int .i64 20] (.tup [.lf (.v (stv t)), .lf (.v (.bool b))])
theorem hG_ok (id : Nat) (s : List UInt8) (hs : s.length ≤ 1000000000) : ∃ t, HintOk Try.prog id (hG s t (mayP s)) := by
  have h : ∀ w, Calls Try.prog 23 #[stv s, .int .i64 20] w fun e w2 => e = .returned (told (get32 s 20)) ∧ Below w.heap.size w w2 := fun w => getBase32_any ⟨s.toArray⟩ 20 w (by show s.toArray.size ≤ _; simp; omega)
  have hm := may_get s
  cases hg : get32 s 20 with
  | none =>
    rw [hg] at hm h
    refine ⟨[], ?_⟩
    rw [← hm]
    exact pc_ok ent23 (by intro x hx; simp at hx; rcases hx with rfl | rfl <;> rfl) (fun _ => rfl) h
  | some t =>
    rw [hg] at hm h
    refine ⟨t, ?_⟩
    rw [← hm]
    exact pc_ok ent23 (by intro x hx; simp at hx; rcases hx with rfl | rfl <;> rfl) (fun _ => rfl) h
theorem may_any (s : List UInt8) (hs : s.length ≤ 1000000000) (w : World) : Calls Try.prog 9 #[stv s] w (BoolQ w (mayP s)) := by
  refine At.calls (args := [.v (stv s)]) (rows := []) (gl := []) (wr := []) (ρ := fun _ => (⟨0, 0, 0⟩ : Blk)) Try.func9 rfl rfl (init_rw ⟨rfl, trivial⟩ rfl rfl rfl (fun p hp => by cases hp) (fun p hp => by cases hp) (fun p hp => by cases hp)) rfl ?_
  obtain ⟨t, ht⟩ := hG_ok 2001 s hs
  exact At.fin rfl [(2001, hG s t (mayP s))] ⟨ht, trivial⟩ [] (x := .v (.bool (mayP s))) (ob := qL (hG s t (mayP s))) (by kernel_rfl) (all_qL _) fun ρ' w' hf _ => ⟨rfl, hf.below⟩
abbrev hMy (s : List UInt8) (b : Bool) : Hint := pc 9 #[stv s] (.v (.bool b))
theorem hMy_ok (id : Nat) (s : List UInt8) (b : Bool) (hs : s.length ≤ 1000000000) (h : mayP s = b) : HintOk Try.prog id (hMy s b) := pc_ok ent9 (v := .bool b) rfl (fun _ => rfl) fun w => by rw [← h]; exact may_any s hs w
/-- The windows of a text. -/
abbrev wnd (s : List UInt8) (k : Nat) : List UInt8 := (s.drop k).take 32
abbrev wndR (s : List UInt8) : Row := ⟨[.one (.v (stv s))], false, none⟩
abbrev boxP : TV := .s (.lf (.ptr 0 0 0 0 0))
abbrev yv (l : Nat) : TV := .v (.func (.yield l) #[] #[])
abbrev wnT (s : List UInt8) (l k : Nat) : List (Nat × TV) := [(0, yv l), (1, boxP), (6, .int .i64 ((s.length : Int) - 31)), (7, .int .i64 (k : Int))]
abbrev wnY (s : List UInt8) (l k : Nat) : List (Nat × TV) := [(0, yv l), (1, boxP), (6, .int .i64 ((s.length : Int) - 31)), (7, .int .i64 (k : Int)), (3, .int .i64 (k : Int))]
abbrev encN (s : List UInt8) (x : Fin (s.length - 31)) : Array Value := #[.int .i64 (x.1 : Int), stv (wnd s x.1)]
set_option maxRecDepth 100000 in
theorem wnd_stops (s : List UInt8) (hs : s.length ≤ 1000000000) (w : World) (e : Env) (h : ∀ W, Below w.heap.size w W → RowAt e 0 (wndR s) W) :
    SeqStopsK (FW none) 5 Try.prog 37 #[.pointer (some ⟨(e 0).1, (e 0).2, none⟩)] (encN s) (fun W W' => ∀ r ∈ [0], W'.heap[(e r).1]? = W.heap[(e r).1]?) (fun xs => xs = List.finRange (s.length - 31)) (fun _ => True) (s.length - 31) w := by
  have hok : pok (wndR s).ps := fun p hp => by simp at hp; subst hp; rfl
  refine seq_ok2 (args := [boxP]) (rows := [(0, wndR s)]) (gl := []) Try.func37 rfl rfl rfl (fun W hW l => ?_) fun l J Jx W hJ hJx hY h0 => ?_
  · exact init_ro1 ⟨rfl, trivial, trivial⟩ rfl rfl ⟨⟨h W hW, hok⟩, trivial⟩
  · have hloop : ∀ x : Nat × World, (x.1 ≤ s.length - 31 ∧ J ((List.finRange (s.length - 31)).take x.1) x.2) → At Try.prog x.2 ⟨[], e, []⟩ Try.f37.ntmps [] (lp Try.f37 0) (EndX Try.prog Try.f37 fun e W' => (∃ v, e = .returned v) ∧ ((∃ xs, xs = List.finRange (s.length - 31) ∧ J xs W') ∨ (∃ pre, True ∧ Jx pre W'))) (wnT s l x.1) [(0, wndR s)] := by
      refine At.loopW (fun x : Nat × World => x.2) (fun _ => ⟨[], e, []⟩) (fun x => wnT s l x.1) (fun _ => [(0, wndR s)]) (fun x => x.1 ≤ s.length - 31 ∧ J ((List.finRange (s.length - 31)).take x.1) x.2) (fun x => s.length - 31 - x.1) fun ⟨k, W1⟩ ⟨hk, hJ1⟩ ih => ?_
      simp only at hk hJ1 ih ⊢
      by_cases hlt : k < s.length - 31
      · refine At.run rfl [] trivial [.y] (tm2 := wnY s l k) (rows2 := [(0, wndR s)]) (ob := [decide ((k : Int) < (s.length : Int) - 31) = true]) (td := rp Try.f37 3) (by kernel_rfl) ⟨decide_eq_true (by omega), trivial⟩ rfl rfl (by intro h; cases h) ?_
        have ht : (List.finRange (s.length - 31)).take k ++ [⟨k, hlt⟩] = (List.finRange (s.length - 31)).take (k + 1) := by
          rw [List.take_add_one, List.getElem?_eq_getElem (by simpa using hlt)]; simp
        have hv : TV.v (stv (List.drop (k : Int).toNat (List.take ((k : Int) + 32).toNat s))) = TV.v (stv (wnd s k)) := tv_str (by
          rw [List.drop_take, show ((k : Int) + 32).toNat - (k : Int).toNat = 32 by omega, Int.toNat_natCast])
        have ho : all [inI ((k : Int) + 32), TV.v (stv (List.drop (k : Int).toNat (List.take ((k : Int) + 32).toNat s))) = TV.v (stv (wnd s k)), 0 ≤ (k : Int) + 32 ∧ (k : Int) + 32 ≤ (s.length : Int), 0 ≤ (k : Int) ∧ (k : Int) ≤ (k : Int) + 32] := ⟨⟨by omega, by omega⟩, hv, ⟨by omega, by omega⟩, ⟨by omega, by omega⟩, trivial⟩
        refine At.yieldAt rfl 7 ((List.finRange (s.length - 31)).take k) ⟨k, hlt⟩ [(2004006, .val (.v (stv (wnd s k))))] ⟨trivial, trivial⟩ [0] hJ hJ1 (by simp; omega) hY (fun W W' h => h) (tmT := wnT s l k ++ [(18, .v (.bool false))]) (rowsT := [(0, wndR s)]) (tmF := [(18, .v (.bool true))]) (o1 := [inI ((k : Int) + 32), TV.v (stv (List.drop (k : Int).toNat (List.take ((k : Int) + 32).toNat s))) = TV.v (stv (wnd s k)), 0 ≤ (k : Int) + 32 ∧ (k : Int) + 32 ≤ (s.length : Int), 0 ≤ (k : Int) ∧ (k : Int) ≤ (k : Int) + 32]) (o2 := []) (o3 := []) (vs := [.int .i64 k, .v (stv (wnd s k))]) rfl (by kernel_rfl) (by kernel_rfl) ho (fun ρ _ => rfl) rfl rfl (fun W' hJ2 => ?_) (fun W' hJ2 => ?_)
        · rw [ht] at hJ2
          refine At.run rfl [] trivial [.d] (tm2 := wnT s l (k + 1)) (rows2 := [(0, wndR s)]) (ob := [inI ((k : Int) + 1)]) (td := lp Try.f37 0) (by kernel_rfl) ⟨⟨by omega, by omega⟩, trivial⟩ rfl rfl (by intro h; cases h) ?_
          exact ih (k + 1, W') ⟨hlt, hJ2⟩ (by show s.length - 31 - (k + 1) < s.length - 31 - k; omega)
        · exact At.fin rfl [] trivial [.d] (x := .tup []) (ob := []) (by kernel_rfl) trivial fun ρ W2 hf _ => ⟨⟨_, rfl⟩, .inr ⟨_, trivial, abides_fr hJx hJ2 hf⟩⟩
      · obtain rfl : k = s.length - 31 := by omega
        rw [List.take_of_length_le (by simp)] at hJ1
        exact At.fin rfl [] trivial [.n] (x := .tup []) (ob := [decide (((s.length - 31 : Nat) : Int) < (s.length : Int) - 31) = false]) (by kernel_rfl) ⟨decide_eq_false (by omega), trivial⟩ fun ρ W2 hf _ => ⟨⟨_, rfl⟩, .inl ⟨_, rfl, abides_fr hJ hJ1 hf⟩⟩
    refine At.run rfl [] trivial [] (tm2 := wnT s l 0) (rows2 := [(0, wndR s)]) (ob := [inI ((s.length : Int) - 31)]) (td := lp Try.f37 0) (by kernel_rfl) ⟨⟨by omega, by omega⟩, trivial⟩ rfl rfl (by intro h; cases h) ?_
    exact hloop (0, W) ⟨by omega, by simpa using h0⟩
end
end Go.Proofs.Ytlofoeapfmcolaa
/- The program's Places. Its condition: lengths that fit. -/
namespace Go.Proofs.Ytlofoeapfmcolaa
open Go.RowKit Go.Shelf
set_option linter.unusedVariables false
set_option linter.unusedSimpArgs false
section
open E
/-- A row of which nothing is known, where a row lies that nobody writes: so that a loop's rows have one name each from its first round on. -/
theorem E.At.dummy {P : Program} {w0 : World} {wr : Bs} {n : Nat} {gl : List Nat} {todo : List Item} {Q : Exit → Act → World → Prop} {tm : List (Nat × TV)} {rows : List (Nat × Row)} {r : Option Nat} {mk : List Nat} (q r0 : Nat) (y0 : Row)
    (hq : (Nat.ble 1000 q && !(hasN (rows.map (·.1) ++ gl.map (500 + ·)) q)) = true) (h0 : findR rows r0 = some y0) (hw0 : y0.w = false)
    (h : At P w0 wr n gl todo Q tm ((q, noR) :: rows) r mk) : At P w0 wr n gl todo Q tm rows r mk := by
  intro a w ρ hd
  simp only [Bool.and_eq_true, Bool.not_eq_true'] at hq
  obtain ⟨hq1, hq2⟩ := hq
  have hq1 := Nat.le_of_ble_eq_true hq1
  have hr0 : (mkSt n tm rows gl mk).row r0 = some y0 := h0
  obtain ⟨B, hB⟩ : ∃ B, B = ρ r0 := ⟨_, rfl⟩
  have hne : ∀ s, (mkSt n tm rows gl mk).used s = true → s ≠ q := by
    intro s hs e
    rw [e] at hs
    rw [show (mkSt n tm rows gl mk).used q = hasN (rows.map (·.1) ++ gl.map (500 + ·)) q from rfl, hq2] at hs
    cases hs
  have hup : ∀ s, (mkSt n tm rows gl mk).used s = true → (mkSt n tm ((q, noR) :: rows) gl mk).used s = true := by
    intro s hs
    have := hasN_iff.1 hs
    exact hasN_iff.2 (List.mem_cons_of_mem _ this)
  have hself : (mkSt n tm ((q, noR) :: rows) gl mk).used q = true := hasN_iff.2 (List.mem_cons_self ..)
  have hrow : ∀ s y, (mkSt n tm ((q, noR) :: rows) gl mk).row s = some y → (s = q ∧ y = noR) ∨ (s ≠ q ∧ (mkSt n tm rows gl mk).row s = some y) := by
    intro s y hs
    simp only [mkSt, findR] at hs
    cases hb : Nat.beq q s with
    | true => rw [hb] at hs; cases hs; exact .inl ⟨(Nat.eq_of_beq_eq_true hb).symm, rfl⟩
    | false => rw [hb] at hs; exact .inr ⟨fun e => by rw [e] at hb; simp at hb, hs⟩
  refine h a w (setE ρ q B) ⟨hd.sz, hd.df, hd.mf, hd.ko, fun t x hx => ?_, fun s y hs => ?_, fun s p y z hs hp hsp hw => ?_, hd.fr, fun s hs => ?_, fun s hs => hup s (hd.ku s hs), fun g hg hu => ?_, fun s C hs => by cases hs⟩
  · obtain ⟨g1, g2, g3⟩ := hd.tm t x hx
    exact ⟨by rw [g1, TV.val_congr (fun s hs => (setE_ne ρ B (hne s (g3 s hs))).symm)], g2, fun s hs => hup s (g3 s hs)⟩
  · rcases hrow s y hs with ⟨rfl, rfl⟩ | ⟨hsq, hs⟩
    · obtain ⟨g1, _, _, g4⟩ := (hd.rw r0 y0 hr0).1
      refine ⟨?_, (fun p hp => by cases hp), hself, (fun p hp => by cases hp), (fun hw => by cases hw)⟩
      unfold RowAt
      rw [setE_same, hB]
      exact ⟨g1, (fun j v hv => by cases hv), (fun e k he => by cases he), g4⟩
    · obtain ⟨g1, g2, g3, g4, g5⟩ := hd.rw s y hs
      refine ⟨?_, g2, hup s g3, fun p hp => hup p (g4 p hp), by rw [setE_ne ρ B hsq]; exact g5⟩
      unfold RowAt at g1 ⊢
      rw [setE_ne ρ B hsq, lst_congr (σ := ρ) (fun p hp => setE_ne ρ B (hne p (g4 p hp)))]
      exact g1
  · rcases hrow s y hs with ⟨rfl, rfl⟩ | ⟨hsq, hs2⟩
    · cases hw
    · rw [setE_ne ρ B hsq]
      rcases hrow p z hp with ⟨e1, _⟩ | ⟨hpq, hp2⟩
      · rw [e1, setE_same, hB]
        refine hd.ds s r0 y y0 hs2 hr0 (fun e => ?_) hw
        rw [e, hr0] at hs2
        cases hs2
        rw [hw0] at hw; cases hw
      · rw [setE_ne ρ B hpq]
        exact hd.ds s p y z hs2 hp2 hsp hw
  · rw [setE_ne ρ B (by
      rcases hs with hs | hs
      · omega
      · exact hne s (hd.ku s hs))]
    exact hd.e0 s hs
  · rw [setE_ne ρ B (by omega)]
    refine hd.gl g hg ?_
    have := hasN_iff.1 hu
    rcases List.mem_cons.1 this with e | h1
    · simp at e; omega
    · exact hasN_iff.2 h1
abbrev hWn (s : List UInt8) (id : Nat) : Hint := .call ⟨26, fun _ => #[stv s], .s (.lf (.clo 37 [id])), [], [], some (wndR s), []⟩
theorem wndR_ok (s : List UInt8) : pok (wndR s).ps := fun p hp => by simp at hp; subst hp; rfl
theorem hWn_ok (s : List UInt8) (id : Nat) : HintOk Try.prog id (hWn s id) := by
  refine call_ok ent26 trivial (fun p hp => by cases hp) fun ρ w _ => ?_
  refine At.calls (args := [.v (stv s)]) (rows := []) (gl := []) (wr := []) (ρ := fun _ => (⟨0, 0, 0⟩ : Blk)) Try.func26 rfl rfl (init_rw ⟨rfl, trivial⟩ rfl rfl rfl (fun p hp => by cases hp) (fun p hp => by cases hp) (fun p hp => by cases hp)) rfl ?_
  refine At.finR rfl [] trivial [] (rows2 := [(1000, ⟨[.one (.v (stv s))], true, none⟩)]) (x := .s (.lf (.clo 37 [1000]))) (ob := []) (by kernel_rfl) trivial fun ρ' w' hf _ _ hq => ?_
  obtain ⟨g1, _, g3⟩ := hq _ (List.mem_singleton.2 rfl)
  have hb : w.heap.size ≤ (ρ' 1000).1 := (g3 rfl).resolve_right (by simp)
  refine ⟨ρ' 1000, ?_, hf, (fun p hp => by cases hp), fun row hrw => ?_⟩
  · show Ending.returned ((TV.s (.lf (.clo 37 [1000]))).val ρ') = .returned ((TV.s (.lf (.clo 37 [id]))).val (setE ρ id (ρ' 1000)))
    simp [TV.val, SV.val, Lf.val, setE_same]
  · cases hrw
    refine ⟨hb, ?_, wndR_ok s⟩
    unfold RowAt at g1 ⊢
    rw [setE_same]
    obtain ⟨k1, k2, _, k4⟩ := g1
    exact ⟨k1, fun j v hv => ⟨(k2 j v hv).1, fun h => by cases h⟩, (fun e k he => by cases he), k4⟩
end
end Go.Proofs.Ytlofoeapfmcolaa
/- The program's Places. Its condition: lengths that fit. -/
namespace Go.Proofs.Ytlofoeapfmcolaa
open Go.RowKit Go.Shelf
set_option linter.unusedVariables false
set_option linter.unusedSimpArgs false
section
open E
/-- What the rounds over windows gather: the places told, and from where on the next one may be. -/
def stepG (s p : List UInt8) (a : List Nat × Nat) (x : Fin (s.length - 31)) : List Nat × Nat := if a.2 ≤ x.1 ∧ wnd s x.1 = p then (a.1 ++ [x.1], x.1 + 32) else a
def plG (s p : List UInt8) (xs : List (Fin (s.length - 31))) : List Nat × Nat := xs.foldl (stepG s p) ([], 0)
theorem plG_app (s p : List UInt8) (xs : List (Fin (s.length - 31))) (x) : plG s p (xs ++ [x]) = stepG s p (plG s p xs) x := by unfold plG; rw [List.foldl_append]; rfl
theorem plG_take {s p : List UInt8} (hp : p.length = 32) : ∀ k, k ≤ s.length - 31 → (plG s p ((List.finRange (s.length - 31)).take k)).1 ++ pl s p (max k (plG s p ((List.finRange (s.length - 31)).take k)).2) = pl s p 0
  | 0, _ => rfl
  | k + 1, hk => by
    have hlt : k < s.length - 31 := by omega
    have ht : (List.finRange (s.length - 31)).take (k + 1) = (List.finRange (s.length - 31)).take k ++ [⟨k, hlt⟩] := by
      rw [List.take_add_one, List.getElem?_eq_getElem (by simpa using hlt)]; simp
    have ih := plG_take (s := s) hp k (by omega)
    rw [ht, plG_app]
    generalize plG s p ((List.finRange (s.length - 31)).take k) = a at ih ⊢
    obtain ⟨l, f⟩ := a
    unfold stepG
    simp only at ih ⊢
    by_cases hf : f ≤ k
    · rw [show max k f = k by omega] at ih
      by_cases hw : wnd s k = p
      · rw [if_pos ⟨hf, hw⟩]
        rw [pl_yes (by omega) (by omega) (by rw [hp]; exact hw), hp] at ih
        show (l ++ [k]) ++ pl s p (max (k + 1) (k + 32)) = _
        rw [show max (k + 1) (k + 32) = k + 32 by omega, ← ih]; simp
      · rw [if_neg (fun h => hw h.2)]
        rw [pl_no (by omega) (by omega) (by rw [hp]; exact hw)] at ih
        show l ++ pl s p (max (k + 1) f) = _
        rw [show max (k + 1) f = k + 1 by omega]; exact ih
    · rw [if_neg (fun h => hf h.1)]
      show l ++ pl s p (max (k + 1) f) = _
      rw [show max (k + 1) f = max k f by omega]; exact ih
theorem plG_all {s p : List UInt8} (hp : p.length = 32) : (plG s p (List.finRange (s.length - 31))).1 = pl s p 0 := by
  have h := plG_take (s := s) hp (s.length - 31) (Nat.le_refl _)
  rw [List.take_of_length_le (by simp), pl_end (by omega), List.append_nil] at h
  exact h
theorem plG_len0 (s p : List UInt8) : ∀ (xs : List (Fin (s.length - 31))) (a : List Nat × Nat), (xs.foldl (stepG s p) a).1.length ≤ a.1.length + xs.length
  | [], _ => Nat.le_refl _
  | x :: xs, a => by
    have := plG_len0 s p xs (stepG s p a x)
    have h2 : (stepG s p a x).1.length ≤ a.1.length + 1 := by
      unfold stepG
      split
      · rw [List.length_append]; exact Nat.le_refl _
      · exact Nat.le_succ _
    show (xs.foldl (stepG s p) (stepG s p a x)).1.length ≤ a.1.length + (xs.length + 1)
    omega
theorem plG_len (s p : List UInt8) (xs : List (Fin (s.length - 31))) : (plG s p xs).1.length ≤ xs.length := by
  have := plG_len0 s p xs ([], 0)
  simpa [plG] using this
def dR (l : List Nat) : Nat → Row
  | 0 => noR
  | n + 1 => inR l (n + 1)
def slL (r : Nat) : Nat → Lf
  | 0 => .v nilS
  | n + 1 => .sl r 0 0 1 (n + 1) none
abbrev gR (s p : List UInt8) (l : List Nat) (n f : Nat) : List (Nat × Row) := [(2914, dR l n), (1000, ⟨[.one (.v (stv p))], true, none⟩), (4000, ⟨[.one (slL 2914 n)], true, none⟩), (5000, ⟨[.one (.v (.int .i64 (f : Int)))], true, none⟩), (6001, wndR s)]
abbrev gT : List (Nat × TV) := [(3, .s (.lf (.ptr 1000 0 0 0 0))), (5, .s (.lf (.ptr 4000 0 0 0 0))), (6, .s (.lf (.ptr 5000 0 0 0 0))), (13, .s (.lf (.clo 37 [6001])))]
theorem ent14 : Enters Try.prog 14 := enters_of Try.func14 (by kernel_rfl) rfl
theorem wnd_eq (s p : List UInt8) (k : Nat) : ((wnd s k).toArray.toList == p) = decide (wnd s k = p) := by
  rw [show (wnd s k).toArray.toList = wnd s k from rfl]
  by_cases h : wnd s k = p <;> simp [h]
set_option maxRecDepth 100000 in
theorem gplaces_any (s p : List UInt8) (hs : s.length ≤ 1000000) (hp : p.length ≤ 1000000) (w : World) : Calls Try.prog 14 #[stv s, stv p] w (IOut w (placesL s p)) := by
  refine At.calls (args := [.v (stv s), .v (stv p)]) (rows := []) (gl := []) (wr := []) (ρ := fun _ => (⟨0, 0, 0⟩ : Blk)) Try.func14 rfl rfl (init_rw ⟨rfl, rfl, trivial⟩ rfl rfl rfl (fun p hp => by cases hp) (fun p hp => by cases hp) (fun p hp => by cases hp)) rfl ?_
  cases hm : mayP p with
  | false =>
    have e : placesL s p = [] := by unfold placesL; rw [hm, if_neg (by simp)]
    rw [e]
    exact At.fin rfl [(2001, hMy p false)] ⟨hMy_ok _ _ _ (by omega) hm, trivial⟩ [.y] (x := .v nilS) (ob := [qL (hMy p false), [true = true]].flatten) (by kernel_rfl) (all_flat ⟨all_qL _, ⟨rfl, trivial⟩, trivial⟩) fun ρ' w' hf _ => ⟨hf, .inl ⟨rfl, rfl⟩⟩
  | true =>
    have e : placesL s p = pl s p 0 := by unfold placesL; rw [hm, if_pos rfl]
    rw [e]
    have hp32 := may_len hm
    refine At.run rfl [(2001, hMy p true), (6001, hWn s 6001)] ⟨hMy_ok _ _ _ (by omega) hm, hWn_ok _ _, trivial⟩ [.n] (tm2 := gT) (rows2 := [(1000, ⟨[.one (.v (stv p))], true, none⟩), (4000, ⟨[.one (.v nilS)], true, none⟩), (5000, ⟨[.one (.v (.int .i64 0))], true, none⟩), (6001, wndR s)]) (ob := [qL (hMy p true), [false = false], qL (hWn s 6001)].flatten) (td := rg Try.f14 0) (by kernel_rfl) (all_flat ⟨all_qL _, ⟨rfl, trivial⟩, all_qL _, trivial⟩) rfl rfl (by intro h; cases h) ?_
    refine E.At.dummy 2914 6001 (wndR s) rfl rfl rfl ?_
    refine At.rangeAt (α := Fin (s.length - 31)) (gf := 37) (rs := [6001]) [1000, 4000, 5000, 6001] [6001] (fun x => [.int .i64 (x.1 : Int), .v (stv (wnd s x.1))]) (S := fun xs => xs = List.finRange (s.length - 31)) (Sp := fun _ => True) (N := s.length - 31) (fun xs => gR s p (plG s p xs).1 (plG s p xs).1.length (plG s p xs).2) (fun _ _ => none) (fun x => (7, .int .i64 (x.1 : Int)) :: (8, .v (stv (wnd s x.1))) :: gT)
      rfl rfl ent37 (fun ρ w h => ?_) rfl (fun _ => rfl) (fun _ _ _ h => by cases h) (fun xs => ?_) rfl rfl (fun _ => rfl) (fun x => ⟨rfl, ⟨rfl, rfl, trivial⟩, rfl⟩) (fun x pre => ?_) ?_ ?_ At.stop0
    · have h6 : RowAt (fun _ => ρ 6001) 0 (wndR s) w := by
        have := h 6001 (wndR s) rfl
        unfold RowAt at this ⊢
        exact this
      have h1 := wnd_stops s (by omega) w (fun _ => ρ 6001) (fun W hW => rowAt_keep h6 (Fr.of_below hW []).size ((Fr.of_below hW []).block _ h6.1 (by simp)))
      have e1 : (fun W W' : World => ∀ r ∈ [0], W'.heap[((fun _ : Nat => ρ 6001) r).1]? = W.heap[((fun _ : Nat => ρ 6001) r).1]?) = fun W W' => ∀ r ∈ [6001], W'.heap[(ρ r).1]? = W.heap[(ρ r).1]? := by funext W W'; simp
      rw [e1] at h1
      exact h1
    · generalize (plG s p xs).1.length = n
      cases n <;> rfl
    · kernel_rfl
    · intro l pre x W σ hpl _
      have hln := plG_len s p pre
      have hx := x.2
      show At Try.prog W ⟨wlOf σ (gR s p (plG s p pre).1 (plG s p pre).1.length (plG s p pre).2), σ, [1000, 4000, 5000, 6001]⟩ Try.f14.ntmps [] [.code (hdBody (rg Try.f14 0))] (RoundQ W ⟨wlOf σ (gR s p (plG s p pre).1 (plG s p pre).1.length (plG s p pre).2), σ, [1000, 4000, 5000, 6001]⟩ (nxt (fun xs => gR s p (plG s p xs).1 (plG s p xs).1.length (plG s p xs).2) (fun _ _ => none) (pre ++ [x]))) ((7, .int .i64 (x.1 : Int)) :: (8, .v (stv (wnd s x.1))) :: gT) (gR s p (plG s p pre).1 (plG s p pre).1.length (plG s p pre).2) (some l) []
      obtain ⟨L, f, hLf⟩ : ∃ L f, plG s p pre = (L, f) := ⟨_, _, rfl⟩
      have happ : plG s p (pre ++ [x]) = stepG s p (L, f) x := by rw [plG_app, hLf]
      rw [hLf] at hln ⊢
      simp only at hln ⊢
      by_cases hf : f ≤ x.1
      · have hd : TV.v (.bool (decide ((x.1 : Int) ≥ (f : Int)))) = TV.v (.bool true) := by rw [decide_eq_true (by omega)]
        by_cases hw : wnd s x.1 = p
        · have hq : ((wnd s x.1).toArray.toList == p) = true := by rw [wnd_eq, decide_eq_true hw]
          have hst : stepG s p (L, f) x = (L ++ [x.1], x.1 + 32) := by unfold stepG; rw [if_pos ⟨hf, hw⟩]
          have e32 : (Value.int .i64 ((x.1 : Int) + 32)) = .int .i64 ((x.1 + 32 : Nat) : Int) := by congr 1
          obtain ⟨n, hn⟩ : ∃ n, n = L.length := ⟨_, rfl⟩
          rw [← hn]
          cases n with
          | zero =>
            obtain rfl : L = [] := List.length_eq_zero_iff.1 hn.symm
            refine At.finB rfl [(2009003, .val (.v (.bool true)))] ⟨trivial, trivial⟩ [.y] [(2914, 10003)] (e := .normal) (rows2 := [(2914, ⟨[.fnc (fun q => chunkF [.int .i64 (x.1 : Int)] 1 1 (addN 0 q)) 1 1], true, some (3, 1)⟩), (1000, ⟨[.one (.v (stv p))], true, none⟩), (4000, ⟨[.one (.sl 2914 0 0 1 1 none)], true, none⟩), (5000, ⟨[.one (.v (.int .i64 ((x.1 : Int) + 32)))], true, none⟩), (6001, wndR s)])
              (rows3 := gR s p [x.1] 1 (x.1 + 32)) (ob := [TV.v (.bool (decide ((x.1 : Int) ≥ (f : Int)))) = TV.v (.bool true), ((wnd s x.1).toArray.toList == p) = true, 0 < 1, 1 ≤ 9223372036854775807, 8 ≤ 140737488355328, 1 ≤ 1, inI ((x.1 : Int) + 32)]) (by kernel_rfl) ⟨hd, hq, by decide, by decide, by decide, by decide, ⟨by omega, by omega⟩, trivial⟩ ?_ ?_ rfl rfl
            · rw [e32]; exact rowsEq_fnc (in_one x.1) (rowsEq_same (rowsEq_same (rowsEq_same (rowsEq_same trivial))))
            · show some (gR s p (plG s p (pre ++ [x])).1 (plG s p (pre ++ [x])).1.length (plG s p (pre ++ [x])).2) = _
              rw [happ, hst]; rfl
          | succ n =>
            refine At.finB rfl [(2009003, .val (.v (.bool true)))] ⟨trivial, trivial⟩ [.y] [(2914, 10003)] (e := .normal) (rows2 := [(2914, ⟨[.fnc (appF (inF L) (n + 1) fun q => chunkF [.int .i64 (x.1 : Int)] 1 1 (addN 0 q)) 1 (n + 1 + 1)], true, some (3, 1)⟩), (1000, ⟨[.one (.v (stv p))], true, none⟩), (4000, ⟨[.one (.sl 2914 0 0 1 (n + 1 + 1) none)], true, none⟩), (5000, ⟨[.one (.v (.int .i64 ((x.1 : Int) + 32)))], true, none⟩), (6001, wndR s)])
              (rows3 := gR s p (L ++ [x.1]) (n + 1 + 1) (x.1 + 32)) (ob := [TV.v (.bool (decide ((x.1 : Int) ≥ (f : Int)))) = TV.v (.bool true), ((wnd s x.1).toArray.toList == p) = true, n + 1 = n + 1, n + 1 + 1 ≤ 9223372036854775807, (n + 1 + 1) * 8 ≤ 140737488355328, 1 ≤ 1, inI ((x.1 : Int) + 32)]) (by kernel_rfl) ⟨hd, hq, rfl, by omega, by omega, by decide, ⟨by omega, by omega⟩, trivial⟩ ?_ ?_ rfl rfl
            · rw [e32]; exact rowsEq_fnc (in_step L (n + 1) x.1 hn) (rowsEq_same (rowsEq_same (rowsEq_same (rowsEq_same trivial))))
            · show some (gR s p (plG s p (pre ++ [x])).1 (plG s p (pre ++ [x])).1.length (plG s p (pre ++ [x])).2) = _
              rw [happ, hst]
              show some (gR s p (L ++ [x.1]) (L ++ [x.1]).length (x.1 + 32)) = _
              rw [List.length_append, ← hn]; rfl
        · have hq : ((wnd s x.1).toArray.toList == p) = false := by rw [wnd_eq, decide_eq_false hw]
          have hst : stepG s p (L, f) x = (L, f) := by unfold stepG; rw [if_neg (fun h => hw h.2)]
          generalize hn : L.length = n
          refine At.finB rfl [(2009003, .val (.v (.bool true)))] ⟨trivial, trivial⟩ [.n] [] (e := .normal) (rows2 := gR s p L n f) (rows3 := gR s p L n f) (ob := [TV.v (.bool (decide ((x.1 : Int) ≥ (f : Int)))) = TV.v (.bool true), ((wnd s x.1).toArray.toList == p) = false]) (by cases n <;> kernel_rfl) ⟨hd, hq, trivial⟩ (rowsEq_same (rowsEq_same (rowsEq_same (rowsEq_same (rowsEq_same trivial))))) ?_ rfl rfl
          show some (gR s p (plG s p (pre ++ [x])).1 (plG s p (pre ++ [x])).1.length (plG s p (pre ++ [x])).2) = _
          rw [happ, hst, ← hn]
      · have hd : TV.v (.bool (decide ((x.1 : Int) ≥ (f : Int)))) = TV.v (.bool false) := by rw [decide_eq_false (by omega)]
        have hst : stepG s p (L, f) x = (L, f) := by unfold stepG; rw [if_neg (fun h => hf h.1)]
        generalize hn : L.length = n
        refine At.finB rfl [(2009003, .val (.v (.bool false)))] ⟨trivial, trivial⟩ [.d] [] (e := .normal) (rows2 := gR s p L n f) (rows3 := gR s p L n f) (ob := [TV.v (.bool (decide ((x.1 : Int) ≥ (f : Int)))) = TV.v (.bool false)]) (by cases n <;> kernel_rfl) ⟨hd, trivial⟩ (rowsEq_same (rowsEq_same (rowsEq_same (rowsEq_same (rowsEq_same trivial))))) ?_ rfl rfl
        show some (gR s p (plG s p (pre ++ [x])).1 (plG s p (pre ++ [x])).1.length (plG s p (pre ++ [x])).2) = _
        rw [happ, hst, ← hn]
    · rintro D xs rfl
      rw [← plG_all hp32]
      obtain ⟨L, f, hLf⟩ : ∃ L f, plG s p (List.finRange (s.length - 31)) = (L, f) := ⟨_, _, rfl⟩
      rw [hLf]
      show At Try.prog w nB Try.f14.ntmps [] (rg Try.f14 0).tail (EndX Try.prog Try.f14 (IOut w L)) gT (gR s p L L.length f) none [D]
      obtain ⟨n, hn⟩ : ∃ n, n = L.length := ⟨_, rfl⟩
      rw [← hn]
      cases n with
      | zero =>
        obtain rfl : L = [] := List.length_eq_zero_iff.1 hn.symm
        exact At.fin rfl [] trivial [] (x := .v nilS) (ob := []) (by kernel_rfl) trivial fun ρ' w' hf _ => ⟨hf, .inl ⟨rfl, rfl⟩⟩
      | succ n =>
        refine At.finR rfl [] trivial [] (rows2 := [(2914, inR L (n + 1))]) (x := .s (.lf (.sl 2914 0 0 1 (n + 1) none))) (ob := []) (by kernel_rfl) trivial fun ρ' w' hf he _ hq => ?_
        obtain ⟨g1, _, g3⟩ := hq _ (List.mem_singleton.2 rfl)
        exact iout_row hf g1 hn ((g3 rfl).resolve_right (by simp))
end
end Go.Proofs.Ytlofoeapfmcolaa
/- The program's Change. Its condition: lengths that fit. -/
namespace Go.Proofs.Ytlofoeapfmcolaa
open Go.RowKit Go.Shelf
set_option linter.unusedVariables false
set_option linter.unusedSimpArgs false
section
open E
/-- An operation of which the run is told. -/
theorem E.xOp_ok {P : Program} {ops : Array Oper} {r : Option Nat} {m : Nat} {K : Act → World → Prop} {QQ : Exit → Act → World → Prop} {a : Act} {w w' : World} {o : Oper} {d : Tmp} {v : Value} (hnd : noDef ops = true) (ho : ops[m]? = some o) (hd : o.dst = some d) (hg : o.guard = none)
    (h : (execOp a.eval o).run P w = .ok (.value v) w') (hK : K (a.put (some d) v) w') : wpOpIn (FW r) 5 P ops QQ m K a w := by
  unfold wpOpIn
  rw [ho]
  simp only
  rw [if_pos (by unfold Region.wanted; rw [hg])]
  exact wpIn_of_wp (noDef_ok hnd ho) (wp_val h (by rw [hd]; exact hK))
theorem putL_len {b p : List UInt8} {i : Nat} (h : i + p.length ≤ b.length) : (putL b p i).length = b.length := by
  unfold putL
  rw [List.length_append, List.length_append, List.length_take, List.length_drop]
  omega
theorem putL_getD {b p : List UInt8} {i q : Nat} (h : i + p.length ≤ b.length) : (putL b p i).getD q 0 = if i ≤ q ∧ q < i + p.length then p.getD (q - i) 0 else b.getD q 0 := by
  unfold putL
  simp only [List.getD_eq_getElem?_getD]
  by_cases h1 : q < i
  · rw [if_neg (by omega), List.getElem?_append_left (by rw [List.length_take]; omega), List.getElem?_take, if_pos h1]
  · rw [List.getElem?_append_right (by rw [List.length_take]; omega), List.length_take, show min i b.length = i by omega]
    by_cases h2 : q < i + p.length
    · rw [if_pos (by omega), List.getElem?_append_left (by omega)]
    · rw [if_neg (by omega), List.getElem?_append_right (by omega), List.getElem?_drop, show i + p.length + (q - i - p.length) = q by omega]
theorem putL_row {b p : List UInt8} {x c : Nat} (h : x + p.length ≤ b.length) (hp : 0 < p.length) (hc : b.length ≤ c) : ∀ q, q < b.length → copyF (byteF b) (bif Nat.beq c (x : Int).toNat then 0 else 0 + (x : Int).toNat) (p.length.min (b.length - (x : Int).toNat)) (byteF p) q = byteF (putL b p x) q := by
  intro q hq
  rw [Int.toNat_natCast]
  have e1 : Nat.beq c x = false := by
    cases hb : Nat.beq c x with
    | false => rfl
    | true => have := Nat.eq_of_beq_eq_true hb; omega
  have e2 : p.length.min (b.length - x) = p.length := Nat.min_eq_left (by omega)
  rw [e1, e2, cond_false, Nat.zero_add]
  show _ = [Value.int .u8 (((putL b p x).getD q 0).toNat : Int)]
  rw [putL_getD h]
  by_cases hi : x ≤ q ∧ q < x + p.length
  · rw [copyF_in hi.1 hi.2, if_pos hi]; rfl
  · rw [copyF_out (by omega), if_neg hi]; rfl
abbrev byR (b : List UInt8) (n : Nat) : Row := ⟨[.fnc (byteF b) 1 n], true, none⟩
theorem byR_ok (b : List UInt8) (n : Nat) : pok (byR b n).ps := pok1 fun i => ⟨rfl, fun v hv => by obtain rfl := List.mem_singleton.1 hv; rfl⟩
/-- What the first rounds make of a text. -/
abbrev putN (s p : List UInt8) (L : List Nat) (i : Nat) : List UInt8 := (L.take i).foldl (fun b i => putL b p i) s
theorem putN_len {s p : List UInt8} : ∀ {L : List Nat}, (∀ x ∈ L, x + p.length ≤ s.length) → (L.foldl (fun b i => putL b p i) s).length = s.length
  | [], _ => rfl
  | x :: L, h => by
    have h1 := putL_len (h x (List.mem_cons_self ..))
    show (L.foldl (fun b i => putL b p i) (putL s p x)).length = _
    rw [putN_len (s := putL s p x) (L := L) (fun y hy => by rw [h1]; exact h y (List.mem_cons_of_mem _ hy)), h1]
theorem putN_step {s p : List UInt8} {L : List Nat} {i : Nat} (h : i < L.length) : putN s p L (i + 1) = putL (putN s p L i) p (L.getD i 0) := by
  unfold putN
  rw [List.take_add_one, List.getElem?_eq_getElem h, List.foldl_append, List.getD_eq_getElem?_getD, List.getElem?_eq_getElem h]; rfl
theorem places_bnd {s o : List UInt8} : ∀ x ∈ placesL s o, x + 32 ≤ s.length := by
  intro x hx
  unfold placesL at hx
  by_cases hm : mayP o = true
  · rw [if_pos hm] at hx
    have hl := may_len hm
    have := ((pl_bnd s o (by omega) s.length 0 (by omega)).2 x hx).2
    omega
  · rw [if_neg hm] at hx; cases hx
theorem changeL_eq (s o p : List UInt8) : changeL s o p = if mayP p = true then (placesL s o).foldl (fun b i => putL b p i) s else s := by
  unfold changeL
  by_cases hp : mayP p = true
  · rw [if_pos hp]
    by_cases ho : mayP o = true
    · rw [if_pos (by rw [ho, hp]; rfl)]
    · have : placesL s o = [] := by unfold placesL; rw [if_neg ho]
      rw [if_neg (by simp [ho]), this]; rfl
  · rw [if_neg hp, if_neg (by simp [hp])]
theorem ent16 : Enters Try.prog 16 := enters_of Try.func16 (by kernel_rfl) rfl
abbrev enC (x : World × Nat × Nat) : Env := fun _ => ⟨x.2.1, 0, x.2.2⟩
abbrev sl1 (n c : Nat) : TV := .s (.lf (.sl 2001 0 0 1 n (some c)))
set_option maxRecDepth 100000 in
theorem gchange_any (s o p : List UInt8) (hs : s.length ≤ 1000000) (ho : o.length ≤ 1000000) (hp : p.length ≤ 1000000) (w : World) : Calls Try.prog 16 #[stv s, stv o, stv p] w fun e w' => e = .returned (stv (changeL s o p)) ∧ Fr w [] w' := by
  refine At.calls (args := [.v (stv s), .v (stv o), .v (stv p)]) (rows := []) (gl := []) (wr := []) (ρ := fun _ => (⟨0, 0, 0⟩ : Blk)) Try.func16 rfl rfl (init_rw ⟨rfl, rfl, rfl, trivial⟩ rfl rfl rfl (fun p hp => by cases hp) (fun p hp => by cases hp) (fun p hp => by cases hp)) rfl ?_
  refine At.run rfl [(2002000, .val (.tup []))] ⟨trivial, trivial⟩ [] (tm2 := [(0, .v (stv s)), (1, .v (stv o)), (2, .v (stv p))]) (rows2 := []) (ob := []) (td := rp Try.f16 1) (by kernel_rfl) trivial rfl rfl (by intro h; cases h) ?_
  refine At.opX (α := World × Nat × Nat) 1 11 [] trivial (fun x => x.1) (fun x => ⟨wlOf (enC x) [(2001, byR s s.length)], enC x, []⟩) (fun x => [(0, .v (stv s)), (1, .v (stv o)), (2, .v (stv p)), (11, sl1 s.length x.2.2)]) (fun x => [(0, .v (stv s)), (1, .v (stv o)), (2, .v (stv p)), (7, sl1 s.length x.2.2)]) (fun _ => [(2001, byR s s.length)]) (fun _ => [(2001, byR s s.length)]) (fun x => w.heap.size ≤ x.2.1 ∧ Fr w [] x.1 ∧ s.length ≤ x.2.2) rfl (tm1 := [(0, .v (stv s)), (1, .v (stv o)), (2, .v (stv p)), (10, .v (stv s))]) (rows1 := []) (o1 := []) (o2 := fun _ => []) (by kernel_rfl) trivial rfl ?_ (fun x _ => by kernel_rfl) (fun x _ => trivial) (fun x => rfl) (fun x hx => ?_)
  · intro a' w1 ρ K QQ hden hk
    have h10 : a'.eval (.tmp 10) = stv s := (evalO_ok hden (x := .tmp 10) (y := .v (stv s)) rfl).1
    obtain ⟨oo, hoo, hop, hdst, hgd⟩ : ∃ oo : Oper, (hdOps (rp Try.f16 1))[1]? = some oo ∧ oo.op = .convert 9 31 (.tmp 10) ∧ oo.dst = some 11 ∧ oo.guard = none := ⟨(hdOps (rp Try.f16 1)).getD 1 default, by kernel_rfl, by kernel_rfl, by kernel_rfl, by kernel_rfl⟩
    obtain ⟨w', ρ', hrun, hpost⟩ := toB_ok (P := Try.prog) (id := 2001) (src := 9) (dst := 31) (s := ⟨s.toArray⟩) (ρ := ρ) (w := w1) (e := ⟨[], .s (.lf (.sl 2001 0 0 1 s.length none)), [(2001, byR s s.length)], []⟩) (by kernel_rfl)
    have hrun2 := run_bytes_of_string (P := Try.prog) w1 9 31 5 ⟨s.toArray⟩ (by kernel_rfl) (by kernel_rfl) (by kernel_rfl)
    have heq := hrun.symm.trans hrun2
    obtain ⟨hv, hw⟩ : (TV.s (.lf (.sl 2001 0 0 1 s.length none))).val ρ' = .slice (some ⟨w1.heap.size, 0, none⟩) s.length (grownCap w1 s.length 0 5) ∧ True := by
      simp only [Result.ok.injEq] at heq
      exact ⟨heq.1, trivial⟩
    have hv2 : Value.slice (some ⟨(ρ' 2001).1, (ρ' 2001).2 + (0 + 0 * 1), none⟩) s.length ((ρ' 2001).3 - 0) = .slice (some ⟨w1.heap.size, 0, none⟩) s.length (grownCap w1 s.length 0 5) := hv
    simp only [Value.slice.injEq, Option.some.injEq, Addr.mk.injEq, Nat.zero_add, Nat.mul_one, Nat.add_zero, Nat.sub_zero, and_true, true_and] at hv2
    obtain ⟨⟨b1, b2⟩, b3⟩ := hv2
    have hge := grownCap_ge w1 s.length 0 5
    have hB : ρ' 2001 = enC (w', w1.heap.size, grownCap w1 s.length 0 5) 2001 := by
      show ρ' 2001 = ⟨w1.heap.size, 0, grownCap w1 s.length 0 5⟩
      have : ρ' 2001 = ⟨(ρ' 2001).1, (ρ' 2001).2, (ρ' 2001).3⟩ := rfl
      rw [this, b1, b2, b3]
    obtain ⟨hrow, _⟩ := hpost.puts _ (List.mem_singleton.2 rfl)
    have hfr : Fr w1 [] w' := hpost.fr
    refine E.xOp_ok (o := oo) (d := 11) (v := (TV.s (.lf (.sl 2001 0 0 1 s.length none))).val ρ') (w' := w') rfl hoo hdst hgd ?_ ?_
    · simp only [execOp, hop, h10]
      rw [Sem.run_bind, hrun]
      rfl
    · refine hk (w', w1.heap.size, grownCap w1 s.length 0 5) _ w' (enC (w', w1.heap.size, grownCap w1 s.length 0 5)) ⟨hden.fr.size, hden.fr.comp hfr (fun x hx => by cases hx), hge⟩ (E.den_again (d := 11) (tm' := [(0, .v (stv s)), (1, .v (stv o)), (2, .v (stv p)), (11, sl1 s.length (grownCap w1 s.length 0 5))]) (rows2 := [(2001, byR s s.length)]) (K := []) hden (by decide) (fun p hp => ?_) rfl (fun p hp => ?_) (fun p hp q hq hpq hw => ?_) rfl rfl)
      · simp only [List.mem_cons, List.not_mem_nil, or_false] at hp
        rcases hp with rfl | rfl | rfl | rfl
        · exact .inr ⟨(show (0 : Nat) ≠ 11 by decide), rfl, fun r hr => by cases hr⟩
        · exact .inr ⟨(show (1 : Nat) ≠ 11 by decide), rfl, fun r hr => by cases hr⟩
        · exact .inr ⟨(show (2 : Nat) ≠ 11 by decide), rfl, fun r hr => by cases hr⟩
        · exact .inl ⟨rfl, hv, trivial⟩
      · obtain rfl := List.mem_singleton.1 hp
        exact ⟨rowAt_mv hrow hB.symm, byR_ok _ _⟩
      · obtain rfl := List.mem_singleton.1 hp
        obtain rfl := List.mem_singleton.1 hq
        exact absurd rfl hpq
  · obtain ⟨W1, B, c⟩ := x
    obtain ⟨hB, hf1, hc⟩ := hx
    simp only at hB hf1 hc ⊢
    have hwl : wlOf (enC (W1, B, c)) [(2001, byR s s.length)] = [B] := rfl
    rw [hwl]
    show At Try.prog W1 ⟨[B], enC (W1, B, c), []⟩ Try.f16.ntmps [] (rp Try.f16 1).tail (EndX Try.prog Try.f16 fun e w' => e = .returned (stv (changeL s o p)) ∧ Fr w [] w') [(0, .v (stv s)), (1, .v (stv o)), (2, .v (stv p)), (7, sl1 s.length c)] [(2001, byR s s.length)] none []
    have hcomp : ∀ {w' : World}, Fr W1 [B] w' → Fr w [] w' := fun hf => hf1.comp hf (fun x hx => by obtain rfl := List.mem_singleton.1 hx; exact .inr hB)
    cases hm : mayP p with
    | false =>
      have e : changeL s o p = s := by rw [changeL_eq, hm, if_neg (by simp)]
      rw [e]
      have hv : TV.v (stv (List.map (fun q => ubyte (byteF s (addN 0 q))) (List.range s.length))) = TV.v (stv s) := tv_str (str_of_bytes s)
      exact At.fin rfl [(3001, hMy p false), (2009001, .val (.v (stv s)))] ⟨hMy_ok _ _ _ (by omega) hm, trivial, trivial⟩ [.n] (x := .v (stv s)) (ob := [qL (hMy p false), [false = false, TV.v (stv (List.map (fun q => ubyte (byteF s (addN 0 q))) (List.range s.length))) = TV.v (stv s), 0 + s.length ≤ s.length, ∀ q, q < s.length → ∃ d : UInt8, byteF s (addN 0 q) = [.int .u8 (d.toNat : Int)]]].flatten) (by kernel_rfl) (all_flat ⟨all_qL _, ⟨rfl, hv, by omega, bytes_q s, trivial⟩, trivial⟩) fun ρ' w' hf _ => ⟨rfl, hcomp hf⟩
    | true =>
      have hp32 := may_len hm
      have e : changeL s o p = (placesL s o).foldl (fun b i => putL b p i) s := by rw [changeL_eq, hm, if_pos rfl]
      rw [e]
      obtain ⟨L, hL⟩ : ∃ L, L = placesL s o := ⟨_, rfl⟩
      have hLb : ∀ x ∈ L, x + p.length ≤ s.length := fun x hx => by rw [hp32]; rw [hL] at hx; exact places_bnd x hx
      rw [← hL]
      have hend : ∀ (b : List UInt8), b.length = s.length → TV.v (stv (List.map (fun q => ubyte (byteF b (addN 0 q))) (List.range s.length))) = TV.v (stv b) := fun b hb => tv_str (by rw [← hb]; exact str_of_bytes b)
      have hby : ∀ (b : List UInt8), b.length = s.length → ∀ q, q < s.length → ∃ d : UInt8, byteF b (addN 0 q) = [.int .u8 (d.toNat : Int)] := fun b hb q hq => bytes_q b q (by omega)
      by_cases h0 : L = []
      · have hk : HintOk Try.prog 4002 (hI0 14 (fun _ => #[stv s, stv o]) []) := hI0_of ent14 fun ρ w _ => by
          have := gplaces_any s o hs ho w
          rw [← hL, h0] at this
          exact this
        rw [h0]
        exact At.fin rfl [(3001, hMy p true), (4002, hI0 14 (fun _ => #[stv s, stv o]) []), (2009001, .val (.v (stv s)))] ⟨hMy_ok _ _ _ (by omega) hm, hk, trivial, trivial⟩ [.y, .u, .d] (x := .v (stv s)) (ob := [qL (hMy p true), [true = true], qL (hI0 14 (fun _ => #[stv s, stv o]) []), [TV.v (stv (List.map (fun q => ubyte (byteF s (addN 0 q))) (List.range s.length))) = TV.v (stv s), 0 + s.length ≤ s.length, ∀ q, q < s.length → ∃ d : UInt8, byteF s (addN 0 q) = [.int .u8 (d.toNat : Int)]]].flatten) (by kernel_rfl) (all_flat ⟨all_qL _, ⟨rfl, trivial⟩, all_qL _, ⟨hend s rfl, by omega, hby s rfl, trivial⟩, trivial⟩) fun ρ' w' hf _ => ⟨rfl, hcomp hf⟩
      · have hk : HintOk Try.prog 4002 (hI1 14 (fun _ => #[stv s, stv o]) [] 4002 L) := hI1_of h0 ent14 fun ρ w _ => by
          have := gplaces_any s o hs ho w
          rw [← hL] at this
          exact this
        have hLl : L.length ≤ 1000000 := by
          rw [hL]
          unfold placesL
          split
          · rename_i hmo
            have := may_len hmo
            exact Nat.le_trans (pl_len s o (by omega) 0) hs
          · exact Nat.zero_le _
        have hlen : ∀ i, (putN s p L i).length = s.length := fun i => putN_len fun x hx => hLb x (List.mem_of_mem_take hx)
        have hloop : ∀ i : Nat, i ≤ L.length → At Try.prog W1 ⟨[B], enC (W1, B, c), []⟩ Try.f16.ntmps [] (lp Try.f16 0) (EndX Try.prog Try.f16 fun e w' => e = .returned (stv (L.foldl (fun b i => putL b p i) s)) ∧ Fr w [] w') [(2, .v (stv p)), (7, sl1 s.length c), (16, .s (.lf (.sl 4002 0 0 1 L.length none))), (17, .int .i64 (L.length : Int)), (18, .int .i64 (i : Int))] [(2001, byR (putN s p L i) s.length), (4002, inR L L.length)] := by
          refine At.loop (fun i : Nat => [(2, .v (stv p)), (7, sl1 s.length c), (16, .s (.lf (.sl 4002 0 0 1 L.length none))), (17, .int .i64 (L.length : Int)), (18, .int .i64 (i : Int))]) (fun i => [(2001, byR (putN s p L i) s.length), (4002, inR L L.length)]) (fun i => i ≤ L.length) (fun i => L.length - i) fun i hi ih => ?_
          by_cases hlt : i < L.length
          · obtain ⟨x, hx⟩ : ∃ x, x = L.getD i 0 := ⟨_, rfl⟩
            have hxm : x ∈ L := by rw [hx, List.getD_eq_getElem?_getD, List.getElem?_eq_getElem hlt]; exact List.getElem_mem hlt
            have hxb := hLb x hxm
            have hv : TV.int .i64 ((L.getD (addN 0 (i : Int).toNat) 0 : Nat) : Int) = TV.int .i64 ((x : Nat) : Int) := by rw [hx, addN_eq, Nat.zero_add, Int.toNat_natCast]
            have hidx : addN 0 (i : Int).toNat < L.length := by rw [addN_eq]; omega
            have hsl : (bif Nat.beq c (x : Int).toNat then 0 else 0 + (x : Int).toNat) + (s.length - (x : Int).toNat) ≤ s.length := by
              cases Nat.beq c (x : Int).toNat <;> simp <;> omega
            have hst := putN_step (s := s) (p := p) hlt
            rw [← hx] at hst
            refine At.run rfl [(2006001, .val (.int .i64 ((x : Nat) : Int)))] ⟨trivial, trivial⟩ [.y] (tm2 := [(2, .v (stv p)), (7, sl1 s.length c), (16, .s (.lf (.sl 4002 0 0 1 L.length none))), (17, .int .i64 (L.length : Int)), (18, .int .i64 ((i + 1 : Nat) : Int))]) (rows2 := [(2001, ⟨[.fnc (copyF (byteF (putN s p L i)) (bif Nat.beq c (x : Int).toNat then 0 else 0 + (x : Int).toNat) (p.length.min (s.length - (x : Int).toNat)) (byteF p)) 1 s.length], true, none⟩), (4002, inR L L.length)])
              (ob := [decide ((i : Int) < (L.length : Int)) = true, 0 ≤ (i : Int) ∧ (i : Int) < (L.length : Int), TV.int .i64 ((L.getD (addN 0 (i : Int).toNat) 0 : Nat) : Int) = TV.int .i64 ((x : Nat) : Int), addN 0 (i : Int).toNat < L.length, 0 ≤ (x : Int) ∧ (x : Int) ≤ (s.length : Int), s.length ≤ c, (bif Nat.beq c (x : Int).toNat then 0 else 0 + (x : Int).toNat) + (s.length - (x : Int).toNat) ≤ s.length, inI ((i : Int) + 1)]) (td := lp Try.f16 0) (by kernel_rfl) ⟨decide_eq_true (by omega), ⟨by omega, by omega⟩, hv, hidx, ⟨by omega, by omega⟩, hc, hsl, ⟨by omega, by omega⟩, trivial⟩ rfl rfl (by intro h; cases h) ?_
            refine At.rows (rows2 := [(2001, byR (putN s p L (i + 1)) s.length), (4002, inR L L.length)]) (rowsEq_fnc (fun q hq => ?_) (rowsEq_same trivial)) rfl (ih (i + 1) hlt (by omega))
            rw [hst]
            have := putL_row (b := putN s p L i) (p := p) (x := x) (c := c) (by rw [hlen]; omega) (by omega) (by rw [hlen]; exact hc) q (by rw [hlen]; exact hq)
            rw [hlen] at this
            exact this
          · obtain rfl : i = L.length := by omega
            have hb : L.foldl (fun b i => putL b p i) s = putN s p L L.length := by unfold putN; rw [List.take_length]
            rw [hb]
            obtain ⟨b, hbb⟩ : ∃ b, b = putN s p L L.length := ⟨_, rfl⟩
            have hbl : b.length = s.length := by rw [hbb, hlen]
            rw [← hbb]
            exact At.fin rfl [(2009001, .val (.v (stv b)))] ⟨trivial, trivial⟩ [.n] (x := .v (stv b)) (ob := [decide ((L.length : Int) < (L.length : Int)) = false, TV.v (stv (List.map (fun q => ubyte (byteF b (addN 0 q))) (List.range s.length))) = TV.v (stv b), 0 + s.length ≤ s.length, ∀ q, q < s.length → ∃ d : UInt8, byteF b (addN 0 q) = [.int .u8 (d.toNat : Int)]]) (by kernel_rfl) ⟨decide_eq_false (by omega), hend b hbl, by omega, hby b hbl, trivial⟩ fun ρ' w' hf _ => ⟨rfl, hcomp hf⟩
        exact At.run rfl [(3001, hMy p true), (4002, hI1 14 (fun _ => #[stv s, stv o]) [] 4002 L)] ⟨hMy_ok _ _ _ (by omega) hm, hk, trivial⟩ [.y] (tm2 := [(2, .v (stv p)), (7, sl1 s.length c), (16, .s (.lf (.sl 4002 0 0 1 L.length none))), (17, .int .i64 (L.length : Int)), (18, .int .i64 ((0 : Nat) : Int))]) (rows2 := [(2001, byR (putN s p L 0) s.length), (4002, inR L L.length)]) (ob := [qL (hMy p true), [true = true], qL (hI1 14 (fun _ => #[stv s, stv o]) [] 4002 L)].flatten) (td := lp Try.f16 0) (by kernel_rfl) (all_flat ⟨all_qL _, ⟨rfl, trivial⟩, all_qL _, trivial⟩) rfl rfl (by intro h; cases h) (hloop 0 (Nat.zero_le _))
abbrev hCh (s o p r : List UInt8) : Hint := .call ⟨16, fun _ => #[stv s, stv o, stv p], .v (stv r), [], [], none, []⟩
theorem hCh_ok (id : Nat) (s o p r : List UInt8) (hs : s.length ≤ 1000000) (ho : o.length ≤ 1000000) (hp : p.length ≤ 1000000) (h : changeL s o p = r) : HintOk Try.prog id (hCh s o p r) := by
  refine call_ok ent16 rfl (fun p hp => by cases hp) fun ρ w _ => (gchange_any s o p hs ho hp w).mono ?_
  rintro e w' ⟨rfl, hf⟩
  exact ⟨⟨0, 0, 0⟩, by rw [h]; rfl, hf, (fun p hp => by cases hp), fun row hrw => by cases hrw⟩
end
end Go.Proofs.Ytlofoeapfmcolaa
