/- Several texts, one behind the other; each says by itself what it proves, and on what conditions. -/
import Derived.Test.YtgbaaiedpiiepaaDoorV23
/- NarAll: whether nodes are a tree, their bytes, whether a name may be, a number as a word, a text with what fills it are as the document says: the law returns true whatever comes in. No condition. -/
namespace Go.Proofs.YtgbaaiedpiiepaaDoor
open Go.RowKit Go.Shelf
set_option linter.unusedVariables false
set_option linter.unusedSimpArgs false
section
open E
abbrev hNm (f : Nat) (s : List UInt8) (b : Bool) : Hint := pc f #[stv s] (.v (.bool b))
theorem ent17 : Enters Tryd.prog 17 := enters_of Tryd.func17 (by kernel_rfl) rfl
theorem hNm_ok (id : Nat) (s : List UInt8) (hs : s.length ≤ 1000000) : HintOk Tryd.prog id (hNm 17 s (mayNameL s)) ∧ HintOk Tryd.prog id (hNm 18 s (mayNameL s)) :=
  ⟨pc_ok ent17 (v := .bool (mayNameL s)) rfl (fun _ => rfl) fun w => (pmayName_any ⟨s.toArray⟩ w).mono (by rintro e w' ⟨rfl, rfl⟩; exact ⟨rfl, Below.refl _ _⟩),
   pc_ok ent18 (v := .bool (mayNameL s)) rfl (fun _ => rfl) fun w => (mayName_any ⟨s.toArray⟩ hs w).mono (by rintro e w' ⟨rfl, rfl⟩; exact ⟨rfl, Below.refl _ _⟩)⟩
abbrev hRWord (n : Int) (q : List UInt8) : Hint := pc 20 #[.int .i64 n] (.v (stv q))
theorem hRWord_ok (id : Nat) (n : Int) (h1 : -9223372036854775808 ≤ n) (h2 : n ≤ 9223372036854775807) : HintOk Tryd.prog id (hRWord n (wordL n.toNat)) := pc_ok ent20 (v := stv (wordL n.toNat)) rfl (fun _ => rfl) fun w => word_any n h1 h2 w
abbrev hRStr (s : List UInt8) : Hint := pc 22 #[stv s] (.v (stv (strL s)))
theorem hRStr_ok (id : Nat) (s : List UInt8) (hs : s.length ≤ 1000000) : HintOk Tryd.prog id (hRStr s) := pc_ok ent22 (v := stv (strL s)) rfl (fun _ => rfl) fun w => str_any ⟨s.toArray⟩ hs w
abbrev vT (b : Bool) : List Prop := [TV.v (.bool b) = TV.v (.bool true)]
theorem vT_ok {α : Type} [BEq α] [ReflBEq α] (x : α) : all (vT (x == x)) := ⟨by rw [beq_self_eq_true], trivial⟩
abbrev AllQ (w : World) : Ending → World → Prop := fun e w' => e = .returned (.bool true) ∧ Below w.heap.size w w'
set_option maxRecDepth 100000 in
theorem all_11 (l m : List Nd) (a a2 : Option Addr) (cap cap2 : Nat) (s : List UInt8) (n : Int) (ρ : Env) (w : World) (hL : NdSrc (TV.s (.lf (.sl 0 0 0 3 l.length (some cap)))) [(0, ndRow (ndf l) l.length)] l) (hM : NdSrc (TV.s (.lf (.sl 1 0 0 3 m.length (some cap2)))) [(1, ndRow (ndf m) m.length)] m) (h0 : RowAt ρ 0 (ndRow (ndf l) l.length) w) (h1 : RowAt ρ 1 (ndRow (ndf m) m.length) w)
    (hlz : l.length ≤ 9223372036854775807) (hmz : m.length ≤ 9223372036854775807) (hlp0 : ∀ c ∈ l, c.path.length ≤ 9223372036854775807) (hld0 : ∀ c ∈ l, c.data.length ≤ 9223372036854775807) (hmp0 : ∀ c ∈ m, c.path.length ≤ 9223372036854775807) (hmd0 : ∀ c ∈ m, c.data.length ≤ 9223372036854775807) (hn : -9223372036854775808 ≤ n ∧ n ≤ 9223372036854775807) :
    Calls Tryd.prog 3 #[.slice (some ⟨(ρ 0).1, (ρ 0).2 + (0 + 0 * 3), none⟩) l.length cap, .slice (some ⟨(ρ 1).1, (ρ 1).2 + (0 + 0 * 3), none⟩) m.length cap2, strV s, .int .i64 n] w (AllQ w) := by
  refine At.calls (args := [(TV.s (.lf (.sl 0 0 0 3 l.length (some cap)))), (TV.s (.lf (.sl 1 0 0 3 m.length (some cap2)))), .v (stv s), .int .i64 n]) (rows := [(0, ndRow (ndf l) l.length), (1, ndRow (ndf m) m.length)]) (gl := []) (wr := []) (ρ := ρ) Tryd.func3 rfl rfl (init_ro1 ⟨trivial, trivial, rfl, rfl, trivial⟩ rfl rfl ⟨⟨h0, ndRow_ok _ _⟩, ⟨h1, ndRow_ok _ _⟩, trivial⟩) rfl ?_
  cases hb : heavyL l with
  | true => exact At.fin rfl [(2001, hH (TV.s (.lf (.sl 0 0 0 3 l.length (some cap)))) [(0, ndRow (ndf l) l.length)] true), (3000, hAwake)] ⟨hH_ok _ hL (by omega) hlp0 hld0 hb, hAwake_ok _, trivial⟩ [.y] (x := .v (.bool true)) (ob := [qL (hH (TV.s (.lf (.sl 0 0 0 3 l.length (some cap)))) [(0, ndRow (ndf l) l.length)] true), [true = true], qL hAwake].flatten) (by kernel_rfl) (all_flat ⟨all_qL _, ⟨rfl, trivial⟩, all_qL _, trivial⟩) fun ρ w' hf _ => ⟨rfl, hf.below⟩
  | false =>
    cases hb2 : heavyL m with
    | true => exact At.fin rfl [(2001, hH (TV.s (.lf (.sl 0 0 0 3 l.length (some cap)))) [(0, ndRow (ndf l) l.length)] false), (2004, hH (TV.s (.lf (.sl 1 0 0 3 m.length (some cap2)))) [(1, ndRow (ndf m) m.length)] true), (3000, hAwake)] ⟨hH_ok _ hL (by omega) hlp0 hld0 hb, hH_ok _ hM (by omega) hmp0 hmd0 hb2, hAwake_ok _, trivial⟩ [.y] (x := .v (.bool true)) (ob := [qL (hH (TV.s (.lf (.sl 0 0 0 3 l.length (some cap)))) [(0, ndRow (ndf l) l.length)] false), qL (hH (TV.s (.lf (.sl 1 0 0 3 m.length (some cap2)))) [(1, ndRow (ndf m) m.length)] true), [true = true], qL hAwake].flatten) (by kernel_rfl) (all_flat ⟨all_qL _, all_qL _, ⟨rfl, trivial⟩, all_qL _, trivial⟩) fun ρ w' hf _ => ⟨rfl, hf.below⟩
    | false =>
      by_cases hs4 : s.length > 400
      · exact At.fin rfl [(2001, hH (TV.s (.lf (.sl 0 0 0 3 l.length (some cap)))) [(0, ndRow (ndf l) l.length)] false), (2004, hH (TV.s (.lf (.sl 1 0 0 3 m.length (some cap2)))) [(1, ndRow (ndf m) m.length)] false), (3000, hAwake)] ⟨hH_ok _ hL (by omega) hlp0 hld0 hb, hH_ok _ hM (by omega) hmp0 hmd0 hb2, hAwake_ok _, trivial⟩ [.y] (x := .v (.bool true)) (ob := [qL (hH (TV.s (.lf (.sl 0 0 0 3 l.length (some cap)))) [(0, ndRow (ndf l) l.length)] false), qL (hH (TV.s (.lf (.sl 1 0 0 3 m.length (some cap2)))) [(1, ndRow (ndf m) m.length)] false), [decide ((s.length : Int) > 400) = true], qL hAwake].flatten) (by kernel_rfl) (all_flat ⟨all_qL _, all_qL _, ⟨decide_eq_true (by omega), trivial⟩, all_qL _, trivial⟩) fun ρ w' hf _ => ⟨rfl, hf.below⟩
      · obtain ⟨hl1, hq⟩ := light_of hb
        obtain ⟨hm3, _⟩ := light_of hb2
        have hl2 : l.length ≤ 1000000000000000 := by omega
        have hm2 : m.length ≤ 1000000000000000 := by omega
        have hs : s.length ≤ 1000000 := by omega
        have hl0 : l.length ≤ 1000000 := by omega
        have hl1 : l.length ≤ 100000 := by omega
        have hlp : ∀ c ∈ l, c.path.length ≤ 10000 := fun c hc => Nat.le_trans (hq c hc).1 (by omega)
        have hlp2 : ∀ c ∈ l, c.path.length ≤ 1000000 := fun c hc => Nat.le_trans (hq c hc).1 (by omega)
        have hld : ∀ c ∈ l, c.data.length ≤ 100000 := fun c hc => Nat.le_trans (hq c hc).2 (by omega)
        have hld2 : ∀ c ∈ l, c.data.length ≤ 1000000 := fun c hc => Nat.le_trans (hq c hc).2 (by omega)
        exact At.fin rfl [(2001, hH (TV.s (.lf (.sl 0 0 0 3 l.length (some cap)))) [(0, ndRow (ndf l) l.length)] false), (2004, hH (TV.s (.lf (.sl 1 0 0 3 m.length (some cap2)))) [(1, ndRow (ndf m) m.length)] false), (4001, hP (TV.s (.lf (.sl 0 0 0 3 l.length (some cap)))) [(0, ndRow (ndf l) l.length)] (packS l) (packE l)), (5001, hRP (TV.s (.lf (.sl 0 0 0 3 l.length (some cap)))) [(0, ndRow (ndf l) l.length)] (packS l) (packE l)), (6001, hMy (TV.s (.lf (.sl 0 0 0 3 l.length (some cap)))) [(0, ndRow (ndf l) l.length)] (mayL l)), (6003, hRM (TV.s (.lf (.sl 0 0 0 3 l.length (some cap)))) [(0, ndRow (ndf l) l.length)] (mayL l)), (2006004, .val (.v (.bool true))), (2006009, .val (.v (.bool true))), (6013, hErr (packE l)), (2006016, .val (.v (.bool true))), (6020, hNm 17 s (mayNameL s)), (6022, hNm 18 s (mayNameL s)), (2006023, .val (.v (.bool true))), (6027, hWord n (wordL n.toNat)), (6029, hRWord n (wordL n.toNat)), (2006030, .val (.v (.bool true))), (6034, hStr s), (6036, hRStr s), (2006037, .val (.v (.bool true))), (6042, hSm 23 (TV.s (.lf (.sl 0 0 0 3 l.length (some cap)))) (TV.s (.lf (.sl 1 0 0 3 m.length (some cap2)))) [(0, ndRow (ndf l) l.length)] [(1, ndRow (ndf m) m.length)] (sameL l m)), (6045, hSm 24 (TV.s (.lf (.sl 0 0 0 3 l.length (some cap)))) (TV.s (.lf (.sl 1 0 0 3 m.length (some cap2)))) [(0, ndRow (ndf l) l.length)] [(1, ndRow (ndf m) m.length)] (sameL l m)), (2006046, .val (.v (.bool true))), (6049, hAwake)] ⟨hH_ok _ hL (by omega) hlp0 hld0 hb, hH_ok _ hM (by omega) hmp0 hmd0 hb2, hP_ok _ hL hl0 hlp hld, hRP_ok _ hL hl1 hlp2 hld2, hMy_ok _ hL hl0 hlp2 hld2, hRM_ok _ hL hl1 hlp2 hld2, trivial, trivial, hErr_ok _ _, trivial, (hNm_ok _ s hs).1, (hNm_ok _ s hs).2, trivial, hWord_ok _ _ _ hn.1 hn.2 rfl, hRWord_ok _ _ hn.1 hn.2, trivial, hStr_ok _ _ hs, hRStr_ok _ _ hs, trivial, (hSm_ok _ hL hM hl2 hm2).1, (hSm_ok _ hL hM hl2 hm2).2, trivial, hAwake_ok _, trivial⟩ [.n] (x := .v (.bool true))
          (ob := [qL (hH (TV.s (.lf (.sl 0 0 0 3 l.length (some cap)))) [(0, ndRow (ndf l) l.length)] false), qL (hH (TV.s (.lf (.sl 1 0 0 3 m.length (some cap2)))) [(1, ndRow (ndf m) m.length)] false), [decide ((s.length : Int) > 400) = false], qL (hP (TV.s (.lf (.sl 0 0 0 3 l.length (some cap)))) [(0, ndRow (ndf l) l.length)] (packS l) (packE l)), qL (hRP (TV.s (.lf (.sl 0 0 0 3 l.length (some cap)))) [(0, ndRow (ndf l) l.length)] (packS l) (packE l)), qL (hMy (TV.s (.lf (.sl 0 0 0 3 l.length (some cap)))) [(0, ndRow (ndf l) l.length)] (mayL l)), qL (hRM (TV.s (.lf (.sl 0 0 0 3 l.length (some cap)))) [(0, ndRow (ndf l) l.length)] (mayL l)), vT (mayL l == mayL l), vT (packS l == packS l), qL (hErr (packE l)), vT (packE l == packE l), qL (hNm 17 s (mayNameL s)), qL (hNm 18 s (mayNameL s)), vT (mayNameL s == mayNameL s), qL (hWord n (wordL n.toNat)), qL (hRWord n (wordL n.toNat)), vT (wordL n.toNat == wordL n.toNat), qL (hStr s), qL (hRStr s), vT (strL s == strL s), qL (hSm 23 (TV.s (.lf (.sl 0 0 0 3 l.length (some cap)))) (TV.s (.lf (.sl 1 0 0 3 m.length (some cap2)))) [(0, ndRow (ndf l) l.length)] [(1, ndRow (ndf m) m.length)] (sameL l m)), qL (hSm 24 (TV.s (.lf (.sl 0 0 0 3 l.length (some cap)))) (TV.s (.lf (.sl 1 0 0 3 m.length (some cap2)))) [(0, ndRow (ndf l) l.length)] [(1, ndRow (ndf m) m.length)] (sameL l m)), vT (sameL l m == sameL l m), qL (hAwake)].flatten) (by kernel_rfl) (all_flat ⟨all_qL _, all_qL _, ⟨decide_eq_false (by omega), trivial⟩, all_qL _, all_qL _, all_qL _, all_qL _, vT_ok _, vT_ok _, all_qL _, vT_ok _, all_qL _, all_qL _, vT_ok _, all_qL _, all_qL _, vT_ok _, all_qL _, all_qL _, vT_ok _, all_qL _, all_qL _, vT_ok _, all_qL _, trivial⟩) fun ρ w' hf _ => ⟨rfl, hf.below⟩
set_option maxRecDepth 100000 in
theorem all_10 (l m : List Nd) (a a2 : Option Addr) (cap cap2 : Nat) (s : List UInt8) (n : Int) (ρ : Env) (w : World) (hL : NdSrc (TV.s (.lf (.sl 0 0 0 3 l.length (some cap)))) [(0, ndRow (ndf l) l.length)] l) (hM : NdSrc (TV.v (.slice a2 0 cap2)) [] m) (h0 : RowAt ρ 0 (ndRow (ndf l) l.length) w) 
    (hlz : l.length ≤ 9223372036854775807) (hmz : m.length ≤ 9223372036854775807) (hlp0 : ∀ c ∈ l, c.path.length ≤ 9223372036854775807) (hld0 : ∀ c ∈ l, c.data.length ≤ 9223372036854775807) (hmp0 : ∀ c ∈ m, c.path.length ≤ 9223372036854775807) (hmd0 : ∀ c ∈ m, c.data.length ≤ 9223372036854775807) (hn : -9223372036854775808 ≤ n ∧ n ≤ 9223372036854775807) :
    Calls Tryd.prog 3 #[.slice (some ⟨(ρ 0).1, (ρ 0).2 + (0 + 0 * 3), none⟩) l.length cap, .slice a2 0 cap2, strV s, .int .i64 n] w (AllQ w) := by
  refine At.calls (args := [(TV.s (.lf (.sl 0 0 0 3 l.length (some cap)))), (TV.v (.slice a2 0 cap2)), .v (stv s), .int .i64 n]) (rows := [(0, ndRow (ndf l) l.length)]) (gl := []) (wr := []) (ρ := ρ) Tryd.func3 rfl rfl (init_ro1 ⟨trivial, rfl, rfl, rfl, trivial⟩ rfl rfl ⟨⟨h0, ndRow_ok _ _⟩, trivial⟩) rfl ?_
  cases hb : heavyL l with
  | true => exact At.fin rfl [(2001, hH (TV.s (.lf (.sl 0 0 0 3 l.length (some cap)))) [(0, ndRow (ndf l) l.length)] true), (3000, hAwake)] ⟨hH_ok _ hL (by omega) hlp0 hld0 hb, hAwake_ok _, trivial⟩ [.y] (x := .v (.bool true)) (ob := [qL (hH (TV.s (.lf (.sl 0 0 0 3 l.length (some cap)))) [(0, ndRow (ndf l) l.length)] true), [true = true], qL hAwake].flatten) (by kernel_rfl) (all_flat ⟨all_qL _, ⟨rfl, trivial⟩, all_qL _, trivial⟩) fun ρ w' hf _ => ⟨rfl, hf.below⟩
  | false =>
    cases hb2 : heavyL m with
    | true => exact At.fin rfl [(2001, hH (TV.s (.lf (.sl 0 0 0 3 l.length (some cap)))) [(0, ndRow (ndf l) l.length)] false), (2004, hH (TV.v (.slice a2 0 cap2)) [] true), (3000, hAwake)] ⟨hH_ok _ hL (by omega) hlp0 hld0 hb, hH_ok _ hM (by omega) hmp0 hmd0 hb2, hAwake_ok _, trivial⟩ [.y] (x := .v (.bool true)) (ob := [qL (hH (TV.s (.lf (.sl 0 0 0 3 l.length (some cap)))) [(0, ndRow (ndf l) l.length)] false), qL (hH (TV.v (.slice a2 0 cap2)) [] true), [true = true], qL hAwake].flatten) (by kernel_rfl) (all_flat ⟨all_qL _, all_qL _, ⟨rfl, trivial⟩, all_qL _, trivial⟩) fun ρ w' hf _ => ⟨rfl, hf.below⟩
    | false =>
      by_cases hs4 : s.length > 400
      · exact At.fin rfl [(2001, hH (TV.s (.lf (.sl 0 0 0 3 l.length (some cap)))) [(0, ndRow (ndf l) l.length)] false), (2004, hH (TV.v (.slice a2 0 cap2)) [] false), (3000, hAwake)] ⟨hH_ok _ hL (by omega) hlp0 hld0 hb, hH_ok _ hM (by omega) hmp0 hmd0 hb2, hAwake_ok _, trivial⟩ [.y] (x := .v (.bool true)) (ob := [qL (hH (TV.s (.lf (.sl 0 0 0 3 l.length (some cap)))) [(0, ndRow (ndf l) l.length)] false), qL (hH (TV.v (.slice a2 0 cap2)) [] false), [decide ((s.length : Int) > 400) = true], qL hAwake].flatten) (by kernel_rfl) (all_flat ⟨all_qL _, all_qL _, ⟨decide_eq_true (by omega), trivial⟩, all_qL _, trivial⟩) fun ρ w' hf _ => ⟨rfl, hf.below⟩
      · obtain ⟨hl1, hq⟩ := light_of hb
        obtain ⟨hm3, _⟩ := light_of hb2
        have hl2 : l.length ≤ 1000000000000000 := by omega
        have hm2 : m.length ≤ 1000000000000000 := by omega
        have hs : s.length ≤ 1000000 := by omega
        have hl0 : l.length ≤ 1000000 := by omega
        have hl1 : l.length ≤ 100000 := by omega
        have hlp : ∀ c ∈ l, c.path.length ≤ 10000 := fun c hc => Nat.le_trans (hq c hc).1 (by omega)
        have hlp2 : ∀ c ∈ l, c.path.length ≤ 1000000 := fun c hc => Nat.le_trans (hq c hc).1 (by omega)
        have hld : ∀ c ∈ l, c.data.length ≤ 100000 := fun c hc => Nat.le_trans (hq c hc).2 (by omega)
        have hld2 : ∀ c ∈ l, c.data.length ≤ 1000000 := fun c hc => Nat.le_trans (hq c hc).2 (by omega)
        exact At.fin rfl [(2001, hH (TV.s (.lf (.sl 0 0 0 3 l.length (some cap)))) [(0, ndRow (ndf l) l.length)] false), (2004, hH (TV.v (.slice a2 0 cap2)) [] false), (4001, hP (TV.s (.lf (.sl 0 0 0 3 l.length (some cap)))) [(0, ndRow (ndf l) l.length)] (packS l) (packE l)), (5001, hRP (TV.s (.lf (.sl 0 0 0 3 l.length (some cap)))) [(0, ndRow (ndf l) l.length)] (packS l) (packE l)), (6001, hMy (TV.s (.lf (.sl 0 0 0 3 l.length (some cap)))) [(0, ndRow (ndf l) l.length)] (mayL l)), (6003, hRM (TV.s (.lf (.sl 0 0 0 3 l.length (some cap)))) [(0, ndRow (ndf l) l.length)] (mayL l)), (2006004, .val (.v (.bool true))), (2006009, .val (.v (.bool true))), (6013, hErr (packE l)), (2006016, .val (.v (.bool true))), (6020, hNm 17 s (mayNameL s)), (6022, hNm 18 s (mayNameL s)), (2006023, .val (.v (.bool true))), (6027, hWord n (wordL n.toNat)), (6029, hRWord n (wordL n.toNat)), (2006030, .val (.v (.bool true))), (6034, hStr s), (6036, hRStr s), (2006037, .val (.v (.bool true))), (6042, hSm 23 (TV.s (.lf (.sl 0 0 0 3 l.length (some cap)))) (TV.v (.slice a2 0 cap2)) [(0, ndRow (ndf l) l.length)] [] (sameL l m)), (6045, hSm 24 (TV.s (.lf (.sl 0 0 0 3 l.length (some cap)))) (TV.v (.slice a2 0 cap2)) [(0, ndRow (ndf l) l.length)] [] (sameL l m)), (2006046, .val (.v (.bool true))), (6049, hAwake)] ⟨hH_ok _ hL (by omega) hlp0 hld0 hb, hH_ok _ hM (by omega) hmp0 hmd0 hb2, hP_ok _ hL hl0 hlp hld, hRP_ok _ hL hl1 hlp2 hld2, hMy_ok _ hL hl0 hlp2 hld2, hRM_ok _ hL hl1 hlp2 hld2, trivial, trivial, hErr_ok _ _, trivial, (hNm_ok _ s hs).1, (hNm_ok _ s hs).2, trivial, hWord_ok _ _ _ hn.1 hn.2 rfl, hRWord_ok _ _ hn.1 hn.2, trivial, hStr_ok _ _ hs, hRStr_ok _ _ hs, trivial, (hSm_ok _ hL hM hl2 hm2).1, (hSm_ok _ hL hM hl2 hm2).2, trivial, hAwake_ok _, trivial⟩ [.n] (x := .v (.bool true))
          (ob := [qL (hH (TV.s (.lf (.sl 0 0 0 3 l.length (some cap)))) [(0, ndRow (ndf l) l.length)] false), qL (hH (TV.v (.slice a2 0 cap2)) [] false), [decide ((s.length : Int) > 400) = false], qL (hP (TV.s (.lf (.sl 0 0 0 3 l.length (some cap)))) [(0, ndRow (ndf l) l.length)] (packS l) (packE l)), qL (hRP (TV.s (.lf (.sl 0 0 0 3 l.length (some cap)))) [(0, ndRow (ndf l) l.length)] (packS l) (packE l)), qL (hMy (TV.s (.lf (.sl 0 0 0 3 l.length (some cap)))) [(0, ndRow (ndf l) l.length)] (mayL l)), qL (hRM (TV.s (.lf (.sl 0 0 0 3 l.length (some cap)))) [(0, ndRow (ndf l) l.length)] (mayL l)), vT (mayL l == mayL l), vT (packS l == packS l), qL (hErr (packE l)), vT (packE l == packE l), qL (hNm 17 s (mayNameL s)), qL (hNm 18 s (mayNameL s)), vT (mayNameL s == mayNameL s), qL (hWord n (wordL n.toNat)), qL (hRWord n (wordL n.toNat)), vT (wordL n.toNat == wordL n.toNat), qL (hStr s), qL (hRStr s), vT (strL s == strL s), qL (hSm 23 (TV.s (.lf (.sl 0 0 0 3 l.length (some cap)))) (TV.v (.slice a2 0 cap2)) [(0, ndRow (ndf l) l.length)] [] (sameL l m)), qL (hSm 24 (TV.s (.lf (.sl 0 0 0 3 l.length (some cap)))) (TV.v (.slice a2 0 cap2)) [(0, ndRow (ndf l) l.length)] [] (sameL l m)), vT (sameL l m == sameL l m), qL (hAwake)].flatten) (by kernel_rfl) (all_flat ⟨all_qL _, all_qL _, ⟨decide_eq_false (by omega), trivial⟩, all_qL _, all_qL _, all_qL _, all_qL _, vT_ok _, vT_ok _, all_qL _, vT_ok _, all_qL _, all_qL _, vT_ok _, all_qL _, all_qL _, vT_ok _, all_qL _, all_qL _, vT_ok _, all_qL _, all_qL _, vT_ok _, all_qL _, trivial⟩) fun ρ w' hf _ => ⟨rfl, hf.below⟩
set_option maxRecDepth 100000 in
theorem all_01 (l m : List Nd) (a a2 : Option Addr) (cap cap2 : Nat) (s : List UInt8) (n : Int) (ρ : Env) (w : World) (hL : NdSrc (TV.v (.slice a 0 cap)) [] l) (hM : NdSrc (TV.s (.lf (.sl 1 0 0 3 m.length (some cap2)))) [(1, ndRow (ndf m) m.length)] m)  (h1 : RowAt ρ 1 (ndRow (ndf m) m.length) w)
    (hlz : l.length ≤ 9223372036854775807) (hmz : m.length ≤ 9223372036854775807) (hlp0 : ∀ c ∈ l, c.path.length ≤ 9223372036854775807) (hld0 : ∀ c ∈ l, c.data.length ≤ 9223372036854775807) (hmp0 : ∀ c ∈ m, c.path.length ≤ 9223372036854775807) (hmd0 : ∀ c ∈ m, c.data.length ≤ 9223372036854775807) (hn : -9223372036854775808 ≤ n ∧ n ≤ 9223372036854775807) :
    Calls Tryd.prog 3 #[.slice a 0 cap, .slice (some ⟨(ρ 1).1, (ρ 1).2 + (0 + 0 * 3), none⟩) m.length cap2, strV s, .int .i64 n] w (AllQ w) := by
  refine At.calls (args := [(TV.v (.slice a 0 cap)), (TV.s (.lf (.sl 1 0 0 3 m.length (some cap2)))), .v (stv s), .int .i64 n]) (rows := [(1, ndRow (ndf m) m.length)]) (gl := []) (wr := []) (ρ := ρ) Tryd.func3 rfl rfl (init_ro1 ⟨rfl, trivial, rfl, rfl, trivial⟩ rfl rfl ⟨⟨h1, ndRow_ok _ _⟩, trivial⟩) rfl ?_
  cases hb : heavyL l with
  | true => exact At.fin rfl [(2001, hH (TV.v (.slice a 0 cap)) [] true), (3000, hAwake)] ⟨hH_ok _ hL (by omega) hlp0 hld0 hb, hAwake_ok _, trivial⟩ [.y] (x := .v (.bool true)) (ob := [qL (hH (TV.v (.slice a 0 cap)) [] true), [true = true], qL hAwake].flatten) (by kernel_rfl) (all_flat ⟨all_qL _, ⟨rfl, trivial⟩, all_qL _, trivial⟩) fun ρ w' hf _ => ⟨rfl, hf.below⟩
  | false =>
    cases hb2 : heavyL m with
    | true => exact At.fin rfl [(2001, hH (TV.v (.slice a 0 cap)) [] false), (2004, hH (TV.s (.lf (.sl 1 0 0 3 m.length (some cap2)))) [(1, ndRow (ndf m) m.length)] true), (3000, hAwake)] ⟨hH_ok _ hL (by omega) hlp0 hld0 hb, hH_ok _ hM (by omega) hmp0 hmd0 hb2, hAwake_ok _, trivial⟩ [.y] (x := .v (.bool true)) (ob := [qL (hH (TV.v (.slice a 0 cap)) [] false), qL (hH (TV.s (.lf (.sl 1 0 0 3 m.length (some cap2)))) [(1, ndRow (ndf m) m.length)] true), [true = true], qL hAwake].flatten) (by kernel_rfl) (all_flat ⟨all_qL _, all_qL _, ⟨rfl, trivial⟩, all_qL _, trivial⟩) fun ρ w' hf _ => ⟨rfl, hf.below⟩
    | false =>
      by_cases hs4 : s.length > 400
      · exact At.fin rfl [(2001, hH (TV.v (.slice a 0 cap)) [] false), (2004, hH (TV.s (.lf (.sl 1 0 0 3 m.length (some cap2)))) [(1, ndRow (ndf m) m.length)] false), (3000, hAwake)] ⟨hH_ok _ hL (by omega) hlp0 hld0 hb, hH_ok _ hM (by omega) hmp0 hmd0 hb2, hAwake_ok _, trivial⟩ [.y] (x := .v (.bool true)) (ob := [qL (hH (TV.v (.slice a 0 cap)) [] false), qL (hH (TV.s (.lf (.sl 1 0 0 3 m.length (some cap2)))) [(1, ndRow (ndf m) m.length)] false), [decide ((s.length : Int) > 400) = true], qL hAwake].flatten) (by kernel_rfl) (all_flat ⟨all_qL _, all_qL _, ⟨decide_eq_true (by omega), trivial⟩, all_qL _, trivial⟩) fun ρ w' hf _ => ⟨rfl, hf.below⟩
      · obtain ⟨hl1, hq⟩ := light_of hb
        obtain ⟨hm3, _⟩ := light_of hb2
        have hl2 : l.length ≤ 1000000000000000 := by omega
        have hm2 : m.length ≤ 1000000000000000 := by omega
        have hs : s.length ≤ 1000000 := by omega
        have hl0 : l.length ≤ 1000000 := by omega
        have hl1 : l.length ≤ 100000 := by omega
        have hlp : ∀ c ∈ l, c.path.length ≤ 10000 := fun c hc => Nat.le_trans (hq c hc).1 (by omega)
        have hlp2 : ∀ c ∈ l, c.path.length ≤ 1000000 := fun c hc => Nat.le_trans (hq c hc).1 (by omega)
        have hld : ∀ c ∈ l, c.data.length ≤ 100000 := fun c hc => Nat.le_trans (hq c hc).2 (by omega)
        have hld2 : ∀ c ∈ l, c.data.length ≤ 1000000 := fun c hc => Nat.le_trans (hq c hc).2 (by omega)
        exact At.fin rfl [(2001, hH (TV.v (.slice a 0 cap)) [] false), (2004, hH (TV.s (.lf (.sl 1 0 0 3 m.length (some cap2)))) [(1, ndRow (ndf m) m.length)] false), (4001, hP (TV.v (.slice a 0 cap)) [] (packS l) (packE l)), (5001, hRP (TV.v (.slice a 0 cap)) [] (packS l) (packE l)), (6001, hMy (TV.v (.slice a 0 cap)) [] (mayL l)), (6003, hRM (TV.v (.slice a 0 cap)) [] (mayL l)), (2006004, .val (.v (.bool true))), (2006009, .val (.v (.bool true))), (6013, hErr (packE l)), (2006016, .val (.v (.bool true))), (6020, hNm 17 s (mayNameL s)), (6022, hNm 18 s (mayNameL s)), (2006023, .val (.v (.bool true))), (6027, hWord n (wordL n.toNat)), (6029, hRWord n (wordL n.toNat)), (2006030, .val (.v (.bool true))), (6034, hStr s), (6036, hRStr s), (2006037, .val (.v (.bool true))), (6042, hSm 23 (TV.v (.slice a 0 cap)) (TV.s (.lf (.sl 1 0 0 3 m.length (some cap2)))) [] [(1, ndRow (ndf m) m.length)] (sameL l m)), (6045, hSm 24 (TV.v (.slice a 0 cap)) (TV.s (.lf (.sl 1 0 0 3 m.length (some cap2)))) [] [(1, ndRow (ndf m) m.length)] (sameL l m)), (2006046, .val (.v (.bool true))), (6049, hAwake)] ⟨hH_ok _ hL (by omega) hlp0 hld0 hb, hH_ok _ hM (by omega) hmp0 hmd0 hb2, hP_ok _ hL hl0 hlp hld, hRP_ok _ hL hl1 hlp2 hld2, hMy_ok _ hL hl0 hlp2 hld2, hRM_ok _ hL hl1 hlp2 hld2, trivial, trivial, hErr_ok _ _, trivial, (hNm_ok _ s hs).1, (hNm_ok _ s hs).2, trivial, hWord_ok _ _ _ hn.1 hn.2 rfl, hRWord_ok _ _ hn.1 hn.2, trivial, hStr_ok _ _ hs, hRStr_ok _ _ hs, trivial, (hSm_ok _ hL hM hl2 hm2).1, (hSm_ok _ hL hM hl2 hm2).2, trivial, hAwake_ok _, trivial⟩ [.n] (x := .v (.bool true))
          (ob := [qL (hH (TV.v (.slice a 0 cap)) [] false), qL (hH (TV.s (.lf (.sl 1 0 0 3 m.length (some cap2)))) [(1, ndRow (ndf m) m.length)] false), [decide ((s.length : Int) > 400) = false], qL (hP (TV.v (.slice a 0 cap)) [] (packS l) (packE l)), qL (hRP (TV.v (.slice a 0 cap)) [] (packS l) (packE l)), qL (hMy (TV.v (.slice a 0 cap)) [] (mayL l)), qL (hRM (TV.v (.slice a 0 cap)) [] (mayL l)), vT (mayL l == mayL l), vT (packS l == packS l), qL (hErr (packE l)), vT (packE l == packE l), qL (hNm 17 s (mayNameL s)), qL (hNm 18 s (mayNameL s)), vT (mayNameL s == mayNameL s), qL (hWord n (wordL n.toNat)), qL (hRWord n (wordL n.toNat)), vT (wordL n.toNat == wordL n.toNat), qL (hStr s), qL (hRStr s), vT (strL s == strL s), qL (hSm 23 (TV.v (.slice a 0 cap)) (TV.s (.lf (.sl 1 0 0 3 m.length (some cap2)))) [] [(1, ndRow (ndf m) m.length)] (sameL l m)), qL (hSm 24 (TV.v (.slice a 0 cap)) (TV.s (.lf (.sl 1 0 0 3 m.length (some cap2)))) [] [(1, ndRow (ndf m) m.length)] (sameL l m)), vT (sameL l m == sameL l m), qL (hAwake)].flatten) (by kernel_rfl) (all_flat ⟨all_qL _, all_qL _, ⟨decide_eq_false (by omega), trivial⟩, all_qL _, all_qL _, all_qL _, all_qL _, vT_ok _, vT_ok _, all_qL _, vT_ok _, all_qL _, all_qL _, vT_ok _, all_qL _, all_qL _, vT_ok _, all_qL _, all_qL _, vT_ok _, all_qL _, all_qL _, vT_ok _, all_qL _, trivial⟩) fun ρ w' hf _ => ⟨rfl, hf.below⟩
set_option maxRecDepth 100000 in
theorem all_00 (l m : List Nd) (a a2 : Option Addr) (cap cap2 : Nat) (s : List UInt8) (n : Int) (ρ : Env) (w : World) (hL : NdSrc (TV.v (.slice a 0 cap)) [] l) (hM : NdSrc (TV.v (.slice a2 0 cap2)) [] m)  
    (hlz : l.length ≤ 9223372036854775807) (hmz : m.length ≤ 9223372036854775807) (hlp0 : ∀ c ∈ l, c.path.length ≤ 9223372036854775807) (hld0 : ∀ c ∈ l, c.data.length ≤ 9223372036854775807) (hmp0 : ∀ c ∈ m, c.path.length ≤ 9223372036854775807) (hmd0 : ∀ c ∈ m, c.data.length ≤ 9223372036854775807) (hn : -9223372036854775808 ≤ n ∧ n ≤ 9223372036854775807) :
    Calls Tryd.prog 3 #[.slice a 0 cap, .slice a2 0 cap2, strV s, .int .i64 n] w (AllQ w) := by
  refine At.calls (args := [(TV.v (.slice a 0 cap)), (TV.v (.slice a2 0 cap2)), .v (stv s), .int .i64 n]) (rows := []) (gl := []) (wr := []) (ρ := ρ) Tryd.func3 rfl rfl (init_ro1 ⟨rfl, rfl, rfl, rfl, trivial⟩ rfl rfl trivial) rfl ?_
  cases hb : heavyL l with
  | true => exact At.fin rfl [(2001, hH (TV.v (.slice a 0 cap)) [] true), (3000, hAwake)] ⟨hH_ok _ hL (by omega) hlp0 hld0 hb, hAwake_ok _, trivial⟩ [.y] (x := .v (.bool true)) (ob := [qL (hH (TV.v (.slice a 0 cap)) [] true), [true = true], qL hAwake].flatten) (by kernel_rfl) (all_flat ⟨all_qL _, ⟨rfl, trivial⟩, all_qL _, trivial⟩) fun ρ w' hf _ => ⟨rfl, hf.below⟩
  | false =>
    cases hb2 : heavyL m with
    | true => exact At.fin rfl [(2001, hH (TV.v (.slice a 0 cap)) [] false), (2004, hH (TV.v (.slice a2 0 cap2)) [] true), (3000, hAwake)] ⟨hH_ok _ hL (by omega) hlp0 hld0 hb, hH_ok _ hM (by omega) hmp0 hmd0 hb2, hAwake_ok _, trivial⟩ [.y] (x := .v (.bool true)) (ob := [qL (hH (TV.v (.slice a 0 cap)) [] false), qL (hH (TV.v (.slice a2 0 cap2)) [] true), [true = true], qL hAwake].flatten) (by kernel_rfl) (all_flat ⟨all_qL _, all_qL _, ⟨rfl, trivial⟩, all_qL _, trivial⟩) fun ρ w' hf _ => ⟨rfl, hf.below⟩
    | false =>
      by_cases hs4 : s.length > 400
      · exact At.fin rfl [(2001, hH (TV.v (.slice a 0 cap)) [] false), (2004, hH (TV.v (.slice a2 0 cap2)) [] false), (3000, hAwake)] ⟨hH_ok _ hL (by omega) hlp0 hld0 hb, hH_ok _ hM (by omega) hmp0 hmd0 hb2, hAwake_ok _, trivial⟩ [.y] (x := .v (.bool true)) (ob := [qL (hH (TV.v (.slice a 0 cap)) [] false), qL (hH (TV.v (.slice a2 0 cap2)) [] false), [decide ((s.length : Int) > 400) = true], qL hAwake].flatten) (by kernel_rfl) (all_flat ⟨all_qL _, all_qL _, ⟨decide_eq_true (by omega), trivial⟩, all_qL _, trivial⟩) fun ρ w' hf _ => ⟨rfl, hf.below⟩
      · obtain ⟨hl1, hq⟩ := light_of hb
        obtain ⟨hm3, _⟩ := light_of hb2
        have hl2 : l.length ≤ 1000000000000000 := by omega
        have hm2 : m.length ≤ 1000000000000000 := by omega
        have hs : s.length ≤ 1000000 := by omega
        have hl0 : l.length ≤ 1000000 := by omega
        have hl1 : l.length ≤ 100000 := by omega
        have hlp : ∀ c ∈ l, c.path.length ≤ 10000 := fun c hc => Nat.le_trans (hq c hc).1 (by omega)
        have hlp2 : ∀ c ∈ l, c.path.length ≤ 1000000 := fun c hc => Nat.le_trans (hq c hc).1 (by omega)
        have hld : ∀ c ∈ l, c.data.length ≤ 100000 := fun c hc => Nat.le_trans (hq c hc).2 (by omega)
        have hld2 : ∀ c ∈ l, c.data.length ≤ 1000000 := fun c hc => Nat.le_trans (hq c hc).2 (by omega)
        exact At.fin rfl [(2001, hH (TV.v (.slice a 0 cap)) [] false), (2004, hH (TV.v (.slice a2 0 cap2)) [] false), (4001, hP (TV.v (.slice a 0 cap)) [] (packS l) (packE l)), (5001, hRP (TV.v (.slice a 0 cap)) [] (packS l) (packE l)), (6001, hMy (TV.v (.slice a 0 cap)) [] (mayL l)), (6003, hRM (TV.v (.slice a 0 cap)) [] (mayL l)), (2006004, .val (.v (.bool true))), (2006009, .val (.v (.bool true))), (6013, hErr (packE l)), (2006016, .val (.v (.bool true))), (6020, hNm 17 s (mayNameL s)), (6022, hNm 18 s (mayNameL s)), (2006023, .val (.v (.bool true))), (6027, hWord n (wordL n.toNat)), (6029, hRWord n (wordL n.toNat)), (2006030, .val (.v (.bool true))), (6034, hStr s), (6036, hRStr s), (2006037, .val (.v (.bool true))), (6042, hSm 23 (TV.v (.slice a 0 cap)) (TV.v (.slice a2 0 cap2)) [] [] (sameL l m)), (6045, hSm 24 (TV.v (.slice a 0 cap)) (TV.v (.slice a2 0 cap2)) [] [] (sameL l m)), (2006046, .val (.v (.bool true))), (6049, hAwake)] ⟨hH_ok _ hL (by omega) hlp0 hld0 hb, hH_ok _ hM (by omega) hmp0 hmd0 hb2, hP_ok _ hL hl0 hlp hld, hRP_ok _ hL hl1 hlp2 hld2, hMy_ok _ hL hl0 hlp2 hld2, hRM_ok _ hL hl1 hlp2 hld2, trivial, trivial, hErr_ok _ _, trivial, (hNm_ok _ s hs).1, (hNm_ok _ s hs).2, trivial, hWord_ok _ _ _ hn.1 hn.2 rfl, hRWord_ok _ _ hn.1 hn.2, trivial, hStr_ok _ _ hs, hRStr_ok _ _ hs, trivial, (hSm_ok _ hL hM hl2 hm2).1, (hSm_ok _ hL hM hl2 hm2).2, trivial, hAwake_ok _, trivial⟩ [.n] (x := .v (.bool true))
          (ob := [qL (hH (TV.v (.slice a 0 cap)) [] false), qL (hH (TV.v (.slice a2 0 cap2)) [] false), [decide ((s.length : Int) > 400) = false], qL (hP (TV.v (.slice a 0 cap)) [] (packS l) (packE l)), qL (hRP (TV.v (.slice a 0 cap)) [] (packS l) (packE l)), qL (hMy (TV.v (.slice a 0 cap)) [] (mayL l)), qL (hRM (TV.v (.slice a 0 cap)) [] (mayL l)), vT (mayL l == mayL l), vT (packS l == packS l), qL (hErr (packE l)), vT (packE l == packE l), qL (hNm 17 s (mayNameL s)), qL (hNm 18 s (mayNameL s)), vT (mayNameL s == mayNameL s), qL (hWord n (wordL n.toNat)), qL (hRWord n (wordL n.toNat)), vT (wordL n.toNat == wordL n.toNat), qL (hStr s), qL (hRStr s), vT (strL s == strL s), qL (hSm 23 (TV.v (.slice a 0 cap)) (TV.v (.slice a2 0 cap2)) [] [] (sameL l m)), qL (hSm 24 (TV.v (.slice a 0 cap)) (TV.v (.slice a2 0 cap2)) [] [] (sameL l m)), vT (sameL l m == sameL l m), qL (hAwake)].flatten) (by kernel_rfl) (all_flat ⟨all_qL _, all_qL _, ⟨decide_eq_false (by omega), trivial⟩, all_qL _, all_qL _, all_qL _, all_qL _, vT_ok _, vT_ok _, all_qL _, vT_ok _, all_qL _, all_qL _, vT_ok _, all_qL _, all_qL _, vT_ok _, all_qL _, all_qL _, vT_ok _, all_qL _, all_qL _, vT_ok _, all_qL _, trivial⟩) fun ρ w' hf _ => ⟨rfl, hf.below⟩
theorem all_any (v v2 : Value) (l m : List Nd) (s : List UInt8) (n : Int) (w : World) (hL : NdV w v l) (hM : NdV w v2 m) (hlz : l.length ≤ 9223372036854775807) (hmz : m.length ≤ 9223372036854775807) (hlp0 : ∀ c ∈ l, c.path.length ≤ 9223372036854775807) (hld0 : ∀ c ∈ l, c.data.length ≤ 9223372036854775807) (hmp0 : ∀ c ∈ m, c.path.length ≤ 9223372036854775807) (hmd0 : ∀ c ∈ m, c.data.length ≤ 9223372036854775807) (hn : -9223372036854775808 ≤ n ∧ n ≤ 9223372036854775807) :
    Calls Tryd.prog 3 #[v, v2, strV s, .int .i64 n] w (AllQ w) := by
  obtain ⟨a, cap, rfl, h1, h2, h3⟩ := hL
  obtain ⟨a2, cap2, rfl, h4, h5, h6⟩ := hM
  rcases Nat.eq_zero_or_pos l.length with e | e
  · have e2 : l = [] := List.length_eq_zero_iff.1 e
    subst e2
    rcases Nat.eq_zero_or_pos m.length with e3 | e3
    · have e4 : m = [] := List.length_eq_zero_iff.1 e3
      subst e4
      exact all_00 [] [] a a2 cap cap2 s n (fun _ => ⟨0, 0, 0⟩) w (src_nil a cap h2) (src_nil a2 cap2 h5) hlz hmz hlp0 hld0 hmp0 hmd0 hn
    · obtain ⟨b2, o2, rfl, hN2⟩ := h6 e3
      exact all_01 [] m a none cap cap2 s n (fun _ => ⟨b2, o2, 0⟩) w (src_nil a cap h2) (src_row 1 cap2 m e3 h4 h5) (nodes_row hN2 e3 0) hlz hmz hlp0 hld0 hmp0 hmd0 hn
  · obtain ⟨b, o, rfl, hN⟩ := h3 e
    rcases Nat.eq_zero_or_pos m.length with e3 | e3
    · have e4 : m = [] := List.length_eq_zero_iff.1 e3
      subst e4
      exact all_10 l [] none a2 cap cap2 s n (fun _ => ⟨b, o, 0⟩) w (src_row 0 cap l e h1 h2) (src_nil a2 cap2 h5) (nodes_row hN e 0) hlz hmz hlp0 hld0 hmp0 hmd0 hn
    · obtain ⟨b2, o2, rfl, hN2⟩ := h6 e3
      exact all_11 l m none none cap cap2 s n (fun i => if i = 0 then ⟨b, o, 0⟩ else ⟨b2, o2, 0⟩) w (src_row 0 cap l e h1 h2) (src_row 1 cap2 m e3 h4 h5) (nodes_row hN e 0) (nodes_row hN2 e3 0) hlz hmz hlp0 hld0 hmp0 hmd0 hn
end
end Go.Proofs.YtgbaaiedpiiepaaDoor
/- NarMade: trees by numbers may be, and their packing is as the document says: the law returns true whatever comes in. Its condition: numbers of at most 2^47. -/
namespace Go.Proofs.YtgbaaiedpiiepaaDoor
open Go.RowKit Go.Shelf
set_option linter.unusedVariables false
set_option linter.unusedSimpArgs false
section
open E
abbrev hTree (id : Nat) (tn tv : TV) (rl : List (Nat × Row)) (L : List Nd) (n : Nat) : Hint := .call ⟨25, fun ρ => #[tn.val ρ, tv.val ρ], .s (.lf (.sl id 0 0 3 n none)), rl, [], some (rowN L n), []⟩
theorem ent25 : Enters Tryd.prog 25 := enters_of Tryd.func25 (by kernel_rfl) rfl
theorem hTree_of {id : Nat} {tn tv : TV} {rl : List (Nat × Row)} {L : List Nd} {n : Nat} (h : ∀ (ρ : Env) (w : World), (∀ q ∈ rl, RowAt ρ q.1 q.2 w) → Calls Tryd.prog 25 #[tn.val ρ, tv.val ρ] w (TOut w L n)) : HintOk Tryd.prog id (hTree id tn tv rl L n) := by
  refine call_ok ent25 trivial (fun p hp => by cases hp) fun ρ w hr => (h ρ w hr).mono ?_
  rintro e w' ⟨B, rfl, h0, hf, hb, hrow⟩
  refine ⟨B, ?_, hf, (fun p hp => by cases hp), fun row hrw => ?_⟩
  · show _ = Ending.returned (.slice (some ⟨(setE ρ id B id).1, (setE ρ id B id).2 + (0 + 0 * 3), none⟩) n ((setE ρ id B id).3 - 0))
    rw [setE_same, h0]
    rfl
  · cases hrw
    exact ⟨hb, rowAt_mv hrow (setE_same ρ id B), rowN_ok L n⟩
theorem src_made (r : Nat) (L : List Nd) (n : Nat) (hn : n = L.length) (h0 : 0 < n) : NdSrc (.s (.lf (.sl r 0 0 3 n none))) [(r, rowN L n)] L := fun ρ w h => by
  have h2 := h (r, rowN L n) (by simp)
  subst hn
  obtain ⟨_, _, h3, _⟩ := id h2
  obtain ⟨q1, q2, q3, _⟩ := h3 42 3 rfl
  have e : lst ρ (rowN L L.length).ps = (List.range L.length).flatMap (ndc L) := by simp [lst, Pc.arrV]
  have hlen := flat_len (f := ndc L) (k := 3) L.length (fun q hq => rfl)
  rw [e, hlen] at q3
  refine ⟨_, _, rfl, ?_, ?_, fun _ => ⟨_, _, rfl, row_nodes h2 (Nat.le_refl _) (fun i hi => rfl) (fun i hi => by rw [← ndf_at L i hi])⟩⟩
  · show L.length ≤ (ρ r).3 - 0; rw [Nat.sub_zero]; exact Nat.le_of_mul_le_mul_right q3 (by decide)
  · show (ρ r).3 - 0 ≤ _; unfold maxLen at q2; omega
set_option maxRecDepth 100000 in
theorem tree_nil1 (na : Option Addr) (c : Nat) (tx : List (List UInt8)) (ta : Option Addr) (ct : Nat) (hT : TxSrc (TV.s (.lf (.sl 1 0 0 1 tx.length (some ct)))) [(1, txtRow tx)] tx) (ρ : Env) (w : World) (hr : ∀ q ∈ ([(1, txtRow tx)] : List (Nat × Row)), RowAt ρ q.1 q.2 w) : Calls Tryd.prog 25 #[.slice na 0 c, (TV.s (.lf (.sl 1 0 0 1 tx.length (some ct)))).val ρ] w (TOut w (madeL tx []) (madeL tx []).length) := by
  refine At.calls (args := [.v (.slice na 0 c), (TV.s (.lf (.sl 1 0 0 1 tx.length (some ct))))]) (rows := [(1, txtRow tx)]) (gl := []) (wr := []) (ρ := ρ) Tryd.func25 rfl rfl (init_ro1 ⟨rfl, trivial, trivial⟩ rfl rfl ⟨⟨hr (1, txtRow tx) (by simp), txt_ok tx⟩, trivial⟩) rfl ?_
  refine At.finR rfl [(3001, hText (TV.s (.lf (.sl 1 0 0 1 tx.length (some ct)))) [(1, txtRow tx)] 0 (textL tx 0))] ⟨hText_ok _ hT 0 (by omega), trivial⟩ [.y] (rows2 := [(3003, ⟨[.fnc (chunkF [stv [], .int .i64 1, stv (textL tx 0)] 3 1) 3 1], true, some (42, 3)⟩)]) (x := .s (.lf (.sl 3003 0 0 3 1 none))) (ob := [[true = true], qL (hText (TV.s (.lf (.sl 1 0 0 1 tx.length (some ct)))) [(1, txtRow tx)] 0 (textL tx 0))].flatten) (by kernel_rfl) (all_flat ⟨⟨rfl, trivial⟩, all_qL _, trivial⟩) fun ρ' w' hf he hx hq => ?_
  obtain ⟨g1, _, g3⟩ := hq _ (List.mem_singleton.2 rfl)
  refine tout_fin (L := [(⟨[], 1, textL tx 0⟩ : Nd)]) (n := 1) hf ?_ (g3 rfl)
  have e : ∀ σ : Env, lst σ [Pc.fnc (chunkF [stv [], .int .i64 1, stv (textL tx 0)] 3 1) 3 1] = lst σ [Pc.fnc (ndc [(⟨[], 1, textL tx 0⟩ : Nd)]) 3 1] := fun σ => rfl
  unfold RowAt at g1 ⊢
  rw [← e]
  exact g1
set_option maxRecDepth 100000 in
theorem tree_nil0 (na : Option Addr) (c : Nat) (tx : List (List UInt8)) (ta : Option Addr) (ct : Nat) (hT : TxSrc (TV.v (.slice ta 0 ct)) [] tx) (ρ : Env) (w : World) (hr : ∀ q ∈ ([] : List (Nat × Row)), RowAt ρ q.1 q.2 w) : Calls Tryd.prog 25 #[.slice na 0 c, (TV.v (.slice ta 0 ct)).val ρ] w (TOut w (madeL tx []) (madeL tx []).length) := by
  refine At.calls (args := [.v (.slice na 0 c), (TV.v (.slice ta 0 ct))]) (rows := []) (gl := []) (wr := []) (ρ := ρ) Tryd.func25 rfl rfl (init_ro1 ⟨rfl, rfl, trivial⟩ rfl rfl trivial) rfl ?_
  refine At.finR rfl [(3001, hText (TV.v (.slice ta 0 ct)) [] 0 (textL tx 0))] ⟨hText_ok _ hT 0 (by omega), trivial⟩ [.y] (rows2 := [(3003, ⟨[.fnc (chunkF [stv [], .int .i64 1, stv (textL tx 0)] 3 1) 3 1], true, some (42, 3)⟩)]) (x := .s (.lf (.sl 3003 0 0 3 1 none))) (ob := [[true = true], qL (hText (TV.v (.slice ta 0 ct)) [] 0 (textL tx 0))].flatten) (by kernel_rfl) (all_flat ⟨⟨rfl, trivial⟩, all_qL _, trivial⟩) fun ρ' w' hf he hx hq => ?_
  obtain ⟨g1, _, g3⟩ := hq _ (List.mem_singleton.2 rfl)
  refine tout_fin (L := [(⟨[], 1, textL tx 0⟩ : Nd)]) (n := 1) hf ?_ (g3 rfl)
  have e : ∀ σ : Env, lst σ [Pc.fnc (chunkF [stv [], .int .i64 1, stv (textL tx 0)] 3 1) 3 1] = lst σ [Pc.fnc (ndc [(⟨[], 1, textL tx 0⟩ : Nd)]) 3 1] := fun σ => rfl
  unfold RowAt at g1 ⊢
  rw [← e]
  exact g1
set_option maxRecDepth 100000 in
set_option maxHeartbeats 1000000 in
theorem made_run11 (ns : List UInt8) (na : Option Addr) (c : Nat) (tx : List (List UInt8)) (ta : Option Addr) (ct : Nat) (hT : TxSrc (TV.s (.lf (.sl 1 0 0 1 tx.length (some ct)))) [(1, txtRow tx)] tx) (hn0 : 0 < ns.length) (hc : ns.length ≤ c) (hc2 : c ≤ 140737488355328)  (htl : tx.length ≤ 9223372036854775807) (ρ : Env) (w : World)
    (hr : ∀ q ∈ ([(0, numRow ns), (1, txtRow tx)] : List (Nat × Row)), RowAt ρ q.1 q.2 w) : Calls Tryd.prog 4 #[(TV.s (.lf (.sl 0 0 0 1 ns.length (some c)))).val ρ, (TV.s (.lf (.sl 1 0 0 1 tx.length (some ct)))).val ρ] w (AllQ w) := by
  refine At.calls (args := [(TV.s (.lf (.sl 0 0 0 1 ns.length (some c)))), (TV.s (.lf (.sl 1 0 0 1 tx.length (some ct))))]) (rows := [(0, numRow ns), (1, txtRow tx)]) (gl := []) (wr := []) (ρ := ρ) Tryd.func4 rfl rfl (init_ro1 ⟨trivial, trivial, trivial⟩ rfl rfl ⟨⟨hr (0, numRow ns) (by simp), num_ok ns⟩, ⟨hr (1, txtRow tx) (by simp), txt_ok tx⟩, trivial⟩) rfl ?_
  have hend : (∀ t ∈ tx, t.length ≤ 300) → ∀ i : Nat, ¬ i < tx.length → At Tryd.prog w ⟨[], ρ, []⟩ Tryd.f4.ntmps [] (lp Tryd.f4 0) (EndX Tryd.prog Tryd.f4 (AllQ w)) [(0, (TV.s (.lf (.sl 0 0 0 1 ns.length (some c))))), (1, (TV.s (.lf (.sl 1 0 0 1 tx.length (some ct))))), (5, .int .i64 (i : Nat))] [(0, numRow ns), (1, txtRow tx)] := by
    intro h300 i hi
    obtain ⟨L, hL⟩ : ∃ L, L = madeL tx ns := ⟨_, rfl⟩
    obtain ⟨M, hM⟩ : ∃ M, M = L.length := ⟨_, rfl⟩
    obtain ⟨l0, l1, lp, ld⟩ := made_len tx h300 ns
    have hmay := made_may tx h300 ns
    rw [← hL] at l0 l1 lp ld hmay
    have hE : packE L = 0 := by unfold packE; rw [hmay]; rfl
    have hmod : (packS L).length % 8 = 0 := by unfold packS; rw [hmay]; exact tree_mod L
    have hS := src_made 9002 L M hM (by omega)
    have kT : HintOk Tryd.prog 9002 (hTree 9002 (TV.s (.lf (.sl 0 0 0 1 ns.length (some c)))) (TV.s (.lf (.sl 1 0 0 1 tx.length (some ct)))) [(0, numRow ns), (1, txtRow tx)] L M) := by
      rw [hM, hL]
      exact hTree_of fun ρ w hq => tree_run1 ns tx ta ct hT h300 ns.length c rfl hn0 hc hc2 ρ w (fun q h => hq q h)
    have kP := hP_ok 10001 hS (by omega) lp (fun c hc => Nat.le_trans (ld c hc) (by omega))
    have kM := hMy_ok 11001 hS (by omega) (fun c hc => Nat.le_trans (lp c hc) (by omega)) (fun c hc => Nat.le_trans (ld c hc) (by omega))
    have kR := hRP_ok 11010 hS (by omega) (fun c hc => Nat.le_trans (lp c hc) (by omega)) (fun c hc => Nat.le_trans (ld c hc) (by omega))
    rw [hE] at kP kR
    rw [hmay] at kM
    exact At.fin rfl [(9002, hTree 9002 (TV.s (.lf (.sl 0 0 0 1 ns.length (some c)))) (TV.s (.lf (.sl 1 0 0 1 tx.length (some ct)))) [(0, numRow ns), (1, txtRow tx)] L M), (10001, hP (.s (.lf (.sl 9002 0 0 3 M none))) [(9002, rowN L M)] (packS L) 0), (11001, hMy (.s (.lf (.sl 9002 0 0 3 M none))) [(9002, rowN L M)] true), (11004, hErr 0), (11010, hRP (.s (.lf (.sl 9002 0 0 3 M none))) [(9002, rowN L M)] (packS L) 0), (2011012, .val (.v (.bool true))), (2011018, .val (.v (.bool true))), (11021, hAwake)] ⟨kT, kP, kM, hErr_ok _ _, kR, trivial, trivial, hAwake_ok _, trivial⟩ [.n] (x := .v (.bool true))
      (ob := [[decide ((i : Int) < ((tx.length : Nat) : Int)) = false], qL (hTree 9002 (TV.s (.lf (.sl 0 0 0 1 ns.length (some c)))) (TV.s (.lf (.sl 1 0 0 1 tx.length (some ct)))) [(0, numRow ns), (1, txtRow tx)] L M), qL (hP (.s (.lf (.sl 9002 0 0 3 M none))) [(9002, rowN L M)] (packS L) 0), qL (hMy (.s (.lf (.sl 9002 0 0 3 M none))) [(9002, rowN L M)] true), qL (hErr 0), qL (hRP (.s (.lf (.sl 9002 0 0 3 M none))) [(9002, rowN L M)] (packS L) 0), vT (packS L == packS L), [0 ≤ ((packS L).length : Int) ∧ (0 : Int) < 8, TV.v (.bool (((packS L).length : Int) % 8 == 0)) = TV.v (.bool true)], qL hAwake].flatten) (by kernel_rfl)
      (all_flat ⟨⟨decide_eq_false (by omega), trivial⟩, all_qL _, all_qL _, all_qL _, all_qL _, all_qL _, vT_ok _, ⟨⟨by omega, by omega⟩, by rw [show ((packS L).length : Int) % 8 = 0 by omega]; rfl, trivial⟩, all_qL _, trivial⟩) fun ρ w' hf _ => ⟨rfl, hf.below⟩
  by_cases h8 : tx.length > 8
  · exact At.fin rfl [(3000, hAwake)] ⟨hAwake_ok _, trivial⟩ [.y] (x := .v (.bool true)) (ob := [decide ((tx.length : Int) > 8) = true] ++ qL hAwake) (by kernel_rfl) (all_append.2 ⟨⟨decide_eq_true (by omega), trivial⟩, all_qL _⟩) fun ρ w' hf _ => ⟨rfl, hf.below⟩
  have hloop : ∀ i : Nat, (i ≤ tx.length ∧ ∀ j, j < i → (txf tx j).length ≤ 300) → At Tryd.prog w ⟨[], ρ, []⟩ Tryd.f4.ntmps [] (lp Tryd.f4 0) (EndX Tryd.prog Tryd.f4 (AllQ w)) [(0, (TV.s (.lf (.sl 0 0 0 1 ns.length (some c))))), (1, (TV.s (.lf (.sl 1 0 0 1 tx.length (some ct))))), (5, .int .i64 (i : Nat))] [(0, numRow ns), (1, txtRow tx)] := by
    refine At.loop (fun i : Nat => [(0, (TV.s (.lf (.sl 0 0 0 1 ns.length (some c))))), (1, (TV.s (.lf (.sl 1 0 0 1 tx.length (some ct))))), (5, .int .i64 (i : Nat))]) (fun _ => [(0, numRow ns), (1, txtRow tx)]) (fun i => i ≤ tx.length ∧ ∀ j, j < i → (txf tx j).length ≤ 300) (fun i => tx.length - i) fun i hx ih => ?_
    obtain ⟨hi, hj⟩ := hx
    by_cases h : i < tx.length
    · by_cases h3 : (txf tx i).length > 300
      · exact At.fin rfl [(8000, hAwake)] ⟨hAwake_ok _, trivial⟩ [.y, .y] (x := .v (.bool true)) (ob := [decide ((i : Int) < (tx.length : Int)) = true, 0 ≤ (i : Int) ∧ (i : Int) < (tx.length : Int), i < tx.length, decide (((txf tx i).length : Int) > 300) = true] ++ qL hAwake) (by kernel_rfl) (all_append.2 ⟨⟨decide_eq_true (by omega), ⟨by omega, by omega⟩, h, decide_eq_true (by omega), trivial⟩, all_qL _⟩) fun ρ w' hf _ => ⟨rfl, hf.below⟩
      · have h9 := ih (i + 1) ⟨h, fun j hj2 => by
          by_cases e : j < i
          · exact hj j e
          · obtain rfl : j = i := by omega
            omega⟩ (by omega)
        exact At.run rfl [] trivial [.y, .n] (tm2 := [(0, (TV.s (.lf (.sl 0 0 0 1 ns.length (some c))))), (1, (TV.s (.lf (.sl 1 0 0 1 tx.length (some ct))))), (5, .int .i64 (i + 1 : Nat))]) (rows2 := [(0, numRow ns), (1, txtRow tx)]) (ob := [decide ((i : Int) < (tx.length : Int)) = true, 0 ≤ (i : Int) ∧ (i : Int) < (tx.length : Int), i < tx.length, decide (((txf tx i).length : Int) > 300) = false, inI ((i : Int) + 1)]) (td := lp Tryd.f4 0) (by kernel_rfl) ⟨decide_eq_true (by omega), ⟨by omega, by omega⟩, h, decide_eq_false (by omega), ⟨by omega, by omega⟩, trivial⟩ rfl rfl (by intro h; cases h) h9
    · refine hend (fun t ht => ?_) i h
      obtain ⟨j, hj3, rfl⟩ := List.getElem_of_mem ht
      have := hj j (by omega)
      unfold txf at this
      rw [List.getD_eq_getElem?_getD, List.getElem?_eq_getElem hj3] at this
      exact this
  exact At.run rfl [] trivial [.n] (tm2 := [(0, (TV.s (.lf (.sl 0 0 0 1 ns.length (some c))))), (1, (TV.s (.lf (.sl 1 0 0 1 tx.length (some ct))))), (5, .int .i64 (0 : Nat))]) (rows2 := [(0, numRow ns), (1, txtRow tx)]) (ob := [decide ((tx.length : Int) > 8) = false]) (td := lp Tryd.f4 0) (by kernel_rfl) ⟨decide_eq_false (by omega), trivial⟩ rfl rfl (by intro h; cases h) (hloop 0 ⟨Nat.zero_le _, fun j hj => absurd hj (Nat.not_lt_zero j)⟩)
set_option maxRecDepth 100000 in
set_option maxHeartbeats 1000000 in
theorem made_run10 (ns : List UInt8) (na : Option Addr) (c : Nat) (tx : List (List UInt8)) (ta : Option Addr) (ct : Nat) (hT : TxSrc (TV.v (.slice ta 0 ct)) [] tx) (hn0 : 0 < ns.length) (hc : ns.length ≤ c) (hc2 : c ≤ 140737488355328) (ht0 : tx = []) (htl : tx.length ≤ 9223372036854775807) (ρ : Env) (w : World)
    (hr : ∀ q ∈ ([(0, numRow ns)] : List (Nat × Row)), RowAt ρ q.1 q.2 w) : Calls Tryd.prog 4 #[(TV.s (.lf (.sl 0 0 0 1 ns.length (some c)))).val ρ, (TV.v (.slice ta 0 ct)).val ρ] w (AllQ w) := by
  refine At.calls (args := [(TV.s (.lf (.sl 0 0 0 1 ns.length (some c)))), (TV.v (.slice ta 0 ct))]) (rows := [(0, numRow ns)]) (gl := []) (wr := []) (ρ := ρ) Tryd.func4 rfl rfl (init_ro1 ⟨trivial, rfl, trivial⟩ rfl rfl ⟨⟨hr (0, numRow ns) (by simp), num_ok ns⟩, trivial⟩) rfl ?_
  have hend : (∀ t ∈ tx, t.length ≤ 300) → ∀ i : Nat, ¬ i < 0 → At Tryd.prog w ⟨[], ρ, []⟩ Tryd.f4.ntmps [] (lp Tryd.f4 0) (EndX Tryd.prog Tryd.f4 (AllQ w)) [(0, (TV.s (.lf (.sl 0 0 0 1 ns.length (some c))))), (1, (TV.v (.slice ta 0 ct))), (5, .int .i64 (i : Nat))] [(0, numRow ns)] := by
    intro h300 i hi
    obtain ⟨L, hL⟩ : ∃ L, L = madeL tx ns := ⟨_, rfl⟩
    obtain ⟨M, hM⟩ : ∃ M, M = L.length := ⟨_, rfl⟩
    obtain ⟨l0, l1, lp, ld⟩ := made_len tx h300 ns
    have hmay := made_may tx h300 ns
    rw [← hL] at l0 l1 lp ld hmay
    have hE : packE L = 0 := by unfold packE; rw [hmay]; rfl
    have hmod : (packS L).length % 8 = 0 := by unfold packS; rw [hmay]; exact tree_mod L
    have hS := src_made 9002 L M hM (by omega)
    have kT : HintOk Tryd.prog 9002 (hTree 9002 (TV.s (.lf (.sl 0 0 0 1 ns.length (some c)))) (TV.v (.slice ta 0 ct)) [(0, numRow ns)] L M) := by
      rw [hM, hL]
      exact hTree_of fun ρ w hq => tree_run0 ns tx ta ct hT h300 ns.length c rfl hn0 hc hc2 ρ w (fun q h => hq q h)
    have kP := hP_ok 10001 hS (by omega) lp (fun c hc => Nat.le_trans (ld c hc) (by omega))
    have kM := hMy_ok 11001 hS (by omega) (fun c hc => Nat.le_trans (lp c hc) (by omega)) (fun c hc => Nat.le_trans (ld c hc) (by omega))
    have kR := hRP_ok 11010 hS (by omega) (fun c hc => Nat.le_trans (lp c hc) (by omega)) (fun c hc => Nat.le_trans (ld c hc) (by omega))
    rw [hE] at kP kR
    rw [hmay] at kM
    exact At.fin rfl [(9002, hTree 9002 (TV.s (.lf (.sl 0 0 0 1 ns.length (some c)))) (TV.v (.slice ta 0 ct)) [(0, numRow ns)] L M), (10001, hP (.s (.lf (.sl 9002 0 0 3 M none))) [(9002, rowN L M)] (packS L) 0), (11001, hMy (.s (.lf (.sl 9002 0 0 3 M none))) [(9002, rowN L M)] true), (11004, hErr 0), (11010, hRP (.s (.lf (.sl 9002 0 0 3 M none))) [(9002, rowN L M)] (packS L) 0), (2011012, .val (.v (.bool true))), (2011018, .val (.v (.bool true))), (11021, hAwake)] ⟨kT, kP, kM, hErr_ok _ _, kR, trivial, trivial, hAwake_ok _, trivial⟩ [.n] (x := .v (.bool true))
      (ob := [[decide ((i : Int) < ((0 : Nat) : Int)) = false], qL (hTree 9002 (TV.s (.lf (.sl 0 0 0 1 ns.length (some c)))) (TV.v (.slice ta 0 ct)) [(0, numRow ns)] L M), qL (hP (.s (.lf (.sl 9002 0 0 3 M none))) [(9002, rowN L M)] (packS L) 0), qL (hMy (.s (.lf (.sl 9002 0 0 3 M none))) [(9002, rowN L M)] true), qL (hErr 0), qL (hRP (.s (.lf (.sl 9002 0 0 3 M none))) [(9002, rowN L M)] (packS L) 0), vT (packS L == packS L), [0 ≤ ((packS L).length : Int) ∧ (0 : Int) < 8, TV.v (.bool (((packS L).length : Int) % 8 == 0)) = TV.v (.bool true)], qL hAwake].flatten) (by kernel_rfl)
      (all_flat ⟨⟨decide_eq_false (by omega), trivial⟩, all_qL _, all_qL _, all_qL _, all_qL _, all_qL _, vT_ok _, ⟨⟨by omega, by omega⟩, by rw [show ((packS L).length : Int) % 8 = 0 by omega]; rfl, trivial⟩, all_qL _, trivial⟩) fun ρ w' hf _ => ⟨rfl, hf.below⟩
  exact At.run rfl [] trivial [.n] (tm2 := [(0, (TV.s (.lf (.sl 0 0 0 1 ns.length (some c))))), (1, (TV.v (.slice ta 0 ct))), (5, .int .i64 (0 : Nat))]) (rows2 := [(0, numRow ns)]) (ob := [false = false]) (td := lp Tryd.f4 0) (by kernel_rfl) ⟨rfl, trivial⟩ rfl rfl (by intro h; cases h) (hend (fun t ht => by rw [ht0] at ht; cases ht) 0 (by omega))
set_option maxRecDepth 100000 in
set_option maxHeartbeats 1000000 in
theorem made_run01 (ns : List UInt8) (na : Option Addr) (c : Nat) (tx : List (List UInt8)) (ta : Option Addr) (ct : Nat) (hT : TxSrc (TV.s (.lf (.sl 1 0 0 1 tx.length (some ct)))) [(1, txtRow tx)] tx) (hn0 : ns = [])  (htl : tx.length ≤ 9223372036854775807) (ρ : Env) (w : World)
    (hr : ∀ q ∈ ([(1, txtRow tx)] : List (Nat × Row)), RowAt ρ q.1 q.2 w) : Calls Tryd.prog 4 #[(TV.v (.slice na 0 c)).val ρ, (TV.s (.lf (.sl 1 0 0 1 tx.length (some ct)))).val ρ] w (AllQ w) := by
  refine At.calls (args := [(TV.v (.slice na 0 c)), (TV.s (.lf (.sl 1 0 0 1 tx.length (some ct))))]) (rows := [(1, txtRow tx)]) (gl := []) (wr := []) (ρ := ρ) Tryd.func4 rfl rfl (init_ro1 ⟨rfl, trivial, trivial⟩ rfl rfl ⟨⟨hr (1, txtRow tx) (by simp), txt_ok tx⟩, trivial⟩) rfl ?_
  have hend : (∀ t ∈ tx, t.length ≤ 300) → ∀ i : Nat, ¬ i < tx.length → At Tryd.prog w ⟨[], ρ, []⟩ Tryd.f4.ntmps [] (lp Tryd.f4 0) (EndX Tryd.prog Tryd.f4 (AllQ w)) [(0, (TV.v (.slice na 0 c))), (1, (TV.s (.lf (.sl 1 0 0 1 tx.length (some ct))))), (5, .int .i64 (i : Nat))] [(1, txtRow tx)] := by
    intro h300 i hi
    obtain ⟨L, hL⟩ : ∃ L, L = madeL tx ns := ⟨_, rfl⟩
    obtain ⟨M, hM⟩ : ∃ M, M = L.length := ⟨_, rfl⟩
    obtain ⟨l0, l1, lp, ld⟩ := made_len tx h300 ns
    have hmay := made_may tx h300 ns
    rw [← hL] at l0 l1 lp ld hmay
    have hE : packE L = 0 := by unfold packE; rw [hmay]; rfl
    have hmod : (packS L).length % 8 = 0 := by unfold packS; rw [hmay]; exact tree_mod L
    have hS := src_made 9002 L M hM (by omega)
    have kT : HintOk Tryd.prog 9002 (hTree 9002 (TV.v (.slice na 0 c)) (TV.s (.lf (.sl 1 0 0 1 tx.length (some ct)))) [(1, txtRow tx)] L M) := by
      rw [hM, hL, hn0]
      exact hTree_of fun ρ w hq => tree_nil1 na c tx ta ct hT ρ w (fun q h => hq q h)
    have kP := hP_ok 10001 hS (by omega) lp (fun c hc => Nat.le_trans (ld c hc) (by omega))
    have kM := hMy_ok 11001 hS (by omega) (fun c hc => Nat.le_trans (lp c hc) (by omega)) (fun c hc => Nat.le_trans (ld c hc) (by omega))
    have kR := hRP_ok 11010 hS (by omega) (fun c hc => Nat.le_trans (lp c hc) (by omega)) (fun c hc => Nat.le_trans (ld c hc) (by omega))
    rw [hE] at kP kR
    rw [hmay] at kM
    exact At.fin rfl [(9002, hTree 9002 (TV.v (.slice na 0 c)) (TV.s (.lf (.sl 1 0 0 1 tx.length (some ct)))) [(1, txtRow tx)] L M), (10001, hP (.s (.lf (.sl 9002 0 0 3 M none))) [(9002, rowN L M)] (packS L) 0), (11001, hMy (.s (.lf (.sl 9002 0 0 3 M none))) [(9002, rowN L M)] true), (11004, hErr 0), (11010, hRP (.s (.lf (.sl 9002 0 0 3 M none))) [(9002, rowN L M)] (packS L) 0), (2011012, .val (.v (.bool true))), (2011018, .val (.v (.bool true))), (11021, hAwake)] ⟨kT, kP, kM, hErr_ok _ _, kR, trivial, trivial, hAwake_ok _, trivial⟩ [.n] (x := .v (.bool true))
      (ob := [[decide ((i : Int) < ((tx.length : Nat) : Int)) = false], qL (hTree 9002 (TV.v (.slice na 0 c)) (TV.s (.lf (.sl 1 0 0 1 tx.length (some ct)))) [(1, txtRow tx)] L M), qL (hP (.s (.lf (.sl 9002 0 0 3 M none))) [(9002, rowN L M)] (packS L) 0), qL (hMy (.s (.lf (.sl 9002 0 0 3 M none))) [(9002, rowN L M)] true), qL (hErr 0), qL (hRP (.s (.lf (.sl 9002 0 0 3 M none))) [(9002, rowN L M)] (packS L) 0), vT (packS L == packS L), [0 ≤ ((packS L).length : Int) ∧ (0 : Int) < 8, TV.v (.bool (((packS L).length : Int) % 8 == 0)) = TV.v (.bool true)], qL hAwake].flatten) (by kernel_rfl)
      (all_flat ⟨⟨decide_eq_false (by omega), trivial⟩, all_qL _, all_qL _, all_qL _, all_qL _, all_qL _, vT_ok _, ⟨⟨by omega, by omega⟩, by rw [show ((packS L).length : Int) % 8 = 0 by omega]; rfl, trivial⟩, all_qL _, trivial⟩) fun ρ w' hf _ => ⟨rfl, hf.below⟩
  by_cases h8 : tx.length > 8
  · exact At.fin rfl [(3000, hAwake)] ⟨hAwake_ok _, trivial⟩ [.y] (x := .v (.bool true)) (ob := [decide ((tx.length : Int) > 8) = true] ++ qL hAwake) (by kernel_rfl) (all_append.2 ⟨⟨decide_eq_true (by omega), trivial⟩, all_qL _⟩) fun ρ w' hf _ => ⟨rfl, hf.below⟩
  have hloop : ∀ i : Nat, (i ≤ tx.length ∧ ∀ j, j < i → (txf tx j).length ≤ 300) → At Tryd.prog w ⟨[], ρ, []⟩ Tryd.f4.ntmps [] (lp Tryd.f4 0) (EndX Tryd.prog Tryd.f4 (AllQ w)) [(0, (TV.v (.slice na 0 c))), (1, (TV.s (.lf (.sl 1 0 0 1 tx.length (some ct))))), (5, .int .i64 (i : Nat))] [(1, txtRow tx)] := by
    refine At.loop (fun i : Nat => [(0, (TV.v (.slice na 0 c))), (1, (TV.s (.lf (.sl 1 0 0 1 tx.length (some ct))))), (5, .int .i64 (i : Nat))]) (fun _ => [(1, txtRow tx)]) (fun i => i ≤ tx.length ∧ ∀ j, j < i → (txf tx j).length ≤ 300) (fun i => tx.length - i) fun i hx ih => ?_
    obtain ⟨hi, hj⟩ := hx
    by_cases h : i < tx.length
    · by_cases h3 : (txf tx i).length > 300
      · exact At.fin rfl [(8000, hAwake)] ⟨hAwake_ok _, trivial⟩ [.y, .y] (x := .v (.bool true)) (ob := [decide ((i : Int) < (tx.length : Int)) = true, 0 ≤ (i : Int) ∧ (i : Int) < (tx.length : Int), i < tx.length, decide (((txf tx i).length : Int) > 300) = true] ++ qL hAwake) (by kernel_rfl) (all_append.2 ⟨⟨decide_eq_true (by omega), ⟨by omega, by omega⟩, h, decide_eq_true (by omega), trivial⟩, all_qL _⟩) fun ρ w' hf _ => ⟨rfl, hf.below⟩
      · have h9 := ih (i + 1) ⟨h, fun j hj2 => by
          by_cases e : j < i
          · exact hj j e
          · obtain rfl : j = i := by omega
            omega⟩ (by omega)
        exact At.run rfl [] trivial [.y, .n] (tm2 := [(0, (TV.v (.slice na 0 c))), (1, (TV.s (.lf (.sl 1 0 0 1 tx.length (some ct))))), (5, .int .i64 (i + 1 : Nat))]) (rows2 := [(1, txtRow tx)]) (ob := [decide ((i : Int) < (tx.length : Int)) = true, 0 ≤ (i : Int) ∧ (i : Int) < (tx.length : Int), i < tx.length, decide (((txf tx i).length : Int) > 300) = false, inI ((i : Int) + 1)]) (td := lp Tryd.f4 0) (by kernel_rfl) ⟨decide_eq_true (by omega), ⟨by omega, by omega⟩, h, decide_eq_false (by omega), ⟨by omega, by omega⟩, trivial⟩ rfl rfl (by intro h; cases h) h9
    · refine hend (fun t ht => ?_) i h
      obtain ⟨j, hj3, rfl⟩ := List.getElem_of_mem ht
      have := hj j (by omega)
      unfold txf at this
      rw [List.getD_eq_getElem?_getD, List.getElem?_eq_getElem hj3] at this
      exact this
  exact At.run rfl [] trivial [.n] (tm2 := [(0, (TV.v (.slice na 0 c))), (1, (TV.s (.lf (.sl 1 0 0 1 tx.length (some ct))))), (5, .int .i64 (0 : Nat))]) (rows2 := [(1, txtRow tx)]) (ob := [decide ((tx.length : Int) > 8) = false]) (td := lp Tryd.f4 0) (by kernel_rfl) ⟨decide_eq_false (by omega), trivial⟩ rfl rfl (by intro h; cases h) (hloop 0 ⟨Nat.zero_le _, fun j hj => absurd hj (Nat.not_lt_zero j)⟩)
set_option maxRecDepth 100000 in
set_option maxHeartbeats 1000000 in
theorem made_run00 (ns : List UInt8) (na : Option Addr) (c : Nat) (tx : List (List UInt8)) (ta : Option Addr) (ct : Nat) (hT : TxSrc (TV.v (.slice ta 0 ct)) [] tx) (hn0 : ns = []) (ht0 : tx = []) (htl : tx.length ≤ 9223372036854775807) (ρ : Env) (w : World)
    (hr : ∀ q ∈ ([] : List (Nat × Row)), RowAt ρ q.1 q.2 w) : Calls Tryd.prog 4 #[(TV.v (.slice na 0 c)).val ρ, (TV.v (.slice ta 0 ct)).val ρ] w (AllQ w) := by
  refine At.calls (args := [(TV.v (.slice na 0 c)), (TV.v (.slice ta 0 ct))]) (rows := []) (gl := []) (wr := []) (ρ := ρ) Tryd.func4 rfl rfl (init_ro1 ⟨rfl, rfl, trivial⟩ rfl rfl trivial) rfl ?_
  have hend : (∀ t ∈ tx, t.length ≤ 300) → ∀ i : Nat, ¬ i < 0 → At Tryd.prog w ⟨[], ρ, []⟩ Tryd.f4.ntmps [] (lp Tryd.f4 0) (EndX Tryd.prog Tryd.f4 (AllQ w)) [(0, (TV.v (.slice na 0 c))), (1, (TV.v (.slice ta 0 ct))), (5, .int .i64 (i : Nat))] [] := by
    intro h300 i hi
    obtain ⟨L, hL⟩ : ∃ L, L = madeL tx ns := ⟨_, rfl⟩
    obtain ⟨M, hM⟩ : ∃ M, M = L.length := ⟨_, rfl⟩
    obtain ⟨l0, l1, lp, ld⟩ := made_len tx h300 ns
    have hmay := made_may tx h300 ns
    rw [← hL] at l0 l1 lp ld hmay
    have hE : packE L = 0 := by unfold packE; rw [hmay]; rfl
    have hmod : (packS L).length % 8 = 0 := by unfold packS; rw [hmay]; exact tree_mod L
    have hS := src_made 9002 L M hM (by omega)
    have kT : HintOk Tryd.prog 9002 (hTree 9002 (TV.v (.slice na 0 c)) (TV.v (.slice ta 0 ct)) [] L M) := by
      rw [hM, hL, hn0]
      exact hTree_of fun ρ w hq => tree_nil0 na c tx ta ct hT ρ w (fun q h => hq q h)
    have kP := hP_ok 10001 hS (by omega) lp (fun c hc => Nat.le_trans (ld c hc) (by omega))
    have kM := hMy_ok 11001 hS (by omega) (fun c hc => Nat.le_trans (lp c hc) (by omega)) (fun c hc => Nat.le_trans (ld c hc) (by omega))
    have kR := hRP_ok 11010 hS (by omega) (fun c hc => Nat.le_trans (lp c hc) (by omega)) (fun c hc => Nat.le_trans (ld c hc) (by omega))
    rw [hE] at kP kR
    rw [hmay] at kM
    exact At.fin rfl [(9002, hTree 9002 (TV.v (.slice na 0 c)) (TV.v (.slice ta 0 ct)) [] L M), (10001, hP (.s (.lf (.sl 9002 0 0 3 M none))) [(9002, rowN L M)] (packS L) 0), (11001, hMy (.s (.lf (.sl 9002 0 0 3 M none))) [(9002, rowN L M)] true), (11004, hErr 0), (11010, hRP (.s (.lf (.sl 9002 0 0 3 M none))) [(9002, rowN L M)] (packS L) 0), (2011012, .val (.v (.bool true))), (2011018, .val (.v (.bool true))), (11021, hAwake)] ⟨kT, kP, kM, hErr_ok _ _, kR, trivial, trivial, hAwake_ok _, trivial⟩ [.n] (x := .v (.bool true))
      (ob := [[decide ((i : Int) < ((0 : Nat) : Int)) = false], qL (hTree 9002 (TV.v (.slice na 0 c)) (TV.v (.slice ta 0 ct)) [] L M), qL (hP (.s (.lf (.sl 9002 0 0 3 M none))) [(9002, rowN L M)] (packS L) 0), qL (hMy (.s (.lf (.sl 9002 0 0 3 M none))) [(9002, rowN L M)] true), qL (hErr 0), qL (hRP (.s (.lf (.sl 9002 0 0 3 M none))) [(9002, rowN L M)] (packS L) 0), vT (packS L == packS L), [0 ≤ ((packS L).length : Int) ∧ (0 : Int) < 8, TV.v (.bool (((packS L).length : Int) % 8 == 0)) = TV.v (.bool true)], qL hAwake].flatten) (by kernel_rfl)
      (all_flat ⟨⟨decide_eq_false (by omega), trivial⟩, all_qL _, all_qL _, all_qL _, all_qL _, all_qL _, vT_ok _, ⟨⟨by omega, by omega⟩, by rw [show ((packS L).length : Int) % 8 = 0 by omega]; rfl, trivial⟩, all_qL _, trivial⟩) fun ρ w' hf _ => ⟨rfl, hf.below⟩
  exact At.run rfl [] trivial [.n] (tm2 := [(0, (TV.v (.slice na 0 c))), (1, (TV.v (.slice ta 0 ct))), (5, .int .i64 (0 : Nat))]) (rows2 := []) (ob := [false = false]) (td := lp Tryd.f4 0) (by kernel_rfl) ⟨rfl, trivial⟩ rfl rfl (by intro h; cases h) (hend (fun t ht => by rw [ht0] at ht; cases ht) 0 (by omega))
end
end Go.Proofs.YtgbaaiedpiiepaaDoor
