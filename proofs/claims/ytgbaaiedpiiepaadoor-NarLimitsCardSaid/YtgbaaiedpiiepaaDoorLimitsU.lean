/- NarLimits: names, depths, data and nodes are as many as they may be, and no more: the law returns true whatever comes in. No condition. -/
import Derived.Test.YtgbaaiedpiiepaaDoorU19
namespace Go.Proofs.YtgbaaiedpiiepaaDoor.E
open Go Go.RowKit
set_option linter.unusedVariables false
def isLf : TV → Bool
  | .s (.lf _) => true
  | _ => false
def TV.renS (m : List (Nat × Nat)) : TV → TV
  | .s (.lf x) => .s (.lf (x.ren m))
  | y => y
theorem findT_map {g : TV → TV} {t : Nat} : ∀ {l : List (Nat × TV)} {x : TV}, findT l t = some x → findT (l.map fun p => (p.1, g p.2)) t = some (g x)
  | [], _, h => by cases h
  | p :: l, x, h => by
    unfold findT at h
    rw [List.map_cons]
    unfold findT
    cases hb : Nat.beq p.1 t with
    | true => rw [hb] at h; cases h; rfl
    | false => rw [hb] at h; exact findT_map (l := l) h
/-- Rows under other numbers (m: a row's number there, its number here). -/
theorem At.ren {r : Option Nat} {mk : List Nat} {P : Program} {w0 : World} {wr : Bs} {n : Nat} {gl : List Nat} {todo : List Item} {Q : Exit → Act → World → Prop} (m : List (Nat × Nat)) (tm2 : List (Nat × TV)) (rows2 : List (Nat × Row))
    (hlf : tm2.all (fun p => isLf p.2) = true) (hid : idsOk tm2 rows2 gl = true) (hmo : renOk m wr.k = true) (hnd : nodupB (rows2.map fun p => renL m p.1) = true) (h5 : wr.k.all (hasN (rows2.map (·.1) ++ gl.map (500 + ·))) = true)
    (h : At P w0 wr n gl todo Q tm2 rows2 r mk) : At P w0 wr n gl todo Q (tm2.map fun p => (p.1, p.2.renS m)) (rows2.map fun p => (renL m p.1, p.2.ren m)) r mk := by
  intro a w ρ hd
  have hN := nodupB_ok hnd
  have hinj : ∀ p ∈ rows2, ∀ q ∈ rows2, renL m p.1 = renL m q.1 → p.1 = q.1 := by
    clear hid h5 h hd hnd
    induction rows2 with
    | nil => intro p hp; cases hp
    | cons x l ih =>
      rw [List.map_cons, List.nodup_cons] at hN
      intro p hp q hq he
      rcases List.mem_cons.1 hp with e1 | hp <;> rcases List.mem_cons.1 hq with e2 | hq
      · rw [e1, e2]
      · exact absurd (List.mem_map.2 ⟨q, hq, by rw [← he, e1]⟩) hN.1
      · exact absurd (List.mem_map.2 ⟨p, hp, by rw [he, e2]⟩) hN.1
      · exact ih hN.2 p hp q hq he
  have hrow : ∀ q y, findR rows2 q = some y → (q, y) ∈ rows2 ∧ findR (rows2.map fun p => (renL m p.1, p.2.ren m)) (renL m q) = some (y.ren m) := fun q y hy => by
    have hm := findR_mem hy
    refine ⟨hm, ?_⟩
    have hN2 : ((rows2.map fun p => (renL m p.1, p.2.ren m)).map (·.1)).Nodup := by rw [List.map_map]; exact hN
    exact findR_nodup (p := (renL m q, y.ren m)) hN2 (List.mem_map.2 ⟨_, hm, rfl⟩)
  have hids := hid
  unfold idsOk at hids
  rw [Bool.and_eq_true] at hids
  refine h a w (fun q => ρ (renL m q)) ⟨hd.sz, hd.df, hd.mf, hd.ko, fun t x hx => ?_, fun q y hy => ?_, fun q u y z hy hz hqu hw => ?_, hd.fr, fun q hq => ?_, fun q hq => List.all_eq_true.1 h5 q hq, fun g hg hu => ?_, fun q B hq => by cases hq⟩
  · have hp := findT_mem hx
    obtain ⟨g1, g2, _⟩ := hd.tm t _ (findT_map (g := TV.renS m) hx)
    have hl : isLf x = true := List.all_eq_true.1 hlf _ hp
    have hu : x.ids.all (hasN (rows2.map (·.1) ++ gl.map (500 + ·))) = true := List.all_eq_true.1 hids.1 _ hp
    cases x with
    | tup _ => cases hl
    | s sv =>
      cases sv with
      | lf x =>
        refine ⟨by rw [g1]; show some ((Lf.ren m x).val ρ) = _; rw [Lf.ren_val]; rfl, ?_, fun q hq => List.all_eq_true.1 hu q hq⟩
        cases x <;> exact g2
      | agg _ => cases hl
      | un => cases hl
  · obtain ⟨hm, hf⟩ := hrow q y hy
    obtain ⟨g1, g2, g3, g4, g5⟩ := hd.rw _ _ hf
    refine ⟨RowAt.ren g1, pok_ren g2, hasN_iff.2 (List.mem_append.2 (.inl (List.mem_map.2 ⟨_, hm, rfl⟩))), fun u hu => ?_, g5⟩
    exact List.all_eq_true.1 (List.all_eq_true.1 hids.2 _ hm) u hu
  · obtain ⟨hm, hf⟩ := hrow q y hy
    obtain ⟨hm2, hf2⟩ := hrow u z hz
    exact hd.ds _ _ _ _ hf hf2 (fun e => hqu (hinj _ hm _ hm2 e)) hw
  · show ρ (renL m q) = _
    rw [renL_fix hmo hq]
    exact hd.e0 q hq
  · show ρ (renL m (500 + g)) = _
    rw [renL_fix hmo (.inl (by omega))]
    refine hd.gl g hg ?_
    rcases List.mem_append.1 (hasN_iff.1 hu) with hu | hu
    · obtain ⟨p, hp, e⟩ := List.mem_map.1 hu
      refine hasN_iff.2 (List.mem_append.2 (.inl ?_))
      rw [List.map_map]
      exact List.mem_map.2 ⟨p, hp, by show renL m p.1 = _; rw [e, renL_fix hmo (.inl (by omega))]⟩
    · exact hasN_iff.2 (List.mem_append.2 (.inr hu))
end Go.Proofs.YtgbaaiedpiiepaaDoor.E
namespace Go.Proofs.YtgbaaiedpiiepaaDoor
open Go.RowKit Go.Shelf
set_option linter.unusedVariables false
set_option linter.unusedSimpArgs false
def rootL : Nd := ⟨[], 4, []⟩
def pD : Nat → List UInt8
  | 0 => [100]
  | k + 1 => pD k ++ [47, 100]
def gD : Nat → Nd
  | 0 => rootL
  | i + 1 => ⟨pD i, 4, []⟩
def gN : Nat → Nd
  | 0 => rootL
  | i + 1 => ⟨[UInt8.ofNat (97 + (i + 1) / 26 % 26), UInt8.ofNat (97 + (i + 1) % 26)], 1, []⟩
set_option maxRecDepth 100000 in
theorem may_c0 : ∀ c, c < 10 → mayL [rootL, ⟨List.replicate (250 + c) 110, 1, []⟩] = decide (250 + c ≤ 255) := by decide +kernel
set_option maxRecDepth 100000 in
theorem may_c1 : ∀ c, c < 8 → mayL ((List.range (61 + c)).map gD) = decide (60 + c ≤ 64) := by decide +kernel
theorem may_c2 (m : Nat) : mayL [⟨[], 1, List.replicate m 0⟩] = decide (m ≤ 65536) := by
  simp [mayL, mayDataL, restU_succ, fuelN]
set_option maxRecDepth 100000 in
theorem may_c3 : ∀ c, c < 12 → mayL ((List.range (250 + c)).map gN) = decide (250 + c ≤ 256) := by decide +kernel
section
open E
abbrev ndF (g : Nat → Nd) : Nat → List Value := fun i => [stv (g i).path, .int .i64 (g i).kind, stv (g i).data]
abbrev rowF (g : Nat → Nd) (n : Nat) : Row := ⟨[.fnc (ndF g) 3 n], true, some (42, 3)⟩
abbrev lstF (g : Nat → Nd) (n : Nat) : List Nd := (List.range n).map g
theorem lstF_len (g : Nat → Nd) (n : Nat) : (lstF g n).length = n := by simp
theorem rowF_ndv {W : World} {ρ : Env} {r : Nat} {g : Nat → Nd} {n : Nat} (h : RowAt ρ r (rowF g n) W) (h0 : 0 < n) : NdV W (.slice (some ⟨(ρ r).1, (ρ r).2 + (0 + 0 * 3), none⟩) n ((ρ r).3 - 0)) (lstF g n) := by
  obtain ⟨_, _, h3, _⟩ := id h
  obtain ⟨q1, q2, q3, _⟩ := h3 42 3 rfl
  have e : lst ρ (rowF g n).ps = (List.range n).flatMap (ndF g) := by simp [lst, Pc.arrV]
  have hlen := flat_len (f := ndF g) (k := 3) n (fun q hq => rfl)
  rw [e, hlen] at q3
  refine ⟨_, _, by rw [lstF_len], by rw [lstF_len]; omega, by unfold maxLen at q2; omega, fun _ => ⟨_, _, rfl, ?_⟩⟩
  exact row_nodes h (by rw [lstF_len]; exact Nat.le_refl _) (fun i hi => rfl) (fun i hi => by simp [lstF])
abbrev hPackF (r : Nat) (g : Nat → Nd) (n : Nat) : Hint := pr 12 (fun ρ => #[(TV.s (.lf (.sl r 0 0 3 n none))).val ρ]) (.tup [.lf (.v (stv (packS (lstF g n)))), .lf (.v (.int .i64 (packE (lstF g n))))]) [(r, rowF g n)]
theorem hPackF_ok (id r n : Nat) (g : Nat → Nd) (h0 : 0 < n) (hl : n ≤ 1000000) (hp : ∀ i, i < n → (g i).path.length ≤ 10000) (hd : ∀ i, i < n → (g i).data.length ≤ 100000) : HintOk Tryd.prog id (hPackF r g n) := by
  refine pr_ok ent12 (v := .tuple #[strV (packS (lstF g n)), .int .i64 (packE (lstF g n))]) (ok2 rfl rfl) (fun _ => rfl) fun ρ w h => ?_
  refine ppack_any _ (lstF g n) (by rw [lstF_len]; exact hl) (fun c hc => ?_) (fun c hc => ?_) w (rowF_ndv (h (r, rowF g n) (by simp)) h0)
  · obtain ⟨i, hi, rfl⟩ := List.mem_map.1 hc; exact hp i (List.mem_range.1 hi)
  · obtain ⟨i, hi, rfl⟩ := List.mem_map.1 hc; exact hd i (List.mem_range.1 hi)
abbrev hMayF (r : Nat) (g : Nat → Nd) (n : Nat) : Hint := pr 14 (fun ρ => #[(TV.s (.lf (.sl r 0 0 3 n none))).val ρ]) (.v (.bool (mayL (lstF g n)))) [(r, rowF g n)]
theorem hMayF_ok (id r n : Nat) (g : Nat → Nd) (h0 : 0 < n) (hl : n ≤ 1000000) (hp : ∀ i, i < n → (g i).path.length ≤ 10000) (hd : ∀ i, i < n → (g i).data.length ≤ 100000) : HintOk Tryd.prog id (hMayF r g n) := by
  refine pr_ok ent14 (v := .bool (mayL (lstF g n))) rfl (fun _ => rfl) fun ρ w h => ?_
  refine pmay_v _ (lstF g n) (by rw [lstF_len]; exact hl) (fun c hc => ?_) (fun c hc => ?_) w (rowF_ndv (h (r, rowF g n) (by simp)) h0)
  · obtain ⟨i, hi, rfl⟩ := List.mem_map.1 hc; exact Nat.le_trans (hp i (List.mem_range.1 hi)) (by omega)
  · obtain ⟨i, hi, rfl⟩ := List.mem_map.1 hc; exact Nat.le_trans (hd i (List.mem_range.1 hi)) (by omega)
abbrev EndL (w : World) : Exit → Act → World → Prop := EndX Tryd.prog Tryd.f9 fun e w' => e = .returned (.bool true) ∧ Below w.heap.size w w'
theorem packE_eq (l : List Nd) : (packE l == 0) = mayL l := by
  unfold packE
  cases mayL l <;> rfl
abbrev tmZ (r m : Nat) (gd : Bool) : List (Nat × TV) := [(7, .s (.lf (.sl r 0 0 3 m none))), (8, .v (.bool gd))]
set_option maxRecDepth 100000 in
theorem limits_end (w : World) (g : Nat → Nd) (m : Nat) (gd : Bool) (h0 : 0 < m) (hl : m ≤ 1000000) (hp : ∀ i, i < m → (g i).path.length ≤ 10000) (hd : ∀ i, i < m → (g i).data.length ≤ 100000) (hg : mayL (lstF g m) = gd) :
    At Tryd.prog w ⟨[], fun _ => ⟨0, 0, 0⟩, []⟩ 120 [] (rp Tryd.f9 29) (EndL w) (tmZ 32901 m gd) [(32901, rowF g m)] := by
  refine At.fin rfl [(30001, hPackF 32901 g m), (31001, hMayF 32901 g m), (2031003, .val (.v (.bool true))), (31006, hErr (packE (lstF g m))), (2031009, .val (.v (.bool true))), (31012, hAwake)] ⟨hPackF_ok _ _ _ _ h0 hl hp hd, hMayF_ok _ _ _ _ h0 hl hp hd, trivial, hErr_ok _ _, trivial, hAwake_ok _, trivial⟩ [] (x := .v (.bool true))
    (ob := [qL (hPackF 32901 g m), qL (hMayF 32901 g m), [TV.v (.bool (mayL (lstF g m) == gd)) = TV.v (.bool true)], qL (hErr (packE (lstF g m))), [TV.v (.bool ((packE (lstF g m) == 0) == gd)) = TV.v (.bool true)], qL hAwake].flatten) (by kernel_rfl) ?_ fun ρ w' hf _ => ⟨rfl, hf.below⟩
  refine all_flat ⟨all_qL _, all_qL _, ⟨by rw [hg, beq_self_eq_true], trivial⟩, all_qL _, ⟨by rw [packE_eq, hg, beq_self_eq_true], trivial⟩, all_qL _, trivial⟩
abbrev rowR : Row := ⟨[.fnc (chunkF [stv [], .int .i64 4, stv []] 3 1) 3 1], true, some (42, 3)⟩
abbrev tmL (n wh : Nat) : List (Nat × TV) := [(0, .int .u8 n), (1, .int .u8 wh)]
abbrev tmL0 (n wh k : Nat) : List (Nat × TV) := (5, .v (stv (List.replicate k 110))) :: (6, .int .i64 k) :: tmL n wh
abbrev tmL1 (n wh k r m : Nat) : List (Nat × TV) := (7, .s (.lf (.sl r 0 0 3 m none))) :: (9, .v (stv (pD k))) :: (10, .int .i64 k) :: tmL n wh
abbrev tmL2 (n wh k r m : Nat) (z : Int) : List (Nat × TV) := (7, .s (.lf (.sl r 0 0 3 m none))) :: (12, .int .i64 z) :: (13, .int .i64 k) :: tmL n wh
abbrev g0 (c : Nat) : Nat → Nd
  | 0 => rootL
  | _ => ⟨List.replicate (250 + c) 110, 1, []⟩
abbrev g2 (m : Nat) : Nat → Nd := fun _ => ⟨[], 1, List.replicate m 0⟩
theorem pD_len : ∀ k, (pD k).length = 1 + 2 * k
  | 0 => rfl
  | k + 1 => by rw [pD, List.length_append, pD_len k, List.length_cons, List.length_cons, List.length_nil]; omega
theorem gN_at (k : Nat) : gN (k + 1) = ⟨[UInt8.ofNat (97 + (k + 1) / 26 % 26), UInt8.ofNat (97 + (k + 1) % 26)], 1, []⟩ := rfl
set_option maxRecDepth 100000 in
set_option maxHeartbeats 2000000 in
theorem limits_any (n wh : Nat) (hn : n < 256) (hwh : wh < 256) (w : World) : Calls Tryd.prog 9 #[.int .u8 (n : Int), .int .u8 (wh : Int)] w fun e w' => e = .returned (.bool true) ∧ Below w.heap.size w w' := by
  refine At.calls (args := [.int .u8 n, .int .u8 wh]) (rows := []) (gl := []) (wr := []) (ρ := fun _ => ⟨0, 0, 0⟩) Tryd.func9 rfl rfl (init_pure ⟨rfl, rfl, trivial⟩ rfl) rfl ?_
  have hwr : IntKind.i64.wrap (n : Int) = (n : Int) := by rw [IntKind.wrap_i64]; omega
  obtain ⟨c, hc, hcn⟩ : ∃ c : Nat, c < 10 ∧ 250 + (n : Int) % 10 = (250 + c : Nat) := ⟨n % 10, by omega, by omega⟩
  -- what the second number asks
  have hloop0 : ∀ k : Nat, k ≤ 250 + c → At Tryd.prog w ⟨[], fun _ => ⟨0, 0, 0⟩, []⟩ 120 [] (lp Tryd.f9 0) (EndL w) (tmL0 n wh k) [] := by
    refine At.loop (fun k : Nat => tmL0 n wh k) (fun _ => []) (fun k => k ≤ 250 + c) (fun k => 250 + c - k) fun k hk ih => ?_
    by_cases h : k < 250 + c
    · refine At.run rfl [] trivial [.y] (tm2 := (5, .v (stv (List.replicate k 110 ++ [110]))) :: (6, .int .i64 (k + 1 : Nat)) :: tmL n wh) (rows2 := []) (ob := [IntKind.i64.wrap (n : Int) = (n : Int), 0 ≤ (n : Int) ∧ (0 : Int) < 10, inI (250 + (n : Int) % 10), decide ((k : Int) < 250 + (n : Int) % 10) = true, ((List.replicate k (110 : UInt8)).length : Int) + 1 ≤ 9223372036854775807, inI ((k : Int) + 1)]) (td := lp Tryd.f9 0) (by kernel_rfl)
        ⟨hwr, by omega, ⟨by omega, by omega⟩, decide_eq_true (by omega), by rw [List.length_replicate]; omega, ⟨by omega, by omega⟩, trivial⟩ rfl rfl (by intro h; cases h) ?_
      rw [← List.replicate_succ']
      exact ih (k + 1) (by omega) (by omega)
    obtain rfl : k = 250 + c := by omega
    have hlen : (((List.replicate (250 + c) (110 : UInt8)).length : Nat) : Int) = (250 + c : Nat) := by rw [List.length_replicate]
    obtain ⟨j, hj, hjn⟩ : ∃ j : Nat, j < 4 ∧ (wh : Int) % 4 = j := ⟨wh % 4, by omega, by omega⟩
    have hcase : j = 0 ∨ j = 1 ∨ j = 2 ∨ j = 3 := by omega
    rcases hcase with rfl | rfl | rfl | rfl
    · refine At.run rfl [(2009001, .val (.int .u8 0))] ⟨trivial, trivial⟩ [.n, .y] (tm2 := tmZ 17004 2 (decide (((List.replicate (250 + c) (110 : UInt8)).length : Int) ≤ 255))) (rows2 := [(17004, ⟨[.fnc (appF (chunkF [stv [], .int .i64 4, stv []] 3 1) 1 fun q => chunkF [stv (List.replicate (250 + c) 110), .int .i64 1, stv []] 3 1 (addN 0 q)) 3 2], true, some (42, 3)⟩)])
        (ob := [IntKind.i64.wrap (n : Int) = (n : Int), 0 ≤ (n : Int) ∧ (0 : Int) < 10, inI (250 + (n : Int) % 10), decide (((250 + c : Nat) : Int) < 250 + (n : Int) % 10) = false, TV.int .u8 ((wh : Int) % 4) = TV.int .u8 0, 0 ≤ (wh : Int) ∧ (0 : Int) < 4, true = true, 1 = 1, 2 ≤ 9223372036854775807, 80 ≤ 140737488355328, 1 ≤ 1]) (td := rp Tryd.f9 29) (by kernel_rfl)
        ⟨hwr, by omega, ⟨by omega, by omega⟩, decide_eq_false (by omega), by rw [hjn]; rfl, by omega, rfl, rfl, by omega, by omega, by omega, trivial⟩ rfl rfl (by intro h; cases h) ?_
      refine At.rows (rows2 := [(17004, rowF (g0 c) 2)]) (rowsEq_fnc (fun i hi => ?_) trivial) rfl ?_
      · have : i = 0 ∨ i = 1 := by omega
        rcases this with rfl | rfl <;> rfl
      refine At.ren [(32901, 17004)] (tmZ 32901 2 _) [(32901, rowF (g0 c) 2)] rfl rfl rfl rfl rfl (limits_end w (g0 c) 2 _ (by omega) (by omega) (fun i hi => ?_) (fun i hi => ?_) ?_)
      · have : i = 0 ∨ i = 1 := by omega
        rcases this with rfl | rfl
        · show 0 ≤ 10000; omega
        · show (List.replicate (250 + c) (110 : UInt8)).length ≤ 10000; rw [List.length_replicate]; omega
      · have : i = 0 ∨ i = 1 := by omega
        rcases this with rfl | rfl
        · show 0 ≤ 100000; omega
        · show 0 ≤ 100000; omega
      · rw [hlen]
        refine (may_c0 c hc).trans ?_
        rw [decide_eq_decide]; omega
    · obtain ⟨d, hd, hdn⟩ : ∃ d : Nat, d < 8 ∧ 60 + (n : Int) % 8 = (60 + d : Nat) := ⟨n % 8, by omega, by omega⟩
      have hend : At Tryd.prog w ⟨[], fun _ => ⟨0, 0, 0⟩, []⟩ 120 [] (lp Tryd.f9 1) (EndL w) (tmL1 n wh (60 + d) 23904 (60 + d + 1)) [(23904, rowF gD (60 + d + 1))] := by
        refine At.run rfl [] trivial [.n] (tm2 := tmZ 23904 (60 + d + 1) (decide (60 + (n : Int) % 8 ≤ 64))) (rows2 := [(23904, rowF gD (60 + d + 1))])
          (ob := [IntKind.i64.wrap (n : Int) = (n : Int), 0 ≤ (n : Int) ∧ (0 : Int) < 8, inI (60 + (n : Int) % 8), decide (((60 + d : Nat) : Int) < 60 + (n : Int) % 8) = false, IntKind.i64.wrap (n : Int) = (n : Int), 0 ≤ (n : Int) ∧ (0 : Int) < 8, inI (60 + (n : Int) % 8)]) (td := rp Tryd.f9 29) (by kernel_rfl)
          ⟨hwr, by omega, ⟨by omega, by omega⟩, decide_eq_false (by omega), hwr, by omega, ⟨by omega, by omega⟩, trivial⟩ rfl rfl (by intro h; cases h) ?_
        refine At.ren [(32901, 23904)] (tmZ 32901 (60 + d + 1) _) [(32901, rowF gD (60 + d + 1))] rfl rfl rfl rfl rfl (limits_end w gD (60 + d + 1) _ (by omega) (by omega) (fun i hi => ?_) (fun i hi => ?_) ?_)
        · cases i with
          | zero => show 0 ≤ 10000; omega
          | succ i => show (pD i).length ≤ 10000; rw [pD_len]; omega
        · cases i with
          | zero => show 0 ≤ 100000; omega
          | succ i => show 0 ≤ 100000; omega
        · rw [show 60 + d + 1 = 61 + d by omega]
          refine (may_c1 d hd).trans ?_
          rw [decide_eq_decide]; omega
      have hloop1 : ∀ k : Nat, k ≤ 60 + d → At Tryd.prog w ⟨[], fun _ => ⟨0, 0, 0⟩, []⟩ 120 [] (lp Tryd.f9 1) (EndL w) (tmL1 n wh k 23904 (k + 1)) [(23904, rowF gD (k + 1))] := by
        refine At.loop (fun k : Nat => tmL1 n wh k 23904 (k + 1)) (fun k => [(23904, rowF gD (k + 1))]) (fun k => k ≤ 60 + d) (fun k => 60 + d - k) fun k hk ih => ?_
        by_cases h : k < 60 + d
        · refine At.run rfl [] trivial [.y] (tm2 := (7, .s (.lf (.sl 23004 0 0 3 (k + 1 + 1) none))) :: (9, .v (stv (pD k ++ [47, 100]))) :: (10, .int .i64 (k + 1 : Nat)) :: tmL n wh) (rows2 := [(23004, ⟨[.fnc (appF (ndF gD) (k + 1) fun q => chunkF [stv (pD k), .int .i64 4, stv []] 3 1 (addN 0 q)) 3 (k + 1 + 1)], true, some (42, 3)⟩)])
            (ob := [IntKind.i64.wrap (n : Int) = (n : Int), 0 ≤ (n : Int) ∧ (0 : Int) < 8, inI (60 + (n : Int) % 8), decide ((k : Int) < 60 + (n : Int) % 8) = true, k + 1 = k + 1, k + 1 + 1 ≤ 9223372036854775807, (k + 1 + 1) * 40 ≤ 140737488355328, 1 ≤ 1, ((pD k).length : Int) + 2 ≤ 9223372036854775807, inI ((k : Int) + 1)]) (td := lp Tryd.f9 1) (by kernel_rfl)
            ⟨hwr, by omega, ⟨by omega, by omega⟩, decide_eq_true (by omega), rfl, by omega, by omega, by omega, by rw [pD_len]; omega, ⟨by omega, by omega⟩, trivial⟩ rfl rfl (by intro h; cases h) ?_
          refine At.rows (rows2 := [(23004, rowF gD (k + 1 + 1))]) (rowsEq_fnc (fun i hi => ?_) trivial) rfl ?_
          · by_cases hik : i < k + 1
            · rw [appF_lo hik]
            · obtain rfl : i = k + 1 := by omega
              rw [appF_hi (Nat.le_refl _), Nat.sub_self]
              rfl
          exact At.ren [(23904, 23004)] (tmL1 n wh (k + 1) 23904 (k + 1 + 1)) [(23904, rowF gD (k + 1 + 1))] rfl rfl rfl rfl rfl (ih (k + 1) (by omega) (by omega))
        · obtain rfl : k = 60 + d := by omega
          exact hend
      refine At.run rfl [(2009001, .val (.int .u8 1))] ⟨trivial, trivial⟩ [.n, .n, .y] (tm2 := tmL1 n wh 0 7001 1) (rows2 := [(7001, rowR)])
        (ob := [IntKind.i64.wrap (n : Int) = (n : Int), 0 ≤ (n : Int) ∧ (0 : Int) < 10, inI (250 + (n : Int) % 10), decide (((250 + c : Nat) : Int) < 250 + (n : Int) % 10) = false, TV.int .u8 ((wh : Int) % 4) = TV.int .u8 1, 0 ≤ (wh : Int) ∧ (0 : Int) < 4, false = false, true = true]) (td := lp Tryd.f9 1) (by kernel_rfl)
        ⟨hwr, by omega, ⟨by omega, by omega⟩, decide_eq_false (by omega), by rw [hjn]; rfl, by omega, rfl, rfl, trivial⟩ rfl rfl (by intro h; cases h) ?_
      have hr : ∀ i, i < 1 → chunkF [stv [], .int .i64 4, stv []] 3 1 i = ndF gD i := by
        intro i hi
        obtain rfl : i = 0 := by omega
        rfl
      refine At.rows (rows2 := [(7001, rowF gD 1)]) (rowsEq_fnc hr trivial) rfl ?_
      exact At.ren [(23904, 7001)] (tmL1 n wh 0 23904 1) [(23904, rowF gD 1)] rfl rfl rfl rfl rfl (hloop1 0 (by omega))
    · obtain ⟨d, hd, hdn⟩ : ∃ d : Nat, d < 7 ∧ 65533 + (n : Int) % 7 = (65533 + d : Nat) := ⟨n % 7, by omega, by omega⟩
      have hm : (65533 + (n : Int) % 7).toNat = 65533 + d := by omega
      refine At.run rfl [(2009001, .val (.int .u8 2))] ⟨trivial, trivial⟩ [.n, .n, .n, .y] (tm2 := tmZ 28004 1 (decide (65533 + (n : Int) % 7 ≤ 65536))) (rows2 := [(28004, ⟨[.fnc (chunkF [stv [], .int .i64 1, stv ((List.range (65533 + (n : Int) % 7).toNat).map fun q => ubyte ((fun _ => [Value.int .u8 0]) (addN 0 q)))] 3 1) 3 1], true, some (42, 3)⟩)])
        (ob := [IntKind.i64.wrap (n : Int) = (n : Int), 0 ≤ (n : Int) ∧ (0 : Int) < 10, inI (250 + (n : Int) % 10), decide (((250 + c : Nat) : Int) < 250 + (n : Int) % 10) = false, TV.int .u8 ((wh : Int) % 4) = TV.int .u8 2, 0 ≤ (wh : Int) ∧ (0 : Int) < 4, false = false, false = false, true = true, IntKind.i64.wrap (n : Int) = (n : Int), 0 ≤ (n : Int) ∧ (0 : Int) < 7, inI (65533 + (n : Int) % 7), 0 ≤ 65533 + (n : Int) % 7 ∧ 65533 + (n : Int) % 7 ≤ 65533 + (n : Int) % 7,
          1 * (65533 + (n : Int) % 7) ≤ 140737488355328 ∧ 65533 + (n : Int) % 7 ≤ 9223372036854775807, 0 + (65533 + (n : Int) % 7).toNat ≤ (65533 + (n : Int) % 7).toNat, ∀ q, q < (65533 + (n : Int) % 7).toNat → ∃ c : UInt8, [Value.int .u8 0] = [Value.int .u8 (c.toNat : Int)]]) (td := rp Tryd.f9 29) (by kernel_rfl)
        ⟨hwr, by omega, ⟨by omega, by omega⟩, decide_eq_false (by omega), by rw [hjn]; rfl, by omega, rfl, rfl, rfl, hwr, by omega, ⟨by omega, by omega⟩, by omega, by omega, by omega, fun q hq => ⟨0, rfl⟩, trivial⟩ rfl rfl (by intro h; cases h) ?_
      have hz : ((List.range (65533 + (n : Int) % 7).toNat).map fun q => ubyte ((fun _ => [Value.int .u8 0]) (addN 0 q))) = List.replicate (65533 + d) 0 := by
        rw [hm]
        apply List.ext_getElem
        · simp
        · intro i h1 h2
          rw [List.getElem_map, List.getElem_replicate]
          rfl
      rw [hz]
      refine At.rows (rows2 := [(28004, rowF (g2 (65533 + d)) 1)]) (rowsEq_fnc (fun i hi => rfl) trivial) rfl ?_
      refine At.ren [(32901, 28004)] (tmZ 32901 1 _) [(32901, rowF (g2 (65533 + d)) 1)] rfl rfl rfl rfl rfl (limits_end w (g2 (65533 + d)) 1 _ (by omega) (by omega) (fun i hi => ?_) (fun i hi => ?_) ?_)
      · show 0 ≤ 10000; omega
      · show (List.replicate (65533 + d) (0 : UInt8)).length ≤ 100000; rw [List.length_replicate]; omega
      · refine (may_c2 (65533 + d)).trans ?_
        rw [decide_eq_decide]; omega
    · obtain ⟨d, hd, hdn⟩ : ∃ d : Nat, d < 12 ∧ 250 + (n : Int) % 12 = (250 + d : Nat) := ⟨n % 12, by omega, by omega⟩
      have hend : At Tryd.prog w ⟨[], fun _ => ⟨0, 0, 0⟩, []⟩ 120 [] (lp Tryd.f9 2) (EndL w) (tmL2 n wh (250 + d) 14904 (250 + d) (250 + d : Nat)) [(14904, rowF gN (250 + d))] := by
        refine At.run rfl [] trivial [.n] (tm2 := tmZ 14904 (250 + d) (decide (((250 + d : Nat) : Int) ≤ 256))) (rows2 := [(14904, rowF gN (250 + d))]) (ob := [decide (((250 + d : Nat) : Int) < ((250 + d : Nat) : Int)) = false]) (td := rp Tryd.f9 29) (by kernel_rfl) ⟨decide_eq_false (by omega), trivial⟩ rfl rfl (by intro h; cases h) ?_
        refine At.ren [(32901, 14904)] (tmZ 32901 (250 + d) _) [(32901, rowF gN (250 + d))] rfl rfl rfl rfl rfl (limits_end w gN (250 + d) _ (by omega) (by omega) (fun i hi => ?_) (fun i hi => ?_) ?_)
        · cases i with
          | zero => show 0 ≤ 10000; omega
          | succ i => show 2 ≤ 10000; omega
        · cases i with
          | zero => show 0 ≤ 100000; omega
          | succ i => show 0 ≤ 100000; omega
        · refine (may_c3 d hd).trans ?_
          rw [decide_eq_decide]; omega
      have hloop2 : ∀ k : Nat, 1 ≤ k ∧ k ≤ 250 + d → At Tryd.prog w ⟨[], fun _ => ⟨0, 0, 0⟩, []⟩ 120 [] (lp Tryd.f9 2) (EndL w) (tmL2 n wh k 14904 k (250 + d : Nat)) [(14904, rowF gN k)] := by
        refine At.loop (fun k : Nat => tmL2 n wh k 14904 k (250 + d : Nat)) (fun k => [(14904, rowF gN k)]) (fun k => 1 ≤ k ∧ k ≤ 250 + d) (fun k => 250 + d - k) fun k hk ih => ?_
        by_cases h : k < 250 + d
        · have e1 : IntKind.u8.wrap (97 + (k : Int) / 26 % 26) = ((97 + k / 26 % 26 : Nat) : Int) := by
            rw [show (97 + (k : Int) / 26 % 26) = ((97 + k / 26 % 26 : Nat) : Int) by omega, wrap8]; omega
          have e2 : IntKind.u8.wrap (97 + (k : Int) % 26) = ((97 + k % 26 : Nat) : Int) := by
            rw [show (97 + (k : Int) % 26) = ((97 + k % 26 : Nat) : Int) by omega, wrap8]; omega
          refine At.run rfl [] trivial [.y] (tm2 := (7, .s (.lf (.sl 14014 0 0 3 (k + 1) none))) :: (12, .int .i64 (250 + d : Nat)) :: (13, .int .i64 (k + 1 : Nat)) :: tmL n wh)
            (rows2 := [(14014, ⟨[.fnc (appF (ndF gN) k fun q => chunkF [stv ((List.range 2).map fun q => ubyte (chunkF [Value.int .u8 (IntKind.u8.wrap (97 + (k : Int) / 26 % 26)), Value.int .u8 (IntKind.u8.wrap (97 + (k : Int) % 26))] 1 2 (addN 0 q))), .int .i64 1, stv []] 3 1 (addN 0 q)) 3 (k + 1)], true, some (42, 3)⟩)])
            (ob := [decide ((k : Int) < ((250 + d : Nat) : Int)) = true, 0 ≤ (k : Int) ∧ (0 : Int) < 26, IntKind.i64.wrap ((k : Int) / 26) = (k : Int) / 26, 0 ≤ (k : Int) / 26 ∧ (0 : Int) < 26, inI (97 + (k : Int) / 26 % 26), 0 ≤ (k : Int) ∧ (0 : Int) < 26, inI (97 + (k : Int) % 26), 2 ≤ 2, ∀ q, q < 2 → ∃ c : UInt8, chunkF [Value.int .u8 (IntKind.u8.wrap (97 + (k : Int) / 26 % 26)), Value.int .u8 (IntKind.u8.wrap (97 + (k : Int) % 26))] 1 2 (addN 0 q) = [Value.int .u8 (c.toNat : Int)],
              k = k, k + 1 ≤ 9223372036854775807, (k + 1) * 40 ≤ 140737488355328, 1 ≤ 1, inI ((k : Int) + 1)]) (td := lp Tryd.f9 2) (by kernel_rfl)
            ⟨decide_eq_true (by omega), by omega, by rw [IntKind.wrap_i64]; omega, by omega, ⟨by omega, by omega⟩, by omega, ⟨by omega, by omega⟩, by omega, fun q hq => ?_, rfl, by omega, by omega, by omega, ⟨by omega, by omega⟩, trivial⟩ rfl rfl (by intro h; cases h) ?_
          · rw [e1, e2]
            have : q = 0 ∨ q = 1 := by omega
            rcases this with rfl | rfl
            · exact ⟨UInt8.ofNat (97 + k / 26 % 26), by show [Value.int .u8 ((97 + k / 26 % 26 : Nat) : Int)] = _; rw [UInt8.toNat_ofNat', Nat.mod_eq_of_lt (show 97 + k / 26 % 26 < 2 ^ 8 by omega)]⟩
            · exact ⟨UInt8.ofNat (97 + k % 26), by show [Value.int .u8 ((97 + k % 26 : Nat) : Int)] = _; rw [UInt8.toNat_ofNat', Nat.mod_eq_of_lt (show 97 + k % 26 < 2 ^ 8 by omega)]⟩
          rw [e1, e2]
          refine At.rows (rows2 := [(14014, rowF gN (k + 1))]) (rowsEq_fnc (fun i hi => ?_) trivial) rfl ?_
          · by_cases hik : i < k
            · rw [appF_lo hik]
            · obtain rfl : i = k := by omega
              rw [appF_hi (Nat.le_refl _), Nat.sub_self]
              obtain ⟨m, rfl⟩ : ∃ m, i = m + 1 := ⟨i - 1, by omega⟩
              rfl
          exact At.ren [(14904, 14014)] (tmL2 n wh (k + 1) 14904 (k + 1) (250 + d : Nat)) [(14904, rowF gN (k + 1))] rfl rfl rfl rfl rfl (ih (k + 1) (by omega) (by omega))
        · obtain rfl : k = 250 + d := by omega
          exact hend
      refine At.run rfl [(2009001, .val (.int .u8 3))] ⟨trivial, trivial⟩ [.n, .n, .n, .n] (tm2 := tmL2 n wh 1 7001 1 (250 + (n : Int) % 12)) (rows2 := [(7001, rowR)])
        (ob := [IntKind.i64.wrap (n : Int) = (n : Int), 0 ≤ (n : Int) ∧ (0 : Int) < 10, inI (250 + (n : Int) % 10), decide (((250 + c : Nat) : Int) < 250 + (n : Int) % 10) = false, TV.int .u8 ((wh : Int) % 4) = TV.int .u8 3, 0 ≤ (wh : Int) ∧ (0 : Int) < 4, false = false, false = false, false = false, IntKind.i64.wrap (n : Int) = (n : Int), 0 ≤ (n : Int) ∧ (0 : Int) < 12, inI (250 + (n : Int) % 12)]) (td := lp Tryd.f9 2) (by kernel_rfl)
        ⟨hwr, by omega, ⟨by omega, by omega⟩, decide_eq_false (by omega), by rw [hjn]; rfl, by omega, rfl, rfl, rfl, hwr, by omega, ⟨by omega, by omega⟩, trivial⟩ rfl rfl (by intro h; cases h) ?_
      rw [hdn]
      have hr : ∀ i, i < 1 → chunkF [stv [], .int .i64 4, stv []] 3 1 i = ndF gN i := by
        intro i hi
        obtain rfl : i = 0 := by omega
        rfl
      refine At.rows (rows2 := [(7001, rowF gN 1)]) (rowsEq_fnc hr trivial) rfl ?_
      exact At.ren [(14904, 7001)] (tmL2 n wh 1 14904 1 (250 + d : Nat)) [(14904, rowF gN 1)] rfl rfl rfl rfl rfl (hloop2 1 (by omega))
  exact At.run rfl [] trivial [] (tm2 := tmL0 n wh 0) (rows2 := []) (ob := []) (td := lp Tryd.f9 0) (by kernel_rfl) trivial rfl rfl (by intro h; cases h) (hloop0 0 (by omega))
end
end Go.Proofs.YtgbaaiedpiiepaaDoor
