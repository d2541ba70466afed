/- bit and Base32 of the document: bits of bytes, and their letters. No condition but that there are up to six hundred bytes. -/
import Derived.Test.YtkkdcecnegdipaaDoorRFold
namespace Go.Proofs.YtkkdcecnegdipaaDoor.R
open Go.RowKit Go.Shelf
set_option linter.unusedVariables false
set_option linter.unusedSimpArgs false
theorem enters33 : ∀ args w, (callFunc 33 args).run Tryd.prog w = .ok (.enter 33 args) w := enters_of Tryd.func33 (by kernel_rfl) rfl
theorem enters30 : ∀ args w, (callFunc 30 args).run Tryd.prog w = .ok (.enter 30 args) w := enters_of Tryd.func30 (by kernel_rfl) rfl
theorem and1 (x : Nat) (hx : x < 1099511627776) : bits .and .i64 (x : Int) 1 = ((x % 2 : Nat) : Int) := by
  have h := (i64_nat x 1 hx (by decide)).1
  rw [Nat.and_one_is_mod] at h
  exact h
theorem or_pow (n b k : Nat) (hn : n < 2 ^ k) (hb : b < 2) (hk : k < 30) : bits .or .i64 (n : Int) ((b * 2 ^ k : Nat) : Int) = ((n + b * 2 ^ k : Nat) : Int) := by
  have hp : 2 ^ k ≤ 2 ^ 30 := Nat.pow_le_pow_right (by decide) (by omega)
  have hb2 : b * 2 ^ k ≤ 1 * 2 ^ k := Nat.mul_le_mul_right _ (by omega)
  have h := (i64_nat n (b * 2 ^ k) (by omega) (by omega)).2
  have h2 : n ||| b * 2 ^ k = n + b * 2 ^ k := by
    have := Nat.two_pow_add_eq_or_of_lt (i := k) (b := n) hn b
    rw [Nat.mul_comm b, Nat.or_comm, ← this]
    omega
  rw [h2] at h
  exact h
theorem mod_succ (y k : Nat) : y % 2 ^ (k + 1) = y % 2 ^ k + y / 2 ^ k % 2 * 2 ^ k := by
  rw [Nat.pow_succ, Nat.mod_mul, Nat.mul_comm (2 ^ k)]
theorem let_get (d : Nat) (hd : d < 32) : ∃ h : d < lettB.size, (lettB[d]'h) = lett d := by
  have h : d < lettB.size := hd
  refine ⟨h, ?_⟩
  have : ∀ d, (h : d < 32) → letL.getD d 0 = letL[d]'h := fun d h => by rw [List.getD_eq_getElem?_getD, List.getElem?_eq_getElem h]; rfl
  unfold lett
  rw [this d hd]
  rfl
theorem exec_index_let {ρ : Operand → Value} {o : Oper} (x y : Operand) (ho : o.op = .index 9 x y) (q : Nat) (hq : q < 32) (g : UInt8) (hsx : lett q = g) (hx : ρ x = .string lettB) (hy : ρ y = .int .i64 (q : Int)) (w : World) :
    (execOp ρ o).run Tryd.prog w = .ok (.value (.int .u8 (g.toNat : Int))) w := by
  obtain ⟨h, e⟩ := let_get q hq
  have h2 := exec_index_str x y ho lettB q h hx hy w
  rw [e, hsx] at h2
  exact h2
set_option maxRecDepth 100000 in
set_option maxHeartbeats 1000000 in
theorem bit_any (s : ByteArray) (hs : s.size ≤ 1000) (K : Nat) (hK : K ≤ 10000) (w : World) :
    Calls Tryd.prog 33 #[.string s, .int .i64 (K : Int)] w fun e w' => e = .returned (.int .i64 ((num s.data.toList / 2 ^ K % 2 : Nat) : Int)) ∧ w' = w := by
  have hbn := bit_num s.data.toList K
  obtain ⟨R, hR⟩ : ∃ R, Hid (R = num s.data.toList / 2 ^ K % 2) := ⟨_, Lib.hid rfl⟩
  rw [← hR.out] at hbn ⊢
  obtain ⟨j, hj⟩ : ∃ j, Hid (j = K / 8) := ⟨_, Lib.hid rfl⟩
  obtain ⟨q, hq⟩ : ∃ q, Hid (q = K % 8) := ⟨_, Lib.hid rfl⟩
  rw [← hj.out, ← hq.out] at hbn
  have hq1 : (K : Int) / 8 = (j : Int) := by rw [hj.out]; omega
  have hq2 : (K : Int) % 8 = (q : Int) := by rw [hq.out]; omega
  have hq3 : (K : Int).tdiv 8 = (j : Int) := by rw [Int.tdiv_eq_ediv_of_nonneg (by omega)]; exact hq1
  have hq4 : (K : Int).tmod 8 = (q : Int) := by rw [Int.tmod_eq_emod_of_nonneg (by omega)]; exact hq2
  have hql : q < 8 := by rw [hq.out]; omega
  have hqI : (q : Int) < 64 := by omega
  have hjl : (j : Int) ≤ 1250 := by rw [hj.out]; omega
  clear hR hj hq
  by_cases hlt : j < s.size
  · have hltI : (j : Int) < (s.size : Int) := by omega
    have hltI2 : ¬ (s.size : Int) ≤ (j : Int) := by omega
    have hc256 : s[j].toNat < 256 := UInt8.toNat_lt _
    have hw64 : ∀ c : Nat, c < 256 → wrap64 (c : Int) = (c : Int) ∧ IntKind.i64.wrap (c : Int) = (c : Int) := fun c h => ⟨IntWalk.wrap64_in _ (by omega), IntWalk.i64_in _ (by omega)⟩
    have hwb := (hw64 _ hc256).1
    have hwb2 := (hw64 _ hc256).2
    clear hw64
    have hg : (s.data.toList.getD j 0) = s[j] := by
      rw [List.getD_eq_getElem?_getD]
      have h1 : s.data.toList[j]? = some s[j] := by rw [List.getElem?_eq_getElem (by exact hlt)]; rfl
      rw [h1, Option.getD_some]
    rw [hg] at hbn
    obtain ⟨x, hx⟩ : ∃ x, Hid (x = s[j].toNat / 2 ^ q) := ⟨_, Lib.hid rfl⟩
    rw [← hx.out] at hbn
    have hsh : ((s[j].toNat : Nat) : Int) / 2 ^ q = (x : Int) := by rw [hx.out, Int.natCast_ediv, Int.natCast_pow]; rfl
    have hxl : x < 256 := by rw [hx.out]; exact Nat.lt_of_le_of_lt (Nat.div_le_self _ _) hc256
    have hand := and1 x (by omega)
    rw [hbn] at hand
    clear hx hbn hg hc256 hxl
    go_enter Tryd.func33, Tryd.ntmps33
    go_wp2
    go_ret
    exact ⟨rfl, rfl⟩
  · have hg : (s.data.toList.getD j 0) = 0 := by rw [List.getD_eq_getElem?_getD, List.getElem?_eq_none (by show s.size ≤ j; omega)]; rfl
    rw [hg] at hbn
    have h0 : (0 : UInt8).toNat / 2 ^ q % 2 = 0 := by show 0 / 2 ^ q % 2 = 0; rw [Nat.zero_div]
    rw [h0] at hbn
    have hltI2 : (s.size : Int) ≤ (j : Int) := by omega
    subst hbn
    go_enter Tryd.func33, Tryd.ntmps33
    go_wp2
    go_ret
    exact ⟨rfl, rfl⟩
def fB (x M i j : Nat) : Nat := if M ≤ j + i then (lett (x / 32 ^ (M - 1 - j) % 32)).toNat else 0
theorem fB_lt (x M i j : Nat) : fB x M i j < 256 := by
  unfold fB
  split
  · exact UInt8.toNat_lt _
  · omega
theorem fB_step (x M i p : Nat) (g : UInt8) (hi : i < M) (hp : p = M - 1 - i) (hg : lett (x / 32 ^ i % 32) = g) : ∀ j, j < M → upd (fB x M i) p g.toNat j = fB x M (i + 1) j := by
  intro j hj
  subst hp
  unfold upd fB
  by_cases e : j = M - 1 - i
  · rw [if_pos e, if_pos (by omega), show M - 1 - j = i by omega, hg]
  · rw [if_neg e]
    by_cases h : M ≤ j + i
    · rw [if_pos h, if_pos (by omega)]
    · rw [if_neg h, if_neg (by omega)]
theorem fB_all (x M : Nat) : (List.range M).map (fun j => UInt8.ofNat (fB x M M j)) = enc32 x M := by
  apply List.ext_getElem?
  intro j
  by_cases hj : j < M
  · have h := enc32_get x M (M - 1 - j) (by omega)
    rw [show M - 1 - (M - 1 - j) = j by omega, List.getD_eq_getElem?_getD, List.getElem?_eq_getElem (by rw [enc32_length]; exact hj)] at h
    rw [List.getElem?_map, List.getElem?_range hj, List.getElem?_eq_getElem (by rw [enc32_length]; exact hj)]
    simp only [Option.map_some]
    congr 1
    rw [show (enc32 x M)[j]'(by rw [enc32_length]; exact hj) = lett (x / 32 ^ (M - 1 - j) % 32) from h]
    unfold fB
    rw [if_pos (by omega)]
    simp
  · rw [List.getElem?_eq_none (by simp; omega), List.getElem?_eq_none (by rw [enc32_length]; omega)]
set_option maxRecDepth 100000 in
set_option maxHeartbeats 1000000 in
theorem rb32_any (s : ByteArray) (hs : s.size ≤ 600) (w : World) :
    Calls Tryd.prog 16 #[.string s] w fun e w' => e = .returned (.string ⟨(b32 s.data.toList).toArray⟩) ∧ Below w.heap.size w w' := by
  have hbt := Lib.hid (fun K hK W => bit_any s (by omega) K hK W)
  have HLE := Lib.hid letters_any
  obtain ⟨x, hx⟩ : ∃ x, Hid (x = num s.data.toList) := ⟨_, Lib.hid rfl⟩
  obtain ⟨M, hM⟩ : ∃ M, Hid (M = many32 s.data.toList.length) := ⟨_, Lib.hid rfl⟩
  have hMs : M = (8 * s.size + 4) / 5 := by rw [hM.out]; rfl
  have hM1000 : M ≤ 1000 := by omega
  obtain ⟨E, hE⟩ : ∃ E, Hid (E = 8 * s.size + 4) := ⟨_, Lib.hid rfl⟩
  obtain ⟨E8, hE8⟩ : ∃ E8, Hid (E8 = 8 * s.size) := ⟨_, Lib.hid rfl⟩
  have q1 : (8 : Int) * (s.size : Int) = (E8 : Int) := by rw [hE8.out]; omega
  have q2 : (E8 : Int) + 4 = (E : Int) := by rw [hE8.out, hE.out]; omega
  have q3 : (E : Int) / 5 = (M : Int) := by rw [hE.out]; omega
  have q4 : (E : Int).tdiv 5 = (M : Int) := by rw [Int.tdiv_eq_ediv_of_nonneg (by omega)]; exact q3
  have q5 : (E : Int) ≤ 5000 := by rw [hE.out]; omega
  have q6 : (E8 : Int) ≤ 5000 := by rw [hE8.out]; omega
  have hres : Hid (b32 s.data.toList = enc32 x M) := by unfold Hid b32; rw [← hx.out, ← hM.out]
  rw [hres.out]
  have hmk := fun W => make_row M hM1000 W
  have hb0 : Below w.heap.size w (w.alloc (.cells (rowOf .u8 M (fun _ => 0)).toArray 5)) := (Below.refl _ w).alloc (Nat.le_refl _) _
  have hr0 : Row (w.alloc (.cells (rowOf .u8 M (fun _ => 0)).toArray 5)) w.heap.size 5 .u8 M (fB x M 0) := (Row.new w 5 .u8 M (fun _ => 0)).ext (fun j hj => by unfold fB; rw [if_neg (by omega)])
  obtain ⟨Z, hZ⟩ : ∃ Z, Hid (Z = (rowOf .u8 M (fun _ => 0)).toArray) := ⟨_, Lib.hid rfl⟩
  rw [← hZ.out] at hb0 hr0
  have hmk2 : ∀ W : World, (Instr.makeSlice 33 (.int .i64 (M : Int)) (.int .i64 (M : Int))).run Tryd.prog W = .ok (.slice (some ⟨W.heap.size, 0, none⟩) M M) (W.alloc (.cells Z 5)) := by rw [hZ.out]; exact hmk
  clear hmk hMs hE hE8 hM hres
  have HX := Lib.hid hx.out
  clear hx
  go_enter Tryd.func16, Tryd.ntmps16
  go_wp2
  generalize w.alloc (.cells Z 5) = W0 at *
  have HB0 := Lib.hid hb0
  have HR0 := Lib.hid hr0
  clear hb0 hr0 hmk2 hZ q1 q2 q3 q4 q5 q6
  go_loopw [5] (fun i wr => ∃ I : Nat, I ≤ M ∧ i = .int .i64 (I : Int) ∧ Row wr w.heap.size 5 .u8 M (fB x M I) ∧ Below w.heap.size w wr) (fun i _ => M - (intOf i).toNat)
  case atStart => exact ⟨0, by omega, rfl, HR0.out, HB0.out⟩
  case round =>
    clear HB0 HR0
    obtain ⟨I, hI, rfl, hrow, hb⟩ := hrel
    have HR := Lib.hid hrow
    have HB := Lib.hid hb
    clear hrow hb
    by_cases hlt : I < M
    · have hltI : (I : Int) < (M : Int) := by omega
      obtain ⟨y, hy⟩ : ∃ y, Hid (y = x / 2 ^ (5 * I)) := ⟨_, Lib.hid rfl⟩
      go_wp2
      go_loopw [6, 7] (fun n j wr2 => ∃ J : Nat, J ≤ 5 ∧ j = .int .i64 (J : Int) ∧ n = .int .i64 ((y % 2 ^ J : Nat) : Int) ∧ wr2 = wr) (fun _ j _ => 5 - (intOf j).toNat)
      case atStart => exact ⟨0, by omega, rfl, by rw [Nat.pow_zero, Nat.mod_one]; rfl, rfl⟩
      case round =>
        obtain ⟨J, hJ, rfl, rfl, hwr⟩ := hrel
        subst hwr
        by_cases hJ5 : J < 5
        · have hJ5I : (J : Int) < 5 := by omega
          obtain ⟨F, hF⟩ : ∃ F, Hid (F = 5 * I) := ⟨_, Lib.hid rfl⟩
          obtain ⟨K, hK⟩ : ∃ K, Hid (K = 5 * I + J) := ⟨_, Lib.hid rfl⟩
          have f1 : (5 : Int) * (I : Int) = (F : Int) := by rw [hF.out]; omega
          have f2 : (F : Int) + (J : Int) = (K : Int) := by rw [hF.out, hK.out]; omega
          have f3 : (F : Int) ≤ 5000 := by rw [hF.out]; omega
          have hK1 : K ≤ 10000 := by rw [hK.out]; omega
          have f4 : (K : Int) ≤ 10000 := by omega
          have HC := Lib.hid (fun W => hbt.out K hK1 W)
          obtain ⟨b, hbb⟩ : ∃ b, Hid (b = num s.data.toList / 2 ^ K % 2) := ⟨_, Lib.hid rfl⟩
          rw [← hbb.out] at HC
          have hb2 : b < 2 := by rw [hbb.out]; omega
          have hby : Hid (b = y / 2 ^ J % 2) := by unfold Hid; rw [hbb.out, ← HX.out, hK.out, hy.out, Nat.pow_add, ← Nat.div_div_eq_div_mul]
          have hms : Hid (y % 2 ^ (J + 1) = y % 2 ^ J + b * 2 ^ J) := by unfold Hid; rw [mod_succ, ← hby.out]
          have hor := or_pow (y % 2 ^ J) b J (Nat.mod_lt _ (Nat.two_pow_pos J)) hb2 (by omega)
          obtain ⟨B, hB⟩ : ∃ B, Hid (B = b * 2 ^ J) := ⟨_, Lib.hid rfl⟩
          have hB1 : (b : Int) * 2 ^ J = (B : Int) := by rw [hB.out, Int.natCast_mul, Int.natCast_pow]; rfl
          have hBl : (B : Int) ≤ 64 := by
            have h1 : b * 2 ^ J ≤ 1 * 2 ^ 5 := Nat.mul_le_mul (by omega) (Nat.pow_le_pow_right (by decide) (by omega))
            rw [hB.out]; omega
          have hBw : IntKind.i64.wrap (B : Int) = (B : Int) := IntWalk.i64_in _ (by omega)
          have hJ64 : (J : Int) < 64 := by omega
          rw [← hms.out, ← hB.out] at hor
          generalize hn2 : y % 2 ^ (J + 1) = n2 at *
          generalize y % 2 ^ J = n at *
          clear hms hby hB hbb hbt HR HB HX HLE hF hK hy
          go_wp2_with fail
          refine (HC.out _).mono ?_
          rintro e w5 ⟨rfl, rfl⟩
          go_wp2
          go_roundw
          case rel => exact ⟨J + 1, by omega, by first | rfl | simp | go_num, by first | rfl | rw [hn2], by simp⟩
          case measure => simp [intOf]; omega
        · obtain rfl : J = 5 := by omega
          obtain ⟨d, hd⟩ : ∃ d, Hid (d = y % 2 ^ 5) := ⟨_, Lib.hid rfl⟩
          rw [← hd.out]
          have hd32 : d < 32 := by rw [hd.out]; exact Nat.mod_lt _ (by decide)
          have hdx : d = x / 32 ^ I % 32 := by rw [hd.out, hy.out, show (32 : Nat) ^ I = 2 ^ (5 * I) by rw [show (32 : Nat) = 2 ^ 5 from rfl, ← Nat.pow_mul]]
          obtain ⟨g, hg⟩ : ∃ g, Hid (lett d = g) := ⟨_, Lib.hid rfl⟩
          obtain ⟨p, hp⟩ : ∃ p, Hid (p = M - 1 - I) := ⟨_, Lib.hid rfl⟩
          obtain ⟨M1, hM1⟩ : ∃ M1, Hid (M1 = M - 1) := ⟨_, Lib.hid rfl⟩
          have p1 : (M : Int) - 1 = (M1 : Int) := by rw [hM1.out]; omega
          have p2 : (M1 : Int) - (I : Int) = (p : Int) := by rw [hM1.out, hp.out]; omega
          have p3 : (M1 : Int) ≤ 1000 := by rw [hM1.out]; omega
          have hpM : p < M := by rw [hp.out]; omega
          have hpI : (p : Int) < (M : Int) := by omega
          have cp := HR.out.cell p hpM
          have fp := HR.out.free p
          have HN : Hid (Row (wr.setCell ⟨w.heap.size, p, none⟩ (.int .u8 (g.toNat : Int))) w.heap.size 5 .u8 M (fB x M (I + 1))) := Lib.hid (Row.ext (Row.set (w := wr) HR.out p g.toNat) (fB_step x M I p g hlt hp.out (by rw [← hdx]; exact hg.out)))
          have HBN : Hid (Below w.heap.size w (wr.setCell ⟨w.heap.size, p, none⟩ (.int .u8 (g.toNat : Int)))) := Lib.hid (HB.out.setCell (p := ⟨w.heap.size, p, none⟩) (Nat.le_refl _) _)
          have hmeI : Hid (M - (I + 1) < M - I) := by unfold Hid; omega
          generalize fB x M I p = old at *
          clear hdx hd hy hp hM1 HR HB hbt HX
          rw [show ((5 : Nat) : Int) = (5 : Int) from rfl]
          go_wp2_with fail
          refine (HLE.out _).mono ?_
          rintro e w5 ⟨rfl, rfl⟩
          go_wp2_with (refine wpList_run rfl _ (exec_index_let (.tmp 39) (.tmp 40) rfl d hd32 g hg.out rfl rfl _) ?_)
          go_roundw
          case rel => exact ⟨I + 1, by omega, by first | rfl | simp | go_num, HN.out, HBN.out⟩
          case measure => simp [intOf]; omega
    · obtain rfl : I = M := by omega
      have hc1 := row_str HR.out (fun j _ => fB_lt _ _ _ _) wr (Below.refl _ _)
      rw [fB_all] at hc1
      obtain ⟨D, hD⟩ : ∃ D : ByteArray, Hid (D = ⟨(enc32 x I).toArray⟩) := ⟨_, Lib.hid rfl⟩
      rw [← hD.out] at hc1
      clear HR HX hbt HLE
      go_wp2
      go_ret
      exact ⟨by rw [hD.out]; rfl, HB.out⟩
end Go.Proofs.YtkkdcecnegdipaaDoor.R
