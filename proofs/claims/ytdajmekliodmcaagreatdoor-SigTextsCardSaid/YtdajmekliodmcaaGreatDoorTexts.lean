/- awake of the laws of package sig, and the law SigTexts walked: they return true, and no memory that was there is changed. No condition but that the texts may lie in memory. -/
import Derived.Test.YtdajmekliodmcaaGreatDoorRParse
namespace Go.Proofs.YtdajmekliodmcaaGreatDoor
open Go.RowKit Go.Shelf
open R
set_option linter.unusedVariables false
set_option linter.unusedSimpArgs false
set_option maxRecDepth 100000 in
set_option maxHeartbeats 1000000 in
theorem verify_short (a b c : ByteArray) (h : c.size ≠ 64) (w : World) : Calls Tryz.prog 14 #[.string a, .string b, .string c] w fun e w' => e = .returned (.bool false) ∧ w' = w := by
  have hI : ¬ (c.size : Int) = 64 := by omega
  go_enter Tryz.func14, Tryz.ntmps14
  go_wp2
  go_ret
  exact ⟨rfl, rfl⟩
def zero64 : ByteArray := ⟨(List.replicate 64 0).toArray⟩
theorem make64 : ∀ w : World, (Instr.makeSlice 33 (.int .i64 64) (.int .i64 64)).run Tryz.prog w = .ok (.slice (some ⟨w.heap.size, 0, none⟩) 64 64) (w.alloc (.cells (bRow (List.replicate 64 0)) 5)) := fun w => by kernel_rfl
theorem may_a : mayL [97] = true := by decide
set_option maxRecDepth 100000 in
set_option maxHeartbeats 1000000 in
theorem awake_any (w : World) : Calls Tryz.prog 9 #[] w fun e w' => e = .returned (.bool true) ∧ Below w.heap.size w w' := by
  have hmk := make64
  have hr0 : Row8 (w.alloc (.cells (bRow (List.replicate 64 0)) 5)) w.heap.size (List.replicate 64 0) := World.alloc_heap_new w _
  have hb0 : Below w.heap.size w (w.alloc (.cells (bRow (List.replicate 64 0)) 5)) := (Below.refl _ w).alloc (Nat.le_refl _) _
  have hcv := hr0.str (cap := 64) (n := 64) rfl
  have hs64 : zero64.size = 64 := rfl
  rw [show (⟨(List.replicate 64 (0 : UInt8)).toArray⟩ : ByteArray) = zero64 from rfl] at hcv
  have HT := Lib.hid (fun w => text_any ⟨#[97]⟩ zero64 (by rw [hs64]; decide) w)
  obtain ⟨T, hT⟩ : ∃ T : ByteArray, Hid (T = ⟨(textL (⟨#[97]⟩ : ByteArray).data.toList zero64.data.toList).toArray⟩) := ⟨_, Lib.hid rfl⟩
  rw [← hT.out] at HT
  have HP := Lib.hid (fun w => parse_any T w)
  have hp : parseL T.data.toList = some ([97], zero64.data.toList) := by
    rw [hT.out]
    exact parse_text may_a hs64
  rw [hp] at HP
  have e1 : parseV (some ([97], zero64.data.toList)) = .tuple #[.string ⟨#[97]⟩, .string zero64, .bool true] := rfl
  rw [e1] at HP
  have HV := Lib.hid (fun w => verify_short ⟨#[]⟩ ⟨#[]⟩ ⟨#[]⟩ (by decide) w)
  generalize zero64 = Z at *
  generalize bRow (List.replicate 64 0) = R at *
  have HB0 := Lib.hid hb0
  clear hb0 hr0 hs64 hp e1 hT
  go_enter Tryz.func9, Tryz.ntmps9
  go_wp2_with (first
    | (go_at_call 27; refine (HT.out _).mono ?_; rintro e w1 ⟨rfl, hb1⟩)
    | (go_at_call 23; refine (HP.out _).mono ?_; rintro e w2 ⟨rfl, hb2⟩)
    | (go_at_call 14; refine (HV.out _).mono ?_; rintro e w3 ⟨rfl, rfl⟩))
  go_ret
  exact ⟨rfl, below_then (below_then HB0.out hb1) hb2⟩
theorem parse_told (o : Option (List UInt8 × List UInt8)) : ∃ (N G : ByteArray) (b : Bool), parseV o = .tuple #[.string N, .string G, .bool b] ∧ sgnO o = sgnV N G b := by
  cases o with
  | none => exact ⟨_, _, _, rfl, rfl⟩
  | some q => obtain ⟨n, g⟩ := q; exact ⟨_, _, _, rfl, rfl⟩
set_option maxRecDepth 100000 in
set_option maxHeartbeats 2000000 in
theorem texts_big (name s t : ByteArray) (h1 : name.size ≤ 9223372036854775807) (h2 : s.size ≤ 9223372036854775807) (h3 : t.size ≤ 9223372036854775807) (hbig : 100 < name.size ∨ 100 < s.size ∨ 300 < t.size) (w : World) :
    Calls Tryz.prog 6 #[.string name, .string s, .string t] w fun e w' => e = .returned (.bool true) ∧ Below w.heap.size w w' := by
  by_cases g1 : 100 < name.size
  · have i1 : (name.size : Int) > 100 := by omega
    go_enter Tryz.func6, Tryz.ntmps6
    go_wp2_with (go_at_call 9; refine (awake_any _).mono ?_; rintro e w1 ⟨rfl, hb1⟩)
    go_ret
    exact ⟨rfl, hb1⟩
  · have i1 : ¬ (name.size : Int) > 100 := by omega
    by_cases g2 : 100 < s.size
    · have i2 : (s.size : Int) > 100 := by omega
      go_enter Tryz.func6, Tryz.ntmps6
      go_wp2_with (go_at_call 9; refine (awake_any _).mono ?_; rintro e w1 ⟨rfl, hb1⟩)
      go_ret
      exact ⟨rfl, hb1⟩
    · have i2 : ¬ (s.size : Int) > 100 := by omega
      have i3 : (t.size : Int) > 300 := by omega
      go_enter Tryz.func6, Tryz.ntmps6
      go_wp2_with (go_at_call 9; refine (awake_any _).mono ?_; rintro e w1 ⟨rfl, hb1⟩)
      go_ret
      exact ⟨rfl, hb1⟩
theorem cat_size (a b : ByteArray) : (a ++ b).size = a.size + b.size := by simp
theorem cat_list (a b : ByteArray) : (a ++ b).data.toList = a.data.toList ++ b.data.toList := by simp
/-- Behind the store of what ParseSig tells: where it lies, now and later. -/
theorem held50 {w w2 : World} {Z5 : Array Value} (N G : ByteArray) (b : Bool) (h5 : Z5.size = 3) (hb : Below w.heap.size w w2) :
    ∃ w3 g, (w2.alloc (.cells Z5 50)).setRow w2.heap.size (sgnV N G b) = w3 ∧ w2.heap.size = g ∧ Below w.heap.size w w3 ∧ ∀ W, Below w3.heap.size w3 W → W.cell? ⟨g, 0, none⟩ = some (.string N) ∧ W.cell? ⟨g, 1, none⟩ = some (.string G) ∧ W.cell? ⟨g, 2, none⟩ = some (.bool b) := by
  have hrow : ((w2.alloc (.cells Z5 50)).setRow w2.heap.size (sgnV N G b)).heap[w2.heap.size]? = some (.cells (sgnV N G b) 50 (0, 0)) := setRow_heap _ _ _ _ 50 (0, 0) (World.alloc_heap_new w2 _)
  have hb2 : Below w.heap.size w (w2.alloc (.cells Z5 50)) := hb.alloc hb.size _
  have hlt : w2.heap.size < ((w2.alloc (.cells Z5 50)).setRow w2.heap.size (sgnV N G b)).heap.size := by simp
  have hw := hb.size
  refine ⟨_, _, rfl, rfl, hb2.trans ⟨rfl, rfl, rfl, by simp, fun k hk => setRow_other _ _ _ _ (by omega)⟩, fun W hW => ⟨?_, ?_, ?_⟩⟩
  · exact (hW.cell (p := ⟨w2.heap.size, 0, none⟩) hlt).trans (by rw [cell_of_row _ _ 0 _ 50 _ hrow]; rfl)
  · exact (hW.cell (p := ⟨w2.heap.size, 1, none⟩) hlt).trans (by rw [cell_of_row _ _ 1 _ 50 _ hrow]; rfl)
  · exact (hW.cell (p := ⟨w2.heap.size, 2, none⟩) hlt).trans (by rw [cell_of_row _ _ 2 _ 50 _ hrow]; rfl)
set_option maxRecDepth 100000 in
set_option maxHeartbeats 4000000 in
theorem texts_small (name s t : ByteArray) (h1 : name.size ≤ 100) (h2 : s.size ≤ 100) (h3 : t.size ≤ 300) (w : World) :
    Calls Tryz.prog 6 #[.string name, .string s, .string t] w fun e w' => e = .returned (.bool true) ∧ Below w.heap.size w w' := by
  have i1 : ¬ (name.size : Int) > 100 := by omega
  have i2 : ¬ (s.size : Int) > 100 := by omega
  have i3 : ¬ (t.size : Int) > 300 := by omega
  have HA := Lib.hid awake_any
  obtain ⟨N, G, b, hv, hsg⟩ := parse_told (parseL t.data.toList)
  have HP := Lib.hid (fun w => parse_any t w)
  rw [hv] at HP
  have HQ := Lib.hid (fun w => parseSig_any t (by omega) w)
  rw [hsg] at HQ
  have HM := Lib.hid (fun w => may_any name w)
  have HK := Lib.hid (fun w => mayKey_any name (by omega) w)
  obtain ⟨B, hB⟩ : ∃ B, Hid (B = mayL name.data.toList) := ⟨_, Lib.hid rfl⟩
  rw [← hB.out] at HM HK
  have HT := Lib.hid (fun w => text_any name s (by omega) w)
  have HU := Lib.hid (fun w => textSig_any name s (by omega) (by omega) w)
  generalize (⟨(textL name.data.toList s.data.toList).toArray⟩ : ByteArray) = T at HT HU
  have HS1 := Lib.hid (fun w => seed_any s (by omega) w)
  have HS2 := Lib.hid (fun w => seed_any t (by omega) w)
  have hl1 := seedL_len s.data.toList
  have hl2 := seedL_len t.data.toList
  obtain ⟨S1, hS1⟩ : ∃ S1 : ByteArray, Hid (S1 = ⟨(seedL s.data.toList).toArray⟩) := ⟨_, Lib.hid rfl⟩
  obtain ⟨S2, hS2⟩ : ∃ S2 : ByteArray, Hid (S2 = ⟨(seedL t.data.toList).toArray⟩) := ⟨_, Lib.hid rfl⟩
  rw [← hS1.out] at HS1
  rw [← hS2.out] at HS2
  have z1 : S1.size = 32 := by rw [hS1.out]; exact hl1
  have z2 : S2.size = 32 := by rw [hS2.out]; exact hl2
  obtain ⟨F, hF⟩ : ∃ F, Hid (F = S1 ++ S2) := ⟨_, Lib.hid rfl⟩
  have zF : F.size = 64 := by rw [hF.out, cat_size, z1, z2]
  have hcat : S1 ++ S2 = F := hF.out.symm
  have HX := Lib.hid (fun w => text_any name F (by omega) w)
  obtain ⟨X, hX⟩ : ∃ X : ByteArray, Hid (X = ⟨(textL name.data.toList F.data.toList).toArray⟩) := ⟨_, Lib.hid rfl⟩
  rw [← hX.out] at HX
  have HY := Lib.hid (fun w => parse_any X w)
  have hz1 : (S1.size : Int) = 32 := by omega
  have hz2 : (S2.size : Int) = 32 := by omega
  obtain ⟨Z5, hZ5⟩ : ∃ Z5, Hid (Z5 = sgnV ⟨#[]⟩ ⟨#[]⟩ false) := ⟨_, Lib.hid rfl⟩
  have SZ5 : Z5.size = 3 := by rw [hZ5.out]; rfl
  have HZ5 : ∀ w, (zeroValue 50).run Tryz.prog w = .ok (.agg Z5) w := by rw [hZ5.out]; exact zero50
  obtain ⟨X5, hX5⟩ : ∃ X5, Hid (X5 = sgnV N G b) := ⟨_, Lib.hid rfl⟩
  rw [← hX5.out] at HQ
  have HST : Hid (∀ (w1 : World) {ρ : Operand → Value} {op : Oper}, op.op = .store 50 (.tmp 10) (.tmp 36) → ρ (.tmp 10) = .pointer (some ⟨w1.heap.size, 0, none⟩) → ρ (.tmp 36) = .agg X5 → (execOp ρ op).run Tryz.prog (w1.alloc (.cells Z5 50)) = .ok .skip ((w1.alloc (.cells Z5 50)).setRow w1.heap.size X5)) := Lib.hid (fun w1 ρ op g1 g2 g3 => by
    rw [hX5.out] at g3 ⊢
    exact exec_store50 _ (.tmp 10) (.tmp 36) g1 w1.heap.size g2 N G b g3 _ 50 (World.alloc_heap_new w1 _) SZ5)
  clear hv hsg hl1 hl2 zF z1 z2
  cases B with
  | true =>
    have hy : parseL X.data.toList = some (name.data.toList, F.data.toList) := by
      rw [hX.out]
      exact parse_text hB.out.symm (by rw [hF.out]; rw [show (S1 ++ S2).data.toList.length = (S1 ++ S2).size from rfl, cat_size]; omega)
    rw [hy] at HY
    have e1 : parseV (some (name.data.toList, F.data.toList)) = .tuple #[.string name, .string F, .bool true] := rfl
    rw [e1] at HY
    clear hy e1
    go_enter Tryz.func6, Tryz.ntmps6
    go_wp2_with (first
      | (go_at_call 23; refine (HP.out _).mono ?_; rintro e w1 ⟨rfl, hb1⟩)
      | (go_at_call 24; refine (HQ.out _).mono ?_; rintro e w2 ⟨rfl, hb2⟩)
      | (refine wpList_run rfl _ (exec_alloc_agg _ 50 rfl _ (HZ5 _)) ?_)
      | (refine wpList_run0 rfl (HST.out w2 rfl rfl rfl) ?_))
    obtain ⟨w3, g, hw3, hgg, hb3, hcf⟩ := held50 (Z5 := Z5) N G b SZ5 (below_then hb1 hb2)
    rw [← hX5.out] at hw3
    rw [hw3, hgg]
    have HCF := Lib.hid hcf
    have HB3 := Lib.hid hb3
    obtain ⟨c0, c1, c2⟩ := hcf w3 (Below.refl _ _)
    clear hw3 hgg hcf hb3 HST HZ5 hb1 hb2
    try simp only [Act.put, List.setIfInBounds_toArray, List.set_cons_succ, List.set_cons_zero]
    go_wp2_with (first
      | (go_at_call 25; refine (HM.out _).mono ?_; rintro e w4 ⟨rfl, rfl⟩)
      | (go_at_call 26; refine (HK.out _).mono ?_; rintro e w4 ⟨rfl, rfl⟩)
      | (go_at_call 27; (with_reducible refine (HT.out _).mono ?_); rintro e w4 ⟨rfl, hb4⟩; clear c0 c1 c2)
      | (go_at_call 28; refine (HU.out _).mono ?_; rintro e w5 ⟨rfl, hb5⟩; obtain ⟨d0, d1, d2⟩ := HCF.out w5 (below_then hb4 hb5))
      | (go_at_call 16; (with_reducible refine (HS1.out _).mono ?_); rintro e w6 ⟨rfl, hb6⟩; clear d0 d1 d2)
      | (go_at_call 16; (with_reducible refine (HS2.out _).mono ?_); rintro e w7 ⟨rfl, hb7⟩)
      | (go_at_call 27; (with_reducible refine (HX.out _).mono ?_); rintro e w8 ⟨rfl, hb8⟩)
      | (go_at_call 23; refine (HY.out _).mono ?_; rintro e w9 ⟨rfl, hb9⟩)
      | (go_at_call 9; refine (HA.out _).mono ?_; rintro e w10 ⟨rfl, hb10⟩))
    go_ret
    exact ⟨rfl, below_then (below_then (below_then (below_then (below_then (below_then (below_then HB3.out hb4) hb5) hb6) hb7) hb8) hb9) hb10⟩
  | false =>
    have hy : parseL X.data.toList = none := by
      rw [hX.out, text_none (fun h => by rw [← hB.out] at h; cases h.1)]
      rfl
    rw [hy] at HY
    have e1 : parseV none = .tuple #[.string ⟨#[]⟩, .string ⟨#[]⟩, .bool false] := rfl
    rw [e1] at HY
    clear hy e1
    go_enter Tryz.func6, Tryz.ntmps6
    go_wp2_with (first
      | (go_at_call 23; refine (HP.out _).mono ?_; rintro e w1 ⟨rfl, hb1⟩)
      | (go_at_call 24; refine (HQ.out _).mono ?_; rintro e w2 ⟨rfl, hb2⟩)
      | (refine wpList_run rfl _ (exec_alloc_agg _ 50 rfl _ (HZ5 _)) ?_)
      | (refine wpList_run0 rfl (HST.out w2 rfl rfl rfl) ?_))
    obtain ⟨w3, g, hw3, hgg, hb3, hcf⟩ := held50 (Z5 := Z5) N G b SZ5 (below_then hb1 hb2)
    rw [← hX5.out] at hw3
    rw [hw3, hgg]
    have HCF := Lib.hid hcf
    have HB3 := Lib.hid hb3
    obtain ⟨c0, c1, c2⟩ := hcf w3 (Below.refl _ _)
    clear hw3 hgg hcf hb3 HST HZ5 hb1 hb2
    try simp only [Act.put, List.setIfInBounds_toArray, List.set_cons_succ, List.set_cons_zero]
    go_wp2_with (first
      | (go_at_call 25; refine (HM.out _).mono ?_; rintro e w4 ⟨rfl, rfl⟩)
      | (go_at_call 26; refine (HK.out _).mono ?_; rintro e w4 ⟨rfl, rfl⟩)
      | (go_at_call 27; (with_reducible refine (HT.out _).mono ?_); rintro e w4 ⟨rfl, hb4⟩; clear c0 c1 c2)
      | (go_at_call 28; refine (HU.out _).mono ?_; rintro e w5 ⟨rfl, hb5⟩; obtain ⟨d0, d1, d2⟩ := HCF.out w5 (below_then hb4 hb5))
      | (go_at_call 16; (with_reducible refine (HS1.out _).mono ?_); rintro e w6 ⟨rfl, hb6⟩; clear d0 d1 d2)
      | (go_at_call 16; (with_reducible refine (HS2.out _).mono ?_); rintro e w7 ⟨rfl, hb7⟩)
      | (go_at_call 27; (with_reducible refine (HX.out _).mono ?_); rintro e w8 ⟨rfl, hb8⟩)
      | (go_at_call 23; refine (HY.out _).mono ?_; rintro e w9 ⟨rfl, hb9⟩)
      | (go_at_call 9; refine (HA.out _).mono ?_; rintro e w10 ⟨rfl, hb10⟩))
    go_ret
    exact ⟨rfl, below_then (below_then (below_then (below_then (below_then (below_then (below_then HB3.out hb4) hb5) hb6) hb7) hb8) hb9) hb10⟩
theorem texts_any (name s t : ByteArray) (h1 : name.size ≤ 9223372036854775807) (h2 : s.size ≤ 9223372036854775807) (h3 : t.size ≤ 9223372036854775807) (w : World) :
    Calls Tryz.prog 6 #[.string name, .string s, .string t] w fun e w' => e = .returned (.bool true) ∧ Below w.heap.size w w' := by
  by_cases h : 100 < name.size ∨ 100 < s.size ∨ 300 < t.size
  · exact texts_big name s t h1 h2 h3 h w
  · exact texts_small name s t (by omega) (by omega) (by omega) w
end Go.Proofs.YtdajmekliodmcaaGreatDoor
