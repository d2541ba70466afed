/- The law SigForms walked: it returns true, and no memory that was there is changed. No condition but that the texts may lie in memory. -/
import Derived.Test.YtdajmekliodmcaaGreatDoorTexts
namespace Go.Proofs.YtdajmekliodmcaaGreatDoor
open Go.RowKit Go.Shelf
open R
set_option linter.unusedVariables false
set_option linter.unusedSimpArgs false
/-- What cannot be a name with a signature: no stroke, a name that may not be, letters that are not 88. -/
theorem parse_bad {s : List UInt8} (h : ∀ p r, colon s = some (p, r) → mayL p = false ∨ r.length ≠ 88) : parseL s = none := by
  refine parse_not (fun n g hn hg e => ?_)
  have h1 := colon_app n (b64 g) (may_58 hn)
  rw [e] at h1
  rcases h _ _ h1 with h2 | h2
  · rw [hn] at h2; cases h2
  · exact h2 (by rw [b64_len, hg])
theorem parse_at (p r : List UInt8) (hp : 58 ∉ p) (h : mayL p = false ∨ r.length ≠ 88) : parseL (p ++ 58 :: r) = none := by
  refine parse_bad (fun p2 r2 h2 => ?_)
  rw [colon_app p r hp] at h2
  simp only [Option.some.injEq, Prod.mk.injEq] at h2
  obtain ⟨rfl, rfl⟩ := h2
  exact h
theorem parse_nocolon {s : List UInt8} (h : 58 ∉ s) : parseL s = none := by
  refine parse_bad (fun p r h2 => ?_)
  exact absurd (by rw [(colon_some h2).1]; simp) h
/-- A row of texts as cells. -/
def sRow (l : List ByteArray) : Array Value := (l.map Value.string).toArray
theorem sRow_get (l : List ByteArray) (j : Nat) (hj : j < l.length) : (sRow l)[j]? = some (.string l[j]) := by simp [sRow, hj]
theorem sRow_cell {W : World} {g : Nat} {l : List ByteArray} (h : W.heap[g]? = some (.cells (sRow l) 9 (0, 0))) (j : Nat) (hj : j < l.length) : W.cell? ⟨g, j, none⟩ = some (.string l[j]) := by
  rw [cell_of_row W g j _ 9 _ h]
  exact sRow_get l j hj
theorem build8 (a b c d e f x y : ByteArray) (w : World) : (Instr.buildSlice 45 8 #[(0, .string a), (1, .string b), (2, .string c), (3, .string d), (4, .string e), (5, .string f), (6, .string x), (7, .string y)]).run Tryz.prog w = .ok (.slice (some ⟨w.heap.size, 0, none⟩) 8 8) (w.alloc (.cells (sRow [a, b, c, d, e, f, x, y]) 9)) := by kernel_rfl
theorem exec_build8 {ρ : Operand → Value} {o : Oper} (w : World) (x1 x2 x3 x4 x5 x6 x7 x0 : Operand) (ho : o.op = .buildSlice 45 8 #[(0, x0), (1, x1), (2, x2), (3, x3), (4, x4), (5, x5), (6, x6), (7, x7)]) (a b c d e f x y : ByteArray)
    (h0 : ρ x0 = .string a) (h1 : ρ x1 = .string b) (h2 : ρ x2 = .string c) (h3 : ρ x3 = .string d) (h4 : ρ x4 = .string e) (h5 : ρ x5 = .string f) (h6 : ρ x6 = .string x) (h7 : ρ x7 = .string y) :
    (execOp ρ o).run Tryz.prog w = .ok (.value (.slice (some ⟨w.heap.size, 0, none⟩) 8 8)) (w.alloc (.cells (sRow [a, b, c, d, e, f, x, y]) 9)) := by
  have h := build8 a b c d e f x y w
  rw [← h0, ← h1, ← h2, ← h3, ← h4, ← h5, ← h6, ← h7] at h
  unfold execOp
  simp [ho, h]
theorem may_k1 : mayL [107, 46, 49] = true := by decide
theorem may_n64 : mayL (List.replicate 64 110) = true := by decide +kernel
theorem may_n65 : mayL (List.replicate 65 110) = false := by decide +kernel
theorem may_ab : mayL [97, 58, 98] = false := by decide
theorem may_nil : mayL [] = false := by decide
/-- The eight texts that say nothing. -/
theorem bad_all (F S : ByteArray) (hF : F.size = 64) (hS : S.data.toList = [107, 46, 49] ++ 58 :: b64 F.data.toList) (B B3 : ByteArray) (hB : B.data.toList = b64 F.data.toList) (hB3 : B3.data.toList = b64 (F.data.toList.take 63)) :
    ∀ x ∈ [(⟨#[]⟩ : ByteArray), S.extract 0 91, S ++ ⟨#[61]⟩, ⟨#[58]⟩ ++ B, ⟨#[107, 32, 49, 58]⟩ ++ B, ⟨#[107, 46, 49]⟩ ++ B, ⟨#[107, 46, 49, 58]⟩ ++ B3, ⟨#[107, 46, 49, 58, 58]⟩ ++ B], parseL x.data.toList = none := by
  have hl : F.data.toList.length = 64 := hF
  have hb : (b64 F.data.toList).length = 88 := by rw [b64_len, hl]
  intro x hx
  simp only [List.mem_cons, List.mem_nil_iff, or_false] at hx
  rcases hx with rfl | rfl | rfl | rfl | rfl | rfl | rfl | rfl
  · exact parse_nil
  · have e : (S.extract 0 91).data.toList = [107, 46, 49] ++ 58 :: (b64 F.data.toList).take 87 := by
      rw [ByteArray.data_extract, Array.toList_extract, hS]
      simp
    rw [e]
    exact parse_at _ _ (by decide) (.inr (by rw [List.length_take, hb]; decide))
  · have e : (S ++ ⟨#[61]⟩).data.toList = [107, 46, 49] ++ 58 :: (b64 F.data.toList ++ [61]) := by rw [cat_list, hS]; simp
    rw [e]
    exact parse_at _ _ (by decide) (.inr (by rw [List.length_append, hb]; decide))
  · have e : ((⟨#[58]⟩ : ByteArray) ++ B).data.toList = [] ++ 58 :: b64 F.data.toList := by rw [cat_list, hB]; rfl
    rw [e]
    exact parse_at _ _ (by decide) (.inl may_nil)
  · have e : ((⟨#[107, 32, 49, 58]⟩ : ByteArray) ++ B).data.toList = [107, 32, 49] ++ 58 :: b64 F.data.toList := by rw [cat_list, hB]; rfl
    rw [e]
    exact parse_at _ _ (by decide) (.inl (by decide))
  · refine parse_nocolon ?_
    rw [cat_list, hB, List.mem_append, not_or]
    exact ⟨by decide, b64_58 _⟩
  · have e : ((⟨#[107, 46, 49, 58]⟩ : ByteArray) ++ B3).data.toList = [107, 46, 49] ++ 58 :: b64 (F.data.toList.take 63) := by rw [cat_list, hB3]; rfl
    rw [e]
    exact parse_at _ _ (by decide) (.inr (by rw [b64_len, List.length_take, hl]; decide))
  · have e : ((⟨#[107, 46, 49, 58, 58]⟩ : ByteArray) ++ B).data.toList = [107, 46, 49] ++ 58 :: (58 :: b64 F.data.toList) := by rw [cat_list, hB]; rfl
    rw [e]
    exact parse_at _ _ (by decide) (.inr (by rw [List.length_cons, hb]; decide))
set_option maxRecDepth 100000 in
set_option maxHeartbeats 2000000 in
theorem forms_big (s c : ByteArray) (h2 : c.size ≤ 9223372036854775807) (hbig : 60 < c.size) (w : World) :
    Calls Tryz.prog 8 #[.string s, .string c] w fun e w' => e = .returned (.bool true) ∧ Below w.heap.size w w' := by
  have i1 : (c.size : Int) > 60 := by omega
  go_enter Tryz.func8, Tryz.ntmps8
  go_wp2_with (go_at_call 9; refine (awake_any _).mono ?_; rintro e w1 ⟨rfl, hb1⟩)
  go_ret
  exact ⟨rfl, hb1⟩
set_option maxRecDepth 100000 in
set_option maxHeartbeats 1000000 in
theorem seedW_any (s : ByteArray) (hs : s.size ≤ 9223372036854775807) (w : World) : Calls Tryz.prog 16 #[.string s] w fun e w' => e = .returned (.string ⟨(seedL s.data.toList).toArray⟩) ∧ Below w.heap.size w w' := by
  obtain ⟨t, ht⟩ : ∃ t : ByteArray, Hid (t = ⟨(seedL s.data.toList).toArray⟩) := ⟨_, Lib.hid rfl⟩
  rw [← ht.out]
  have hsl : s.data.toList.length = s.size := rfl
  have hmk := make32
  have hr0 : Row8 (w.alloc (.cells (bRow (List.replicate 32 0)) 5)) w.heap.size (seedAt s.data.toList 0) := World.alloc_heap_new w _
  have hb0 : Below w.heap.size w (w.alloc (.cells (bRow (List.replicate 32 0)) 5)) := (Below.refl _ w).alloc (Nat.le_refl _) _
  generalize bRow (List.replicate 32 0) = Z at *
  have HR0 := Lib.hid hr0
  have HB0 := Lib.hid hb0
  clear hr0 hb0
  go_enter Tryz.func16, Tryz.ntmps16
  go_wp2
  clear hmk
  generalize w.alloc (.cells Z 5) = w0 at *
  obtain ⟨g, hg⟩ : ∃ g, Hid (g = w.heap.size) := ⟨_, Lib.hid rfl⟩
  rw [← hg.out] at HR0 ⊢
  go_loopw [4] (fun i wr => ∃ k : Nat, k ≤ 32 ∧ k ≤ s.size ∧ i = .int .i64 k ∧ Row8 wr g (seedAt s.data.toList k) ∧ Below w.heap.size w wr) (fun i _ => 32 - (intOf i).toNat)
  case atStart => exact ⟨0, by omega, by omega, rfl, HR0.out, HB0.out⟩
  case round =>
    clear HR0 HB0
    obtain ⟨k, hk, hks, rfl, hrow, hbel⟩ := hrel
    have HROW := Lib.hid hrow
    have HBEL := Lib.hid hbel
    clear hrow hbel
    by_cases h32 : k < 32
    · have h32I : (k : Int) < 32 := by omega
      by_cases hlt : k < s.size
      · have hltI : (k : Int) < (s.size : Int) := by omega
        have hl := seedAt_len s.data.toList k hk hks
        obtain ⟨v, hcell⟩ : ∃ v, wr.cell? ⟨g, k, none⟩ = some v := ⟨_, HROW.out.cell k (by omega)⟩
        have hfree := HROW.out.free k
        have hset : Hid (Row8 (wr.setCell ⟨g, k, none⟩ (.int .u8 (s[k].toNat : Int))) g (seedAt s.data.toList (k + 1))) := by
          have h := HROW.out.set k s[k]
          have e : (seedAt s.data.toList k).set k s[k] = seedAt s.data.toList (k + 1) := seedAt_step s.data.toList k h32 hlt
          rw [e] at h
          exact Lib.hid h
        have hbel2 : Hid (Below w.heap.size w (wr.setCell ⟨g, k, none⟩ (.int .u8 (s[k].toNat : Int)))) := Lib.hid (HBEL.out.setCell (p := ⟨g, k, none⟩) (by rw [hg.out]; exact Nat.le_refl _) _)
        clear hl
        go_wp2
        go_roundw
        case rel => exact ⟨k + 1, by omega, by omega, by first | rfl | simp | go_num, hset.out, hbel2.out⟩
        case measure => simp [intOf]; omega
      · have hltI : ¬ (k : Int) < (s.size : Int) := by omega
        have hfin : Hid (t = ⟨(seedAt s.data.toList k).toArray⟩) := by
          unfold Hid
          rw [ht.out]
          unfold seedL
          rw [hsl, show min 32 s.size = k by omega]
        have hcv := HROW.out.str (cap := 32) (seedAt_len s.data.toList k hk hks)
        rw [← hfin.out] at hcv
        go_wp2
        go_ret
        exact ⟨rfl, HBEL.out⟩
    · have h32I : ¬ (k : Int) < 32 := by omega
      have hfin : Hid (t = ⟨(seedAt s.data.toList k).toArray⟩) := by
        unfold Hid
        rw [ht.out]
        unfold seedL
        rw [hsl, show min 32 s.size = k by omega]
      have hcv := HROW.out.str (cap := 32) (seedAt_len s.data.toList k hk hks)
      rw [← hfin.out] at hcv
      go_wp2
      go_ret
      exact ⟨rfl, HBEL.out⟩
set_option maxRecDepth 100000 in
set_option maxHeartbeats 4000000 in
theorem forms_small (s c : ByteArray) (h1 : s.size ≤ 9223372036854775807) (h2 : c.size ≤ 60) (w : World) :
    Calls Tryz.prog 8 #[.string s, .string c] w fun e w' => e = .returned (.bool true) ∧ Below w.heap.size w w' := by
  have i1 : ¬ (c.size : Int) > 60 := by omega
  have HA := Lib.hid awake_any
  have HS1 := Lib.hid (fun w => seedW_any s h1 w)
  have HS2 := Lib.hid (fun w => seedW_any c (by omega) w)
  have hl1 := seedL_len s.data.toList
  have hl2 := seedL_len c.data.toList
  obtain ⟨S1, hS1⟩ : ∃ S1 : ByteArray, Hid (S1 = ⟨(seedL s.data.toList).toArray⟩) := ⟨_, Lib.hid rfl⟩
  obtain ⟨S2, hS2⟩ : ∃ S2 : ByteArray, Hid (S2 = ⟨(seedL c.data.toList).toArray⟩) := ⟨_, Lib.hid rfl⟩
  rw [← hS1.out] at HS1
  rw [← hS2.out] at HS2
  have z1 : S1.size = 32 := by rw [hS1.out]; exact hl1
  have z2 : S2.size = 32 := by rw [hS2.out]; exact hl2
  obtain ⟨F, hF⟩ : ∃ F, Hid (F = S1 ++ S2) := ⟨_, Lib.hid rfl⟩
  have zF : F.size = 64 := by rw [hF.out, cat_size, z1, z2]
  have hcat : S1 ++ S2 = F := hF.out.symm
  have hz1 : (S1.size : Int) = 32 := by omega
  have hz2 : (S2.size : Int) = 32 := by omega
  have hzF : (F.size : Int) = 64 := by omega
  have HX := Lib.hid (fun w => text_any ⟨#[107, 46, 49]⟩ F (by omega) w)
  obtain ⟨X, hX⟩ : ∃ X : ByteArray, Hid (X = ⟨(textL (⟨#[107, 46, 49]⟩ : ByteArray).data.toList F.data.toList).toArray⟩) := ⟨_, Lib.hid rfl⟩
  rw [← hX.out] at HX
  have hXl : X.data.toList = [107, 46, 49] ++ 58 :: b64 F.data.toList := by rw [hX.out]; exact text_may may_k1 zF
  have HB := Lib.hid (fun w => R.rb64_any F (by omega) w)
  obtain ⟨B, hB⟩ : ∃ B : ByteArray, Hid (B = ⟨(b64 F.data.toList).toArray⟩) := ⟨_, Lib.hid rfl⟩
  rw [← hB.out] at HB
  have hBl : B.data.toList = b64 F.data.toList := by rw [hB.out]
  obtain ⟨G, hG⟩ : ∃ G : ByteArray, Hid (G = F.extract 0 63) := ⟨_, Lib.hid rfl⟩
  have zG : G.size = 63 := by rw [hG.out, ByteArray.size_extract, zF]; rfl
  have hGl : G.data.toList = F.data.toList.take 63 := by rw [hG.out, ByteArray.data_extract, Array.toList_extract]; simp
  have HB3 := Lib.hid (fun w => R.rb64_any G (by omega) w)
  obtain ⟨B3, hB3⟩ : ∃ B3 : ByteArray, Hid (B3 = ⟨(b64 G.data.toList).toArray⟩) := ⟨_, Lib.hid rfl⟩
  rw [← hB3.out] at HB3
  have hB3l : B3.data.toList = b64 (F.data.toList.take 63) := by rw [hB3.out, hGl]
  have hbad := bad_all F X zF hXl B B3 hBl hB3l
  have zb : (b64 F.data.toList).length = 88 := by rw [b64_len, show F.data.toList.length = 64 from zF]
  have zB : B.size = 88 := by rw [show B.size = B.data.toList.length from rfl, hBl]; exact zb
  have zB3 : B3.size = 84 := by rw [show B3.size = B3.data.toList.length from rfl, hB3l, b64_len, List.length_take, show F.data.toList.length = 64 from zF]; rfl
  have zX : X.size = 92 := by rw [show X.size = X.data.toList.length from rfl, hXl]; simp only [List.length_append, List.length_cons, List.length_nil, zb]
  have hsame : Hid ((⟨#[107, 46, 49, 58]⟩ : ByteArray) ++ B = X) := Lib.hid (by
    apply ByteArray.ext
    apply Array.toList_inj.1
    rw [cat_list, hBl, hXl]
    rfl)
  have hext : F.extract 0 63 = G := hG.out.symm
  have hG63 := Lib.hid hext
  have HT := Lib.hid (fun w => text_any ⟨#[97]⟩ G (by omega) w)
  rw [text_none (fun h => by have h2 : G.size = 64 := h.2; omega)] at HT
  obtain ⟨X91, hX91⟩ : ∃ X91, Hid (X91 = X.extract 0 91) := ⟨_, Lib.hid rfl⟩
  obtain ⟨XE, hXE⟩ : ∃ XE, Hid (XE = X ++ ⟨#[61]⟩) := ⟨_, Lib.hid rfl⟩
  obtain ⟨Y3, hY3⟩ : ∃ Y3, Hid (Y3 = ⟨#[58]⟩ ++ B) := ⟨_, Lib.hid rfl⟩
  obtain ⟨Y4, hY4⟩ : ∃ Y4, Hid (Y4 = ⟨#[107, 32, 49, 58]⟩ ++ B) := ⟨_, Lib.hid rfl⟩
  obtain ⟨Y5, hY5⟩ : ∃ Y5, Hid (Y5 = ⟨#[107, 46, 49]⟩ ++ B) := ⟨_, Lib.hid rfl⟩
  obtain ⟨Y6, hY6⟩ : ∃ Y6, Hid (Y6 = ⟨#[107, 46, 49, 58]⟩ ++ B3) := ⟨_, Lib.hid rfl⟩
  obtain ⟨Y7, hY7⟩ : ∃ Y7, Hid (Y7 = ⟨#[107, 46, 49, 58, 58]⟩ ++ B) := ⟨_, Lib.hid rfl⟩
  rw [← hX91.out, ← hXE.out, ← hY3.out, ← hY4.out, ← hY5.out, ← hY6.out, ← hY7.out] at hbad
  obtain ⟨L, hL⟩ : ∃ L, Hid (L = [(⟨#[]⟩ : ByteArray), X91, XE, Y3, Y4, Y5, Y6, Y7]) := ⟨_, Lib.hid rfl⟩
  rw [← hL.out] at hbad
  have hLl : L.length = 8 := by rw [hL.out]; rfl
  have HBAD := Lib.hid hbad
  have HM64 := Lib.hid (fun w => may_any ⟨(List.replicate 64 110).toArray⟩ w)
  rw [show mayL (⟨(List.replicate 64 (110 : UInt8)).toArray⟩ : ByteArray).data.toList = true from may_n64] at HM64
  have HM65 := Lib.hid (fun w => may_any ⟨(List.replicate 65 110).toArray⟩ w)
  rw [show mayL (⟨(List.replicate 65 (110 : UInt8)).toArray⟩ : ByteArray).data.toList = false from may_n65] at HM65
  have HM0 := Lib.hid (fun w => may_any ⟨#[]⟩ w)
  rw [show mayL (⟨#[]⟩ : ByteArray).data.toList = false from may_nil] at HM0
  have HMab := Lib.hid (fun w => may_any ⟨#[97, 58, 98]⟩ w)
  rw [show mayL (⟨#[97, 58, 98]⟩ : ByteArray).data.toList = false from may_ab] at HMab
  clear hl1 hl2 z1 z2 hXl hBl hGl hB3l hbad zb
  have ZXI : Hid ((X.size : Int) = 92) := Lib.hid (by omega)
  have ZX91 : Hid ((91 : Int) ≤ (X.size : Int)) := Lib.hid (by omega)
  have ZBI : Hid ((B.size : Int) = 88) := Lib.hid (by omega)
  have ZB3I : Hid ((B3.size : Int) = 84) := Lib.hid (by omega)
  have ZF64 : Hid (F.size = 64) := Lib.hid zF
  have ZF63 : Hid ((63 : Int) ≤ (F.size : Int)) := Lib.hid (by omega)
  clear zX zB zB3 zF zG hext
  go_enter Tryz.func8, Tryz.ntmps8
  go_wp2_with (first
    | (go_at_call 16; (with_reducible refine (HS1.out _).mono ?_); rintro e w1 ⟨rfl, hb1⟩)
    | (go_at_call 16; (with_reducible refine (HS2.out _).mono ?_); rintro e w2 ⟨rfl, hb2⟩)
    | (go_at_call 27; (with_reducible refine (HX.out _).mono ?_); rintro e w3 ⟨rfl, hb3⟩))
  have hb0 := below_then (below_then hb1 hb2) hb3
  clear hb1 hb2 hb3 HS1 HS2 HX
  try simp only [Act.put, List.setIfInBounds_toArray, List.set_cons_succ, List.set_cons_zero]
  have HS5 : Below w.heap.size w w3.drew := hb0.drew
  clear hb0
  refine wp_region_any (by kernel_rfl) ?_
  change wpAny _ _ _ _ _ _ _ (World.drew _)
  refine any_of_F (S := fun W => Below w.heap.size w W) (f := 1000) _ _ _ _ ?_
  refine tkG 0 (some 25) (.move (.tmp 6)) none (.string X) (fun o ho w2 hw => by unfold execOp; rw [ho]; go_simp) (HS5) ?_
  simp only [Act.put, List.setIfInBounds_toArray, List.set_cons_succ, List.set_cons_zero]
  refine tkG 1 (some 26) (.move (.tmp 6)) none (.string X) (fun o ho w2 hw => by unfold execOp; rw [ho]; go_simp) (HS5) ?_
  simp only [Act.put, List.setIfInBounds_toArray, List.set_cons_succ, List.set_cons_zero]
  refine tkG 2 (some 27) (.call { callee := .builtin .len, args := #[.tmp 26], argTypes := #[9] }) none (.int .i64 (92 : Int)) (fun o ho w2 hw => by have ZXIq := ZXI.out; unfold execOp; rw [ho]; go_simp) (HS5) ?_
  simp only [Act.put, List.setIfInBounds_toArray, List.set_cons_succ, List.set_cons_zero]
  refine tkG 3 (some 28) (.binOp .sub 3 (.tmp 27) (.const (.int .i64 1)) 3) none (.int .i64 (91 : Int)) (fun o ho w2 hw => by unfold execOp; rw [ho]; go_simp; rfl) (HS5) ?_
  simp only [Act.put, List.setIfInBounds_toArray, List.set_cons_succ, List.set_cons_zero]
  refine tkG 4 (some 29) (.call { callee := .builtin .max, args := #[.tmp 28, .const (.int .i64 0)], argTypes := #[3, 3] }) none (.int .i64 (91 : Int)) (fun o ho w2 hw => by unfold execOp; rw [ho]; go_simp; rfl) (HS5) ?_
  simp only [Act.put, List.setIfInBounds_toArray, List.set_cons_succ, List.set_cons_zero]
  refine tkG 5 (some 30) (.slice 9 (.tmp 25) none (some (.tmp 29)) none) none (.string X91) (fun o ho w2 hw => by have hX91q := hX91.out; have ZX91q := ZX91.out; unfold execOp; rw [ho, hX91q]; go_simp) (HS5) ?_
  simp only [Act.put, List.setIfInBounds_toArray, List.set_cons_succ, List.set_cons_zero]
  refine tkG 6 (some 31) (.move (.tmp 6)) none (.string X) (fun o ho w2 hw => by unfold execOp; rw [ho]; go_simp) (HS5) ?_
  simp only [Act.put, List.setIfInBounds_toArray, List.set_cons_succ, List.set_cons_zero]
  refine tkG 7 (some 32) (.binOp .add 9 (.tmp 31) (.const (.string { data := #[61] })) 9) none (.string XE) (fun o ho w2 hw => by have hXEq := hXE.out; have ZXIq := ZXI.out; unfold execOp; rw [ho, hXEq]; go_simp; omega) (HS5) ?_
  simp only [Act.put, List.setIfInBounds_toArray, List.set_cons_succ, List.set_cons_zero]
  refine tkG 8 (some 33) (.move (.tmp 5)) none (.string F) (fun o ho w2 hw => by unfold execOp; rw [ho]; go_simp) (HS5) ?_
  simp only [Act.put, List.setIfInBounds_toArray, List.set_cons_succ, List.set_cons_zero]
  refine tkG 11 (some 36) (.move (.tmp 5)) none (.string F) (fun o ho w2 hw => by unfold execOp; rw [ho]; go_simp) (HS5) ?_
  simp only [Act.put, List.setIfInBounds_toArray, List.set_cons_succ, List.set_cons_zero]
  refine tkG 14 (some 39) (.move (.tmp 5)) none (.string F) (fun o ho w2 hw => by unfold execOp; rw [ho]; go_simp) (HS5) ?_
  simp only [Act.put, List.setIfInBounds_toArray, List.set_cons_succ, List.set_cons_zero]
  refine tkG 17 (some 42) (.move (.tmp 5)) none (.string F) (fun o ho w2 hw => by unfold execOp; rw [ho]; go_simp) (HS5) ?_
  simp only [Act.put, List.setIfInBounds_toArray, List.set_cons_succ, List.set_cons_zero]
  refine tkG 18 (some 43) (.slice 9 (.tmp 42) none (some (.const (.int .i64 63))) none) none (.string G) (fun o ho w2 hw => by have hGq := hG.out; have ZF63q := ZF63.out; unfold execOp; rw [ho, hGq]; go_simp) (HS5) ?_
  simp only [Act.put, List.setIfInBounds_toArray, List.set_cons_succ, List.set_cons_zero]
  refine tkG 21 (some 46) (.move (.tmp 5)) none (.string F) (fun o ho w2 hw => by unfold execOp; rw [ho]; go_simp) (HS5) ?_
  simp only [Act.put, List.setIfInBounds_toArray, List.set_cons_succ, List.set_cons_zero]
  refine AnyF.ready (rs := [9]) (by kernel_rfl) (by simp) (ReadyF.call (some 34) 29 #[.tmp 33] #[9] rfl #[.string F] (by simp [Act.eval]) (enters_of Tryz.func29 (by kernel_rfl) rfl) _ (HB.out _) ?_ (fun c w' h => by cases h.1) (fun w' h => by cases h.1) ReadyF.nil)
  rintro v wc851 ⟨he, hb⟩
  cases he
  have Hc851 := (HS5).trans (hb.mono (HS5).size)
  clear hb
  refine ⟨Hc851, ?_⟩
  simp only [Act.put, List.setIfInBounds_toArray, List.set_cons_succ, List.set_cons_zero]
  refine tkG 10 (some 35) (.binOp .add 9 (.const (.string { data := #[58] })) (.tmp 34) 9) none (.string Y3) (fun o ho w2 hw => by have hY3q := hY3.out; have ZBIq := ZBI.out; unfold execOp; rw [ho, hY3q]; go_simp; omega) (Hc851) ?_
  simp only [Act.put, List.setIfInBounds_toArray, List.set_cons_succ, List.set_cons_zero]
  refine AnyF.ready (rs := [12]) (by kernel_rfl) (by simp) (ReadyF.call (some 37) 29 #[.tmp 36] #[9] rfl #[.string F] (by simp [Act.eval]) (enters_of Tryz.func29 (by kernel_rfl) rfl) _ (HB.out _) ?_ (fun c w' h => by cases h.1) (fun w' h => by cases h.1) ReadyF.nil)
  rintro v wc852 ⟨he, hb⟩
  cases he
  have Hc852 := (Hc851).trans (hb.mono (Hc851).size)
  clear hb
  refine ⟨Hc852, ?_⟩
  simp only [Act.put, List.setIfInBounds_toArray, List.set_cons_succ, List.set_cons_zero]
  refine tkG 13 (some 38) (.binOp .add 9 (.const (.string { data := #[107, 32, 49, 58] })) (.tmp 37) 9) none (.string Y4) (fun o ho w2 hw => by have hY4q := hY4.out; have ZBIq := ZBI.out; unfold execOp; rw [ho, hY4q]; go_simp; omega) (Hc852) ?_
  simp only [Act.put, List.setIfInBounds_toArray, List.set_cons_succ, List.set_cons_zero]
  refine AnyF.ready (rs := [15]) (by kernel_rfl) (by simp) (ReadyF.call (some 40) 29 #[.tmp 39] #[9] rfl #[.string F] (by simp [Act.eval]) (enters_of Tryz.func29 (by kernel_rfl) rfl) _ (HB.out _) ?_ (fun c w' h => by cases h.1) (fun w' h => by cases h.1) ReadyF.nil)
  rintro v wc853 ⟨he, hb⟩
  cases he
  have Hc853 := (Hc852).trans (hb.mono (Hc852).size)
  clear hb
  refine ⟨Hc853, ?_⟩
  simp only [Act.put, List.setIfInBounds_toArray, List.set_cons_succ, List.set_cons_zero]
  refine tkG 16 (some 41) (.binOp .add 9 (.const (.string { data := #[107, 46, 49] })) (.tmp 40) 9) none (.string Y5) (fun o ho w2 hw => by have hY5q := hY5.out; have ZBIq := ZBI.out; unfold execOp; rw [ho, hY5q]; go_simp; omega) (Hc853) ?_
  simp only [Act.put, List.setIfInBounds_toArray, List.set_cons_succ, List.set_cons_zero]
  refine AnyF.ready (rs := [19]) (by kernel_rfl) (by simp) (ReadyF.call (some 44) 29 #[.tmp 43] #[9] rfl #[.string G] (by simp [Act.eval]) (enters_of Tryz.func29 (by kernel_rfl) rfl) _ (HB3.out _) ?_ (fun c w' h => by cases h.1) (fun w' h => by cases h.1) ReadyF.nil)
  rintro v wc854 ⟨he, hb⟩
  cases he
  have Hc854 := (Hc853).trans (hb.mono (Hc853).size)
  clear hb
  refine ⟨Hc854, ?_⟩
  simp only [Act.put, List.setIfInBounds_toArray, List.set_cons_succ, List.set_cons_zero]
  refine tkG 20 (some 45) (.binOp .add 9 (.const (.string { data := #[107, 46, 49, 58] })) (.tmp 44) 9) none (.string Y6) (fun o ho w2 hw => by have hY6q := hY6.out; have ZB3Iq := ZB3I.out; unfold execOp; rw [ho, hY6q]; go_simp; omega) (Hc854) ?_
  simp only [Act.put, List.setIfInBounds_toArray, List.set_cons_succ, List.set_cons_zero]
  refine AnyF.ready (rs := [22]) (by kernel_rfl) (by simp) (ReadyF.call (some 47) 29 #[.tmp 46] #[9] rfl #[.string F] (by simp [Act.eval]) (enters_of Tryz.func29 (by kernel_rfl) rfl) _ (HB.out _) ?_ (fun c w' h => by cases h.1) (fun w' h => by cases h.1) ReadyF.nil)
  rintro v wc855 ⟨he, hb⟩
  cases he
  have Hc855 := (Hc854).trans (hb.mono (Hc854).size)
  clear hb
  refine ⟨Hc855, ?_⟩
  simp only [Act.put, List.setIfInBounds_toArray, List.set_cons_succ, List.set_cons_zero]
  refine tkG 23 (some 48) (.binOp .add 9 (.const (.string { data := #[107, 46, 49, 58, 58] })) (.tmp 47) 9) none (.string Y7) (fun o ho w2 hw => by have hY7q := hY7.out; have ZBIq := ZBI.out; unfold execOp; rw [ho, hY7q]; go_simp; omega) (Hc855) ?_
  simp only [Act.put, List.setIfInBounds_toArray, List.set_cons_succ, List.set_cons_zero]
  refine AnyF.ready (rs := [24]) (by kernel_rfl) (by simp) (ReadyF.op (w2 := wc855.alloc (.cells (sRow L) 9)) (some 49) (.buildSlice 45 8 #[(0, .const (.string { data := #[] })), (1, .tmp 30), (2, .tmp 32), (3, .tmp 35), (4, .tmp 38), (5, .tmp 41), (6, .tmp 45), (7, .tmp 48)]) rfl (.slice (some ⟨wc855.heap.size, 0, none⟩) 8 8) (fun o ho => by rw [hL.out]; exact exec_build8 _ (.tmp 30) (.tmp 32) (.tmp 35) (.tmp 38) (.tmp 41) (.tmp 45) (.tmp 48) (.const (.string ⟨#[]⟩)) ho _ _ _ _ _ _ _ _ rfl rfl rfl rfl rfl rfl rfl rfl) ((Hc855).alloc (Hc855).size _) ?_ ReadyF.nil)
  simp only [Act.put, List.setIfInBounds_toArray, List.set_cons_succ, List.set_cons_zero]
  refine tkG 25 (some 7) (.assign (.tmp 49)) none (.slice (some ⟨wc855.heap.size, 0, none⟩) 8 8) (fun o ho w2 hw => by unfold execOp; rw [ho]; go_simp) (((Hc855).alloc (Hc855).size _)) ?_
  simp only [Act.put, List.setIfInBounds_toArray, List.set_cons_succ, List.set_cons_zero]
  refine AnyF.done (by kernel_rfl) ?_ _
  have hrow : (wc855.alloc (.cells (sRow L) 9)).heap[wc855.heap.size]? = some (.cells (sRow L) 9 (0, 0)) := World.alloc_heap_new _ _
  have hbw : Below w.heap.size w (wc855.alloc (.cells (sRow L) 9)) := ((Hc855).alloc (Hc855).size _)
  generalize wc855.alloc (.cells (sRow L) 9) = w5 at *
  have hgw : w.heap.size ≤ wc855.heap.size := Hc855.size
  generalize wc855.heap.size = g at *
  have HROW := Lib.hid hrow
  have HBW := Lib.hid hbw
  clear hrow hbw Hc851 Hc852 Hc853 Hc854 Hc855 HS5 hgw
  have hgz : g < w5.heap.size := (Array.getElem?_eq_some_iff.1 HROW.out).1
  have HGZ := Lib.hid hgz
  clear hgz HB HB3
  go_wp2
  go_loopw [8] (fun i wr => ∃ k : Nat, k ≤ 8 ∧ i = .int .i64 k ∧ wr.heap[g]? = some (.cells (sRow L) 9 (0, 0)) ∧ Below w.heap.size w wr) (fun i _ => 8 - (intOf i).toNat)
  case atStart => exact ⟨0, by omega, rfl, HROW.out, HBW.out⟩
  case round =>
    clear HROW HBW HGZ
    obtain ⟨k, hk, rfl, hrow, hbw⟩ := hrel
    have HROW := Lib.hid hrow
    have HBW := Lib.hid hbw
    clear hrow hbw
    by_cases hlt : k < 8
    · have hltI : (k : Int) < 8 := by omega
      have hc := sRow_cell HROW.out k (by omega)
      obtain ⟨x, hx⟩ : ∃ x, x = L[k]'(by omega) := ⟨_, rfl⟩
      rw [← hx] at hc
      have hp : parseL x.data.toList = none := HBAD.out x (by rw [hx]; exact List.getElem_mem _)
      have HP := Lib.hid (fun w => parse_any x w)
      rw [hp] at HP
      have e1 : parseV none = .tuple #[.string ⟨#[]⟩, .string ⟨#[]⟩, .bool false] := rfl
      rw [e1] at HP
      clear hx hp e1 HBAD
      have hee : (⟨#[]⟩ : ByteArray) ++ ⟨#[]⟩ = ⟨#[]⟩ := rfl
      go_wp2_with (go_at_call 23; refine (HP.out _).mono ?_; rintro e w6 ⟨rfl, hb6⟩)
      refine ⟨⟨k + 1, by omega, by first | rfl | simp | go_num, (hb6.block g (Array.getElem?_eq_some_iff.1 HROW.out).1).trans HROW.out, below_then HBW.out hb6⟩, ?_⟩
      simp [intOf]
      omega
    · obtain rfl : k = 8 := by omega
      rw [show ((8 : Nat) : Int) = (8 : Int) from rfl]
      clear HBAD HROW
      go_wp2
      go_loopw [12, 13] (fun l i wr2 => ∃ k : Nat, k ≤ 65 ∧ l = .string ⟨(List.replicate k 110).toArray⟩ ∧ i = .int .i64 k ∧ wr2 = wr) (fun _ i _ => 65 - (intOf i).toNat)
      case atStart => exact ⟨0, by omega, rfl, rfl, rfl⟩
      case round =>
        obtain ⟨j, hj, rfl, rfl, rfl⟩ := hrel
        by_cases hlt2 : j < 65
        · have hltI : (j : Int) < 65 := by omega
          have hcat2 : (⟨(List.replicate j (110 : UInt8)).toArray⟩ : ByteArray) ++ ⟨#[110]⟩ = ⟨(List.replicate (j + 1) 110).toArray⟩ := by
            apply ByteArray.ext
            apply Array.toList_inj.1
            rw [cat_list]
            exact (List.replicate_succ' (n := j) (a := (110 : UInt8))).symm
          have hsz : ((⟨(List.replicate j (110 : UInt8)).toArray⟩ : ByteArray).size : Int) = (j : Int) := by simp [ByteArray.size]
          generalize (⟨(List.replicate j (110 : UInt8)).toArray⟩ : ByteArray) = P at *
          go_wp2
          go_roundw
          case rel => exact ⟨j + 1, by omega, by simp, by first | rfl | simp | go_num, by simp⟩
          case measure => simp [intOf]; omega
        · obtain rfl : j = 65 := by omega
          rw [show ((65 : Nat) : Int) = (65 : Int) from rfl]
          obtain ⟨P, hP⟩ : ∃ P : ByteArray, Hid (P = ⟨(List.replicate 65 110).toArray⟩) := ⟨_, Lib.hid rfl⟩
          obtain ⟨Q, hQ⟩ : ∃ Q : ByteArray, Hid (Q = ⟨(List.replicate 64 110).toArray⟩) := ⟨_, Lib.hid rfl⟩
          rw [← hP.out] at HM65 ⊢
          rw [← hQ.out] at HM64
          have hPs : (64 : Int) ≤ (P.size : Int) := by rw [hP.out]; decide
          have hPQ : P.extract 0 64 = Q := by
            rw [hP.out, hQ.out]
            apply ByteArray.ext
            apply Array.toList_inj.1
            rw [ByteArray.data_extract, Array.toList_extract]
            decide
          have hFG := hG63.out
          have h63 := ZF63.out
          have hs2 := hsame.out
          have HB2 := Lib.hid (fun w => R.rb64_any F (by have := ZF64.out; omega) w)
          rw [← hB.out] at HB2
          have zbI := ZBI.out
          clear hX hB hB3 hG hF hS1 hS2 hX91 hXE hY3 hY4 hY5 hY6 hY7 hL hP hQ hsame hG63

          go_wp2_with (first
            | (go_at_call 29; refine (HB2.out _).mono ?_; rintro e w7 ⟨rfl, hb7⟩)
            | (go_at_call 25; (with_reducible refine (HM64.out _).mono ?_); rintro e w8 ⟨rfl, rfl⟩)
            | (go_at_call 25; (with_reducible refine (HM65.out _).mono ?_); rintro e w8 ⟨rfl, rfl⟩)
            | (go_at_call 25; (with_reducible refine (HM0.out _).mono ?_); rintro e w8 ⟨rfl, rfl⟩)
            | (go_at_call 25; (with_reducible refine (HMab.out _).mono ?_); rintro e w8 ⟨rfl, rfl⟩)
            | (go_at_call 27; refine (HT.out _).mono ?_; rintro e w9 ⟨rfl, hb9⟩)
            | (go_at_call 9; refine (HA.out _).mono ?_; rintro e w10 ⟨rfl, hb10⟩))
          go_ret
          exact ⟨rfl, below_then (below_then (below_then HBW.out hb7) hb9) hb10⟩
theorem forms_any (s c : ByteArray) (h1 : s.size ≤ 9223372036854775807) (h2 : c.size ≤ 9223372036854775807) (w : World) :
    Calls Tryz.prog 8 #[.string s, .string c] w fun e w' => e = .returned (.bool true) ∧ Below w.heap.size w w' := by
  by_cases h : 60 < c.size
  · exact forms_big s c h2 h w
  · exact forms_small s c h1 (by omega) w
end Go.Proofs.YtdajmekliodmcaaGreatDoor
