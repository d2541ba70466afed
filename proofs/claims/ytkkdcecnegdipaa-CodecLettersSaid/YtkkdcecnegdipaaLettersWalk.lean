/- The law CodecLetters walked: where the texts share some bytes. -/
import Derived.Test.YtkkdcecnegdipaaRefA
import Derived.Deep.RegionHeld3
import Derived.Laws.Small
namespace Go.Proofs.Ytkkdcecnegdipaa
open Go.RowKit Go.Shelf
set_option linter.unusedVariables false
theorem min_three (a b n : Nat) (hn : n = min (min a b) 40) (w : World) : (Builtin.min_ #[3, 3, 3] 3 #[.int .i64 (a : Int), .int .i64 (b : Int), .int .i64 40]).run Try.prog w = .ok (.int .i64 (n : Int)) w := by
  have e : (if (40 : Int) < (if (b : Int) < a then (b : Int) else a) then 40 else (if (b : Int) < a then (b : Int) else a)) = (n : Int) := by
    subst hn
    split <;> split at * <;> omega
  rw [← e]
  simp [Builtin.min_, Builtin.min2]
/-- What the first loop knows: bytes behind place k are the same, or the order is told. -/
def Ordered (la lb : List UInt8) (k : Nat) (o : Int) : Prop := (o = 0 ∧ la.drop k = lb.drop k) ∨ (o = -1 ∧ num la < num lb) ∨ (o = 1 ∧ num lb < num la)
theorem ordered_less (la lb : List UInt8) (i : Nat) (hi : i < la.length) (hl : la.length = lb.length) (hd : la.drop (i + 1) = lb.drop (i + 1)) (h : (la.getD i 0).toNat < (lb.getD i 0).toNat) : Ordered la lb i (-1) := .inr (.inl ⟨rfl, num_less la lb i hi hl hd h⟩)
theorem ordered_more (la lb : List UInt8) (i : Nat) (hi : i < la.length) (hl : la.length = lb.length) (hd : la.drop (i + 1) = lb.drop (i + 1)) (h : (lb.getD i 0).toNat < (la.getD i 0).toNat) : Ordered la lb i 1 := .inr (.inr ⟨rfl, num_less lb la i (by omega) hl.symm hd.symm h⟩)
theorem ordered_same (la lb : List UInt8) (i : Nat) (hi : i < la.length) (hl : la.length = lb.length) (hd : la.drop (i + 1) = lb.drop (i + 1)) (h : (la.getD i 0).toNat = (lb.getD i 0).toNat) : Ordered la lb i 0 := by
  refine .inl ⟨rfl, ?_⟩
  rw [List.drop_eq_getElem_cons hi, List.drop_eq_getElem_cons (by omega : i < lb.length), hd]
  congr 1
  rw [List.getD_eq_getElem?_getD, List.getD_eq_getElem?_getD, List.getElem?_eq_getElem hi, List.getElem?_eq_getElem (by omega : i < lb.length)] at h
  exact UInt8.toNat_inj.1 h
theorem ordered_tells (la lb : List UInt8) (k : Nat) (o : Int) (h : Ordered la lb k o) (hk : k = 0 ∨ o ≠ 0) : decide (num la < num lb) = decide (o < 0) ∧ decide (num la = num lb) = decide (o = 0) := by
  rcases h with ⟨rfl, h⟩ | ⟨rfl, h⟩ | ⟨rfl, h⟩
  · rcases hk with rfl | hk
    · rw [List.drop_zero, List.drop_zero] at h
      subst h
      simp
    · exact absurd rfl hk
  · exact ⟨by simp [h], by simp; omega⟩
  · exact ⟨by simp; omega, by simp; omega⟩
def letB : ByteArray := ⟨#[48, 49, 50, 51, 52, 53, 54, 55, 56, 57, 97, 98, 99, 100, 102, 103, 104, 105, 106, 107, 108, 109, 110, 112, 113, 114, 115, 118, 119, 120, 121, 122]⟩
theorem u8_and31 (n : Nat) (h : n < 256) : bits .and .u8 (n : Int) 31 = ((n % 32 : Nat) : Int) := by
  have key : ∀ n : Nat, n < 256 → bits .and .u8 (n : Int) 31 = ((n % 32 : Nat) : Int) := by decide +kernel
  exact key n h
theorem letB_list : letB.data.toList = letL := by decide +kernel
theorem letB_get (L : ByteArray) (hL : L = letB) (k : Nat) (h : k < L.size) : L[k] = lett k := by
  subst hL
  unfold lett
  rw [← letB_list, List.getD_eq_getElem?_getD, List.getElem?_eq_getElem (by simpa using h)]
  rfl
set_option maxRecDepth 100000 in
set_option maxHeartbeats 4000000 in
theorem letters_walk (s t A B : ByteArray) (n : Nat) (hn : n = min (min s.size t.size) 40) (hn0 : 0 < n) (w : World)
    (SA : ByteArray) (hSA : s.extract 0 n = SA) (SB : ByteArray) (hSB : t.extract 0 n = SB) (la lb : List UInt8) (hla : Hid (la.length = n)) (hlb : Hid (la.length = lb.length))
    (hsi : Hid (∀ i (h : i < n) (h2 : i < s.size), s[i].toNat = (la.getD i 0).toNat)) (hti : Hid (∀ i (h : i < n) (h2 : i < t.size), t[i].toNat = (lb.getD i 0).toNat))
    (hLs : Hid (Go.Op.bytesLess A.toList B.toList = decide (num la < num lb))) (hEq : Hid ((A.toList == B.toList) = decide (num la = num lb)))
    (hA0 : 0 < A.size) (hA64 : A.size ≤ 64) (hBA : (B.size : Int) = (A.size : Int))
    (hAm : Hid (∀ i (h : i < A.size), ∃ d, d < 32 ∧ A[i] = lett d)) (hAl : Hid (∀ (h : A.size - 1 < A.size) (h2 : 0 < s.size), A[A.size - 1] = lett (s[0].toNat % 32)))
    (CA : Hid (∀ w, Calls Try.prog 11 #[.string SA] w fun e w2 => e = .returned (.string A) ∧ Below w.heap.size w w2))
    (CB : Hid (∀ w, Calls Try.prog 11 #[.string SB] w fun e w2 => e = .returned (.string B) ∧ Below w.heap.size w w2))
   : Calls Try.prog 5 #[.string s, .string t] w fun e w2 => e = .returned (.bool true) ∧ Below w.heap.size w w2 := by
  have hmin := min_three s.size t.size n hn
  have hns : n ≤ s.size := by omega
  have hnt : n ≤ t.size := by omega
  have hns2 : (n : Int) ≤ (s.size : Int) := by omega
  have hnt2 : (n : Int) ≤ (t.size : Int) := by omega
  have hn40 : n ≤ 40 := by omega
  have hnz : ¬ ((n : Int) = 0) := by omega
  have hw1 : IntKind.i64.wrap ((n : Int) - 1) = (n : Int) - 1 := by rw [IntKind.wrap_i64]; omega
  have HKP : Hid (∀ wa wb, Below w.heap.size w wa → Below wa.heap.size wa wb → Below w.heap.size w wb) := Lib.hid fun _ _ h k => below_then h k
  have hD : Hid (Below w.heap.size w w.drew) := Lib.hid (Below.refl _ w).drew
  clear hn
  go_enter Try.func5, Try.ntmps5
  go_wp2
  go_region_held3 (fun w' => Below w.heap.size w w') (first | exact hD.out | exact HKP.out _ _ (by assumption) hbx) (first | (go_at_call 11; (with_reducible refine (CA.out _).mono ?_); rintro e w' ⟨rfl, hbx⟩) | (go_at_call 11; (with_reducible refine (CB.out _).mono ?_); rintro e w' ⟨rfl, hbx⟩))
  rename_i hHeld
  have HH := Lib.hid hHeld
  clear hHeld CA CB hmin hSA hSB hD
  go_wp2
  go_loopw [8, 9] (fun o v wr => ∃ (k : Nat) (x : Int), k ≤ n ∧ v = .int .i64 ((k : Int) - 1) ∧ o = .int .i64 x ∧ Ordered la lb k x ∧ Hid (Below w.heap.size w wr)) (fun _ v _ => (intOf v + 1).toNat)
  case atStart => exact ⟨n, 0, Nat.le_refl _, rfl, rfl, .inl ⟨rfl, by rw [List.drop_eq_nil_of_le (by rw [hla.out]; exact Nat.le_refl _), List.drop_eq_nil_of_le (by rw [← hlb.out, hla.out]; exact Nat.le_refl _)]⟩, HH⟩
  case round =>
    obtain ⟨k, x, hk, rfl, rfl, hord, hb⟩ := hrel
    clear HH
    rcases Nat.eq_zero_or_pos k with h0 | hpos
    · subst h0
      have hTell := ordered_tells la lb 0 x hord (.inl rfl)
      clear hord
      have hneg : ¬ ((0 : Int) ≤ ((0 : Nat) : Int) - 1) := by omega
      have HL : Hid (Go.Op.bytesLess A.toList B.toList = decide (x < 0)) := Lib.hid (hLs.out.trans hTell.1)
      have HE : Hid ((A.toList == B.toList) = (x == 0)) := Lib.hid (by rw [hEq.out, hTell.2]; rfl)
      clear hTell
      go_wp2
      obtain ⟨L, hL⟩ : ∃ L : ByteArray, Hid (L = letB) := ⟨_, Lib.hid rfl⟩
      have hLz : L.size = 32 := by rw [hL.out]; rfl
      have hLz2 : (L.size : Int) = 32 := by omega
      rw [show (⟨#[48, 49, 50, 51, 52, 53, 54, 55, 56, 57, 97, 98, 99, 100, 102, 103, 104, 105, 106, 107, 108, 109, 110, 112, 113, 114, 115, 118, 119, 120, 121, 122]⟩ : ByteArray) = L from hL.out.symm]
      go_loopw [11] (fun v wr => ∃ i : Nat, v = .int .i64 (i : Int) ∧ i ≤ A.size ∧ Hid (Below w.heap.size w wr)) (fun v _ => A.size - (intOf v).toNat)
      case atStart => exact ⟨0, rfl, Nat.zero_le _, hb⟩
      case round =>
        obtain ⟨i, rfl, hi, hb2⟩ := hrel
        clear hb
        by_cases hlt : i < A.size
        · have hlt2 : (i : Int) < (A.size : Int) := by omega
          have hi0 : (0 : Int) ≤ (i : Int) := by omega
          obtain ⟨d, hd, hAd⟩ := hAm.out i hlt
          have HAD := Lib.hid hAd
          have hwi : IntKind.i64.wrap ((i : Int) + 1) = (i : Int) + 1 := by rw [IntKind.wrap_i64]; omega
          clear hAd
          go_wp2
          go_loopw [12, 13] (fun o v wr => ∃ k : Nat, v = .int .i64 (k : Int) ∧ k ≤ 32 ∧ o = .bool (decide (d < k)) ∧ Hid (Below w.heap.size w wr)) (fun _ v _ => 32 - (intOf v).toNat)
          case atStart => exact ⟨0, rfl, Nat.zero_le _, by simp, hb2⟩
          case round =>
            obtain ⟨k, rfl, hk32, rfl, hb3⟩ := hrel
            clear hb2
            by_cases hkl : k < 32
            · have hk0 : (0 : Int) ≤ (k : Int) := by omega
              have hkL : k < L.size := by omega
              have hkL2 : (k : Int) < 32 := by omega
              have hwk : IntKind.i64.wrap ((k : Int) + 1) = (k : Int) + 1 := by rw [IntKind.wrap_i64]; omega
              have hLk := letB_get L hL.out k hkL
              have hBB : Hid (Below w.heap.size w wr.drew) := Lib.hid hb3.out.drew
              clear hb3
              rcases Nat.lt_trichotomy d k with h | h | h
              · have hdk : decide (d < k) = true := by simpa using h
                have HN : Hid (decide (d < k + 1) = true) := Lib.hid (by simp; omega)
                rw [hdk]
                clear hdk hLk h
                go_wp2
                go_region
                go_wp2
                go_roundw
                case rel => exact ⟨k + 1, by simp, by omega, by rw [HN.out], hBB⟩
                case measure => simp [intOf]; omega
              · have hdk : decide (d < k) = false := by simp; omega
                have HN : Hid (decide (d < k + 1) = true) := Lib.hid (by simp; omega)
                have hcmp : (L[k].toNat : Int) = (A[i].toNat : Int) := by rw [hLk, HAD.out, h]
                rw [hdk]
                clear hdk hLk h
                go_wp2
                go_region
                go_wp2
                go_roundw
                case rel => exact ⟨k + 1, by simp, by omega, by rw [HN.out], hBB⟩
                case measure => simp [intOf]; omega
              · have hdk : decide (d < k) = false := by simp; omega
                have HN : Hid (decide (d < k + 1) = false) := Lib.hid (by simp; omega)
                have hcmp : ¬ ((L[k].toNat : Int) = (A[i].toNat : Int)) := by
                  rw [hLk, HAD.out]
                  intro e
                  have := lett_inj k d hkl hd (UInt8.toNat_inj.1 (by omega))
                  omega
                have hcmp2 : ((L[k].toNat : Int) == (A[i].toNat : Int)) = false := by simpa using hcmp
                rw [hdk]
                clear hdk hLk h
                go_wp2
                go_region
                go_wp2
                go_roundw
                case rel => exact ⟨k + 1, by simp, by omega, by rw [HN.out], hBB⟩
                case measure => simp [intOf]; omega
            · obtain rfl : k = 32 := by omega
              have hdk : decide (d < 32) = true := by simpa using hd
              rw [hdk]
              go_wp2
              go_roundw
              case rel => exact ⟨i + 1, by simp, by omega, hb3⟩
              case measure => simp [intOf]; omega
        · obtain rfl : i = A.size := by omega
          obtain ⟨e, he⟩ : ∃ e, e = A.size - 1 := ⟨_, rfl⟩
          have hwe : IntKind.i64.wrap ((A.size : Int) - 1) = (e : Int) := by rw [IntKind.wrap_i64]; omega
          have heA : e < A.size := by omega
          have heA2 : (e : Int) < (A.size : Int) := by omega
          have hA0' : (0 : Int) < (A.size : Int) := by omega
          have hs0 : 0 < s.size := by omega
          have hs02 : (0 : Int) < (s.size : Int) := by omega
          obtain ⟨f, hf⟩ : ∃ f, Hid (f = s[0].toNat % 32) := ⟨_, Lib.hid rfl⟩
          have hf32 : f < 32 := by rw [hf.out]; exact Nat.mod_lt _ (by decide)
          have hand : bits .and .u8 (s[0].toNat : Int) 31 = (f : Int) := by rw [hf.out]; exact u8_and31 _ (UInt8.toNat_lt _)
          have hfL : f < L.size := by omega
          have hfL2 : (f : Int) < 32 := by omega
          have hlast : A[e].toNat = L[f].toNat := by
            rw [letB_get L hL.out f hfL]
            subst he
            rw [hAl.out heA hs0, hf.out]
          have hSD : Hid (Below w.heap.size w wr.drew) := Lib.hid hb2.out.drew
          have hLs2 := HL.out
          have hEq2 := HE.out
          clear he hf HL HE hLs hEq hAm hAl hL hla hlb hsi hti hns hnt hns2 hnt2 hn40 hw1 hi hlt hA64
          go_wp2
          go_region_held3 (fun w' => Below w.heap.size w w') (first | exact hSD.out | exact HKP.out _ _ (by assumption) hbx) (first | (go_at_call 6; (with_reducible refine (awake_ok _).mono ?_); rintro e w' ⟨rfl, hbx⟩))
          rename_i hHeld
          have HF := Lib.hid hHeld
          clear hHeld
          go_wp2
          all_goals (go_ret; first | exact ⟨rfl, HF.out⟩ | exact ⟨rfl, by assumption⟩)
    · by_cases hx : x = 0
      · subst hx
        obtain ⟨i, rfl⟩ : ∃ i, k = i + 1 := ⟨k - 1, by omega⟩
        have hdrop : Hid (la.drop (i + 1) = lb.drop (i + 1)) := by
          rcases hord with ⟨_, h⟩ | ⟨h, _⟩ | ⟨h, _⟩
          · exact Lib.hid h
          · exact absurd h (by decide)
          · exact absurd h (by decide)
        clear hord
        rw [show (((i + 1 : Nat) : Int) - 1) = (i : Int) by omega]
        have his : i < s.size := by omega
        have hit : i < t.size := by omega
        have hi0 : (0 : Int) ≤ (i : Int) := by omega
        have his2 : (i : Int) < (s.size : Int) := by omega
        have hit2 : (i : Int) < (t.size : Int) := by omega
        have hwi : IntKind.i64.wrap ((i : Int) - 1) = (i : Int) - 1 := by rw [IntKind.wrap_i64]; omega
        have hil : Hid (i < la.length) := Lib.hid (by rw [hla.out]; omega)
        have hBB : Hid (Below w.heap.size w wr.drew.drew) := Lib.hid hb.out.drew.drew
        have e1 := hsi.out i (by omega) his
        have e2 := hti.out i (by omega) hit
        clear hb
        rcases Nat.lt_trichotomy (s[i].toNat) (t[i].toNat) with hlt | heq | hgt
        · have hO : Hid (Ordered la lb i (-1)) := Lib.hid (ordered_less la lb i hil.out hlb.out hdrop.out (by rw [← e1, ← e2]; exact hlt))
          have c1 : (s[i].toNat : Int) < (t[i].toNat : Int) := by omega
          have c2 : ¬ ((s[i].toNat : Int) > (t[i].toNat : Int)) := by omega
          clear e1 e2 hlt hdrop hil
          go_wp2
          go_region
          go_wp2
          go_region
          go_wp2
          go_roundw
          case rel => exact ⟨i, -1, by omega, rfl, rfl, hO.out, hBB⟩
          case measure => simp [intOf]
        · have hO : Hid (Ordered la lb i 0) := Lib.hid (ordered_same la lb i hil.out hlb.out hdrop.out (by rw [← e1, ← e2]; exact heq))
          have c1 : ¬ ((s[i].toNat : Int) < (t[i].toNat : Int)) := by omega
          have c2 : ¬ ((s[i].toNat : Int) > (t[i].toNat : Int)) := by omega
          clear e1 e2 heq hdrop hil
          go_wp2
          go_region
          go_wp2
          go_region
          go_wp2
          go_roundw
          case rel => exact ⟨i, 0, by omega, rfl, rfl, hO.out, hBB⟩
          case measure => simp [intOf]
        · have hO : Hid (Ordered la lb i 1) := Lib.hid (ordered_more la lb i hil.out hlb.out hdrop.out (by rw [← e1, ← e2]; exact hgt))
          have c1 : ¬ ((s[i].toNat : Int) < (t[i].toNat : Int)) := by omega
          have c2 : (s[i].toNat : Int) > (t[i].toNat : Int) := by omega
          clear e1 e2 hgt hdrop hil
          go_wp2
          go_region
          go_wp2
          go_region
          go_wp2
          go_roundw
          case rel => exact ⟨i, 1, by omega, rfl, rfl, hO.out, hBB⟩
          case measure => simp [intOf]
      · have hTell := ordered_tells la lb k x hord (.inr hx)
        clear hord
        have hnn : (0 : Int) ≤ (k : Int) - 1 := by omega
        have HL : Hid (Go.Op.bytesLess A.toList B.toList = decide (x < 0)) := Lib.hid (hLs.out.trans hTell.1)
        have HE : Hid ((A.toList == B.toList) = (x == 0)) := Lib.hid (by rw [hEq.out, hTell.2]; rfl)
        clear hTell
        go_wp2
        obtain ⟨L, hL⟩ : ∃ L : ByteArray, Hid (L = letB) := ⟨_, Lib.hid rfl⟩
        have hLz : L.size = 32 := by rw [hL.out]; rfl
        have hLz2 : (L.size : Int) = 32 := by omega
        rw [show (⟨#[48, 49, 50, 51, 52, 53, 54, 55, 56, 57, 97, 98, 99, 100, 102, 103, 104, 105, 106, 107, 108, 109, 110, 112, 113, 114, 115, 118, 119, 120, 121, 122]⟩ : ByteArray) = L from hL.out.symm]
        go_loopw [11] (fun v wr => ∃ i : Nat, v = .int .i64 (i : Int) ∧ i ≤ A.size ∧ Hid (Below w.heap.size w wr)) (fun v _ => A.size - (intOf v).toNat)
        case atStart => exact ⟨0, rfl, Nat.zero_le _, hb⟩
        case round =>
          obtain ⟨i, rfl, hi, hb2⟩ := hrel
          clear hb
          by_cases hlt : i < A.size
          · have hlt2 : (i : Int) < (A.size : Int) := by omega
            have hi0 : (0 : Int) ≤ (i : Int) := by omega
            obtain ⟨d, hd, hAd⟩ := hAm.out i hlt
            have HAD := Lib.hid hAd
            have hwi : IntKind.i64.wrap ((i : Int) + 1) = (i : Int) + 1 := by rw [IntKind.wrap_i64]; omega
            clear hAd
            go_wp2
            go_loopw [12, 13] (fun o v wr => ∃ k : Nat, v = .int .i64 (k : Int) ∧ k ≤ 32 ∧ o = .bool (decide (d < k)) ∧ Hid (Below w.heap.size w wr)) (fun _ v _ => 32 - (intOf v).toNat)
            case atStart => exact ⟨0, rfl, Nat.zero_le _, by simp, hb2⟩
            case round =>
              obtain ⟨k, rfl, hk32, rfl, hb3⟩ := hrel
              clear hb2
              by_cases hkl : k < 32
              · have hk0 : (0 : Int) ≤ (k : Int) := by omega
                have hkL : k < L.size := by omega
                have hkL2 : (k : Int) < 32 := by omega
                have hwk : IntKind.i64.wrap ((k : Int) + 1) = (k : Int) + 1 := by rw [IntKind.wrap_i64]; omega
                have hLk := letB_get L hL.out k hkL
                have hBB : Hid (Below w.heap.size w wr.drew) := Lib.hid hb3.out.drew
                clear hb3
                rcases Nat.lt_trichotomy d k with h | h | h
                · have hdk : decide (d < k) = true := by simpa using h
                  have HN : Hid (decide (d < k + 1) = true) := Lib.hid (by simp; omega)
                  rw [hdk]
                  clear hdk hLk h
                  go_wp2
                  go_region
                  go_wp2
                  go_roundw
                  case rel => exact ⟨k + 1, by simp, by omega, by rw [HN.out], hBB⟩
                  case measure => simp [intOf]; omega
                · have hdk : decide (d < k) = false := by simp; omega
                  have HN : Hid (decide (d < k + 1) = true) := Lib.hid (by simp; omega)
                  have hcmp : (L[k].toNat : Int) = (A[i].toNat : Int) := by rw [hLk, HAD.out, h]
                  rw [hdk]
                  clear hdk hLk h
                  go_wp2
                  go_region
                  go_wp2
                  go_roundw
                  case rel => exact ⟨k + 1, by simp, by omega, by rw [HN.out], hBB⟩
                  case measure => simp [intOf]; omega
                · have hdk : decide (d < k) = false := by simp; omega
                  have HN : Hid (decide (d < k + 1) = false) := Lib.hid (by simp; omega)
                  have hcmp : ¬ ((L[k].toNat : Int) = (A[i].toNat : Int)) := by
                    rw [hLk, HAD.out]
                    intro e
                    have := lett_inj k d hkl hd (UInt8.toNat_inj.1 (by omega))
                    omega
                  have hcmp2 : ((L[k].toNat : Int) == (A[i].toNat : Int)) = false := by simpa using hcmp
                  rw [hdk]
                  clear hdk hLk h
                  go_wp2
                  go_region
                  go_wp2
                  go_roundw
                  case rel => exact ⟨k + 1, by simp, by omega, by rw [HN.out], hBB⟩
                  case measure => simp [intOf]; omega
              · obtain rfl : k = 32 := by omega
                have hdk : decide (d < 32) = true := by simpa using hd
                rw [hdk]
                go_wp2
                go_roundw
                case rel => exact ⟨i + 1, by simp, by omega, hb3⟩
                case measure => simp [intOf]; omega
          · obtain rfl : i = A.size := by omega
            obtain ⟨e, he⟩ : ∃ e, e = A.size - 1 := ⟨_, rfl⟩
            have hwe : IntKind.i64.wrap ((A.size : Int) - 1) = (e : Int) := by rw [IntKind.wrap_i64]; omega
            have heA : e < A.size := by omega
            have heA2 : (e : Int) < (A.size : Int) := by omega
            have hA0' : (0 : Int) < (A.size : Int) := by omega
            have hs0 : 0 < s.size := by omega
            have hs02 : (0 : Int) < (s.size : Int) := by omega
            obtain ⟨f, hf⟩ : ∃ f, Hid (f = s[0].toNat % 32) := ⟨_, Lib.hid rfl⟩
            have hf32 : f < 32 := by rw [hf.out]; exact Nat.mod_lt _ (by decide)
            have hand : bits .and .u8 (s[0].toNat : Int) 31 = (f : Int) := by rw [hf.out]; exact u8_and31 _ (UInt8.toNat_lt _)
            have hfL : f < L.size := by omega
            have hfL2 : (f : Int) < 32 := by omega
            have hlast : A[e].toNat = L[f].toNat := by
              rw [letB_get L hL.out f hfL]
              subst he
              rw [hAl.out heA hs0, hf.out]
            have hSD : Hid (Below w.heap.size w wr.drew) := Lib.hid hb2.out.drew
            have hLs2 := HL.out
            have hEq2 := HE.out
            clear he hf HL HE hLs hEq hAm hAl hL hla hlb hsi hti hns hnt hns2 hnt2 hn40 hw1 hi hlt hA64
            go_wp2
            go_region_held3 (fun w' => Below w.heap.size w w') (first | exact hSD.out | exact HKP.out _ _ (by assumption) hbx) (first | (go_at_call 6; (with_reducible refine (awake_ok _).mono ?_); rintro e w' ⟨rfl, hbx⟩))
            rename_i hHeld
            have HF := Lib.hid hHeld
            clear hHeld
            go_wp2
            all_goals (go_ret; first | exact ⟨rfl, HF.out⟩ | exact ⟨rfl, by assumption⟩)
end Go.Proofs.Ytkkdcecnegdipaa
