/- GetBase64 of the document: what letters say, if anything. No condition but that there are up to a thousand. -/
import Derived.Test.YtdajmekliodmcaaGreatDoorRB64
namespace Go.Proofs.YtdajmekliodmcaaGreatDoor.R
open Go.RowKit Go.Shelf
set_option linter.unusedVariables false
set_option linter.unusedSimpArgs false
theorem six20 (n d : Nat) (hn : n < 1048576) (hd : d < 64) : bits .and .i64 (bits .or .i64 ((n * 64 : Nat) : Int) (d : Int)) 1048575 = (((n * 64 + d) % 1048576 : Nat) : Int) := by
  have h := (i64_nat (n * 64) d (by omega) (by omega)).2
  have h2 : n * 64 ||| d = n * 64 + d := by
    have := Nat.two_pow_add_eq_or_of_lt (i := 6) (b := d) hd n
    rw [Nat.mul_comm n 64, ← show (2 : Nat) ^ 6 = 64 from rfl, ← this]
  rw [h2] at h
  rw [h]
  have h3 := (i64_nat (n * 64 + d) 1048575 (by omega) (by decide)).1
  rw [show (n * 64 + d) &&& 1048575 = (n * 64 + d) % 1048576 from Nat.and_two_pow_sub_one_eq_mod _ 20] at h3
  exact h3
theorem plI_six (c : UInt8) (h : placeN sixL c < 64) : plI sixL c = (placeN sixL c : Int) := by unfold plI; rw [if_pos (show placeN sixL c < sixL.length from h)]
theorem plI_six0 (c : UInt8) (h : ¬ placeN sixL c < 64) : plI sixL c = -1 := by unfold plI; rw [if_neg (show ¬ placeN sixL c < sixL.length from h)]
theorem place_le (l : List UInt8) (c : UInt8) : placeN l c ≤ l.length := List.findIdx_le_length
theorem get64_dec (s : List UInt8) : get64 s = if b64 (dec64 s 0 0) = s then some (dec64 s 0 0) else none := rfl
theorem ofNat_wrap (x : Nat) : IntKind.u8.wrap (x : Int) = ((UInt8.ofNat x).toNat : Int) := by
  rw [IntKind.wrap_u8, UInt8.toNat_ofNat']
  omega
set_option maxRecDepth 100000 in
set_option maxHeartbeats 1000000 in
theorem rget64_any (s : ByteArray) (hs : s.size ≤ 1000) (w : World) :
    Calls Tryz.prog 58 #[.string s] w fun e w' => e = .returned (.agg (said (get64 s.data.toList))) ∧ Below w.heap.size w w' := by
  have HPL : Hid (∀ c W, Calls Tryz.prog 54 #[.string sixB, .int .u8 ((c : UInt8).toNat : Int)] W fun e w' => e = .returned (.int .i64 (plI sixL c)) ∧ w' = W) := Lib.hid (fun c W => place_any sixB c (by decide) W)
  have HSIX := Lib.hid sixty_any
  have hlen : s.data.toList.length = s.size := rfl
  have hG := Lib.hid (get64_dec s.data.toList)
  obtain ⟨l, hl⟩ : ∃ l, l = s.data.toList := ⟨_, rfl⟩
  obtain ⟨ZS, hZS⟩ : ∃ ZS, Hid (ZS = saidV ⟨#[]⟩ false) := ⟨_, Lib.hid rfl⟩
  have HZ : ∀ w, (zeroValue 26).run Tryz.prog w = .ok (.agg ZS) w := by rw [hZS.out]; exact zero27
  have SZ : ZS.size = 2 := by rw [hZS.out]; rfl
  have h0 : (w.alloc (.cells ZS 26)).heap[w.heap.size]? = some (.cells ZS 26 (0, 0)) := heap_alloc_new w _
  have hb0 : Below w.heap.size w (w.alloc (.cells ZS 26)) := (Below.refl _ w).alloc (Nat.le_refl _) _
  have hz0 : (w.alloc (.cells ZS 26)).heap.size = w.heap.size + 1 := by simp
  have HL := Lib.hid hl
  clear hl
  go_enter Tryz.func58, Tryz.ntmps58
  go_wp2_with ((refine wpList_run rfl _ (exec_alloc_agg _ 26 rfl _ (HZ _)) ?_); try simp only [World.size_alloc])
  try simp only [Act.put, List.setIfInBounds_toArray, List.set_cons_succ, List.set_cons_zero]
  generalize w.alloc (.cells ZS 26) = W0 at *
  have HZ0 := Lib.hid h0
  have HB0 := Lib.hid hb0
  have HS0 := Lib.hid hz0
  clear h0 hb0 hz0
  go_loopw [3, 4, 5, 6] (fun v nn bb i wr => ∃ (I n b : Nat) (out : List UInt8), I ≤ s.size ∧ i = .int .i64 (I : Int) ∧ nn = .int .i64 (n : Int) ∧ bb = .int .i64 (b : Int) ∧ n < 1048576 ∧ b < 8 ∧ wr.ownsRow (w.heap.size + 1) 5 1 v out.length (bytesV out) ∧ (out.length = 0 → v = .slice none 0 0) ∧ out ++ dec64 (l.drop I) n b = dec64 l 0 0 ∧ out.length ≤ I ∧ Below (w.heap.size + 1) W0 wr) (fun _ _ _ i _ => s.size - (intOf i).toNat)
  case atStart => exact ⟨0, 0, 0, [], by omega, rfl, rfl, rfl, by omega, by omega, World.ownsRow_nil _ _ _ _, fun _ => rfl, rfl, by simp, Below.refl _ _⟩
  case round =>
    obtain ⟨I, n, b, out, hI, rfl, rfl, rfl, hn, hb8, hown, hv0, hap, hol, hb⟩ := hrel
    by_cases hlt : I < s.size
    · have hltI : (I : Int) < (s.size : Int) := by omega
      have HPA := Lib.hid (fun W => HPL.out s[I] W)
      obtain ⟨c, hc⟩ : ∃ c, Hid (c = s[I]) := ⟨_, Lib.hid rfl⟩
      have hdr : Hid (l.drop I = c :: l.drop (I + 1)) := by
        unfold Hid
        rw [hc.out, List.drop_eq_getElem_cons (by rw [HL.out]; exact hlt)]
        congr 1
        simp only [HL.out]
        rfl
      rw [hdr.out] at hap
      have HA := Lib.hid hap
      have HBL := Lib.hid hb
      have HO0 := Lib.hid hown
      have HV0 := Lib.hid hv0
      rw [← hc.out] at HPA
      have hcx : Hid ((s[I].toNat : Int) = (c.toNat : Int)) := by unfold Hid; rw [hc.out]
      clear hap hb hown hv0 hG hlen HZ
      go_upto_region 6 with fail
      try simp only [Act.put, List.setIfInBounds_toArray, List.set_cons_succ, List.set_cons_zero]
      refine wp_nrm ?_
      refine wp_region_any (by kernel_rfl) ?_
      change wpAny _ _ _ _ _ _ _ (World.drew _)
      generalize hWd : wr.drew = Wd at *
      refine any_of_F (S := fun _ => True) (f := 1000) _ _ _ _ ?_
      refine AnyF.takeG (by rfl) 1 (some 15) (.move (.tmp 0)) none (.string s) rfl (by kernel_rfl) (by kernel_rfl) (by kernel_rfl) (fun _ _ _ h => h) rfl (fun o h => by obtain rfl := Option.some.inj h; rfl) (fun o ho w2 _ => exec_move (.tmp 0) ho _ rfl w2) trivial ?_
      simp only [Act.put, List.setIfInBounds_toArray, List.set_cons_succ, List.set_cons_zero]
      refine AnyF.takeG (by rfl) 2 (some 16) (.move (.tmp 6)) none (.int .i64 (I : Int)) rfl (by kernel_rfl) (by kernel_rfl) (by kernel_rfl) (fun _ _ _ h => h) rfl (fun o h => by obtain rfl := Option.some.inj h; rfl) (fun o ho w2 _ => exec_move (.tmp 6) ho _ rfl w2) trivial ?_
      simp only [Act.put, List.setIfInBounds_toArray, List.set_cons_succ, List.set_cons_zero]
      refine AnyF.takeG (by rfl) 3 (some 17) (.index 9 (.tmp 15) (.tmp 16)) none (.int .u8 (c.toNat : Int)) rfl (by kernel_rfl) (by kernel_rfl) (by kernel_rfl) (fun _ _ _ h => h) rfl (fun o h => by obtain rfl := Option.some.inj h; rfl) (fun o ho w2 _ => by rw [← hcx.out]; exact exec_index_str (.tmp 15) (.tmp 16) ho s I hlt rfl rfl w2) trivial ?_
      simp only [Act.put, List.setIfInBounds_toArray, List.set_cons_succ, List.set_cons_zero]
      refine AnyF.ready (rs := [0]) (by kernel_rfl) (by simp) (ReadyF.call (some 14) 61 #[] #[] rfl #[] (by simp [Act.eval]) enters31 _ (HSIX.out _) ?_ (fun c w' h => by cases h.1) (fun w' h => by cases h.1) ReadyF.nil)
      rintro v w' ⟨he, hw'⟩
      cases he
      rw [hw']
      clear hw'
      refine ⟨trivial, ?_⟩
      simp only [Act.put, List.setIfInBounds_toArray, List.set_cons_succ, List.set_cons_zero]
      refine AnyF.ready (rs := [4]) (by kernel_rfl) (by simp) (ReadyF.call (some 18) 54 #[.tmp 14, .tmp 17] #[9, 5] rfl #[.string sixB, .int .u8 (c.toNat : Int)] (by simp [Act.eval]) enters29 _ (HPA.out _) ?_ (fun c w' h => by cases h.1) (fun w' h => by cases h.1) ReadyF.nil)
      rintro v w' ⟨he, hw'⟩
      cases he
      rw [hw']
      clear hw'
      refine ⟨trivial, ?_⟩
      simp only [Act.put, List.setIfInBounds_toArray, List.set_cons_succ, List.set_cons_zero]
      refine AnyF.takeG (by rfl) 5 (some 7) (.assign (.tmp 18)) none (.int .i64 (plI sixL c)) rfl (by kernel_rfl) (by kernel_rfl) (by kernel_rfl) (fun _ _ _ h => h) rfl (fun o h => by obtain rfl := Option.some.inj h; rfl) (fun o ho w2 _ => exec_assign (.tmp 18) ho _ rfl w2) trivial ?_
      simp only [Act.put, List.setIfInBounds_toArray, List.set_cons_succ, List.set_cons_zero]
      refine AnyF.done (by kernel_rfl) ?_ _
      refine nrm_intro ?_
      have HBD : Hid (Below (w.heap.size + 1) W0 Wd) := Lib.hid (by rw [← hWd]; exact HBL.out.drew)
      have HOD : Hid (Wd.ownsRow (w.heap.size + 1) 5 1 u3 out.length (bytesV out)) := Lib.hid (by rw [← hWd]; exact HO0.out)
      have hbs : w.heap.size + 1 ≤ Wd.heap.size := by have := HBD.out.size; rw [HS0.out] at this; exact this
      clear hWd HBL HO0 hcx HPA HPL HSIX
      by_cases hp : placeN sixL c < 64
      · rw [plI_six c hp]
        obtain ⟨d, hd⟩ : ∃ d, Hid (d = placeN sixL c) := ⟨_, Lib.hid rfl⟩
        rw [← hd.out] at hp ⊢
        have hpI : ¬ ((d : Int) < 0) := by omega
        have hpI2 : (0 : Int) ≤ (d : Int) := by omega
        obtain ⟨n2, hn2⟩ : ∃ n2, Hid (n2 = (n * 64 + d) % 1048576) := ⟨_, Lib.hid rfl⟩
        have hbits := six20 n d hn hp
        rw [← hn2.out] at hbits
        obtain ⟨m, hm⟩ : ∃ m, Hid (m = n * 64) := ⟨_, Lib.hid rfl⟩
        rw [← hm.out] at hbits
        have hm1 : (n : Int) * 64 = (m : Int) := by rw [hm.out]; omega
        have hml : (m : Int) < 67108864 := by rw [hm.out]; omega
        have hn2l : Hid (n2 < 1048576) := by unfold Hid; rw [hn2.out]; omega
        obtain ⟨b6, hb6⟩ : ∃ b6, Hid (b6 = b + 6) := ⟨_, Lib.hid rfl⟩
        have hb61 : (b : Int) + 6 = (b6 : Int) := by rw [hb6.out]; omega
        have hb6l : (b6 : Int) < 14 := by rw [hb6.out]; omega
        have hdec : Hid (dec64 (c :: l.drop (I + 1)) n b = if b + 6 ≥ 8 then UInt8.ofNat (n2 / 2 ^ (b - 2)) :: dec64 (l.drop (I + 1)) n2 (b - 2) else dec64 (l.drop (I + 1)) n2 (b + 6)) := by
          unfold Hid
          show (if placeN sixL c = 64 then _ else _) = _
          rw [← hd.out, if_neg (by omega), ← hn2.out]
        rw [hdec.out] at HA
        by_cases hge : b + 6 ≥ 8
        · rw [if_pos hge] at HA
          have hgeI : (8 : Int) ≤ (b6 : Int) := by rw [hb6.out]; omega
          obtain ⟨b2, hb2⟩ : ∃ b2, Hid (b2 = b - 2) := ⟨_, Lib.hid rfl⟩
          have hb21 : (b6 : Int) - 8 = (b2 : Int) := by rw [hb6.out, hb2.out]; omega
          have hb2l : Hid (b2 < 8) := by unfold Hid; rw [hb2.out]; omega
          have hb2I : (b2 : Int) < 8 := by have := hb2l.out; omega
          rw [← hb2.out] at HA
          obtain ⟨x, hx⟩ : ∃ x, Hid (x = n2 / 2 ^ b2) := ⟨_, Lib.hid rfl⟩
          rw [← hx.out] at HA
          obtain ⟨g, hg⟩ : ∃ g, Hid (g = UInt8.ofNat x) := ⟨_, Lib.hid rfl⟩
          have hgw : IntKind.u8.wrap (x : Int) = (g.toNat : Int) := by rw [hg.out]; exact ofNat_wrap x
          rw [← hg.out] at HA
          obtain ⟨v', W3, happ, hown', hb', hz'⟩ := bytes_app (wr := Wd) HOD.out HBD.out hbs [g] 1 rfl _ rfl (by omega)
          have HAPP := Lib.hid happ
          have HO := Lib.hid hown'
          have HF := Lib.hid hb'
          have HA2 : Hid ((out ++ [g]) ++ dec64 (l.drop (I + 1)) n2 b2 = dec64 l 0 0) := by unfold Hid; rw [List.append_assoc]; exact HA.out
          have hb2s : b2 < 64 := by have := hb2l.out; omega
          have hx2 := hx.out
          clear happ hown' hb' hz' HOD HBD HA hdec hge hbs hn HL hdr
          have hx2 := Lib.hid hx2
          go_wp2_with (first | (refine wpList_run rfl _ (exec_shr3 (.tmp 33) (.tmp 34) rfl n2 b2 x hx.out hb2s rfl rfl _) ?_) | (refine wpList_run rfl _ (exec_conv35 (.tmp 35) rfl _ g.toNat rfl hgw _) ?_) | (refine wpList_run rfl _ (exec_slice1 (.tmp 36) rfl g.toNat rfl _) ?_) | (refine wpList_run rfl _ (HAPP.out _ _ (.tmp 32) (.tmp 37) rfl rfl rfl) ?_))
          go_roundw
          case rel => exact ⟨I + 1, n2, b2, out ++ [g], by omega, by first | rfl | simp | go_num, rfl, rfl, hn2l.out, hb2l.out, by rw [List.length_append]; exact HO.out, fun h => by simp at h, HA2.out, by rw [List.length_append]; simp; omega, HF.out⟩
          case measure => simp [intOf]; omega
        · rw [if_neg hge] at HA
          have hgeI : ¬ (8 : Int) ≤ (b6 : Int) := by rw [hb6.out]; omega
          have hgeI2 : (b6 : Int) < 8 := by rw [hb6.out]; omega
          rw [← hb6.out] at HA
          have hb6s : Hid (b6 < 8) := by unfold Hid; omega
          clear hdec hge hbs hn HL hdr
          go_wp2
          go_roundw
          case rel => exact ⟨I + 1, n2, b6, out, by omega, by first | rfl | simp | go_num, rfl, rfl, hn2l.out, hb6s.out, HOD.out, HV0.out, HA.out, by omega, HBD.out⟩
          case measure => simp [intOf]; omega
      · rw [plI_six0 c hp]
        have hdec : Hid (dec64 (c :: l.drop (I + 1)) n b = dec64 (l.drop (I + 1)) n b) := by
          unfold Hid
          show (if placeN sixL c = 64 then _ else _) = _
          have h64 : placeN sixL c ≤ 64 := place_le sixL c
          rw [if_pos (by omega)]
        rw [hdec.out] at HA
        clear hdec hp hdr HL hbs
        go_wp2
        go_roundw
        case rel => exact ⟨I + 1, n, b, out, by omega, by first | rfl | simp | go_num, rfl, rfl, hn, hb8, HOD.out, HV0.out, HA.out, by omega, HBD.out⟩
        case measure => simp [intOf]; omega
    · have hdn : l.drop I = [] := List.drop_eq_nil_of_le (by rw [HL.out]; show s.size ≤ I; omega)
      have ho := hap
      rw [hdn, show dec64 [] n b = [] from rfl, List.append_nil] at ho
      rw [HL.out] at ho
      obtain ⟨ad, cap, rfl, hcv⟩ := own_str hown hv0
      rw [← ho] at hG
      have hJs : (s.size : Int) ≤ (I : Int) := by omega
      have hols : out.length ≤ 1000 := by omega
      obtain ⟨D, hD⟩ : ∃ D : ByteArray, Hid (D = ⟨out.toArray⟩) := ⟨_, Lib.hid rfl⟩
      have hDs : D.size ≤ 1000 := by rw [hD.out]; show out.length ≤ 1000; omega
      have H2 := Lib.hid (rb64_any D hDs)
      have hDl : D.data.toList = out := by rw [hD.out]
      rw [hDl] at H2
      obtain ⟨V, hV⟩ : ∃ V : ByteArray, Hid (V = ⟨(b64 out).toArray⟩) := ⟨_, Lib.hid rfl⟩
      have hiff : V = s ↔ b64 out = s.data.toList := by
        rw [hV.out]
        constructor
        · intro h; have h2 := congrArg (fun b : ByteArray => b.data.toList) h; simpa using h2
        · intro h; rw [h]
      have hB2 := Lib.hid (build27 D true)
      have hB0 := Lib.hid build27_0
      rw [← hZS.out] at hB0
      have HR1 : V = s → Hid (said (get64 s.data.toList) = saidV D true) := fun h => by unfold Hid; rw [hG.out, if_pos (hiff.1 h), hD.out]; rfl
      have HR2 : V ≠ s → Hid (said (get64 s.data.toList) = ZS) := fun h => by unfold Hid; rw [hG.out, if_neg (fun e => h (hiff.2 e)), hZS.out]; rfl
      rw [← hD.out] at hcv
      rw [← hV.out] at H2
      have hc1 := hcv wr (Below.refl _ _)
      have HCV := Lib.hid hcv
      have HB := Lib.hid hb
      clear hcv hown hv0 hG hiff hV hDl hlen hD hDs hb HZ HPL HSIX ho hap
      go_wp2_with fail
      refine (H2.out _).mono ?_
      rintro e w1 ⟨rfl, hb1⟩
      have hc2 := HCV.out w1 hb1
      have hg : w1.heap[w.heap.size]? = some (.cells ZS 26 (0, 0)) := by
        have h1 := HB.out.block w.heap.size (by omega)
        have hlt2 : w.heap.size < wr.heap.size := by have := HS0.out; have := HB.out.size; omega
        rw [hb1.block w.heap.size hlt2, h1]
        exact HZ0.out
      have hbel : Below w.heap.size w w1 := by
        have h1 := HB.out
        have := HS0.out
        exact (HB0.out.trans (h1.mono (by omega))).trans (hb1.mono (by have := h1.size; omega))
      have hbel2 : Hid (∀ A, Below w.heap.size w (w1.setRow (w.heap.size) A)) := Lib.hid (fun A => hbel.trans ⟨rfl, rfl, rfl, by simp, fun k hk => setRow_other _ _ _ _ (by omega)⟩)
      clear HCV hb1 HB HB0 HS0 HZ0 hc1 H2 hbel
      by_cases he : V = s
      · have hR := HR1 he
        have hdn := str_eq he
        clear HR1 HR2 he
        go_wp2_with (first | (refine wpList_run rfl _ (exec_build2 _ 26 0 1 (.tmp 46) (.const (.bool true)) rfl (.string D) (.bool true) rfl rfl _ (hB2.out _)) ?_) | (refine wpList_run0 rfl (exec_store27 _ (.tmp 2) (.tmp 47) rfl (w.heap.size) rfl D true rfl ZS 26 hg SZ) ?_))
        exact bodyPost_ret (results_cell rfl _ _ _ ⟨w.heap.size, 0, none⟩ rfl _ (load27 D true (t := 26) (setRow_heap _ _ _ _ _ _ hg))) rfl ⟨by rw [hR.out], hbel2.out _⟩
      · have hR := HR2 he
        have hdn := str_ne he
        clear HR1 HR2 he
        have hg2 : w1.heap[w.heap.size]? = some (.cells (saidV ⟨#[]⟩ false) 26 (0, 0)) := by rw [← hZS.out]; exact hg
        have hB0' : Hid (∀ w, (Instr.build 26 #[]).run Tryz.prog w = .ok (.agg (saidV ⟨#[]⟩ false)) w) := Lib.hid build27_0
        go_wp2_with (first | (refine wpList_run rfl _ (exec_build0g rfl (.agg (saidV ⟨#[]⟩ false)) (hB0'.out _) _) ?_) | (refine wpList_run0 rfl (exec_store27 _ (.tmp 2) (.tmp 44) rfl (w.heap.size) rfl ⟨#[]⟩ false rfl ZS 26 hg SZ) ?_))
        exact bodyPost_ret (results_cell rfl _ _ _ ⟨w.heap.size, 0, none⟩ rfl _ (load27 ⟨#[]⟩ false (t := 26) (setRow_heap _ _ _ _ _ _ hg))) rfl ⟨by rw [hR.out, hZS.out], hbel2.out _⟩
end Go.Proofs.YtdajmekliodmcaaGreatDoor.R
