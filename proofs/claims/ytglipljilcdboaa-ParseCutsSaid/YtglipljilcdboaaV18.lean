/- Several texts, one behind the other; each says by itself what it proves, and on what conditions. -/
import Derived.Test.YtglipljilcdboaaV17
/- Of the program: the iterator over texts, behind the length of a text. No condition but what each names. -/
namespace Go.Proofs.Ytglipljilcdboaa
open Go.RowKit Go.Shelf
set_option linter.unusedVariables false
set_option linter.unusedSimpArgs false
section
open E
theorem yield_mono {n : Nat} {l : Nat} {args : Array Value} {W : World} {R R' : Ending → World → Prop} (h : YieldAt (FW none) n Try.prog l args W R) (hR : ∀ e W', R e W' → R' e W') : YieldAt (FW none) n Try.prog l args W R' := by
  obtain ⟨fn, tmps, assign, body, g1, g2⟩ := h
  exact ⟨fn, tmps, assign, body, g1, RoundIn.mono g2 hR⟩
/-- The boxes that the iterator holds. -/
structure BxT (W0 : World) (b p2 p3 : Nat) (D0 KB : List Nat) : Prop where
  r2 : RowAt (fun _ => ⟨p2, 0, 0⟩) 0 ⟨[.one (.v (mfv b))], false, none⟩ W0
  r3 : RowAt (fun _ => ⟨p3, 0, 0⟩) 0 ⟨[.one (.v (.pointer (some ⟨b, 0, none⟩)))], false, none⟩ W0
  n2 : p2 ∉ b :: (D0 ++ KB)
  n3 : p3 ∉ b :: (D0 ++ KB)
section
variable {W0 : World} {b p1 p2 p3 l : Nat} {D0 KB : List Nat} {J Jx : World → Prop}
/-- What is told at the head of the loop. -/
structure HX where
  W : World
  t : TS
  bs : List UInt8
  rest : List UInt8
  vn : Value
  vo : Value
  D : List Nat
  B : Blk
abbrev hxRows (b : Nat) (x : HX) : List (Nat × Row) := rwB 4 x.bs.length x.bs x.vn x.vo x.t.pl x.t.path b
abbrev hxAt (b p1 p2 p3 l : Nat) (Q : Exit → Act → World → Prop) (x : HX) : Prop :=
  At Try.prog x.W ⟨wlOf (envK b p1 p2 p3 x.B) (hxRows b x), envK b p1 p2 p3 x.B, []⟩ Try.f46.ntmps [] (lp Try.f46 0) Q (tmH l x.rest) (hxRows b x)
/-- The rows of the head, in memory. -/
theorem hx_rows (hbx : BxT W0 b p2 p3 D0 KB) {W : World} {t : TS} {vn vo : Value} {D : List Nat} {B : Blk} (hI : Inv W0 b p2 p3 D0 KB J W t vn vo D [B.1]) {bs : List UInt8} (hr : RowAt (fun _ => ⟨b, 0, 0⟩) 0 (rdP (.v (.slice (some ⟨B.1, 0, none⟩) bs.length B.3)) (.v vn) (.v vo) t.pl t.path false) W) (hb : RowAt (fun _ => B) 0 (byR bs) W) :
    (∀ p ∈ hxRows b ⟨W, t, bs, [], vn, vo, D, B⟩, RowAt (envK b p1 p2 p3 B) p.1 p.2 W ∧ pok p.2.ps) ∧ (∀ p ∈ hxRows b ⟨W, t, bs, [], vn, vo, D, B⟩, ∀ q ∈ hxRows b ⟨W, t, bs, [], vn, vo, D, B⟩, p.1 ≠ q.1 → p.2.w = true → (envK b p1 p2 p3 B p.1).1 ≠ (envK b p1 p2 p3 B q.1).1) := by
  have hn := List.nodup_cons.1 hI.hn
  have hbB : b ≠ B.1 := fun e => hn.1 (by rw [e]; simp)
  have hw2 : p2 < W0.heap.size := hbx.r2.1
  have hw3 : p3 < W0.heap.size := hbx.r3.1
  have x2 : b ≠ p2 := fun e => hbx.n2 (by rw [e]; simp)
  have x3 : b ≠ p3 := fun e => hbx.n3 (by rw [e]; simp)
  have y2 : B.1 ≠ p2 := fun e => by
    rcases hI.hd B.1 (by simp) with h | h
    · exact hbx.n2 (by rw [← e]; simp [h])
    · omega
  have y3 : B.1 ≠ p3 := fun e => by
    rcases hI.hd B.1 (by simp) with h | h
    · exact hbx.n3 (by rw [← e]; simp [h])
    · omega
  obtain ⟨hvn, hvo⟩ := trv_cells hI.hv
  refine ⟨fun p hp => ?_, fun p hp q hq hpq hw => ?_⟩
  · simp only [List.mem_cons, List.not_mem_nil, or_false] at hp
    rcases hp with rfl | rfl | rfl | rfl
    · exact ⟨rdP_mv hr rfl (slB_val (show envK b p1 p2 p3 B 4 = B from rfl) (byR_z hb)) rfl rfl, rdP_ok _ _ _ trivial hvn hvo⟩
    · exact ⟨rowAt_fr hbx.r2 hI.hf hbx.n2, fun p hp => by obtain rfl := List.mem_singleton.1 hp; rfl⟩
    · exact ⟨rowAt_fr hbx.r3 hI.hf hbx.n3, fun p hp => by obtain rfl := List.mem_singleton.1 hp; trivial⟩
    · exact ⟨byR_mv hb rfl, by_ok _⟩
  · simp only [List.mem_cons, List.not_mem_nil, or_false] at hp hq
    rcases hp with rfl | rfl | rfl | rfl <;> rcases hq with rfl | rfl | rfl | rfl <;> first | exact absurd rfl hpq | (cases hw; done) | exact hbB | exact x2 | exact x3 | exact y2 | exact y3 | exact Ne.symm hbB
theorem Inv.still (c : YCtx b l KB J Jx) {W w' : World} {t : TS} {vn vo : Value} {D E : List Nat} (h : Inv W0 b p2 p3 D0 KB J W t vn vo D E) {S : List Nat} (hf : Fr W S w') (hS : ∀ x ∈ S, x ∈ b :: E) : Inv W0 b p2 p3 D0 KB J w' t vn vo D E := by
  have hn := List.nodup_cons.1 h.hn
  have hn2 := List.nodup_append.1 hn.2
  have hD : ∀ x ∈ D, x ∉ S := fun x hx hxS => by
    rcases List.mem_cons.1 (hS x hxS) with rfl | h2
    · exact hn.1 (List.mem_append.2 (.inr hx))
    · exact hn2.2.2 x h2 x hx rfl
  have hSk : ∀ x ∈ S, x ∉ KB := fun x hx => h.hk x (by
    rcases List.mem_cons.1 (hS x hx) with h2 | h2
    · exact h2 ▸ List.mem_cons_self ..
    · exact List.mem_cons_of_mem _ (List.mem_append.2 (.inl h2)))
  refine ⟨h.hv.fr hf hD, h.hn, c.fr _ _ S h.hJ hf hSk, h.hf.comp hf fun x hx => ?_, h.hd, h.hk, fun y hy => Nat.lt_of_lt_of_le (h.hE y hy) hf.size, Nat.lt_of_lt_of_le h.hb hf.size, h.hg⟩
  rcases List.mem_cons.1 (hS x hx) with rfl | h2
  · exact .inl (List.mem_cons_self ..)
  · rcases h.hd x (List.mem_append.2 (.inl h2)) with h3 | h3
    · exact .inl (List.mem_cons_of_mem _ (List.mem_append.2 (.inl h3)))
    · exact .inr h3
theorem hop_no (c : YCtx b l KB J Jx) {W : World} {t : TS} {vn vo : Value} {D E : List Nat} (hI : Inv W0 b p2 p3 D0 KB J W t vn vo D E) {wl : List Nat} {B0 : Blk} (hwl : ∀ x ∈ wl, x ∈ b :: E) {xb : Lf} (hxb : xb.ok) {ops : Array Oper} {m d : Nat} {n : Nat} {tm1 : List (Nat × TV)} {rows1 : List (Nat × Row)} {s : List UInt8} {ok : Bool}
    (hy : yCall ops m (mkSt n tm1 rows1 []) = some (d, l, [.v (stv s), .v (.bool ok)])) (hrow : findR rows1 0 = some (rdP xb (.v vn) (.v vo) t.pl t.path false)) (hok : ok = true → (t.pl = 14 → s.length ≤ 255) ∧ takeM t s = none) (hdn : d < n) :
    ∀ a w ρ (K : Act → World → Prop) (QQ : Exit → Act → World → Prop), Den W ⟨wl, envK b p1 p2 p3 B0, []⟩ ρ (mkSt n tm1 rows1 []) a w → (∀ (x : World) v w' ρ', (Jx x ∧ Fr W0 (b :: (D0 ++ KB)) x) → Den x nB ρ' (mkSt n [(d, .v (.bool false))] [] []) (a.put (some d) v) w' → K (a.put (some d) v) w') → wpOpIn (FW none) 5 Try.prog ops QQ m K a w := by
  intro a w ρ K QQ hden hk
  have e0 : ρ 0 = ⟨b, 0, 0⟩ := hden.e0 0 (.inl (by decide))
  have r0 := (hden.rw 0 _ hrow).1
  have hI2 := hI.still c hden.fr hwl
  have hp := hI2.pre (vb := xb.val ρ) (rdP_mv r0 e0.symm rfl rfl rfl)
  have hy2 := c.no w t D (xb.val ρ) s ok (Lf.one_val hxb) hI.hg hI2.hJ hp.1 hp.2 hok
  refine (yCall_ok (n := 5) hy hden (yield_mono hy2 ?_)).2
  rintro e w' ⟨rfl, hJ, hf⟩
  exact ⟨false, rfl, hk w' (.bool false) w' (fun _ => ⟨0, 0, 0⟩) ⟨hJ, hI2.out c hJ hf⟩ (den_again (d := d) (tm' := [(d, .v (.bool false))]) (rows2 := []) (K := []) hden hdn (fun p hp => by obtain rfl := List.mem_singleton.1 hp; exact .inl ⟨rfl, rfl, rfl⟩) rfl (fun p hp => by cases hp) (fun p hp => by cases hp) rfl rfl)⟩
set_option maxRecDepth 100000 in
/-- No text: the round is told so. -/
theorem seg_no4n (c : YCtx b l KB J Jx) {W : World} {t : TS} {vn vo : Value} {D E : List Nat} (hI : Inv W0 b p2 p3 D0 KB J W t vn vo D E) {wl : List Nat} {B0 : Blk} (hwl : ∀ x ∈ wl, x ∈ b :: E)  (rest : List UInt8) (m : Int) :
    At Try.prog W ⟨wl, envK b p1 p2 p3 B0, []⟩ Try.f46.ntmps [] (rp Try.f46 4) (EndX Try.prog Try.f46 (TxQ W0 b D0 KB J Jx none)) (tmM l rest m) (rw0 vn vo t.pl t.path b) := by
  refine At.opX (α := World) 1 19 [] trivial (fun x => x) (fun _ => nB) (fun _ => [(19, .v (.bool false))]) (fun _ => []) (fun _ => []) (fun _ => []) (fun x => Jx x ∧ Fr W0 (b :: (D0 ++ KB)) x) rfl (tm1 := [(18, .v (yv l))]) (rows1 := (rw0 vn vo t.pl t.path b)) (o1 := []) (o2 := fun _ => []) (by kernel_rfl) trivial rfl ?_ (fun x _ => by kernel_rfl) (fun x _ => trivial) (fun x => rfl) (fun x hx => ?_)
  · exact hop_no c hI hwl (xb := .v (.slice none 0 0)) (s := []) (ok := false) rfl (by kernel_rfl) rfl (fun h => by cases h) (by decide)
  · exact At.fin rfl [] trivial [] (x := .tup []) (ob := []) (by kernel_rfl) trivial fun ρ w' hf _ => ⟨⟨_, rfl⟩, hx.2.comp hf (fun x hx => by cases hx), c.frx _ _ hx.1 hf⟩
set_option maxRecDepth 100000 in
/-- No text: the round is told so. -/
theorem seg_no4 (c : YCtx b l KB J Jx) {W : World} {t : TS} {vn vo : Value} {D E : List Nat} (hI : Inv W0 b p2 p3 D0 KB J W t vn vo D E) {wl : List Nat} {B0 : Blk} (hwl : ∀ x ∈ wl, x ∈ b :: E) (bs : List UInt8) (rest : List UInt8) (m : Int) :
    At Try.prog W ⟨wl, envK b p1 p2 p3 B0, []⟩ Try.f46.ntmps [] (rp Try.f46 4) (EndX Try.prog Try.f46 (TxQ W0 b D0 KB J Jx none)) (tmM l rest m) (rwB 4 bs.length bs vn vo t.pl t.path b) := by
  refine At.opX (α := World) 1 19 [] trivial (fun x => x) (fun _ => nB) (fun _ => [(19, .v (.bool false))]) (fun _ => []) (fun _ => []) (fun _ => []) (fun x => Jx x ∧ Fr W0 (b :: (D0 ++ KB)) x) rfl (tm1 := [(18, .v (yv l))]) (rows1 := (rwB 4 bs.length bs vn vo t.pl t.path b)) (o1 := []) (o2 := fun _ => []) (by kernel_rfl) trivial rfl ?_ (fun x _ => by kernel_rfl) (fun x _ => trivial) (fun x => rfl) (fun x hx => ?_)
  · exact hop_no c hI hwl (xb := slB 4 bs.length) (s := []) (ok := false) trivial (by kernel_rfl) rfl (fun h => by cases h) (by decide)
  · exact At.fin rfl [] trivial [] (x := .tup []) (ob := []) (by kernel_rfl) trivial fun ρ w' hf _ => ⟨⟨_, rfl⟩, hx.2.comp hf (fun x hx => by cases hx), c.frx _ _ hx.1 hf⟩
set_option maxRecDepth 100000 in
/-- No text: the round is told so. -/
theorem seg_no9 (c : YCtx b l KB J Jx) {W : World} {t : TS} {vn vo : Value} {D E : List Nat} (hI : Inv W0 b p2 p3 D0 KB J W t vn vo D E) {wl : List Nat} {B0 : Blk} (hwl : ∀ x ∈ wl, x ∈ b :: E) (bs : List UInt8) (rest : List UInt8) (m : Int) :
    At Try.prog W ⟨wl, envK b p1 p2 p3 B0, []⟩ Try.f46.ntmps [] (rp Try.f46 9) (EndX Try.prog Try.f46 (TxQ W0 b D0 KB J Jx none)) (tmM l rest m) (rwB 6002 bs.length bs vn vo t.pl t.path b) := by
  refine At.opX (α := World) 1 39 [] trivial (fun x => x) (fun _ => nB) (fun _ => [(39, .v (.bool false))]) (fun _ => []) (fun _ => []) (fun _ => []) (fun x => Jx x ∧ Fr W0 (b :: (D0 ++ KB)) x) rfl (tm1 := [(38, .v (yv l))]) (rows1 := (rwB 6002 bs.length bs vn vo t.pl t.path b)) (o1 := []) (o2 := fun _ => []) (by kernel_rfl) trivial rfl ?_ (fun x _ => by kernel_rfl) (fun x _ => trivial) (fun x => rfl) (fun x hx => ?_)
  · exact hop_no c hI hwl (xb := slB 6002 bs.length) (s := []) (ok := false) trivial (by kernel_rfl) rfl (fun h => by cases h) (by decide)
  · exact At.fin rfl [] trivial [] (x := .tup []) (ob := []) (by kernel_rfl) trivial fun ρ w' hf _ => ⟨⟨_, rfl⟩, hx.2.comp hf (fun x hx => by cases hx), c.frx _ _ hx.1 hf⟩
end
end
end Go.Proofs.Ytglipljilcdboaa
/- Of the program: the iterator over texts, where it hands a text out. No condition but what each names. -/
namespace Go.Proofs.Ytglipljilcdboaa
open Go.RowKit Go.Shelf
set_option linter.unusedVariables false
set_option linter.unusedSimpArgs false
section
open E
section
variable {W0 : World} {b p1 p2 p3 l : Nat} {D0 KB : List Nat} {J Jx : World → Prop}
abbrev tmY (l : Nat) (rest tx : List UInt8) (ok : Bool) : List (Nat × TV) := [(0, .v (yv l)), (2, ptrTo 2), (3, ptrTo 3), (5, .v (stv rest)), (9, .v (stv tx)), (10, .v (.bool ok))]
abbrev tmY1 (l : Nat) (rest tx : List UInt8) (ok : Bool) : List (Nat × TV) := [(0, .v (yv l)), (2, ptrTo 2), (3, ptrTo 3), (5, .v (stv rest)), (9, .v (stv tx)), (10, .v (.bool ok)), (61, .v (yv l)), (62, .v (stv tx)), (63, .v (.bool ok))]
set_option maxRecDepth 100000 in
theorem seg14_no (c : YCtx b l KB J Jx) {W : World} {t : TS} {vn vo : Value} {D E : List Nat} (hI : Inv W0 b p2 p3 D0 KB J W t vn vo D E) {wl : List Nat} {B0 : Blk} (hwl : ∀ x ∈ wl, x ∈ b :: E) (n : Nat) (bs rest tx : List UInt8) (ok : Bool) (hok : ok = true → (t.pl = 14 → tx.length ≤ 255) ∧ takeM t tx = none) :
    At Try.prog W ⟨wl, envK b p1 p2 p3 B0, []⟩ Try.f46.ntmps [] (rp Try.f46 14) (EndX Try.prog Try.f46 (TxQ W0 b D0 KB J Jx none)) (tmY l rest tx ok) (rwB 12003 n bs vn vo t.pl t.path b) := by
  refine At.opX (α := World) 3 64 [] trivial (fun x => x) (fun _ => nB) (fun _ => [(64, .v (.bool false))]) (fun _ => [(69, .v (.bool true))]) (fun _ => []) (fun _ => []) (fun x => Jx x ∧ Fr W0 (b :: (D0 ++ KB)) x) rfl (tm1 := tmY1 l rest tx ok) (rows1 := rwB 12003 n bs vn vo t.pl t.path b) (o1 := []) (o2 := fun _ => []) (by kernel_rfl) trivial rfl ?_ (fun x _ => by kernel_rfl) (fun x _ => trivial) (fun x => rfl) (fun x hx => ?_)
  · exact hop_no c hI hwl (xb := slB 12003 n) (s := tx) (ok := ok) trivial (by kernel_rfl) rfl hok (by decide)
  · exact At.fin rfl [] trivial [.y] (x := .tup []) (ob := [true = true]) (by kernel_rfl) ⟨rfl, trivial⟩ fun ρ w' hf _ => ⟨⟨_, rfl⟩, hx.2.comp hf (fun x hx => by cases hx), c.frx _ _ hx.1 hf⟩
set_option maxRecDepth 100000 in
theorem seg14_go (c : YCtx b l KB J Jx) (hbx : BxT W0 b p2 p3 D0 KB) {W : World} {t : TS} {vn vo : Value} {D E : List Nat} (hI : Inv W0 b p2 p3 D0 KB J W t vn vo D E) {wl : List Nat} {B0 : Blk} (hwl : ∀ x ∈ wl, x ∈ b :: E) (bs rest tx : List UInt8) (t' : TS) (hlen : t.pl = 14 → tx.length ≤ 255) (ht : takeM t tx = some t') {Q : Exit → Act → World → Prop}
    (hIH : ∀ x : HX, x.t = t' → x.bs = [] → x.rest = rest → Inv W0 b p2 p3 D0 KB J x.W t' x.vn x.vo x.D [x.B.1] → hxAt b p1 p2 p3 l Q x) :
    At Try.prog W ⟨wl, envK b p1 p2 p3 B0, []⟩ Try.f46.ntmps [] (rp Try.f46 14) Q (tmY l rest tx true) (rwB 12003 0 bs vn vo t.pl t.path b) := by
  refine At.opX (α := HX) 3 64 [] trivial (fun x => x.W) (fun x => ⟨wlOf (envK b p1 p2 p3 x.B) (rwB 4 0 [] x.vn x.vo t'.pl t'.path b), envK b p1 p2 p3 x.B, []⟩) (fun _ => [(0, .v (yv l)), (2, ptrTo 2), (3, ptrTo 3), (5, .v (stv rest)), (10, .v (.bool true)), (64, .v (.bool true))]) (fun _ => [(0, .v (yv l)), (2, ptrTo 2), (3, ptrTo 3), (5, .v (stv rest)), (69, .v (.bool false))]) (fun x => rwB 4 0 [] x.vn x.vo t'.pl t'.path b) (fun x => rwB 4 0 [] x.vn x.vo t'.pl t'.path b) (fun x => x.t = t' ∧ x.bs = [] ∧ x.rest = rest ∧ Inv W0 b p2 p3 D0 KB J x.W t' x.vn x.vo x.D [x.B.1]) rfl (tm1 := tmY1 l rest tx true) (rows1 := rwB 12003 0 bs vn vo t.pl t.path b) (o1 := []) (o2 := fun _ => []) (by kernel_rfl) trivial rfl ?_ (fun x _ => by kernel_rfl) (fun x _ => trivial) (fun x => rfl) (fun x hx => ?_)
  · intro a w ρ K QQ hden hk
    have e0 : ρ 0 = ⟨b, 0, 0⟩ := hden.e0 0 (.inl (by decide))
    have e2 : ρ 2 = ⟨p2, 0, 0⟩ := hden.e0 2 (.inl (by decide))
    have e3 : ρ 3 = ⟨p3, 0, 0⟩ := hden.e0 3 (.inl (by decide))
    have r0 := (hden.rw 0 _ rfl).1
    obtain ⟨r4, _, _, _, hw4⟩ := hden.rw 12003 _ rfl
    obtain ⟨B, hB⟩ : ∃ B, B = ρ 12003 := ⟨_, rfl⟩
    have hwB : B.1 ∈ E ∨ W.heap.size ≤ B.1 := by
      rw [hB]
      rcases hw4 rfl with h | h
      · exact .inr h
      · rcases List.mem_cons.1 (hwl _ h) with h2 | h2
        · have := hden.ds 0 12003 _ _ rfl rfl (by decide) rfl
          rw [e0] at this
          exact absurd h2.symm this
        · exact .inl h2
    have hz : B.2 = 0 := by rw [hB]; exact byR_z r4
    have hI2 := hI.step c hden.fr hwl B hwB (by rw [hB]; exact r4.1)
    have hvb : (slB 12003 0).val ρ = .slice (some ⟨B.1, 0, none⟩) 0 B.3 := slB_val hB.symm hz
    have hp := hI2.pre (vb := .slice (some ⟨B.1, 0, none⟩) 0 B.3) (rdP_mv r0 e0.symm hvb.symm rfl rfl)
    have hy2 := c.go w t D (.slice (some ⟨B.1, 0, none⟩) 0 B.3) tx t' rfl hI.hg hlen hI2.hJ hp.1 hp.2 ht
    refine (yCall_ok (n := 5) (d := 64) (l := l) (vs := [.v (stv tx), .v (.bool true)]) (by kernel_rfl) hden (yield_mono hy2 ?_)).2
    rintro e w' ⟨rfl, hJ, D', ⟨vn', vo', h1, hv', hn'⟩, hf, hD'⟩
    have hI3 := hI2.next c (good_take hI.hg hlen ht) hJ hv' hn' hf hD'
    have hBk : B.1 ∉ (b :: D) ++ KB := by
      intro hm
      have hn := List.nodup_cons.1 hI2.hn
      rcases List.mem_append.1 hm with h2 | h2
      · rcases List.mem_cons.1 h2 with h3 | h3
        · exact hn.1 (by rw [← h3]; simp)
        · exact (List.nodup_cons.1 hn.2).1 h3
      · exact hI2.hk B.1 (by simp) h2
    have hb4 : RowAt (fun _ => B) 0 (byR []) w' := rowAt_fr (byR_mv (ρ := ρ) (r := 12003) (byR_short r4 0) hB) hf hBk
    obtain ⟨g1, g2⟩ := hx_rows (bs := []) hbx hI3 h1 hb4
    refine ⟨true, rfl, hk ⟨w', t', [], rest, vn', vo', D', B⟩ (.bool true) w' (envK b p1 p2 p3 B) ⟨rfl, rfl, rfl, hI3⟩ ?_⟩
    refine den_again (d := 64) hden (by decide) (fun p hp => ?_) rfl g1 g2 rfl rfl
    simp only [List.mem_cons, List.not_mem_nil, or_false] at hp
    rcases hp with rfl | rfl | rfl | rfl | rfl | rfl
    · exact .inr ⟨(show (0 : Nat) ≠ 64 by decide), rfl, fun r hr => by cases hr⟩
    · exact .inr ⟨(show (2 : Nat) ≠ 64 by decide), rfl, fun r hr => by obtain rfl := List.mem_singleton.1 hr; exact e2.symm⟩
    · exact .inr ⟨(show (3 : Nat) ≠ 64 by decide), rfl, fun r hr => by obtain rfl := List.mem_singleton.1 hr; exact e3.symm⟩
    · exact .inr ⟨(show (5 : Nat) ≠ 64 by decide), rfl, fun r hr => by cases hr⟩
    · exact .inr ⟨(show (10 : Nat) ≠ 64 by decide), rfl, fun r hr => by cases hr⟩
    · exact .inl ⟨rfl, rfl, rfl⟩
  · obtain ⟨W', t2, bs2, rest2, vn', vo', D', B'⟩ := x
    obtain ⟨h1, h2, h3, h4⟩ := hx
    simp only at h1 h2 h3 h4
    subst h1 h2 h3
    exact At.run rfl [] trivial [.n] (tm2 := tmH l rest2) (rows2 := rwB 4 0 [] vn' vo' t2.pl t2.path b) (ob := [false = false]) (td := lp Try.f46 0) (by kernel_rfl) ⟨rfl, trivial⟩ rfl rfl (by intro h; cases h) (hIH ⟨W', t2, [], rest2, vn', vo', D', B'⟩ rfl rfl rfl h4)
end
end
end Go.Proofs.Ytglipljilcdboaa
/- Of the program: the iterator over texts, from the length of a text on. No condition but what each names. -/
namespace Go.Proofs.Ytglipljilcdboaa
open Go.RowKit Go.Shelf
set_option linter.unusedVariables false
set_option linter.unusedSimpArgs false
section
open E
section
variable {W0 : World} {b p1 p2 p3 l : Nat} {D0 KB : List Nat} {J Jx : World → Prop}
theorem fin_go (c : YCtx b l KB J Jx) {W w' : World} {t : TS} {vn vo : Value} {D E : List Nat} (hI : Inv W0 b p2 p3 D0 KB J W t vn vo D E) {wl : List Nat} (hwl : ∀ x ∈ wl, x ∈ b :: E) {ρ' : Env} {X : Nat} {bs : List UInt8} (hf : Fr W wl w') (e0 : ρ' 0 = ⟨b, 0, 0⟩) (r0 : RowAt ρ' 0 (rdP (slB X bs.length) (.v vn) (.v vo) t.pl t.path false) w') (r4 : RowAt ρ' X (byR bs) w') (hw : W.heap.size ≤ (ρ' X).1 ∨ (ρ' X).1 ∈ wl) (hne : (ρ' 0).1 ≠ (ρ' X).1) (v : Value) : TxQ W0 b D0 KB J Jx (some (t, bs)) (.returned v) w' := by
  have hB : (ρ' X).1 ∈ E ∨ W.heap.size ≤ (ρ' X).1 := by
    rcases hw with h | h
    · exact .inr h
    · rcases List.mem_cons.1 (hwl _ h) with h2 | h2
      · rw [e0] at hne; exact absurd h2.symm hne
      · exact .inl h2
  have hI2 := hI.step c hf hwl (ρ' X) hB r4.1
  exact hI2.fin c (.inr ⟨ρ' X, rfl, byR_mv r4 rfl, rfl⟩) (rdP_mv r0 e0.symm (slB_val rfl (byR_z r4)).symm rfl rfl) v
set_option maxRecDepth 100000 in
theorem seg7 (c : YCtx b l KB J Jx) (hbx : BxT W0 b p2 p3 D0 KB) {W : World} {t : TS} {vn vo : Value} {D E : List Nat} (hI : Inv W0 b p2 p3 D0 KB J W t vn vo D E) {wl : List Nat} {B0 : Blk} (hwl : ∀ x ∈ wl, x ∈ b :: E) (bs rest : List UInt8) (m : Nat) (hm : mostM t.pl = some m) (h8 : 8 ≤ bs.length) (hbl : bs.length ≤ 8 + padN (gN bs 8)) (hlen : bs.length + rest.length ≤ 100000000000) {R : Option (TS × List UInt8)} (hR : R = runM t (bs ++ rest))
    (hIH : ∀ x : HX, x.bs = [] → Inv W0 b p2 p3 D0 KB J x.W x.t x.vn x.vo x.D [x.B.1] → x.rest.length < bs.length + rest.length → R = runM x.t x.rest → hxAt b p1 p2 p3 l (EndX Try.prog Try.f46 (TxQ W0 b D0 KB J Jx R)) x) :
    At Try.prog W ⟨wl, envK b p1 p2 p3 B0, []⟩ Try.f46.ntmps [] (rp Try.f46 7) (EndX Try.prog Try.f46 (TxQ W0 b D0 KB J Jx R)) (tmM l rest (m : Int)) (rwB 6002 bs.length bs vn vo t.pl t.path b) := by
  obtain ⟨hvn, hvo⟩ := trv_cells hI.hv
  have hm6 := mostM_le _ _ hm
  have hgl : gN bs 8 < 18446744073709551616 := gN_lt bs 8
  have hga : gN (bs ++ rest) 8 = gN bs 8 := gN_app h8
  have hne : bs ++ rest ≠ [] := fun h => by have h2 := congrArg List.length h; rw [List.length_append, List.length_nil] at h2; omega
  have hla : (bs ++ rest).length = bs.length + rest.length := List.length_append
  have kL : HintOk Try.prog 8004 (hLn 6002 bs) := hLn_ok h8 (by omega)
  have hwm : IntKind.u64.wrap (m : Int) = (m : Int) := by rw [IntKind.wrap_u64]; omega
  by_cases hgt : m < gN bs 8
  · have hRn : R = none := by rw [hR]; exact runM_form hne hm (cut_great (by rw [hla]; omega) (by rw [hga]; exact hgt))
    subst hRn
    exact At.run rfl [(8004, hLn 6002 bs)] ⟨kL, trivial⟩ [.y] (tm2 := tmM l rest (m : Int)) (rows2 := rwB 6002 bs.length bs vn vo t.pl t.path b) (ob := [qL (hLn 6002 bs), [decide (((gN bs 8 : Nat) : Int) > IntKind.u64.wrap (m : Int)) = true]].flatten) (td := rp Try.f46 9) (by kernel_rfl) (all_flat ⟨all_qL _, ⟨decide_eq_true (by rw [hwm]; omega), trivial⟩, trivial⟩) rfl rfl (by intro h; cases h) (seg_no9 c hI hwl bs rest (m : Int))
  have hpg := pad_le (gN bs 8)
  have hpl : padN (gN bs 8) ≤ gN bs 8 + 7 := by unfold padN; omega
  have kW : HintOk Try.prog 11002 (hWh (gN bs 8)) := hWh_ok _ _ (by omega)
  have kB : HintOk Try.prog 12003 (hBg 0 6002 12003 (.v vn) (.v vo) t.pl t.path false bs rest (8 + padN (gN bs 8))) := hBg_ok hvn hvo ⟨(fun h => by cases h), (fun h => by cases h)⟩ ⟨(by decide), (by decide)⟩ (by omega) (by omega) (by omega)
  have hgw : TV.int .i64 (IntKind.i64.wrap ((gN bs 8 : Nat) : Int)) = TV.int .i64 ((gN bs 8 : Nat) : Int) := tv_int (by rw [IntKind.wrap_i64]; omega)
  have hg0 : decide (((gN bs 8 : Nat) : Int) > IntKind.u64.wrap (m : Int)) = false := decide_eq_false (by rw [hwm]; omega)
  obtain ⟨tk1, tk2⟩ := take_more (n := 8 + padN (gN bs 8)) (s := rest) hbl
  by_cases hsz : bs.length + rest.length < 8 + padN (gN bs 8)
  · have hRs : R = some (t, bs ++ rest) := by rw [hR]; exact runM_more hm (cut_part (by omega) (by omega) (by rw [hga]; omega))
    subst hRs
    have e2 : bs ++ rest.take (takeN (8 + padN (gN bs 8)) bs rest) = bs ++ rest := by rw [tk1, List.take_of_length_le (by omega)]
    refine At.finD rfl [(8004, hLn 6002 bs), (2011001, .val (.int .i64 (gN bs 8 : Nat))), (11002, hWh (gN bs 8)), (12003, hBg 0 6002 12003 (.v vn) (.v vo) t.pl t.path false bs rest (8 + padN (gN bs 8)))] ⟨kL, trivial, kW, kB, trivial⟩ [.n, .y] (rows2 := [(0, rdP (slB 12003 (bs ++ rest.take (takeN (8 + padN (gN bs 8)) bs rest)).length) (.v vn) (.v vo) t.pl t.path false), (12003, byR (bs ++ rest.take (takeN (8 + padN (gN bs 8)) bs rest)))]) (x := .tup []) (ob := [qL (hLn 6002 bs), [decide (((gN bs 8 : Nat) : Int) > IntKind.u64.wrap (m : Int)) = false, TV.int .i64 (IntKind.i64.wrap ((gN bs 8 : Nat) : Int)) = TV.int .i64 ((gN bs 8 : Nat) : Int)], qL (hWh (gN bs 8)), qL (hBg 0 6002 12003 (.v vn) (.v vo) t.pl t.path false bs rest (8 + padN (gN bs 8))), [decide (((bs ++ rest.take (takeN (8 + padN (gN bs 8)) bs rest)).length : Int) < ((8 + padN (gN bs 8) : Nat) : Int)) = true]].flatten) (by kernel_rfl) (all_flat ⟨all_qL _, ⟨hg0, hgw, trivial⟩, all_qL _, all_qL _, ⟨decide_eq_true (by rw [e2, hla]; omega), trivial⟩, trivial⟩) fun ρ' w' hf he _ hq hd => ?_
    rw [e2] at hq hd
    have g0 := hq _ (List.mem_cons_self ..)
    have g1 := hq _ (List.mem_cons_of_mem _ (List.mem_singleton.2 rfl))
    have gd := hd _ (List.mem_cons_self ..) _ (List.mem_cons_of_mem _ (List.mem_singleton.2 rfl)) (show (0 : Nat) ≠ 12003 by decide) rfl
    exact fin_go c hI hwl hf (he 0 (by decide)) g0.1 g1.1 (g1.2.2 rfl) gd _
  · obtain ⟨bs2, hbs2⟩ : ∃ bs2, bs2 = bs ++ rest.take (takeN (8 + padN (gN bs 8)) bs rest) := ⟨_, rfl⟩
    have hl2 : bs2.length = 8 + padN (gN bs 8) := by rw [hbs2, tk1, List.length_take]; omega
    obtain ⟨rest2, hrest2⟩ : ∃ rest2, rest2 = rest.drop (takeN (8 + padN (gN bs 8)) bs rest) := ⟨_, rfl⟩
    have hcw := cut_whole (m := m) (r := bs ++ rest) (by omega) (by omega) (by rw [hga]; omega)
    rw [hga, ← tk1, ← tk2, ← hbs2, ← hrest2] at hcw
    have hl3 : rest2.length < bs.length + rest.length := by rw [hrest2, tk2, List.length_drop]; omega
    obtain ⟨tx, ok, hto⟩ : ∃ tx ok, endL bs2 (gN bs 8) = (tx, ok) := ⟨_, _, rfl⟩
    have kE : HintOk Try.prog 14003 (hEn 0 12003 (.v vn) (.v vo) t.pl t.path false bs2 (gN bs 8) tx ok) := hEn_ok hvn hvo ⟨(fun h => by cases h), (fun h => by cases h)⟩ ⟨(by decide), (by decide), (by decide)⟩ hl2 (by omega) hto
    rw [hto] at hcw
    have htl : tx.length ≤ m := by
      unfold endL at hto
      split at hto
      · cases hto
        rw [List.length_take]; omega
      · cases hto; simp
    have h14 : t.pl = 14 → tx.length ≤ 255 := fun h => by
      rw [h, most_14] at hm
      cases hm
      exact htl
    have hrun : ∀ (o : Bool), o = ok → ∀ (hs : At Try.prog W ⟨wl, envK b p1 p2 p3 B0, []⟩ Try.f46.ntmps [] (rp Try.f46 14) (EndX Try.prog Try.f46 (TxQ W0 b D0 KB J Jx R)) (tmY l rest2 tx ok) (rwB 12003 (if ok then 0 else bs2.length) bs2 vn vo t.pl t.path b)), At Try.prog W ⟨wl, envK b p1 p2 p3 B0, []⟩ Try.f46.ntmps [] (rp Try.f46 7) (EndX Try.prog Try.f46 (TxQ W0 b D0 KB J Jx R)) (tmM l rest (m : Int)) (rwB 6002 bs.length bs vn vo t.pl t.path b) := by
      intro o ho hs
      subst hbs2 hrest2
      exact At.run rfl [(8004, hLn 6002 bs), (2011001, .val (.int .i64 (gN bs 8 : Nat))), (11002, hWh (gN bs 8)), (12003, hBg 0 6002 12003 (.v vn) (.v vo) t.pl t.path false bs rest (8 + padN (gN bs 8))), (2014002, .val (.int .i64 (gN bs 8 : Nat))), (14003, hEn 0 12003 (.v vn) (.v vo) t.pl t.path false (bs ++ rest.take (takeN (8 + padN (gN bs 8)) bs rest)) (gN bs 8) tx ok)] ⟨kL, trivial, kW, kB, trivial, kE, trivial⟩ [.n, .n] (tm2 := tmY l (rest.drop (takeN (8 + padN (gN bs 8)) bs rest)) tx ok) (rows2 := rwB 12003 (if ok then 0 else (bs ++ rest.take (takeN (8 + padN (gN bs 8)) bs rest)).length) (bs ++ rest.take (takeN (8 + padN (gN bs 8)) bs rest)) vn vo t.pl t.path b) (ob := [qL (hLn 6002 bs), [decide (((gN bs 8 : Nat) : Int) > IntKind.u64.wrap (m : Int)) = false, TV.int .i64 (IntKind.i64.wrap ((gN bs 8 : Nat) : Int)) = TV.int .i64 ((gN bs 8 : Nat) : Int)], qL (hWh (gN bs 8)), qL (hBg 0 6002 12003 (.v vn) (.v vo) t.pl t.path false bs rest (8 + padN (gN bs 8))), [decide (((bs ++ rest.take (takeN (8 + padN (gN bs 8)) bs rest)).length : Int) < ((8 + padN (gN bs 8) : Nat) : Int)) = false, TV.int .i64 (IntKind.i64.wrap ((gN bs 8 : Nat) : Int)) = TV.int .i64 ((gN bs 8 : Nat) : Int)], qL (hEn 0 12003 (.v vn) (.v vo) t.pl t.path false (bs ++ rest.take (takeN (8 + padN (gN bs 8)) bs rest)) (gN bs 8) tx ok)].flatten) (td := rp Try.f46 14) (by kernel_rfl) (all_flat ⟨all_qL _, ⟨hg0, hgw, trivial⟩, all_qL _, all_qL _, ⟨decide_eq_false (by omega), hgw, trivial⟩, all_qL _, trivial⟩) rfl rfl (by intro h; cases h) hs
    refine hrun ok rfl ?_
    cases ok with
    | false =>
      have hRn : R = none := by rw [hR]; exact runM_form hne hm hcw
      subst hRn
      exact seg14_no c hI hwl _ bs2 rest2 tx false (fun h => by cases h)
    | true =>
      have hRo : R = match takeM t tx with
        | none => none
        | some t' => runM t' rest2 := by rw [hR]; exact runM_ok hm hcw
      cases ht : takeM t tx with
      | none =>
        rw [ht] at hRo
        subst hRo
        exact seg14_no c hI hwl _ bs2 rest2 tx true (fun _ => ⟨h14, ht⟩)
      | some t' =>
        rw [ht] at hRo
        exact seg14_go c hbx hI hwl bs2 rest2 tx t' h14 ht fun x hx1 hx2 hx3 hx4 => hIH x hx2 (by rw [hx1]; exact hx4) (by rw [hx3]; exact hl3) (by rw [hx1, hx3]; exact hRo)
end
end
end Go.Proofs.Ytglipljilcdboaa
/- Of the program: the iterator over texts, from the head of its loop. No condition but what each names. -/
namespace Go.Proofs.Ytglipljilcdboaa
open Go.RowKit Go.Shelf
set_option linter.unusedVariables false
set_option linter.unusedSimpArgs false
section
open E
section
variable {W0 : World} {b p1 p2 p3 l : Nat} {D0 KB : List Nat} {J Jx : World → Prop}
set_option maxRecDepth 100000 in
theorem seg3S (c : YCtx b l KB J Jx) (hbx : BxT W0 b p2 p3 D0 KB) {W : World} {t : TS} {vn vo : Value} {D : List Nat} {B : Blk} (hI : Inv W0 b p2 p3 D0 KB J W t vn vo D [B.1]) (bs : List UInt8) (rest : List UInt8) (hr0 : rest ≠ []) (hst : bs = [] ∨ ∃ m, mostM t.pl = some m ∧ cutT m bs = .more) (hlen : bs.length + rest.length ≤ 100000000000) {R : Option (TS × List UInt8)} (hR : R = runM t (bs ++ rest))
    (hIH : ∀ x : HX, x.bs = [] → Inv W0 b p2 p3 D0 KB J x.W x.t x.vn x.vo x.D [x.B.1] → x.rest.length < bs.length + rest.length → R = runM x.t x.rest → hxAt b p1 p2 p3 l (EndX Try.prog Try.f46 (TxQ W0 b D0 KB J Jx R)) x) :
    At Try.prog W ⟨wlOf (envK b p1 p2 p3 B) (rwB 4 bs.length bs vn vo t.pl t.path b), envK b p1 p2 p3 B, []⟩ Try.f46.ntmps [] (rp Try.f46 2).tail (EndX Try.prog Try.f46 (TxQ W0 b D0 KB J Jx R)) (tmM l rest (mostI t.pl)) (rwB 4 bs.length bs vn vo t.pl t.path b) := by
  obtain ⟨hvn, hvo⟩ := trv_cells hI.hv
  have hwl : ∀ x ∈ wlOf (envK b p1 p2 p3 B) (rwB 4 bs.length bs vn vo t.pl t.path b), x ∈ b :: [B.1] := fun x hx => hx
  have hla : (bs ++ rest).length = bs.length + rest.length := List.length_append
  have hne : bs ++ rest ≠ [] := by simp [hr0]
  cases hm : mostM t.pl with
  | none =>
    have hRn : R = none := by rw [hR]; exact runM_none hne hm
    have hmi : mostI t.pl = -1 := by unfold mostI; rw [hm]
    subst hRn
    exact At.run rfl [] trivial [.y] (tm2 := tmM l rest (mostI t.pl)) (rows2 := (rwB 4 bs.length bs vn vo t.pl t.path b)) (ob := [decide (mostI t.pl < 0) = true]) (td := rp Try.f46 4) (by kernel_rfl) ⟨decide_eq_true (by omega), trivial⟩ rfl rfl (by intro h; cases h) (seg_no4 c hI hwl bs rest (mostI t.pl))
  | some m =>
    have hmi : mostI t.pl = (m : Int) := by unfold mostI; rw [hm]
    rw [hmi]
    have kB : HintOk Try.prog 6002 (hBg 0 4 6002 (.v vn) (.v vo) t.pl t.path false bs rest 8) := hBg_ok hvn hvo ⟨(fun h => by cases h), (fun h => by cases h)⟩ ⟨(by decide), (by decide)⟩ (by omega) (by omega) (by decide)
    have hm0 : decide ((m : Int) < 0) = false := decide_eq_false (by omega)
    by_cases h8 : bs.length + rest.length < 8
    · have hRs : R = some (t, bs ++ rest) := by rw [hR]; exact runM_more hm (cut_short (by rw [hla]; exact h8))
      subst hRs
      have e2 : (bs ++ rest.take (takeN 8 bs rest)) = bs ++ rest := by rw [(take_more (by omega)).1, List.take_of_length_le (by omega)]
      refine At.finD rfl [(6002, hBg 0 4 6002 (.v vn) (.v vo) t.pl t.path false bs rest 8)] ⟨kB, trivial⟩ [.n, .y] (rows2 := [(0, rdP (slB 6002 (bs ++ rest.take (takeN 8 bs rest)).length) (.v vn) (.v vo) t.pl t.path false), (6002, byR (bs ++ rest.take (takeN 8 bs rest)))]) (x := .tup []) (ob := [[decide ((m : Int) < 0) = false], qL (hBg 0 4 6002 (.v vn) (.v vo) t.pl t.path false bs rest 8), [decide (((bs ++ rest.take (takeN 8 bs rest)).length : Int) < 8) = true]].flatten) (by kernel_rfl) (all_flat ⟨⟨hm0, trivial⟩, all_qL _, ⟨decide_eq_true (by rw [e2, hla]; omega), trivial⟩, trivial⟩) fun ρ' w' hf he _ hq hd => ?_
      rw [e2] at hq hd
      have g0 := hq _ (List.mem_cons_self ..)
      have g1 := hq _ (List.mem_cons_of_mem _ (List.mem_singleton.2 rfl))
      have gd := hd _ (List.mem_cons_self ..) _ (List.mem_cons_of_mem _ (List.mem_singleton.2 rfl)) (show (0 : Nat) ≠ 6002 by decide) rfl
      exact fin_go c hI hwl hf (he 0 (by decide)) g0.1 g1.1 (g1.2.2 rfl) gd _
    · obtain ⟨bs1, hbs1⟩ : ∃ bs1, bs1 = (bs ++ rest.take (takeN 8 bs rest)) := ⟨_, rfl⟩
      obtain ⟨rest1, hrest1⟩ : ∃ rest1, rest1 = (rest.drop (takeN 8 bs rest)) := ⟨_, rfl⟩
      have hjoin : bs1 ++ rest1 = bs ++ rest := by rw [hbs1, hrest1]; rw [List.append_assoc, List.take_append_drop]
      have hjl : bs1.length + rest1.length = bs.length + rest.length := by rw [← List.length_append, hjoin, hla]
      have hb8 : 8 ≤ bs1.length := by
        rw [hbs1]
        rw [List.length_append, List.length_take]; unfold takeN; omega
      have hbl : bs1.length ≤ 8 + padN (gN bs1 8) := by
        by_cases hb : bs.length < 8
        · have : bs1.length = 8 := by rw [hbs1, List.length_append, List.length_take]; unfold takeN; omega
          omega
        · have e1 : bs1 = bs := by rw [hbs1, takeN_none (by omega), List.take_zero, List.append_nil]
          rcases hst with h | ⟨m2, h1, h2⟩
          · rw [h] at hb; exact absurd (by decide) hb
          · rcases more_inv h2 with h3 | ⟨_, _, h3⟩
            · omega
            · rw [e1]; omega
      have h7 := seg7 c hbx hI hwl (B0 := B) bs1 rest1 m hm hb8 hbl (by omega) (R := R) (by rw [hR, hjoin]) fun x h1 h2 h3 h4 => hIH x h1 h2 (by omega) h4
      have hb8' : decide ((bs1.length : Int) < 8) = false := decide_eq_false (by omega)
      subst hbs1 hrest1
      exact At.run rfl [(6002, hBg 0 4 6002 (.v vn) (.v vo) t.pl t.path false bs rest 8)] ⟨kB, trivial⟩ [.n, .n] (tm2 := tmM l (rest.drop (takeN 8 bs rest)) (m : Int)) (rows2 := rwB 6002 (bs ++ rest.take (takeN 8 bs rest)).length (bs ++ rest.take (takeN 8 bs rest)) vn vo t.pl t.path b) (ob := [[decide ((m : Int) < 0) = false], qL (hBg 0 4 6002 (.v vn) (.v vo) t.pl t.path false bs rest 8), [decide (((bs ++ rest.take (takeN 8 bs rest)).length : Int) < 8) = false]].flatten) (td := rp Try.f46 7) (by kernel_rfl) (all_flat ⟨⟨hm0, trivial⟩, all_qL _, ⟨hb8', trivial⟩, trivial⟩) rfl rfl (by intro h; cases h) h7
set_option maxRecDepth 100000 in
theorem seg2S (c : YCtx b l KB J Jx) (hbx : BxT W0 b p2 p3 D0 KB) {W : World} {t : TS} {vn vo : Value} {D : List Nat} {B : Blk} (hI : Inv W0 b p2 p3 D0 KB J W t vn vo D [B.1]) (bs : List UInt8) (rest : List UInt8) (hr0 : rest ≠ []) (hst : bs = [] ∨ ∃ m, mostM t.pl = some m ∧ cutT m bs = .more) (hlen : bs.length + rest.length ≤ 100000000000) {R : Option (TS × List UInt8)} (hR : R = runM t (bs ++ rest))
    (hIH : ∀ x : HX, x.bs = [] → Inv W0 b p2 p3 D0 KB J x.W x.t x.vn x.vo x.D [x.B.1] → x.rest.length < bs.length + rest.length → R = runM x.t x.rest → hxAt b p1 p2 p3 l (EndX Try.prog Try.f46 (TxQ W0 b D0 KB J Jx R)) x) :
    At Try.prog W ⟨wlOf (envK b p1 p2 p3 B) (rwB 4 bs.length bs vn vo t.pl t.path b), envK b p1 p2 p3 B, []⟩ Try.f46.ntmps [] (rp Try.f46 2) (EndX Try.prog Try.f46 (TxQ W0 b D0 KB J Jx R)) (tmH l rest) (rwB 4 bs.length bs vn vo t.pl t.path b) := by
  obtain ⟨hvn, hvo⟩ := trv_cells hI.hv
  have hp17 : t.pl ≤ 17 := hI.hg.pl
  have hwl : ∀ x ∈ wlOf (envK b p1 p2 p3 B) (rwB 4 bs.length bs vn vo t.pl t.path b), x ∈ b :: [B.1] := fun x hx => hx
  refine At.opX (α := World) 1 15 [] trivial (fun x => x) (fun _ => ⟨wlOf (envK b p1 p2 p3 B) (rwB 4 bs.length bs vn vo t.pl t.path b), envK b p1 p2 p3 B, []⟩) (fun _ => [(0, .v (yv l)), (2, ptrTo 2), (3, ptrTo 3), (5, .v (stv rest)), (15, .int .i64 (mostI t.pl))]) (fun _ => tmM l rest (mostI t.pl)) (fun _ => (rwB 4 bs.length bs vn vo t.pl t.path b)) (fun _ => (rwB 4 bs.length bs vn vo t.pl t.path b)) (fun x => Inv W0 b p2 p3 D0 KB J x t vn vo D [B.1]) rfl (tm1 := [(0, .v (yv l)), (2, ptrTo 2), (3, ptrTo 3), (5, .v (stv rest)), (14, .v (mfv b))]) (rows1 := (rwB 4 bs.length bs vn vo t.pl t.path b)) (o1 := []) (o2 := fun _ => []) (by kernel_rfl) trivial rfl ?_ (fun x _ => by kernel_rfl) (fun x _ => trivial) (fun x => rfl) (fun x hx => ?_)
  · intro a w ρ K QQ hden hk
    have e0 : ρ 0 = ⟨b, 0, 0⟩ := hden.e0 0 (.inl (by decide))
    have e2 : ρ 2 = ⟨p2, 0, 0⟩ := hden.e0 2 (.inl (by decide))
    have e3 : ρ 3 = ⟨p3, 0, 0⟩ := hden.e0 3 (.inl (by decide))
    have r0 := (hden.rw 0 _ rfl).1
    have hI2 := hI.still c hden.fr hwl
    refine xCallF_ok (fi := #[.pointer (some ⟨b, 1, none⟩)]) (ca := #[]) (vs := []) (d := 15) (f := 33) (by kernel_rfl) hden ent33 ?_
    rw [show #[Value.pointer (some ⟨b, 1, none⟩)] ++ (List.map (TV.val ρ) []).toArray ++ #[] = #[(TV.s (.lf (.ptr 0 1 0 0 0))).val ρ] by rw [show (TV.s (.lf (.ptr 0 1 0 0 0))).val ρ = .pointer (some ⟨b, 1, none⟩) from ptT_val e0]; rfl]
    refine (most_any t.pl hp17 ((slB 4 bs.length).val ρ) vn vo (by rfl) hvn hvo t.path false ρ w (rdP_mv r0 rfl rfl rfl rfl)).mono ?_
    rintro e w' ⟨rfl, hbe⟩
    have hfr : Fr w [] w' := Fr.of_below hbe _
    refine ⟨.int .i64 (mostI t.pl), rfl, hk w' (.int .i64 (mostI t.pl)) w' (envK b p1 p2 p3 B) (hI2.still c hfr (fun x hx => by cases hx)) ?_⟩
    have hpok : ∀ p ∈ (rwB 4 bs.length bs vn vo t.pl t.path b), pok p.2.ps ∧ RowAt ρ p.1 p.2 w := fun p hp => by
      simp only [List.mem_cons, List.not_mem_nil, or_false] at hp
      rcases hp with rfl | rfl | rfl | rfl
      · exact ⟨(hden.rw 0 _ rfl).2.1, (hden.rw 0 _ rfl).1⟩
      · exact ⟨(hden.rw 2 _ rfl).2.1, (hden.rw 2 _ rfl).1⟩
      · exact ⟨(hden.rw 3 _ rfl).2.1, (hden.rw 3 _ rfl).1⟩
      · exact ⟨(hden.rw 4 _ rfl).2.1, (hden.rw 4 _ rfl).1⟩
    have heq : ∀ r, r < 1000 → ρ r = envK b p1 p2 p3 B r := fun r hr => hden.e0 r (.inl hr)
    refine den_again (d := 15) hden (by decide) (fun p hp => ?_) rfl (fun p hp => ⟨?_, (hpok p hp).1⟩) (fun p hp q hq hpq hw => ?_) rfl rfl
    · simp only [List.mem_cons, List.not_mem_nil, or_false] at hp
      rcases hp with rfl | rfl | rfl | rfl | rfl
      · exact .inr ⟨(show (0 : Nat) ≠ 15 by decide), rfl, fun r hr => by cases hr⟩
      · exact .inr ⟨(show (2 : Nat) ≠ 15 by decide), rfl, fun r hr => by obtain rfl := List.mem_singleton.1 hr; exact e2.symm⟩
      · exact .inr ⟨(show (3 : Nat) ≠ 15 by decide), rfl, fun r hr => by obtain rfl := List.mem_singleton.1 hr; exact e3.symm⟩
      · exact .inr ⟨(show (5 : Nat) ≠ 15 by decide), rfl, fun r hr => by cases hr⟩
      · exact .inl ⟨rfl, rfl, rfl⟩
    · have h1 := rowAt_fr (hpok p hp).2 hfr (by simp)
      have hp1 : p.1 < 1000 ∧ ∀ q ∈ pids p.2.ps, q < 1000 := by
        simp only [List.mem_cons, List.not_mem_nil, or_false] at hp
        rcases hp with rfl | rfl | rfl | rfl
        · exact ⟨(show (0 : Nat) < 1000 by decide), fun q hq => by obtain rfl := List.mem_singleton.1 hq; decide⟩
        · exact ⟨(show (2 : Nat) < 1000 by decide), fun q hq => by cases hq⟩
        · exact ⟨(show (3 : Nat) < 1000 by decide), fun q hq => by obtain rfl := List.mem_singleton.1 hq; decide⟩
        · exact ⟨(show (4 : Nat) < 1000 by decide), fun q hq => by cases hq⟩
      unfold RowAt at h1 ⊢
      rw [← heq p.1 hp1.1, lst_congr (σ := ρ) (fun q hq => (heq q (hp1.2 q hq)).symm)]
      exact h1
    · rw [← heq p.1 (by simp only [List.mem_cons, List.not_mem_nil, or_false] at hp; rcases hp with rfl | rfl | rfl | rfl <;> simp only [bx2, bx3] <;> decide), ← heq q.1 (by simp only [List.mem_cons, List.not_mem_nil, or_false] at hq; rcases hq with rfl | rfl | rfl | rfl <;> simp only [bx2, bx3] <;> decide)]
      refine hden.ds p.1 q.1 p.2 q.2 ?_ ?_ hpq hw
      · simp only [List.mem_cons, List.not_mem_nil, or_false] at hp; rcases hp with rfl | rfl | rfl | rfl <;> rfl
      · simp only [List.mem_cons, List.not_mem_nil, or_false] at hq; rcases hq with rfl | rfl | rfl | rfl <;> rfl
  · exact seg3S c hbx hx bs rest hr0 hst hlen hR hIH
set_option maxRecDepth 100000 in
theorem seg3N (c : YCtx b l KB J Jx) (hbx : BxT W0 b p2 p3 D0 KB) {W : World} {t : TS} {vn vo : Value} {D : List Nat} {B : Blk} (hI : Inv W0 b p2 p3 D0 KB J W t vn vo D []) (rest : List UInt8) (hr0 : rest ≠ []) (hlen : rest.length ≤ 100000000000) {R : Option (TS × List UInt8)} (hR : R = runM t (rest))
    (hIH : ∀ x : HX, x.bs = [] → Inv W0 b p2 p3 D0 KB J x.W x.t x.vn x.vo x.D [x.B.1] → x.rest.length < rest.length → R = runM x.t x.rest → hxAt b p1 p2 p3 l (EndX Try.prog Try.f46 (TxQ W0 b D0 KB J Jx R)) x) :
    At Try.prog W ⟨wlOf (envK b p1 p2 p3 B) (rw0 vn vo t.pl t.path b), envK b p1 p2 p3 B, []⟩ Try.f46.ntmps [] (rp Try.f46 2).tail (EndX Try.prog Try.f46 (TxQ W0 b D0 KB J Jx R)) (tmM l rest (mostI t.pl)) (rw0 vn vo t.pl t.path b) := by
  obtain ⟨hvn, hvo⟩ := trv_cells hI.hv
  have hwl : ∀ x ∈ wlOf (envK b p1 p2 p3 B) (rw0 vn vo t.pl t.path b), x ∈ b :: [] := fun x hx => hx
  have hla : (rest).length = rest.length := rfl
  have hne : rest ≠ [] := hr0
  cases hm : mostM t.pl with
  | none =>
    have hRn : R = none := by rw [hR]; exact runM_none hne hm
    have hmi : mostI t.pl = -1 := by unfold mostI; rw [hm]
    subst hRn
    exact At.run rfl [] trivial [.y] (tm2 := tmM l rest (mostI t.pl)) (rows2 := (rw0 vn vo t.pl t.path b)) (ob := [decide (mostI t.pl < 0) = true]) (td := rp Try.f46 4) (by kernel_rfl) ⟨decide_eq_true (by omega), trivial⟩ rfl rfl (by intro h; cases h) (seg_no4n c hI hwl rest (mostI t.pl))
  | some m =>
    have hmi : mostI t.pl = (m : Int) := by unfold mostI; rw [hm]
    rw [hmi]
    have kB : HintOk Try.prog 6002 (hBg0 0 6002 (.v vn) (.v vo) t.pl t.path false rest 8) := hBg0_ok hvn hvo ⟨(fun h => by cases h), (fun h => by cases h)⟩ (by decide) (by omega) (List.length_pos_iff.2 hr0) (by decide) (by decide)
    have hm0 : decide ((m : Int) < 0) = false := decide_eq_false (by omega)
    by_cases h8 : rest.length < 8
    · have hRs : R = some (t, rest) := by rw [hR]; exact runM_more hm (cut_short (by rw [hla]; exact h8))
      subst hRs
      have e2 : (rest.take (takeN 8 [] rest)) = rest := by rw [List.take_of_length_le (by unfold takeN; simp; omega)]
      refine At.finD rfl [(6002, hBg0 0 6002 (.v vn) (.v vo) t.pl t.path false rest 8)] ⟨kB, trivial⟩ [.n, .y] (rows2 := [(0, rdP (slB 6002 (rest.take (takeN 8 [] rest)).length) (.v vn) (.v vo) t.pl t.path false), (6002, byR (rest.take (takeN 8 [] rest)))]) (x := .tup []) (ob := [[decide ((m : Int) < 0) = false], qL (hBg0 0 6002 (.v vn) (.v vo) t.pl t.path false rest 8), [decide (((rest.take (takeN 8 [] rest)).length : Int) < 8) = true]].flatten) (by kernel_rfl) (all_flat ⟨⟨hm0, trivial⟩, all_qL _, ⟨decide_eq_true (by rw [e2, hla]; omega), trivial⟩, trivial⟩) fun ρ' w' hf he _ hq hd => ?_
      rw [e2] at hq hd
      have g0 := hq _ (List.mem_cons_self ..)
      have g1 := hq _ (List.mem_cons_of_mem _ (List.mem_singleton.2 rfl))
      have gd := hd _ (List.mem_cons_self ..) _ (List.mem_cons_of_mem _ (List.mem_singleton.2 rfl)) (show (0 : Nat) ≠ 6002 by decide) rfl
      exact fin_go c hI hwl hf (he 0 (by decide)) g0.1 g1.1 (g1.2.2 rfl) gd _
    · obtain ⟨bs1, hbs1⟩ : ∃ bs1, bs1 = (rest.take (takeN 8 [] rest)) := ⟨_, rfl⟩
      obtain ⟨rest1, hrest1⟩ : ∃ rest1, rest1 = (rest.drop (takeN 8 [] rest)) := ⟨_, rfl⟩
      have hjoin : bs1 ++ rest1 = rest := by rw [hbs1, hrest1]; rw [List.take_append_drop]
      have hjl : bs1.length + rest1.length = rest.length := by rw [← List.length_append, hjoin, hla]
      have hb8 : 8 ≤ bs1.length := by
        rw [hbs1]
        rw [List.length_take]; unfold takeN; simp; omega
      have hbl : bs1.length ≤ 8 + padN (gN bs1 8) := by
        have : bs1.length = 8 := by rw [hbs1, List.length_take]; unfold takeN; simp; omega
        omega
      have h7 := seg7 c hbx hI hwl (B0 := B) bs1 rest1 m hm hb8 hbl (by omega) (R := R) (by rw [hR, hjoin]) fun x h1 h2 h3 h4 => hIH x h1 h2 (by omega) h4
      have hb8' : decide ((bs1.length : Int) < 8) = false := decide_eq_false (by omega)
      subst hbs1 hrest1
      exact At.run rfl [(6002, hBg0 0 6002 (.v vn) (.v vo) t.pl t.path false rest 8)] ⟨kB, trivial⟩ [.n, .n] (tm2 := tmM l (rest.drop (takeN 8 [] rest)) (m : Int)) (rows2 := rwB 6002 (rest.take (takeN 8 [] rest)).length (rest.take (takeN 8 [] rest)) vn vo t.pl t.path b) (ob := [[decide ((m : Int) < 0) = false], qL (hBg0 0 6002 (.v vn) (.v vo) t.pl t.path false rest 8), [decide (((rest.take (takeN 8 [] rest)).length : Int) < 8) = false]].flatten) (td := rp Try.f46 7) (by kernel_rfl) (all_flat ⟨⟨hm0, trivial⟩, all_qL _, ⟨hb8', trivial⟩, trivial⟩) rfl rfl (by intro h; cases h) h7
set_option maxRecDepth 100000 in
theorem seg2N (c : YCtx b l KB J Jx) (hbx : BxT W0 b p2 p3 D0 KB) {W : World} {t : TS} {vn vo : Value} {D : List Nat} {B : Blk} (hI : Inv W0 b p2 p3 D0 KB J W t vn vo D []) (rest : List UInt8) (hr0 : rest ≠ []) (hlen : rest.length ≤ 100000000000) {R : Option (TS × List UInt8)} (hR : R = runM t (rest))
    (hIH : ∀ x : HX, x.bs = [] → Inv W0 b p2 p3 D0 KB J x.W x.t x.vn x.vo x.D [x.B.1] → x.rest.length < rest.length → R = runM x.t x.rest → hxAt b p1 p2 p3 l (EndX Try.prog Try.f46 (TxQ W0 b D0 KB J Jx R)) x) :
    At Try.prog W ⟨wlOf (envK b p1 p2 p3 B) (rw0 vn vo t.pl t.path b), envK b p1 p2 p3 B, []⟩ Try.f46.ntmps [] (rp Try.f46 2) (EndX Try.prog Try.f46 (TxQ W0 b D0 KB J Jx R)) (tmH l rest) (rw0 vn vo t.pl t.path b) := by
  obtain ⟨hvn, hvo⟩ := trv_cells hI.hv
  have hp17 : t.pl ≤ 17 := hI.hg.pl
  have hwl : ∀ x ∈ wlOf (envK b p1 p2 p3 B) (rw0 vn vo t.pl t.path b), x ∈ b :: [] := fun x hx => hx
  refine At.opX (α := World) 1 15 [] trivial (fun x => x) (fun _ => ⟨wlOf (envK b p1 p2 p3 B) (rw0 vn vo t.pl t.path b), envK b p1 p2 p3 B, []⟩) (fun _ => [(0, .v (yv l)), (2, ptrTo 2), (3, ptrTo 3), (5, .v (stv rest)), (15, .int .i64 (mostI t.pl))]) (fun _ => tmM l rest (mostI t.pl)) (fun _ => (rw0 vn vo t.pl t.path b)) (fun _ => (rw0 vn vo t.pl t.path b)) (fun x => Inv W0 b p2 p3 D0 KB J x t vn vo D []) rfl (tm1 := [(0, .v (yv l)), (2, ptrTo 2), (3, ptrTo 3), (5, .v (stv rest)), (14, .v (mfv b))]) (rows1 := (rw0 vn vo t.pl t.path b)) (o1 := []) (o2 := fun _ => []) (by kernel_rfl) trivial rfl ?_ (fun x _ => by kernel_rfl) (fun x _ => trivial) (fun x => rfl) (fun x hx => ?_)
  · intro a w ρ K QQ hden hk
    have e0 : ρ 0 = ⟨b, 0, 0⟩ := hden.e0 0 (.inl (by decide))
    have e2 : ρ 2 = ⟨p2, 0, 0⟩ := hden.e0 2 (.inl (by decide))
    have e3 : ρ 3 = ⟨p3, 0, 0⟩ := hden.e0 3 (.inl (by decide))
    have r0 := (hden.rw 0 _ rfl).1
    have hI2 := hI.still c hden.fr hwl
    refine xCallF_ok (fi := #[.pointer (some ⟨b, 1, none⟩)]) (ca := #[]) (vs := []) (d := 15) (f := 33) (by kernel_rfl) hden ent33 ?_
    rw [show #[Value.pointer (some ⟨b, 1, none⟩)] ++ (List.map (TV.val ρ) []).toArray ++ #[] = #[(TV.s (.lf (.ptr 0 1 0 0 0))).val ρ] by rw [show (TV.s (.lf (.ptr 0 1 0 0 0))).val ρ = .pointer (some ⟨b, 1, none⟩) from ptT_val e0]; rfl]
    refine (most_any t.pl hp17 (.slice none 0 0) vn vo (by rfl) hvn hvo t.path false ρ w (rdP_mv r0 rfl rfl rfl rfl)).mono ?_
    rintro e w' ⟨rfl, hbe⟩
    have hfr : Fr w [] w' := Fr.of_below hbe _
    refine ⟨.int .i64 (mostI t.pl), rfl, hk w' (.int .i64 (mostI t.pl)) w' (envK b p1 p2 p3 B) (hI2.still c hfr (fun x hx => by cases hx)) ?_⟩
    have hpok : ∀ p ∈ (rw0 vn vo t.pl t.path b), pok p.2.ps ∧ RowAt ρ p.1 p.2 w := fun p hp => by
      simp only [List.mem_cons, List.not_mem_nil, or_false] at hp
      rcases hp with rfl | rfl | rfl
      · exact ⟨(hden.rw 0 _ rfl).2.1, (hden.rw 0 _ rfl).1⟩
      · exact ⟨(hden.rw 2 _ rfl).2.1, (hden.rw 2 _ rfl).1⟩
      · exact ⟨(hden.rw 3 _ rfl).2.1, (hden.rw 3 _ rfl).1⟩

    have heq : ∀ r, r < 1000 → ρ r = envK b p1 p2 p3 B r := fun r hr => hden.e0 r (.inl hr)
    refine den_again (d := 15) hden (by decide) (fun p hp => ?_) rfl (fun p hp => ⟨?_, (hpok p hp).1⟩) (fun p hp q hq hpq hw => ?_) rfl rfl
    · simp only [List.mem_cons, List.not_mem_nil, or_false] at hp
      rcases hp with rfl | rfl | rfl | rfl | rfl
      · exact .inr ⟨(show (0 : Nat) ≠ 15 by decide), rfl, fun r hr => by cases hr⟩
      · exact .inr ⟨(show (2 : Nat) ≠ 15 by decide), rfl, fun r hr => by obtain rfl := List.mem_singleton.1 hr; exact e2.symm⟩
      · exact .inr ⟨(show (3 : Nat) ≠ 15 by decide), rfl, fun r hr => by obtain rfl := List.mem_singleton.1 hr; exact e3.symm⟩
      · exact .inr ⟨(show (5 : Nat) ≠ 15 by decide), rfl, fun r hr => by cases hr⟩
      · exact .inl ⟨rfl, rfl, rfl⟩
    · have h1 := rowAt_fr (hpok p hp).2 hfr (by simp)
      have hp1 : p.1 < 1000 ∧ ∀ q ∈ pids p.2.ps, q < 1000 := by
        simp only [List.mem_cons, List.not_mem_nil, or_false] at hp
        rcases hp with rfl | rfl | rfl
        · exact ⟨(show (0 : Nat) < 1000 by decide), fun q hq => by cases hq⟩
        · exact ⟨(show (2 : Nat) < 1000 by decide), fun q hq => by cases hq⟩
        · exact ⟨(show (3 : Nat) < 1000 by decide), fun q hq => by obtain rfl := List.mem_singleton.1 hq; decide⟩

      unfold RowAt at h1 ⊢
      rw [← heq p.1 hp1.1, lst_congr (σ := ρ) (fun q hq => (heq q (hp1.2 q hq)).symm)]
      exact h1
    · rw [← heq p.1 (by simp only [List.mem_cons, List.not_mem_nil, or_false] at hp; rcases hp with rfl | rfl | rfl <;> simp only [bx2, bx3] <;> decide), ← heq q.1 (by simp only [List.mem_cons, List.not_mem_nil, or_false] at hq; rcases hq with rfl | rfl | rfl <;> simp only [bx2, bx3] <;> decide)]
      refine hden.ds p.1 q.1 p.2 q.2 ?_ ?_ hpq hw
      · simp only [List.mem_cons, List.not_mem_nil, or_false] at hp; rcases hp with rfl | rfl | rfl <;> rfl
      · simp only [List.mem_cons, List.not_mem_nil, or_false] at hq; rcases hq with rfl | rfl | rfl <;> rfl
  · exact seg3N c hbx hx rest hr0 hlen hR hIH
end
end
end Go.Proofs.Ytglipljilcdboaa
/- Of the program: the iterator over texts, whole. Its conditions: what a tree keeps, what is begun, what a round does. -/
namespace Go.Proofs.Ytglipljilcdboaa
open Go.RowKit Go.Shelf
set_option linter.unusedVariables false
set_option linter.unusedSimpArgs false
section
open E
/-- Bytes that are begun: no text can be cut from them yet. -/
def Stuck (t : TS) (bs : List UInt8) : Prop := bs = [] ∨ ∃ m, mostM t.pl = some m ∧ cutT m bs = .more
theorem stuck_run {t : TS} {bs : List UInt8} (h : Stuck t bs) : runM t bs = some (t, bs) := by
  rcases h with rfl | ⟨m, h1, h2⟩
  · exact runM_nil t
  · exact runM_more h1 h2
section
variable {W0 : World} {b p1 p2 p3 l : Nat} {D0 KB : List Nat} {J Jx : World → Prop}
set_option maxRecDepth 100000 in
theorem texts_loop (c : YCtx b l KB J Jx) (hbx : BxT W0 b p2 p3 D0 KB) (R : Option (TS × List UInt8)) : ∀ x : HX, (Inv W0 b p2 p3 D0 KB J x.W x.t x.vn x.vo x.D [x.B.1] ∧ Stuck x.t x.bs ∧ x.bs.length + x.rest.length ≤ 100000000000 ∧ R = runM x.t (x.bs ++ x.rest)) → hxAt b p1 p2 p3 l (EndX Try.prog Try.f46 (TxQ W0 b D0 KB J Jx R)) x := by
  refine At.loopW (fun x : HX => x.W) (fun x => ⟨wlOf (envK b p1 p2 p3 x.B) (hxRows b x), envK b p1 p2 p3 x.B, []⟩) (fun x => tmH l x.rest) (fun x => hxRows b x) (fun x => Inv W0 b p2 p3 D0 KB J x.W x.t x.vn x.vo x.D [x.B.1] ∧ Stuck x.t x.bs ∧ x.bs.length + x.rest.length ≤ 100000000000 ∧ R = runM x.t (x.bs ++ x.rest)) (fun x => x.bs.length + x.rest.length) ?_
  rintro ⟨W, t, bs, rest, vn, vo, D, B⟩ ⟨hI, hst, hlen, hR⟩ ih
  simp only at hI hst hlen hR ih ⊢
  by_cases hr : rest = []
  · subst hr
    rw [List.append_nil, stuck_run hst] at hR
    subst hR
    refine At.finD rfl [] trivial [.n] (rows2 := [(0, rdP (slB 4 bs.length) (.v vn) (.v vo) t.pl t.path false), (4, byR bs)]) (x := .tup []) (ob := [(!(([] : List UInt8) == [])) = false]) (by kernel_rfl) ⟨rfl, trivial⟩ fun ρ' w' hf he _ hq hd => ?_
    have g0 := hq _ (List.mem_cons_self ..)
    have g1 := hq _ (List.mem_cons_of_mem _ (List.mem_singleton.2 rfl))
    have gd := hd _ (List.mem_cons_self ..) _ (List.mem_cons_of_mem _ (List.mem_singleton.2 rfl)) (show (0 : Nat) ≠ 4 by decide) rfl
    exact fin_go c hI (fun x hx => hx) hf (he 0 (by decide)) g0.1 g1.1 (g1.2.2 rfl) gd _
  · have h2 := seg2S (p1 := p1) (l := l) c hbx (B := B) hI bs rest hr hst hlen hR fun x h1 h2 h3 h4 => ih x ⟨h2, .inl h1, by rw [h1]; simp; omega, by rw [h1]; exact h4⟩ (by rw [h1]; simp; omega)
    exact At.run rfl [] trivial [.y] (tm2 := tmH l rest) (rows2 := rwB 4 bs.length bs vn vo t.pl t.path b) (ob := [(!(rest == [])) = true]) (td := rp Try.f46 2) (by kernel_rfl) ⟨by simpa using hr, trivial⟩ rfl rfl (by intro h; cases h) h2
set_option maxRecDepth 100000 in
theorem texts_any (c : YCtx b l KB J Jx) (t : TS) (bs s : List UInt8) (D : List Nat) (hg : Good t) (hst : Stuck t bs) (hlen : bs.length + s.length ≤ 100000000000) (hrd : RdAt W0 b t bs D0) (hJ : J W0) (hk : ∀ y ∈ b :: D0, y ∉ KB) (hbx : BxT W0 b p2 p3 D0 KB) (h1 : RowAt (fun _ => ⟨p1, 0, 0⟩) 0 ⟨[.one (.v (stv s))], false, none⟩ W0) (hp : p1 ∉ b :: D0) :
    Calls Try.prog 46 #[yv l, .pointer (some ⟨p1, 0, none⟩), .pointer (some ⟨p2, 0, none⟩), .pointer (some ⟨p3, 0, none⟩)] W0 (TxQ W0 b D0 KB J Jx (runM t (bs ++ s))) := by
  obtain ⟨vb, E0, D1, rfl, hby, ⟨vn, vo, hr0, hv, hn1⟩, hn⟩ := hrd
  have hI : Inv W0 b p2 p3 (E0 ++ D1) KB J W0 t vn vo D1 E0 := ⟨hv, hn, hJ, Fr.refl _ _, fun y hy => .inl hy, hk, hby.lt, hr0.1, hg⟩
  obtain ⟨hvn, hvo⟩ := trv_cells hv
  have hpb : b ≠ p1 := fun e => hp (by rw [e]; simp)
  have x2 : b ≠ p2 := fun e => hbx.n2 (by rw [e]; simp)
  have x3 : b ≠ p3 := fun e => hbx.n3 (by rw [e]; simp)
  rcases hby with ⟨rfl, rfl, rfl⟩ | ⟨B, rfl, hb4, rfl⟩
  · have hargs : #[yv l, .pointer (some ⟨p1, 0, none⟩), .pointer (some ⟨p2, 0, none⟩), .pointer (some ⟨p3, 0, none⟩)] = (List.map (TV.val (envK b p1 p2 p3 ⟨b, 0, 0⟩)) [.v (yv l), ptrTo 1, ptrTo 2, ptrTo 3]).toArray := rfl
    refine At.calls (args := [.v (yv l), ptrTo 1, ptrTo 2, ptrTo 3]) (rows := [(0, rdP (.v (.slice none 0 0)) (.v vn) (.v vo) t.pl t.path false), (1, ⟨[.one (.v (stv s))], false, none⟩), bx2 b, bx3]) (gl := []) (wr := wlOf (envK b p1 p2 p3 ⟨b, 0, 0⟩) (rw0 vn vo t.pl t.path b)) (ρ := envK b p1 p2 p3 ⟨b, 0, 0⟩) Try.func46 rfl rfl (init_rw ⟨rfl, trivial, trivial, trivial, trivial⟩ rfl rfl rfl (fun p hp => ?_) (fun p hp hw => ?_) (fun p hp q hq hpq hw => ?_)) hargs ?_
    · simp only [List.mem_cons, List.not_mem_nil, or_false] at hp
      rcases hp with rfl | rfl | rfl | rfl
      · exact ⟨rdP_mv hr0 rfl rfl rfl rfl, rdP_ok _ _ _ rfl hvn hvo⟩
      · exact ⟨h1, fun p hp => by obtain rfl := List.mem_singleton.1 hp; rfl⟩
      · exact ⟨hbx.r2, fun p hp => by obtain rfl := List.mem_singleton.1 hp; rfl⟩
      · exact ⟨hbx.r3, fun p hp => by obtain rfl := List.mem_singleton.1 hp; trivial⟩
    · simp only [List.mem_cons, List.not_mem_nil, or_false] at hp
      rcases hp with rfl | rfl | rfl | rfl
      · exact List.mem_singleton.2 rfl
      all_goals cases hw
    · simp only [List.mem_cons, List.not_mem_nil, or_false] at hp hq
      rcases hp with rfl | rfl | rfl | rfl
      · rcases hq with rfl | rfl | rfl | rfl
        · exact absurd rfl hpq
        · exact hpb
        · exact x2
        · exact x3
      all_goals cases hw
    by_cases hr : s = []
    · rw [show runM t ([] ++ s) = some (t, []) by rw [hr]; exact runM_nil t]
      refine At.finR rfl [] trivial [.u, .n] (rows2 := [(0, rdP (.v (.slice none 0 0)) (.v vn) (.v vo) t.pl t.path false)]) (x := .tup []) (ob := [(!(s == [])) = false]) (by kernel_rfl) ⟨by rw [hr]; rfl, trivial⟩ fun ρ' w' hf he _ hq => ?_
      have g0 := hq _ (List.mem_singleton.2 rfl)
      exact (hI.still c hf (fun x hx => hx)).fin c (.inl ⟨rfl, rfl, rfl⟩) (rdP_mv g0.1 (he 0 (by decide)).symm rfl rfl rfl) _
    · refine At.run rfl [] trivial [.u, .y] (tm2 := tmH l s) (rows2 := rw0 vn vo t.pl t.path b) (ob := [(!(s == [])) = true]) (td := rp Try.f46 2) (by kernel_rfl) ⟨by simpa using hr, trivial⟩ rfl rfl (by intro h; cases h) ?_
      exact seg2N (p1 := p1) (l := l) c hbx (B := ⟨b, 0, 0⟩) hI s hr (by simpa using hlen) rfl fun x h1 h2 h3 h4 => texts_loop c hbx _ x ⟨h2, .inl h1, by rw [h1]; simp at hlen ⊢; omega, by rw [h1]; exact h4⟩
  · have hn' := List.nodup_cons.1 hn
    have hbB : b ≠ B.1 := fun e => hn'.1 (by rw [e]; simp)
    have hB1 : B.1 ≠ p1 := fun e => hp (by rw [← e]; simp)
    have y2 : B.1 ≠ p2 := fun e => hbx.n2 (by rw [← e]; simp)
    have y3 : B.1 ≠ p3 := fun e => hbx.n3 (by rw [← e]; simp)
    have hargs : #[yv l, .pointer (some ⟨p1, 0, none⟩), .pointer (some ⟨p2, 0, none⟩), .pointer (some ⟨p3, 0, none⟩)] = (List.map (TV.val (envK b p1 p2 p3 B)) [.v (yv l), ptrTo 1, ptrTo 2, ptrTo 3]).toArray := rfl
    refine At.calls (args := [.v (yv l), ptrTo 1, ptrTo 2, ptrTo 3]) (rows := [(0, rdP (slB 4 bs.length) (.v vn) (.v vo) t.pl t.path false), (1, ⟨[.one (.v (stv s))], false, none⟩), bx2 b, bx3, (4, byR bs)]) (gl := []) (wr := wlOf (envK b p1 p2 p3 B) (rwB 4 bs.length bs vn vo t.pl t.path b)) (ρ := envK b p1 p2 p3 B) Try.func46 rfl rfl (init_rw ⟨rfl, trivial, trivial, trivial, trivial⟩ rfl rfl rfl (fun p hp => ?_) (fun p hp hw => ?_) (fun p hp q hq hpq hw => ?_)) hargs ?_
    · simp only [List.mem_cons, List.not_mem_nil, or_false] at hp
      rcases hp with rfl | rfl | rfl | rfl | rfl
      · exact ⟨rdP_mv hr0 rfl (slB_val (show envK b p1 p2 p3 B 4 = B from rfl) (byR_z hb4)) rfl rfl, rdP_ok _ _ _ trivial hvn hvo⟩
      · exact ⟨h1, fun p hp => by obtain rfl := List.mem_singleton.1 hp; rfl⟩
      · exact ⟨hbx.r2, fun p hp => by obtain rfl := List.mem_singleton.1 hp; rfl⟩
      · exact ⟨hbx.r3, fun p hp => by obtain rfl := List.mem_singleton.1 hp; trivial⟩
      · exact ⟨byR_mv hb4 rfl, by_ok _⟩
    · simp only [List.mem_cons, List.not_mem_nil, or_false] at hp
      rcases hp with rfl | rfl | rfl | rfl | rfl
      · exact List.mem_cons_self ..
      · cases hw
      · cases hw
      · cases hw
      · exact List.mem_cons_of_mem _ (List.mem_singleton.2 rfl)
    · simp only [List.mem_cons, List.not_mem_nil, or_false] at hp hq
      rcases hp with rfl | rfl | rfl | rfl | rfl
      · rcases hq with rfl | rfl | rfl | rfl | rfl
        · exact absurd rfl hpq
        · exact hpb
        · exact x2
        · exact x3
        · exact hbB
      · cases hw
      · cases hw
      · cases hw
      · rcases hq with rfl | rfl | rfl | rfl | rfl
        · exact Ne.symm hbB
        · exact hB1
        · exact y2
        · exact y3
        · exact absurd rfl hpq
    refine At.run rfl [] trivial [] (tm2 := tmH l s) (rows2 := rwB 4 bs.length bs vn vo t.pl t.path b) (ob := []) (td := lp Try.f46 0) (by kernel_rfl) trivial rfl rfl (by intro h; cases h) ?_
    exact texts_loop c hbx _ ⟨W0, t, bs, s, vn, vo, D1, B⟩ ⟨hI, hst, hlen, rfl⟩
end
end
end Go.Proofs.Ytglipljilcdboaa
