/- The document's Wide: the 80 numbers that a block is made into. -/
import Derived.Test.YtnajglmabgofeaaSha7
import Derived.Test.YtnajglmabgofeaaHex
import Derived.Deep.RegionHeld3
import Derived.Deep.DeepCutAuto
import Derived.Deep.CutBlock
import Derived.StillTailTactics
namespace Go.Proofs.Ytnajglmabgofeaa
open Go.RowKit
set_option linter.unusedVariables false
theorem Below_own_drew {w : World} {B : Nat} {e : TypeId} {size : Nat} {v : Value} {n : Nat} {xs : List Value} (h : w.ownsRow B e size v n xs) : w.drew.ownsRow B e size v n xs := h
noncomputable def shaB5 : Code := (loopsOf shaB3).getD 1 .skip
def wl (l : List UInt8) (k : Nat) : List Nat := (List.range k).map (W l)
theorem wl_succ (l : List UInt8) (k : Nat) : wl l (k + 1) = wl l k ++ [W l k] := by simp [wl, List.range_succ]
theorem wl_row (l : List UInt8) (k : Nat) : numsV .u64 (wl l k) = rowOf .u64 k (W l) := by simp [numsV, wl, rowOf]
theorem near_int (x : Nat) (hx : x < 18446744073709551616) : bits BinOp.xor IntKind.u64 (bits BinOp.xor IntKind.u64 ((rorN x 1 : Nat) : Int) ((rorN x 8 : Nat) : Int)) ((x : Int) / 128) = ((nearN x : Nat) : Int) := by
  have e1 := u64_xor_nat _ _ (rorN_lt 1 hx) (rorN_lt 8 hx)
  have e2 := u64_xor_nat (rorN x 1 ^^^ rorN x 8) (x / 128) (xor_lt (rorN_lt 1 hx) (rorN_lt 8 hx)) (div_lt 128 hx)
  rw [e1]
  exact e2
theorem far_int (x : Nat) (hx : x < 18446744073709551616) : bits BinOp.xor IntKind.u64 (bits BinOp.xor IntKind.u64 ((rorN x 19 : Nat) : Int) ((rorN x 61 : Nat) : Int)) ((x : Int) / 64) = ((farN x : Nat) : Int) := by
  have e1 := u64_xor_nat _ _ (rorN_lt 19 hx) (rorN_lt 61 hx)
  have e2 := u64_xor_nat (rorN x 19 ^^^ rorN x 61) (x / 64) (xor_lt (rorN_lt 19 hx) (rorN_lt 61 hx)) (div_lt 64 hx)
  rw [e1]
  exact e2
/-- As nums_app; what stood in the row before stands there yet, in the old block. -/
theorem nums_app_keep (t e : TypeId) (kd : IntKind) (b : Nat) (hb16 : b ≤ 16) (ht : Try.prog.underlying t = some (.slice e)) (hinfo : (Try.prog.info? e).map (fun i => (i.zero, i.size, i.bytes)) = some (some (.int kd 0), 1, b))
    {W wr : World} {B g cc : Nat} {n : Nat} {l : List Nat} (hown : wr.ownsRow B e 1 (.slice (some ⟨g, 0, none⟩) n cc) n (numsV kd l)) (hb : Below B W wr) (hB : B ≤ wr.heap.size) (x : Nat) (hlt : n ≤ 1000000) :
    ∃ p c W3, (∀ (ρ : Operand → Value) (o : Oper) (s y : Operand), o.op = Op.call { callee := Callee.builtin Builtin.append, args := #[s, y], argTypes := #[t, t] } → ρ s = .slice (some ⟨g, 0, none⟩) n cc → ρ y = .slice (some ⟨wr.heap.size, 0, none⟩) 1 1 → (execOp ρ o).run Try.prog (wr.alloc (.cells #[.int kd (x : Int)] e)) = .ok (.value (.slice p (n + 1) c)) W3) ∧
      W3.ownsRow B e 1 (.slice p (n + 1) c) (n + 1) (numsV kd (l ++ [x])) ∧ Below B W W3 ∧ (∀ j u, (numsV kd l)[j]? = some u → W3.cell? ⟨g, j, none⟩ = some u) := by
  obtain ⟨i3, hi3, hz3, hs3, hb3⟩ := info_parts hinfo
  have hown1 := hown.alloc (.cells #[.int kd (x : Int)] e)
  have hnews : ∀ j u, ([Value.int kd (x : Int)])[j]? = some u → (wr.alloc (.cells #[.int kd (x : Int)] e)).cell? ((⟨wr.heap.size, 0, none⟩ : Addr).add j) = some u := by
    intro j u hu
    rw [addr_add, cell_of_row _ wr.heap.size (0 + j) [Value.int kd (x : Int)].toArray e (0, 0) (heap_alloc_new wr _), Nat.zero_add, List.getElem?_toArray]
    exact hu
  have hby : (n + 1) * b ≤ 140737488355328 := by
    have h1 : (n + 1) * b ≤ (n + 1) * 16 := Nat.mul_le_mul_left _ hb16
    omega
  obtain ⟨v', W3, hrun, hown', hgrow, -, hat⟩ := run_append_own_at (P := Try.prog) (wr.alloc (.cells #[.int kd (x : Int)] e)) B t t e i3 _ 1 b ht hi3 hz3 hs3 hb3 rfl (by decide) _ n _ hown1 ⟨wr.heap.size, 0, none⟩ 1 1 [.int kd (x : Int)] rfl hnews (by intro u hu; simp at hu; subst hu; rfl) (by unfold maxLen; omega) hby (by simp; omega)
  obtain ⟨p, c, rfl⟩ := own_form hown'
  have hg := (hown.lt g rfl).2
  have hkeep : ∀ j u, (numsV kd l)[j]? = some u → W3.cell? ⟨g, j, none⟩ = some u := by
    intro j u hu
    by_cases hc : n + 1 ≤ cc
    · obtain ⟨g2, rfl⟩ := own_some hown' (by omega)
      have hg2 : g2 = g := by
        rcases hat with h | h
        · injection h
        · exfalso
          obtain ⟨-, h2 | ⟨g3, cap, cur, he, h4, h5, h6, h7, h8, h9⟩⟩ := hown1
          · cases h2.1
          · injection he with he1 _ he3
            injection he1 with he1
            injection he1 with he1
            subst he1
            subst he3
            have hr := run_append_room (P := Try.prog) (wr.alloc (.cells #[.int kd (x : Int)] e)) t t e i3 ht hi3 g n cc cur h5 ⟨wr.heap.size, 0, none⟩ 1 1 [.int kd (x : Int)] (by rw [hs3]; rfl) hnews (by intro u hu; simp at hu; subst hu; rfl) hc (by rw [hs3, h8]; simp; omega)
            rw [hrun] at hr
            injection hr with hr1 hr2
            injection hr1 with hr1
            injection hr1 with hr1
            injection hr1 with hr1
            injection h with h
            simp at h
            omega
      subst hg2
      have hh := hown'.cells rfl j u (by rw [numsV, List.getElem?_append_left (by rw [← numsV]; exact (List.getElem?_eq_some_iff.1 hu).1)]; exact hu)
      rw [addr_add, Nat.zero_add] at hh
      exact hh
    · have hr := run_append_grow (P := Try.prog) (wr.alloc (.cells #[.int kd (x : Int)] e)) t t e i3 _ ht hi3 hz3 ⟨g, 0, none⟩ n cc (numsV kd l) (by rw [hs3]; exact hown1.1) (hown1.cells rfl) ⟨wr.heap.size, 0, none⟩ 1 1 [.int kd (x : Int)] (by rw [hs3]; rfl) hnews (by omega) (by omega) (growslice_fits (by omega) (by rw [hb3]; exact hby))
      rw [hrun] at hr
      injection hr with _ hr2
      have hh := hown1.cells rfl j u hu
      rw [addr_add, Nat.zero_add] at hh
      rw [hr2, ← hh]
      exact (Below.refl _ (wr.alloc (.cells #[.int kd (x : Int)] e))).drew.alloc (Nat.le_refl _) _ |>.cell (p := ⟨g, j, none⟩) (by simp; omega)
  refine ⟨p, c, W3, ?_, by rw [numsV_append]; exact hown', (hb.alloc hB _).grown hgrow (by simp; omega) (fun j hj => (hown.lt j hj).1), hkeep⟩
  intro ρ o s y ho hs hy
  have hrun2 : (Builtin.append_ #[t, t] o.type #[.slice (some ⟨g, 0, none⟩) n cc, .slice (some ⟨wr.heap.size, 0, none⟩) 1 1]).run Try.prog (wr.alloc (.cells #[.int kd (x : Int)] e)) = .ok (.slice p (n + 1) c) W3 := hrun
  unfold execOp
  simp [ho, resolve, invoke, builtin, hs, hy, hrun2]
set_option maxRecDepth 100000 in
set_option maxHeartbeats 2000000 in
theorem sha5_ok (l : List UInt8) (B : Nat) (p0 : Option Addr) (c00 : Nat) (W5 : World) (Q : Exit → Act → World → Prop) (c0 c1 c2 c3 c4 c5 c6 c7 c8 c10 c12 c13 c14 c15 c16 c17 c18 c19 c20 c21 c22 c23 c24 c25 c26 c27 c28 c29 c30 c31 c32 c33 c34 c35 c36 c37 c38 c39 c40 c41 c42 c43 c44 c45 c46 c47 c48 c49 c50 c51 c52 c53 c54 c55 c56 c57 c58 c59 c60 c61 c62 c63 c64 c65 c66 c67 c68 c69 c70 c71 c72 c73 c74 c75 c76 c77 c78 c79 c80 c81 c82 c83 c84 c85 c86 c87 c88 c89 c90 c91 c92 c93 c94 c95 c96 c97 c98 c99 c100 c101 c102 c103 c104 c105 c106 c107 c108 c109 c110 c111 c112 c113 c114 c115 c116 c117 c118 c119 c120 c121 c122 c123 c124 c125 c126 c127 c128 c129 c130 c131 c132 c133 c134 c135 c136 c137 c138 c139 c140 c141 c142 c143 c144 c145 c146 c147 c148 c149 c150 c151 c152 c153 c154 c155 c156 c157 c158 c159 c160 c161 c162 c163 c164 c165 c166 c167 c168 c169 c170 c171 c172 c173 c174 c175 c176 c177 c178 c179 c180 c181 c182 c183 c184 c185 c186 c187 c188 c189 c190 c191 c192 c193 c194 c195 c196 c197 c198 c199 c200 c201 c202 c203 c204 c205 c206 c207 c208 c209 c210 c211 c212 c213 c214 c215 c216 c217 c218 c219 c220 c221 c222 c223 c224 c225 c226 c227 c228 c229 c230 c231 c232 c233 c234 c235 c236 c237 c238 c239 c240 c241 c242 c243 c244 c245 c246 c247 c248 c249 c250 c251 c252 c253 c254 c255 c256 c257 c258 c259 c260 c261 c262 : Value)
    (hown : Hid (W5.ownsRow B 27 1 (.slice p0 16 c00) 16 (numsV .u64 (wl l 16))))
    (hexit : ∀ (u12 u13 u14 u15 u84 u85 u86 u87 u88 u89 u90 u91 u92 u93 u94 u95 u96 u97 u98 u99 u100 u101 u102 u103 u104 u105 u106 u107 u108 u109 u110 u111 u112 u113 u114 u115 u116 u117 u118 u119 u120 u121 u122 u123 u124 u125 u126 u127 u128 u129 u130 u131 : Value) (p : Option Addr) (cz : Nat) (wx : World), Hid (wx.ownsRow B 27 1 (.slice p 80 cz) 80 (numsV .u64 (wl l 80))) → Hid (Below B W5 wx) → Q (.exit 8) ⟨(c0 :: c1 :: c2 :: c3 :: c4 :: c5 :: c6 :: c7 :: c8 :: (.slice p 80 cz) :: c10 :: (.int .i64 80) :: u12 :: u13 :: u14 :: u15 :: c16 :: c17 :: c18 :: c19 :: c20 :: c21 :: c22 :: c23 :: c24 :: c25 :: c26 :: c27 :: c28 :: c29 :: c30 :: c31 :: c32 :: c33 :: c34 :: c35 :: c36 :: c37 :: c38 :: c39 :: c40 :: c41 :: c42 :: c43 :: c44 :: c45 :: c46 :: c47 :: c48 :: c49 :: c50 :: c51 :: c52 :: c53 :: c54 :: c55 :: c56 :: c57 :: c58 :: c59 :: c60 :: c61 :: c62 :: c63 :: c64 :: c65 :: c66 :: c67 :: c68 :: c69 :: c70 :: c71 :: c72 :: c73 :: c74 :: c75 :: c76 :: c77 :: c78 :: c79 :: c80 :: c81 :: c82 :: c83 :: u84 :: u85 :: u86 :: u87 :: u88 :: u89 :: u90 :: u91 :: u92 :: u93 :: u94 :: u95 :: u96 :: u97 :: u98 :: u99 :: u100 :: u101 :: u102 :: u103 :: u104 :: u105 :: u106 :: u107 :: u108 :: u109 :: u110 :: u111 :: u112 :: u113 :: u114 :: u115 :: u116 :: u117 :: u118 :: u119 :: u120 :: u121 :: u122 :: u123 :: u124 :: u125 :: u126 :: u127 :: u128 :: u129 :: u130 :: u131 :: c132 :: c133 :: c134 :: c135 :: c136 :: c137 :: c138 :: c139 :: c140 :: c141 :: c142 :: c143 :: c144 :: c145 :: c146 :: c147 :: c148 :: c149 :: c150 :: c151 :: c152 :: c153 :: c154 :: c155 :: c156 :: c157 :: c158 :: c159 :: c160 :: c161 :: c162 :: c163 :: c164 :: c165 :: c166 :: c167 :: c168 :: c169 :: c170 :: c171 :: c172 :: c173 :: c174 :: c175 :: c176 :: c177 :: c178 :: c179 :: c180 :: c181 :: c182 :: c183 :: c184 :: c185 :: c186 :: c187 :: c188 :: c189 :: c190 :: c191 :: c192 :: c193 :: c194 :: c195 :: c196 :: c197 :: c198 :: c199 :: c200 :: c201 :: c202 :: c203 :: c204 :: c205 :: c206 :: c207 :: c208 :: c209 :: c210 :: c211 :: c212 :: c213 :: c214 :: c215 :: c216 :: c217 :: c218 :: c219 :: c220 :: c221 :: c222 :: c223 :: c224 :: c225 :: c226 :: c227 :: c228 :: c229 :: c230 :: c231 :: c232 :: c233 :: c234 :: c235 :: c236 :: c237 :: c238 :: c239 :: c240 :: c241 :: c242 :: c243 :: c244 :: c245 :: c246 :: c247 :: c248 :: c249 :: c250 :: c251 :: c252 :: c253 :: c254 :: c255 :: c256 :: c257 :: c258 :: c259 :: c260 :: c261 :: c262 :: []).toArray, []⟩ wx) :
    Code.wp Try.prog (Code.loop shaB5) Q ⟨(c0 :: c1 :: c2 :: c3 :: c4 :: c5 :: c6 :: c7 :: c8 :: (.slice p0 16 c00) :: c10 :: (.int .i64 16) :: c12 :: c13 :: c14 :: c15 :: c16 :: c17 :: c18 :: c19 :: c20 :: c21 :: c22 :: c23 :: c24 :: c25 :: c26 :: c27 :: c28 :: c29 :: c30 :: c31 :: c32 :: c33 :: c34 :: c35 :: c36 :: c37 :: c38 :: c39 :: c40 :: c41 :: c42 :: c43 :: c44 :: c45 :: c46 :: c47 :: c48 :: c49 :: c50 :: c51 :: c52 :: c53 :: c54 :: c55 :: c56 :: c57 :: c58 :: c59 :: c60 :: c61 :: c62 :: c63 :: c64 :: c65 :: c66 :: c67 :: c68 :: c69 :: c70 :: c71 :: c72 :: c73 :: c74 :: c75 :: c76 :: c77 :: c78 :: c79 :: c80 :: c81 :: c82 :: c83 :: c84 :: c85 :: c86 :: c87 :: c88 :: c89 :: c90 :: c91 :: c92 :: c93 :: c94 :: c95 :: c96 :: c97 :: c98 :: c99 :: c100 :: c101 :: c102 :: c103 :: c104 :: c105 :: c106 :: c107 :: c108 :: c109 :: c110 :: c111 :: c112 :: c113 :: c114 :: c115 :: c116 :: c117 :: c118 :: c119 :: c120 :: c121 :: c122 :: c123 :: c124 :: c125 :: c126 :: c127 :: c128 :: c129 :: c130 :: c131 :: c132 :: c133 :: c134 :: c135 :: c136 :: c137 :: c138 :: c139 :: c140 :: c141 :: c142 :: c143 :: c144 :: c145 :: c146 :: c147 :: c148 :: c149 :: c150 :: c151 :: c152 :: c153 :: c154 :: c155 :: c156 :: c157 :: c158 :: c159 :: c160 :: c161 :: c162 :: c163 :: c164 :: c165 :: c166 :: c167 :: c168 :: c169 :: c170 :: c171 :: c172 :: c173 :: c174 :: c175 :: c176 :: c177 :: c178 :: c179 :: c180 :: c181 :: c182 :: c183 :: c184 :: c185 :: c186 :: c187 :: c188 :: c189 :: c190 :: c191 :: c192 :: c193 :: c194 :: c195 :: c196 :: c197 :: c198 :: c199 :: c200 :: c201 :: c202 :: c203 :: c204 :: c205 :: c206 :: c207 :: c208 :: c209 :: c210 :: c211 :: c212 :: c213 :: c214 :: c215 :: c216 :: c217 :: c218 :: c219 :: c220 :: c221 :: c222 :: c223 :: c224 :: c225 :: c226 :: c227 :: c228 :: c229 :: c230 :: c231 :: c232 :: c233 :: c234 :: c235 :: c236 :: c237 :: c238 :: c239 :: c240 :: c241 :: c242 :: c243 :: c244 :: c245 :: c246 :: c247 :: c248 :: c249 :: c250 :: c251 :: c252 :: c253 :: c254 :: c255 :: c256 :: c257 :: c258 :: c259 :: c260 :: c261 :: c262 :: []).toArray, []⟩ W5 := by
  conv =>
    arg 2
    arg 1
    whnf
  go_loopw [9, 11, 12, 13, 14, 15] (fun v i _ _ _ _ wr => ∃ k : Nat, ∃ p cz, 16 ≤ k ∧ k ≤ 80 ∧ i = .int .i64 k ∧ v = .slice p k cz ∧ wr.ownsRow B 27 1 (.slice p k cz) k (numsV .u64 (wl l k)) ∧ Below B W5 wr) (fun _ i _ _ _ _ _ => 80 - (intOf i).toNat)
  case atStart => exact ⟨16, p0, c00, by omega, by omega, rfl, rfl, hown.out, Below.refl _ _⟩
  case round =>
    clear hown
    obtain ⟨k, p, cc, hk16, hk, rfl, rfl, ho, hb⟩ := hrel
    have HO := Lib.hid ho
    have HB := Lib.hid hb
    obtain ⟨g, rfl⟩ := own_some ho (by omega)
    have hle := own_le ho
    clear ho hb
    by_cases hlt : k < 80
    · clear hexit
      have hk8 : (k : Int) < 80 := by omega
      obtain ⟨a15, h15⟩ : ∃ a, Hid (a = k - 15) := ⟨_, Lib.hid rfl⟩
      obtain ⟨a2, h2⟩ : ∃ a, Hid (a = k - 2) := ⟨_, Lib.hid rfl⟩
      obtain ⟨a16, h16⟩ : ∃ a, Hid (a = k - 16) := ⟨_, Lib.hid rfl⟩
      obtain ⟨a7, h7⟩ : ∃ a, Hid (a = k - 7) := ⟨_, Lib.hid rfl⟩
      have e15 : (k : Int) - 15 = (a15 : Int) := by rw [h15.out]; omega
      have e2 : (k : Int) - 2 = (a2 : Int) := by rw [h2.out]; omega
      have e16 : (k : Int) - 16 = (a16 : Int) := by rw [h16.out]; omega
      have e7 : (k : Int) - 7 = (a7 : Int) := by rw [h7.out]; omega
      have b15 : (a15 : Int) < k := by omega
      have b2 : (a2 : Int) < k := by omega
      have b16 : (a16 : Int) < k := by omega
      have b7 : (a7 : Int) < k := by omega
      have hcell : Hid (∀ (j : Nat), (j : Int) < k → wr.cell? ⟨g, j, none⟩ = some (.int .u64 (W l j))) := fun j hj => by
        rw [HO.out.cellAt j (by omega), wl_row, rowOf_get _ _ _ _ (by omega)]
      have q15 := hcell.out a15 b15
      have q2 := hcell.out a2 b2
      have HW : Hid (add (add (add (W l a16) (nearN (W l a15))) (W l a7)) (farN (W l a2)) = W l k) := by
        unfold Hid
        rw [h15.out, h2.out, h16.out, h7.out]
        exact (W_high l k hk16).symm
      have r7 := Lib.hid (rror_any (W l a15) 1 1 rfl (W_lt l a15) (by decide) (by decide))
      have r18 := Lib.hid (rror_any (W l a15) 8 8 rfl (W_lt l a15) (by decide) (by decide))
      have r17 := Lib.hid (rror_any (W l a2) 19 19 rfl (W_lt l a2) (by decide) (by decide))
      have r19 := Lib.hid (rror_any (W l a2) 61 61 rfl (W_lt l a2) (by decide) (by decide))
      have HNI := Lib.hid (near_int (W l a15) (W_lt l a15))
      have HFI := Lib.hid (far_int (W l a2) (W_lt l a2))
      go_wp2
      go_quiet (fail)
      go_upto_region 26 with (first | (go_at_call 21; (with_reducible refine (r7.out _).mono ?_); rintro e w' ⟨rfl, m1, rfl⟩) | (go_at_call 21; (with_reducible refine (r18.out _).mono ?_); rintro e w' ⟨rfl, m2, rfl⟩))
      rw [HNI.out]
      go_upto_region 27 with (first | (go_at_call 21; (with_reducible refine (r17.out _).mono ?_); rintro e w' ⟨rfl, m3, rfl⟩) | (go_at_call 21; (with_reducible refine (r19.out _).mono ?_); rintro e w' ⟨rfl, m4, rfl⟩))
      rw [HFI.out]
      obtain ⟨wb, hwb⟩ : ∃ wb, wb = wr.drewN (nq + m1 + m2 + m3 + m4) := ⟨_, rfl⟩
      have HOb : Hid (wb.ownsRow B 27 1 (.slice (some ⟨g, 0, none⟩) k cc) k (numsV .u64 (wl l k))) := by rw [hwb]; exact HO.out
      have HBb : Hid (Below B W5 wb) := by rw [hwb]; exact Below.drewN' HB.out _
      have hcell2 : Hid (∀ (j : Nat), (j : Int) < k → wb.cell? ⟨g, j, none⟩ = some (.int .u64 (W l j))) := by rw [hwb]; exact hcell.out
      have q16 := hcell2.out a16 b16
      have q7 := hcell2.out a7 b7
      rw [← hwb]
      clear hwb q15 q2 r7 r18 r17 r19 HNI HFI hcell HO HB
      have w16 : IntKind.i64.wrap ((k : Int) - 16) = (a16 : Int) := by rw [IntWalk.i64_in _ (by omega)]; exact e16
      have w7 : IntKind.i64.wrap ((k : Int) - 7) = (a7 : Int) := by rw [IntWalk.i64_in _ (by omega)]; exact e7
      have w16b : IntKind.i64.wrap (a16 : Int) = (a16 : Int) := by rw [IntWalk.i64_in _ (by omega)]
      have w7b : IntKind.i64.wrap (a7 : Int) = (a7 : Int) := by rw [IntWalk.i64_in _ (by omega)]
      obtain ⟨A1, hA1⟩ : ∃ a, Hid (a = add (W l a16) (nearN (W l a15))) := ⟨_, Lib.hid rfl⟩
      obtain ⟨A2, hA2⟩ : ∃ a, Hid (a = add A1 (W l a7)) := ⟨_, Lib.hid rfl⟩
      have s1 : IntKind.u64.wrap (((W l a16 : Nat) : Int) + ((nearN (W l a15) : Nat) : Int)) = (A1 : Int) := by rw [hA1.out]; exact wrapM (W l a16 + nearN (W l a15))
      have s2 : IntKind.u64.wrap ((A1 : Int) + ((W l a7 : Nat) : Int)) = (A2 : Int) := by rw [hA2.out]; exact wrapM (A1 + W l a7)
      have s3 : IntKind.u64.wrap ((A2 : Int) + ((farN (W l a2) : Nat) : Int)) = ((W l k : Nat) : Int) := by rw [← HW.out, ← hA1.out, ← hA2.out]; exact wrapM (A2 + farN (W l a2))
      clear hA1 hA2 HW
      obtain ⟨p', c', W3, happ, hown', hbel, hkeep⟩ := nums_app_keep 25 27 .u64 8 (by decide) Try.underlying25 info27 (wr := wb.drew) (Below_own_drew HOb.out) HBb.out.drew (Nat.le_trans (HOb.out.lt g rfl).1 (Nat.le_of_lt (HOb.out.lt g rfl).2)) (W l k) (by omega)
      have HAPP := Lib.hid happ
      rw [← wl_succ] at hown'
      have HO3 := Lib.hid hown'
      have HF := Lib.hid hbel
      have SK : Hid (W3.cell? ⟨g, a16, none⟩ = some (.int .u64 (W l a16)) ∧ W3.cell? ⟨g, a7, none⟩ = some (.int .u64 (W l a7))) := by
        unfold Hid
        exact ⟨hkeep a16 _ (by rw [wl_row, rowOf_get _ _ _ _ (by omega)]), hkeep a7 _ (by rw [wl_row, rowOf_get _ _ _ _ (by omega)])⟩
      have SA : Hid ((wb.drew.alloc (.cells #[.int .u64 ((W l k : Nat) : Int)] 27)).cell? ⟨g, a16, none⟩ = some (.int .u64 (W l a16)) ∧ (wb.drew.alloc (.cells #[.int .u64 ((W l k : Nat) : Int)] 27)).cell? ⟨g, a7, none⟩ = some (.int .u64 (W l a7))) := by
        have hz := (HOb.out.lt g rfl).2
        refine ⟨?_, ?_⟩
        · rw [← q16]; exact ((Below.refl _ wb).drew.alloc (Nat.le_refl _) _).cell (p := ⟨g, a16, none⟩) hz
        · rw [← q7]; exact ((Below.refl _ wb).drew.alloc (Nat.le_refl _) _).cell (p := ⟨g, a7, none⟩) hz
      have SD : Hid (wb.drew.cell? ⟨g, a16, none⟩ = some (.int .u64 (W l a16)) ∧ wb.drew.cell? ⟨g, a7, none⟩ = some (.int .u64 (W l a7))) := ⟨q16, q7⟩
      clear happ hown' hbel hkeep hcell2 HOb HBb
      generalize W l k = Wk at *
      generalize nearN (W l a15) = NN at *
      generalize farN (W l a2) = FF at *
      generalize W l a16 = x16 at *
      generalize W l a7 = x7 at *
      go_region_held3 (fun w' => w'.cell? ⟨g, a16, none⟩ = some (.int .u64 x16) ∧ w'.cell? ⟨g, a7, none⟩ = some (.int .u64 x7)) (first | exact SD.out | exact SA.out | exact SK.out) ((refine step_run rfl _ (HAPP.out _ _ (.tmp 114) (.tmp 130) rfl rfl rfl) ?_))
      go_wp2
      go_roundw
      case rel => exact ⟨k + 1, p', c', by omega, by omega, by go_num, rfl, HO3.out, HF.out⟩
      case measure => simp [intOf]; omega
    · obtain rfl : k = 80 := by omega
      have HE := Lib.hid hexit
      clear hexit
      rw [show ((80 : Nat) : Int) = (80 : Int) from rfl]
      go_wp2
      exact HE.out _ _ _ _ _ _ _ _ _ _ _ _ _ _ _ _ _ _ _ _ _ _ _ _ _ _ _ _ _ _ _ _ _ _ _ _ _ _ _ _ _ _ _ _ _ _ _ _ _ _ _ _ _ _ wr HO HB
end Go.Proofs.Ytnajglmabgofeaa
