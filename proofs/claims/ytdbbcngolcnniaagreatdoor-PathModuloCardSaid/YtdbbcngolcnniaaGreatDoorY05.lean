/- Several texts, one behind the other; each says by itself what it proves, and on what conditions. -/
import Derived.Test.YtdbbcngolcnniaaGreatDoorY04
import Derived.OrdersIn
import Derived.RangeFuncLeaves
import Derived.RangeFuncFrom
import Derived.Scope
/- A region, whatever its order: steps that do not meet may be taken either way. No condition. -/
namespace Go.Proofs.YtdbbcngolcnniaaGreatDoor.E
open Go Go.RowKit
set_option linter.unusedVariables false
set_option linter.unusedSimpArgs false
section
variable {P : Program} {C : Hints} {ops : Array Oper} {base : Nat} {R : RecT}
theorem den_skip {w0 : World} {wr : Bs} {ρ : Env} {s : St} {a : Act} {w : World} {dst : Option Tmp} {ob : List Prop} (h : Den w0 wr ρ s a w) (hd : ∀ x, dst = some x → x < s.n) :
  Den w0 wr ρ (applyD ⟨ob, dst, .s .un, [], none⟩ s) (a.put dst undef) w := by
 refine ⟨by rw [put_size]; exact h.sz, by rw [put_defers]; exact h.df, h.mf, h.ko, ?_, h.rw, h.ds, h.fr, h.e0, h.ku, h.gl, h.kn⟩
 intro t x hx
 rw [tm_put (s := s) (fun x hx => by rw [h.sz]; exact hd x hx)]
 simp only [applyD, setT] at hx
 cases dst with
 | none => exact h.tm t x hx
 | some d =>
  simp only at hx ⊢
  by_cases htd : t = d
  ·rw [if_pos htd]
   subst htd
   simp at hx
   subst hx
   exact ⟨rfl, trivial, fun r hr => by cases hr⟩
  ·rw [if_neg htd]
   rw [show Nat.beq t d = false by cases hb : Nat.beq t d with | false => rfl | true => exact absurd (Nat.eq_of_beq_eq_true hb) htd] at hx
   exact h.tm t x hx
theorem step_ok {Q : Exit → Act → World → Prop} {K : Act → World → Prop} {w0 : World} {wr : Bs} {ρ : Env} {s : St} {a : Act} {w : World} {k : Nat} {d : StepD}
  (hC : ∀ id c, C id = some c → HintAt P w0 wr id c) (hd : dataOf P C ops base R k s = some d) (ho : all d.obl) (h : Den w0 wr ρ s a w)
  (hK : ∀ a' w' ρ', Den w0 wr ρ' (applyD d s) a' w' → K a' w') : wpOp P ops Q k K a w := by
 unfold dataOf at hd
 unfold wpOp
 cases hk : ops[k]? with
 | none => rw [hk] at hd; cases hd
 | some o =>
  rw [hk] at hd
  simp only at hd ⊢
  cases hdst : dstOk s.n o.dst with
  | false => rw [hdst] at hd; cases hd
  | true =>
   rw [hdst] at hd
   have hlt : ∀ x, o.dst = some x → x < s.n := by
    intro x hx
    rw [hx] at hdst
    exact Nat.le_of_ble_eq_true hdst
   simp only [cond_true] at hd
   cases hg : guardOk C (base + k) s ops o with
   | none => rw [hg] at hd; cases hd
   | some gb =>
    obtain ⟨og, b⟩ := gb
    rw [hg] at hd
    cases b with
    | false =>
     cases hd
     rw [guardOk_ok h hg ho]
     exact hK _ _ _ (den_skip h hlt)
    | true =>
     simp only at hd
     cases he : evalL s o.op.operands.toList with
     | none => rw [he] at hd; cases hd
     | some args =>
      rw [he] at hd
      simp only at hd
      cases ht : eqL (touch C (base + k) o.op args) (R.getD k ([], [])).1 with
      | false => rw [ht] at hd; cases hd
      | true =>
       rw [ht] at hd
       simp only [cond_true] at hd
       cases hf : eff P C (base + k) o.op args (rwOf s.row (R.getD k ([], [])).1) with
       | none => rw [hf] at hd; cases hd
       | some e =>
        rw [hf] at hd
        simp only at hd
        cases hc : chk s (base + k) args (R.getD k ([], [])).1 (R.getD k ([], [])).2 e with
        | false => rw [hc] at hd; cases hd
        | true =>
         rw [hc] at hd
         simp only [cond_true] at hd
         cases hrt : retag C (base + k) s.kn e.val with
         | none => rw [hrt] at hd; cases hd
         | some y2 =>
         obtain ⟨o2, v2⟩ := y2
         rw [hrt] at hd
         cases hd
         obtain ⟨ho, ho2⟩ := all_append.1 ho
         obtain ⟨hog, ho⟩ := all_append.1 ho
         rw [guardOk_ok h hg hog]
         obtain ⟨g1, g2, g3⟩ := evalL_ok h he
         have hused : s.used (base + k) = false := by
          simp only [chk, Bool.and_eq_true, Bool.not_eq_true'] at hc
          exact hc.1.1.1.1.2
         refine .inl (eff_ok (ρ := ρ) (fun c hc => hintOk_call hC hc h.ko h.fr h.e0) (fun f av res hx => hintOk_ext hC hx) (fun ty m k res hx => ⟨(hintOk_look hC hx).1, fun ρ => (hintOk_look hC hx).2 ρ _ h.ko⟩) g1 g2 ?_ ?_ ?_ hf ho ?_)
         ·intro x hx hi
          have := g3 x hx _ hi
          rw [hused] at this; cases this
         ·intro r row hr
          unfold rwOf at hr
          cases hn : hasN (R.getD k ([], [])).1 r with
          | false => rw [hn] at hr; cases hr
          | true => rw [hn] at hr; exact ⟨(h.rw r row hr).1, (h.rw r row hr).2.1⟩
         ·intro r q row rq hr hq hne hw
          unfold rwOf at hr hq
          cases hn : hasN (R.getD k ([], [])).1 r with
          | false => rw [hn] at hr; cases hr
          | true =>
           cases hn2 : hasN (R.getD k ([], [])).1 q with
           | false => rw [hn2] at hq; cases hq
           | true => rw [hn] at hr; rw [hn2] at hq; exact h.ds r q row rq hr hq hne hw
         ·intro w' ρ' hp
          exact hK _ _ _ (retag_ok (ob := []) hrt ho2 (den_step h hlt g3 hc hp) _)
def symAny (P : Program) (C : Hints) (ops : Array Oper) (base : Nat) (R : RecT) (K : St → Prop) : Nat → Array Bool → St → Prop
 | 0, listed, s => Region.ready .any ops listed = [] ∧ K s
 | fuel + 1, listed, s => (Region.ready .any ops listed = [] → K s) ∧
  ∀ i ∈ Region.ready .any ops listed, ∃ d, dataOf P C ops base R i s = some d ∧ all d.obl ∧ symAny P C ops base R K fuel (listed.setIfInBounds i true) (applyD d s)
theorem any_of_sym {Q : Exit → Act → World → Prop} {K : St → Prop} {w0 : World} {wr : Bs} (hC : ∀ id c, C id = some c → HintAt P w0 wr id c)
  (hQ : ∀ s a w ρ, K s → Den w0 wr ρ s a w → Q .normal a w) : ∀ (fuel : Nat) (listed : Array Bool) (s : St) (a : Act) (w : World) (ρ : Env), Den w0 wr ρ s a w → symAny P C ops base R K fuel listed s → wpAny P .any ops Q fuel listed a w
 | 0, _, _, _, _, _, hd, h => ⟨h.1, hQ _ _ _ _ h.2 hd⟩
 | fuel + 1, listed, s, a, w, ρ, hd, h => ⟨fun h0 => hQ _ _ _ _ (h.1 h0) hd, fun i hi => by
   obtain ⟨d, h1, h2, h3⟩ := h.2 i hi
   exact step_ok hC h1 h2 hd fun a' w' ρ' hd' => any_of_sym hC hQ fuel _ _ a' w' ρ' hd' h3⟩
theorem evalO_congr {s t : St} {x : Operand} (ht : ∀ d, x = .tmp d → s.tmps d = t.tmps d) (hu : ∀ r, r < 1000 → s.used r = t.used r) : evalO s x = evalO t x := by
 cases x with
 | tmp d => exact ht d rfl
 | const v => rfl
 | global g =>
  simp only [evalO]
  cases hb : Nat.ble (g + 1) 500 with
  | false => rfl
  | true => rw [hu (500 + g) (by have := Nat.le_of_ble_eq_true hb; omega)]
 | func f => rfl
theorem evalL_congr {s t : St} : ∀ {l : List Operand}, (∀ x ∈ l, ∀ d, x = .tmp d → s.tmps d = t.tmps d) → (∀ r, r < 1000 → s.used r = t.used r) → evalL s l = evalL t l
 | [], _, _ => rfl
 | x :: l, ht, hu => by
  unfold evalL
  rw [evalO_congr (fun d hd => ht x (by simp) d hd) hu, evalL_congr (fun y hy => ht y (by simp [hy])) hu]
theorem rwOf_congr {f g : Nat → Option Row} {T : List Nat} (h : ∀ r ∈ T, f r = g r) : rwOf f T = rwOf g T := by
 funext r
 unfold rwOf
 cases hn : hasN T r with
 | false => rfl
 | true => exact h r (hasN_iff.1 hn)
theorem idsIn_congr {f g : Nat → Option Row} {T : List Nat} (h : ∀ r ∈ T, f r = g r) : idsIn f T = idsIn g T := by
 unfold idsIn
 induction T with
 | nil => rfl
 | cons q T ih =>
  rw [List.flatMap_cons, List.flatMap_cons, ih (fun r hr => h r (by simp [hr])), h q (by simp)]
theorem all_congr {α : Type} {l : List α} {f g : α → Bool} (h : ∀ x ∈ l, f x = g x) : l.all f = l.all g := by
 induction l with
 | nil => rfl
 | cons x l ih => rw [List.all_cons, List.all_cons, h x (by simp), ih (fun y hy => h y (by simp [hy]))]
theorem chk_congr {s t : St} {id : Nat} {args : List TV} {T W : List Nat} {e : Eff} (hu : s.used id = t.used id) (hr : ∀ r ∈ T, s.row r = t.row r) : chk s id args T W e = chk t id args T W e := by
 unfold chk
 have hI := idsIn_congr hr
 simp only [hu, hI]
 congr 1
 congr 1
 ·congr 1
  apply all_congr
  intro p _
  congr 2
  cases hn : hasN T p.1 with
  | false => rfl
  | true => rw [hr p.1 (hasN_iff.1 hn)]
 ·apply all_congr
  intro r _
  cases hn : hasN T r with
  | false => rfl
  | true => rw [hr r (hasN_iff.1 hn)]
theorem data_congr {k : Nat} {s t : St} (hkn : s.kn = t.kn) (hn : s.n = t.n) (ht : ∀ o, ops[k]? = some o → ∀ d ∈ o.looksAt ops, s.tmps d = t.tmps d) (hu : ∀ r, r < 1000 ∨ r = base + k → s.used r = t.used r) (hr : ∀ r ∈ (R.getD k ([], [])).1, s.row r = t.row r) :
  dataOf P C ops base R k s = dataOf P C ops base R k t := by
 unfold dataOf
 cases hk : ops[k]? with
 | none => rfl
 | some o =>
  have ht := ht o hk
  have hg : guardOk C (base + k) s ops o = guardOk C (base + k) t ops o := by
   unfold guardOk
   cases hgd : o.guard with
   | none => rfl
   | some jw =>
    obtain ⟨j, want⟩ := jw
    simp only
    cases hb : (ops[j]?).bind (·.dst) with
    | none => rfl
    | some d => simp only [ht d (by simp [Oper.looksAt, hgd, hb])]
  have he : evalL s o.op.operands.toList = evalL t o.op.operands.toList := by
   refine evalL_congr (fun x hx d hd => ht d ?_) (fun r hr => hu r (.inl hr))
   subst hd
   simp only [Oper.looksAt, List.mem_append, List.mem_filterMap]
   exact .inl ⟨.tmp d, hx, rfl⟩
  simp only [hkn, hn, hg, he, rwOf_congr hr]
  congr 1
  cases guardOk C (base + k) t ops o with
  | none => rfl
  | some gb =>
   obtain ⟨og, b⟩ := gb
   cases b with
   | false => rfl
   | true =>
    simp only
    cases evalL t o.op.operands.toList with
    | none => rfl
    | some args =>
     simp only
     cases eqL (touch C (base + k) o.op args) (R.getD k ([], [])).1 with
     | false => rfl
     | true =>
      simp only [cond_true]
      cases eff P C (base + k) o.op args (rwOf t.row (R.getD k ([], [])).1) with
      | none => rfl
      | some e => simp only [chk_congr (hu _ (.inr rfl)) hr]
structure DataF (ops : Array Oper) (base : Nat) (R : RecT) (k : Nat) (d : StepD) : Prop where
 op : ∃ o, ops[k]? = some o ∧ d.dst = o.dst
 puts : ∀ p ∈ d.puts, p.1 ∈ (R.getD k ([], [])).2
 nid : ∀ id, d.nid = some id → id = base + k ∧ 1000 ≤ id
theorem data_facts {k : Nat} {s : St} {d : StepD} (hd : dataOf P C ops base R k s = some d) : DataF ops base R k d := by
 unfold dataOf at hd
 cases hk : ops[k]? with
 | none => rw [hk] at hd; cases hd
 | some o =>
  rw [hk] at hd
  simp only at hd
  cases hdst : dstOk s.n o.dst with
  | false => rw [hdst] at hd; cases hd
  | true =>
   rw [hdst] at hd
   simp only [cond_true] at hd
   cases hg : guardOk C (base + k) s ops o with
   | none => rw [hg] at hd; cases hd
   | some gb =>
    obtain ⟨og, b⟩ := gb
    rw [hg] at hd
    cases b with
    | false => cases hd; exact ⟨⟨o, hk, rfl⟩, (fun p hp => by cases hp), (fun id h => by cases h)⟩
    | true =>
     simp only at hd
     cases he : evalL s o.op.operands.toList with
     | none => rw [he] at hd; cases hd
     | some args =>
      rw [he] at hd
      simp only at hd
      cases ht : eqL (touch C (base + k) o.op args) (R.getD k ([], [])).1 with
      | false => rw [ht] at hd; cases hd
      | true =>
       rw [ht] at hd
       simp only [cond_true] at hd
       cases hf : eff P C (base + k) o.op args (rwOf s.row (R.getD k ([], [])).1) with
       | none => rw [hf] at hd; cases hd
       | some e =>
        rw [hf] at hd
        simp only at hd
        cases hc : chk s (base + k) args (R.getD k ([], [])).1 (R.getD k ([], [])).2 e with
        | false => rw [hc] at hd; cases hd
        | true =>
         rw [hc] at hd
         simp only [cond_true] at hd
         cases hrt : retag C (base + k) s.kn e.val with
         | none => rw [hrt] at hd; cases hd
         | some y2 =>
         obtain ⟨o2, v2⟩ := y2
         rw [hrt] at hd
         cases hd
         simp only [chk, Bool.and_eq_true] at hc
         have h5 := eqL_ok hc.2
         refine ⟨⟨o, hk, rfl⟩, ?_, ?_⟩
         ·intro p hp
          rw [← h5]
          rw [List.mem_append] at hp ⊢
          rcases hp with hp | hp
          ·obtain ⟨q, hq, rfl⟩ := List.mem_map.1 hp
           exact .inl (List.mem_map.2 ⟨q, hq, rfl⟩)
          ·obtain ⟨q, hq, rfl⟩ := List.mem_map.1 hp
           exact .inr hq
         ·intro id hid
          simp only at hid
          cases hn : (e.puts.any fun p => Nat.beq p.1 (base + k)) with
          | false => rw [hn] at hid; cases hid
          | true => rw [hn] at hid; cases hid; exact ⟨rfl, Nat.le_of_ble_eq_true hc.1.1.1.1.1⟩
structure Apart (ops : Array Oper) (R : RecT) (i j : Nat) : Prop where
 ne : i ≠ j
 tm : ∀ oi oj, ops[i]? = some oi → ops[j]? = some oj → oi.apart ops oj = true
 ij : ∀ r ∈ (R.getD i ([], [])).2, r ∉ (R.getD j ([], [])).1 ∧ r ∉ (R.getD j ([], [])).2
 ji : ∀ r ∈ (R.getD j ([], [])).2, r ∉ (R.getD i ([], [])).1
theorem setT_ne {tm : Nat → Option TV} {dst : Option Tmp} {v : TV} {t : Nat} (h : dst ≠ some t) : setT tm dst v t = tm t := by
 cases dst with
 | none => rfl
 | some d =>
  unfold setT
  simp only
  cases hb : Nat.beq t d with
  | false => rfl
  | true => rw [Nat.eq_of_beq_eq_true hb] at h; exact absurd rfl h
theorem apply_row {d : StepD} {s : St} {r : Nat} (h : ∀ p ∈ d.puts, p.1 ≠ r) : (applyD d s).row r = s.row r := by
 simp only [applyD]
 cases hf : findP d.puts r with
 | none => rfl
 | some x => exact absurd rfl (h _ (findP_some hf))
theorem apply_used {d : StepD} {s : St} {r : Nat} (h : d.nid ≠ some r) : (applyD d s).used r = s.used r := by
 simp only [applyD]
 cases hn : d.nid with
 | none => rfl
 | some id =>
  simp only
  cases hb : Nat.beq r id with
  | false => rfl
  | true => rw [hn, Nat.eq_of_beq_eq_true hb] at h; exact absurd rfl h
theorem data_behind {i j : Nat} {s : St} {d : StepD} (hA : Apart ops R i j) (hd : DataF ops base R i d) : dataOf P C ops base R j (applyD d s) = dataOf P C ops base R j s := by
 obtain ⟨oi, hoi, hdst⟩ := hd.op
 refine data_congr rfl rfl ?_ ?_ ?_
 ·intro oj hoj t ht
  have h := (Oper.apart_spec (hA.tm oi oj hoi hoj)).1
  show setT s.tmps d.dst d.val t = s.tmps t
  exact setT_ne (fun e => h t (by rw [← hdst]; exact e) ht)
 ·intro r hr
  refine apply_used fun e => ?_
  obtain ⟨h1, h2⟩ := hd.nid r e
  rcases hr with hr | hr
  ·omega
  ·exact hA.ne (by omega)
 ·intro r hr
  exact apply_row fun p hp e => (hA.ij p.1 (hd.puts p hp)).1 (by rw [e]; exact hr)
theorem Apart.symm {i j : Nat} (h : Apart ops R i j) : Apart ops R j i := by
 refine ⟨fun e => h.ne e.symm, fun oj oi hj hi => ?_, fun r hr => ⟨h.ji r hr, fun hi => (h.ij r hi).2 hr⟩, fun r hr => (h.ij r hr).1⟩
 obtain ⟨h1, h2, h3⟩ := Oper.apart_spec (h.tm oi oj hi hj)
 simp only [Oper.apart, Bool.and_eq_true]
 refine ⟨?_, ?_⟩
 ·cases hd : oj.dst with
  | none => rfl
  | some d =>
   simp only [Bool.and_eq_true, Bool.not_eq_true', bne_iff_ne, ne_eq]
   refine ⟨?_, fun e => h2 d e hd⟩
   cases hc : (oi.looksAt ops).contains d with
   | false => rfl
   | true => exact absurd (by simpa using hc) (h3 d hd)
 ·cases hd : oi.dst with
  | none => rfl
  | some d =>
   simp only [Bool.not_eq_true']
   cases hc : (oj.looksAt ops).contains d with
   | false => rfl
   | true => exact absurd (by simpa using hc) (h1 d hd)
theorem apply_comm {i j : Nat} {s : St} {di dj : StepD} (hA : Apart ops R i j) (hi : DataF ops base R i di) (hj : DataF ops base R j dj) : applyD di (applyD dj s) = applyD dj (applyD di s) := by
 obtain ⟨oi, hoi, hdi⟩ := hi.op
 obtain ⟨oj, hoj, hdj⟩ := hj.op
 have hne : ∀ t, di.dst = some t → dj.dst ≠ some t := fun t ht => by
  rw [hdj]; exact (Oper.apart_spec (hA.tm oi oj hoi hoj)).2.1 t (by rw [← hdi]; exact ht)
 unfold applyD
 simp only [St.mk.injEq, true_and, and_true]
 refine ⟨?_, ?_, ?_⟩
 ·funext t
  by_cases h1 : di.dst = some t
  ·rw [setT_ne (hne t h1)]
   rw [h1]; simp [setT]
  ·rw [setT_ne h1]
   by_cases h2 : dj.dst = some t
   ·rw [h2]; simp [setT]
   ·rw [setT_ne h2, setT_ne h2, setT_ne h1]
 ·funext r
  cases h1 : findP di.puts r with
  | none => rfl
  | some x =>
   cases h2 : findP dj.puts r with
   | none => rfl
   | some y =>
    have g1 := hi.puts _ (findP_some h1)
    have g2 := hj.puts _ (findP_some h2)
    exact absurd g2 (hA.ij r g1).2
 ·cases h1 : di.nid with
  | none => rfl
  | some x =>
   cases h2 : dj.nid with
   | none => rfl
   | some y =>
    funext r
    simp only
    cases Nat.beq r x <;> cases Nat.beq r y <;> rfl
end
end Go.Proofs.YtdbbcngolcnniaaGreatDoor.E
/- A region, whatever its order: what its own order comes to, every order does. No condition. -/
namespace Go.Proofs.YtdbbcngolcnniaaGreatDoor.E
open Go Go.RowKit
set_option linter.unusedVariables false
set_option linter.unusedSimpArgs false
def dd : List Nat → List Nat → List Nat
 | [], acc => acc
 | x :: l, acc => bif hasN acc x then dd l acc else dd l (x :: acc)
theorem mem_dd : ∀ {l acc : List Nat} {x : Nat}, x ∈ dd l acc → x ∈ l ∨ x ∈ acc
 | [], _, _, h => .inr h
 | y :: l, acc, x, h => by
  unfold dd at h
  cases hy : hasN acc y with
  | true => rw [hy] at h; exact (mem_dd h).imp (List.mem_cons_of_mem _) id
  | false =>
   rw [hy] at h
   rcases mem_dd h with h | h
   ·exact .inl (List.mem_cons_of_mem _ h)
   ·rcases List.mem_cons.1 h with rfl | h
    ·exact .inl (List.mem_cons_self ..)
    ·exact .inr h
def ancOf (o : Oper) (acc : List (List Nat)) : List Nat := dd ((o.after.toList.filter (Region.binds .any ·)).flatMap fun e => e.on :: acc.getD e.on []) []
def ancs : List Oper → List (List Nat) → List (List Nat)
 | [], acc => acc
 | o :: l, acc => ancs l (acc ++ [ancOf o acc])
theorem ancs_pre : ∀ (l : List Oper) (acc : List (List Nat)), ∃ m, ancs l acc = acc ++ m
 | [], acc => ⟨[], by simp [ancs]⟩
 | o :: l, acc => by
  obtain ⟨m, h⟩ := ancs_pre l (acc ++ [ancOf o acc])
  exact ⟨ancOf o acc :: m, by rw [ancs, h, List.append_assoc]; rfl⟩
def AncOk (ops : Array Oper) (A : List (List Nat)) : Prop := ∀ j o, ops[j]? = some o → ∀ i ∈ A.getD j [], ∃ e ∈ o.after, Region.binds .any e = true ∧ (e.on = i ∨ i ∈ A.getD e.on [])
theorem ancs_ok : ∀ (l : List Oper) (acc : List (List Nat)) (j : Nat) (o : Oper), l[j]? = some o → ∀ i ∈ (ancs l acc).getD (acc.length + j) [], ∃ e ∈ o.after, Region.binds .any e = true ∧ (e.on = i ∨ i ∈ (ancs l acc).getD e.on [])
 | [], _, j, _, h => by cases j <;> cases h
 | x :: l, acc, 0, o, h => by
  have hx : x = o := by simpa using h
  subst hx
  intro i hi
  obtain ⟨m, hm⟩ := ancs_pre l (acc ++ [ancOf x acc])
  have h1 : (ancs (x :: l) acc) = acc ++ ancOf x acc :: m := by rw [ancs, hm, List.append_assoc]; rfl
  rw [h1] at hi ⊢
  rw [Nat.add_zero, List.getD_eq_getElem?_getD, List.getElem?_append_right (Nat.le_refl _), Nat.sub_self] at hi
  simp only [List.getElem?_cons_zero, Option.getD_some] at hi
  rcases mem_dd hi with hi | hi
  ·obtain ⟨e, he, hi⟩ := List.mem_flatMap.1 hi
   rw [List.mem_filter] at he
   refine ⟨e, by simpa using he.1, he.2, ?_⟩
   rcases List.mem_cons.1 hi with hi | hi
   ·exact .inl hi.symm
   ·refine .inr ?_
    by_cases hlt : e.on < acc.length
    ·rw [List.getD_eq_getElem?_getD, List.getElem?_append_left hlt, ← List.getD_eq_getElem?_getD]; exact hi
    ·rw [List.getD_eq_getElem?_getD, List.getElem?_eq_none (by omega)] at hi; cases hi
  ·cases hi
 | x :: l, acc, j + 1, o, h => by
  intro i hi
  have := ancs_ok l (acc ++ [ancOf x acc]) j o (by simpa using h) i (by
   rw [List.length_append, List.length_singleton, show acc.length + 1 + j = acc.length + (j + 1) by omega]
   exact hi)
  exact this
def disj (l m : List Nat) : Bool := l.all fun r => !(hasN m r)
theorem disj_ok {l m : List Nat} (h : disj l m = true) : ∀ r ∈ l, r ∉ m := by
 intro r hr hm
 have := List.all_eq_true.1 h r hr
 rw [hasN_iff.2 hm] at this
 cases this
def okPair (ops : Array Oper) (R : RecT) (A : List (List Nat)) (i j : Nat) : Bool :=
 hasN (A.getD j []) i ||
 ((match ops[i]?, ops[j]? with | some oi, some oj => oi.apart ops oj | _, _ => true) &&
  disj (R.getD i ([], [])).2 (R.getD j ([], [])).1 && disj (R.getD i ([], [])).2 (R.getD j ([], [])).2 && disj (R.getD j ([], [])).2 (R.getD i ([], [])).1)
theorem okPair_ok {ops : Array Oper} {R : RecT} {A : List (List Nat)} {i j : Nat} (h : okPair ops R A i j = true) (hij : i ≠ j) (hn : i ∉ A.getD j []) : Apart ops R i j := by
 unfold okPair at h
 rw [Bool.or_eq_true] at h
 rcases h with h | h
 ·exact absurd (hasN_iff.1 h) hn
 ·rw [Bool.and_eq_true, Bool.and_eq_true, Bool.and_eq_true] at h
  obtain ⟨⟨⟨h1, h2⟩, h3⟩, h4⟩ := h
  refine ⟨hij, fun oi oj hi hj => ?_, fun r hr => ⟨disj_ok h2 r hr, disj_ok h3 r hr⟩, disj_ok h4⟩
  rw [hi, hj] at h1; exact h1
def pairs (n : Nat) (f : Nat → Nat → Bool) : Bool := (List.range n).all fun j => (List.range j).all fun i => f i j
theorem pairs_ok {n : Nat} {f : Nat → Nat → Bool} (h : pairs n f = true) {i j : Nat} (hj : j < n) (hi : i < j) : f i j = true :=
 List.all_eq_true.1 (List.all_eq_true.1 h j (List.mem_range.2 hj)) i (List.mem_range.2 hi)
def fwd (ops : Array Oper) : Bool := (List.range ops.size).all fun k => match ops[k]? with
 | some o => o.after.toList.all fun e => !(Region.binds .any e) || Nat.ble (e.on + 1) k
 | none => true
theorem fwd_ok {ops : Array Oper} (h : fwd ops = true) {k : Nat} {o : Oper} (ho : ops[k]? = some o) : ∀ e ∈ o.after, Region.binds .any e = true → e.on < k := by
 intro e he hb
 have hk : k < ops.size := (Array.getElem?_eq_some_iff.1 ho).1
 have := List.all_eq_true.1 h k (List.mem_range.2 hk)
 rw [ho] at this
 have := List.all_eq_true.1 this e (by simpa using he)
 rw [hb] at this
 exact Nat.le_of_ble_eq_true this
section
variable {P : Program} {C : Hints} {ops : Array Oper} {base : Nat} {R : RecT} {A : List (List Nat)} {K : St → Prop}
def Down (A : List (List Nat)) (listed : Array Bool) : Prop := ∀ k, listed.getD k false = true → ∀ i ∈ A.getD k [], listed.getD i false = true
theorem not_waits (hA : AncOk ops A) {listed : Array Bool} (hD : Down A listed) {i j : Nat} (hj : j ∈ Region.ready .any ops listed) (hi : listed.getD i false = false) : i ∉ A.getD j [] := by
 intro hm
 obtain ⟨_, o, ho, hall⟩ := mem_ready.1 hj
 obtain ⟨e, he, hb, h⟩ := hA j o ho i hm
 have h1 := hall e he hb
 rcases h with h | h
 ·rw [h, hi] at h1; cases h1
 ·rw [hD e.on h1 i h] at hi; cases hi
theorem down_set (hA : AncOk ops A) {listed : Array Bool} (hD : Down A listed) {j : Nat} (hj : j ∈ Region.ready .any ops listed) : Down A (listed.setIfInBounds j true) := by
 intro k hk i hi
 by_cases hkj : k = j
 ·subst hkj
  cases hl : listed.getD i false with
  | true => exact getD_set_true hl
  | false => exact absurd hi (not_waits hA hD hj hl)
 ·rw [getD_set_ne false (Ne.symm hkj)] at hk
  exact getD_set_true (hD k hk i hi)
theorem false_of_true {listed : Array Bool} {i : Nat} (h : listed.getD i true = false) : listed.getD i false = false := by
 rcases Nat.lt_or_ge i listed.size with h' | h'
 ·simp [h'] at h ⊢; exact h
 ·simp [Array.getElem?_eq_none h'] at h
theorem sym_first (hA : AncOk ops A) {i : Nat} {di : StepD} (hst : ∀ j, i < j → j < ops.size → okPair ops R A i j = true) : ∀ (fuel : Nat) (listed : Array Bool) (s : St),
  Down A listed → (∀ j, j < i → listed.getD j false = true) → i ∈ Region.ready .any ops listed → dataOf P C ops base R i s = some di → all di.obl →
  symAny P C ops base R K fuel (listed.setIfInBounds i true) (applyD di s) → symAny P C ops base R K (fuel + 1) listed s := by
 intro fuel
 induction fuel with
 | zero =>
  intro listed s hD hlow hr hd ho H
  refine ⟨fun h => (by rw [h] at hr; cases hr), fun j hj => ?_⟩
  by_cases hji : j = i
  ·subst hji; exact ⟨di, hd, ho, H⟩
  ·have := ready_mono hj hji
   rw [H.1] at this
   cases this
 | succ fuel ih =>
  intro listed s hD hlow hr hd ho H
  refine ⟨fun h => (by rw [h] at hr; cases hr), fun j hj => ?_⟩
  by_cases hji : j = i
  ·subst hji; exact ⟨di, hd, ho, H⟩
  ·obtain ⟨dj, h1, h2, h3⟩ := H.2 j (ready_mono hj hji)
   have hi0 := false_of_true (mem_ready.1 hr).1
   have hj0 := false_of_true (mem_ready.1 hj).1
   have hij : i < j := by
    rcases Nat.lt_or_ge i j with h | h
    ·exact h
    ·rw [hlow j (by omega)] at hj0; cases hj0
   have hjn : j < ops.size := by
    obtain ⟨_, o, ho, _⟩ := mem_ready.1 hj
    exact (Array.getElem?_eq_some_iff.1 ho).1
   have hAp := okPair_ok (hst j hij hjn) (Ne.symm hji) (not_waits hA hD hj hi0)
   have hdj : dataOf P C ops base R j s = some dj := by rw [← data_behind hAp (data_facts hd)]; exact h1
   have hdi : dataOf P C ops base R i (applyD dj s) = some di := by rw [data_behind hAp.symm (data_facts hdj)]; exact hd
   refine ⟨dj, hdj, h2, ih (listed.setIfInBounds j true) (applyD dj s) (down_set hA hD hj) (fun k hk => getD_set_true (hlow k hk)) (ready_mono hr (Ne.symm hji)) hdi ho ?_⟩
   rw [Array.setIfInBounds_comm _ _ hji, apply_comm hAp (data_facts hd) (data_facts hdj)]
   exact h3
def runL (P : Program) (C : Hints) (ops : Array Oper) (base : Nat) (R : RecT) : Nat → Nat → St → Option (List Prop × St)
 | 0, _, s => some ([], s)
 | m + 1, k, s => match dataOf P C ops base R k s with
  | none => none
  | some d => match runL P C ops base R m (k + 1) (applyD d s) with
   | none => none
   | some (ob, t) => some (d.obl ++ ob, t)
theorem sym_lex (hA : AncOk ops A) (hf : fwd ops = true) (hp : pairs ops.size (okPair ops R A) = true) : ∀ (m k : Nat) (listed : Array Bool) (s t : St) (ob : List Prop), k + m = ops.size → listed.size = ops.size →
  (∀ j, j < ops.size → listed[j]? = some (decide (j < k))) → Down A listed → runL P C ops base R m k s = some (ob, t) → all ob → K t → symAny P C ops base R K m listed s
 | 0, k, listed, s, t, ob, hk, hsz, hl, hD, hr, ho, hK => by
  cases hr
  refine ⟨?_, hK⟩
  cases hq : Region.ready .any ops listed with
  | nil => rfl
  | cons j js =>
   have hj : j ∈ Region.ready .any ops listed := by rw [hq]; exact List.mem_cons_self ..
   obtain ⟨h0, o, hoo, _⟩ := mem_ready.1 hj
   have hjn : j < ops.size := (Array.getElem?_eq_some_iff.1 hoo).1
   have := hl j hjn
   rw [Array.getD_eq_getD_getElem?, this] at h0
   simp at h0; omega
 | m + 1, k, listed, s, t, ob, hk, hsz, hl, hD, hr, ho, hK => by
  unfold runL at hr
  cases hd : dataOf P C ops base R k s with
  | none => rw [hd] at hr; cases hr
  | some d =>
   rw [hd] at hr
   simp only at hr
   cases hr2 : runL P C ops base R m (k + 1) (applyD d s) with
   | none => rw [hr2] at hr; cases hr
   | some y =>
    obtain ⟨ob2, t2⟩ := y
    rw [hr2] at hr
    cases hr
    obtain ⟨ho1, ho2⟩ := all_append.1 ho
    obtain ⟨o, hoo, _⟩ := (data_facts hd).op
    have hkn : k < ops.size := by omega
    have hrdy : k ∈ Region.ready .any ops listed := by
     refine mem_ready.2 ⟨?_, o, hoo, fun e he hb => ?_⟩
     ·rw [Array.getD_eq_getD_getElem?, hl k hkn]; simp
     ·have := fwd_ok hf hoo e he hb
      rw [Array.getD_eq_getD_getElem?, hl e.on (by omega)]; simp [this]
    refine sym_first hA (fun j hij hjn => pairs_ok hp hjn hij) m listed s hD (fun j hj => by rw [Array.getD_eq_getD_getElem?, hl j (by omega)]; simp [hj]) hrdy hd ho1 ?_
    refine sym_lex hA hf hp m (k + 1) _ _ t ob2 (by omega) (by simp [hsz]) (fun j hj => ?_) (down_set hA hD hrdy) hr2 ho2 hK
    rw [Array.getElem?_setIfInBounds]
    by_cases hjk : k = j
    ·subst hjk; simp [hsz, hj]
    ·rw [if_neg hjk, hl j hj]
     congr 1
     by_cases h : j < k
     ·simp [h]; omega
     ·simp [h]; omega
def recL (P : Program) (C : Hints) (ops : Array Oper) (base : Nat) : Nat → Nat → St → RecT
 | 0, _, _ => []
 | m + 1, k, s => match ops[k]? with
  | none => []
  | some o => match guardOk C (base + k) s ops o with
   | some (_, true) => match evalL s o.op.operands.toList with
    | none => []
    | some args => match eff P C (base + k) o.op args (rwOf s.row (touch C (base + k) o.op args)) with
     | none => []
     | some e => (touch C (base + k) o.op args, e.puts.map (·.1) ++ e.dels) ::
       recL P C ops base m (k + 1) (applyD ⟨e.obl, o.dst, (match retag C (base + k) s.kn e.val with | some y => y.2 | none => e.val), e.puts.map (fun p => (p.1, some p.2)) ++ e.dels.map (fun r => (r, none)), bif (e.puts.any fun p => Nat.beq p.1 (base + k)) then some (base + k) else none⟩ s)
   | _ => ([], []) :: recL P C ops base m (k + 1) (applyD ⟨[], o.dst, .s .un, [], none⟩ s)
def noDef (ops : Array Oper) : Bool := ops.toList.all fun o => match o.op with
 | .defer _ => false
 | _ => true
theorem noDef_ok {ops : Array Oper} (h : noDef ops = true) {i : Nat} {o : Oper} (ho : ops[i]? = some o) : ∀ c, o.op ≠ .defer c := by
 intro c hc
 have := List.all_eq_true.1 h o (List.mem_of_getElem? (by simpa using ho))
 rw [hc] at this
 cases this
def regRun (P : Program) (C : Hints) (ops : Array Oper) (base : Nat) (draw : Bool) (s : St) : Option (List Prop × St) :=
 let R := recL P C ops base ops.size 0 s
 bif noDef ops then
  bif draw then
   bif fwd ops && pairs ops.size (okPair ops R (ancs ops.toList [])) then runL P C ops base R ops.size 0 s else none
  else runL P C ops base R ops.size 0 s
 else none
theorem seq_ok {Q : Exit → Act → World → Prop} {w0 : World} {wr : Bs} {t : St} (hC : ∀ id c, C id = some c → HintAt P w0 wr id c)
  (hQ : ∀ a w ρ, Den w0 wr ρ t a w → Q .normal a w) : ∀ (m k : Nat) (s : St) (a : Act) (w : World) (ρ : Env) (ob : List Prop), runL P C ops base R m k s = some (ob, t) → all ob → Den w0 wr ρ s a w → wpOps P ops Q (List.range' k m) a w
 | 0, k, s, a, w, ρ, ob, hr, ho, hd => by cases hr; exact hQ _ _ _ hd
 | m + 1, k, s, a, w, ρ, ob, hr, ho, hd => by
  unfold runL at hr
  cases hdt : dataOf P C ops base R k s with
  | none => rw [hdt] at hr; cases hr
  | some d =>
   rw [hdt] at hr
   simp only at hr
   cases hr2 : runL P C ops base R m (k + 1) (applyD d s) with
   | none => rw [hr2] at hr; cases hr
   | some y =>
    obtain ⟨ob2, t2⟩ := y
    rw [hr2] at hr
    cases hr
    obtain ⟨ho1, ho2⟩ := all_append.1 ho
    rw [List.range'_succ, wpOps_cons]
    exact step_ok hC hdt ho1 hd fun a' w' ρ' hd' => seq_ok hC hQ m (k + 1) _ a' w' ρ' ob2 hr2 ho2 hd'
theorem den_drew {w0 : World} {wr : Bs} {ρ : Env} {s : St} {a : Act} {w : World} (h : Den w0 wr ρ s a w) : Den w0 wr ρ s a { w with drawn := w.drawn + 1 } :=
 ⟨h.sz, h.df, h.mf, ⟨h.ko.size, h.ko.same⟩, h.tm, h.rw, h.ds, ⟨h.fr.os, h.fr.tape, h.fr.output, h.fr.size, h.fr.block⟩, h.e0, h.ku, h.gl, h.kn⟩
def FW (r : Option Nat) : Fence := { Fence.wide with round := r }
theorem fenced_FW {r : Option Nat} (P : Program) (m : Machine) : m.fenced P (FW r) := fenced_wide P m
theorem stepsIn_FW {r : Option Nat} {P : Program} {m m' : Machine} : StepsIn (Machine.fenced P (FW r)) P m m' ↔ Steps P m m' :=
 ⟨StepsIn.steps, fun h => (StepsIn.of_steps h).mono fun m _ => fenced_FW P m⟩
theorem room_FW {r : Option Nat} (n : Nat) : (FW r).room n := fun _ h => by simp [FW, Fence.wide] at h
theorem callsIn_FW {r : Option Nat} {n : Nat} {P : Program} {f : FuncId} {args : Array Value} {w : World} {R : Ending → World → Prop} (h : Calls P f args w R) : CallsIn (FW r) n P f args w R :=
 (callsIn_wide (n := n)).2 h
theorem wpIn_of_wp {r : Option Nat} {n : Nat} {o : Oper} {a : Act} {w : World} {K : Act → World → Prop} {Q : Exit → Act → World → Prop} (hd : ∀ c, o.op ≠ .defer c) (h : o.wp P a w K Q) : o.wpIn (FW r) n P a w K Q := by
 refine ⟨fun _ _ => trivial, ?_⟩
 rw [Oper.semAt_eq _ _ _ hd]
 unfold Oper.wp at h
 revert h
 generalize (execOp a.eval o).run P w = res
 intro h
 cases res with
 | ok x w' =>
  cases x with
  | value v => exact h
  | skip => exact h
  | defer d => exact h
  | enter f args => exact ⟨fun h => by simp [FW, Fence.wide] at h, callsIn_FW h⟩
  | row row args => exact ⟨fun h => by simp [FW, Fence.wide] at h, fun c cs _ => let ⟨v, w', h1, h2⟩ := h c cs; ⟨v, w', h1, stepsIn_FW.2 h2⟩⟩
  | _ => exact h.elim
 | halt x w' => cases x <;> first | exact h | exact h.elim
theorem wpOpIn_of {r : Option Nat} {n i : Nat} {a : Act} {w : World} {K K' : Act → World → Prop} {Q : Exit → Act → World → Prop} (hn : noDef ops = true) (hL : ¬ LetsOut Q) (hK : ∀ a w, K a w → K' a w) (h : wpOp P ops Q i K a w) : wpOpIn (FW r) n P ops Q i K' a w := by
 unfold wpOp at h
 unfold wpOpIn
 cases hk : ops[i]? with
 | none => rw [hk] at h; exact hK _ _ h
 | some o =>
  rw [hk] at h
  simp only at h ⊢
  split
  ·rename_i hw
   rw [if_pos hw] at h
   rcases h with h | h
   ·exact Oper.wpIn_mono hK (wpIn_of_wp (noDef_ok hn hk) h)
   ·exact absurd h.2 hL
  ·rename_i hw
   rw [if_neg hw] at h
   exact ⟨fun _ _ => trivial, hK _ _ h⟩
theorem wpOpsIn_of {r : Option Nat} {n : Nat} {Q : Exit → Act → World → Prop} (hn : noDef ops = true) (hL : ¬ LetsOut Q) : ∀ (l : List Nat) (a : Act) (w : World), wpOps P ops Q l a w → wpOpsIn (FW r) n P ops Q l a w
 | [], _, _, h => h
 | i :: l, a, w, h => by
  rw [wpOps_cons] at h
  rw [wpOpsIn_cons]
  exact wpOpIn_of hn hL (fun a w h => wpOpsIn_of hn hL l a w h) h
theorem wpAnyIn_of {r : Option Nat} {n : Nat} {Q : Exit → Act → World → Prop} (hn : noDef ops = true) (hL : ¬ LetsOut Q) : ∀ (fuel : Nat) (listed : Array Bool) (a : Act) (w : World), wpAny P .any ops Q fuel listed a w → wpAnyIn (FW r) n P .any ops Q fuel listed a w
 | 0, _, _, _, h => h
 | fuel + 1, _, _, _, h => ⟨h.1, fun i hi => wpOpIn_of hn hL (fun a w h => wpAnyIn_of hn hL fuel _ a w h) (h.2 i hi)⟩
theorem region_ok {rid : Nat} {draw : Bool} {ro : Option Nat} {n : Nat} {K : Act → World → Prop} {w0 : World} {wr : Bs} {ρ : Env} {s t : St} {a : Act} {w : World} {ob : List Prop} (hm : P.follows .mixedOrders = true) (hC : ∀ id c, C id = some c → HintAt P w0 wr id c)
  (hr : regRun P C ops base draw s = some (ob, t)) (ho : all ob) (hd : Den w0 wr ρ s a w) (hK : ∀ a w ρ, Den w0 wr ρ t a w → K a w) : (Code.region rid ops draw).wpIn (FW ro) n P (fun e a w => e = .normal ∧ K a w) a w := by
 have hL : ¬ LetsOut (fun e a w => e = .normal ∧ K a w) := fun ⟨_, _, h, _⟩ => by cases h
 unfold regRun at hr
 cases hnd : noDef ops with
 | false => rw [hnd] at hr; cases hr
 | true =>
 rw [hnd] at hr
 simp only [cond_true] at hr
 cases draw with
 | false =>
  refine wpIn_region (wpOpsIn_of hnd hL _ _ _ ?_)
  rw [List.range_eq_range']
  exact seq_ok hC (fun a w ρ hd => ⟨rfl, hK a w ρ hd⟩) _ _ _ _ _ _ _ hr ho hd
 | true =>
  simp only [cond_true] at hr
  cases hb : (fwd ops && pairs ops.size (okPair ops (recL P C ops base ops.size 0 s) (ancs ops.toList []))) with
  | false => rw [hb] at hr; cases hr
  | true =>
   rw [hb] at hr
   rw [Bool.and_eq_true] at hb
   refine wpIn_region_any hm (wpAnyIn_of hnd hL _ _ _ _ (any_of_sym (base := base) (R := recL P C ops base ops.size 0 s) (K := fun x => x = t) hC (fun x a w ρ hx hd => ⟨rfl, hK a w ρ (hx ▸ hd)⟩) _ _ _ _ _ ρ (den_drew hd) ?_))
   refine sym_lex (A := ancs ops.toList []) ?_ hb.1 hb.2 _ 0 _ _ _ _ (by simp) (by simp) (fun j hj => by simp [hj]) ?_ hr ho rfl
   ·intro j o hj i hi
    have := ancs_ok ops.toList [] j o (by simpa using hj) i (by simpa using hi)
    exact this
   ·intro k hk i hi
    rcases Nat.lt_or_ge k ops.size with h | h
    ·simp [h] at hk
    ·simp [h] at hk
end
end Go.Proofs.YtdbbcngolcnniaaGreatDoor.E
/- A run of a function's code over symbolic states, up to its loops. No condition. -/
namespace Go.Proofs.YtdbbcngolcnniaaGreatDoor.E
open Go Go.RowKit
set_option linter.unusedVariables false
set_option linter.unusedSimpArgs false
theorem exitTo_append {id : Nat} {k : List Item} : ∀ {t t' : List Item}, exitTo id t = some t' → exitTo id (t ++ k) = some (t' ++ k)
 | [], _, h => by cases h
 | x :: t, t', h => by
  cases x <;> simp only [List.cons_append, exitTo] at h ⊢ <;> first | exact exitTo_append h | skip
  split at h
  ·rename_i hb
   rw [if_pos hb]
   cases h; rfl
  ·rename_i hb
   rw [if_neg hb]
   exact exitTo_append h
theorem exitTo_none {id : Nat} {k : List Item} : ∀ {t : List Item}, exitTo id t = none → exitTo id (t ++ k) = exitTo id k
 | [], _ => rfl
 | x :: t, h => by
  cases x <;> simp only [List.cons_append, exitTo] at h ⊢ <;> first | exact exitTo_none h | skip
  split at h
  ·cases h
  ·rename_i hb
   rw [if_neg hb]
   exact exitTo_none h
theorem gotoIn_append {id : Nat} {k : List Item} : ∀ {t t' : List Item}, gotoIn id t = some t' → gotoIn id (t ++ k) = some (t' ++ k)
 | [], _, h => by cases h
 | x :: t, t', h => by
  cases x <;> simp only [List.cons_append, gotoIn] at h ⊢ <;> first | exact gotoIn_append h | skip
  split at h
  ·cases h; rfl
  ·exact gotoIn_append h
def KX (P : Program) (r : Option Nat) (todo : List Item) (Q : Exit → Act → World → Prop) (a : Act) (w : World) : Prop :=
 ∀ (b : Frame) (k : List Item) (cs : List Frame), b.roundOf = r → ∃ e a' w', Q e a' w' ∧ ArrivesIn (Machine.fenced P (FW r)) P (lone (b.atR a (todo ++ k)) cs w) b k cs e a' w'
section
variable {P : Program} {r : Option Nat} {Q : Exit → Act → World → Prop} {a : Act} {w : World} {k : List Item}
theorem KX.step {t t' : List Item} (hs : ∀ (b : Frame) (k : List Item) (cs : List Frame), b.roundOf = r → step P (lone (b.atR a (t ++ k)) cs w) = .next (lone (b.atR a (t' ++ k)) cs w)) (h : KX P r t' Q a w) : KX P r t Q a w := fun b k cs hb =>
 let ⟨e, a', w', q, r⟩ := h b k cs hb
 ⟨e, a', w', q, .of_steps (.one (fenced_FW _ _) (hs b k cs hb)) r⟩
theorem KX.nil (h : Q .normal a w) : KX P r [] Q a w := fun b k cs _ => ⟨.normal, a, w, h, .refl _⟩
theorem KX.ret (h : Q .ret a w) : KX P r (.code .ret :: k) Q a w := fun b k cs hb =>
 ⟨.ret, a, w, h, fun hn => ⟨_, .one (fenced_FW _ _) (stepR_ret hn)⟩, fun _ => ⟨_, .refl _⟩⟩
theorem KX.exit {id : Nat} (hk : exitTo id k = none) (h : Q (.exit id) a w) : KX P r (.code (.exit id) :: k) Q a w := fun b k2 cs hb =>
 ⟨.exit id, a, w, h, fun k' h2 => .one (fenced_FW _ _) (stepR_exit (by rw [← exitTo_none (k := k2) hk] at h2; exact h2)), fun _ h2 => ⟨k ++ k2, by rw [exitTo_none hk]; exact h2, .refl _⟩⟩
theorem KX.code {c : Code} {K : Act → World → Prop} {n : Nat} (h : c.wpIn (FW r) n P (fun e a w => e = .normal ∧ K a w) a w) (hK : ∀ a w, K a w → KX P r k Q a w) : KX P r (.code c :: k) Q a w := by
 intro b k2 cs hb
 obtain ⟨e, a1, w1, ⟨rfl, hk⟩, harr⟩ := h b (k ++ k2) cs hb trivial (room_FW _)
 obtain ⟨e2, a', w', q, r⟩ := hK _ _ hk b k2 cs hb
 exact ⟨e2, a', w', q, .of_steps harr r⟩
theorem KX.wpIn {c : Code} {n : Nat} (h : KX P r [.code c] Q a w) : c.wpIn (FW r) n P Q a w := fun b k cs hb _ _ => h b k cs hb
theorem KX.mono {Q' : Exit → Act → World → Prop} {t : List Item} (h : KX P r t Q a w) (hq : ∀ e a w, Q e a w → Q' e a w) : KX P r t Q' a w := fun b k cs hb =>
 let ⟨e, a', w', q, r⟩ := h b k cs hb; ⟨e, a', w', hq _ _ _ q, r⟩
theorem KX.loop {α : Type} {c : Code} (D : α → Act → World → Prop) (μ : α → Nat)
  (h : ∀ x, (∀ y, μ y < μ x → ∀ a w, D y a w → KX P r (.code c :: .inLoop c :: k) Q a w) → ∀ a w, D x a w → KX P r (.code c :: .inLoop c :: k) Q a w) : ∀ x a w, D x a w → KX P r (.code c :: .inLoop c :: k) Q a w := by
 have key : ∀ n x, μ x = n → ∀ a w, D x a w → KX P r (.code c :: .inLoop c :: k) Q a w := by
  intro n
  induction n using Nat.strongRecOn with
  | _ n ih =>
   intro x hx a w hD
   exact h x (fun y hy => ih (μ y) (hx ▸ hy) y rfl) a w hD
 exact fun x a w hD => key _ x rfl a w hD
end
theorem stepR_scope {P : Program} {b : Frame} {a : Act} {k : List Item} {cs : List Frame} {w : World} {c : Code} : step P (lone (b.atR a (.code (.scope c) :: k)) cs w) = .next (lone (b.atR a (.code c :: .inScope c :: k)) cs w) :=
 step_lone_go (by simp [stepG, stepG.exec, Frame.atR])
theorem stepR_inScope {P : Program} {b : Frame} {a : Act} {k : List Item} {cs : List Frame} {w : World} {c : Code} : step P (lone (b.atR a (.inScope c :: k)) cs w) = .next (lone (b.atR a k) cs w) :=
 step_lone_go (by simp [stepG, stepG.exec, Frame.atR])
inductive Ch where
 | y | n | d | u
inductive End where
 | at (t : List Item)
 | fin (e : Exit)
abbrev Res := Option (List Prop × End × St)
def addO (ob : List Prop) (r : Res) : Res :=
 match r with
 | some (o, t, s) => some (ob ++ o, t, s)
 | none => none
def go (P : Program) (C : Hints) : Nat → List Ch → List Item → St → Res
 | 0, _, _, _ => none
 | f + 1, π, todo, s =>
  match todo with
  | [] => some ([], .fin .normal, s)
  | .code c :: k => match c with
   | .skip => go P C f π k s
   | .label _ => go P C f π k s
   | .ret => some ([], .fin .ret, s)
   | .seq x y => go P C f π (.code x :: .code y :: k) s
   | .block id x => go P C f π (.code x :: .inBlock id :: k) s
   | .scope x => go P C f π (.code x :: .inScope x :: k) s
   | .exit id => match exitTo id k with
    | some k' => go P C f π k' s
    | none => some ([], .fin (.exit id), s)
   | .goto l => match gotoIn l k with
    | some k' => go P C f π k' s
    | none => none
   | .cond c x y => match π with
    | [] => some ([], .at (.code (.cond c x y) :: k), s)
    | ch :: π => match evalO s c with
     | some (.s (.lf (.v (.bool b)))) => match ch with
      | .y => addO [b = true] (go P C f π (.code x :: k) s)
      | .n => addO [b = false] (go P C f π (.code y :: k) s)
      | _ => go P C f π (.code (bif b then x else y) :: k) s
     | _ => none
   | .loop x => match π with
    | .u :: π => go P C f π (.code x :: .inLoop x :: k) s
    | _ => some ([], .at (.code x :: .inLoop x :: k), s)
   | .region id ops draw => match regRun P C ops (1000 + id * 1000) draw s with
    | some (ob, t) => addO ob (go P C f π k t)
    | none => some ([], .at (.code (.region id ops draw) :: k), s)
   | c => some ([], .at (.code c :: k), s)
  | .inBlock _ :: k => go P C f π k s
  | .inScope _ :: k => go P C f π k s
  | .inLoop x :: k => match π with
   | .u :: π => go P C f π (.code x :: .inLoop x :: k) s
   | _ => some ([], .at (.code x :: .inLoop x :: k), s)
  | t => some ([], .at t, s)
def KW (P : Program) (r : Option Nat) (e : End) (Q : Exit → Act → World → Prop) (a : Act) (w : World) : Prop :=
 match e with
 | .fin e => Q e a w
 | .at t => KX P r t Q a w
theorem go_ok {P : Program} {C : Hints} {r : Option Nat} {w0 : World} {wr : Bs} {Q : Exit → Act → World → Prop} (hm : P.follows .mixedOrders = true) (hC : ∀ id c, C id = some c → HintAt P w0 wr id c) : ∀ (f : Nat) (π : List Ch) (todo : List Item) (s : St) (ob : List Prop) (e : End) (t : St),
  go P C f π todo s = some (ob, e, t) → all ob → (∀ a w ρ, Den w0 wr ρ t a w → KW P r e Q a w) → ∀ a w ρ, Den w0 wr ρ s a w → KX P r todo Q a w := by
 intro f
 induction f with
 | zero => intro π todo s ob e t h; cases h
 | succ f ih =>
  intro π todo s ob e t h ho hK a w ρ hd
  have stop : (some (([], .at todo, s) : List Prop × End × St) = some (ob, e, t)) → KX P r todo Q a w := by
   intro h
   cases h
   exact hK a w ρ hd
  have stopL : ∀ x k, (some (([], .at (.code x :: .inLoop x :: k), s) : List Prop × End × St) = some (ob, e, t)) → KX P r (.code x :: .inLoop x :: k) Q a w := by
   intro x k h
   cases h
   exact hK a w ρ hd
  have addo : ∀ (o1 : List Prop) (r : Res), addO o1 r = some (ob, e, t) → ∃ o2, r = some (o2, e, t) ∧ all o1 ∧ all o2 := by
   intro o1 r h
   cases r with
   | none => cases h
   | some y =>
    obtain ⟨o2, t2, s2⟩ := y
    cases h
    exact ⟨o2, rfl, all_append.1 ho⟩
  unfold go at h
  cases todo with
  | nil => cases h; exact KX.nil (hK a w ρ hd)
  | cons it k =>
   cases it with
   | code c =>
    cases c with
    | skip => exact KX.step (fun b k cs _ => stepR_skip) (ih _ _ _ _ _ _ h ho hK a w ρ hd)
    | label l => exact KX.step (fun b k cs _ => stepR_label) (ih _ _ _ _ _ _ h ho hK a w ρ hd)
    | ret => cases h; exact KX.ret (hK a w ρ hd)
    | seq x y => exact KX.step (fun b k cs _ => stepR_seq) (ih _ _ _ _ _ _ h ho hK a w ρ hd)
    | block id x => exact KX.step (fun b k cs _ => stepR_block) (ih _ _ _ _ _ _ h ho hK a w ρ hd)
    | scope x => exact KX.step (fun b k cs _ => stepR_scope) (ih _ _ _ _ _ _ h ho hK a w ρ hd)
    | exit id =>
     try simp only at h
     cases he : exitTo id k with
     | none => rw [he] at h; cases h; exact KX.exit he (hK a w ρ hd)
     | some k' => rw [he] at h; exact KX.step (fun b k2 cs _ => stepR_exit (exitTo_append he)) (ih _ _ _ _ _ _ h ho hK a w ρ hd)
    | goto l =>
     try simp only at h
     cases he : gotoIn l k with
     | none => rw [he] at h; cases h
     | some k' => rw [he] at h; exact KX.step (fun b k2 cs _ => stepR_goto (gotoIn_append he)) (ih _ _ _ _ _ _ h ho hK a w ρ hd)
    | cond c x y =>
     cases π with
     | nil => exact stop h
     | cons ch π =>
      try simp only at h
      cases he : evalO s c with
      | none => rw [he] at h; cases h
      | some tv =>
       rw [he] at h
       try simp only at h
       split at h
       ·rename_i b hb
        cases hb
        have hev := (evalO_ok hd he).1
        cases ch with
        | y =>
         obtain ⟨o2, h2, h3, h4⟩ := addo _ _ h
         have hb : b = true := h3.1
         subst hb
         exact KX.step (fun b k cs _ => stepR_cond hev) (ih _ _ _ _ _ _ h2 h4 hK a w ρ hd)
        | n =>
         obtain ⟨o2, h2, h3, h4⟩ := addo _ _ h
         have hb : b = false := h3.1
         subst hb
         exact KX.step (fun b k cs _ => stepR_cond hev) (ih _ _ _ _ _ _ h2 h4 hK a w ρ hd)
        | d =>
         refine KX.step (t' := .code (if b then x else y) :: k) (fun b k cs _ => stepR_cond hev) ?_
         have := ih _ _ _ _ _ _ h ho hK a w ρ hd
         cases b <;> exact this
        | u =>
         refine KX.step (t' := .code (if b then x else y) :: k) (fun b k cs _ => stepR_cond hev) ?_
         have := ih _ _ _ _ _ _ h ho hK a w ρ hd
         cases b <;> exact this
       ·cases h
    | loop x =>
     refine KX.step (t' := .code x :: .inLoop x :: k) (fun b k cs _ => stepR_loop) ?_
     cases π with
     | nil => exact stopL x k h
     | cons ch π =>
      cases ch with
      | u => exact ih _ _ _ _ _ _ h ho hK a w ρ hd
      | y => exact stopL x k h
      | n => exact stopL x k h
      | d => exact stopL x k h
    | region id ops draw =>
     try simp only at h
     cases hr : regRun P C ops (1000 + id * 1000) draw s with
     | none => rw [hr] at h; exact stop h
     | some y =>
      obtain ⟨o1, s1⟩ := y
      rw [hr] at h
      obtain ⟨o2, h2, h3, h4⟩ := addo _ _ h
      exact KX.code (n := 0) (region_ok (K := fun a w => ∃ ρ, Den w0 wr ρ s1 a w) hm hC hr h3 hd fun a1 w1 ρ1 hd1 => ⟨ρ1, hd1⟩) fun a1 w1 ⟨ρ1, hd1⟩ => ih _ _ _ _ _ _ h2 h4 hK a1 w1 ρ1 hd1
    | rangeFunc f ps az bd => exact stop h
    | refuse y => exact stop h
   | inBlock id => exact KX.step (fun b k cs _ => stepR_inBlock) (ih _ _ _ _ _ _ h ho hK a w ρ hd)
   | inScope c => exact KX.step (fun b k cs _ => stepR_inScope) (ih _ _ _ _ _ _ h ho hK a w ρ hd)
   | inLoop x =>
    refine KX.step (t' := .code x :: .inLoop x :: k) (fun b k cs _ => stepR_inLoop) ?_
    cases π with
    | nil => exact stopL x k h
    | cons ch π =>
     cases ch with
     | u => exact ih _ _ _ _ _ _ h ho hK a w ρ hd
     | y => exact stopL x k h
     | n => exact stopL x k h
     | d => exact stopL x k h
   | _ => exact stop h
def resF (a : Act) : ResultVar → Sem Value
 | .tmp t => pure (a.tmps.getD t undef)
 | .cell t ty => do loadVar ty (← asAddr (a.tmps.getD t undef))
def resOf (P : Program) (s : St) (r : ResultVar) : Option (List Prop × SV) :=
 match r with
 | .tmp t => match s.tmps t with
  | some (.s x) => some ([], x)
  | _ => none
 | .cell t ty => match s.tmps t with
  | some (.s (.lf (.ptr r b i k j))) => match s.row r, tyI P ty with
   | some row, some (sz, ag) => getP row.ps b i k j sz ag
   | _, _ => none
  | _ => none
def resL (P : Program) (s : St) : List ResultVar → Option (List Prop × List SV)
 | [] => some ([], [])
 | r :: l => match resOf P s r, resL P s l with
  | some (o1, x), some (o2, m) => some (o1 ++ o2, x :: m)
  | _, _ => none
def resT (P : Program) (s : St) (l : List ResultVar) : Option (List Prop × TV) :=
 match resL P s l with
 | some (ob, [x]) => some (ob, .s x)
 | some (ob, m) => some (ob, .tup m)
 | none => none
theorem resOf_ok {P : Program} {w0 : World} {wr : Bs} {ρ : Env} {s : St} {a : Act} {w : World} {r : ResultVar} {ob : List Prop} {x : SV} (hd : Den w0 wr ρ s a w) (h : resOf P s r = some (ob, x)) (ho : all ob) :
  (resF a r).run P w = .ok (x.val ρ) w ∧ x.ok := by
 cases r with
 | tmp t =>
  simp only [resOf] at h
  split at h
  ·rename_i y hy
   cases h
   obtain ⟨h1, h2, _⟩ := hd.tm t _ hy
   refine ⟨?_, h2⟩
   simp [resF, Array.getD_eq_getD_getElem?, h1, TV.val]
  ·cases h
 | cell t ty =>
  simp only [resOf] at h
  split at h
  ·rename_i q b i k j hy
   obtain ⟨h1, h2, _⟩ := hd.tm t _ hy
   split at h
   ·rename_i row sz ag hr ht
    obtain ⟨g1, g2, _⟩ := hd.rw q row hr
    have hG := getP_ok (ρ := ρ) g2 h ho
    refine ⟨?_, hG.ok⟩
    simp [resF, Array.getD_eq_getD_getElem?, h1, TV.val, SV.val, Lf.val, asAddr, getOk_load ht g1 hG]
   ·cases h
  ·cases h
theorem resL_ok {P : Program} {w0 : World} {wr : Bs} {ρ : Env} {s : St} {a : Act} {w : World} (hd : Den w0 wr ρ s a w) : ∀ {l : List ResultVar} {ob : List Prop} {m : List SV}, resL P s l = some (ob, m) → all ob →
  (l.mapM (resF a)).run P w = .ok (m.map (SV.val ρ)) w ∧ ∀ x ∈ m, x.ok
 | [], ob, m, h, ho => by cases h; exact ⟨rfl, fun x hx => by cases hx⟩
 | r :: l, ob, m, h, ho => by
  unfold resL at h
  split at h
  ·rename_i o1 x o2 m2 h1 h2
   cases h
   obtain ⟨ho1, ho2⟩ := all_append.1 ho
   obtain ⟨g1, g2⟩ := resOf_ok hd h1 ho1
   obtain ⟨e1, e2⟩ := resL_ok hd h2 ho2
   refine ⟨?_, fun y hy => ?_⟩
   ·rw [List.mapM_cons, Sem.run_bind]
    rw [g1, Result.andThen_ok, Sem.run_bind, e1]
    rfl
   ·rcases List.mem_cons.1 hy with rfl | hy
    ·exact g2
    ·exact e2 y hy
  ·cases h
theorem resT_ok {P : Program} {w0 : World} {wr : Bs} {ρ : Env} {s : St} {a : Act} {w : World} {fn : Func} {ob : List Prop} {x : TV} (hd : Den w0 wr ρ s a w) (h : resT P s fn.results.toList = some (ob, x)) (ho : all ob) :
  (results fn a.tmps).run P w = .ok (x.val ρ) w ∧ x.ok := by
 show ((fn.results.mapM (resF a)) >>= fun vs => pure (if h : vs.size = 1 then vs[0] else .tuple vs)).run P w = _ ∧ _
 rw [Sem.run_bind, Array.mapM_eq_mapM_toList, Sem.run_map]
 unfold resT at h
 split at h
 ·rename_i o1 y h1
  cases h
  obtain ⟨g1, g2⟩ := resL_ok hd h1 ho
  rw [g1]
  exact ⟨rfl, g2 y (by simp)⟩
 ·rename_i o1 m hne h1
  cases h
  obtain ⟨g1, g2⟩ := resL_ok hd h1 ho
  rw [g1]
  refine ⟨?_, g2⟩
  simp only [Result.andThen_ok, Sem.run_pure]
  rw [dif_neg]
  ·rfl
  ·simp
   intro hl
   obtain ⟨y, rfl⟩ := List.length_eq_one_iff.1 hl
   exact hne y rfl
 ·cases h
def shut : List Nat → World → World
 | [], w => w
 | D :: l, w => shut l (w.putObj D (.deferred none))
theorem leaves_marks {P : Program} {fn : Func} {tmps : Array Value} {R : Ending → World → Prop} {n0 : Nat} : ∀ (l : List Nat) (w : World), MkOk n0 w l → (∃ v, (results fn tmps).run P (shut l w) = .ok v (shut l w) ∧ R (.returned v) (shut l w)) → LeavesInM (FW none) 5 P fn tmps R (l.map markD) .returning w
 | [], w, _, h => h
 | D :: l, w, hm, h => by
  obtain ⟨hn, hD⟩ := hm
  rw [List.nodup_cons] at hn
  refine ⟨by simp, .inl ⟨D, _, rfl, run_takeDeferred (hD D (by simp)).2, ?_⟩⟩
  exact leaves_marks (n0 := n0) l _ ⟨hn.2, fun E hE => ⟨(hD E (by simp [hE])).1, (World.putObj_heap_other (fun e => hn.1 (by rw [← e]; exact hE))).trans (hD E (by simp [hE])).2⟩⟩ h
theorem den_shut1 {w0 : World} {wr : Bs} {ρ : Env} {s : St} {a : Act} {w : World} {D : Nat} {l : List Nat} (h : Den w0 wr ρ s a w) (hm : s.mks = D :: l) :
  Den w0 wr ρ { s with mks := l } { a with defers := l.map markD } (w.putObj D (.deferred none)) := by
 obtain ⟨hn, hD⟩ := h.mf
 rw [hm] at hn hD
 rw [List.nodup_cons] at hn
 obtain ⟨hle, hb⟩ := hD D (by simp)
 refine ⟨h.sz, rfl, ⟨hn.2, fun E hE => ⟨(hD E (by simp [hE])).1, (World.putObj_heap_other (fun e => hn.1 (by rw [← e]; exact hE))).trans (hD E (by simp [hE])).2⟩⟩, ⟨by simpa using h.ko.size, fun k o hk ho => ?_⟩, h.tm, fun r row hr => ?_, h.ds,
  ⟨h.fr.os, h.fr.tape, h.fr.output, by simpa using h.fr.size, fun k hk hn => (World.putObj_heap_other (by omega)).trans (h.fr.block k hk hn)⟩, h.e0, h.ku, h.gl, h.kn⟩
 ·have hlt := lt_of_block hk
  exact (World.putObj_heap_other (by omega)).trans (h.ko.same k o hk ho)
 ·obtain ⟨g1, g2⟩ := h.rw r row hr
  refine ⟨g1.keep (by simp) (World.putObj_heap_other fun e => ?_), g2⟩
  obtain ⟨cur, t, fz, hc⟩ := g1.2.2.2
  rw [e, hb] at hc
  cases hc
theorem den_shut {w0 : World} {wr : Bs} {ρ : Env} : ∀ {l : List Nat} {s : St} {a : Act} {w : World}, Den w0 wr ρ s a w → s.mks = l → Den w0 wr ρ { s with mks := [] } { a with defers := [] } (shut l w)
 | [], s, a, w, h, hm => by
  have h2 := h.df
  rw [hm] at h2
  obtain ⟨x1, x2⟩ := a
  cases h2
  obtain ⟨y1, y2, y3, y4, y5⟩ := s
  cases hm
  exact h
 | D :: l, s, a, w, h, hm => by
  have := den_shut (den_shut1 h hm) rfl
  exact this
theorem resL_mks {P : Program} {s : St} {m : List Nat} : ∀ l, resL P { s with mks := m } l = resL P s l
 | [] => rfl
 | r :: l => by
  simp only [resL, resL_mks (m := m) l]
  cases r <;> rfl
abbrev EndX (P : Program) (fn : Func) (R : Ending → World → Prop) (e : Exit) (a : Act) (w : World) : Prop := (e = .normal ∨ e = .ret) ∧ LeavesInM (FW none) 5 P fn a.tmps R a.defers .returning w
theorem end_ok {P : Program} {w0 : World} {wr : Bs} {ρ : Env} {s : St} {a : Act} {w : World} {fn : Func} {ob : List Prop} {x : TV} {R : Ending → World → Prop} (hd : Den w0 wr ρ s a w) (h : resT P s fn.results.toList = some (ob, x)) (ho : all ob)
  (hR : ∀ w', Den w0 wr ρ { s with mks := [] } { a with defers := [] } w' → x.ok → R (.returned (x.val ρ)) w') : LeavesInM (FW none) 5 P fn a.tmps R a.defers .returning w := by
 have h1 := den_shut hd rfl
 rw [hd.df]
 refine leaves_marks s.mks w hd.mf ?_
 have h2 : resT P { s with mks := [] } fn.results.toList = some (ob, x) := by rw [← h]; unfold resT; rw [resL_mks]
 obtain ⟨g1, g2⟩ := resT_ok h1 h2 ho
 exact ⟨_, g1, hR _ h1 g2⟩
theorem calls_kx {P : Program} {f : FuncId} {fn : Func} {c : Code} {args : Array Value} {w : World} {R : Ending → World → Prop}
  (hf : P.funcs[f]? = some fn) (hb : fn.body = some c)
  (h : KX P none [.code c] (EndX P fn R) { tmps := args ++ Array.replicate (fn.ntmps - args.size) undef, defers := [] } w) : Calls P f args w R := by
 have := callsIn_of_wp_marks (F := FW none) (n := 5) hf hb trivial (wpIn_mono (h.wpIn (n := 5)) (fun e a w hq => by
  obtain ⟨he, hq⟩ := hq
  rcases he with rfl | rfl <;> exact hq)) rfl
 exact callsIn_wide.1 this
end Go.Proofs.YtdbbcngolcnniaaGreatDoor.E
