/- Several texts in one: Rel RelT RelU. -/
import Derived.Orders
import Derived.Still
import Derived.Deep.QuietTactic
import Derived.BigQuiet
import Derived.Test.YtphljjgjpkdpmaaGreatDoorK1
/- A region that draws its order, whose operations may make memory: each operation is shown alone, from what stands in its operands; whatever order is picked, what each one left holds at the end. -/
namespace Go.Proofs.YtphljjgjpkdpmaaGreatDoor
open Go.RowKit
set_option linter.unusedVariables false
section
variable {P : Program} {ops : Array Oper} {I : World → Prop} {R : World → World → Prop}
/-- What an operation, carried out, leaves. -/
def relUpon (P : Program) (Post : Value → World → Prop) : Result Next → Prop
  | .ok (.value u) w' => Post u w'
  | .ok .skip w' => Post undef w'
  | .ok (.enter f args) w' => Calls P f args w' (fun e w'' => ∃ u, e = .returned u ∧ Post u w'')
  | _ => False
theorem relUpon_value (Post : Value → World → Prop) (u : Value) (w : World) : relUpon P Post (.ok (.value u) w) = Post u w := rfl
theorem relUpon_skip (Post : Value → World → Prop) (w : World) : relUpon P Post (.ok .skip w) = Post undef w := rfl
theorem relUpon_enter (Post : Value → World → Prop) (f : FuncId) (args : Array Value) (w : World) : relUpon P Post (.ok (.enter f args) w) = Calls P f args w (fun e w'' => ∃ u, e = .returned u ∧ Post u w'') := rfl
theorem relUpon_mono {Post Post' : Value → World → Prop} (h : ∀ u w, Post u w → Post' u w) {r : Result Next} (hr : relUpon P Post r) : relUpon P Post' r := by
  cases r with
  | ok n w' =>
    cases n <;> simp only [relUpon] at hr ⊢
    case value u => exact h _ _ hr
    case skip => exact h _ _ hr
    case enter f args => exact hr.mono fun e w'' ⟨u, he, hp⟩ => ⟨u, he, h _ _ hp⟩
  | halt x w' => exact hr
/-- The edges that an operation's operands come by. -/
def useEdge (e : Edge) : Bool := match e.ground with | .data => true | .guard => true | _ => false
theorem useEdge_binds {e : Edge} (h : useEdge e = true) : Region.binds .any e = true := by
  unfold useEdge at h
  unfold Region.binds
  cases he : e.ground <;> rw [he] at h <;> first | rfl | simp at h
/-- An operation, of whatever stands in its operands. -/
def relDeps (ops : Array Oper) (Vs : List (Value → World → Prop)) (w : World) : List Edge → (Act → Prop) → Act → Prop
  | [], k, a => k a
  | e :: es, k, a => if useEdge e = true then (match (ops[e.on]?).bind (·.dst) with
      | some d => ∀ v, (Vs.getD e.on (fun _ _ => False)) v w → relDeps ops Vs w es k (a.put (some d) v)
      | none => relDeps ops Vs w es k a) else relDeps ops Vs w es k a
def relStep (P : Program) (ops : Array Oper) (o : Oper) (I : World → Prop) (R : World → World → Prop) (V : Value → World → Prop) (w : World) (a : Act) : Prop :=
  if Region.wanted o (yielded ops a.tmps) = true then relUpon P (fun u w' => V u w' ∧ I w' ∧ R w w') ((execOp a.eval o).run P w) else V undef w
/-- The walk in the order of the text: of each operation what it leaves is named. -/
def wpRel (P : Program) (ops : Array Oper) (I : World → Prop) (R : World → World → Prop) (a0 : Act) (K : List (Value → World → Prop) → Prop) : List Oper → List (Value → World → Prop) → Prop
  | [], Vs => K Vs
  | o :: rest, Vs => ∃ V : Value → World → Prop, (∀ v w w', R w w' → V v w → V v w') ∧ (∀ w, I w → relDeps ops Vs w o.after.toList (relStep P ops o I R V w) a0) ∧ wpRel P ops I R a0 K rest (Vs ++ [V])
theorem wpRel_nil {a0 : Act} {K : List (Value → World → Prop) → Prop} {Vs : List (Value → World → Prop)} (h : K Vs) : wpRel P ops I R a0 K [] Vs := h
theorem wpRel_step {a0 : Act} {K : List (Value → World → Prop) → Prop} {Vs : List (Value → World → Prop)} {o : Oper} {rest : List Oper} (V : Value → World → Prop) (h1 : ∀ v w w', R w w' → V v w → V v w')
    (h2 : ∀ w, I w → relDeps ops Vs w o.after.toList (relStep P ops o I R V w) a0) (h3 : wpRel P ops I R a0 K rest (Vs ++ [V])) : wpRel P ops I R a0 K (o :: rest) Vs := ⟨V, h1, h2, h3⟩
/-- An operation that leaves one value. -/
theorem wpRel_det {a0 : Act} {K : List (Value → World → Prop) → Prop} {Vs : List (Value → World → Prop)} {o : Oper} {rest : List Oper}
    (h : ∃ c : Value, (∀ w, I w → relDeps ops Vs w o.after.toList (relStep P ops o I R (fun v _ => v = c) w) a0) ∧ wpRel P ops I R a0 K rest (Vs ++ [fun v _ => v = c])) : wpRel P ops I R a0 K (o :: rest) Vs :=
  let ⟨_, h2, h3⟩ := h
  ⟨_, fun _ _ _ _ h => h, h2, h3⟩
/-- The end: the operations' values stand in their places. -/
def relEnd (w : World) (K : Act → World → Prop) : List Oper → List (Value → World → Prop) → Act → Prop
  | o :: l, V :: Vs, a => ∀ v, V v w → relEnd w K l Vs (a.put o.dst v)
  | _, _, a => K a w
theorem relEnd_cons (w : World) (K : Act → World → Prop) (o : Oper) (l : List Oper) (V : Value → World → Prop) (Vs : List (Value → World → Prop)) (a : Act) : relEnd w K (o :: l) (V :: Vs) a = ∀ v, V v w → relEnd w K l Vs (a.put o.dst v) := rfl
theorem relEnd_nil (w : World) (K : Act → World → Prop) (a : Act) : relEnd w K [] [] a = K a w := rfl
attribute [go_sem] relDeps relStep relUpon_value relUpon_skip relUpon_enter useEdge relEnd_cons relEnd_nil
/-- What is asked of a region's text. -/
def relDsts (ops : Array Oper) : List Tmp := ops.toList.filterMap (·.dst)
def relOk (ops : Array Oper) (n : Nat) : Bool :=
  (relDsts ops).all (· < n) && (relDsts ops).Nodup && Region.noSelect ops &&
  (List.range ops.size).all fun i => match ops[i]? with
    | none => true
    | some o => (o.after.toList.all fun e => !Region.binds .any e || e.on < i) &&
      (o.looksAt ops).all fun t => !(relDsts ops).contains t || o.after.toList.any fun e => useEdge e && ((ops[e.on]?).bind (·.dst) == some t)
structure RelJ (ops : Array Oper) (I : World → Prop) (Vf : List (Value → World → Prop)) (a0 : Act) (listed : Array Bool) (a : Act) (w : World) : Prop where
  inv : I w
  defers : a.defers = a0.defers
  size : a.tmps.size = a0.tmps.size
  lsize : listed.size = ops.size
  rest : ∀ t, t ∉ relDsts ops → a.tmps[t]? = a0.tmps[t]?
  vals : ∀ (j : Nat) o, ops[j]? = some o → listed.getD j false = true → ∃ v, (Vf.getD j (fun _ _ => False)) v w ∧ ∀ d, o.dst = some d → a.tmps[d]? = some v
/-- A state in which the operands stand as the edges tell of them. -/
theorem relDeps_at {Vs : List (Value → World → Prop)} {w : World} {k : Act → Prop} (vs : Nat → Value) : ∀ (es : List Edge) (a : Act), (∀ e ∈ es, useEdge e = true → ∀ o, ops[e.on]? = some o → (Vs.getD e.on (fun _ _ => False)) (vs e.on) w) → relDeps ops Vs w es k a →
    k (es.foldl (fun a e => if useEdge e = true then a.put ((ops[e.on]?).bind (·.dst)) (vs e.on) else a) a)
  | [], a, _, h => h
  | e :: es, a, hv, h => by
    rw [List.foldl_cons]
    have ih := relDeps_at (Vs := Vs) (w := w) (k := k) vs es
    unfold relDeps at h
    by_cases hu : useEdge e = true
    · rw [if_pos hu] at h ⊢
      cases ho : ops[e.on]? with
      | none =>
        rw [ho] at h
        exact ih _ (fun e' he' => hv e' (List.mem_cons_of_mem _ he')) h
      | some o =>
        rw [ho] at h
        cases hd : o.dst with
        | none =>
          simp only [Option.bind_some, hd] at h ⊢
          exact ih _ (fun e' he' => hv e' (List.mem_cons_of_mem _ he')) h
        | some d =>
          simp only [Option.bind_some, hd] at h ⊢
          exact ih _ (fun e' he' => hv e' (List.mem_cons_of_mem _ he')) (h _ (hv e (List.mem_cons_self ..) hu o ho))
    · rw [if_neg hu] at h ⊢
      exact ih _ (fun e' he' => hv e' (List.mem_cons_of_mem _ he')) h
theorem put_tmps (a : Act) (d : Tmp) (v : Value) (t : Tmp) (hd : d < a.tmps.size) : (a.put (some d) v).tmps[t]? = if d = t then some v else a.tmps[t]? := by
  show (a.tmps.setIfInBounds d v)[t]? = _
  rw [Array.getElem?_setIfInBounds]
  split
  · rename_i h; subst h; simp
  · rfl
theorem put_tmps_none (a : Act) (v : Value) : a.put none v = a := rfl
theorem put_size (a : Act) (d : Option Tmp) (v : Value) : (a.put d v).tmps.size = a.tmps.size := by
  cases d with
  | none => rfl
  | some d => show (a.tmps.setIfInBounds d v).size = _; simp
theorem put_defers' (a : Act) (d : Option Tmp) (v : Value) : (a.put d v).defers = a.defers := by cases d <;> rfl
/-- Where the edges reach, the made-up state has what the true one has. -/
theorem fold_tmps (vs : Nat → Value) (b : Act) : ∀ (es : List Edge) (a : Act), a.tmps.size = b.tmps.size →
    (∀ e ∈ es, useEdge e = true → ∀ d, (ops[e.on]?).bind (·.dst) = some d → b.tmps[d]? = some (vs e.on)) →
    ∀ t, (b.tmps[t]? = a.tmps[t]? ∨ ∃ e ∈ es, useEdge e = true ∧ (ops[e.on]?).bind (·.dst) = some t) →
      (es.foldl (fun a e => if useEdge e = true then a.put ((ops[e.on]?).bind (·.dst)) (vs e.on) else a) a).tmps[t]? = b.tmps[t]?
  | [], a, _, _, t, h => by
    rcases h with h | ⟨e, he, _⟩
    · exact h.symm
    · cases he
  | e :: es, a, hs, hv, t, h => by
    rw [List.foldl_cons]
    refine fold_tmps vs b es _ ?_ (fun e' he' => hv e' (List.mem_cons_of_mem _ he')) t ?_
    · split
      · rw [put_size, hs]
      · exact hs
    · by_cases hu : useEdge e = true
      · rw [if_pos hu]
        cases hd : (ops[e.on]?).bind (·.dst) with
        | none =>
          rcases h with h | ⟨e', he', hu', ht⟩
          · exact .inl h
          · rcases List.mem_cons.1 he' with rfl | he'
            · rw [hd] at ht; cases ht
            · exact .inr ⟨e', he', hu', ht⟩
        | some d =>
          have hb := hv e (List.mem_cons_self ..) hu d hd
          have hlt : d < a.tmps.size := by rw [hs]; exact (Array.getElem?_eq_some_iff.1 hb).1
          by_cases hdt : d = t
          · left
            subst hdt
            rw [put_tmps _ _ _ _ hlt, if_pos rfl, hb]
          · rcases h with h | ⟨e', he', hu', ht⟩
            · left
              rw [put_tmps _ _ _ _ hlt, if_neg hdt, h]
            · rcases List.mem_cons.1 he' with rfl | he'
              · rw [hd] at ht; injection ht with ht; exact absurd ht hdt
              · exact .inr ⟨e', he', hu', ht⟩
      · rw [if_neg hu]
        rcases h with h | ⟨e', he', hu', ht⟩
        · exact .inl h
        · rcases List.mem_cons.1 he' with rfl | he'
          · exact absurd hu' hu
          · exact .inr ⟨e', he', hu', ht⟩
theorem eval_of_tmps {a b : Act} {x : Operand} (h : ∀ t, x = .tmp t → a.tmps[t]? = b.tmps[t]?) : a.eval x = b.eval x := by
  cases x with
  | tmp t => simp [Act.eval, h t rfl]
  | _ => rfl
theorem yielded_of {a b : Act} {j : Nat} (h : ∀ t, (ops[j]?).bind (·.dst) = some t → a.tmps[t]? = b.tmps[t]?) : yielded ops a.tmps j = yielded ops b.tmps j := by
  unfold yielded
  cases hd : (ops[j]?).bind (·.dst) with
  | none => rfl
  | some t => simp only [Option.bind_some]; rw [h t hd]
/-- What an operation does is told by what it looks at. -/
theorem same_step {o : Oper} (hs : ∀ cs b, o.op ≠ .select cs b) {a b : Act} (h : ∀ t ∈ o.looksAt ops, a.tmps[t]? = b.tmps[t]?) :
    execOp a.eval o = execOp b.eval o ∧ Region.wanted o (yielded ops a.tmps) = Region.wanted o (yielded ops b.tmps) := by
  refine ⟨execOp_congr o hs fun x hx => eval_of_tmps fun t ht => h t ?_, ?_⟩
  · subst ht
    exact List.mem_append_left _ (List.mem_filterMap.2 ⟨.tmp t, by simpa using hx, rfl⟩)
  · unfold Region.wanted
    cases hg : o.guard with
    | none => rfl
    | some gw =>
      obtain ⟨g, want⟩ := gw
      simp only
      rw [yielded_of (ops := ops) (a := a) (b := b) (j := g) fun t ht => h t (by
        unfold Oper.looksAt
        rw [hg]
        exact List.mem_append_right _ (by simp [ht]))]
theorem wpOp_of_rel {i : Nat} {o : Oper} (hi : ops[i]? = some o) {a : Act} {w : World} {V : Value → World → Prop} {K : Act → World → Prop} {Q : Exit → Act → World → Prop}
    (h : relStep P ops o I R V w a) (hK : ∀ v w', V v w' → I w' → R w w' → K (a.put o.dst v) w') (hI : I w) (hR : R w w) : wpOp P ops Q i K a w := by
  unfold wpOp
  simp only [hi]
  unfold relStep at h
  split
  · rename_i hw
    rw [if_pos hw] at h
    refine .inl ?_
    unfold Oper.wp
    generalize (execOp a.eval o).run P w = r at h
    cases r with
    | ok n w' =>
      cases n <;> simp only [relUpon] at h <;> simp only [Oper.upon]
      case value u => exact hK _ _ h.1 h.2.1 h.2.2
      case skip => exact hK _ _ h.1 h.2.1 h.2.2
      case enter f args => exact h.mono fun e w'' ⟨u, he, hp⟩ => by subst he; exact hK _ _ hp.1 hp.2.1 hp.2.2
    | halt x w' => exact h.elim
  · rename_i hw
    rw [if_neg hw] at h
    exact hK _ _ h hI hR
theorem relOk_parts {n : Nat} (h : relOk ops n = true) : (∀ d ∈ relDsts ops, d < n) ∧ (relDsts ops).Nodup ∧ Region.noSelect ops = true ∧
    ∀ (i : Nat) o, ops[i]? = some o → (∀ e ∈ o.after, Region.binds .any e = true → e.on < i) ∧ ∀ t ∈ o.looksAt ops, t ∉ relDsts ops ∨ ∃ e ∈ o.after.toList, useEdge e = true ∧ (ops[e.on]?).bind (·.dst) = some t := by
  unfold relOk at h
  simp only [Bool.and_eq_true, List.all_eq_true, decide_eq_true_eq] at h
  obtain ⟨⟨⟨h1, h2⟩, h3⟩, h4⟩ := h
  refine ⟨h1, h2, h3, fun i o hi => ?_⟩
  have hlt : i < ops.size := (Array.getElem?_eq_some_iff.1 hi).1
  have h5 := h4 i (List.mem_range.2 hlt)
  rw [hi] at h5
  simp only [Bool.and_eq_true, List.all_eq_true, Bool.or_eq_true, Bool.not_eq_true', decide_eq_true_eq, List.any_eq_true, beq_iff_eq] at h5
  obtain ⟨h6, h7⟩ := h5
  refine ⟨fun e he hb => ?_, fun t ht => ?_⟩
  · rcases h6 e (by simpa using he) with h8 | h8
    · rw [hb] at h8; cases h8
    · exact h8
  · rcases h7 t ht with h8 | ⟨e, he, hu, hd⟩
    · left
      intro hm
      have : (relDsts ops).contains t = true := by simpa using hm
      rw [h8] at this; cases this
    · exact .inr ⟨e, he, hu, hd⟩
theorem dst_mem {i : Nat} {o : Oper} {d : Tmp} (hi : ops[i]? = some o) (hd : o.dst = some d) : d ∈ relDsts ops :=
  List.mem_filterMap.2 ⟨o, by rw [← Array.mem_def]; exact Array.mem_of_getElem? hi, hd⟩
theorem nodup_dst : ∀ (l : List Oper), (l.filterMap (·.dst)).Nodup → ∀ (i j : Nat) (o p : Oper) (d : Tmp), l[i]? = some o → l[j]? = some p → o.dst = some d → p.dst = some d → i = j
  | [], _, i, _, _, _, _, h, _, _, _ => by simp at h
  | x :: l, hn, i, j, o, p, d, hi, hj, ho, hp => by
    have hmem : ∀ (k : Nat) (q : Oper), l[k]? = some q → q.dst = some d → d ∈ l.filterMap (·.dst) := fun k q hk hq => List.mem_filterMap.2 ⟨q, List.mem_of_getElem? hk, hq⟩
    rcases i with _ | i <;> rcases j with _ | j
    · rfl
    · simp only [List.getElem?_cons_zero, Option.some.injEq, List.getElem?_cons_succ] at hi hj
      subst hi
      rw [List.filterMap_cons, ho] at hn
      exact absurd (hmem j p hj hp) (List.nodup_cons.1 hn).1
    · simp only [List.getElem?_cons_zero, Option.some.injEq, List.getElem?_cons_succ] at hi hj
      subst hj
      rw [List.filterMap_cons, hp] at hn
      exact absurd (hmem i o hi ho) (List.nodup_cons.1 hn).1
    · simp only [List.getElem?_cons_succ] at hi hj
      have hn' : (l.filterMap (·.dst)).Nodup := by
        rw [List.filterMap_cons] at hn
        split at hn
        · exact hn
        · exact (List.nodup_cons.1 hn).2
      rw [nodup_dst l hn' i j o p d hi hj ho hp]
/-- All that is asked, operation by operation. -/
structure RelAll (P : Program) (ops : Array Oper) (I : World → Prop) (R : World → World → Prop) (a0 : Act) (Vf : List (Value → World → Prop)) : Prop where
  len : Vf.length = ops.size
  stable : ∀ V ∈ Vf, ∀ v w w', R w w' → V v w → V v w'
  step : ∀ (i : Nat) o, ops[i]? = some o → ∀ w, I w → relDeps ops (Vf.take i) w o.after.toList (relStep P ops o I R (Vf.getD i (fun _ _ => False)) w) a0
theorem relAll_of (a0 : Act) {K : List (Value → World → Prop) → Prop} : ∀ (l : List Oper) (Vs : List (Value → World → Prop)), (∀ j, l[j]? = ops[Vs.length + j]?) → Vs.length + l.length = ops.size →
    (∀ V ∈ Vs, ∀ v w w', R w w' → V v w → V v w') → (∀ (i : Nat) o, i < Vs.length → ops[i]? = some o → ∀ w, I w → relDeps ops (Vs.take i) w o.after.toList (relStep P ops o I R (Vs.getD i (fun _ _ => False)) w) a0) →
    wpRel P ops I R a0 K l Vs → ∃ Vf, RelAll P ops I R a0 Vf ∧ K Vf
  | [], Vs, _, hl, hs, hst, h => ⟨Vs, ⟨by simpa using hl, hs, fun i o hi => hst i o (by have := (Array.getElem?_eq_some_iff.1 hi).1; simp at hl; omega) hi⟩, h⟩
  | o :: l, Vs, ho, hl, hs, hst, ⟨V, h1, h2, h3⟩ => by
    refine relAll_of a0 l (Vs ++ [V]) (fun j => ?_) (by simp at hl ⊢; omega) (fun V' hV' => ?_) (fun i o' hi ho' => ?_) h3
    · have := ho (j + 1)
      rw [List.getElem?_cons_succ] at this
      rw [this, List.length_append, List.length_singleton]
      congr 1; omega
    · rcases List.mem_append.1 hV' with h | h
      · exact hs V' h
      · rw [List.mem_singleton] at h; rw [h]; exact h1
    · rw [List.length_append, List.length_singleton] at hi
      by_cases hlt : i < Vs.length
      · have e1 : (Vs ++ [V]).take i = Vs.take i := List.take_append_of_le_length (by omega)
        have e2 : (Vs ++ [V]).getD i (fun _ _ => False) = Vs.getD i (fun _ _ => False) := by
          rw [List.getD, List.getD, List.getElem?_append_left hlt]
        rw [e1, e2]
        exact hst i o' hlt ho'
      · obtain rfl : i = Vs.length := by omega
        have e1 : (Vs ++ [V]).take Vs.length = Vs := List.take_left
        have e2 : (Vs ++ [V]).getD Vs.length (fun _ _ => False) = V := by
          rw [List.getD, List.getElem?_append_right (Nat.le_refl _)]; simp
        rw [e1, e2]
        have h0 := ho 0
        simp at h0
        rw [ho'] at h0
        injection h0 with h0
        subst h0
        exact h2
theorem getD_false_of {listed : Array Bool} {j : Nat} (h : listed.getD j true = false) : j < listed.size := by
  rcases Nat.lt_or_ge j listed.size with h1 | h1
  · exact h1
  · simp [Array.getElem?_eq_none h1] at h
theorem count_set {listed : Array Bool} {i n : Nat} (hi : i < listed.size) (hf : listed.getD i true = false) (h : listed.toList.count false ≤ n + 1) : (listed.setIfInBounds i true).toList.count false ≤ n := by
  have hi' : i < listed.toList.length := by rw [Array.length_toList]; exact hi
  rw [Array.toList_setIfInBounds, List.count_set hi']
  have e : listed.toList[i]'hi' = false := by
    have : listed.getD i true = listed[i] := by simp [Array.getElem?_eq_getElem hi]
    rw [Array.getElem_toList, ← this]; exact hf
  rw [e]
  generalize listed.toList.count false = c at h
  show c - 1 + 0 ≤ n
  omega
theorem rel_sound {a0 : Act} {Vf : List (Value → World → Prop)} {Q : Exit → Act → World → Prop} (hok : relOk ops a0.tmps.size = true) (hA : RelAll P ops I R a0 Vf) (hR : ∀ w, R w w)
    (hend : ∀ a w, RelJ ops I Vf a0 (Array.replicate ops.size true) a w → Q .normal a w) :
    ∀ (fuel : Nat) (listed : Array Bool) (a : Act) (w : World), listed.toList.count false ≤ fuel → RelJ ops I Vf a0 listed a w → wpAny P .any ops Q fuel listed a w := by
  obtain ⟨hd, hn, hsel, hpart⟩ := relOk_parts hok
  have full : ∀ (listed : Array Bool) (a : Act) (w : World), RelJ ops I Vf a0 listed a w → (∀ j, j < ops.size → listed.getD j false = true) → Q .normal a w := by
    intro listed a w hJ hall
    refine hend a w ⟨hJ.inv, hJ.defers, hJ.size, by simp, hJ.rest, fun j o ho _ => hJ.vals j o ho (hall j (Array.getElem?_eq_some_iff.1 ho).1)⟩
  have allOf : ∀ (listed : Array Bool) (a : Act) (w : World), RelJ ops I Vf a0 listed a w → Region.ready .any ops listed = [] → ∀ j, j < ops.size → listed.getD j false = true := by
    intro listed a w hJ hr j
    induction j using Nat.strongRecOn with
    | _ j ih =>
      intro hj
      by_cases hf : listed.getD j false = true
      · exact hf
      · exfalso
        have hjl : j < listed.size := by rw [hJ.lsize]; exact hj
        have hft : listed.getD j true = false := by
          simp [Array.getElem?_eq_getElem hjl] at hf ⊢
          exact hf
        have : j ∈ Region.ready .any ops listed := mem_ready.2 ⟨hft, ops[j], Array.getElem?_eq_getElem hj, fun e he hb => by
          have := (hpart j _ (Array.getElem?_eq_getElem hj)).1 e he hb
          exact ih e.on this (by omega)⟩
        rw [hr] at this
        cases this
  intro fuel
  induction fuel with
  | zero =>
    intro listed a w hc hJ
    have hall : ∀ j, j < ops.size → listed.getD j false = true := by
      intro j hj
      by_cases hf : listed.getD j false = true
      · exact hf
      · exfalso
        have hjl : j < listed.size := by rw [hJ.lsize]; exact hj
        have hz : listed.toList.count false = 0 := by omega
        rw [List.count_eq_zero] at hz
        apply hz
        have e : listed[j] = false := by simpa [Array.getElem?_eq_getElem hjl] using hf
        rw [← e]
        simp
    refine ⟨?_, full listed a w hJ hall⟩
    rcases hr : Region.ready .any ops listed with _ | ⟨j, js⟩
    · rfl
    · exfalso
      have hj : j ∈ Region.ready .any ops listed := by rw [hr]; exact List.mem_cons_self ..
      obtain ⟨h0, o, ho, _⟩ := mem_ready.1 hj
      have h1 := hall j (Array.getElem?_eq_some_iff.1 ho).1
      have hjl := getD_false_of h0
      simp [Array.getElem?_eq_getElem hjl] at h0 h1
      rw [h0] at h1; cases h1
  | succ fuel ih =>
    intro listed a w hc hJ
    refine ⟨fun hr => full listed a w hJ (allOf listed a w hJ hr), fun i hi => ?_⟩
    obtain ⟨h0, o, ho, hafter⟩ := mem_ready.1 hi
    have hil := getD_false_of h0
    obtain ⟨hback, hlook⟩ := hpart i o ho
    -- the operands' values
    have hvs : ∃ vs : Nat → Value, ∀ (j : Nat) p, ops[j]? = some p → listed.getD j false = true → (Vf.getD j (fun _ _ => False)) (vs j) w ∧ ∀ d, p.dst = some d → a.tmps[d]? = some (vs j) := by
      refine Classical.axiomOfChoice (r := fun j v => ∀ p, ops[j]? = some p → listed.getD j false = true → (Vf.getD j (fun _ _ => False)) v w ∧ ∀ d, p.dst = some d → a.tmps[d]? = some v) fun j => ?_
      cases hp : ops[j]? with
      | none => exact ⟨undef, fun p h => by cases h⟩
      | some p =>
        by_cases hl : listed.getD j false = true
        · obtain ⟨v, h1, h2⟩ := hJ.vals j p hp hl
          exact ⟨v, fun p' h _ => by injection h with h; subst h; exact ⟨h1, h2⟩⟩
        · exact ⟨undef, fun p' _ h => absurd h hl⟩
    obtain ⟨vs, hvs⟩ := hvs
    have hlisted : ∀ e ∈ o.after.toList, useEdge e = true → listed.getD e.on false = true := fun e he hu => hafter e (by simpa using he) (useEdge_binds hu)
    have hdeps := relDeps_at (ops := ops) (Vs := Vf.take i) (w := w) vs o.after.toList a0 (fun e he hu p hp => by
      have hlt := hback e (by simpa using he) (useEdge_binds hu)
      have e1 : (Vf.take i).getD e.on (fun _ _ => False) = Vf.getD e.on (fun _ _ => False) := by
        rw [List.getD, List.getD, List.getElem?_take, if_pos hlt]
      rw [e1]
      exact (hvs e.on p hp (hlisted e he hu)).1) (hA.step i o ho w hJ.inv)
    generalize hcan : o.after.toList.foldl (fun a e => if useEdge e = true then a.put ((ops[e.on]?).bind (·.dst)) (vs e.on) else a) a0 = can at hdeps
    have hsame : ∀ t ∈ o.looksAt ops, can.tmps[t]? = a.tmps[t]? := by
      intro t ht
      rw [← hcan]
      refine fold_tmps (ops := ops) vs a o.after.toList a0 hJ.size.symm (fun e he hu d hd' => ?_) t ?_
      · cases hp : ops[e.on]? with
        | none => rw [hp] at hd'; cases hd'
        | some p =>
          rw [hp] at hd'
          exact (hvs e.on p hp (hlisted e he hu)).2 d hd'
      · rcases hlook t ht with h | h
        · exact .inl (hJ.rest t h)
        · exact .inr h
    have hsl : ∀ cs b, o.op ≠ .select cs b := fun cs b => Region.noSelect_spec hsel i o cs b ho
    obtain ⟨he1, he2⟩ := same_step (ops := ops) hsl hsame
    have hstep : relStep P ops o I R (Vf.getD i (fun _ _ => False)) w a := by
      unfold relStep at hdeps ⊢
      rw [← he1, ← he2]
      exact hdeps
    refine wpOp_of_rel ho hstep (fun v w' hv hI' hRw => ih _ _ _ (count_set hil h0 hc) ?_) hJ.inv (hR w)
    have hlt : i < ops.size := (Array.getElem?_eq_some_iff.1 ho).1
    refine ⟨hI', by rw [put_defers', hJ.defers], by rw [put_size, hJ.size], by simpa using hJ.lsize, fun t ht => ?_, fun j p hp hl => ?_⟩
    · cases hdo : o.dst with
      | none => exact hJ.rest t ht
      | some d =>
        have hdm := dst_mem ho hdo
        rw [put_tmps _ _ _ _ (by rw [hJ.size]; exact hd d hdm), if_neg (fun e => ht (by rw [← e]; exact hdm))]
        exact hJ.rest t ht
    · by_cases hij : i = j
      · subst hij
        rw [ho] at hp
        injection hp with hp
        subst hp
        refine ⟨v, hv, fun d hdo => ?_⟩
        rw [hdo, put_tmps _ _ _ _ (by rw [hJ.size]; exact hd d (dst_mem ho hdo)), if_pos rfl]
      · rw [getD_set_ne false hij] at hl
        obtain ⟨u, hu, hud⟩ := hJ.vals j p hp hl
        refine ⟨u, ?_, fun d hdp => ?_⟩
        · rcases hVj : Vf[j]? with _ | Vj
          · rw [List.getD, hVj] at hu; exact hu.elim
          · rw [List.getD, hVj] at hu ⊢
            exact hA.stable Vj (List.mem_of_getElem? hVj) _ _ _ hRw hu
        · cases hdo : o.dst with
          | none => exact hud d hdp
          | some d' =>
            have hne : d' ≠ d := by
              rintro rfl
              exact hij (nodup_dst ops.toList hn i j o p d' (by rw [Array.getElem?_toList]; exact ho) (by rw [Array.getElem?_toList]; exact hp) hdo hdp)
            rw [put_tmps _ _ _ _ (by rw [hJ.size]; exact hd d' (dst_mem ho hdo)), if_neg hne]
            exact hud d hdp
theorem relEnd_at {w : World} {K : Act → World → Prop} (b : Act) (vs : Nat → Value) : ∀ (l : List Oper) (Vs : List (Value → World → Prop)) (k : Nat) (a : Act), Vs.length = l.length →
    (∀ (j : Nat) V, Vs[j]? = some V → V (vs (k + j)) w) → a.defers = b.defers → a.tmps.size = b.tmps.size → (∀ (j : Nat) (o : Oper) d, l[j]? = some o → o.dst = some d → b.tmps[d]? = some (vs (k + j))) →
    (∀ t, t ∉ l.filterMap (·.dst) → a.tmps[t]? = b.tmps[t]?) → relEnd w K l Vs a → K b w
  | [], [], k, a, _, _, hd, hs, _, hr, h => by
    have e : a = b := by
      obtain ⟨at_, ad⟩ := a
      obtain ⟨bt, bd⟩ := b
      simp only at hd hs
      congr 1
      apply Array.ext_getElem?
      intro t
      exact hr t (by simp)
    rw [← e]; exact h
  | [], V :: Vs, _, _, hl, _, _, _, _, _, _ => by simp at hl
  | o :: l, [], _, _, hl, _, _, _, _, _, _ => by simp at hl
  | o :: l, V :: Vs, k, a, hl, hv, hd, hs, ho, hr, h => by
    have h0 := h (vs k) (by simpa using hv 0 V rfl)
    refine relEnd_at b vs l Vs (k + 1) _ (by simpa using hl) (fun j V' hV' => ?_) (by rw [put_defers', hd]) (by rw [put_size, hs]) (fun j o' d hj hdo => ?_) (fun t ht => ?_) h0
    · have := hv (j + 1) V' (by simpa using hV')
      rwa [show k + (j + 1) = k + 1 + j by omega] at this
    · have := ho (j + 1) o' d (by simpa using hj) hdo
      rwa [show k + (j + 1) = k + 1 + j by omega] at this
    · cases hdo : o.dst with
      | none =>
        refine hr t ?_
        rw [List.filterMap_cons, hdo]; exact ht
      | some d =>
        have hb := ho 0 o d rfl hdo
        rw [put_tmps _ _ _ _ (by rw [hs]; exact (Array.getElem?_eq_some_iff.1 hb).1)]
        split
        · rename_i e; subst e; exact hb.symm
        · rename_i e
          refine hr t ?_
          rw [List.filterMap_cons, hdo]
          intro hm
          rcases List.mem_cons.1 hm with h1 | h1
          · exact e h1.symm
          · exact ht h1
/-- A region that draws its order: each operation alone; then what stands behind the region, whatever the operations' values are. -/
theorem wp_region_rel {id : Nat} {Q : Exit → Act → World → Prop} {a : Act} {w : World} {l : List Oper} (I : World → Prop) (R : World → World → Prop) (hm : P.follows .mixedOrders = true) (hok : relOk l.toArray a.tmps.size = true)
    (hR : ∀ w, R w w) (h0 : I w.drew)
    (h : wpRel P l.toArray I R a (fun Vs => ∀ w', I w' → relEnd w' (fun a' w'' => Q .normal a' w'') l Vs a) l []) : (Code.region id l.toArray true).wp P Q a w := by
  obtain ⟨Vf, hA, hK⟩ := relAll_of (P := P) (ops := l.toArray) a l [] (by simp) (by simp) (by simp) (by simp) h
  refine wp_region_any hm (rel_sound hok hA hR (fun a' w' hJ => ?_) _ _ _ _ ?_ ⟨h0, rfl, rfl, by simp, fun _ _ => rfl, fun j o ho hl => ?_⟩)
  · have hall : ∀ (j : Nat) o, l.toArray[j]? = some o → ∃ v, (Vf.getD j (fun _ _ => False)) v w' ∧ ∀ d, o.dst = some d → a'.tmps[d]? = some v := fun j o ho => hJ.vals j o ho (by
      have := (Array.getElem?_eq_some_iff.1 ho).1
      simp at this
      simp [this])
    have hvs : ∃ vs : Nat → Value, ∀ (j : Nat) o, l.toArray[j]? = some o → (Vf.getD j (fun _ _ => False)) (vs j) w' ∧ ∀ d, o.dst = some d → a'.tmps[d]? = some (vs j) := by
      refine Classical.axiomOfChoice (r := fun j v => ∀ o, l.toArray[j]? = some o → (Vf.getD j (fun _ _ => False)) v w' ∧ ∀ d, o.dst = some d → a'.tmps[d]? = some v) fun j => ?_
      cases hp : l.toArray[j]? with
      | none => exact ⟨undef, fun p h => by cases h⟩
      | some p =>
        obtain ⟨v, h1, h2⟩ := hall j p hp
        exact ⟨v, fun p' h => by injection h with h; subst h; exact ⟨h1, h2⟩⟩
    obtain ⟨vs, hvs⟩ := hvs
    have hlen : Vf.length = l.length := by simpa using hA.len
    refine relEnd_at a' vs l Vf 0 a hlen (fun j V hV => ?_) hJ.defers.symm hJ.size.symm (fun j o d hj hd => ?_) (fun t ht => (hJ.rest t (by simpa [relDsts] using ht)).symm) (hK w' hJ.inv)
    · have hj : j < l.length := by rw [← hlen]; exact (List.getElem?_eq_some_iff.1 hV).1
      have := (hvs j l[j] (by simp [hj])).1
      rw [List.getD, hV] at this
      rw [Nat.zero_add]
      exact this
    · rw [Nat.zero_add]
      exact (hvs j o (by simpa using hj)).2 d hd
  · simp
  · exfalso
    have hj : j < l.length := by
      have := (Array.getElem?_eq_some_iff.1 ho).1
      simpa using this
    simp [hj] at hl
end
end Go.Proofs.YtphljjgjpkdpmaaGreatDoor
/- A region that draws its order and ends in one operation behind all others (a store, an assignment): the others each alone, the last one as in a plain statement. -/
namespace Go.Proofs.YtphljjgjpkdpmaaGreatDoor
open Go.RowKit
set_option linter.unusedVariables false
section
variable {P : Program} {ops : Array Oper} {I : World → Prop} {R : World → World → Prop}
/-- The last operation waits for all others. -/
def tailOk (ops : Array Oper) (m : Nat) : Bool :=
  (ops.size == m + 1) && match ops[m]? with
    | none => false
    | some o => o.guard.isNone && (List.range m).all fun j => o.after.toList.any fun e => Region.binds .any e && (e.on == j)
theorem tailOk_parts {m : Nat} (h : tailOk ops m = true) : ops.size = m + 1 ∧ ∃ o, ops[m]? = some o ∧ o.guard = none ∧ ∀ j, j < m → ∃ e ∈ o.after, Region.binds .any e = true ∧ e.on = j := by
  unfold tailOk at h
  rw [Bool.and_eq_true, beq_iff_eq] at h
  obtain ⟨h1, h2⟩ := h
  refine ⟨h1, ?_⟩
  cases ho : ops[m]? with
  | none => rw [ho] at h2; cases h2
  | some o =>
    rw [ho] at h2
    simp only [Bool.and_eq_true, List.all_eq_true, List.any_eq_true, beq_iff_eq, List.mem_range] at h2
    refine ⟨o, rfl, by simpa using h2.1, fun j hj => ?_⟩
    obtain ⟨e, he, hb, hon⟩ := h2.2 j hj
    exact ⟨e, by simpa using he, hb, hon⟩
structure RelAllT (P : Program) (ops : Array Oper) (m : Nat) (I : World → Prop) (R : World → World → Prop) (a0 : Act) (Vf : List (Value → World → Prop)) : Prop where
  len : Vf.length = m
  stable : ∀ V ∈ Vf, ∀ v w w', R w w' → V v w → V v w'
  step : ∀ (i : Nat) o, i < m → ops[i]? = some o → ∀ w, I w → relDeps ops (Vf.take i) w o.after.toList (relStep P ops o I R (Vf.getD i (fun _ _ => False)) w) a0
theorem relAllT_of (a0 : Act) (m : Nat) {K : List (Value → World → Prop) → Prop} : ∀ (l : List Oper) (Vs : List (Value → World → Prop)), (∀ j, j < l.length → l[j]? = ops[Vs.length + j]?) → Vs.length + l.length = m →
    (∀ V ∈ Vs, ∀ v w w', R w w' → V v w → V v w') → (∀ (i : Nat) o, i < Vs.length → ops[i]? = some o → ∀ w, I w → relDeps ops (Vs.take i) w o.after.toList (relStep P ops o I R (Vs.getD i (fun _ _ => False)) w) a0) →
    wpRel P ops I R a0 K l Vs → ∃ Vf, RelAllT P ops m I R a0 Vf ∧ K Vf
  | [], Vs, _, hl, hs, hst, h => ⟨Vs, ⟨by simpa using hl, hs, fun i o hi ho => hst i o (by simp at hl; omega) ho⟩, h⟩
  | o :: l, Vs, ho, hl, hs, hst, ⟨V, h1, h2, h3⟩ => by
    refine relAllT_of a0 m l (Vs ++ [V]) (fun j hj => ?_) (by simp at hl ⊢; omega) (fun V' hV' => ?_) (fun i o' hi ho' => ?_) h3
    · have := ho (j + 1) (by simp; omega)
      rw [List.getElem?_cons_succ] at this
      rw [this, List.length_append, List.length_singleton]
      congr 1; omega
    · rcases List.mem_append.1 hV' with h | h
      · exact hs V' h
      · rw [List.mem_singleton] at h; rw [h]; exact h1
    · rw [List.length_append, List.length_singleton] at hi
      by_cases hlt : i < Vs.length
      · have e1 : (Vs ++ [V]).take i = Vs.take i := List.take_append_of_le_length (by omega)
        have e2 : (Vs ++ [V]).getD i (fun _ _ => False) = Vs.getD i (fun _ _ => False) := by
          rw [List.getD, List.getD, List.getElem?_append_left hlt]
        rw [e1, e2]
        exact hst i o' hlt ho'
      · obtain rfl : i = Vs.length := by omega
        have e1 : (Vs ++ [V]).take Vs.length = Vs := List.take_left
        have e2 : (Vs ++ [V]).getD Vs.length (fun _ _ => False) = V := by
          rw [List.getD, List.getElem?_append_right (Nat.le_refl _)]; simp
        rw [e1, e2]
        have h0 := ho 0 (by simp)
        simp at h0
        rw [ho'] at h0
        injection h0 with h0
        subst h0
        exact h2
/-- Every operation but the last is listed. -/
def AllBut (ops : Array Oper) (m : Nat) : Array Bool := (Array.replicate ops.size true).setIfInBounds m false
theorem relT_sound {a0 : Act} {m : Nat} {Vf : List (Value → World → Prop)} {Q : Exit → Act → World → Prop} (hok : relOk ops a0.tmps.size = true) (ht : tailOk ops m = true) (hA : RelAllT P ops m I R a0 Vf) (hR : ∀ w, R w w)
    (hend : ∀ o, ops[m]? = some o → ∀ a w, I w → a.defers = a0.defers → a.tmps.size = a0.tmps.size → (∀ t, t ∉ (ops.toList.take m).filterMap (·.dst) → a.tmps[t]? = a0.tmps[t]?) →
      (∀ (j : Nat) p, j < m → ops[j]? = some p → ∃ v, (Vf.getD j (fun _ _ => False)) v w ∧ ∀ d, p.dst = some d → a.tmps[d]? = some v) → o.wp P a w (fun a' w' => Q .normal a' w') Q) :
    ∀ (fuel : Nat) (listed : Array Bool) (a : Act) (w : World), listed.toList.count false ≤ fuel → listed.getD m true = false → I w → a.defers = a0.defers → a.tmps.size = a0.tmps.size → listed.size = ops.size →
      (∀ t, t ∉ (ops.toList.take m).filterMap (·.dst) → a.tmps[t]? = a0.tmps[t]?) →
      (∀ (j : Nat) p, j < m → ops[j]? = some p → listed.getD j false = true → ∃ v, (Vf.getD j (fun _ _ => False)) v w ∧ ∀ d, p.dst = some d → a.tmps[d]? = some v) → wpAny P .any ops Q fuel listed a w := by
  obtain ⟨hd, hn, hsel, hpart⟩ := relOk_parts hok
  obtain ⟨hsz, om, hom, hgd, hwait⟩ := tailOk_parts ht
  have noReady : ∀ (listed : Array Bool), listed.getD m true = false → listed.size = ops.size → Region.ready .any ops listed = [] → False := by
    intro listed hm hls hr
    have all : ∀ j, j < ops.size → listed.getD j false = true := by
      intro j
      induction j using Nat.strongRecOn with
      | _ j ih =>
        intro hj
        by_cases hf : listed.getD j false = true
        · exact hf
        · exfalso
          have hjl : j < listed.size := by rw [hls]; exact hj
          have hft : listed.getD j true = false := by
            simp [Array.getElem?_eq_getElem hjl] at hf ⊢
            exact hf
          have : j ∈ Region.ready .any ops listed := mem_ready.2 ⟨hft, ops[j], Array.getElem?_eq_getElem hj, fun e he hb => by
            have := (hpart j _ (Array.getElem?_eq_getElem hj)).1 e he hb
            exact ih e.on this (by omega)⟩
          rw [hr] at this
          cases this
    have h1 := all m (by omega)
    have hml := getD_false_of hm
    simp [Array.getElem?_eq_getElem hml] at hm h1
    rw [hm] at h1; cases h1
  intro fuel
  induction fuel with
  | zero =>
    intro listed a w hc hm hI _ _ hls _ _
    exfalso
    have hml := getD_false_of hm
    have hz : listed.toList.count false = 0 := by omega
    rw [List.count_eq_zero] at hz
    apply hz
    have e : listed[m] = false := by simpa [Array.getElem?_eq_getElem hml] using hm
    rw [← e]
    simp
  | succ fuel ih =>
    intro listed a w hc hm hI hdef hsize hls hrest hvals
    refine ⟨fun hr => (noReady listed hm hls hr).elim, fun i hi => ?_⟩
    obtain ⟨h0, o, ho, hafter⟩ := mem_ready.1 hi
    have hil := getD_false_of h0
    have hlt : i < ops.size := (Array.getElem?_eq_some_iff.1 ho).1
    by_cases him : i = m
    · subst him
      rw [hom] at ho
      injection ho with ho
      subst ho
      have hall : ∀ j, j < i → listed.getD j false = true := fun j hj => by
        obtain ⟨e, he, hb, hon⟩ := hwait j hj
        rw [← hon]; exact hafter e he hb
      have hw := hend om hom a w hI hdef hsize hrest (fun j p hj hp => hvals j p hj hp (hall j hj))
      unfold wpOp
      simp only [hom]
      rw [if_pos (by simp [Region.wanted, hgd])]
      refine .inl (Oper.wp_mono (fun a' w' hq => ?_) hw)
      -- all are listed now
      have hnone : Region.ready .any ops (listed.setIfInBounds i true) = [] := by
        rcases hr : Region.ready .any ops (listed.setIfInBounds i true) with _ | ⟨j, js⟩
        · rfl
        · exfalso
          have hj : j ∈ Region.ready .any ops (listed.setIfInBounds i true) := by rw [hr]; exact List.mem_cons_self ..
          obtain ⟨h1, o', ho', _⟩ := mem_ready.1 hj
          have hjs : j < ops.size := (Array.getElem?_eq_some_iff.1 ho').1
          by_cases hji : j = i
          · subst hji
            simp [hil] at h1
          · rw [getD_set_ne true (fun e => hji e.symm)] at h1
            have h2 := hall j (by omega)
            have hjl := getD_false_of h1
            simp [Array.getElem?_eq_getElem hjl] at h1 h2
            rw [h1] at h2; cases h2
      cases fuel with
      | zero => exact ⟨hnone, hq⟩
      | succ fuel => exact ⟨fun _ => hq, fun j hj => by rw [hnone] at hj; cases hj⟩
    · have him' : i < m := by omega
      obtain ⟨hback, hlook⟩ := hpart i o ho
      have hvs : ∃ vs : Nat → Value, ∀ (j : Nat) p, j < m → ops[j]? = some p → listed.getD j false = true → (Vf.getD j (fun _ _ => False)) (vs j) w ∧ ∀ d, p.dst = some d → a.tmps[d]? = some (vs j) := by
        refine Classical.axiomOfChoice (r := fun j v => ∀ p, j < m → ops[j]? = some p → listed.getD j false = true → (Vf.getD j (fun _ _ => False)) v w ∧ ∀ d, p.dst = some d → a.tmps[d]? = some v) fun j => ?_
        cases hp : ops[j]? with
        | none => exact ⟨undef, fun p _ h => by cases h⟩
        | some p =>
          by_cases hl : listed.getD j false = true
          · by_cases hjm : j < m
            · obtain ⟨v, h1, h2⟩ := hvals j p hjm hp hl
              exact ⟨v, fun p' _ h _ => by injection h with h; subst h; exact ⟨h1, h2⟩⟩
            · exact ⟨undef, fun p' h => absurd h hjm⟩
          · exact ⟨undef, fun p' _ _ h => absurd h hl⟩
      obtain ⟨vs, hvs⟩ := hvs
      have hlisted : ∀ e ∈ o.after.toList, useEdge e = true → listed.getD e.on false = true := fun e he hu => hafter e (by simpa using he) (useEdge_binds hu)
      have hbk : ∀ e ∈ o.after.toList, useEdge e = true → e.on < i := fun e he hu => hback e (by simpa using he) (useEdge_binds hu)
      have hdeps := relDeps_at (ops := ops) (Vs := Vf.take i) (w := w) vs o.after.toList a0 (fun e he hu p hp => by
        have hlt := hbk e he hu
        have e1 : (Vf.take i).getD e.on (fun _ _ => False) = Vf.getD e.on (fun _ _ => False) := by
          rw [List.getD, List.getD, List.getElem?_take, if_pos hlt]
        rw [e1]
        exact (hvs e.on p (by omega) hp (hlisted e he hu)).1) (hA.step i o him' ho w hI)
      generalize hcan : o.after.toList.foldl (fun a e => if useEdge e = true then a.put ((ops[e.on]?).bind (·.dst)) (vs e.on) else a) a0 = can at hdeps
      have hsame : ∀ t ∈ o.looksAt ops, can.tmps[t]? = a.tmps[t]? := by
        intro t ht
        rw [← hcan]
        refine fold_tmps (ops := ops) vs a o.after.toList a0 hsize.symm (fun e he hu d hd' => ?_) t ?_
        · cases hp : ops[e.on]? with
          | none => rw [hp] at hd'; cases hd'
          | some p =>
            rw [hp] at hd'
            have := hbk e he hu
            exact (hvs e.on p (by omega) hp (hlisted e he hu)).2 d hd'
        · rcases hlook t ht with h | h
          · refine .inl (hrest t fun hm' => h ?_)
            unfold relDsts
            obtain ⟨x, hx, hxd⟩ := List.mem_filterMap.1 hm'
            exact List.mem_filterMap.2 ⟨x, List.mem_of_mem_take hx, hxd⟩
          · exact .inr h
      have hsl : ∀ cs b, o.op ≠ .select cs b := fun cs b => Region.noSelect_spec hsel i o cs b ho
      obtain ⟨he1, he2⟩ := same_step (ops := ops) hsl hsame
      have hstep : relStep P ops o I R (Vf.getD i (fun _ _ => False)) w a := by
        unfold relStep at hdeps ⊢
        rw [← he1, ← he2]
        exact hdeps
      refine wpOp_of_rel ho hstep (fun v w' hv hI' hRw => ih _ _ _ (count_set hil h0 hc) (by rw [getD_set_ne true him]; exact hm) hI' (by rw [put_defers', hdef]) (by rw [put_size, hsize]) (by simpa using hls) (fun t ht => ?_) (fun j p hj hp hl => ?_)) hI (hR w)
      · cases hdo : o.dst with
        | none => exact hrest t ht
        | some d =>
          have hdm := dst_mem ho hdo
          have hdt : d ≠ t := fun e => ht (List.mem_filterMap.2 ⟨o, by
            rw [List.mem_take_iff_getElem]
            refine ⟨i, by rw [Array.length_toList]; omega, ?_⟩
            have := (Array.getElem?_eq_some_iff.1 ho).2
            rw [← this]; simp, by rw [hdo, e]⟩)
          rw [put_tmps _ _ _ _ (by rw [hsize]; exact hd d hdm), if_neg hdt]
          exact hrest t ht
      · by_cases hij : i = j
        · subst hij
          rw [ho] at hp
          injection hp with hp
          subst hp
          refine ⟨v, hv, fun d hdo => ?_⟩
          rw [hdo, put_tmps _ _ _ _ (by rw [hsize]; exact hd d (dst_mem ho hdo)), if_pos rfl]
        · rw [getD_set_ne false hij] at hl
          obtain ⟨u, hu, hud⟩ := hvals j p hj hp hl
          refine ⟨u, ?_, fun d hdp => ?_⟩
          · rcases hVj : Vf[j]? with _ | Vj
            · rw [List.getD, hVj] at hu; exact hu.elim
            · rw [List.getD, hVj] at hu ⊢
              exact hA.stable Vj (List.mem_of_getElem? hVj) _ _ _ hRw hu
          · cases hdo : o.dst with
            | none => exact hud d hdp
            | some d' =>
              have hne : d' ≠ d := by
                rintro rfl
                exact hij (nodup_dst ops.toList hn i j o p d' (by rw [Array.getElem?_toList]; exact ho) (by rw [Array.getElem?_toList]; exact hp) hdo hdp)
              rw [put_tmps _ _ _ _ (by rw [hsize]; exact hd d' (dst_mem ho hdo)), if_neg hne]
              exact hud d hdp
/-- A region that draws its order, the last operation behind all others. -/
theorem wp_region_tail {id : Nat} {Q : Exit → Act → World → Prop} {a : Act} {w : World} {l : List Oper} (o : Oper) (I : World → Prop) (R : World → World → Prop) (ho : l.getLast? = some o) (hm : P.follows .mixedOrders = true) (hok : relOk l.toArray a.tmps.size = true)
    (ht : tailOk l.toArray (l.length - 1) = true) (hR : ∀ w, R w w) (h0 : I w.drew)
    (h : wpRel P l.toArray I R a (fun Vs => ∀ w', I w' → relEnd w' (fun a' w'' => o.wp P a' w'' (fun a w => Q .normal a w) Q) l.dropLast Vs a) l.dropLast []) : (Code.region id l.toArray true).wp P Q a w := by
  obtain ⟨m, hml⟩ : ∃ m, m = l.length - 1 := ⟨_, rfl⟩
  have hsz := (tailOk_parts ht).1
  have hlen : l.length = m + 1 := by simp at hsz; omega
  rw [← hml] at ht
  have hdl : l.dropLast = l.take m := by rw [List.dropLast_eq_take, hml]
  have hlast : l[m]? = some o := by rw [List.getLast?_eq_getElem?, ← hml] at ho; exact ho
  rw [hdl] at h
  obtain ⟨Vf, hA, hK⟩ := relAllT_of (P := P) (ops := l.toArray) a m (l.take m) [] (fun j hj => by
    rw [List.length_take] at hj
    simp only [List.length_nil, Nat.zero_add, List.getElem?_toArray]
    rw [List.getElem?_take, if_pos (by omega)]) (by simp; omega) (by simp) (by simp) h
  have hmf : (Array.replicate l.length false).getD m true = false := by simp [hlen]
  refine wp_region_any hm (relT_sound hok ht hA hR (fun o' ho' a' w' hI hdef hsize hrest hvals => ?_) _ _ _ _ ?_ (by simpa using hmf) h0 rfl rfl (by simp) (fun _ _ => rfl) (fun j p hj hp hl => ?_))
  · have eo : o' = o := by
      simp only [List.getElem?_toArray] at ho'
      rw [hlast] at ho'
      injection ho' with ho'
      exact ho'.symm
    subst eo
    have hvs : ∃ vs : Nat → Value, ∀ (j : Nat) p, j < m → l.toArray[j]? = some p → (Vf.getD j (fun _ _ => False)) (vs j) w' ∧ ∀ d, p.dst = some d → a'.tmps[d]? = some (vs j) := by
      refine Classical.axiomOfChoice (r := fun j v => ∀ p, j < m → l.toArray[j]? = some p → (Vf.getD j (fun _ _ => False)) v w' ∧ ∀ d, p.dst = some d → a'.tmps[d]? = some v) fun j => ?_
      cases hp : l.toArray[j]? with
      | none => exact ⟨undef, fun p _ h => by cases h⟩
      | some p =>
        by_cases hjm : j < m
        · obtain ⟨v, h1, h2⟩ := hvals j p hjm hp
          exact ⟨v, fun p' _ h => by injection h with h; subst h; exact ⟨h1, h2⟩⟩
        · exact ⟨undef, fun p' h => absurd h hjm⟩
    obtain ⟨vs, hvs⟩ := hvs
    have hK' := hK w' hI
    refine relEnd_at (K := fun a' w'' => o'.wp P a' w'' (fun a w => Q .normal a w) Q) a' vs (l.take m) Vf 0 a (by rw [hA.len, List.length_take]; omega) (fun j V hV => ?_) hdef.symm hsize.symm (fun j p d hj hd => ?_) (fun t ht => (hrest t (by simpa using ht)).symm) hK'
    · have hj : j < m := by rw [← hA.len]; exact (List.getElem?_eq_some_iff.1 hV).1
      have hjl : j < l.length := by omega
      have := (hvs j l[j] hj (by simp [hjl])).1
      rw [List.getD, hV] at this
      rw [Nat.zero_add]
      exact this
    · have hjm : j < m := by
        have := (List.getElem?_eq_some_iff.1 hj).1
        rw [List.length_take] at this; omega
      rw [Nat.zero_add]
      refine (hvs j p hjm ?_).2 d hd
      rw [List.getElem?_take, if_pos hjm] at hj
      simpa using hj
  · simp
  · exfalso
    have hj' : j < l.length := by omega
    simp [hj'] at hl
end
end Go.Proofs.YtphljjgjpkdpmaaGreatDoor
/- A region that draws its order and ends in a chain of operations, the first of them behind all others (perhaps by way of others): the others each alone, the chain as in a plain statement. -/
namespace Go.Proofs.YtphljjgjpkdpmaaGreatDoor
open Go.RowKit
set_option linter.unusedVariables false
section
variable {P : Program} {ops : Array Oper} {I : World → Prop} {R : World → World → Prop}
def onAt (ops : Array Oper) (i j : Nat) : Bool := match ops[i]? with
  | none => false
  | some o => o.after.toList.any fun e => Region.binds .any e && (e.on == j)
theorem onAt_parts {i j : Nat} (h : onAt ops i j = true) : ∃ o, ops[i]? = some o ∧ ∃ e ∈ o.after, Region.binds .any e = true ∧ e.on = j := by
  unfold onAt at h
  cases ho : ops[i]? with
  | none => rw [ho] at h; cases h
  | some o =>
    rw [ho] at h
    simp only [List.any_eq_true, Bool.and_eq_true, beq_iff_eq] at h
    obtain ⟨e, he, hb, hon⟩ := h
    exact ⟨o, rfl, e, by simpa using he, hb, hon⟩
/-- From operation m on each waits for the one ahead; all ahead of m are waited for on the way to m. -/
def tailsOk (ops : Array Oper) (m : Nat) : Bool :=
  decide (m < ops.size) && ((List.range m).all fun j => (List.range' (j + 1) (m - j)).any fun i => onAt ops i j) && (List.range' m (ops.size - m - 1)).all fun j => onAt ops (j + 1) j
theorem tailsOk_parts {m : Nat} (h : tailsOk ops m = true) : m < ops.size ∧ (∀ j, j < m → ∃ i, j < i ∧ i ≤ m ∧ onAt ops i j = true) ∧ ∀ j, m ≤ j → j + 1 < ops.size → onAt ops (j + 1) j = true := by
  unfold tailsOk at h
  simp only [Bool.and_eq_true, decide_eq_true_eq, List.all_eq_true, List.mem_range, List.any_eq_true] at h
  obtain ⟨⟨h1, h2⟩, h3⟩ := h
  refine ⟨h1, fun j hj => ?_, fun j hj hj2 => h3 j (List.mem_range'_1.2 ⟨hj, by omega⟩)⟩
  obtain ⟨i, hi, ho⟩ := h2 j hj
  have := List.mem_range'_1.1 hi
  exact ⟨i, by omega, by omega, ho⟩
/-- The chain itself. -/
theorem chain_sound {m : Nat} {Q : Exit → Act → World → Prop} (hback : ∀ (i : Nat) o, ops[i]? = some o → ∀ e ∈ o.after, Region.binds .any e = true → e.on < i) (hch : ∀ j, m ≤ j → j + 1 < ops.size → onAt ops (j + 1) j = true) :
    ∀ (fuel k : Nat) (listed : Array Bool) (a : Act) (w : World), m ≤ k → listed.size = ops.size → (∀ j, j < k → j < ops.size → listed.getD j false = true) → (∀ j, k ≤ j → j < ops.size → listed.getD j true = false) → listed.toList.count false ≤ fuel →
      wpList P ops Q (ops.toList.drop k) a w → wpAny P .any ops Q fuel listed a w := by
  have only : ∀ (k : Nat) (listed : Array Bool), m ≤ k → listed.size = ops.size → (∀ j, j < k → j < ops.size → listed.getD j false = true) → (∀ j, k ≤ j → j < ops.size → listed.getD j true = false) →
      (∀ i ∈ Region.ready .any ops listed, i = k ∧ k < ops.size) ∧ (k < ops.size → k ∈ Region.ready .any ops listed) := by
    intro k listed hk hls hlo hhi
    refine ⟨fun i hi => ?_, fun hks => ?_⟩
    · obtain ⟨h0, o, ho, hafter⟩ := mem_ready.1 hi
      have hlt : i < ops.size := (Array.getElem?_eq_some_iff.1 ho).1
      have hil := getD_false_of h0
      rcases Nat.lt_or_ge i k with h | h
      · have h1 := hlo i h hlt
        simp [Array.getElem?_eq_getElem hil] at h0 h1
        rw [h0] at h1; cases h1
      · rcases Nat.eq_or_lt_of_le h with h | h
        · exact ⟨h.symm, by omega⟩
        · exfalso
          obtain ⟨o', ho', e, he, hb, hon⟩ := onAt_parts (hch (i - 1) (by omega) (by omega))
          rw [show i - 1 + 1 = i by omega, ho] at ho'
          injection ho' with ho'
          subst ho'
          have h1 := hafter e he hb
          rw [hon] at h1
          have h2 := hhi (i - 1) (by omega) (by omega)
          have hjl : i - 1 < listed.size := by omega
          simp [Array.getElem?_eq_getElem hjl] at h1 h2
          rw [h2] at h1; cases h1
    · exact mem_ready.2 ⟨hhi k (Nat.le_refl _) hks, ops[k], Array.getElem?_eq_getElem hks, fun e he hb => by
        have := hback k _ (Array.getElem?_eq_getElem hks) e he hb
        exact hlo e.on this (by omega)⟩
  intro fuel
  induction fuel with
  | zero =>
    intro k listed a w hk hls hlo hhi hc h
    have hks : ops.size ≤ k := by
      rcases Nat.lt_or_ge k ops.size with hlt | hge
      · exfalso
        have hz : listed.toList.count false = 0 := by omega
        rw [List.count_eq_zero] at hz
        apply hz
        have hm := hhi k (Nat.le_refl _) hlt
        have hml : k < listed.size := by omega
        have e : listed[k] = false := by simpa [Array.getElem?_eq_getElem hml] using hm
        rw [← e]
        simp
      · exact hge
    rw [List.drop_of_length_le (by simpa using hks)] at h
    refine ⟨?_, h⟩
    rcases hr : Region.ready .any ops listed with _ | ⟨j, js⟩
    · rfl
    · have := ((only k listed hk hls hlo hhi).1 j (by rw [hr]; exact List.mem_cons_self ..)).2
      omega
  | succ fuel ih =>
    intro k listed a w hk hls hlo hhi hc h
    refine ⟨fun hr => ?_, fun i hi => ?_⟩
    · have hks : ops.size ≤ k := by
        rcases Nat.lt_or_ge k ops.size with hlt | hge
        · have := (only k listed hk hls hlo hhi).2 hlt
          rw [hr] at this; cases this
        · exact hge
      rw [List.drop_of_length_le (by simpa using hks)] at h
      exact h
    · obtain ⟨rfl, hlt⟩ := (only k listed hk hls hlo hhi).1 i hi
      have hlt' : i < ops.toList.length := by rw [Array.length_toList]; exact hlt
      rw [List.drop_eq_getElem_cons hlt', Array.getElem_toList] at h
      unfold wpOp
      rw [Array.getElem?_eq_getElem hlt]
      unfold wpList at h
      have hilt : i < listed.size := by omega
      have go : ∀ a w, wpList P ops Q (ops.toList.drop (i + 1)) a w → wpAny P .any ops Q fuel (listed.setIfInBounds i true) a w := fun a w hw =>
        ih (i + 1) _ a w (by omega) (by simpa using hls) (fun j hj hjs => by
          rcases Nat.eq_or_lt_of_le (Nat.le_of_lt_succ hj) with rfl | hj
          · simp [hilt]
          · exact getD_set_true (hlo j hj hjs)) (fun j hj hjs => by
          rw [getD_set_ne true (by omega)]
          exact hhi j (by omega) hjs) (count_set hilt (hhi i (Nat.le_refl _) hlt) hc) hw
      simp only at h ⊢
      split
      · rename_i hw
        rw [if_pos hw] at h
        rcases h with h | h
        · exact .inl (Oper.wp_mono go h)
        · exact .inr h
      · rename_i hw
        rw [if_neg hw] at h
        exact go _ _ h
/-- What is asked of a region's text: of the first m operations as of all in relOk; of the chain that it looks back. -/
def dstsM (ops : Array Oper) (m : Nat) : List Tmp := (ops.toList.take m).filterMap (·.dst)
def relOkM (ops : Array Oper) (m n : Nat) : Bool :=
  (dstsM ops m).all (· < n) && (dstsM ops m).Nodup && Region.noSelect ops &&
  (List.range ops.size).all fun i => match ops[i]? with
    | none => true
    | some o => (o.after.toList.all fun e => !Region.binds .any e || e.on < i) &&
      (!decide (i < m) || (o.looksAt ops).all fun t => !(dstsM ops m).contains t || o.after.toList.any fun e => useEdge e && ((ops[e.on]?).bind (·.dst) == some t))
theorem relOkM_parts {m n : Nat} (h : relOkM ops m n = true) : (∀ d ∈ dstsM ops m, d < n) ∧ (dstsM ops m).Nodup ∧ Region.noSelect ops = true ∧
    ∀ (i : Nat) o, ops[i]? = some o → (∀ e ∈ o.after, Region.binds .any e = true → e.on < i) ∧ (i < m → ∀ t ∈ o.looksAt ops, t ∉ dstsM ops m ∨ ∃ e ∈ o.after.toList, useEdge e = true ∧ (ops[e.on]?).bind (·.dst) = some t) := by
  unfold relOkM at h
  simp only [Bool.and_eq_true, List.all_eq_true, decide_eq_true_eq] at h
  obtain ⟨⟨⟨h1, h2⟩, h3⟩, h4⟩ := h
  refine ⟨h1, h2, h3, fun i o hi => ?_⟩
  have hlt : i < ops.size := (Array.getElem?_eq_some_iff.1 hi).1
  have h5 := h4 i (List.mem_range.2 hlt)
  rw [hi] at h5
  simp only [Bool.and_eq_true, List.all_eq_true, Bool.or_eq_true, Bool.not_eq_true', decide_eq_true_eq, List.any_eq_true, beq_iff_eq, decide_eq_false_iff_not] at h5
  obtain ⟨h6, h7⟩ := h5
  refine ⟨fun e he hb => ?_, fun him t ht => ?_⟩
  · rcases h6 e (by simpa using he) with h8 | h8
    · rw [hb] at h8; cases h8
    · exact h8
  · rcases (h7.resolve_left (by omega)) t ht with h8 | h8
    · left
      intro hm
      have : (dstsM ops m).contains t = true := by simpa using hm
      rw [h8] at this; cases this
    · exact .inr h8
theorem dstM_mem {i m : Nat} {o : Oper} {d : Tmp} (him : i < m) (hi : ops[i]? = some o) (hd : o.dst = some d) : d ∈ dstsM ops m :=
  List.mem_filterMap.2 ⟨o, by
    rw [List.mem_take_iff_getElem]
    have := (Array.getElem?_eq_some_iff.1 hi)
    refine ⟨i, by rw [Array.length_toList]; have := this.1; omega, ?_⟩
    rw [← this.2]; simp, hd⟩
theorem take_at {i m : Nat} {o : Oper} (him : i < m) (hi : ops[i]? = some o) : (ops.toList.take m)[i]? = some o := by
  rw [List.getElem?_take, if_pos him, Array.getElem?_toList]; exact hi
theorem relU_sound {a0 : Act} {m : Nat} {Vf : List (Value → World → Prop)} {Q : Exit → Act → World → Prop} (hok : relOkM ops m a0.tmps.size = true) (ht : tailsOk ops m = true) (hA : RelAllT P ops m I R a0 Vf) (hR : ∀ w, R w w)
    (hend : ∀ a w, I w → a.defers = a0.defers → a.tmps.size = a0.tmps.size → (∀ t, t ∉ (ops.toList.take m).filterMap (·.dst) → a.tmps[t]? = a0.tmps[t]?) →
      (∀ (j : Nat) p, j < m → ops[j]? = some p → ∃ v, (Vf.getD j (fun _ _ => False)) v w ∧ ∀ d, p.dst = some d → a.tmps[d]? = some v) → wpList P ops Q (ops.toList.drop m) a w) :
    ∀ (fuel : Nat) (listed : Array Bool) (a : Act) (w : World), listed.toList.count false ≤ fuel → (∀ j, m ≤ j → j < ops.size → listed.getD j true = false) → (∀ (i : Nat) o, ops[i]? = some o → listed.getD i false = true → ∀ e ∈ o.after, Region.binds .any e = true → listed.getD e.on false = true) → I w → a.defers = a0.defers → a.tmps.size = a0.tmps.size → listed.size = ops.size →
      (∀ t, t ∉ (ops.toList.take m).filterMap (·.dst) → a.tmps[t]? = a0.tmps[t]?) →
      (∀ (j : Nat) p, j < m → ops[j]? = some p → listed.getD j false = true → ∃ v, (Vf.getD j (fun _ _ => False)) v w ∧ ∀ d, p.dst = some d → a.tmps[d]? = some v) → wpAny P .any ops Q fuel listed a w := by
  obtain ⟨hd, hn, hsel, hpart⟩ := relOkM_parts hok
  obtain ⟨hmsz, hwait, hch⟩ := tailsOk_parts ht
  have noReady : ∀ (listed : Array Bool), listed.getD m true = false → listed.size = ops.size → Region.ready .any ops listed = [] → False := by
    intro listed hm hls hr
    have all : ∀ j, j < ops.size → listed.getD j false = true := by
      intro j
      induction j using Nat.strongRecOn with
      | _ j ih =>
        intro hj
        by_cases hf : listed.getD j false = true
        · exact hf
        · exfalso
          have hjl : j < listed.size := by rw [hls]; exact hj
          have hft : listed.getD j true = false := by
            simp [Array.getElem?_eq_getElem hjl] at hf ⊢
            exact hf
          have : j ∈ Region.ready .any ops listed := mem_ready.2 ⟨hft, ops[j], Array.getElem?_eq_getElem hj, fun e he hb => by
            have := (hpart j _ (Array.getElem?_eq_getElem hj)).1 e he hb
            exact ih e.on this (by omega)⟩
          rw [hr] at this
          cases this
    have h1 := all m (by omega)
    have hml := getD_false_of hm
    simp [Array.getElem?_eq_getElem hml] at hm h1
    rw [hm] at h1; cases h1
  intro fuel
  induction fuel with
  | zero =>
    intro listed a w hc hm0 _ hI _ _ hls _ _
    exfalso
    have hm := hm0 m (Nat.le_refl _) hmsz
    have hml := getD_false_of hm
    have hz : listed.toList.count false = 0 := by omega
    rw [List.count_eq_zero] at hz
    apply hz
    have e : listed[m] = false := by simpa [Array.getElem?_eq_getElem hml] using hm
    rw [← e]
    simp
  | succ fuel ih =>
    intro listed a w hc hm hdown hI hdef hsize hls hrest hvals
    by_cases hmr : m ∈ Region.ready .any ops listed
    · obtain ⟨_, om, hom, hafterm⟩ := mem_ready.1 hmr
      have hall : ∀ d j, m - j ≤ d → j < m → listed.getD j false = true := by
        intro d
        induction d with
        | zero => intro j h1 h2; omega
        | succ d ihd =>
          intro j h1 h2
          obtain ⟨i, hji, him, hon⟩ := hwait j h2
          obtain ⟨o, ho, e, he, hb, hej⟩ := onAt_parts hon
          rcases Nat.eq_or_lt_of_le him with rfl | him
          · rw [hom] at ho
            injection ho with ho
            subst ho
            rw [← hej]; exact hafterm e he hb
          · have := ihd i (by omega) him
            rw [← hej]; exact hdown i o ho this e he hb
      exact chain_sound (fun i o hi => (hpart i o hi).1) hch (fuel + 1) m listed a w (Nat.le_refl _) hls (fun j hj _ => hall _ j (Nat.le_refl _) hj) hm hc (hend a w hI hdef hsize hrest (fun j p hj hp => hvals j p hj hp (hall _ j (Nat.le_refl _) hj)))
    refine ⟨fun hr => (noReady listed (hm m (Nat.le_refl _) hmsz) hls hr).elim, fun i hi => ?_⟩
    have him : i ≠ m := fun e => hmr (e ▸ hi)
    obtain ⟨h0, o, ho, hafter⟩ := mem_ready.1 hi
    have hil := getD_false_of h0
    have hlt : i < ops.size := (Array.getElem?_eq_some_iff.1 ho).1
    have him' : i < m := by
      rcases Nat.lt_or_ge i m with h | h
      · exact h
      · exfalso
        obtain ⟨o', ho', e, he, hb, hon⟩ := onAt_parts (hch (i - 1) (by omega) (by omega))
        rw [show i - 1 + 1 = i by omega, ho] at ho'
        injection ho' with ho'
        subst ho'
        have h1 := hafter e he hb
        rw [hon] at h1
        have h2 := hm (i - 1) (by omega) (by omega)
        have hjl : i - 1 < listed.size := by omega
        simp [Array.getElem?_eq_getElem hjl] at h1 h2
        rw [h2] at h1; cases h1
    obtain ⟨hback, hlook⟩ := hpart i o ho
    have hvs : ∃ vs : Nat → Value, ∀ (j : Nat) p, j < m → ops[j]? = some p → listed.getD j false = true → (Vf.getD j (fun _ _ => False)) (vs j) w ∧ ∀ d, p.dst = some d → a.tmps[d]? = some (vs j) := by
      refine Classical.axiomOfChoice (r := fun j v => ∀ p, j < m → ops[j]? = some p → listed.getD j false = true → (Vf.getD j (fun _ _ => False)) v w ∧ ∀ d, p.dst = some d → a.tmps[d]? = some v) fun j => ?_
      cases hp : ops[j]? with
      | none => exact ⟨undef, fun p _ h => by cases h⟩
      | some p =>
        by_cases hl : listed.getD j false = true
        · by_cases hjm : j < m
          · obtain ⟨v, h1, h2⟩ := hvals j p hjm hp hl
            exact ⟨v, fun p' _ h _ => by injection h with h; subst h; exact ⟨h1, h2⟩⟩
          · exact ⟨undef, fun p' h => absurd h hjm⟩
        · exact ⟨undef, fun p' _ _ h => absurd h hl⟩
    obtain ⟨vs, hvs⟩ := hvs
    have hlisted : ∀ e ∈ o.after.toList, useEdge e = true → listed.getD e.on false = true := fun e he hu => hafter e (by simpa using he) (useEdge_binds hu)
    have hbk : ∀ e ∈ o.after.toList, useEdge e = true → e.on < i := fun e he hu => hback e (by simpa using he) (useEdge_binds hu)
    have hdeps := relDeps_at (ops := ops) (Vs := Vf.take i) (w := w) vs o.after.toList a0 (fun e he hu p hp => by
      have hlt := hbk e he hu
      have e1 : (Vf.take i).getD e.on (fun _ _ => False) = Vf.getD e.on (fun _ _ => False) := by
        rw [List.getD, List.getD, List.getElem?_take, if_pos hlt]
      rw [e1]
      exact (hvs e.on p (by omega) hp (hlisted e he hu)).1) (hA.step i o him' ho w hI)
    generalize hcan : o.after.toList.foldl (fun a e => if useEdge e = true then a.put ((ops[e.on]?).bind (·.dst)) (vs e.on) else a) a0 = can at hdeps
    have hsame : ∀ t ∈ o.looksAt ops, can.tmps[t]? = a.tmps[t]? := by
      intro t ht
      rw [← hcan]
      refine fold_tmps (ops := ops) vs a o.after.toList a0 hsize.symm (fun e he hu d hd' => ?_) t ?_
      · cases hp : ops[e.on]? with
        | none => rw [hp] at hd'; cases hd'
        | some p =>
          rw [hp] at hd'
          have := hbk e he hu
          exact (hvs e.on p (by omega) hp (hlisted e he hu)).2 d hd'
      · rcases hlook him' t ht with h | h
        · exact .inl (hrest t h)
        · exact .inr h
    have hsl : ∀ cs b, o.op ≠ .select cs b := fun cs b => Region.noSelect_spec hsel i o cs b ho
    obtain ⟨he1, he2⟩ := same_step (ops := ops) hsl hsame
    have hstep : relStep P ops o I R (Vf.getD i (fun _ _ => False)) w a := by
      unfold relStep at hdeps ⊢
      rw [← he1, ← he2]
      exact hdeps
    refine wpOp_of_rel ho hstep (fun v w' hv hI' hRw => ih _ _ _ (count_set hil h0 hc) (fun j hj hjs => by rw [getD_set_ne true (by omega)]; exact hm j hj hjs) (fun i' o' ho' hl' e he hb => by
      by_cases hii : i = i'
      · subst hii
        rw [ho] at ho'
        injection ho' with ho'
        subst ho'
        exact getD_set_true (hafter e he hb)
      · rw [getD_set_ne false hii] at hl'
        exact getD_set_true (hdown i' o' ho' hl' e he hb)) hI' (by rw [put_defers', hdef]) (by rw [put_size, hsize]) (by simpa using hls) (fun t ht => ?_) (fun j p hj hp hl => ?_)) hI (hR w)
    · cases hdo : o.dst with
      | none => exact hrest t ht
      | some d =>
        have hdm := dstM_mem him' ho hdo
        have hdt : d ≠ t := fun e => ht (e ▸ hdm)
        rw [put_tmps _ _ _ _ (by rw [hsize]; exact hd d hdm), if_neg hdt]
        exact hrest t ht
    · by_cases hij : i = j
      · subst hij
        rw [ho] at hp
        injection hp with hp
        subst hp
        refine ⟨v, hv, fun d hdo => ?_⟩
        rw [hdo, put_tmps _ _ _ _ (by rw [hsize]; exact hd d (dstM_mem him' ho hdo)), if_pos rfl]
      · rw [getD_set_ne false hij] at hl
        obtain ⟨u, hu, hud⟩ := hvals j p hj hp hl
        refine ⟨u, ?_, fun d hdp => ?_⟩
        · rcases hVj : Vf[j]? with _ | Vj
          · rw [List.getD, hVj] at hu; exact hu.elim
          · rw [List.getD, hVj] at hu ⊢
            exact hA.stable Vj (List.mem_of_getElem? hVj) _ _ _ hRw hu
        · cases hdo : o.dst with
          | none => exact hud d hdp
          | some d' =>
            have hne : d' ≠ d := by
              rintro rfl
              exact hij (nodup_dst _ hn i j o p d' (take_at him' ho) (take_at hj hp) hdo hdp)
            rw [put_tmps _ _ _ _ (by rw [hsize]; exact hd d' (dstM_mem him' ho hdo)), if_neg hne]
            exact hud d hdp
/-- A region that draws its order, behind m of its operations a chain. -/
theorem wp_region_tails {id : Nat} {Q : Exit → Act → World → Prop} {a : Act} {w : World} {l : List Oper} (m : Nat) (l1 l2 : List Oper) (I : World → Prop) (R : World → World → Prop) (h1 : l.take m = l1) (h2 : l.drop m = l2) (hm : P.follows .mixedOrders = true) (hok : relOkM l.toArray m a.tmps.size = true)
    (ht : tailsOk l.toArray m = true) (hR : ∀ w, R w w) (h0 : I w.drew)
    (h : wpRel P l.toArray I R a (fun Vs => ∀ w', I w' → relEnd w' (fun a' w'' => wpList P l.toArray Q l2 a' w'') l1 Vs a) l1 []) : (Code.region id l.toArray true).wp P Q a w := by
  have hsz := (tailsOk_parts ht).1
  have hlen : m < l.length := by simpa using hsz
  subst h1 h2
  obtain ⟨Vf, hA, hK⟩ := relAllT_of (P := P) (ops := l.toArray) a m (l.take m) [] (fun j hj => by
    rw [List.length_take] at hj
    simp only [List.length_nil, Nat.zero_add, List.getElem?_toArray]
    rw [List.getElem?_take, if_pos (by omega)]) (by simp; omega) (by simp) (by simp) h
  refine wp_region_any hm (relU_sound hok ht hA hR (fun a' w' hI hdef hsize hrest hvals => ?_) _ _ _ _ ?_ (fun j _ hj => by have : j < l.length := by simpa using hj
                                                                                                                            simp [this]) (fun i o ho hl => ?_) h0 rfl rfl (by simp) (fun _ _ => rfl) (fun j p hj hp hl => ?_))
  · have hvs : ∃ vs : Nat → Value, ∀ (j : Nat) p, j < m → l.toArray[j]? = some p → (Vf.getD j (fun _ _ => False)) (vs j) w' ∧ ∀ d, p.dst = some d → a'.tmps[d]? = some (vs j) := by
      refine Classical.axiomOfChoice (r := fun j v => ∀ p, j < m → l.toArray[j]? = some p → (Vf.getD j (fun _ _ => False)) v w' ∧ ∀ d, p.dst = some d → a'.tmps[d]? = some v) fun j => ?_
      cases hp : l.toArray[j]? with
      | none => exact ⟨undef, fun p _ h => by cases h⟩
      | some p =>
        by_cases hjm : j < m
        · obtain ⟨v, h1, h2⟩ := hvals j p hjm hp
          exact ⟨v, fun p' _ h => by injection h with h; subst h; exact ⟨h1, h2⟩⟩
        · exact ⟨undef, fun p' h => absurd h hjm⟩
    obtain ⟨vs, hvs⟩ := hvs
    have hK' := hK w' hI
    refine relEnd_at (K := fun a' w'' => wpList P l.toArray Q (l.drop m) a' w'') a' vs (l.take m) Vf 0 a (by rw [hA.len, List.length_take]; omega) (fun j V hV => ?_) hdef.symm hsize.symm (fun j p d hj hd => ?_) (fun t ht => (hrest t (by simpa using ht)).symm) hK'
    · have hj : j < m := by rw [← hA.len]; exact (List.getElem?_eq_some_iff.1 hV).1
      have hjl : j < l.length := by omega
      have := (hvs j l[j] hj (by simp [hjl])).1
      rw [List.getD, hV] at this
      rw [Nat.zero_add]
      exact this
    · have hjm : j < m := by
        have := (List.getElem?_eq_some_iff.1 hj).1
        rw [List.length_take] at this; omega
      rw [Nat.zero_add]
      refine (hvs j p hjm ?_).2 d hd
      rw [List.getElem?_take, if_pos hjm] at hj
      simpa using hj
  · simp
  · exfalso
    have hi : i < l.length := by
      have := (Array.getElem?_eq_some_iff.1 ho).1
      simpa using this
    simp [hi] at hl
  · exfalso
    have hj' : j < l.length := by omega
    simp [hj'] at hl
end
end Go.Proofs.YtphljjgjpkdpmaaGreatDoor
