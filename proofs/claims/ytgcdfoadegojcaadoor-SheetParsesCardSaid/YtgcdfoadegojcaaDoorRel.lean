/- A region that draws its order, whose operations may make memory: each operation is shown alone, from what stands in its operands; whatever order is picked, what each one left holds at the end. -/
import Derived.Orders
import Derived.Still
import Derived.Deep.QuietTactic
import Derived.BigQuiet
import Derived.Test.YtgcdfoadegojcaaDoorB1
namespace Go.Proofs.YtgcdfoadegojcaaDoor
open Go.RowKit
set_option linter.unusedVariables false
section
variable {P : Program} {ops : Array Oper} {I : World → Prop} {R : World → World → Prop}
/-- What an operation, carried out, leaves. -/
def relUpon (P : Program) (Post : Value → World → Prop) : Result Next → Prop
  | .ok (.value u) w' => Post u w'
  | .ok .skip w' => Post undef w'
  | .ok (.enter f args) w' => Calls P f args w' (fun e w'' => ∃ u, e = .returned u ∧ Post u w'')
  | _ => False
theorem relUpon_value (Post : Value → World → Prop) (u : Value) (w : World) : relUpon P Post (.ok (.value u) w) = Post u w := rfl
theorem relUpon_skip (Post : Value → World → Prop) (w : World) : relUpon P Post (.ok .skip w) = Post undef w := rfl
theorem relUpon_enter (Post : Value → World → Prop) (f : FuncId) (args : Array Value) (w : World) : relUpon P Post (.ok (.enter f args) w) = Calls P f args w (fun e w'' => ∃ u, e = .returned u ∧ Post u w'') := rfl
theorem relUpon_mono {Post Post' : Value → World → Prop} (h : ∀ u w, Post u w → Post' u w) {r : Result Next} (hr : relUpon P Post r) : relUpon P Post' r := by
  cases r with
  | ok n w' =>
    cases n <;> simp only [relUpon] at hr ⊢
    case value u => exact h _ _ hr
    case skip => exact h _ _ hr
    case enter f args => exact hr.mono fun e w'' ⟨u, he, hp⟩ => ⟨u, he, h _ _ hp⟩
  | halt x w' => exact hr
/-- The edges that an operation's operands come by. -/
def useEdge (e : Edge) : Bool := match e.ground with | .data => true | .guard => true | _ => false
theorem useEdge_binds {e : Edge} (h : useEdge e = true) : Region.binds .any e = true := by
  unfold useEdge at h
  unfold Region.binds
  cases he : e.ground <;> rw [he] at h <;> first | rfl | simp at h
/-- An operation, of whatever stands in its operands. -/
def relDeps (ops : Array Oper) (Vs : List (Value → World → Prop)) (w : World) : List Edge → (Act → Prop) → Act → Prop
  | [], k, a => k a
  | e :: es, k, a => if useEdge e = true then (match (ops[e.on]?).bind (·.dst) with
      | some d => ∀ v, (Vs.getD e.on (fun _ _ => False)) v w → relDeps ops Vs w es k (a.put (some d) v)
      | none => relDeps ops Vs w es k a) else relDeps ops Vs w es k a
def relStep (P : Program) (ops : Array Oper) (o : Oper) (I : World → Prop) (R : World → World → Prop) (V : Value → World → Prop) (w : World) (a : Act) : Prop :=
  if Region.wanted o (yielded ops a.tmps) = true then relUpon P (fun u w' => V u w' ∧ I w' ∧ R w w') ((execOp a.eval o).run P w) else V undef w
/-- The walk in the order of the text: of each operation what it leaves is named. -/
def wpRel (P : Program) (ops : Array Oper) (I : World → Prop) (R : World → World → Prop) (a0 : Act) (K : List (Value → World → Prop) → Prop) : List Oper → List (Value → World → Prop) → Prop
  | [], Vs => K Vs
  | o :: rest, Vs => ∃ V : Value → World → Prop, (∀ v w w', R w w' → V v w → V v w') ∧ (∀ w, I w → relDeps ops Vs w o.after.toList (relStep P ops o I R V w) a0) ∧ wpRel P ops I R a0 K rest (Vs ++ [V])
theorem wpRel_nil {a0 : Act} {K : List (Value → World → Prop) → Prop} {Vs : List (Value → World → Prop)} (h : K Vs) : wpRel P ops I R a0 K [] Vs := h
theorem wpRel_step {a0 : Act} {K : List (Value → World → Prop) → Prop} {Vs : List (Value → World → Prop)} {o : Oper} {rest : List Oper} (V : Value → World → Prop) (h1 : ∀ v w w', R w w' → V v w → V v w')
    (h2 : ∀ w, I w → relDeps ops Vs w o.after.toList (relStep P ops o I R V w) a0) (h3 : wpRel P ops I R a0 K rest (Vs ++ [V])) : wpRel P ops I R a0 K (o :: rest) Vs := ⟨V, h1, h2, h3⟩
/-- An operation that leaves one value. -/
theorem wpRel_det {a0 : Act} {K : List (Value → World → Prop) → Prop} {Vs : List (Value → World → Prop)} {o : Oper} {rest : List Oper}
    (h : ∃ c : Value, (∀ w, I w → relDeps ops Vs w o.after.toList (relStep P ops o I R (fun v _ => v = c) w) a0) ∧ wpRel P ops I R a0 K rest (Vs ++ [fun v _ => v = c])) : wpRel P ops I R a0 K (o :: rest) Vs :=
  let ⟨_, h2, h3⟩ := h
  ⟨_, fun _ _ _ _ h => h, h2, h3⟩
/-- The end: the operations' values stand in their places. -/
def relEnd (w : World) (K : Act → World → Prop) : List Oper → List (Value → World → Prop) → Act → Prop
  | o :: l, V :: Vs, a => ∀ v, V v w → relEnd w K l Vs (a.put o.dst v)
  | _, _, a => K a w
theorem relEnd_cons (w : World) (K : Act → World → Prop) (o : Oper) (l : List Oper) (V : Value → World → Prop) (Vs : List (Value → World → Prop)) (a : Act) : relEnd w K (o :: l) (V :: Vs) a = ∀ v, V v w → relEnd w K l Vs (a.put o.dst v) := rfl
theorem relEnd_nil (w : World) (K : Act → World → Prop) (a : Act) : relEnd w K [] [] a = K a w := rfl
attribute [go_sem] relDeps relStep relUpon_value relUpon_skip relUpon_enter useEdge relEnd_cons relEnd_nil
/-- What is asked of a region's text. -/
def relDsts (ops : Array Oper) : List Tmp := ops.toList.filterMap (·.dst)
def relOk (ops : Array Oper) (n : Nat) : Bool :=
  (relDsts ops).all (· < n) && (relDsts ops).Nodup && Region.noSelect ops &&
  (List.range ops.size).all fun i => match ops[i]? with
    | none => true
    | some o => (o.after.toList.all fun e => !Region.binds .any e || e.on < i) &&
      (o.looksAt ops).all fun t => !(relDsts ops).contains t || o.after.toList.any fun e => useEdge e && ((ops[e.on]?).bind (·.dst) == some t)
structure RelJ (ops : Array Oper) (I : World → Prop) (Vf : List (Value → World → Prop)) (a0 : Act) (listed : Array Bool) (a : Act) (w : World) : Prop where
  inv : I w
  defers : a.defers = a0.defers
  size : a.tmps.size = a0.tmps.size
  lsize : listed.size = ops.size
  rest : ∀ t, t ∉ relDsts ops → a.tmps[t]? = a0.tmps[t]?
  vals : ∀ (j : Nat) o, ops[j]? = some o → listed.getD j false = true → ∃ v, (Vf.getD j (fun _ _ => False)) v w ∧ ∀ d, o.dst = some d → a.tmps[d]? = some v
/-- A state in which the operands stand as the edges tell of them. -/
theorem relDeps_at {Vs : List (Value → World → Prop)} {w : World} {k : Act → Prop} (vs : Nat → Value) : ∀ (es : List Edge) (a : Act), (∀ e ∈ es, useEdge e = true → ∀ o, ops[e.on]? = some o → (Vs.getD e.on (fun _ _ => False)) (vs e.on) w) → relDeps ops Vs w es k a →
    k (es.foldl (fun a e => if useEdge e = true then a.put ((ops[e.on]?).bind (·.dst)) (vs e.on) else a) a)
  | [], a, _, h => h
  | e :: es, a, hv, h => by
    rw [List.foldl_cons]
    have ih := relDeps_at (Vs := Vs) (w := w) (k := k) vs es
    unfold relDeps at h
    by_cases hu : useEdge e = true
    · rw [if_pos hu] at h ⊢
      cases ho : ops[e.on]? with
      | none =>
        rw [ho] at h
        exact ih _ (fun e' he' => hv e' (List.mem_cons_of_mem _ he')) h
      | some o =>
        rw [ho] at h
        cases hd : o.dst with
        | none =>
          simp only [Option.bind_some, hd] at h ⊢
          exact ih _ (fun e' he' => hv e' (List.mem_cons_of_mem _ he')) h
        | some d =>
          simp only [Option.bind_some, hd] at h ⊢
          exact ih _ (fun e' he' => hv e' (List.mem_cons_of_mem _ he')) (h _ (hv e (List.mem_cons_self ..) hu o ho))
    · rw [if_neg hu] at h ⊢
      exact ih _ (fun e' he' => hv e' (List.mem_cons_of_mem _ he')) h
theorem put_tmps (a : Act) (d : Tmp) (v : Value) (t : Tmp) (hd : d < a.tmps.size) : (a.put (some d) v).tmps[t]? = if d = t then some v else a.tmps[t]? := by
  show (a.tmps.setIfInBounds d v)[t]? = _
  rw [Array.getElem?_setIfInBounds]
  split
  · rename_i h; subst h; simp
  · rfl
theorem put_tmps_none (a : Act) (v : Value) : a.put none v = a := rfl
theorem put_size (a : Act) (d : Option Tmp) (v : Value) : (a.put d v).tmps.size = a.tmps.size := by
  cases d with
  | none => rfl
  | some d => show (a.tmps.setIfInBounds d v).size = _; simp
theorem put_defers' (a : Act) (d : Option Tmp) (v : Value) : (a.put d v).defers = a.defers := by cases d <;> rfl
/-- Where the edges reach, the made-up state has what the true one has. -/
theorem fold_tmps (vs : Nat → Value) (b : Act) : ∀ (es : List Edge) (a : Act), a.tmps.size = b.tmps.size →
    (∀ e ∈ es, useEdge e = true → ∀ d, (ops[e.on]?).bind (·.dst) = some d → b.tmps[d]? = some (vs e.on)) →
    ∀ t, (b.tmps[t]? = a.tmps[t]? ∨ ∃ e ∈ es, useEdge e = true ∧ (ops[e.on]?).bind (·.dst) = some t) →
      (es.foldl (fun a e => if useEdge e = true then a.put ((ops[e.on]?).bind (·.dst)) (vs e.on) else a) a).tmps[t]? = b.tmps[t]?
  | [], a, _, _, t, h => by
    rcases h with h | ⟨e, he, _⟩
    · exact h.symm
    · cases he
  | e :: es, a, hs, hv, t, h => by
    rw [List.foldl_cons]
    refine fold_tmps vs b es _ ?_ (fun e' he' => hv e' (List.mem_cons_of_mem _ he')) t ?_
    · split
      · rw [put_size, hs]
      · exact hs
    · by_cases hu : useEdge e = true
      · rw [if_pos hu]
        cases hd : (ops[e.on]?).bind (·.dst) with
        | none =>
          rcases h with h | ⟨e', he', hu', ht⟩
          · exact .inl h
          · rcases List.mem_cons.1 he' with rfl | he'
            · rw [hd] at ht; cases ht
            · exact .inr ⟨e', he', hu', ht⟩
        | some d =>
          have hb := hv e (List.mem_cons_self ..) hu d hd
          have hlt : d < a.tmps.size := by rw [hs]; exact (Array.getElem?_eq_some_iff.1 hb).1
          by_cases hdt : d = t
          · left
            subst hdt
            rw [put_tmps _ _ _ _ hlt, if_pos rfl, hb]
          · rcases h with h | ⟨e', he', hu', ht⟩
            · left
              rw [put_tmps _ _ _ _ hlt, if_neg hdt, h]
            · rcases List.mem_cons.1 he' with rfl | he'
              · rw [hd] at ht; injection ht with ht; exact absurd ht hdt
              · exact .inr ⟨e', he', hu', ht⟩
      · rw [if_neg hu]
        rcases h with h | ⟨e', he', hu', ht⟩
        · exact .inl h
        · rcases List.mem_cons.1 he' with rfl | he'
          · exact absurd hu' hu
          · exact .inr ⟨e', he', hu', ht⟩
theorem eval_of_tmps {a b : Act} {x : Operand} (h : ∀ t, x = .tmp t → a.tmps[t]? = b.tmps[t]?) : a.eval x = b.eval x := by
  cases x with
  | tmp t => simp [Act.eval, h t rfl]
  | _ => rfl
theorem yielded_of {a b : Act} {j : Nat} (h : ∀ t, (ops[j]?).bind (·.dst) = some t → a.tmps[t]? = b.tmps[t]?) : yielded ops a.tmps j = yielded ops b.tmps j := by
  unfold yielded
  cases hd : (ops[j]?).bind (·.dst) with
  | none => rfl
  | some t => simp only [Option.bind_some]; rw [h t hd]
/-- What an operation does is told by what it looks at. -/
theorem same_step {o : Oper} (hs : ∀ cs b, o.op ≠ .select cs b) {a b : Act} (h : ∀ t ∈ o.looksAt ops, a.tmps[t]? = b.tmps[t]?) :
    execOp a.eval o = execOp b.eval o ∧ Region.wanted o (yielded ops a.tmps) = Region.wanted o (yielded ops b.tmps) := by
  refine ⟨execOp_congr o hs fun x hx => eval_of_tmps fun t ht => h t ?_, ?_⟩
  · subst ht
    exact List.mem_append_left _ (List.mem_filterMap.2 ⟨.tmp t, by simpa using hx, rfl⟩)
  · unfold Region.wanted
    cases hg : o.guard with
    | none => rfl
    | some gw =>
      obtain ⟨g, want⟩ := gw
      simp only
      rw [yielded_of (ops := ops) (a := a) (b := b) (j := g) fun t ht => h t (by
        unfold Oper.looksAt
        rw [hg]
        exact List.mem_append_right _ (by simp [ht]))]
theorem wpOp_of_rel {i : Nat} {o : Oper} (hi : ops[i]? = some o) {a : Act} {w : World} {V : Value → World → Prop} {K : Act → World → Prop} {Q : Exit → Act → World → Prop}
    (h : relStep P ops o I R V w a) (hK : ∀ v w', V v w' → I w' → R w w' → K (a.put o.dst v) w') (hI : I w) (hR : R w w) : wpOp P ops Q i K a w := by
  unfold wpOp
  simp only [hi]
  unfold relStep at h
  split
  · rename_i hw
    rw [if_pos hw] at h
    refine .inl ?_
    unfold Oper.wp
    generalize (execOp a.eval o).run P w = r at h
    cases r with
    | ok n w' =>
      cases n <;> simp only [relUpon] at h <;> simp only [Oper.upon]
      case value u => exact hK _ _ h.1 h.2.1 h.2.2
      case skip => exact hK _ _ h.1 h.2.1 h.2.2
      case enter f args => exact h.mono fun e w'' ⟨u, he, hp⟩ => by subst he; exact hK _ _ hp.1 hp.2.1 hp.2.2
    | halt x w' => exact h.elim
  · rename_i hw
    rw [if_neg hw] at h
    exact hK _ _ h hI hR
theorem relOk_parts {n : Nat} (h : relOk ops n = true) : (∀ d ∈ relDsts ops, d < n) ∧ (relDsts ops).Nodup ∧ Region.noSelect ops = true ∧
    ∀ (i : Nat) o, ops[i]? = some o → (∀ e ∈ o.after, Region.binds .any e = true → e.on < i) ∧ ∀ t ∈ o.looksAt ops, t ∉ relDsts ops ∨ ∃ e ∈ o.after.toList, useEdge e = true ∧ (ops[e.on]?).bind (·.dst) = some t := by
  unfold relOk at h
  simp only [Bool.and_eq_true, List.all_eq_true, decide_eq_true_eq] at h
  obtain ⟨⟨⟨h1, h2⟩, h3⟩, h4⟩ := h
  refine ⟨h1, h2, h3, fun i o hi => ?_⟩
  have hlt : i < ops.size := (Array.getElem?_eq_some_iff.1 hi).1
  have h5 := h4 i (List.mem_range.2 hlt)
  rw [hi] at h5
  simp only [Bool.and_eq_true, List.all_eq_true, Bool.or_eq_true, Bool.not_eq_true', decide_eq_true_eq, List.any_eq_true, beq_iff_eq] at h5
  obtain ⟨h6, h7⟩ := h5
  refine ⟨fun e he hb => ?_, fun t ht => ?_⟩
  · rcases h6 e (by simpa using he) with h8 | h8
    · rw [hb] at h8; cases h8
    · exact h8
  · rcases h7 t ht with h8 | ⟨e, he, hu, hd⟩
    · left
      intro hm
      have : (relDsts ops).contains t = true := by simpa using hm
      rw [h8] at this; cases this
    · exact .inr ⟨e, he, hu, hd⟩
theorem dst_mem {i : Nat} {o : Oper} {d : Tmp} (hi : ops[i]? = some o) (hd : o.dst = some d) : d ∈ relDsts ops :=
  List.mem_filterMap.2 ⟨o, by rw [← Array.mem_def]; exact Array.mem_of_getElem? hi, hd⟩
theorem nodup_dst : ∀ (l : List Oper), (l.filterMap (·.dst)).Nodup → ∀ (i j : Nat) (o p : Oper) (d : Tmp), l[i]? = some o → l[j]? = some p → o.dst = some d → p.dst = some d → i = j
  | [], _, i, _, _, _, _, h, _, _, _ => by simp at h
  | x :: l, hn, i, j, o, p, d, hi, hj, ho, hp => by
    have hmem : ∀ (k : Nat) (q : Oper), l[k]? = some q → q.dst = some d → d ∈ l.filterMap (·.dst) := fun k q hk hq => List.mem_filterMap.2 ⟨q, List.mem_of_getElem? hk, hq⟩
    rcases i with _ | i <;> rcases j with _ | j
    · rfl
    · simp only [List.getElem?_cons_zero, Option.some.injEq, List.getElem?_cons_succ] at hi hj
      subst hi
      rw [List.filterMap_cons, ho] at hn
      exact absurd (hmem j p hj hp) (List.nodup_cons.1 hn).1
    · simp only [List.getElem?_cons_zero, Option.some.injEq, List.getElem?_cons_succ] at hi hj
      subst hj
      rw [List.filterMap_cons, hp] at hn
      exact absurd (hmem i o hi ho) (List.nodup_cons.1 hn).1
    · simp only [List.getElem?_cons_succ] at hi hj
      have hn' : (l.filterMap (·.dst)).Nodup := by
        rw [List.filterMap_cons] at hn
        split at hn
        · exact hn
        · exact (List.nodup_cons.1 hn).2
      rw [nodup_dst l hn' i j o p d hi hj ho hp]
/-- All that is asked, operation by operation. -/
structure RelAll (P : Program) (ops : Array Oper) (I : World → Prop) (R : World → World → Prop) (a0 : Act) (Vf : List (Value → World → Prop)) : Prop where
  len : Vf.length = ops.size
  stable : ∀ V ∈ Vf, ∀ v w w', R w w' → V v w → V v w'
  step : ∀ (i : Nat) o, ops[i]? = some o → ∀ w, I w → relDeps ops (Vf.take i) w o.after.toList (relStep P ops o I R (Vf.getD i (fun _ _ => False)) w) a0
theorem relAll_of (a0 : Act) {K : List (Value → World → Prop) → Prop} : ∀ (l : List Oper) (Vs : List (Value → World → Prop)), (∀ j, l[j]? = ops[Vs.length + j]?) → Vs.length + l.length = ops.size →
    (∀ V ∈ Vs, ∀ v w w', R w w' → V v w → V v w') → (∀ (i : Nat) o, i < Vs.length → ops[i]? = some o → ∀ w, I w → relDeps ops (Vs.take i) w o.after.toList (relStep P ops o I R (Vs.getD i (fun _ _ => False)) w) a0) →
    wpRel P ops I R a0 K l Vs → ∃ Vf, RelAll P ops I R a0 Vf ∧ K Vf
  | [], Vs, _, hl, hs, hst, h => ⟨Vs, ⟨by simpa using hl, hs, fun i o hi => hst i o (by have := (Array.getElem?_eq_some_iff.1 hi).1; simp at hl; omega) hi⟩, h⟩
  | o :: l, Vs, ho, hl, hs, hst, ⟨V, h1, h2, h3⟩ => by
    refine relAll_of a0 l (Vs ++ [V]) (fun j => ?_) (by simp at hl ⊢; omega) (fun V' hV' => ?_) (fun i o' hi ho' => ?_) h3
    · have := ho (j + 1)
      rw [List.getElem?_cons_succ] at this
      rw [this, List.length_append, List.length_singleton]
      congr 1; omega
    · rcases List.mem_append.1 hV' with h | h
      · exact hs V' h
      · rw [List.mem_singleton] at h; rw [h]; exact h1
    · rw [List.length_append, List.length_singleton] at hi
      by_cases hlt : i < Vs.length
      · have e1 : (Vs ++ [V]).take i = Vs.take i := List.take_append_of_le_length (by omega)
        have e2 : (Vs ++ [V]).getD i (fun _ _ => False) = Vs.getD i (fun _ _ => False) := by
          rw [List.getD, List.getD, List.getElem?_append_left hlt]
        rw [e1, e2]
        exact hst i o' hlt ho'
      · obtain rfl : i = Vs.length := by omega
        have e1 : (Vs ++ [V]).take Vs.length = Vs := List.take_left
        have e2 : (Vs ++ [V]).getD Vs.length (fun _ _ => False) = V := by
          rw [List.getD, List.getElem?_append_right (Nat.le_refl _)]; simp
        rw [e1, e2]
        have h0 := ho 0
        simp at h0
        rw [ho'] at h0
        injection h0 with h0
        subst h0
        exact h2
theorem getD_false_of {listed : Array Bool} {j : Nat} (h : listed.getD j true = false) : j < listed.size := by
  rcases Nat.lt_or_ge j listed.size with h1 | h1
  · exact h1
  · simp [Array.getElem?_eq_none h1] at h
theorem count_set {listed : Array Bool} {i n : Nat} (hi : i < listed.size) (hf : listed.getD i true = false) (h : listed.toList.count false ≤ n + 1) : (listed.setIfInBounds i true).toList.count false ≤ n := by
  have hi' : i < listed.toList.length := by rw [Array.length_toList]; exact hi
  rw [Array.toList_setIfInBounds, List.count_set hi']
  have e : listed.toList[i]'hi' = false := by
    have : listed.getD i true = listed[i] := by simp [Array.getElem?_eq_getElem hi]
    rw [Array.getElem_toList, ← this]; exact hf
  rw [e]
  generalize listed.toList.count false = c at h
  show c - 1 + 0 ≤ n
  omega
theorem rel_sound {a0 : Act} {Vf : List (Value → World → Prop)} {Q : Exit → Act → World → Prop} (hok : relOk ops a0.tmps.size = true) (hA : RelAll P ops I R a0 Vf) (hR : ∀ w, R w w)
    (hend : ∀ a w, RelJ ops I Vf a0 (Array.replicate ops.size true) a w → Q .normal a w) :
    ∀ (fuel : Nat) (listed : Array Bool) (a : Act) (w : World), listed.toList.count false ≤ fuel → RelJ ops I Vf a0 listed a w → wpAny P .any ops Q fuel listed a w := by
  obtain ⟨hd, hn, hsel, hpart⟩ := relOk_parts hok
  have full : ∀ (listed : Array Bool) (a : Act) (w : World), RelJ ops I Vf a0 listed a w → (∀ j, j < ops.size → listed.getD j false = true) → Q .normal a w := by
    intro listed a w hJ hall
    refine hend a w ⟨hJ.inv, hJ.defers, hJ.size, by simp, hJ.rest, fun j o ho _ => hJ.vals j o ho (hall j (Array.getElem?_eq_some_iff.1 ho).1)⟩
  have allOf : ∀ (listed : Array Bool) (a : Act) (w : World), RelJ ops I Vf a0 listed a w → Region.ready .any ops listed = [] → ∀ j, j < ops.size → listed.getD j false = true := by
    intro listed a w hJ hr j
    induction j using Nat.strongRecOn with
    | _ j ih =>
      intro hj
      by_cases hf : listed.getD j false = true
      · exact hf
      · exfalso
        have hjl : j < listed.size := by rw [hJ.lsize]; exact hj
        have hft : listed.getD j true = false := by
          simp [Array.getElem?_eq_getElem hjl] at hf ⊢
          exact hf
        have : j ∈ Region.ready .any ops listed := mem_ready.2 ⟨hft, ops[j], Array.getElem?_eq_getElem hj, fun e he hb => by
          have := (hpart j _ (Array.getElem?_eq_getElem hj)).1 e he hb
          exact ih e.on this (by omega)⟩
        rw [hr] at this
        cases this
  intro fuel
  induction fuel with
  | zero =>
    intro listed a w hc hJ
    have hall : ∀ j, j < ops.size → listed.getD j false = true := by
      intro j hj
      by_cases hf : listed.getD j false = true
      · exact hf
      · exfalso
        have hjl : j < listed.size := by rw [hJ.lsize]; exact hj
        have hz : listed.toList.count false = 0 := by omega
        rw [List.count_eq_zero] at hz
        apply hz
        have e : listed[j] = false := by simpa [Array.getElem?_eq_getElem hjl] using hf
        rw [← e]
        simp
    refine ⟨?_, full listed a w hJ hall⟩
    rcases hr : Region.ready .any ops listed with _ | ⟨j, js⟩
    · rfl
    · exfalso
      have hj : j ∈ Region.ready .any ops listed := by rw [hr]; exact List.mem_cons_self ..
      obtain ⟨h0, o, ho, _⟩ := mem_ready.1 hj
      have h1 := hall j (Array.getElem?_eq_some_iff.1 ho).1
      have hjl := getD_false_of h0
      simp [Array.getElem?_eq_getElem hjl] at h0 h1
      rw [h0] at h1; cases h1
  | succ fuel ih =>
    intro listed a w hc hJ
    refine ⟨fun hr => full listed a w hJ (allOf listed a w hJ hr), fun i hi => ?_⟩
    obtain ⟨h0, o, ho, hafter⟩ := mem_ready.1 hi
    have hil := getD_false_of h0
    obtain ⟨hback, hlook⟩ := hpart i o ho
    -- the operands' values
    have hvs : ∃ vs : Nat → Value, ∀ (j : Nat) p, ops[j]? = some p → listed.getD j false = true → (Vf.getD j (fun _ _ => False)) (vs j) w ∧ ∀ d, p.dst = some d → a.tmps[d]? = some (vs j) := by
      refine Classical.axiomOfChoice (r := fun j v => ∀ p, ops[j]? = some p → listed.getD j false = true → (Vf.getD j (fun _ _ => False)) v w ∧ ∀ d, p.dst = some d → a.tmps[d]? = some v) fun j => ?_
      cases hp : ops[j]? with
      | none => exact ⟨undef, fun p h => by cases h⟩
      | some p =>
        by_cases hl : listed.getD j false = true
        · obtain ⟨v, h1, h2⟩ := hJ.vals j p hp hl
          exact ⟨v, fun p' h _ => by injection h with h; subst h; exact ⟨h1, h2⟩⟩
        · exact ⟨undef, fun p' _ h => absurd h hl⟩
    obtain ⟨vs, hvs⟩ := hvs
    have hlisted : ∀ e ∈ o.after.toList, useEdge e = true → listed.getD e.on false = true := fun e he hu => hafter e (by simpa using he) (useEdge_binds hu)
    have hdeps := relDeps_at (ops := ops) (Vs := Vf.take i) (w := w) vs o.after.toList a0 (fun e he hu p hp => by
      have hlt := hback e (by simpa using he) (useEdge_binds hu)
      have e1 : (Vf.take i).getD e.on (fun _ _ => False) = Vf.getD e.on (fun _ _ => False) := by
        rw [List.getD, List.getD, List.getElem?_take, if_pos hlt]
      rw [e1]
      exact (hvs e.on p hp (hlisted e he hu)).1) (hA.step i o ho w hJ.inv)
    generalize hcan : o.after.toList.foldl (fun a e => if useEdge e = true then a.put ((ops[e.on]?).bind (·.dst)) (vs e.on) else a) a0 = can at hdeps
    have hsame : ∀ t ∈ o.looksAt ops, can.tmps[t]? = a.tmps[t]? := by
      intro t ht
      rw [← hcan]
      refine fold_tmps (ops := ops) vs a o.after.toList a0 hJ.size.symm (fun e he hu d hd' => ?_) t ?_
      · cases hp : ops[e.on]? with
        | none => rw [hp] at hd'; cases hd'
        | some p =>
          rw [hp] at hd'
          exact (hvs e.on p hp (hlisted e he hu)).2 d hd'
      · rcases hlook t ht with h | h
        · exact .inl (hJ.rest t h)
        · exact .inr h
    have hsl : ∀ cs b, o.op ≠ .select cs b := fun cs b => Region.noSelect_spec hsel i o cs b ho
    obtain ⟨he1, he2⟩ := same_step (ops := ops) hsl hsame
    have hstep : relStep P ops o I R (Vf.getD i (fun _ _ => False)) w a := by
      unfold relStep at hdeps ⊢
      rw [← he1, ← he2]
      exact hdeps
    refine wpOp_of_rel ho hstep (fun v w' hv hI' hRw => ih _ _ _ (count_set hil h0 hc) ?_) hJ.inv (hR w)
    have hlt : i < ops.size := (Array.getElem?_eq_some_iff.1 ho).1
    refine ⟨hI', by rw [put_defers', hJ.defers], by rw [put_size, hJ.size], by simpa using hJ.lsize, fun t ht => ?_, fun j p hp hl => ?_⟩
    · cases hdo : o.dst with
      | none => exact hJ.rest t ht
      | some d =>
        have hdm := dst_mem ho hdo
        rw [put_tmps _ _ _ _ (by rw [hJ.size]; exact hd d hdm), if_neg (fun e => ht (by rw [← e]; exact hdm))]
        exact hJ.rest t ht
    · by_cases hij : i = j
      · subst hij
        rw [ho] at hp
        injection hp with hp
        subst hp
        refine ⟨v, hv, fun d hdo => ?_⟩
        rw [hdo, put_tmps _ _ _ _ (by rw [hJ.size]; exact hd d (dst_mem ho hdo)), if_pos rfl]
      · rw [getD_set_ne false hij] at hl
        obtain ⟨u, hu, hud⟩ := hJ.vals j p hp hl
        refine ⟨u, ?_, fun d hdp => ?_⟩
        · rcases hVj : Vf[j]? with _ | Vj
          · rw [List.getD, hVj] at hu; exact hu.elim
          · rw [List.getD, hVj] at hu ⊢
            exact hA.stable Vj (List.mem_of_getElem? hVj) _ _ _ hRw hu
        · cases hdo : o.dst with
          | none => exact hud d hdp
          | some d' =>
            have hne : d' ≠ d := by
              rintro rfl
              exact hij (nodup_dst ops.toList hn i j o p d' (by rw [Array.getElem?_toList]; exact ho) (by rw [Array.getElem?_toList]; exact hp) hdo hdp)
            rw [put_tmps _ _ _ _ (by rw [hJ.size]; exact hd d' (dst_mem ho hdo)), if_neg hne]
            exact hud d hdp
theorem relEnd_at {w : World} {K : Act → World → Prop} (b : Act) (vs : Nat → Value) : ∀ (l : List Oper) (Vs : List (Value → World → Prop)) (k : Nat) (a : Act), Vs.length = l.length →
    (∀ (j : Nat) V, Vs[j]? = some V → V (vs (k + j)) w) → a.defers = b.defers → a.tmps.size = b.tmps.size → (∀ (j : Nat) (o : Oper) d, l[j]? = some o → o.dst = some d → b.tmps[d]? = some (vs (k + j))) →
    (∀ t, t ∉ l.filterMap (·.dst) → a.tmps[t]? = b.tmps[t]?) → relEnd w K l Vs a → K b w
  | [], [], k, a, _, _, hd, hs, _, hr, h => by
    have e : a = b := by
      obtain ⟨at_, ad⟩ := a
      obtain ⟨bt, bd⟩ := b
      simp only at hd hs
      congr 1
      apply Array.ext_getElem?
      intro t
      exact hr t (by simp)
    rw [← e]; exact h
  | [], V :: Vs, _, _, hl, _, _, _, _, _, _ => by simp at hl
  | o :: l, [], _, _, hl, _, _, _, _, _, _ => by simp at hl
  | o :: l, V :: Vs, k, a, hl, hv, hd, hs, ho, hr, h => by
    have h0 := h (vs k) (by simpa using hv 0 V rfl)
    refine relEnd_at b vs l Vs (k + 1) _ (by simpa using hl) (fun j V' hV' => ?_) (by rw [put_defers', hd]) (by rw [put_size, hs]) (fun j o' d hj hdo => ?_) (fun t ht => ?_) h0
    · have := hv (j + 1) V' (by simpa using hV')
      rwa [show k + (j + 1) = k + 1 + j by omega] at this
    · have := ho (j + 1) o' d (by simpa using hj) hdo
      rwa [show k + (j + 1) = k + 1 + j by omega] at this
    · cases hdo : o.dst with
      | none =>
        refine hr t ?_
        rw [List.filterMap_cons, hdo]; exact ht
      | some d =>
        have hb := ho 0 o d rfl hdo
        rw [put_tmps _ _ _ _ (by rw [hs]; exact (Array.getElem?_eq_some_iff.1 hb).1)]
        split
        · rename_i e; subst e; exact hb.symm
        · rename_i e
          refine hr t ?_
          rw [List.filterMap_cons, hdo]
          intro hm
          rcases List.mem_cons.1 hm with h1 | h1
          · exact e h1.symm
          · exact ht h1
/-- A region that draws its order: each operation alone; then what stands behind the region, whatever the operations' values are. -/
theorem wp_region_rel {id : Nat} {Q : Exit → Act → World → Prop} {a : Act} {w : World} {l : List Oper} (I : World → Prop) (R : World → World → Prop) (hm : P.follows .mixedOrders = true) (hok : relOk l.toArray a.tmps.size = true)
    (hR : ∀ w, R w w) (h0 : I w.drew)
    (h : wpRel P l.toArray I R a (fun Vs => ∀ w', I w' → relEnd w' (fun a' w'' => Q .normal a' w'') l Vs a) l []) : (Code.region id l.toArray true).wp P Q a w := by
  obtain ⟨Vf, hA, hK⟩ := relAll_of (P := P) (ops := l.toArray) a l [] (by simp) (by simp) (by simp) (by simp) h
  refine wp_region_any hm (rel_sound hok hA hR (fun a' w' hJ => ?_) _ _ _ _ ?_ ⟨h0, rfl, rfl, by simp, fun _ _ => rfl, fun j o ho hl => ?_⟩)
  · have hall : ∀ (j : Nat) o, l.toArray[j]? = some o → ∃ v, (Vf.getD j (fun _ _ => False)) v w' ∧ ∀ d, o.dst = some d → a'.tmps[d]? = some v := fun j o ho => hJ.vals j o ho (by
      have := (Array.getElem?_eq_some_iff.1 ho).1
      simp at this
      simp [this])
    have hvs : ∃ vs : Nat → Value, ∀ (j : Nat) o, l.toArray[j]? = some o → (Vf.getD j (fun _ _ => False)) (vs j) w' ∧ ∀ d, o.dst = some d → a'.tmps[d]? = some (vs j) := by
      refine Classical.axiomOfChoice (r := fun j v => ∀ o, l.toArray[j]? = some o → (Vf.getD j (fun _ _ => False)) v w' ∧ ∀ d, o.dst = some d → a'.tmps[d]? = some v) fun j => ?_
      cases hp : l.toArray[j]? with
      | none => exact ⟨undef, fun p h => by cases h⟩
      | some p =>
        obtain ⟨v, h1, h2⟩ := hall j p hp
        exact ⟨v, fun p' h => by injection h with h; subst h; exact ⟨h1, h2⟩⟩
    obtain ⟨vs, hvs⟩ := hvs
    have hlen : Vf.length = l.length := by simpa using hA.len
    refine relEnd_at a' vs l Vf 0 a hlen (fun j V hV => ?_) hJ.defers.symm hJ.size.symm (fun j o d hj hd => ?_) (fun t ht => (hJ.rest t (by simpa [relDsts] using ht)).symm) (hK w' hJ.inv)
    · have hj : j < l.length := by rw [← hlen]; exact (List.getElem?_eq_some_iff.1 hV).1
      have := (hvs j l[j] (by simp [hj])).1
      rw [List.getD, hV] at this
      rw [Nat.zero_add]
      exact this
    · rw [Nat.zero_add]
      exact (hvs j o (by simpa using hj)).2 d hd
  · simp
  · exfalso
    have hj : j < l.length := by
      have := (Array.getElem?_eq_some_iff.1 ho).1
      simpa using this
    simp [hj] at hl
end
end Go.Proofs.YtgcdfoadegojcaaDoor
