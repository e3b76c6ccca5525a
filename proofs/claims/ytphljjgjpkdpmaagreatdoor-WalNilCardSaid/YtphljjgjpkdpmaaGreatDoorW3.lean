/- Several texts in one: Rel PkA PkB PkC PkD PkE PkF PkG PkH PkJa PkLa PkK CrA CrB. -/
import Derived.Orders
import Derived.Still
import Derived.Deep.QuietTactic
import Derived.BigQuiet
import Derived.Test.YtphljjgjpkdpmaaGreatDoorW1
import Derived.Lib.Zigzag
import Derived.Lib.Varint
import Derived.Test.YtphljjgjpkdpmaaGreatDoorChecked
/- A region that draws its order, whose operations may make memory: each operation is shown alone, from what stands in its operands; whatever order is picked, what each one left holds at the end. -/
namespace Go.Proofs.YtphljjgjpkdpmaaGreatDoor
open Go.RowKit
set_option linter.unusedVariables false
section
variable {P : Program} {ops : Array Oper} {I : World → Prop} {R : World → World → Prop}
/-- What an operation, carried out, leaves. -/
def relUpon (P : Program) (Post : Value → World → Prop) : Result Next → Prop
  | .ok (.value u) w' => Post u w'
  | .ok .skip w' => Post undef w'
  | .ok (.enter f args) w' => Calls P f args w' (fun e w'' => ∃ u, e = .returned u ∧ Post u w'')
  | _ => False
theorem relUpon_value (Post : Value → World → Prop) (u : Value) (w : World) : relUpon P Post (.ok (.value u) w) = Post u w := rfl
theorem relUpon_skip (Post : Value → World → Prop) (w : World) : relUpon P Post (.ok .skip w) = Post undef w := rfl
theorem relUpon_enter (Post : Value → World → Prop) (f : FuncId) (args : Array Value) (w : World) : relUpon P Post (.ok (.enter f args) w) = Calls P f args w (fun e w'' => ∃ u, e = .returned u ∧ Post u w'') := rfl
theorem relUpon_mono {Post Post' : Value → World → Prop} (h : ∀ u w, Post u w → Post' u w) {r : Result Next} (hr : relUpon P Post r) : relUpon P Post' r := by
  cases r with
  | ok n w' =>
    cases n <;> simp only [relUpon] at hr ⊢
    case value u => exact h _ _ hr
    case skip => exact h _ _ hr
    case enter f args => exact hr.mono fun e w'' ⟨u, he, hp⟩ => ⟨u, he, h _ _ hp⟩
  | halt x w' => exact hr
/-- The edges that an operation's operands come by. -/
def useEdge (e : Edge) : Bool := match e.ground with | .data => true | .guard => true | _ => false
theorem useEdge_binds {e : Edge} (h : useEdge e = true) : Region.binds .any e = true := by
  unfold useEdge at h
  unfold Region.binds
  cases he : e.ground <;> rw [he] at h <;> first | rfl | simp at h
/-- An operation, of whatever stands in its operands. -/
def relDeps (ops : Array Oper) (Vs : List (Value → World → Prop)) (w : World) : List Edge → (Act → Prop) → Act → Prop
  | [], k, a => k a
  | e :: es, k, a => if useEdge e = true then (match (ops[e.on]?).bind (·.dst) with
      | some d => ∀ v, (Vs.getD e.on (fun _ _ => False)) v w → relDeps ops Vs w es k (a.put (some d) v)
      | none => relDeps ops Vs w es k a) else relDeps ops Vs w es k a
def relStep (P : Program) (ops : Array Oper) (o : Oper) (I : World → Prop) (R : World → World → Prop) (V : Value → World → Prop) (w : World) (a : Act) : Prop :=
  if Region.wanted o (yielded ops a.tmps) = true then relUpon P (fun u w' => V u w' ∧ I w' ∧ R w w') ((execOp a.eval o).run P w) else V undef w
/-- The walk in the order of the text: of each operation what it leaves is named. -/
def wpRel (P : Program) (ops : Array Oper) (I : World → Prop) (R : World → World → Prop) (a0 : Act) (K : List (Value → World → Prop) → Prop) : List Oper → List (Value → World → Prop) → Prop
  | [], Vs => K Vs
  | o :: rest, Vs => ∃ V : Value → World → Prop, (∀ v w w', R w w' → V v w → V v w') ∧ (∀ w, I w → relDeps ops Vs w o.after.toList (relStep P ops o I R V w) a0) ∧ wpRel P ops I R a0 K rest (Vs ++ [V])
theorem wpRel_nil {a0 : Act} {K : List (Value → World → Prop) → Prop} {Vs : List (Value → World → Prop)} (h : K Vs) : wpRel P ops I R a0 K [] Vs := h
theorem wpRel_step {a0 : Act} {K : List (Value → World → Prop) → Prop} {Vs : List (Value → World → Prop)} {o : Oper} {rest : List Oper} (V : Value → World → Prop) (h1 : ∀ v w w', R w w' → V v w → V v w')
    (h2 : ∀ w, I w → relDeps ops Vs w o.after.toList (relStep P ops o I R V w) a0) (h3 : wpRel P ops I R a0 K rest (Vs ++ [V])) : wpRel P ops I R a0 K (o :: rest) Vs := ⟨V, h1, h2, h3⟩
/-- An operation that leaves one value. -/
theorem wpRel_det {a0 : Act} {K : List (Value → World → Prop) → Prop} {Vs : List (Value → World → Prop)} {o : Oper} {rest : List Oper}
    (h : ∃ c : Value, (∀ w, I w → relDeps ops Vs w o.after.toList (relStep P ops o I R (fun v _ => v = c) w) a0) ∧ wpRel P ops I R a0 K rest (Vs ++ [fun v _ => v = c])) : wpRel P ops I R a0 K (o :: rest) Vs :=
  let ⟨_, h2, h3⟩ := h
  ⟨_, fun _ _ _ _ h => h, h2, h3⟩
/-- The end: the operations' values stand in their places. -/
def relEnd (w : World) (K : Act → World → Prop) : List Oper → List (Value → World → Prop) → Act → Prop
  | o :: l, V :: Vs, a => ∀ v, V v w → relEnd w K l Vs (a.put o.dst v)
  | _, _, a => K a w
theorem relEnd_cons (w : World) (K : Act → World → Prop) (o : Oper) (l : List Oper) (V : Value → World → Prop) (Vs : List (Value → World → Prop)) (a : Act) : relEnd w K (o :: l) (V :: Vs) a = ∀ v, V v w → relEnd w K l Vs (a.put o.dst v) := rfl
theorem relEnd_nil (w : World) (K : Act → World → Prop) (a : Act) : relEnd w K [] [] a = K a w := rfl
attribute [go_sem] relDeps relStep relUpon_value relUpon_skip relUpon_enter useEdge relEnd_cons relEnd_nil
/-- What is asked of a region's text. -/
def relDsts (ops : Array Oper) : List Tmp := ops.toList.filterMap (·.dst)
def relOk (ops : Array Oper) (n : Nat) : Bool :=
  (relDsts ops).all (· < n) && (relDsts ops).Nodup && Region.noSelect ops &&
  (List.range ops.size).all fun i => match ops[i]? with
    | none => true
    | some o => (o.after.toList.all fun e => !Region.binds .any e || e.on < i) &&
      (o.looksAt ops).all fun t => !(relDsts ops).contains t || o.after.toList.any fun e => useEdge e && ((ops[e.on]?).bind (·.dst) == some t)
structure RelJ (ops : Array Oper) (I : World → Prop) (Vf : List (Value → World → Prop)) (a0 : Act) (listed : Array Bool) (a : Act) (w : World) : Prop where
  inv : I w
  defers : a.defers = a0.defers
  size : a.tmps.size = a0.tmps.size
  lsize : listed.size = ops.size
  rest : ∀ t, t ∉ relDsts ops → a.tmps[t]? = a0.tmps[t]?
  vals : ∀ (j : Nat) o, ops[j]? = some o → listed.getD j false = true → ∃ v, (Vf.getD j (fun _ _ => False)) v w ∧ ∀ d, o.dst = some d → a.tmps[d]? = some v
/-- A state in which the operands stand as the edges tell of them. -/
theorem relDeps_at {Vs : List (Value → World → Prop)} {w : World} {k : Act → Prop} (vs : Nat → Value) : ∀ (es : List Edge) (a : Act), (∀ e ∈ es, useEdge e = true → ∀ o, ops[e.on]? = some o → (Vs.getD e.on (fun _ _ => False)) (vs e.on) w) → relDeps ops Vs w es k a →
    k (es.foldl (fun a e => if useEdge e = true then a.put ((ops[e.on]?).bind (·.dst)) (vs e.on) else a) a)
  | [], a, _, h => h
  | e :: es, a, hv, h => by
    rw [List.foldl_cons]
    have ih := relDeps_at (Vs := Vs) (w := w) (k := k) vs es
    unfold relDeps at h
    by_cases hu : useEdge e = true
    · rw [if_pos hu] at h ⊢
      cases ho : ops[e.on]? with
      | none =>
        rw [ho] at h
        exact ih _ (fun e' he' => hv e' (List.mem_cons_of_mem _ he')) h
      | some o =>
        rw [ho] at h
        cases hd : o.dst with
        | none =>
          simp only [Option.bind_some, hd] at h ⊢
          exact ih _ (fun e' he' => hv e' (List.mem_cons_of_mem _ he')) h
        | some d =>
          simp only [Option.bind_some, hd] at h ⊢
          exact ih _ (fun e' he' => hv e' (List.mem_cons_of_mem _ he')) (h _ (hv e (List.mem_cons_self ..) hu o ho))
    · rw [if_neg hu] at h ⊢
      exact ih _ (fun e' he' => hv e' (List.mem_cons_of_mem _ he')) h
theorem put_tmps (a : Act) (d : Tmp) (v : Value) (t : Tmp) (hd : d < a.tmps.size) : (a.put (some d) v).tmps[t]? = if d = t then some v else a.tmps[t]? := by
  show (a.tmps.setIfInBounds d v)[t]? = _
  rw [Array.getElem?_setIfInBounds]
  split
  · rename_i h; subst h; simp
  · rfl
theorem put_tmps_none (a : Act) (v : Value) : a.put none v = a := rfl
theorem put_size (a : Act) (d : Option Tmp) (v : Value) : (a.put d v).tmps.size = a.tmps.size := by
  cases d with
  | none => rfl
  | some d => show (a.tmps.setIfInBounds d v).size = _; simp
theorem put_defers' (a : Act) (d : Option Tmp) (v : Value) : (a.put d v).defers = a.defers := by cases d <;> rfl
/-- Where the edges reach, the made-up state has what the true one has. -/
theorem fold_tmps (vs : Nat → Value) (b : Act) : ∀ (es : List Edge) (a : Act), a.tmps.size = b.tmps.size →
    (∀ e ∈ es, useEdge e = true → ∀ d, (ops[e.on]?).bind (·.dst) = some d → b.tmps[d]? = some (vs e.on)) →
    ∀ t, (b.tmps[t]? = a.tmps[t]? ∨ ∃ e ∈ es, useEdge e = true ∧ (ops[e.on]?).bind (·.dst) = some t) →
      (es.foldl (fun a e => if useEdge e = true then a.put ((ops[e.on]?).bind (·.dst)) (vs e.on) else a) a).tmps[t]? = b.tmps[t]?
  | [], a, _, _, t, h => by
    rcases h with h | ⟨e, he, _⟩
    · exact h.symm
    · cases he
  | e :: es, a, hs, hv, t, h => by
    rw [List.foldl_cons]
    refine fold_tmps vs b es _ ?_ (fun e' he' => hv e' (List.mem_cons_of_mem _ he')) t ?_
    · split
      · rw [put_size, hs]
      · exact hs
    · by_cases hu : useEdge e = true
      · rw [if_pos hu]
        cases hd : (ops[e.on]?).bind (·.dst) with
        | none =>
          rcases h with h | ⟨e', he', hu', ht⟩
          · exact .inl h
          · rcases List.mem_cons.1 he' with rfl | he'
            · rw [hd] at ht; cases ht
            · exact .inr ⟨e', he', hu', ht⟩
        | some d =>
          have hb := hv e (List.mem_cons_self ..) hu d hd
          have hlt : d < a.tmps.size := by rw [hs]; exact (Array.getElem?_eq_some_iff.1 hb).1
          by_cases hdt : d = t
          · left
            subst hdt
            rw [put_tmps _ _ _ _ hlt, if_pos rfl, hb]
          · rcases h with h | ⟨e', he', hu', ht⟩
            · left
              rw [put_tmps _ _ _ _ hlt, if_neg hdt, h]
            · rcases List.mem_cons.1 he' with rfl | he'
              · rw [hd] at ht; injection ht with ht; exact absurd ht hdt
              · exact .inr ⟨e', he', hu', ht⟩
      · rw [if_neg hu]
        rcases h with h | ⟨e', he', hu', ht⟩
        · exact .inl h
        · rcases List.mem_cons.1 he' with rfl | he'
          · exact absurd hu' hu
          · exact .inr ⟨e', he', hu', ht⟩
theorem eval_of_tmps {a b : Act} {x : Operand} (h : ∀ t, x = .tmp t → a.tmps[t]? = b.tmps[t]?) : a.eval x = b.eval x := by
  cases x with
  | tmp t => simp [Act.eval, h t rfl]
  | _ => rfl
theorem yielded_of {a b : Act} {j : Nat} (h : ∀ t, (ops[j]?).bind (·.dst) = some t → a.tmps[t]? = b.tmps[t]?) : yielded ops a.tmps j = yielded ops b.tmps j := by
  unfold yielded
  cases hd : (ops[j]?).bind (·.dst) with
  | none => rfl
  | some t => simp only [Option.bind_some]; rw [h t hd]
/-- What an operation does is told by what it looks at. -/
theorem same_step {o : Oper} (hs : ∀ cs b, o.op ≠ .select cs b) {a b : Act} (h : ∀ t ∈ o.looksAt ops, a.tmps[t]? = b.tmps[t]?) :
    execOp a.eval o = execOp b.eval o ∧ Region.wanted o (yielded ops a.tmps) = Region.wanted o (yielded ops b.tmps) := by
  refine ⟨execOp_congr o hs fun x hx => eval_of_tmps fun t ht => h t ?_, ?_⟩
  · subst ht
    exact List.mem_append_left _ (List.mem_filterMap.2 ⟨.tmp t, by simpa using hx, rfl⟩)
  · unfold Region.wanted
    cases hg : o.guard with
    | none => rfl
    | some gw =>
      obtain ⟨g, want⟩ := gw
      simp only
      rw [yielded_of (ops := ops) (a := a) (b := b) (j := g) fun t ht => h t (by
        unfold Oper.looksAt
        rw [hg]
        exact List.mem_append_right _ (by simp [ht]))]
theorem wpOp_of_rel {i : Nat} {o : Oper} (hi : ops[i]? = some o) {a : Act} {w : World} {V : Value → World → Prop} {K : Act → World → Prop} {Q : Exit → Act → World → Prop}
    (h : relStep P ops o I R V w a) (hK : ∀ v w', V v w' → I w' → R w w' → K (a.put o.dst v) w') (hI : I w) (hR : R w w) : wpOp P ops Q i K a w := by
  unfold wpOp
  simp only [hi]
  unfold relStep at h
  split
  · rename_i hw
    rw [if_pos hw] at h
    refine .inl ?_
    unfold Oper.wp
    generalize (execOp a.eval o).run P w = r at h
    cases r with
    | ok n w' =>
      cases n <;> simp only [relUpon] at h <;> simp only [Oper.upon]
      case value u => exact hK _ _ h.1 h.2.1 h.2.2
      case skip => exact hK _ _ h.1 h.2.1 h.2.2
      case enter f args => exact h.mono fun e w'' ⟨u, he, hp⟩ => by subst he; exact hK _ _ hp.1 hp.2.1 hp.2.2
    | halt x w' => exact h.elim
  · rename_i hw
    rw [if_neg hw] at h
    exact hK _ _ h hI hR
theorem relOk_parts {n : Nat} (h : relOk ops n = true) : (∀ d ∈ relDsts ops, d < n) ∧ (relDsts ops).Nodup ∧ Region.noSelect ops = true ∧
    ∀ (i : Nat) o, ops[i]? = some o → (∀ e ∈ o.after, Region.binds .any e = true → e.on < i) ∧ ∀ t ∈ o.looksAt ops, t ∉ relDsts ops ∨ ∃ e ∈ o.after.toList, useEdge e = true ∧ (ops[e.on]?).bind (·.dst) = some t := by
  unfold relOk at h
  simp only [Bool.and_eq_true, List.all_eq_true, decide_eq_true_eq] at h
  obtain ⟨⟨⟨h1, h2⟩, h3⟩, h4⟩ := h
  refine ⟨h1, h2, h3, fun i o hi => ?_⟩
  have hlt : i < ops.size := (Array.getElem?_eq_some_iff.1 hi).1
  have h5 := h4 i (List.mem_range.2 hlt)
  rw [hi] at h5
  simp only [Bool.and_eq_true, List.all_eq_true, Bool.or_eq_true, Bool.not_eq_true', decide_eq_true_eq, List.any_eq_true, beq_iff_eq] at h5
  obtain ⟨h6, h7⟩ := h5
  refine ⟨fun e he hb => ?_, fun t ht => ?_⟩
  · rcases h6 e (by simpa using he) with h8 | h8
    · rw [hb] at h8; cases h8
    · exact h8
  · rcases h7 t ht with h8 | ⟨e, he, hu, hd⟩
    · left
      intro hm
      have : (relDsts ops).contains t = true := by simpa using hm
      rw [h8] at this; cases this
    · exact .inr ⟨e, he, hu, hd⟩
theorem dst_mem {i : Nat} {o : Oper} {d : Tmp} (hi : ops[i]? = some o) (hd : o.dst = some d) : d ∈ relDsts ops :=
  List.mem_filterMap.2 ⟨o, by rw [← Array.mem_def]; exact Array.mem_of_getElem? hi, hd⟩
theorem nodup_dst : ∀ (l : List Oper), (l.filterMap (·.dst)).Nodup → ∀ (i j : Nat) (o p : Oper) (d : Tmp), l[i]? = some o → l[j]? = some p → o.dst = some d → p.dst = some d → i = j
  | [], _, i, _, _, _, _, h, _, _, _ => by simp at h
  | x :: l, hn, i, j, o, p, d, hi, hj, ho, hp => by
    have hmem : ∀ (k : Nat) (q : Oper), l[k]? = some q → q.dst = some d → d ∈ l.filterMap (·.dst) := fun k q hk hq => List.mem_filterMap.2 ⟨q, List.mem_of_getElem? hk, hq⟩
    rcases i with _ | i <;> rcases j with _ | j
    · rfl
    · simp only [List.getElem?_cons_zero, Option.some.injEq, List.getElem?_cons_succ] at hi hj
      subst hi
      rw [List.filterMap_cons, ho] at hn
      exact absurd (hmem j p hj hp) (List.nodup_cons.1 hn).1
    · simp only [List.getElem?_cons_zero, Option.some.injEq, List.getElem?_cons_succ] at hi hj
      subst hj
      rw [List.filterMap_cons, hp] at hn
      exact absurd (hmem i o hi ho) (List.nodup_cons.1 hn).1
    · simp only [List.getElem?_cons_succ] at hi hj
      have hn' : (l.filterMap (·.dst)).Nodup := by
        rw [List.filterMap_cons] at hn
        split at hn
        · exact hn
        · exact (List.nodup_cons.1 hn).2
      rw [nodup_dst l hn' i j o p d hi hj ho hp]
/-- All that is asked, operation by operation. -/
structure RelAll (P : Program) (ops : Array Oper) (I : World → Prop) (R : World → World → Prop) (a0 : Act) (Vf : List (Value → World → Prop)) : Prop where
  len : Vf.length = ops.size
  stable : ∀ V ∈ Vf, ∀ v w w', R w w' → V v w → V v w'
  step : ∀ (i : Nat) o, ops[i]? = some o → ∀ w, I w → relDeps ops (Vf.take i) w o.after.toList (relStep P ops o I R (Vf.getD i (fun _ _ => False)) w) a0
theorem relAll_of (a0 : Act) {K : List (Value → World → Prop) → Prop} : ∀ (l : List Oper) (Vs : List (Value → World → Prop)), (∀ j, l[j]? = ops[Vs.length + j]?) → Vs.length + l.length = ops.size →
    (∀ V ∈ Vs, ∀ v w w', R w w' → V v w → V v w') → (∀ (i : Nat) o, i < Vs.length → ops[i]? = some o → ∀ w, I w → relDeps ops (Vs.take i) w o.after.toList (relStep P ops o I R (Vs.getD i (fun _ _ => False)) w) a0) →
    wpRel P ops I R a0 K l Vs → ∃ Vf, RelAll P ops I R a0 Vf ∧ K Vf
  | [], Vs, _, hl, hs, hst, h => ⟨Vs, ⟨by simpa using hl, hs, fun i o hi => hst i o (by have := (Array.getElem?_eq_some_iff.1 hi).1; simp at hl; omega) hi⟩, h⟩
  | o :: l, Vs, ho, hl, hs, hst, ⟨V, h1, h2, h3⟩ => by
    refine relAll_of a0 l (Vs ++ [V]) (fun j => ?_) (by simp at hl ⊢; omega) (fun V' hV' => ?_) (fun i o' hi ho' => ?_) h3
    · have := ho (j + 1)
      rw [List.getElem?_cons_succ] at this
      rw [this, List.length_append, List.length_singleton]
      congr 1; omega
    · rcases List.mem_append.1 hV' with h | h
      · exact hs V' h
      · rw [List.mem_singleton] at h; rw [h]; exact h1
    · rw [List.length_append, List.length_singleton] at hi
      by_cases hlt : i < Vs.length
      · have e1 : (Vs ++ [V]).take i = Vs.take i := List.take_append_of_le_length (by omega)
        have e2 : (Vs ++ [V]).getD i (fun _ _ => False) = Vs.getD i (fun _ _ => False) := by
          rw [List.getD, List.getD, List.getElem?_append_left hlt]
        rw [e1, e2]
        exact hst i o' hlt ho'
      · obtain rfl : i = Vs.length := by omega
        have e1 : (Vs ++ [V]).take Vs.length = Vs := List.take_left
        have e2 : (Vs ++ [V]).getD Vs.length (fun _ _ => False) = V := by
          rw [List.getD, List.getElem?_append_right (Nat.le_refl _)]; simp
        rw [e1, e2]
        have h0 := ho 0
        simp at h0
        rw [ho'] at h0
        injection h0 with h0
        subst h0
        exact h2
theorem getD_false_of {listed : Array Bool} {j : Nat} (h : listed.getD j true = false) : j < listed.size := by
  rcases Nat.lt_or_ge j listed.size with h1 | h1
  · exact h1
  · simp [Array.getElem?_eq_none h1] at h
theorem count_set {listed : Array Bool} {i n : Nat} (hi : i < listed.size) (hf : listed.getD i true = false) (h : listed.toList.count false ≤ n + 1) : (listed.setIfInBounds i true).toList.count false ≤ n := by
  have hi' : i < listed.toList.length := by rw [Array.length_toList]; exact hi
  rw [Array.toList_setIfInBounds, List.count_set hi']
  have e : listed.toList[i]'hi' = false := by
    have : listed.getD i true = listed[i] := by simp [Array.getElem?_eq_getElem hi]
    rw [Array.getElem_toList, ← this]; exact hf
  rw [e]
  generalize listed.toList.count false = c at h
  show c - 1 + 0 ≤ n
  omega
theorem rel_sound {a0 : Act} {Vf : List (Value → World → Prop)} {Q : Exit → Act → World → Prop} (hok : relOk ops a0.tmps.size = true) (hA : RelAll P ops I R a0 Vf) (hR : ∀ w, R w w)
    (hend : ∀ a w, RelJ ops I Vf a0 (Array.replicate ops.size true) a w → Q .normal a w) :
    ∀ (fuel : Nat) (listed : Array Bool) (a : Act) (w : World), listed.toList.count false ≤ fuel → RelJ ops I Vf a0 listed a w → wpAny P .any ops Q fuel listed a w := by
  obtain ⟨hd, hn, hsel, hpart⟩ := relOk_parts hok
  have full : ∀ (listed : Array Bool) (a : Act) (w : World), RelJ ops I Vf a0 listed a w → (∀ j, j < ops.size → listed.getD j false = true) → Q .normal a w := by
    intro listed a w hJ hall
    refine hend a w ⟨hJ.inv, hJ.defers, hJ.size, by simp, hJ.rest, fun j o ho _ => hJ.vals j o ho (hall j (Array.getElem?_eq_some_iff.1 ho).1)⟩
  have allOf : ∀ (listed : Array Bool) (a : Act) (w : World), RelJ ops I Vf a0 listed a w → Region.ready .any ops listed = [] → ∀ j, j < ops.size → listed.getD j false = true := by
    intro listed a w hJ hr j
    induction j using Nat.strongRecOn with
    | _ j ih =>
      intro hj
      by_cases hf : listed.getD j false = true
      · exact hf
      · exfalso
        have hjl : j < listed.size := by rw [hJ.lsize]; exact hj
        have hft : listed.getD j true = false := by
          simp [Array.getElem?_eq_getElem hjl] at hf ⊢
          exact hf
        have : j ∈ Region.ready .any ops listed := mem_ready.2 ⟨hft, ops[j], Array.getElem?_eq_getElem hj, fun e he hb => by
          have := (hpart j _ (Array.getElem?_eq_getElem hj)).1 e he hb
          exact ih e.on this (by omega)⟩
        rw [hr] at this
        cases this
  intro fuel
  induction fuel with
  | zero =>
    intro listed a w hc hJ
    have hall : ∀ j, j < ops.size → listed.getD j false = true := by
      intro j hj
      by_cases hf : listed.getD j false = true
      · exact hf
      · exfalso
        have hjl : j < listed.size := by rw [hJ.lsize]; exact hj
        have hz : listed.toList.count false = 0 := by omega
        rw [List.count_eq_zero] at hz
        apply hz
        have e : listed[j] = false := by simpa [Array.getElem?_eq_getElem hjl] using hf
        rw [← e]
        simp
    refine ⟨?_, full listed a w hJ hall⟩
    rcases hr : Region.ready .any ops listed with _ | ⟨j, js⟩
    · rfl
    · exfalso
      have hj : j ∈ Region.ready .any ops listed := by rw [hr]; exact List.mem_cons_self ..
      obtain ⟨h0, o, ho, _⟩ := mem_ready.1 hj
      have h1 := hall j (Array.getElem?_eq_some_iff.1 ho).1
      have hjl := getD_false_of h0
      simp [Array.getElem?_eq_getElem hjl] at h0 h1
      rw [h0] at h1; cases h1
  | succ fuel ih =>
    intro listed a w hc hJ
    refine ⟨fun hr => full listed a w hJ (allOf listed a w hJ hr), fun i hi => ?_⟩
    obtain ⟨h0, o, ho, hafter⟩ := mem_ready.1 hi
    have hil := getD_false_of h0
    obtain ⟨hback, hlook⟩ := hpart i o ho
    -- the operands' values
    have hvs : ∃ vs : Nat → Value, ∀ (j : Nat) p, ops[j]? = some p → listed.getD j false = true → (Vf.getD j (fun _ _ => False)) (vs j) w ∧ ∀ d, p.dst = some d → a.tmps[d]? = some (vs j) := by
      refine Classical.axiomOfChoice (r := fun j v => ∀ p, ops[j]? = some p → listed.getD j false = true → (Vf.getD j (fun _ _ => False)) v w ∧ ∀ d, p.dst = some d → a.tmps[d]? = some v) fun j => ?_
      cases hp : ops[j]? with
      | none => exact ⟨undef, fun p h => by cases h⟩
      | some p =>
        by_cases hl : listed.getD j false = true
        · obtain ⟨v, h1, h2⟩ := hJ.vals j p hp hl
          exact ⟨v, fun p' h _ => by injection h with h; subst h; exact ⟨h1, h2⟩⟩
        · exact ⟨undef, fun p' _ h => absurd h hl⟩
    obtain ⟨vs, hvs⟩ := hvs
    have hlisted : ∀ e ∈ o.after.toList, useEdge e = true → listed.getD e.on false = true := fun e he hu => hafter e (by simpa using he) (useEdge_binds hu)
    have hdeps := relDeps_at (ops := ops) (Vs := Vf.take i) (w := w) vs o.after.toList a0 (fun e he hu p hp => by
      have hlt := hback e (by simpa using he) (useEdge_binds hu)
      have e1 : (Vf.take i).getD e.on (fun _ _ => False) = Vf.getD e.on (fun _ _ => False) := by
        rw [List.getD, List.getD, List.getElem?_take, if_pos hlt]
      rw [e1]
      exact (hvs e.on p hp (hlisted e he hu)).1) (hA.step i o ho w hJ.inv)
    generalize hcan : o.after.toList.foldl (fun a e => if useEdge e = true then a.put ((ops[e.on]?).bind (·.dst)) (vs e.on) else a) a0 = can at hdeps
    have hsame : ∀ t ∈ o.looksAt ops, can.tmps[t]? = a.tmps[t]? := by
      intro t ht
      rw [← hcan]
      refine fold_tmps (ops := ops) vs a o.after.toList a0 hJ.size.symm (fun e he hu d hd' => ?_) t ?_
      · cases hp : ops[e.on]? with
        | none => rw [hp] at hd'; cases hd'
        | some p =>
          rw [hp] at hd'
          exact (hvs e.on p hp (hlisted e he hu)).2 d hd'
      · rcases hlook t ht with h | h
        · exact .inl (hJ.rest t h)
        · exact .inr h
    have hsl : ∀ cs b, o.op ≠ .select cs b := fun cs b => Region.noSelect_spec hsel i o cs b ho
    obtain ⟨he1, he2⟩ := same_step (ops := ops) hsl hsame
    have hstep : relStep P ops o I R (Vf.getD i (fun _ _ => False)) w a := by
      unfold relStep at hdeps ⊢
      rw [← he1, ← he2]
      exact hdeps
    refine wpOp_of_rel ho hstep (fun v w' hv hI' hRw => ih _ _ _ (count_set hil h0 hc) ?_) hJ.inv (hR w)
    have hlt : i < ops.size := (Array.getElem?_eq_some_iff.1 ho).1
    refine ⟨hI', by rw [put_defers', hJ.defers], by rw [put_size, hJ.size], by simpa using hJ.lsize, fun t ht => ?_, fun j p hp hl => ?_⟩
    · cases hdo : o.dst with
      | none => exact hJ.rest t ht
      | some d =>
        have hdm := dst_mem ho hdo
        rw [put_tmps _ _ _ _ (by rw [hJ.size]; exact hd d hdm), if_neg (fun e => ht (by rw [← e]; exact hdm))]
        exact hJ.rest t ht
    · by_cases hij : i = j
      · subst hij
        rw [ho] at hp
        injection hp with hp
        subst hp
        refine ⟨v, hv, fun d hdo => ?_⟩
        rw [hdo, put_tmps _ _ _ _ (by rw [hJ.size]; exact hd d (dst_mem ho hdo)), if_pos rfl]
      · rw [getD_set_ne false hij] at hl
        obtain ⟨u, hu, hud⟩ := hJ.vals j p hp hl
        refine ⟨u, ?_, fun d hdp => ?_⟩
        · rcases hVj : Vf[j]? with _ | Vj
          · rw [List.getD, hVj] at hu; exact hu.elim
          · rw [List.getD, hVj] at hu ⊢
            exact hA.stable Vj (List.mem_of_getElem? hVj) _ _ _ hRw hu
        · cases hdo : o.dst with
          | none => exact hud d hdp
          | some d' =>
            have hne : d' ≠ d := by
              rintro rfl
              exact hij (nodup_dst ops.toList hn i j o p d' (by rw [Array.getElem?_toList]; exact ho) (by rw [Array.getElem?_toList]; exact hp) hdo hdp)
            rw [put_tmps _ _ _ _ (by rw [hJ.size]; exact hd d' (dst_mem ho hdo)), if_neg hne]
            exact hud d hdp
theorem relEnd_at {w : World} {K : Act → World → Prop} (b : Act) (vs : Nat → Value) : ∀ (l : List Oper) (Vs : List (Value → World → Prop)) (k : Nat) (a : Act), Vs.length = l.length →
    (∀ (j : Nat) V, Vs[j]? = some V → V (vs (k + j)) w) → a.defers = b.defers → a.tmps.size = b.tmps.size → (∀ (j : Nat) (o : Oper) d, l[j]? = some o → o.dst = some d → b.tmps[d]? = some (vs (k + j))) →
    (∀ t, t ∉ l.filterMap (·.dst) → a.tmps[t]? = b.tmps[t]?) → relEnd w K l Vs a → K b w
  | [], [], k, a, _, _, hd, hs, _, hr, h => by
    have e : a = b := by
      obtain ⟨at_, ad⟩ := a
      obtain ⟨bt, bd⟩ := b
      simp only at hd hs
      congr 1
      apply Array.ext_getElem?
      intro t
      exact hr t (by simp)
    rw [← e]; exact h
  | [], V :: Vs, _, _, hl, _, _, _, _, _, _ => by simp at hl
  | o :: l, [], _, _, hl, _, _, _, _, _, _ => by simp at hl
  | o :: l, V :: Vs, k, a, hl, hv, hd, hs, ho, hr, h => by
    have h0 := h (vs k) (by simpa using hv 0 V rfl)
    refine relEnd_at b vs l Vs (k + 1) _ (by simpa using hl) (fun j V' hV' => ?_) (by rw [put_defers', hd]) (by rw [put_size, hs]) (fun j o' d hj hdo => ?_) (fun t ht => ?_) h0
    · have := hv (j + 1) V' (by simpa using hV')
      rwa [show k + (j + 1) = k + 1 + j by omega] at this
    · have := ho (j + 1) o' d (by simpa using hj) hdo
      rwa [show k + (j + 1) = k + 1 + j by omega] at this
    · cases hdo : o.dst with
      | none =>
        refine hr t ?_
        rw [List.filterMap_cons, hdo]; exact ht
      | some d =>
        have hb := ho 0 o d rfl hdo
        rw [put_tmps _ _ _ _ (by rw [hs]; exact (Array.getElem?_eq_some_iff.1 hb).1)]
        split
        · rename_i e; subst e; exact hb.symm
        · rename_i e
          refine hr t ?_
          rw [List.filterMap_cons, hdo]
          intro hm
          rcases List.mem_cons.1 hm with h1 | h1
          · exact e h1.symm
          · exact ht h1
/-- A region that draws its order: each operation alone; then what stands behind the region, whatever the operations' values are. -/
theorem wp_region_rel {id : Nat} {Q : Exit → Act → World → Prop} {a : Act} {w : World} {l : List Oper} (I : World → Prop) (R : World → World → Prop) (hm : P.follows .mixedOrders = true) (hok : relOk l.toArray a.tmps.size = true)
    (hR : ∀ w, R w w) (h0 : I w.drew)
    (h : wpRel P l.toArray I R a (fun Vs => ∀ w', I w' → relEnd w' (fun a' w'' => Q .normal a' w'') l Vs a) l []) : (Code.region id l.toArray true).wp P Q a w := by
  obtain ⟨Vf, hA, hK⟩ := relAll_of (P := P) (ops := l.toArray) a l [] (by simp) (by simp) (by simp) (by simp) h
  refine wp_region_any hm (rel_sound hok hA hR (fun a' w' hJ => ?_) _ _ _ _ ?_ ⟨h0, rfl, rfl, by simp, fun _ _ => rfl, fun j o ho hl => ?_⟩)
  · have hall : ∀ (j : Nat) o, l.toArray[j]? = some o → ∃ v, (Vf.getD j (fun _ _ => False)) v w' ∧ ∀ d, o.dst = some d → a'.tmps[d]? = some v := fun j o ho => hJ.vals j o ho (by
      have := (Array.getElem?_eq_some_iff.1 ho).1
      simp at this
      simp [this])
    have hvs : ∃ vs : Nat → Value, ∀ (j : Nat) o, l.toArray[j]? = some o → (Vf.getD j (fun _ _ => False)) (vs j) w' ∧ ∀ d, o.dst = some d → a'.tmps[d]? = some (vs j) := by
      refine Classical.axiomOfChoice (r := fun j v => ∀ o, l.toArray[j]? = some o → (Vf.getD j (fun _ _ => False)) v w' ∧ ∀ d, o.dst = some d → a'.tmps[d]? = some v) fun j => ?_
      cases hp : l.toArray[j]? with
      | none => exact ⟨undef, fun p h => by cases h⟩
      | some p =>
        obtain ⟨v, h1, h2⟩ := hall j p hp
        exact ⟨v, fun p' h => by injection h with h; subst h; exact ⟨h1, h2⟩⟩
    obtain ⟨vs, hvs⟩ := hvs
    have hlen : Vf.length = l.length := by simpa using hA.len
    refine relEnd_at a' vs l Vf 0 a hlen (fun j V hV => ?_) hJ.defers.symm hJ.size.symm (fun j o d hj hd => ?_) (fun t ht => (hJ.rest t (by simpa [relDsts] using ht)).symm) (hK w' hJ.inv)
    · have hj : j < l.length := by rw [← hlen]; exact (List.getElem?_eq_some_iff.1 hV).1
      have := (hvs j l[j] (by simp [hj])).1
      rw [List.getD, hV] at this
      rw [Nat.zero_add]
      exact this
    · rw [Nat.zero_add]
      exact (hvs j o (by simpa using hj)).2 d hd
  · simp
  · exfalso
    have hj : j < l.length := by
      have := (Array.getElem?_eq_some_iff.1 ho).1
      simpa using this
    simp [hj] at hl
end
end Go.Proofs.YtphljjgjpkdpmaaGreatDoor
/- How numbers and texts are written as bytes: plain functions. -/
namespace Go.Proofs.YtphljjgjpkdpmaaGreatDoor
open Go.RowKit
set_option linter.unusedVariables false
/-- The bytes of a number: groups of seven bits, the low ones first. -/
def numB (n : Int) : List UInt8 := Lib.uvarint (Lib.zigzag n)
theorem numB_len {n : Int} (hn : -9223372036854775808 ≤ n ∧ n ≤ 9223372036854775807) : (numB n).length ≤ 10 :=
  Lib.uvarint_length64 (Lib.zigzag_lt hn.1 hn.2)
theorem numB_pos (n : Int) : 1 ≤ (numB n).length := Lib.uvarint_pos _
theorem zig_bits {n : Int} (hn : -9223372036854775808 ≤ n ∧ n ≤ 9223372036854775807) :
    bits .xor .u64 (IntKind.u64.wrap (IntKind.u64.wrap n * 2)) (IntKind.u64.wrap (n / 9223372036854775808)) = (Lib.zigzag n : Int) := by
  rw [IntKind.wrap_u64, IntKind.wrap_u64, IntKind.wrap_u64]
  by_cases h : 0 ≤ n
  · have e1 : n % 18446744073709551616 * 2 % 18446744073709551616 = ((2 * n).toNat : Int) := by omega
    have e2 : n / 9223372036854775808 % 18446744073709551616 = ((0 : Nat) : Int) := by omega
    rw [e1, e2, u64_xor_nat _ _ (by omega) (by omega), Nat.xor_zero, Lib.zigzag, if_pos h]
  · have e1 : n % 18446744073709551616 * 2 % 18446744073709551616 = ((2 * n + 18446744073709551616).toNat : Int) := by omega
    have e2 : n / 9223372036854775808 % 18446744073709551616 = ((2 ^ 64 - 1 : Nat) : Int) := by omega
    rw [e1, e2, u64_xor_nat _ _ (by omega) (by omega), Nat.xor_comm, Lib.xor_ones64 _ (by omega), Lib.zigzag, if_neg h]
    omega
theorem or128b (z : Nat) : bits .or .u8 ((z : Int) % 256) 128 = ((z % 128 + 128 : Nat) : Int) := by
  rw [Lib.u8_or128_any _ (by omega) (by omega)]; omega
theorem c8_lowP {z : Nat} (h : z < 128) : c8 z.toUInt8 = .int .u8 (z : Int) := by
  show Value.int .u8 ((z.toUInt8.toNat : Nat) : Int) = _
  rw [show z.toUInt8.toNat = z from by simp; omega]
theorem c8_high (z : Nat) : c8 (z % 128 + 128).toUInt8 = .int .u8 ((z % 128 + 128 : Nat) : Int) := by
  show Value.int .u8 (((z % 128 + 128).toUInt8.toNat : Nat) : Int) = _
  rw [show (z % 128 + 128).toUInt8.toNat = z % 128 + 128 from by simp; omega]
end Go.Proofs.YtphljjgjpkdpmaaGreatDoor
/- What the package pack's putNum does. -/
namespace Go.Proofs.YtphljjgjpkdpmaaGreatDoor
open Go.RowKit
set_option linter.unusedVariables false
theorem Tryz.info5 : (Tryz.prog.info? 5).map (fun i => (i.zero, i.size, i.bytes)) = some (some (.int .u8 0), 1, 1) := by kernel_rfl
set_option maxRecDepth 100000 in
set_option maxHeartbeats 400000 in
theorem putNum_any (v : Value) (len : Nat) (xs : List UInt8) (n : Int) (w : World)
    (hown : w.ownsRow 0 5 1 v len (xs.map c8)) (hlen : len + 10 ≤ 140737488355328) (hn : -9223372036854775808 ≤ n ∧ n ≤ 9223372036854775807) :
    Calls Tryz.prog 79 #[v, .int .i64 n] w fun e w' => ∃ v', e = .returned v' ∧ w'.ownsRow 0 5 1 v' (len + (numB n).length) ((xs ++ numB n).map c8) ∧ w.grownBy w' v.ownBlock ∧ Moved w v v' := by
  obtain ⟨i0, hi, hz0, hz1, hz2⟩ := info_parts Tryz.info5
  have zb := zig_bits hn
  have hL := numB_len hn
  go_enter Tryz.func79, Tryz.ntmps79
  go_wp2
  clear zb
  go_loopw [0, 5] (fun v1 s wr => ∃ (z : Nat) (pre : List UInt8), z < 18446744073709551616 ∧ s = .int .u64 z ∧ pre ++ Lib.uvarint z = numB n ∧ wr.ownsRow 0 5 1 v1 (len + pre.length) ((xs ++ pre).map c8) ∧ w.grownBy wr v.ownBlock ∧ Moved w v v1) (fun _ s _ => (intOf s).toNat)
  case atStart => exact ⟨Lib.zigzag n, [], Lib.zigzag_lt hn.1 hn.2, rfl, rfl, by simpa using hown, grow_refl _ _, Moved.refl _ _⟩
  case round =>
    obtain ⟨z, pre, hz, rfl, hp, ho, hg, hm⟩ := hrel
    have hpl : pre.length + (Lib.uvarint z).length ≤ 10 := by rw [← hp, List.length_append] at hL; exact hL
    have hlp := Lib.uvarint_pos z
    have HM : Hid (len + pre.length + 1 ≤ maxLen) := by show _ ≤ 2^63-1; omega
    have HP := Lib.hid hp
    have HZ := Lib.hid hz
    clear hp hL hz
    by_cases h128 : z < 128
    · have h1 : ((128 : Int) ≤ (z : Int)) = False := by simp; omega
      have ew : IntKind.u8.wrap (z : Int) = (z : Int) := IntWalk.u8_in _ (by omega)
      go_wp2_with (at_builtin; refine wpList_append_buf _ rfl _ _ 50 rfl 5 i0 (.int .u8 0) 1 1 Tryz.underlying50 hi hz0 hz1 hz2 rfl (by decide) _ _ _ rfl (ho.alloc _) ⟨wr.heap.size, 0, none⟩ 1 1 [.int .u8 z] rfl rfl (cells_new1 _ _ _) (one_u8 _) (by exact HM.out) (by omega) ?_)
      intro v' w' ho' hg' hm'
      go_wp2
      go_ret
      have e1 : numB n = pre ++ [z.toUInt8] := by rw [← HP.out, Lib.uvarint_small h128]
      refine ⟨_, rfl, ?_, ?_, ?_⟩
      · rw [e1]; simpa [c8_lowP h128, Nat.add_assoc] using ho'
      · exact grow_trans hg hm (grow_none (World.grownBy_alloc _ _ _) hg')
      · exact hm.trans hg.size (Moved_alloc hm')
    · have h1 : (128 : Int) ≤ (z : Int) := by omega
      have hp2 : (pre ++ [(z % 128 + 128).toUInt8]) ++ Lib.uvarint (z / 128) = numB n := by
        rw [← HP.out, Lib.uvarint_big (x := z) (by omega), List.append_assoc]; rfl
      have HQ := Lib.hid hp2
      have ew := or128b z
      clear hp2
      go_wp2_with (at_builtin; refine wpList_append_buf _ rfl _ _ 50 rfl 5 i0 (.int .u8 0) 1 1 Tryz.underlying50 hi hz0 hz1 hz2 rfl (by decide) _ _ _ rfl (ho.alloc _) ⟨wr.heap.size, 0, none⟩ 1 1 [.int .u8 ((z % 128 + 128 : Nat) : Int)] rfl rfl (cells_new1 _ _ _) (one_u8 _) (by exact HM.out) (by omega) ?_)
      intro v' w' ho' hg' hm'
      go_wp2
      refine ⟨⟨z / 128, pre ++ [(z % 128 + 128).toUInt8], ?_, by go_num, HQ.out, ?_, grow_trans hg hm (grow_none (World.grownBy_alloc _ _ _) hg'), hm.trans hg.size (Moved_alloc hm')⟩, by simp [intOf]; omega⟩
      · have := HZ.out; omega
      · have e : ((z % 128 + 128 : Nat) : Int) = (z : Int) % 128 + 128 := by omega
        have e2 := c8_high z
        rw [e] at e2
        rw [← List.append_assoc, List.map_append, List.map_singleton, e2]
        simpa [Nat.add_assoc] using ho'
end Go.Proofs.YtphljjgjpkdpmaaGreatDoor
/- What the package pack's Nums does. -/
namespace Go.Proofs.YtphljjgjpkdpmaaGreatDoor
open Go.RowKit
set_option linter.unusedVariables false
def i64v (n : Int) : Value := .int .i64 n
/-- The bytes of numbers. -/
def numsB (l : List Int) : List UInt8 := l.flatMap numB
theorem numsB_snoc (l : List Int) (n : Int) : numsB (l ++ [n]) = numsB l ++ numB n := by simp [numsB]
theorem numsB_len (l : List Int) (hw : ∀ n ∈ l, -9223372036854775808 ≤ n ∧ n ≤ 9223372036854775807) : (numsB l).length ≤ 10 * l.length := by
  induction l with
  | nil => simp [numsB]
  | cons n l ih =>
    have h1 := numB_len (hw n (by simp))
    have h2 := ih (fun m hm => hw m (by simp [hm]))
    simp only [numsB, List.flatMap_cons, List.length_append, List.length_cons] at *
    omega
set_option maxRecDepth 100000 in
set_option maxHeartbeats 400000 in
theorem Nums_any (v : Value) (l : List Int) (w : World) (hr : RowAt w v (l.map i64v)) (hw : ∀ n ∈ l, -9223372036854775808 ≤ n ∧ n ≤ 9223372036854775807) (hlen : l.length ≤ 1000000000000) :
    Calls Tryz.prog 77 #[v] w fun e w' => e = .returned (.string ⟨(numsB l).toArray⟩) ∧ w.grownBy w' none := by
  obtain ⟨i0, hi, hz0, hz1, hz2⟩ := info_parts Tryz.info5
  obtain ⟨a, cap, rfl, hcells⟩ := hr
  rw [List.length_map] at hcells ⊢
  go_enter Tryz.func77, Tryz.ntmps77
  go_wp2_with (at_make; refine wpList_make_own _ rfl _ _ 50 rfl 0 5 i0 (.int .u8 0) 1 Tryz.underlying50 hi hz0 hz1 _ _ _ (2 * l.length) rfl rfl (by omega) (by rw [hz2]; omega) (by show _ ≤ 2^63-1; omega) (Nat.zero_le _) ?_)
  intro w1 ho1 hg1
  go_wp2
  go_loopw [3, 12] (fun out i wr => ∃ k : Nat, k ≤ l.length ∧ i = .int .i64 k ∧ wr.ownsRow 0 5 1 out (numsB (l.take k)).length ((numsB (l.take k)).map c8) ∧ w.grownBy wr none ∧ NewBlk w out) (fun _ i _ => l.length - (intOf i).toNat)
  case atStart => exact ⟨0, Nat.zero_le _, rfl, by simpa [numsB] using ho1, hg1, newblk_at _ _ _ _ (Nat.le_refl _) _⟩
  case round =>
    obtain ⟨k, hk, rfl, ho, hg, hn⟩ := hrel
    by_cases hlt : k < l.length
    · have hl1 := numsB_len (l.take k) (fun m hm => hw m (List.mem_of_mem_take hm))
      have hl2 : (l.take k).length ≤ k := List.length_take_le _ _
      rcases hcells with h0 | ⟨b, off, rfl, hb, hc⟩
      · have : l = [] := by simpa using h0
        subst this; simp at hlt
      have hcell : wr.cell? ⟨b, off + k, none⟩ = some (.int .i64 (l[k])) := by
        rw [World.cell?_of_block (hg.block b hb (by simp)), hc k hlt]; simp [i64v, List.getElem?_eq_getElem hlt]
      have hwk := hw l[k] (List.getElem_mem hlt)
      have HT : Hid (l.take (k+1) = l.take k ++ [l[k]]) := by rw [List.take_succ_eq_append_getElem hlt]; trivial
      clear hc
      go_wp2_with (go_at_call 79; refine (putNum_any _ _ _ _ _ ho (by omega) hwk).mono ?_; rintro e w2 ⟨v2, rfl, ho2, hg2, hm2⟩)
      go_roundw
      case rel => exact ⟨k + 1, by omega, by go_num, by rw [HT.out, numsB_snoc, List.length_append]; exact ho2, grow_newblk hg hn hg2, hn.moved hg.size hm2⟩
      case measure => simp [intOf]; omega
    · obtain rfl : k = l.length := by omega
      clear hcells
      have hconv := run_str_buf (P := Tryz.prog) wr Tryz.underlying50 Tryz.underlying5 Tryz.underlying9 ho
      go_wp2
      go_ret
      exact ⟨rfl, hg⟩
end Go.Proofs.YtphljjgjpkdpmaaGreatDoor
/- What the package pack's Text does. -/
namespace Go.Proofs.YtphljjgjpkdpmaaGreatDoor
open Go.RowKit
set_option linter.unusedVariables false
def strv (s : ByteArray) : Value := .string s
/-- The bytes of texts. -/
def textsB (l : List ByteArray) : List UInt8 := l.flatMap fun s => numB s.size ++ s.data.toList
/-- How much room is asked for. -/
def roomB (l : List ByteArray) : Nat := (l.map fun s => s.size + 10).sum
theorem textsB_snoc (l : List ByteArray) (s : ByteArray) : textsB (l ++ [s]) = textsB l ++ (numB s.size ++ s.data.toList) := by simp [textsB]
theorem roomB_snoc (l : List ByteArray) (s : ByteArray) : roomB (l ++ [s]) = roomB l + (s.size + 10) := by simp [roomB]
theorem roomB_take (l : List ByteArray) (k : Nat) : roomB (l.take k) ≤ roomB l := by
  induction l generalizing k with
  | nil => simp [roomB]
  | cons s l ih =>
    cases k with
    | zero => simp [roomB]
    | succ k => have := ih k; simp [roomB] at *; omega
theorem size_toList (s : ByteArray) : s.data.toList.length = s.size := by rw [Array.length_toList]; rfl
theorem textsB_len (l : List ByteArray) (h : roomB l ≤ 1000000000000) : (textsB l).length ≤ roomB l := by
  induction l with
  | nil => simp [textsB]
  | cons s l ih =>
    have e : roomB (s :: l) = s.size + 10 + roomB l := by simp only [roomB, List.map_cons, List.sum_cons]
    have h2 := ih (by omega)
    have h1 := numB_len (n := (s.size : Int)) (by omega)
    have e2 : textsB (s :: l) = (numB s.size ++ s.data.toList) ++ textsB l := by simp only [textsB, List.flatMap_cons]
    rw [e2, List.length_append, List.length_append, size_toList]
    omega
set_option maxRecDepth 100000 in
set_option maxHeartbeats 400000 in
theorem Text_any (v : Value) (l : List ByteArray) (w : World) (hr : RowAt w v (l.map strv)) (hlen : roomB l ≤ 1000000000000) :
    Calls Tryz.prog 45 #[v] w fun e w' => e = .returned (.string ⟨(textsB l).toArray⟩) ∧ w.grownBy w' none := by
  obtain ⟨i0, hi, hz0, hz1, hz2⟩ := info_parts Tryz.info5
  obtain ⟨a, cap, rfl, hcells⟩ := hr
  rw [List.length_map] at hcells ⊢
  have hll : l.length ≤ roomB l := by
    clear hcells hlen
    induction l with
    | nil => simp
    | cons s l ih => simp [roomB] at *; omega
  go_enter Tryz.func45, Tryz.ntmps45
  go_wp2
  go_loop [3, 11] (fun sz i => ∃ k : Nat, k ≤ l.length ∧ i = .int .i64 k ∧ sz = .int .i64 (roomB (l.take k) : Nat)) (fun _ i => l.length - (intOf i).toNat)
  case atStart => exact ⟨0, Nat.zero_le _, rfl, by simp [roomB]⟩
  case round =>
    obtain ⟨k, hk, rfl, rfl⟩ := hrel
    have hrk := roomB_take l k
    by_cases hlt : k < l.length
    · have hrk1 := roomB_take l (k+1)
      have HT : Hid (roomB (l.take (k+1)) = roomB (l.take k) + (l[k].size + 10)) := by show _ = _; rw [List.take_succ_eq_append_getElem hlt, roomB_snoc]
      have hs := HT.out ▸ hrk1
      clear hrk1
      rcases hcells with h0 | ⟨b, off, rfl, hb, hc⟩
      · have : l = [] := by simpa using h0
        subst this; simp at hlt
      have hcell : w.cell? ⟨b, off + k, none⟩ = some (.string (l[k])) := by
        rw [hc k hlt]; simp [strv, List.getElem?_eq_getElem hlt]
      clear hc
      go_wp2
      go_round
      case rel => exact ⟨k + 1, by omega, by go_num, by rw [HT.out]; go_num⟩
      case measure => simp [intOf]; omega
    · obtain rfl : k = l.length := by omega
      have hll2 : l.length ≤ 1000000000000 := by omega
      clear hrk hll
      rw [List.take_length]
      go_wp2_with (at_make; refine wpList_make_own _ rfl _ _ 50 rfl 0 5 i0 (.int .u8 0) 1 Tryz.underlying50 hi hz0 hz1 _ _ _ (roomB l) rfl rfl rfl (by rw [hz2]; omega) (by show _ ≤ 2^63-1; omega) (Nat.zero_le _) ?_)
      intro w1 ho1 hg1
      go_wp2
      go_loopw [6, 25] (fun out i wr => ∃ k : Nat, k ≤ l.length ∧ i = .int .i64 k ∧ wr.ownsRow 0 5 1 out (textsB (l.take k)).length ((textsB (l.take k)).map c8) ∧ w.grownBy wr none ∧ NewBlk w out) (fun _ i _ => l.length - (intOf i).toNat)
      case atStart => exact ⟨0, Nat.zero_le _, rfl, by simpa [textsB] using ho1, hg1, newblk_at _ _ _ _ (Nat.le_refl _) _⟩
      case round =>
        obtain ⟨k, hk, rfl, ho, hg, hn⟩ := hrel
        by_cases hlt : k < l.length
        · have hrk := roomB_take l (k+1)
          rw [List.take_succ_eq_append_getElem hlt, roomB_snoc] at hrk
          have hl1 := textsB_len (l.take k) (by omega)
          rcases hcells with h0 | ⟨b, off, rfl, hb, hc⟩
          · have : l = [] := by simpa using h0
            subst this; simp at hlt
          have hcell : wr.cell? ⟨b, off + k, none⟩ = some (.string l[k]) := by
            rw [World.cell?_of_block (hg.block b hb (by simp)), hc k hlt]; simp [strv, List.getElem?_eq_getElem hlt]
          have hn10 := numB_len (n := (l[k].size : Int)) (by omega)
          have HT : Hid (l.take (k+1) = l.take k ++ [l[k]]) := by rw [List.take_succ_eq_append_getElem hlt]; trivial
          clear hc
          go_wp2_with fail
          refine (putNum_any _ _ _ _ _ ho (by omega) (by omega)).mono ?_
          rintro e w2 ⟨v2, rfl, ho2, hg2, hm2⟩
          go_wp2_with (at_builtin; refine wpList_append_str _ rfl _ _ 50 9 rfl 5 i0 Tryz.underlying50 Tryz.underlying9 hi hz0 hz1 hz2 _ _ _ rfl ho2 _ rfl (by show _ ≤ 2^63-1; omega) (by omega) ?_)
          intro v3 w3 ho3 hg3 hm3
          go_wp2
          go_roundw
          case rel =>
            refine ⟨k + 1, by omega, by go_num, ?_, grow_newblk (grow_newblk hg hn hg2) (hn.moved hg.size hm2) hg3, (hn.moved hg.size hm2).moved (Nat.le_trans hg.size hg2.size) hm3⟩
            rw [HT.out, textsB_snoc, ← List.append_assoc]
            simpa [size_toList, Nat.add_assoc] using ho3
          case measure => simp [intOf]; omega
        · obtain rfl : k = l.length := by omega
          clear hcells
          have hconv := run_str_buf (P := Tryz.prog) wr Tryz.underlying50 Tryz.underlying5 Tryz.underlying9 ho
          go_wp2
          go_ret
          exact ⟨rfl, hg⟩
end Go.Proofs.YtphljjgjpkdpmaaGreatDoor
/- How a number is read: a plain function. -/
namespace Go.Proofs.YtphljjgjpkdpmaaGreatDoor
open Go.RowKit
set_option linter.unusedVariables false
/-- The number that an unsigned one stands for. -/
def unzig (z : Nat) : Int := if z % 2 = 0 then (z / 2 : Nat) else - ((z / 2 : Nat) : Int) - 1
/-- The number with which bytes begin, of which i groups are read and gave z; and how many bytes it takes: 0, if there is none. -/
def getL : List UInt8 → Nat → Nat → Int × Nat
  | [], _, _ => (0, 0)
  | b :: r, i, z =>
    if 10 ≤ i then (0, 0) else
    if i = 9 ∧ 1 < b.toNat then (0, 0) else
    if 128 ≤ b.toNat then getL r (i + 1) (z + b.toNat % 128 * 128 ^ i) else
    if b.toNat = 0 ∧ 0 < i then (0, 0) else
    (unzig (z + b.toNat % 128 * 128 ^ i), i + 1)
def getN (s : ByteArray) : Int × Nat := getL s.data.toList 0 0
theorem getL_used : ∀ (l : List UInt8) (i z : Nat), (getL l i z).2 ≤ i + l.length ∧ (getL l i z).2 ≤ 10
  | [], i, z => by simp [getL]
  | b :: r, i, z => by
    have ih := getL_used r (i + 1) (z + b.toNat % 128 * 128 ^ i)
    unfold getL
    simp only [List.length_cons]
    split
    · simp
    split
    · simp
    split
    · omega
    split
    · simp
    · exact ⟨by show i + 1 ≤ _; omega, by show i + 1 ≤ _; omega⟩
theorem unzig_bd {z : Nat} (h : z < 18446744073709551616) : -9223372036854775808 ≤ unzig z ∧ unzig z ≤ 9223372036854775807 := by unfold unzig; split <;> omega
theorem pow128 {i : Nat} (h : i ≤ 9) : 128 ^ i ≤ 9223372036854775808 := Nat.le_trans (Nat.pow_le_pow_right (by omega) h) (by decide)
theorem step_lt {i z b : Nat} (hi : i < 10) (hz : z < 128 ^ i) (hb : b < 256) (h9 : ¬ (i = 9 ∧ 1 < b)) : z + b % 128 * 128 ^ i < 18446744073709551616 ∧ b % 128 * 128 ^ i < 18446744073709551616 ∧ z + b % 128 * 128 ^ i < 128 ^ (i + 1) := by
  have hp := pow128 (i := i) (by omega)
  have e : 128 ^ (i + 1) = 128 * 128 ^ i := by rw [Nat.pow_succ, Nat.mul_comm]
  have h3 : b % 128 * 128 ^ i ≤ 127 * 128 ^ i := Nat.mul_le_mul_right _ (by omega)
  by_cases h : i = 9
  · subst h
    have h2 : b % 128 * 128 ^ 9 ≤ 1 * 128 ^ 9 := Nat.mul_le_mul_right _ (by omega)
    have e9 : (128 : Nat) ^ 9 = 9223372036854775808 := by decide
    rw [e9] at *
    omega
  · have h8 : 128 ^ i ≤ 128 ^ 8 := Nat.pow_le_pow_right (by omega) (by omega)
    have e8 : (128 : Nat) ^ 8 = 72057594037927936 := by decide
    rw [e8] at h8
    omega
theorem getL_bd : ∀ (l : List UInt8) (i z : Nat), z < 128 ^ i → -9223372036854775808 ≤ (getL l i z).1 ∧ (getL l i z).1 ≤ 9223372036854775807
  | [], i, z, _ => by simp [getL]
  | b :: r, i, z, hz => by
    unfold getL
    by_cases h1 : 10 ≤ i
    · rw [if_pos h1]; simp
    · rw [if_neg h1]
      by_cases h2 : i = 9 ∧ 1 < b.toNat
      · rw [if_pos h2]; simp
      · rw [if_neg h2]
        have hs := step_lt (by omega) hz b.toNat_lt h2
        by_cases h3 : 128 ≤ b.toNat
        · rw [if_pos h3]; exact getL_bd r _ _ hs.2.2
        · rw [if_neg h3]
          split
          · simp
          · exact unzig_bd hs.1
theorem getN_bd (s : ByteArray) : -9223372036854775808 ≤ (getN s).1 ∧ (getN s).1 ≤ 9223372036854775807 := getL_bd _ 0 0 (by decide)
theorem getN_used (s : ByteArray) : (getN s).2 ≤ s.size := by
  have := (getL_used s.data.toList 0 0).1
  rw [size_toList] at this
  unfold getN; omega
theorem or_group (z x i : Nat) (hz : z < 128 ^ i) : z ||| (x * 128 ^ i) = z + x * 128 ^ i := by
  have e : (128 : Nat) ^ i = 2 ^ (7 * i) := by rw [Nat.pow_mul]
  rw [e] at hz ⊢
  rw [Nat.or_comm, nat_join (7 * i) _ _ (by simp) hz, Nat.add_comm]
theorem xor_same (x : Nat) (hx : x < 9223372036854775808) : bits .xor .i64 (x : Int) 0 = x := by
  show IntKind.i64.wrap ((BitVec.ofInt 64 (x : Int) ^^^ BitVec.ofInt 64 0).toNat : Int) = _
  have h2 : (BitVec.ofInt 64 (x : Int)).toNat = x := by
    rw [BitVec.ofInt_natCast, BitVec.toNat_ofNat]; exact Nat.mod_eq_of_lt (by omega)
  rw [BitVec.toNat_xor, h2, show (BitVec.ofInt 64 0).toNat = 0 from by decide, Nat.xor_zero, IntKind.wrap_i64]
  omega
theorem xor_not (x : Nat) (hx : x < 9223372036854775808) : bits .xor .i64 (x : Int) (-1) = -(x : Int) - 1 := by
  show IntKind.i64.wrap ((BitVec.ofInt 64 (x : Int) ^^^ BitVec.ofInt 64 (-1)).toNat : Int) = _
  rw [BitVec.xor_comm]
  exact Lib.i64_not x hx
theorem shr_xor (z : Nat) (hz : z < 18446744073709551616) : bits .xor .i64 ((z / 2 : Nat) : Int) (-((z % 2 : Nat) : Int)) = unzig z := by
  unfold unzig
  rcases Nat.mod_two_eq_zero_or_one z with h | h
  · rw [if_pos h, h]
    exact xor_same _ (by omega)
  · rw [if_neg (by omega), h]
    exact xor_not _ (by omega)
end Go.Proofs.YtphljjgjpkdpmaaGreatDoor
/- What the package pack's getNum does. -/
namespace Go.Proofs.YtphljjgjpkdpmaaGreatDoor
open Go.RowKit
set_option linter.unusedVariables false
/-- What holds at the head of getNum's round. -/
def GnRel (s : ByteArray) (z i : Value) : Prop := ∃ (k : Nat) (y : Nat), k ≤ s.size ∧ k ≤ 10 ∧ i = .int .i64 k ∧ z = .int .u64 y ∧ y < 128 ^ k ∧ getN s = getL (s.data.toList.drop k) k y
set_option maxHeartbeats 1000000 in
set_option maxRecDepth 100000 in
theorem getNum_any (s : ByteArray) (w : World) (hs : s.size ≤ 1000000000000000) :
    Calls Tryz.prog 136 #[.string s] w fun e w' => e = .returned (.tuple #[.int .i64 (getN s).1, .int .i64 (getN s).2]) ∧ w = w' := by
  go_enter Tryz.func136, Tryz.ntmps136
  go_wp2
  go_loop [4, 5] (fun z i => GnRel s z i) (fun _ i => 10 - (intOf i).toNat)
  case atStart => exact ⟨0, 0, Nat.zero_le _, Nat.zero_le _, rfl, rfl, by simp, by simp [getN]⟩
  case round =>
    obtain ⟨k, y, hk, hk10, rfl, rfl, hy, hg⟩ := hrel
    have HG := Lib.hid hg
    have HY := Lib.hid hy
    clear hg hy
    by_cases hend : k < s.size ∧ k < 10
    · obtain ⟨h1, h2⟩ := hend
      have hdrop : Hid (s.data.toList.drop k = s[k] :: s.data.toList.drop (k + 1)) := by show _ = _; rw [List.drop_eq_getElem_cons (by simpa [size_toList] using h1)]; rfl
      have hb := s[k].toNat_lt
      have HGL := HG.out
      rw [hdrop.out, getL, if_neg (by omega)] at HGL
      by_cases h9 : k = 9 ∧ 1 < s[k].toNat
      · rw [if_pos h9] at HGL
        have HR := Lib.hid HGL
        clear HGL
        obtain ⟨e9, h1b⟩ := h9
        subst e9
        go_wp2
        go_ret2
        rw [HR.out]
        exact ⟨rfl, rfl⟩
      · rw [if_neg h9] at HGL
        have hst := step_lt h2 HY.out hb h9
        have hor := or_group y (s[k].toNat % 128) k HY.out
        obtain ⟨x, hx⟩ : ∃ x, x = s[k].toNat % 128 := ⟨_, rfl⟩
        rw [← hx] at hst hor HGL
        have hand : bits .and .u8 (s[k].toNat : Int) 127 = (x : Int) := by
          have h := u8_and_nat s[k].toNat 127 (by omega) (by omega)
          rw [nat_mask7, ← hx] at h
          exact h
        have hx128 : x < 128 := by omega
        obtain ⟨M, hM⟩ : ∃ M, M = x * 128 ^ k := ⟨_, rfl⟩
        have hshl : IntKind.u64.wrap ((x : Int) * 2 ^ (7 * k)) = (M : Int) := by
          have e : (2 : Int) ^ (7 * k) = ((128 ^ k : Nat) : Int) := by rw [Int.pow_mul]; simp
          rw [IntKind.wrap_u64, e, ← Int.natCast_mul, ← hM, Int.emod_eq_of_lt (by omega) (by omega)]
        rw [← hM] at hst hor HGL
        have hbor : bits .or .u64 (y : Int) (M : Int) = ((y + M : Nat) : Int) := by rw [u64_or_nat _ _ (by omega) (by omega), hor]
        obtain ⟨N, hN⟩ : ∃ N, N = y + M := ⟨_, rfl⟩
        rw [← hN] at hst HGL hbor
        have HR := Lib.hid HGL
        have HST := Lib.hid hst
        have hxx : ¬ 128 ≤ s[k].toNat → x = s[k].toNat := by intro h; rw [hx]; omega
        clear HGL hst hor hM hN hx
        have HXX := Lib.hid hxx
        clear hxx
        have hsx := shr_xor N HST.out.1
        have HSX := Lib.hid hsx
        clear hsx
        by_cases h128 : 128 ≤ s[k].toNat
        · have h9d : ((k : Int) == 9) = false := by simp; omega
          go_wp2
          refine ⟨⟨k + 1, N, by omega, by omega, by go_num, rfl, HST.out.2.2, ?_⟩, by simp [intOf]; omega⟩
          rw [HR.out, if_pos h128]
        · have h128' : (s[k].toNat : Int) < 128 := by omega
          by_cases h0 : s[k].toNat = 0 ∧ 0 < k
          · obtain ⟨h0, hk0⟩ := h0
            have H0 : Hid (getN s = (0, 0)) := by show _ = _; rw [HR.out, if_neg h128, if_pos ⟨h0, hk0⟩]
            have h0' : ((s[k].toNat : Int) == 0) = true := by simp; omega
            have H1 := Lib.hid h0
            clear h0
            rcases Decidable.em (k = 9) with h9c | h9c
            · have h9d : ((k : Int) == 9) = true := by simp; omega
              have h91 : (s[k].toNat : Int) ≤ 1 := by omega
              clear h9c
              go_wp2
              go_ret2
              rw [H0.out]
              exact ⟨rfl, rfl⟩
            · have h9d : ((k : Int) == 9) = false := by simp; omega
              go_wp2
              go_ret2
              rw [H0.out]
              exact ⟨rfl, rfl⟩
          · obtain ⟨q, hq⟩ : ∃ q, q = N / 2 := ⟨_, rfl⟩
            obtain ⟨r, hr⟩ : ∃ r, r = N % 2 := ⟨_, rfl⟩
            have hN2 : (N : Int) / 2 = (q : Int) := by omega
            have hand1 : bits .and .u64 (N : Int) 1 = (r : Int) := by rw [Lib.u64_and1 _ (by omega) (by have := HST.out.1; omega), hr]; omega
            have hqb : (q : Int) ≤ 9223372036854775807 := by have := HST.out.1; omega
            have hrb : r ≤ 1 := by omega
            obtain ⟨U, hU⟩ : ∃ U, U = unzig N := ⟨_, rfl⟩
            have hxor : bits .xor .i64 (q : Int) (-(r : Int)) = U := by rw [hq, hr, hU]; exact HSX.out
            have H0 : Hid (getN s = (U, k + 1)) := by show _ = _; rw [HR.out, if_neg h128, if_neg h0, hU]
            clear hq hr hU
            have h01 : (((s[k].toNat : Int) == 0) = false) ∨ (((s[k].toNat : Int) == 0) = true ∧ k = 0) := by
              by_cases e : s[k].toNat = 0
              · exact .inr ⟨by simp; omega, by omega⟩
              · exact .inl (by simp; omega)
            rcases h01 with h01 | ⟨h01, hk0⟩
            · rcases Decidable.em (k = 9) with h9c | h9c
              · have h9d : ((k : Int) == 9) = true := by simp; omega
                have h91 : (s[k].toNat : Int) ≤ 1 := by omega
                clear h9c
                go_wp2
                go_ret2
                rw [H0.out]
                exact ⟨rfl, rfl⟩
              · have h9d : ((k : Int) == 9) = false := by simp; omega
                go_wp2
                go_ret2
                rw [H0.out]
                exact ⟨rfl, rfl⟩
            · have h9d : ((k : Int) == 9) = false := by simp; omega
              have hk00 : (k : Int) ≤ 0 := by omega
              clear hk0
              go_wp2
              go_ret2
              rw [H0.out]
              exact ⟨rfl, rfl⟩
    · have H0 : Hid (getN s = (0, 0)) := by
        show _ = _
        rw [HG.out]
        by_cases h1 : k < s.size
        · rw [List.drop_eq_getElem_cons (by simpa [size_toList] using h1), getL, if_pos (by omega)]
        · rw [List.drop_eq_nil_of_le (by rw [size_toList]; omega), getL]
      by_cases h1 : k < s.size
      · have h2 : (10 : Int) ≤ k := by omega
        go_wp2
        go_ret2
        rw [H0.out]
        exact ⟨rfl, rfl⟩
      · have h2 : (s.size : Int) ≤ k := by omega
        go_wp2
        go_ret2
        rw [H0.out]
        exact ⟨rfl, rfl⟩
end Go.Proofs.YtphljjgjpkdpmaaGreatDoor
/- What the package pack's Reader does: its parts that need a good reader. -/
namespace Go.Proofs.YtphljjgjpkdpmaaGreatDoor
open Go.RowKit
set_option linter.unusedVariables false
/-- Block b is a reader. -/
def Rd (w : World) (b : Nat) (s : ByteArray) (bad : Bool) : Prop := w.heap[b]? = some (.cells #[.string s, .bool bad] 143 (0, 0))
theorem Rd.c0 {w : World} {b : Nat} {s : ByteArray} {bad : Bool} (h : Rd w b s bad) : w.cell? ⟨b, 0, none⟩ = some (.string s) := by unfold Rd at h; simp [World.cell?, h]
theorem Rd.c1 {w : World} {b : Nat} {s : ByteArray} {bad : Bool} (h : Rd w b s bad) : w.cell? ⟨b, 1, none⟩ = some (.bool bad) := by unfold Rd at h; simp [World.cell?, h]
theorem Rd.fr {w : World} {b : Nat} {s : ByteArray} {bad : Bool} (h : Rd w b s bad) (o : Nat) : w.frozen? ⟨b, o, none⟩ = false := by unfold Rd at h; simp [World.frozen?, h]
theorem Rd.lt {w : World} {b : Nat} {s : ByteArray} {bad : Bool} (h : Rd w b s bad) : b < w.heap.size := (Array.getElem?_eq_some_iff.1 h).1
theorem Rd.set0 {w : World} {b : Nat} {s : ByteArray} {bad : Bool} (h : Rd w b s bad) (s' : ByteArray) : Rd (w.setCell ⟨b, 0, none⟩ (.string s')) b s' bad := by
  unfold Rd at h ⊢; simp [World.setCell, Array.getElem?_modify, h]
theorem Rd.set1 {w : World} {b : Nat} {s : ByteArray} {bad : Bool} (h : Rd w b s bad) (bad' : Bool) : Rd (w.setCell ⟨b, 1, none⟩ (.bool bad')) b s bad' := by
  unfold Rd at h ⊢; simp [World.setCell, Array.getElem?_modify, h]
theorem Rd.kept {w w' : World} {b : Nat} {s : ByteArray} {bad : Bool} (h : Rd w b s bad) {r : Option Nat} (g : w.grownBy w' r) (hr : r ≠ some b) : Rd w' b s bad := by
  unfold Rd at h ⊢; rw [g.block b (Array.getElem?_eq_some_iff.1 h).1 (fun e => hr e.symm)]; exact h
theorem Rd.alloc {w : World} {b : Nat} {s : ByteArray} {bad : Bool} (h : Rd w b s bad) (o : Obj) : Rd (w.alloc o) b s bad := h.kept (World.grownBy_alloc w o none) (by simp)
theorem Rd.new (w : World) (s : ByteArray) : Rd (w.alloc (.cells #[.string s, .bool false] 143)) w.heap.size s false := heap_alloc_new w _
/-- What is left behind the next number. -/
def nextS (s : ByteArray) : ByteArray := s.extract (getN s).2 s.size
def nextBad (s : ByteArray) : Bool := ((getN s).2 : Int) == 0
def sizeN (s : ByteArray) : Nat := if (getN s).1 < 0 ∨ (nextS s).size < (getN s).1 then 0 else (getN s).1.toNat
def sizeBad (s : ByteArray) : Bool := decide ((getN s).1 < 0) || decide (((nextS s).size : Int) < (getN s).1) || nextBad s
/-- What the methods tell of a reader, and what they leave of it. -/
def rNum (s : ByteArray) (bad : Bool) : Int := if bad then 0 else (getN s).1
def rNumS (s : ByteArray) (bad : Bool) : ByteArray := if bad then s else nextS s
def rNumB (s : ByteArray) (bad : Bool) : Bool := bad || nextBad s
def rCount (s : ByteArray) (bad : Bool) : Nat := if bad then 0 else sizeN s
def rCountB (s : ByteArray) (bad : Bool) : Bool := bad || sizeBad s
def rText (s : ByteArray) (bad : Bool) : ByteArray := if bad then ByteArray.empty else (nextS s).extract 0 (sizeN s)
def rTextS (s : ByteArray) (bad : Bool) : ByteArray := if bad then s else (nextS s).extract (sizeN s) (nextS s).size
theorem sizeN_le (s : ByteArray) : sizeN s ≤ (nextS s).size := by unfold sizeN; split <;> omega
set_option maxRecDepth 100000 in
theorem next_any (b : Nat) (s : ByteArray) (bad : Bool) (w : World) (h : Rd w b s bad) (hs : s.size ≤ 1000000000000000) :
    Calls Tryz.prog 110 #[.pointer (some ⟨b, 0, none⟩)] w fun e w' => e = .returned (.int .i64 (getN s).1) ∧ Rd w' b (nextS s) (nextBad s) ∧ w.grownBy w' (some b) := by
  have h0 := h.c0
  have h1 := h.c1
  have f0 := h.fr 0
  have f1 := h.fr 1
  have hu := getN_used s
  go_enter Tryz.func110, Tryz.ntmps110
  go_wp2_with (go_at_call 136; refine (getNum_any _ _ hs).mono ?_; rintro e w' ⟨rfl, rfl⟩)
  go_ret
  exact ⟨rfl, (h.set0 _).set1 _, grow_same (grow_set _ _ _) (grow_set _ _ _)⟩
set_option maxRecDepth 100000 in
theorem size_any (b : Nat) (s : ByteArray) (bad : Bool) (w : World) (h : Rd w b s bad) (hs : s.size ≤ 1000000000000000) :
    Calls Tryz.prog 112 #[.pointer (some ⟨b, 0, none⟩)] w fun e w' => e = .returned (.int .i64 (sizeN s)) ∧ Rd w' b (nextS s) (sizeBad s) ∧ w.grownBy w' (some b) := by
  go_enter Tryz.func112, Tryz.ntmps112
  go_wp2_with fail
  refine (next_any b s bad w h hs).mono ?_
  rintro e w1 ⟨rfl, h1, hg⟩
  have c0 := h1.c0
  have c1 := h1.c1
  have f1 := h1.fr 1
  by_cases hneg : (getN s).1 < 0
  · have en : sizeN s = 0 := by rw [sizeN, if_pos (.inl hneg)]
    have eb : sizeBad s = true := by simp [sizeBad, hneg]
    go_wp2
    go_ret
    rw [en, eb]
    exact ⟨rfl, h1.set1 _, grow_same hg (grow_set _ _ _)⟩
  · by_cases hbig : ((nextS s).size : Int) < (getN s).1
    · have en : sizeN s = 0 := by rw [sizeN, if_pos (.inr hbig)]
      have eb : sizeBad s = true := by simp [sizeBad, hbig]
      go_wp2
      go_ret
      rw [en, eb]
      exact ⟨rfl, h1.set1 _, grow_same hg (grow_set _ _ _)⟩
    · have en : (sizeN s : Int) = (getN s).1 := by rw [sizeN, if_neg (by omega)]; omega
      have eb : sizeBad s = nextBad s := by simp [sizeBad, hneg, hbig]
      have EN := Lib.hid en
      have EB := Lib.hid eb
      clear en eb
      go_wp2
      go_ret
      rw [EN.out, EB.out]
      exact ⟨rfl, h1, hg⟩
end Go.Proofs.YtphljjgjpkdpmaaGreatDoor
/- What the package pack's Reader does: Num, at any reader. -/
namespace Go.Proofs.YtphljjgjpkdpmaaGreatDoor
open Go.RowKit
set_option linter.unusedVariables false
set_option maxRecDepth 100000 in
theorem Num_good (b : Nat) (s : ByteArray) (w : World) (h : Rd w b s false) (hs : s.size ≤ 1000000000000000) :
    Calls Tryz.prog 93 #[.pointer (some ⟨b, 0, none⟩)] w fun e w' => e = .returned (.int .i64 (getN s).1) ∧ Rd w' b (nextS s) (nextBad s) ∧ w.grownBy w' (some b) := by
  have hmf : ∀ (fn : Fn) (first cap : Array Value) (w : World), (Instr.makeFunc fn first cap).run Tryz.prog w = .ok (.func fn first cap) w := fun _ _ _ _ => rfl
  have hb := h.lt
  have ha := (h.alloc (.cells #[.pointer (some ⟨b, 0, none⟩)] 132)).alloc (.cells #[.int .i64 0] 3)
  have c1 := ha.c1
  go_enter Tryz.func93, Tryz.ntmps93
  go_wp2_with (first | (go_at_call 110; refine (next_any b s false _ ha hs).mono ?_; rintro e w1 ⟨rfl, h1, hg1⟩; have e1 := hg1.cell (two_cell1 _ _ _ _ _) (by simp; omega); have e2 := grow_fr hg1 (two_fr1 _ _ _ _ _) (by simp) (by simp; omega); have e3 := hg1.size; simp only [World.size_alloc] at e3) | go_in)
  go_ret
  exact ⟨rfl, h1.kept (grow_set _ _ _) (by simp; omega), grow_setnew (grow_alloc _ _ (grow_alloc _ _ hg1)) (by simp) _⟩
set_option maxRecDepth 100000 in
theorem Num_bad (b : Nat) (s : ByteArray) (w : World) (h : Rd w b s true) :
    Calls Tryz.prog 93 #[.pointer (some ⟨b, 0, none⟩)] w fun e w' => e = .returned (.int .i64 0) ∧ Rd w' b s true ∧ w.grownBy w' (some b) := by
  have hmf : ∀ (fn : Fn) (first cap : Array Value) (w : World), (Instr.makeFunc fn first cap).run Tryz.prog w = .ok (.func fn first cap) w := fun _ _ _ _ => rfl
  have hb := h.lt
  have ha := (h.alloc (.cells #[.pointer (some ⟨b, 0, none⟩)] 132)).alloc (.cells #[.int .i64 0] 3)
  have c1 := ha.c1
  go_enter Tryz.func93, Tryz.ntmps93
  go_wp2
  go_ret
  exact ⟨rfl, ha, grow_alloc _ _ (World.grownBy_alloc _ _ _)⟩
set_option maxRecDepth 100000 in
theorem Num_any (b : Nat) (s : ByteArray) (bad : Bool) (w : World) (h : Rd w b s bad) (hs : s.size ≤ 1000000000000000) :
    Calls Tryz.prog 93 #[.pointer (some ⟨b, 0, none⟩)] w fun e w' => e = .returned (.int .i64 (rNum s bad)) ∧ Rd w' b (rNumS s bad) (rNumB s bad) ∧ w.grownBy w' (some b) := by
  cases bad with
  | true => exact Num_bad b s w h
  | false => exact Num_good b s w h hs
set_option maxRecDepth 100000 in
theorem Num_nil (w : World) :
    Calls Tryz.prog 93 #[.pointer none] w fun e w' => e = .returned (.int .i64 0) ∧ w.grownBy w' none := by
  have hmf : ∀ (fn : Fn) (first cap : Array Value) (w : World), (Instr.makeFunc fn first cap).run Tryz.prog w = .ok (.func fn first cap) w := fun _ _ _ _ => rfl
  go_enter Tryz.func93, Tryz.ntmps93
  go_wp2
  go_ret
  exact ⟨rfl, grow_alloc _ _ (World.grownBy_alloc _ _ _)⟩
end Go.Proofs.YtphljjgjpkdpmaaGreatDoor
/- What the package pack's Reader does: what it tells of itself. -/
namespace Go.Proofs.YtphljjgjpkdpmaaGreatDoor
open Go.RowKit
set_option linter.unusedVariables false
def rLeft (s : ByteArray) (bad : Bool) : Nat := if bad then 0 else s.size
def rDone (s : ByteArray) (bad : Bool) : Bool := if bad then false else (s.toList.isEmpty)
set_option maxRecDepth 100000 in
theorem Left_good (b : Nat) (s : ByteArray) (w : World) (h : Rd w b s false) (hs : s.size ≤ 1000000000000000) :
    Calls Tryz.prog 107 #[.pointer (some ⟨b, 0, none⟩)] w fun e w' => e = .returned (.int .i64 s.size) ∧ Rd w' b s false ∧ w.grownBy w' (some b) := by
  have hmf : ∀ (fn : Fn) (first cap : Array Value) (w : World), (Instr.makeFunc fn first cap).run Tryz.prog w = .ok (.func fn first cap) w := fun _ _ _ _ => rfl
  have hb := h.lt
  have ha := (h.alloc (.cells #[.pointer (some ⟨b, 0, none⟩)] 132)).alloc (.cells #[.int .i64 0] 3)
  have c0 := ha.c0
  have c1 := ha.c1
  have f1 := ha.fr 1
  go_enter Tryz.func107, Tryz.ntmps107
  go_wp2
  go_ret
  exact ⟨rfl, (h.alloc _).alloc _, grow_alloc _ _ (World.grownBy_alloc _ _ _)⟩
set_option maxRecDepth 100000 in
theorem Left_bad (b : Nat) (s : ByteArray) (w : World) (h : Rd w b s true) :
    Calls Tryz.prog 107 #[.pointer (some ⟨b, 0, none⟩)] w fun e w' => e = .returned (.int .i64 0) ∧ Rd w' b s true ∧ w.grownBy w' (some b) := by
  have hmf : ∀ (fn : Fn) (first cap : Array Value) (w : World), (Instr.makeFunc fn first cap).run Tryz.prog w = .ok (.func fn first cap) w := fun _ _ _ _ => rfl
  have hb := h.lt
  have ha := (h.alloc (.cells #[.pointer (some ⟨b, 0, none⟩)] 132)).alloc (.cells #[.int .i64 0] 3)
  have c0 := ha.c0
  have c1 := ha.c1
  have f1 := ha.fr 1
  go_enter Tryz.func107, Tryz.ntmps107
  go_wp2
  go_ret
  exact ⟨rfl, ha, grow_alloc _ _ (World.grownBy_alloc _ _ _)⟩
set_option maxRecDepth 100000 in
theorem Left_nil (w : World) :
    Calls Tryz.prog 107 #[.pointer none] w fun e w' => e = .returned (.int .i64 0) ∧ w.grownBy w' none := by
  have hmf : ∀ (fn : Fn) (first cap : Array Value) (w : World), (Instr.makeFunc fn first cap).run Tryz.prog w = .ok (.func fn first cap) w := fun _ _ _ _ => rfl
  go_enter Tryz.func107, Tryz.ntmps107
  go_wp2
  go_ret
  exact ⟨rfl, grow_alloc _ _ (World.grownBy_alloc _ _ _)⟩
set_option maxRecDepth 100000 in
theorem Good_good (b : Nat) (s : ByteArray) (w : World) (h : Rd w b s false) :
    Calls Tryz.prog 106 #[.pointer (some ⟨b, 0, none⟩)] w fun e w' => e = .returned (.bool true) ∧ Rd w' b s false ∧ w.grownBy w' (some b) := by
  have hmf : ∀ (fn : Fn) (first cap : Array Value) (w : World), (Instr.makeFunc fn first cap).run Tryz.prog w = .ok (.func fn first cap) w := fun _ _ _ _ => rfl
  have hb := h.lt
  have ha := h.alloc (.cells #[.bool false] 4)
  have c0 := ha.c0
  have c1 := ha.c1
  have f1 := ha.fr 1
  go_enter Tryz.func106, Tryz.ntmps106
  go_wp2
  go_ret
  exact ⟨rfl, h.alloc _, World.grownBy_alloc _ _ _⟩
set_option maxRecDepth 100000 in
theorem Good_bad (b : Nat) (s : ByteArray) (w : World) (h : Rd w b s true) :
    Calls Tryz.prog 106 #[.pointer (some ⟨b, 0, none⟩)] w fun e w' => e = .returned (.bool false) ∧ Rd w' b s true ∧ w.grownBy w' (some b) := by
  have hmf : ∀ (fn : Fn) (first cap : Array Value) (w : World), (Instr.makeFunc fn first cap).run Tryz.prog w = .ok (.func fn first cap) w := fun _ _ _ _ => rfl
  have hb := h.lt
  have ha := h.alloc (.cells #[.bool false] 4)
  have c0 := ha.c0
  have c1 := ha.c1
  have f1 := ha.fr 1
  go_enter Tryz.func106, Tryz.ntmps106
  go_wp2
  go_ret
  exact ⟨rfl, ha, World.grownBy_alloc _ _ _⟩
set_option maxRecDepth 100000 in
theorem Good_nil (w : World) :
    Calls Tryz.prog 106 #[.pointer none] w fun e w' => e = .returned (.bool false) ∧ w.grownBy w' none := by
  have hmf : ∀ (fn : Fn) (first cap : Array Value) (w : World), (Instr.makeFunc fn first cap).run Tryz.prog w = .ok (.func fn first cap) w := fun _ _ _ _ => rfl
  go_enter Tryz.func106, Tryz.ntmps106
  go_wp2
  go_ret
  exact ⟨rfl, World.grownBy_alloc _ _ _⟩
set_option maxRecDepth 100000 in
theorem Done_good (b : Nat) (s : ByteArray) (w : World) (h : Rd w b s false) :
    Calls Tryz.prog 95 #[.pointer (some ⟨b, 0, none⟩)] w fun e w' => e = .returned (.bool (s.toList.isEmpty)) ∧ Rd w' b s false ∧ w.grownBy w' (some b) := by
  have hmf : ∀ (fn : Fn) (first cap : Array Value) (w : World), (Instr.makeFunc fn first cap).run Tryz.prog w = .ok (.func fn first cap) w := fun _ _ _ _ => rfl
  have hb := h.lt
  have ha := (h.alloc (.cells #[.pointer (some ⟨b, 0, none⟩)] 132)).alloc (.cells #[.bool false] 4)
  have c0 := ha.c0
  have c1 := ha.c1
  have f1 := ha.fr 1
  go_enter Tryz.func95, Tryz.ntmps95
  go_wp2
  go_ret
  exact ⟨rfl, (h.alloc _).alloc _, grow_alloc _ _ (World.grownBy_alloc _ _ _)⟩
set_option maxRecDepth 100000 in
theorem Done_bad (b : Nat) (s : ByteArray) (w : World) (h : Rd w b s true) :
    Calls Tryz.prog 95 #[.pointer (some ⟨b, 0, none⟩)] w fun e w' => e = .returned (.bool false) ∧ Rd w' b s true ∧ w.grownBy w' (some b) := by
  have hmf : ∀ (fn : Fn) (first cap : Array Value) (w : World), (Instr.makeFunc fn first cap).run Tryz.prog w = .ok (.func fn first cap) w := fun _ _ _ _ => rfl
  have hb := h.lt
  have ha := (h.alloc (.cells #[.pointer (some ⟨b, 0, none⟩)] 132)).alloc (.cells #[.bool false] 4)
  have c0 := ha.c0
  have c1 := ha.c1
  have f1 := ha.fr 1
  go_enter Tryz.func95, Tryz.ntmps95
  go_wp2
  go_ret
  exact ⟨rfl, ha, grow_alloc _ _ (World.grownBy_alloc _ _ _)⟩
set_option maxRecDepth 100000 in
theorem Done_nil (w : World) :
    Calls Tryz.prog 95 #[.pointer none] w fun e w' => e = .returned (.bool false) ∧ w.grownBy w' none := by
  have hmf : ∀ (fn : Fn) (first cap : Array Value) (w : World), (Instr.makeFunc fn first cap).run Tryz.prog w = .ok (.func fn first cap) w := fun _ _ _ _ => rfl
  go_enter Tryz.func95, Tryz.ntmps95
  go_wp2
  go_ret
  exact ⟨rfl, grow_alloc _ _ (World.grownBy_alloc _ _ _)⟩
theorem Left_any (b : Nat) (s : ByteArray) (bad : Bool) (w : World) (h : Rd w b s bad) (hs : s.size ≤ 1000000000000000) :
    Calls Tryz.prog 107 #[.pointer (some ⟨b, 0, none⟩)] w fun e w' => e = .returned (.int .i64 (rLeft s bad)) ∧ Rd w' b s bad ∧ w.grownBy w' (some b) := by
  cases bad with
  | true => exact Left_bad b s w h
  | false => exact Left_good b s w h hs
set_option maxRecDepth 100000 in
theorem Good_any (b : Nat) (s : ByteArray) (bad : Bool) (w : World) (h : Rd w b s bad) :
    Calls Tryz.prog 106 #[.pointer (some ⟨b, 0, none⟩)] w fun e w' => e = .returned (.bool !bad) ∧ Rd w' b s bad ∧ w.grownBy w' (some b) := by
  cases bad with
  | true => exact Good_bad b s w h
  | false => exact Good_good b s w h
set_option maxRecDepth 100000 in
theorem Done_any (b : Nat) (s : ByteArray) (bad : Bool) (w : World) (h : Rd w b s bad) :
    Calls Tryz.prog 95 #[.pointer (some ⟨b, 0, none⟩)] w fun e w' => e = .returned (.bool (rDone s bad)) ∧ Rd w' b s bad ∧ w.grownBy w' (some b) := by
  cases bad with
  | true => exact Done_bad b s w h
  | false => exact Done_good b s w h
end Go.Proofs.YtphljjgjpkdpmaaGreatDoor
/- pack.Read. -/
namespace Go.Proofs.YtphljjgjpkdpmaaGreatDoor
open Go.RowKit
set_option linter.unusedVariables false
set_option maxRecDepth 100000 in
theorem Read_any (s : ByteArray) (w : World) :
    Calls Tryz.prog 92 #[.string s] w fun e w' => ∃ b, e = .returned (.pointer (some ⟨b, 0, none⟩)) ∧ Rd w' b s false ∧ w.grownBy w' none ∧ w.heap.size ≤ b := by
  go_enter Tryz.func92, Tryz.ntmps92
  go_wp2
  go_ret
  exact ⟨w.heap.size, rfl, Rd.new _ _, World.grownBy_alloc _ _ _, Nat.le_refl _⟩
end Go.Proofs.YtphljjgjpkdpmaaGreatDoor
/- What the package pack's Reader does: Text. -/
namespace Go.Proofs.YtphljjgjpkdpmaaGreatDoor
open Go.RowKit
set_option linter.unusedVariables false
theorem Rd.other {w : World} {b : Nat} {s : ByteArray} {bad : Bool} (h : Rd w b s bad) {a : Addr} (ha : a.block ≠ b) (v : Value) : Rd (w.setCell a v) b s bad := by
  unfold Rd at h ⊢; rw [Below.heap_setCell _ _ _ _ (fun e => ha e.symm)]; exact h
set_option maxRecDepth 100000 in
theorem TextIn_any (b q p : Nat) (s : ByteArray) (bad : Bool) (w0 w : World) (h : Rd w b s bad) (hs : s.size ≤ 1000000000000000) (hp : w.cell? ⟨p, 0, none⟩ = some (.pointer (some ⟨b, 0, none⟩)))
    (x : Value) (hq : w.cell? ⟨q, 0, none⟩ = some x) (fq : w.frozen? ⟨q, 0, none⟩ = false) (hqb : q ≠ b) (hpb : p ≠ b) (hpq : p ≠ q) (hq0 : w0.heap.size ≤ q) (hg : w0.grownBy w (some b)) :
    Calls Tryz.prog 111 #[.pointer (some ⟨p, 0, none⟩), .pointer (some ⟨q, 0, none⟩)] w fun e w' => e = .returned (.tuple #[]) ∧ Rd w' b ((nextS s).extract (sizeN s) (nextS s).size) (sizeBad s) ∧ w0.grownBy w' (some b) ∧ w'.cell? ⟨q, 0, none⟩ = some (.string ((nextS s).extract 0 (sizeN s))) := by
  have hsz := sizeN_le s
  go_enter Tryz.func111, Tryz.ntmps111
  go_wp2_with fail
  refine (size_any b s bad w h hs).mono ?_
  rintro e w1 ⟨rfl, h1, hg1⟩
  have hqs := World.block_lt_of_cell? w _ hq
  have hps := World.block_lt_of_cell? w _ hp
  have p1 : w1.cell? ⟨p, 0, none⟩ = some (.pointer (some ⟨b, 0, none⟩)) := hg1.cell hp (by simp; omega)
  have q1 : w1.cell? ⟨q, 0, none⟩ = some x := hg1.cell hq (by simp; omega)
  have f1 : w1.frozen? ⟨q, 0, none⟩ = false := grow_fr hg1 fq hqs (by simp; omega)
  have c0 := h1.c0
  have g0 := h1.fr 0
  go_wp2_with fail
  have h2 := h1.other (a := ⟨q, 0, none⟩) hqb (.string ((nextS s).extract 0 (sizeN s)))
  have gg := grow_setnew (grow_same hg hg1) (a := ⟨q, 0, none⟩) hq0 (.string ((nextS s).extract 0 (sizeN s)))
  have p2 : (w1.setCell ⟨q, 0, none⟩ (.string ((nextS s).extract 0 (sizeN s)))).cell? ⟨p, 0, none⟩ = some (.pointer (some ⟨b, 0, none⟩)) := by
    rw [World.cell?_of_block (w := w1) (Below.heap_setCell _ _ _ _ hpq)]; exact p1
  have q2 : (w1.setCell ⟨q, 0, none⟩ (.string ((nextS s).extract 0 (sizeN s)))).cell? ⟨q, 0, none⟩ = some (.string ((nextS s).extract 0 (sizeN s))) := by
    simp [go_sem, q1]
  clear p1 q1 f1 c0 g0 hg1 h1
  generalize (w1.setCell ⟨q, 0, none⟩ (.string ((nextS s).extract 0 (sizeN s)))) = w2 at *
  have c0 := h2.c0
  have g0 := h2.fr 0
  go_region
  all_goals (go_end0)
  all_goals (refine ⟨rfl, ?_, ?_, ?_⟩)
  all_goals (first | (exact h2.set0 _) | (exact grow_drawn (grow_same gg (grow_set _ _ _))) | (exact (World.cell?_of_block (w := w2) (Below.heap_setCell _ _ _ _ hqb)).trans q2))
set_option maxRecDepth 100000 in
theorem Text_good (b : Nat) (s : ByteArray) (w : World) (h : Rd w b s false) (hs : s.size ≤ 1000000000000000) :
    Calls Tryz.prog 94 #[.pointer (some ⟨b, 0, none⟩)] w fun e w' => e = .returned (.string ((nextS s).extract 0 (sizeN s))) ∧ Rd w' b ((nextS s).extract (sizeN s) (nextS s).size) (sizeBad s) ∧ w.grownBy w' (some b) := by
  have hmf : ∀ (fn : Fn) (first cap : Array Value) (w : World), (Instr.makeFunc fn first cap).run Tryz.prog w = .ok (.func fn first cap) w := fun _ _ _ _ => rfl
  have hb := h.lt
  have ha := (h.alloc (.cells #[.pointer (some ⟨b, 0, none⟩)] 132)).alloc (.cells #[.string ⟨#[]⟩] 9)
  have c1 := ha.c1
  have T := TextIn_any b (w.heap.size + 1) w.heap.size s false w _ ha hs (two_cell0 _ _ _ _ _) _ (two_cell1 _ _ _ _ _) (two_fr1 _ _ _ _ _) (by omega) (by omega) (by omega) (by omega) (grow_alloc _ _ (World.grownBy_alloc _ _ _))
  have HT := Lib.hid T
  clear T
  go_enter Tryz.func94, Tryz.ntmps94
  go_wp2_with (first | (go_at_call 111; refine HT.out.mono ?_; rintro e w1 ⟨rfl, h1, hg1, q1⟩) | go_in)
  go_ret
  exact ⟨rfl, h1, hg1⟩
set_option maxRecDepth 100000 in
theorem Text_bad (b : Nat) (s : ByteArray) (w : World) (h : Rd w b s true) :
    Calls Tryz.prog 94 #[.pointer (some ⟨b, 0, none⟩)] w fun e w' => e = .returned (.string ⟨#[]⟩) ∧ Rd w' b s true ∧ w.grownBy w' (some b) := by
  have hmf : ∀ (fn : Fn) (first cap : Array Value) (w : World), (Instr.makeFunc fn first cap).run Tryz.prog w = .ok (.func fn first cap) w := fun _ _ _ _ => rfl
  have hb := h.lt
  have ha := (h.alloc (.cells #[.pointer (some ⟨b, 0, none⟩)] 132)).alloc (.cells #[.string ⟨#[]⟩] 9)
  have c1 := ha.c1
  go_enter Tryz.func94, Tryz.ntmps94
  go_wp2
  go_ret
  exact ⟨rfl, ha, grow_alloc _ _ (World.grownBy_alloc _ _ _)⟩
set_option maxRecDepth 100000 in
theorem Text_nil (w : World) :
    Calls Tryz.prog 94 #[.pointer none] w fun e w' => e = .returned (.string ⟨#[]⟩) ∧ w.grownBy w' none := by
  have hmf : ∀ (fn : Fn) (first cap : Array Value) (w : World), (Instr.makeFunc fn first cap).run Tryz.prog w = .ok (.func fn first cap) w := fun _ _ _ _ => rfl
  go_enter Tryz.func94, Tryz.ntmps94
  go_wp2
  go_ret
  exact ⟨rfl, grow_alloc _ _ (World.grownBy_alloc _ _ _)⟩
set_option maxRecDepth 100000 in
theorem Text_any2 (b : Nat) (s : ByteArray) (bad : Bool) (w : World) (h : Rd w b s bad) (hs : s.size ≤ 1000000000000000) :
    Calls Tryz.prog 94 #[.pointer (some ⟨b, 0, none⟩)] w fun e w' => e = .returned (.string (rText s bad)) ∧ Rd w' b (rTextS s bad) (rCountB s bad) ∧ w.grownBy w' (some b) := by
  cases bad with
  | true => exact Text_bad b s w h
  | false => exact Text_good b s w h hs
end Go.Proofs.YtphljjgjpkdpmaaGreatDoor
/- The check sum as plain functions: a register of 32 bits. -/
namespace Go.Proofs.YtphljjgjpkdpmaaGreatDoor
open Go.RowKit
set_option linter.unusedVariables false
/-- The polynomial. -/
def poly : BitVec 32 := 0xedb88320#32
/-- A register is moved down by a bit. -/
def mv (x : BitVec 32) : BitVec 32 := (x >>> 1) ^^^ (if x.getLsbD 0 then poly else 0#32)
theorem mv_xor (x y : BitVec 32) : mv (x ^^^ y) = mv x ^^^ mv y := by
  unfold mv
  rw [BitVec.ushiftRight_xor_distrib, BitVec.getLsbD_xor]
  apply BitVec.eq_of_getLsbD_eq
  intro i hi
  simp only [BitVec.getLsbD_xor]
  generalize (x >>> 1).getLsbD i = p
  generalize (y >>> 1).getLsbD i = q
  cases x.getLsbD 0 <;> cases y.getLsbD 0 <;> simp <;> cases p <;> cases q <;> cases poly.getLsbD i <;> rfl
/-- Moved down k times. -/
def mvs : Nat → BitVec 32 → BitVec 32
  | 0, x => x
  | k + 1, x => mvs k (mv x)
theorem mvs_xor (k : Nat) : ∀ x y : BitVec 32, mvs k (x ^^^ y) = mvs k x ^^^ mvs k y := by
  induction k with
  | zero => intro x y; rfl
  | succ k ih => intro x y; rw [mvs, mvs, mvs, mv_xor, ih]
theorem mvs_add (j k : Nat) : ∀ x : BitVec 32, mvs (j + k) x = mvs k (mvs j x) := by
  induction j with
  | zero => intro x; rw [Nat.zero_add]; rfl
  | succ j ih => intro x; rw [Nat.succ_add, mvs, ih, mvs]
theorem mv_zero : mv 0#32 = 0#32 := by decide
theorem mvs_zero (k : Nat) : mvs k 0#32 = 0#32 := by
  induction k with
  | zero => rfl
  | succ k ih => rw [mvs, mv_zero, ih]
theorem mv_inj {x : BitVec 32} (h : mv x = 0#32) : x = 0#32 := by
  have hp : poly.getLsbD 31 = true := by decide
  have h31 : (mv x).getLsbD 31 = false := by rw [h]; decide
  unfold mv at h h31
  rw [BitVec.getLsbD_xor] at h31
  have hs : (x >>> 1).getLsbD 31 = false := by rw [BitVec.getLsbD_ushiftRight]; exact BitVec.getLsbD_of_ge _ _ (by omega)
  rw [hs, Bool.false_xor] at h31
  cases h0 : x.getLsbD 0 with
  | true => rw [h0, if_pos rfl, hp] at h31; cases h31
  | false =>
    rw [h0] at h
    simp at h
    apply BitVec.eq_of_getLsbD_eq
    intro i hi
    rcases i with _ | i
    · rw [h0]; simp
    · have := congrArg (fun z => z.getLsbD i) h
      simp only [BitVec.getLsbD_ushiftRight] at this
      rw [Nat.add_comm] at this
      rw [this]; simp
theorem mvs_inj (k : Nat) : ∀ x : BitVec 32, mvs k x = 0#32 → x = 0#32 := by
  induction k with
  | zero => intro x h; exact h
  | succ k ih => intro x h; exact mv_inj (ih _ h)
/-- Bits that stand from bit k on only move. -/
theorem mv_low {x : BitVec 32} (h : x.getLsbD 0 = false) : mv x = x >>> 1 := by unfold mv; rw [h]; simp
theorem mvs_low : ∀ (k : Nat) (x : BitVec 32), (∀ i, i < k → x.getLsbD i = false) → mvs k x = x >>> k
  | 0, x, _ => by simp [mvs]
  | k + 1, x, h => by
    rw [mvs, mv_low (h 0 (by omega)), mvs_low k _ (fun i hi => by rw [BitVec.getLsbD_ushiftRight, Nat.add_comm]; exact h (i + 1) (by omega)), ← BitVec.shiftRight_add, Nat.add_comm 1 k]
/-- The table of four bits. -/
def tab4 (x : BitVec 32) : BitVec 32 := mvs 4 (x &&& 15#32)
theorem mvs4 (x : BitVec 32) : mvs 4 x = (x >>> 4) ^^^ tab4 x := by
  have hx : x = (x &&& ~~~15#32) ^^^ (x &&& 15#32) := by
    apply BitVec.eq_of_getLsbD_eq
    intro i hi
    simp only [BitVec.getLsbD_xor, BitVec.getLsbD_and, BitVec.getLsbD_not]
    cases x.getLsbD i <;> cases (15#32).getLsbD i <;> simp [hi]
  have h15 : ∀ i, i < 4 → (15#32).getLsbD i = true := by decide
  have hlow : mvs 4 (x &&& ~~~15#32) = (x &&& ~~~15#32) >>> 4 := mvs_low 4 _ (fun i hi => by
    rw [BitVec.getLsbD_and, BitVec.getLsbD_not, h15 i hi]; simp)
  have hsh : (x &&& ~~~15#32) >>> 4 = x >>> 4 := by
    apply BitVec.eq_of_getLsbD_eq
    intro i hi
    rw [BitVec.getLsbD_ushiftRight, BitVec.getLsbD_ushiftRight, BitVec.getLsbD_and, BitVec.getLsbD_not]
    by_cases h : 4 + i < 32
    · have h15' : (15#32).getLsbD (4 + i) = false := by
        have : ∀ j, j < 32 → 4 ≤ j → (15#32).getLsbD j = false := by decide
        exact this _ h (by omega)
      rw [h15']; simp [h]
    · rw [BitVec.getLsbD_of_ge _ _ (by omega)]; simp
  conv => lhs; rw [hx, mvs_xor, hlow, hsh]
  rfl
/-- A byte is taken. -/
def takeB (r : BitVec 32) (b : UInt8) : BitVec 32 := mvs 8 (r ^^^ BitVec.ofNat 32 b.toNat)
def takes (r : BitVec 32) (l : List UInt8) : BitVec 32 := l.foldl takeB r
def more (s : BitVec 32) (l : List UInt8) : BitVec 32 := ~~~ takes (~~~ s) l
end Go.Proofs.YtphljjgjpkdpmaaGreatDoor
/- What the package crc does. -/
namespace Go.Proofs.YtphljjgjpkdpmaaGreatDoor
open Go.RowKit
set_option linter.unusedVariables false
/-- The table's numbers. -/
def tabN (j : Nat) : Nat := (mvs 4 (BitVec.ofNat 32 j)).toNat
/-- The table lies as it was laid. -/
def Mv (w : World) : Prop := ∀ j, j < 16 → w.cell? ⟨3, j, none⟩ = some (.int .u32 (tabN j : Nat))
theorem Mv.kept {w w' : World} (h : Mv w) (g : w.grownBy w' none) : Mv w' := fun j hj => by
  rw [← h j hj]
  exact World.cell?_of_block (g.block _ (World.block_lt_of_cell? w _ (h j hj)) (by simp))
theorem u32_lt (x : BitVec 32) : x.toNat < 4294967296 := x.isLt
theorem xor_u32 (x y : BitVec 32) : bits .xor .u32 (x.toNat : Int) (y.toNat : Int) = ((x ^^^ y).toNat : Int) := by
  rw [u32_xor_nat _ _ x.isLt y.isLt, BitVec.toNat_xor]
theorem and15 (x : BitVec 32) : bits .and .u32 (x.toNat : Int) 15 = ((x.toNat % 16 : Nat) : Int) := by
  have h := u32_and_nat x.toNat 15 x.isLt (by omega)
  rw [nat_mask4] at h
  exact h
theorem half_step (x : BitVec 32) : bits .xor .u32 ((x.toNat : Int) / 16) (tabN (x.toNat % 16) : Nat) = ((mvs 4 x).toNat : Int) := by
  have e1 : (x.toNat : Int) / (16 : Int) = (((x >>> 4).toNat : Nat) : Int) := by
    rw [BitVec.toNat_ushiftRight, Nat.shiftRight_eq_div_pow]; omega
  have e2 : BitVec.ofNat 32 (x.toNat % 16) = x &&& 15#32 := by
    apply BitVec.eq_of_toNat_eq
    rw [BitVec.toNat_and, BitVec.toNat_ofNat]
    have : (15#32).toNat = 15 := rfl
    rw [this, nat_mask4]
    omega
  rw [e1, tabN, e2, xor_u32, mvs4 x]
  rfl
set_option maxRecDepth 100000 in
set_option maxHeartbeats 1000000 in
theorem take_any (x : BitVec 32) (s : ByteArray) (w : World) (hm : Mv w) (hs : s.size ≤ maxLen) :
    Calls Tryz.prog 152 #[.int .u32 x.toNat, .string s] w fun e w' => e = .returned (.int .u32 (takes x s.data.toList).toNat) ∧ w = w' := by
  unfold maxLen at hs
  have hs' : (s.size : Int) ≤ 9223372036854775807 := by omega
  clear hs
  go_enter Tryz.func152, Tryz.ntmps152
  go_wp2
  go_loop [0, 8] (fun r i => ∃ k : Nat, k ≤ s.size ∧ i = .int .i64 k ∧ r = .int .u32 (takes x (s.data.toList.take k)).toNat) (fun _ i => s.size - (intOf i).toNat)
  case atStart => exact ⟨0, Nat.zero_le _, rfl, rfl⟩
  case round =>
    obtain ⟨k, hk, rfl, rfl⟩ := hrel
    by_cases hlt : k < s.size
    · obtain ⟨y, hy⟩ : ∃ y, y = takes x (s.data.toList.take k) := ⟨_, rfl⟩
      have hb := s[k].toNat_lt
      have ht : takes x (s.data.toList.take (k + 1)) = mvs 4 (mvs 4 (y ^^^ BitVec.ofNat 32 s[k].toNat)) := by
        have hl : k < s.data.toList.length := by rw [Array.length_toList]; exact hlt
        rw [List.take_succ_eq_append_getElem hl, takes, List.foldl_append, List.foldl_cons, List.foldl_nil, ← takes, ← hy, takeB, ← mvs_add]
        rfl
      obtain ⟨z, hz⟩ : ∃ z, z = y ^^^ BitVec.ofNat 32 s[k].toNat := ⟨_, rfl⟩
      have h1 : bits .xor .u32 (y.toNat : Int) (s[k].toNat : Int) = (z.toNat : Int) := by
        have e : (BitVec.ofNat 32 s[k].toNat).toNat = s[k].toNat := by rw [BitVec.toNat_ofNat]; omega
        rw [hz, ← xor_u32, e]
      obtain ⟨z1, hz1⟩ : ∃ z1, z1 = mvs 4 z := ⟨_, rfl⟩
      obtain ⟨z2, hz2⟩ : ∃ z2, z2 = mvs 4 z1 := ⟨_, rfl⟩
      have h2 := and15 z
      have h3 := half_step z
      have h4 := and15 z1
      have h5 := half_step z1
      rw [← hz1] at h3
      rw [← hz2] at h5
      have HT : Hid (takes x (s.data.toList.take (k + 1)) = z2) := by show _ = _; rw [ht, ← hz, ← hz1, ← hz2]
      have c1 := hm (z.toNat % 16) (by omega)
      have c2 := hm (z1.toNat % 16) (by omega)
      have bz := u32_lt z
      have bz1 := u32_lt z1
      have by_ := u32_lt y
      rw [← hy]
      clear ht hz hz1 hz2 hy
      go_wp2
      refine ⟨⟨k + 1, by omega, by go_num, by rw [HT.out]⟩, by simp [intOf]; omega⟩
    · obtain rfl : k = s.size := by omega
      have ht : Hid (s.data.toList.take s.size = s.data.toList) := by
        show _ = _
        exact List.take_of_length_le (by rw [Array.length_toList]; exact Nat.le_refl _)
      go_wp2
      go_ret
      exact ⟨by show Ending.returned (Value.int .u32 _) = _; rw [ht.out], rfl⟩
end Go.Proofs.YtphljjgjpkdpmaaGreatDoor
