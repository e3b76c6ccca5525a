/- A region that draws its order, in which calls that change what others read come in a forced order: the class of worlds is told by how many of them have been. -/
import Derived.Test.YtgcdfoadegojcaaDoorRelU
namespace Go.Proofs.YtgcdfoadegojcaaDoor
open Go.RowKit
set_option linter.unusedVariables false
section
variable {P : Program} {ops : Array Oper} {I : Nat → World → Prop} {R : World → World → Prop} {cs : List Nat}
/-- How many of the first calls have been. -/
def cntC (listed : Array Bool) : List Nat → Nat
  | [] => 0
  | c :: cs => if listed.getD c false = true then 1 + cntC listed cs else 0
theorem cntC_eq {listed : Array Bool} : ∀ (cs : List Nat) (j : Nat), (∀ k, k < j → ∃ c, cs[k]? = some c ∧ listed.getD c false = true) → (∀ c, cs[j]? = some c → listed.getD c false = false) → cntC listed cs = j
  | [], j, h, _ => by
    cases j with
    | zero => rfl
    | succ j => obtain ⟨c, hc, _⟩ := h 0 (by omega); cases hc
  | c :: cs, j, h, h' => by
    cases j with
    | zero => unfold cntC; rw [if_neg (by rw [h' c rfl]; simp)]
    | succ j =>
      obtain ⟨c', hc, hl⟩ := h 0 (by omega)
      injection hc with hc
      subst hc
      unfold cntC
      rw [if_pos hl, cntC_eq cs j (fun k hk => by simpa using h (k + 1) (by omega)) (fun c hc => h' c (by simpa using hc))]
      omega
theorem cntC_congr {listed listed' : Array Bool} : ∀ (cs : List Nat), (∀ c ∈ cs, listed'.getD c false = listed.getD c false) → cntC listed' cs = cntC listed cs
  | [], _ => rfl
  | c :: cs, h => by
    unfold cntC
    rw [h c (List.mem_cons_self ..), cntC_congr cs (fun c' hc => h c' (List.mem_cons_of_mem _ hc))]
/-- The calls wait for one another, and are not guarded. -/
def callsOk (ops : Array Oper) : List Nat → Bool
  | [] => true
  | [c] => (match ops[c]? with | none => false | some o => o.guard.isNone)
  | c :: d :: cs => (match ops[c]? with | none => false | some o => o.guard.isNone) && onAt ops d c && callsOk ops (d :: cs)
theorem callsOk_guard : ∀ (cs : List Nat), callsOk ops cs = true → ∀ c ∈ cs, ∀ o, ops[c]? = some o → o.guard = none
  | [], _, c, hc, _, _ => by cases hc
  | [c], h, c', hc, o, ho => by
    rw [List.mem_singleton] at hc
    subst hc
    unfold callsOk at h
    rw [ho] at h
    simpa using h
  | c :: d :: cs, h, c', hc, o, ho => by
    unfold callsOk at h
    rw [Bool.and_eq_true, Bool.and_eq_true] at h
    rcases List.mem_cons.1 hc with rfl | hc
    · rw [ho] at h
      simpa using h.1.1
    · exact callsOk_guard (d :: cs) h.2 c' hc o ho
theorem callsOk_next : ∀ (cs : List Nat), callsOk ops cs = true → ∀ (k : Nat) c d, cs[k]? = some c → cs[k + 1]? = some d → onAt ops d c = true
  | [], _, k, c, d, hc, _ => by simp at hc
  | [x], _, k, c, d, _, hd => by simp at hd
  | x :: y :: cs, h, k, c, d, hc, hd => by
    unfold callsOk at h
    rw [Bool.and_eq_true, Bool.and_eq_true] at h
    cases k with
    | zero =>
      simp at hc hd
      subst hc hd
      exact h.1.2
    | succ k => exact callsOk_next (y :: cs) h.2 k c d (by simpa using hc) (by simpa using hd)
/-- The walk in the order of the text: of each operation what it leaves is named. -/
def wpRelC (P : Program) (ops : Array Oper) (I : Nat → World → Prop) (R : World → World → Prop) (a0 : Act) (cs : List Nat) (K : List (Value → World → Prop) → Prop) : List Oper → List (Value → World → Prop) → Prop
  | [], Vs => K Vs
  | o :: rest, Vs => ∃ V : Value → World → Prop, (∀ v w w', R w w' → V v w → V v w') ∧
      (match cs.idxOf? Vs.length with
        | none => ∀ j w, I j w → relDeps ops Vs w o.after.toList (relStep P ops o (I j) R V w) a0
        | some j => ∀ w, I j w → relDeps ops Vs w o.after.toList (relStep P ops o (I (j + 1)) R V w) a0) ∧ wpRelC P ops I R a0 cs K rest (Vs ++ [V])
theorem wpRelC_nil {a0 : Act} {K : List (Value → World → Prop) → Prop} {Vs : List (Value → World → Prop)} (h : K Vs) : wpRelC P ops I R a0 cs K [] Vs := h
theorem wpRelC_step {a0 : Act} {K : List (Value → World → Prop) → Prop} {Vs : List (Value → World → Prop)} {o : Oper} {rest : List Oper} (V : Value → World → Prop) (hc : cs.idxOf? Vs.length = none) (h1 : ∀ v w w', R w w' → V v w → V v w')
    (h2 : ∀ j w, I j w → relDeps ops Vs w o.after.toList (relStep P ops o (I j) R V w) a0) (h3 : wpRelC P ops I R a0 cs K rest (Vs ++ [V])) : wpRelC P ops I R a0 cs K (o :: rest) Vs := ⟨V, h1, by rw [hc]; exact h2, h3⟩
theorem wpRelC_det {a0 : Act} {K : List (Value → World → Prop) → Prop} {Vs : List (Value → World → Prop)} {o : Oper} {rest : List Oper} (hc : cs.idxOf? Vs.length = none)
    (h : ∃ c : Value, (∀ j w, I j w → relDeps ops Vs w o.after.toList (relStep P ops o (I j) R (fun v _ => v = c) w) a0) ∧ wpRelC P ops I R a0 cs K rest (Vs ++ [fun v _ => v = c])) : wpRelC P ops I R a0 cs K (o :: rest) Vs :=
  let ⟨_, h2, h3⟩ := h
  ⟨_, fun _ _ _ _ h => h, by rw [hc]; exact h2, h3⟩
/-- The j-th of the calls. -/
theorem wpRelC_call {a0 : Act} {K : List (Value → World → Prop) → Prop} {Vs : List (Value → World → Prop)} {o : Oper} {rest : List Oper} (j : Nat) (hc : cs.idxOf? Vs.length = some j)
    (h : ∃ c : Value, (∀ w, I j w → relDeps ops Vs w o.after.toList (relStep P ops o (I (j + 1)) R (fun v _ => v = c) w) a0) ∧ wpRelC P ops I R a0 cs K rest (Vs ++ [fun v _ => v = c])) : wpRelC P ops I R a0 cs K (o :: rest) Vs :=
  let ⟨_, h2, h3⟩ := h
  ⟨_, fun _ _ _ _ h => h, by rw [hc]; exact h2, h3⟩
theorem wpRelC_callV {a0 : Act} {K : List (Value → World → Prop) → Prop} {Vs : List (Value → World → Prop)} {o : Oper} {rest : List Oper} (j : Nat) (V : Value → World → Prop) (hc : cs.idxOf? Vs.length = some j) (h1 : ∀ v w w', R w w' → V v w → V v w')
    (h2 : ∀ w, I j w → relDeps ops Vs w o.after.toList (relStep P ops o (I (j + 1)) R V w) a0) (h3 : wpRelC P ops I R a0 cs K rest (Vs ++ [V])) : wpRelC P ops I R a0 cs K (o :: rest) Vs := ⟨V, h1, by rw [hc]; exact h2, h3⟩
/-- What is asked of operation i. -/
def StepC (P : Program) (ops : Array Oper) (I : Nat → World → Prop) (R : World → World → Prop) (a0 : Act) (cs : List Nat) (Vs : List (Value → World → Prop)) (V : Value → World → Prop) (o : Oper) (i : Nat) : Prop :=
  match cs.idxOf? i with
  | none => ∀ j w, I j w → relDeps ops Vs w o.after.toList (relStep P ops o (I j) R V w) a0
  | some j => ∀ w, I j w → relDeps ops Vs w o.after.toList (relStep P ops o (I (j + 1)) R V w) a0
structure RelAllC (P : Program) (ops : Array Oper) (m : Nat) (I : Nat → World → Prop) (R : World → World → Prop) (a0 : Act) (cs : List Nat) (Vf : List (Value → World → Prop)) : Prop where
  len : Vf.length = m
  stable : ∀ V ∈ Vf, ∀ v w w', R w w' → V v w → V v w'
  step : ∀ (i : Nat) o, i < m → ops[i]? = some o → StepC P ops I R a0 cs (Vf.take i) (Vf.getD i (fun _ _ => False)) o i
theorem relAllC_of (a0 : Act) (m : Nat) {K : List (Value → World → Prop) → Prop} : ∀ (l : List Oper) (Vs : List (Value → World → Prop)), (∀ j, j < l.length → l[j]? = ops[Vs.length + j]?) → Vs.length + l.length = m →
    (∀ V ∈ Vs, ∀ v w w', R w w' → V v w → V v w') → (∀ (i : Nat) o, i < Vs.length → ops[i]? = some o → StepC P ops I R a0 cs (Vs.take i) (Vs.getD i (fun _ _ => False)) o i) →
    wpRelC P ops I R a0 cs K l Vs → ∃ Vf, RelAllC P ops m I R a0 cs Vf ∧ K Vf
  | [], Vs, _, hl, hs, hst, h => ⟨Vs, ⟨by simpa using hl, hs, fun i o hi ho => hst i o (by simp at hl; omega) ho⟩, h⟩
  | o :: l, Vs, ho, hl, hs, hst, ⟨V, h1, h2, h3⟩ => by
    refine relAllC_of a0 m l (Vs ++ [V]) (fun j hj => ?_) (by simp at hl ⊢; omega) (fun V' hV' => ?_) (fun i o' hi ho' => ?_) h3
    · have := ho (j + 1) (by simp; omega)
      rw [List.getElem?_cons_succ] at this
      rw [this, List.length_append, List.length_singleton]
      congr 1; omega
    · rcases List.mem_append.1 hV' with h | h
      · exact hs V' h
      · rw [List.mem_singleton] at h; rw [h]; exact h1
    · rw [List.length_append, List.length_singleton] at hi
      by_cases hlt : i < Vs.length
      · have e1 : (Vs ++ [V]).take i = Vs.take i := List.take_append_of_le_length (by omega)
        have e2 : (Vs ++ [V]).getD i (fun _ _ => False) = Vs.getD i (fun _ _ => False) := by
          rw [List.getD, List.getD, List.getElem?_append_left hlt]
        rw [e1, e2]
        exact hst i o' hlt ho'
      · obtain rfl : i = Vs.length := by omega
        have e1 : (Vs ++ [V]).take Vs.length = Vs := List.take_left
        have e2 : (Vs ++ [V]).getD Vs.length (fun _ _ => False) = V := by
          rw [List.getD, List.getElem?_append_right (Nat.le_refl _)]; simp
        rw [e1, e2]
        have h0 := ho 0 (by simp)
        simp at h0
        rw [ho'] at h0
        injection h0 with h0
        subst h0
        exact h2
theorem wpOp_of_relG {i : Nat} {o : Oper} (hi : ops[i]? = some o) (hg : o.guard = none) {a : Act} {w : World} {J : World → Prop} {V : Value → World → Prop} {K : Act → World → Prop} {Q : Exit → Act → World → Prop}
    (h : relStep P ops o J R V w a) (hK : ∀ v w', V v w' → J w' → R w w' → K (a.put o.dst v) w') : wpOp P ops Q i K a w := by
  have hw : Region.wanted o (yielded ops a.tmps) = true := by simp [Region.wanted, hg]
  unfold wpOp
  simp only [hi]
  unfold relStep at h
  rw [if_pos hw] at h ⊢
  refine .inl ?_
  unfold Oper.wp
  generalize (execOp a.eval o).run P w = r at h
  cases r with
  | ok n w' =>
    cases n <;> simp only [relUpon] at h <;> simp only [Oper.upon]
    case value u => exact hK _ _ h.1 h.2.1 h.2.2
    case skip => exact hK _ _ h.1 h.2.1 h.2.2
    case enter f args => exact h.mono fun e w'' ⟨u, he, hp⟩ => by subst he; exact hK _ _ hp.1 hp.2.1 hp.2.2
  | halt x w' => exact h.elim
theorem idxOf_some {cs : List Nat} {i j : Nat} (h : cs.idxOf? i = some j) : cs[j]? = some i := by
  rw [List.idxOf?] at h
  obtain ⟨hj, h1, _⟩ := List.findIdx?_eq_some_iff_getElem.1 h
  rw [List.getElem?_eq_getElem hj]
  simpa using h1
theorem idxOf_none {cs : List Nat} {i : Nat} (h : cs.idxOf? i = none) : i ∉ cs := by
  rw [List.idxOf?, List.findIdx?_eq_none_iff] at h
  intro hm
  simpa using h i hm
theorem relC_sound {a0 : Act} {m : Nat} {Vf : List (Value → World → Prop)} {Q : Exit → Act → World → Prop} (hok : relOkM ops m a0.tmps.size = true) (ht : tailsOk ops m = true) (hcs : callsOk ops cs = true) (hcm : ∀ c ∈ cs, c < m) (hA : RelAllC P ops m I R a0 cs Vf) (hR : ∀ w, R w w)
    (hend : ∀ a w, I cs.length w → a.defers = a0.defers → a.tmps.size = a0.tmps.size → (∀ t, t ∉ (ops.toList.take m).filterMap (·.dst) → a.tmps[t]? = a0.tmps[t]?) →
      (∀ (j : Nat) p, j < m → ops[j]? = some p → ∃ v, (Vf.getD j (fun _ _ => False)) v w ∧ ∀ d, p.dst = some d → a.tmps[d]? = some v) → wpList P ops Q (ops.toList.drop m) a w) :
    ∀ (fuel : Nat) (listed : Array Bool) (a : Act) (w : World), listed.toList.count false ≤ fuel → (∀ j, m ≤ j → j < ops.size → listed.getD j true = false) → (∀ (i : Nat) o, ops[i]? = some o → listed.getD i false = true → ∀ e ∈ o.after, Region.binds .any e = true → listed.getD e.on false = true) → I (cntC listed cs) w → a.defers = a0.defers → a.tmps.size = a0.tmps.size → listed.size = ops.size →
      (∀ t, t ∉ (ops.toList.take m).filterMap (·.dst) → a.tmps[t]? = a0.tmps[t]?) →
      (∀ (j : Nat) p, j < m → ops[j]? = some p → listed.getD j false = true → ∃ v, (Vf.getD j (fun _ _ => False)) v w ∧ ∀ d, p.dst = some d → a.tmps[d]? = some v) → wpAny P .any ops Q fuel listed a w := by
  obtain ⟨hd, hn, hsel, hpart⟩ := relOkM_parts hok
  obtain ⟨hmsz, hwait, hch⟩ := tailsOk_parts ht
  have noReady : ∀ (listed : Array Bool), listed.getD m true = false → listed.size = ops.size → Region.ready .any ops listed = [] → False := by
    intro listed hm hls hr
    have all : ∀ j, j < ops.size → listed.getD j false = true := by
      intro j
      induction j using Nat.strongRecOn with
      | _ j ih =>
        intro hj
        by_cases hf : listed.getD j false = true
        · exact hf
        · exfalso
          have hjl : j < listed.size := by rw [hls]; exact hj
          have hft : listed.getD j true = false := by
            simp [Array.getElem?_eq_getElem hjl] at hf ⊢
            exact hf
          have : j ∈ Region.ready .any ops listed := mem_ready.2 ⟨hft, ops[j], Array.getElem?_eq_getElem hj, fun e he hb => by
            have := (hpart j _ (Array.getElem?_eq_getElem hj)).1 e he hb
            exact ih e.on this (by omega)⟩
          rw [hr] at this
          cases this
    have h1 := all m (by omega)
    have hml := getD_false_of hm
    simp [Array.getElem?_eq_getElem hml] at hm h1
    rw [hm] at h1; cases h1
  intro fuel
  induction fuel with
  | zero =>
    intro listed a w hc hm0 _ hI _ _ hls _ _
    exfalso
    have hm := hm0 m (Nat.le_refl _) hmsz
    have hml := getD_false_of hm
    have hz : listed.toList.count false = 0 := by omega
    rw [List.count_eq_zero] at hz
    apply hz
    have e : listed[m] = false := by simpa [Array.getElem?_eq_getElem hml] using hm
    rw [← e]
    simp
  | succ fuel ih =>
    intro listed a w hc hm hdown hI hdef hsize hls hrest hvals
    by_cases hmr : m ∈ Region.ready .any ops listed
    · obtain ⟨_, om, hom, hafterm⟩ := mem_ready.1 hmr
      have hall : ∀ d j, m - j ≤ d → j < m → listed.getD j false = true := by
        intro d
        induction d with
        | zero => intro j h1 h2; omega
        | succ d ihd =>
          intro j h1 h2
          obtain ⟨i, hji, him, hon⟩ := hwait j h2
          obtain ⟨o, ho, e, he, hb, hej⟩ := onAt_parts hon
          rcases Nat.eq_or_lt_of_le him with rfl | him
          · rw [hom] at ho
            injection ho with ho
            subst ho
            rw [← hej]; exact hafterm e he hb
          · have := ihd i (by omega) him
            rw [← hej]; exact hdown i o ho this e he hb
      exact chain_sound (fun i o hi => (hpart i o hi).1) hch (fuel + 1) m listed a w (Nat.le_refl _) hls (fun j hj _ => hall _ j (Nat.le_refl _) hj) hm hc (hend a w (by
        have e : cntC listed cs = cs.length := cntC_eq cs cs.length (fun k hk => ⟨cs[k], List.getElem?_eq_getElem hk, hall _ _ (Nat.le_refl _) (hcm _ (List.getElem_mem hk))⟩) (fun c hc => by rw [List.getElem?_eq_none (Nat.le_refl _)] at hc; cases hc)
        rw [e] at hI; exact hI) hdef hsize hrest (fun j p hj hp => hvals j p hj hp (hall _ j (Nat.le_refl _) hj)))
    refine ⟨fun hr => (noReady listed (hm m (Nat.le_refl _) hmsz) hls hr).elim, fun i hi => ?_⟩
    have him : i ≠ m := fun e => hmr (e ▸ hi)
    obtain ⟨h0, o, ho, hafter⟩ := mem_ready.1 hi
    have hil := getD_false_of h0
    have hlt : i < ops.size := (Array.getElem?_eq_some_iff.1 ho).1
    have him' : i < m := by
      rcases Nat.lt_or_ge i m with h | h
      · exact h
      · exfalso
        obtain ⟨o', ho', e, he, hb, hon⟩ := onAt_parts (hch (i - 1) (by omega) (by omega))
        rw [show i - 1 + 1 = i by omega, ho] at ho'
        injection ho' with ho'
        subst ho'
        have h1 := hafter e he hb
        rw [hon] at h1
        have h2 := hm (i - 1) (by omega) (by omega)
        have hjl : i - 1 < listed.size := by omega
        simp [Array.getElem?_eq_getElem hjl] at h1 h2
        rw [h2] at h1; cases h1
    obtain ⟨hback, hlook⟩ := hpart i o ho
    have hvs : ∃ vs : Nat → Value, ∀ (j : Nat) p, j < m → ops[j]? = some p → listed.getD j false = true → (Vf.getD j (fun _ _ => False)) (vs j) w ∧ ∀ d, p.dst = some d → a.tmps[d]? = some (vs j) := by
      refine Classical.axiomOfChoice (r := fun j v => ∀ p, j < m → ops[j]? = some p → listed.getD j false = true → (Vf.getD j (fun _ _ => False)) v w ∧ ∀ d, p.dst = some d → a.tmps[d]? = some v) fun j => ?_
      cases hp : ops[j]? with
      | none => exact ⟨undef, fun p _ h => by cases h⟩
      | some p =>
        by_cases hl : listed.getD j false = true
        · by_cases hjm : j < m
          · obtain ⟨v, h1, h2⟩ := hvals j p hjm hp hl
            exact ⟨v, fun p' _ h _ => by injection h with h; subst h; exact ⟨h1, h2⟩⟩
          · exact ⟨undef, fun p' h => absurd h hjm⟩
        · exact ⟨undef, fun p' _ _ h => absurd h hl⟩
    obtain ⟨vs, hvs⟩ := hvs
    have hlisted : ∀ e ∈ o.after.toList, useEdge e = true → listed.getD e.on false = true := fun e he hu => hafter e (by simpa using he) (useEdge_binds hu)
    have hbk : ∀ e ∈ o.after.toList, useEdge e = true → e.on < i := fun e he hu => hback e (by simpa using he) (useEdge_binds hu)
    have hJ : ∃ J : World → Prop, relDeps ops (Vf.take i) w o.after.toList (relStep P ops o J R (Vf.getD i (fun _ _ => False)) w) a0 ∧ (∀ w', J w' → I (cntC (listed.setIfInBounds i true) cs) w') ∧ (J w ∨ o.guard = none) := by
      have hst := hA.step i o him' ho
      unfold StepC at hst
      cases hix : cs.idxOf? i with
      | none =>
        rw [hix] at hst
        refine ⟨_, hst _ w hI, fun w' hw' => ?_, .inl hI⟩
        rw [cntC_congr cs (fun c hc => getD_set_ne false (by rintro rfl; exact idxOf_none hix hc))]
        exact hw'
      | some j =>
        rw [hix] at hst
        have hcj := idxOf_some hix
        have hjl : j < cs.length := (List.getElem?_eq_some_iff.1 hcj).1
        have hi0 : listed.getD i false = false := by
          simp [Array.getElem?_eq_getElem hil] at h0 ⊢
          exact h0
        have hlow : ∀ d k, j - k ≤ d → k < j → ∃ c, cs[k]? = some c ∧ listed.getD c false = true := by
          intro d
          induction d with
          | zero => intro k h1 h2; omega
          | succ d ihd =>
            intro k h1 h2
            have hkl : k < cs.length := by omega
            have hk1 : k + 1 < cs.length := by omega
            refine ⟨cs[k], List.getElem?_eq_getElem hkl, ?_⟩
            obtain ⟨o', ho', e, he, hb, hon⟩ := onAt_parts (callsOk_next cs hcs k _ _ (List.getElem?_eq_getElem hkl) (List.getElem?_eq_getElem hk1))
            rcases Nat.eq_or_lt_of_le (Nat.succ_le_of_lt h2) with h3 | h3
            · have e3 : cs[k + 1] = i := by
                have h4 := hcj
                rw [← h3] at h4
                rw [List.getElem?_eq_getElem hk1] at h4
                exact Option.some.inj h4
              rw [e3, ho] at ho'
              injection ho' with ho'
              subst ho'
              rw [← hon]; exact hafter e he hb
            · obtain ⟨c, hc, hl⟩ := ihd (k + 1) (by omega) h3
              rw [List.getElem?_eq_getElem hk1] at hc
              injection hc with hc
              subst hc
              rw [← hon]; exact hdown _ o' ho' hl e he hb
        have ecnt : cntC listed cs = j := cntC_eq cs j (fun k hk => hlow _ k (Nat.le_refl _) hk) (fun c hc => by
          rw [hcj] at hc
          injection hc with hc
          rw [← hc]; exact hi0)
        rw [ecnt] at hI
        refine ⟨_, hst w hI, fun w' hw' => ?_, .inr (callsOk_guard cs hcs i (List.mem_of_getElem? hcj) o ho)⟩
        rw [cntC_eq cs (j + 1) (fun k hk => ?_) (fun c hc => ?_)]
        · exact hw'
        · rcases Nat.eq_or_lt_of_le (Nat.le_of_lt_succ hk) with rfl | hk
          · exact ⟨i, hcj, by simp [hil]⟩
          · obtain ⟨c, hc, hl⟩ := hlow _ k (Nat.le_refl _) hk
            exact ⟨c, hc, getD_set_true hl⟩
        · obtain ⟨o', ho', e, he, hb, hon⟩ := onAt_parts (callsOk_next cs hcs j _ _ hcj hc)
          have hci : i ≠ c := by
            rintro rfl
            have := (hpart i o' ho').1 e he hb
            omega
          rw [getD_set_ne false hci]
          cases hlc : listed.getD c false with
          | false => rfl
          | true =>
            have := hdown c o' ho' hlc e he hb
            rw [hon, hi0] at this
            exact this.symm
    obtain ⟨J, hJs, hJI, hJG⟩ := hJ
    have hdeps := relDeps_at (ops := ops) (Vs := Vf.take i) (w := w) vs o.after.toList a0 (fun e he hu p hp => by
      have hlt := hbk e he hu
      have e1 : (Vf.take i).getD e.on (fun _ _ => False) = Vf.getD e.on (fun _ _ => False) := by
        rw [List.getD, List.getD, List.getElem?_take, if_pos hlt]
      rw [e1]
      exact (hvs e.on p (by omega) hp (hlisted e he hu)).1) hJs
    generalize hcan : o.after.toList.foldl (fun a e => if useEdge e = true then a.put ((ops[e.on]?).bind (·.dst)) (vs e.on) else a) a0 = can at hdeps
    have hsame : ∀ t ∈ o.looksAt ops, can.tmps[t]? = a.tmps[t]? := by
      intro t ht
      rw [← hcan]
      refine fold_tmps (ops := ops) vs a o.after.toList a0 hsize.symm (fun e he hu d hd' => ?_) t ?_
      · cases hp : ops[e.on]? with
        | none => rw [hp] at hd'; cases hd'
        | some p =>
          rw [hp] at hd'
          have := hbk e he hu
          exact (hvs e.on p (by omega) hp (hlisted e he hu)).2 d hd'
      · rcases hlook him' t ht with h | h
        · exact .inl (hrest t h)
        · exact .inr h
    have hsl : ∀ cs b, o.op ≠ .select cs b := fun cs b => Region.noSelect_spec hsel i o cs b ho
    obtain ⟨he1, he2⟩ := same_step (ops := ops) hsl hsame
    have hstep : relStep P ops o J R (Vf.getD i (fun _ _ => False)) w a := by
      unfold relStep at hdeps ⊢
      rw [← he1, ← he2]
      exact hdeps
    suffices hcont : ∀ v w', (Vf.getD i (fun _ _ => False)) v w' → J w' → R w w' → wpAny P .any ops Q fuel (listed.setIfInBounds i true) (a.put o.dst v) w' by
      rcases hJG with hJw | hg
      · exact wpOp_of_rel ho hstep hcont hJw (hR w)
      · exact wpOp_of_relG ho hg hstep hcont
    intro v w' hv hJ' hRw
    have hI' := hJI w' hJ'
    refine ih _ _ _ (count_set hil h0 hc) (fun j hj hjs => by rw [getD_set_ne true (by omega)]; exact hm j hj hjs) (fun i' o' ho' hl' e he hb => by
      by_cases hii : i = i'
      · subst hii
        rw [ho] at ho'
        injection ho' with ho'
        subst ho'
        exact getD_set_true (hafter e he hb)
      · rw [getD_set_ne false hii] at hl'
        exact getD_set_true (hdown i' o' ho' hl' e he hb)) hI' (by rw [put_defers', hdef]) (by rw [put_size, hsize]) (by simpa using hls) (fun t ht => ?_) (fun j p hj hp hl => ?_)
    · cases hdo : o.dst with
      | none => exact hrest t ht
      | some d =>
        have hdm := dstM_mem him' ho hdo
        have hdt : d ≠ t := fun e => ht (e ▸ hdm)
        rw [put_tmps _ _ _ _ (by rw [hsize]; exact hd d hdm), if_neg hdt]
        exact hrest t ht
    · by_cases hij : i = j
      · subst hij
        rw [ho] at hp
        injection hp with hp
        subst hp
        refine ⟨v, hv, fun d hdo => ?_⟩
        rw [hdo, put_tmps _ _ _ _ (by rw [hsize]; exact hd d (dstM_mem him' ho hdo)), if_pos rfl]
      · rw [getD_set_ne false hij] at hl
        obtain ⟨u, hu, hud⟩ := hvals j p hj hp hl
        refine ⟨u, ?_, fun d hdp => ?_⟩
        · rcases hVj : Vf[j]? with _ | Vj
          · rw [List.getD, hVj] at hu; exact hu.elim
          · rw [List.getD, hVj] at hu ⊢
            exact hA.stable Vj (List.mem_of_getElem? hVj) _ _ _ hRw hu
        · cases hdo : o.dst with
          | none => exact hud d hdp
          | some d' =>
            have hne : d' ≠ d := by
              rintro rfl
              exact hij (nodup_dst _ hn i j o p d' (take_at him' ho) (take_at hj hp) hdo hdp)
            rw [put_tmps _ _ _ _ (by rw [hsize]; exact hd d' (dstM_mem him' ho hdo)), if_neg hne]
            exact hud d hdp
/-- A region that draws its order, with calls in a forced order; behind m of its operations a chain. -/
theorem wp_region_calls {id : Nat} {Q : Exit → Act → World → Prop} {a : Act} {w : World} {l : List Oper} (m : Nat) (l1 l2 : List Oper) (cs : List Nat) (I : Nat → World → Prop) (R : World → World → Prop) (h1 : l.take m = l1) (h2 : l.drop m = l2) (hm : P.follows .mixedOrders = true) (hok : relOkM l.toArray m a.tmps.size = true)
    (ht : tailsOk l.toArray m = true) (hcs : (callsOk l.toArray cs && cs.all (· < m)) = true) (hR : ∀ w, R w w) (h0 : I 0 w.drew)
    (h : wpRelC P l.toArray I R a cs (fun Vs => ∀ w', I cs.length w' → relEnd w' (fun a' w'' => wpList P l.toArray Q l2 a' w'') l1 Vs a) l1 []) : (Code.region id l.toArray true).wp P Q a w := by
  have hsz := (tailsOk_parts ht).1
  have hlen : m < l.length := by simpa using hsz
  subst h1 h2
  obtain ⟨Vf, hA, hK⟩ := relAllC_of (P := P) (ops := l.toArray) a m (l.take m) [] (fun j hj => by
    rw [List.length_take] at hj
    simp only [List.length_nil, Nat.zero_add, List.getElem?_toArray]
    rw [List.getElem?_take, if_pos (by omega)]) (by simp; omega) (by simp) (by simp) h
  rw [Bool.and_eq_true, List.all_eq_true] at hcs
  have hc0 : cntC (Array.replicate l.toArray.size false) cs = 0 := cntC_eq cs 0 (fun k hk => by omega) (fun c hc => by simp [Array.getD_eq_getD_getElem?, Array.getElem?_replicate]; split <;> simp)
  refine wp_region_any hm (relC_sound hok ht hcs.1 (fun c hc => by simpa using hcs.2 c hc) hA hR (fun a' w' hI hdef hsize hrest hvals => ?_) _ _ _ _ ?_ (fun j _ hj => by
    have hjl : j < l.length := by simpa using hj
    simp [hjl]) (fun i o ho hl => ?_) (by rw [hc0]; exact h0) rfl rfl (by simp) (fun _ _ => rfl) (fun j p hj hp hl => ?_))
  · have hvs : ∃ vs : Nat → Value, ∀ (j : Nat) p, j < m → l.toArray[j]? = some p → (Vf.getD j (fun _ _ => False)) (vs j) w' ∧ ∀ d, p.dst = some d → a'.tmps[d]? = some (vs j) := by
      refine Classical.axiomOfChoice (r := fun j v => ∀ p, j < m → l.toArray[j]? = some p → (Vf.getD j (fun _ _ => False)) v w' ∧ ∀ d, p.dst = some d → a'.tmps[d]? = some v) fun j => ?_
      cases hp : l.toArray[j]? with
      | none => exact ⟨undef, fun p _ h => by cases h⟩
      | some p =>
        by_cases hjm : j < m
        · obtain ⟨v, h1, h2⟩ := hvals j p hjm hp
          exact ⟨v, fun p' _ h => by injection h with h; subst h; exact ⟨h1, h2⟩⟩
        · exact ⟨undef, fun p' h => absurd h hjm⟩
    obtain ⟨vs, hvs⟩ := hvs
    have hK' := hK w' hI
    refine relEnd_at (K := fun a' w'' => wpList P l.toArray Q (l.drop m) a' w'') a' vs (l.take m) Vf 0 a (by rw [hA.len, List.length_take]; omega) (fun j V hV => ?_) hdef.symm hsize.symm (fun j p d hj hd => ?_) (fun t ht => (hrest t (by simpa using ht)).symm) hK'
    · have hj : j < m := by rw [← hA.len]; exact (List.getElem?_eq_some_iff.1 hV).1
      have hjl : j < l.length := by omega
      have := (hvs j l[j] hj (by simp [hjl])).1
      rw [List.getD, hV] at this
      rw [Nat.zero_add]
      exact this
    · have hjm : j < m := by
        have := (List.getElem?_eq_some_iff.1 hj).1
        rw [List.length_take] at this; omega
      rw [Nat.zero_add]
      refine (hvs j p hjm ?_).2 d hd
      rw [List.getElem?_take, if_pos hjm] at hj
      simpa using hj
  · simp
  · exfalso
    have hi : i < l.length := by
      have := (Array.getElem?_eq_some_iff.1 ho).1
      simpa using this
    simp [hi] at hl
  · exfalso
    have hj' : j < l.length := by omega
    simp [hj'] at hl
end
end Go.Proofs.YtgcdfoadegojcaaDoor
