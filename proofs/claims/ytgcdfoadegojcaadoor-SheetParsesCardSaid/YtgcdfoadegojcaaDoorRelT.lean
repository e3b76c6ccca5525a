/- A region that draws its order and ends in one operation behind all others (a store, an assignment): the others each alone, the last one as in a plain statement. -/
import Derived.Test.YtgcdfoadegojcaaDoorRel
namespace Go.Proofs.YtgcdfoadegojcaaDoor
open Go.RowKit
set_option linter.unusedVariables false
section
variable {P : Program} {ops : Array Oper} {I : World → Prop} {R : World → World → Prop}
/-- The last operation waits for all others. -/
def tailOk (ops : Array Oper) (m : Nat) : Bool :=
  (ops.size == m + 1) && match ops[m]? with
    | none => false
    | some o => o.guard.isNone && (List.range m).all fun j => o.after.toList.any fun e => Region.binds .any e && (e.on == j)
theorem tailOk_parts {m : Nat} (h : tailOk ops m = true) : ops.size = m + 1 ∧ ∃ o, ops[m]? = some o ∧ o.guard = none ∧ ∀ j, j < m → ∃ e ∈ o.after, Region.binds .any e = true ∧ e.on = j := by
  unfold tailOk at h
  rw [Bool.and_eq_true, beq_iff_eq] at h
  obtain ⟨h1, h2⟩ := h
  refine ⟨h1, ?_⟩
  cases ho : ops[m]? with
  | none => rw [ho] at h2; cases h2
  | some o =>
    rw [ho] at h2
    simp only [Bool.and_eq_true, List.all_eq_true, List.any_eq_true, beq_iff_eq, List.mem_range] at h2
    refine ⟨o, rfl, by simpa using h2.1, fun j hj => ?_⟩
    obtain ⟨e, he, hb, hon⟩ := h2.2 j hj
    exact ⟨e, by simpa using he, hb, hon⟩
structure RelAllT (P : Program) (ops : Array Oper) (m : Nat) (I : World → Prop) (R : World → World → Prop) (a0 : Act) (Vf : List (Value → World → Prop)) : Prop where
  len : Vf.length = m
  stable : ∀ V ∈ Vf, ∀ v w w', R w w' → V v w → V v w'
  step : ∀ (i : Nat) o, i < m → ops[i]? = some o → ∀ w, I w → relDeps ops (Vf.take i) w o.after.toList (relStep P ops o I R (Vf.getD i (fun _ _ => False)) w) a0
theorem relAllT_of (a0 : Act) (m : Nat) {K : List (Value → World → Prop) → Prop} : ∀ (l : List Oper) (Vs : List (Value → World → Prop)), (∀ j, j < l.length → l[j]? = ops[Vs.length + j]?) → Vs.length + l.length = m →
    (∀ V ∈ Vs, ∀ v w w', R w w' → V v w → V v w') → (∀ (i : Nat) o, i < Vs.length → ops[i]? = some o → ∀ w, I w → relDeps ops (Vs.take i) w o.after.toList (relStep P ops o I R (Vs.getD i (fun _ _ => False)) w) a0) →
    wpRel P ops I R a0 K l Vs → ∃ Vf, RelAllT P ops m I R a0 Vf ∧ K Vf
  | [], Vs, _, hl, hs, hst, h => ⟨Vs, ⟨by simpa using hl, hs, fun i o hi ho => hst i o (by simp at hl; omega) ho⟩, h⟩
  | o :: l, Vs, ho, hl, hs, hst, ⟨V, h1, h2, h3⟩ => by
    refine relAllT_of a0 m l (Vs ++ [V]) (fun j hj => ?_) (by simp at hl ⊢; omega) (fun V' hV' => ?_) (fun i o' hi ho' => ?_) h3
    · have := ho (j + 1) (by simp; omega)
      rw [List.getElem?_cons_succ] at this
      rw [this, List.length_append, List.length_singleton]
      congr 1; omega
    · rcases List.mem_append.1 hV' with h | h
      · exact hs V' h
      · rw [List.mem_singleton] at h; rw [h]; exact h1
    · rw [List.length_append, List.length_singleton] at hi
      by_cases hlt : i < Vs.length
      · have e1 : (Vs ++ [V]).take i = Vs.take i := List.take_append_of_le_length (by omega)
        have e2 : (Vs ++ [V]).getD i (fun _ _ => False) = Vs.getD i (fun _ _ => False) := by
          rw [List.getD, List.getD, List.getElem?_append_left hlt]
        rw [e1, e2]
        exact hst i o' hlt ho'
      · obtain rfl : i = Vs.length := by omega
        have e1 : (Vs ++ [V]).take Vs.length = Vs := List.take_left
        have e2 : (Vs ++ [V]).getD Vs.length (fun _ _ => False) = V := by
          rw [List.getD, List.getElem?_append_right (Nat.le_refl _)]; simp
        rw [e1, e2]
        have h0 := ho 0 (by simp)
        simp at h0
        rw [ho'] at h0
        injection h0 with h0
        subst h0
        exact h2
/-- Every operation but the last is listed. -/
def AllBut (ops : Array Oper) (m : Nat) : Array Bool := (Array.replicate ops.size true).setIfInBounds m false
theorem relT_sound {a0 : Act} {m : Nat} {Vf : List (Value → World → Prop)} {Q : Exit → Act → World → Prop} (hok : relOk ops a0.tmps.size = true) (ht : tailOk ops m = true) (hA : RelAllT P ops m I R a0 Vf) (hR : ∀ w, R w w)
    (hend : ∀ o, ops[m]? = some o → ∀ a w, I w → a.defers = a0.defers → a.tmps.size = a0.tmps.size → (∀ t, t ∉ (ops.toList.take m).filterMap (·.dst) → a.tmps[t]? = a0.tmps[t]?) →
      (∀ (j : Nat) p, j < m → ops[j]? = some p → ∃ v, (Vf.getD j (fun _ _ => False)) v w ∧ ∀ d, p.dst = some d → a.tmps[d]? = some v) → o.wp P a w (fun a' w' => Q .normal a' w') Q) :
    ∀ (fuel : Nat) (listed : Array Bool) (a : Act) (w : World), listed.toList.count false ≤ fuel → listed.getD m true = false → I w → a.defers = a0.defers → a.tmps.size = a0.tmps.size → listed.size = ops.size →
      (∀ t, t ∉ (ops.toList.take m).filterMap (·.dst) → a.tmps[t]? = a0.tmps[t]?) →
      (∀ (j : Nat) p, j < m → ops[j]? = some p → listed.getD j false = true → ∃ v, (Vf.getD j (fun _ _ => False)) v w ∧ ∀ d, p.dst = some d → a.tmps[d]? = some v) → wpAny P .any ops Q fuel listed a w := by
  obtain ⟨hd, hn, hsel, hpart⟩ := relOk_parts hok
  obtain ⟨hsz, om, hom, hgd, hwait⟩ := tailOk_parts ht
  have noReady : ∀ (listed : Array Bool), listed.getD m true = false → listed.size = ops.size → Region.ready .any ops listed = [] → False := by
    intro listed hm hls hr
    have all : ∀ j, j < ops.size → listed.getD j false = true := by
      intro j
      induction j using Nat.strongRecOn with
      | _ j ih =>
        intro hj
        by_cases hf : listed.getD j false = true
        · exact hf
        · exfalso
          have hjl : j < listed.size := by rw [hls]; exact hj
          have hft : listed.getD j true = false := by
            simp [Array.getElem?_eq_getElem hjl] at hf ⊢
            exact hf
          have : j ∈ Region.ready .any ops listed := mem_ready.2 ⟨hft, ops[j], Array.getElem?_eq_getElem hj, fun e he hb => by
            have := (hpart j _ (Array.getElem?_eq_getElem hj)).1 e he hb
            exact ih e.on this (by omega)⟩
          rw [hr] at this
          cases this
    have h1 := all m (by omega)
    have hml := getD_false_of hm
    simp [Array.getElem?_eq_getElem hml] at hm h1
    rw [hm] at h1; cases h1
  intro fuel
  induction fuel with
  | zero =>
    intro listed a w hc hm hI _ _ hls _ _
    exfalso
    have hml := getD_false_of hm
    have hz : listed.toList.count false = 0 := by omega
    rw [List.count_eq_zero] at hz
    apply hz
    have e : listed[m] = false := by simpa [Array.getElem?_eq_getElem hml] using hm
    rw [← e]
    simp
  | succ fuel ih =>
    intro listed a w hc hm hI hdef hsize hls hrest hvals
    refine ⟨fun hr => (noReady listed hm hls hr).elim, fun i hi => ?_⟩
    obtain ⟨h0, o, ho, hafter⟩ := mem_ready.1 hi
    have hil := getD_false_of h0
    have hlt : i < ops.size := (Array.getElem?_eq_some_iff.1 ho).1
    by_cases him : i = m
    · subst him
      rw [hom] at ho
      injection ho with ho
      subst ho
      have hall : ∀ j, j < i → listed.getD j false = true := fun j hj => by
        obtain ⟨e, he, hb, hon⟩ := hwait j hj
        rw [← hon]; exact hafter e he hb
      have hw := hend om hom a w hI hdef hsize hrest (fun j p hj hp => hvals j p hj hp (hall j hj))
      unfold wpOp
      simp only [hom]
      rw [if_pos (by simp [Region.wanted, hgd])]
      refine .inl (Oper.wp_mono (fun a' w' hq => ?_) hw)
      -- all are listed now
      have hnone : Region.ready .any ops (listed.setIfInBounds i true) = [] := by
        rcases hr : Region.ready .any ops (listed.setIfInBounds i true) with _ | ⟨j, js⟩
        · rfl
        · exfalso
          have hj : j ∈ Region.ready .any ops (listed.setIfInBounds i true) := by rw [hr]; exact List.mem_cons_self ..
          obtain ⟨h1, o', ho', _⟩ := mem_ready.1 hj
          have hjs : j < ops.size := (Array.getElem?_eq_some_iff.1 ho').1
          by_cases hji : j = i
          · subst hji
            simp [hil] at h1
          · rw [getD_set_ne true (fun e => hji e.symm)] at h1
            have h2 := hall j (by omega)
            have hjl := getD_false_of h1
            simp [Array.getElem?_eq_getElem hjl] at h1 h2
            rw [h1] at h2; cases h2
      cases fuel with
      | zero => exact ⟨hnone, hq⟩
      | succ fuel => exact ⟨fun _ => hq, fun j hj => by rw [hnone] at hj; cases hj⟩
    · have him' : i < m := by omega
      obtain ⟨hback, hlook⟩ := hpart i o ho
      have hvs : ∃ vs : Nat → Value, ∀ (j : Nat) p, j < m → ops[j]? = some p → listed.getD j false = true → (Vf.getD j (fun _ _ => False)) (vs j) w ∧ ∀ d, p.dst = some d → a.tmps[d]? = some (vs j) := by
        refine Classical.axiomOfChoice (r := fun j v => ∀ p, j < m → ops[j]? = some p → listed.getD j false = true → (Vf.getD j (fun _ _ => False)) v w ∧ ∀ d, p.dst = some d → a.tmps[d]? = some v) fun j => ?_
        cases hp : ops[j]? with
        | none => exact ⟨undef, fun p _ h => by cases h⟩
        | some p =>
          by_cases hl : listed.getD j false = true
          · by_cases hjm : j < m
            · obtain ⟨v, h1, h2⟩ := hvals j p hjm hp hl
              exact ⟨v, fun p' _ h _ => by injection h with h; subst h; exact ⟨h1, h2⟩⟩
            · exact ⟨undef, fun p' h => absurd h hjm⟩
          · exact ⟨undef, fun p' _ _ h => absurd h hl⟩
      obtain ⟨vs, hvs⟩ := hvs
      have hlisted : ∀ e ∈ o.after.toList, useEdge e = true → listed.getD e.on false = true := fun e he hu => hafter e (by simpa using he) (useEdge_binds hu)
      have hbk : ∀ e ∈ o.after.toList, useEdge e = true → e.on < i := fun e he hu => hback e (by simpa using he) (useEdge_binds hu)
      have hdeps := relDeps_at (ops := ops) (Vs := Vf.take i) (w := w) vs o.after.toList a0 (fun e he hu p hp => by
        have hlt := hbk e he hu
        have e1 : (Vf.take i).getD e.on (fun _ _ => False) = Vf.getD e.on (fun _ _ => False) := by
          rw [List.getD, List.getD, List.getElem?_take, if_pos hlt]
        rw [e1]
        exact (hvs e.on p (by omega) hp (hlisted e he hu)).1) (hA.step i o him' ho w hI)
      generalize hcan : o.after.toList.foldl (fun a e => if useEdge e = true then a.put ((ops[e.on]?).bind (·.dst)) (vs e.on) else a) a0 = can at hdeps
      have hsame : ∀ t ∈ o.looksAt ops, can.tmps[t]? = a.tmps[t]? := by
        intro t ht
        rw [← hcan]
        refine fold_tmps (ops := ops) vs a o.after.toList a0 hsize.symm (fun e he hu d hd' => ?_) t ?_
        · cases hp : ops[e.on]? with
          | none => rw [hp] at hd'; cases hd'
          | some p =>
            rw [hp] at hd'
            have := hbk e he hu
            exact (hvs e.on p (by omega) hp (hlisted e he hu)).2 d hd'
        · rcases hlook t ht with h | h
          · refine .inl (hrest t fun hm' => h ?_)
            unfold relDsts
            obtain ⟨x, hx, hxd⟩ := List.mem_filterMap.1 hm'
            exact List.mem_filterMap.2 ⟨x, List.mem_of_mem_take hx, hxd⟩
          · exact .inr h
      have hsl : ∀ cs b, o.op ≠ .select cs b := fun cs b => Region.noSelect_spec hsel i o cs b ho
      obtain ⟨he1, he2⟩ := same_step (ops := ops) hsl hsame
      have hstep : relStep P ops o I R (Vf.getD i (fun _ _ => False)) w a := by
        unfold relStep at hdeps ⊢
        rw [← he1, ← he2]
        exact hdeps
      refine wpOp_of_rel ho hstep (fun v w' hv hI' hRw => ih _ _ _ (count_set hil h0 hc) (by rw [getD_set_ne true him]; exact hm) hI' (by rw [put_defers', hdef]) (by rw [put_size, hsize]) (by simpa using hls) (fun t ht => ?_) (fun j p hj hp hl => ?_)) hI (hR w)
      · cases hdo : o.dst with
        | none => exact hrest t ht
        | some d =>
          have hdm := dst_mem ho hdo
          have hdt : d ≠ t := fun e => ht (List.mem_filterMap.2 ⟨o, by
            rw [List.mem_take_iff_getElem]
            refine ⟨i, by rw [Array.length_toList]; omega, ?_⟩
            have := (Array.getElem?_eq_some_iff.1 ho).2
            rw [← this]; simp, by rw [hdo, e]⟩)
          rw [put_tmps _ _ _ _ (by rw [hsize]; exact hd d hdm), if_neg hdt]
          exact hrest t ht
      · by_cases hij : i = j
        · subst hij
          rw [ho] at hp
          injection hp with hp
          subst hp
          refine ⟨v, hv, fun d hdo => ?_⟩
          rw [hdo, put_tmps _ _ _ _ (by rw [hsize]; exact hd d (dst_mem ho hdo)), if_pos rfl]
        · rw [getD_set_ne false hij] at hl
          obtain ⟨u, hu, hud⟩ := hvals j p hj hp hl
          refine ⟨u, ?_, fun d hdp => ?_⟩
          · rcases hVj : Vf[j]? with _ | Vj
            · rw [List.getD, hVj] at hu; exact hu.elim
            · rw [List.getD, hVj] at hu ⊢
              exact hA.stable Vj (List.mem_of_getElem? hVj) _ _ _ hRw hu
          · cases hdo : o.dst with
            | none => exact hud d hdp
            | some d' =>
              have hne : d' ≠ d := by
                rintro rfl
                exact hij (nodup_dst ops.toList hn i j o p d' (by rw [Array.getElem?_toList]; exact ho) (by rw [Array.getElem?_toList]; exact hp) hdo hdp)
              rw [put_tmps _ _ _ _ (by rw [hsize]; exact hd d' (dst_mem ho hdo)), if_neg hne]
              exact hud d hdp
/-- A region that draws its order, the last operation behind all others. -/
theorem wp_region_tail {id : Nat} {Q : Exit → Act → World → Prop} {a : Act} {w : World} {l : List Oper} (o : Oper) (I : World → Prop) (R : World → World → Prop) (ho : l.getLast? = some o) (hm : P.follows .mixedOrders = true) (hok : relOk l.toArray a.tmps.size = true)
    (ht : tailOk l.toArray (l.length - 1) = true) (hR : ∀ w, R w w) (h0 : I w.drew)
    (h : wpRel P l.toArray I R a (fun Vs => ∀ w', I w' → relEnd w' (fun a' w'' => o.wp P a' w'' (fun a w => Q .normal a w) Q) l.dropLast Vs a) l.dropLast []) : (Code.region id l.toArray true).wp P Q a w := by
  obtain ⟨m, hml⟩ : ∃ m, m = l.length - 1 := ⟨_, rfl⟩
  have hsz := (tailOk_parts ht).1
  have hlen : l.length = m + 1 := by simp at hsz; omega
  rw [← hml] at ht
  have hdl : l.dropLast = l.take m := by rw [List.dropLast_eq_take, hml]
  have hlast : l[m]? = some o := by rw [List.getLast?_eq_getElem?, ← hml] at ho; exact ho
  rw [hdl] at h
  obtain ⟨Vf, hA, hK⟩ := relAllT_of (P := P) (ops := l.toArray) a m (l.take m) [] (fun j hj => by
    rw [List.length_take] at hj
    simp only [List.length_nil, Nat.zero_add, List.getElem?_toArray]
    rw [List.getElem?_take, if_pos (by omega)]) (by simp; omega) (by simp) (by simp) h
  have hmf : (Array.replicate l.length false).getD m true = false := by simp [hlen]
  refine wp_region_any hm (relT_sound hok ht hA hR (fun o' ho' a' w' hI hdef hsize hrest hvals => ?_) _ _ _ _ ?_ (by simpa using hmf) h0 rfl rfl (by simp) (fun _ _ => rfl) (fun j p hj hp hl => ?_))
  · have eo : o' = o := by
      simp only [List.getElem?_toArray] at ho'
      rw [hlast] at ho'
      injection ho' with ho'
      exact ho'.symm
    subst eo
    have hvs : ∃ vs : Nat → Value, ∀ (j : Nat) p, j < m → l.toArray[j]? = some p → (Vf.getD j (fun _ _ => False)) (vs j) w' ∧ ∀ d, p.dst = some d → a'.tmps[d]? = some (vs j) := by
      refine Classical.axiomOfChoice (r := fun j v => ∀ p, j < m → l.toArray[j]? = some p → (Vf.getD j (fun _ _ => False)) v w' ∧ ∀ d, p.dst = some d → a'.tmps[d]? = some v) fun j => ?_
      cases hp : l.toArray[j]? with
      | none => exact ⟨undef, fun p _ h => by cases h⟩
      | some p =>
        by_cases hjm : j < m
        · obtain ⟨v, h1, h2⟩ := hvals j p hjm hp
          exact ⟨v, fun p' _ h => by injection h with h; subst h; exact ⟨h1, h2⟩⟩
        · exact ⟨undef, fun p' h => absurd h hjm⟩
    obtain ⟨vs, hvs⟩ := hvs
    have hK' := hK w' hI
    refine relEnd_at (K := fun a' w'' => o'.wp P a' w'' (fun a w => Q .normal a w) Q) a' vs (l.take m) Vf 0 a (by rw [hA.len, List.length_take]; omega) (fun j V hV => ?_) hdef.symm hsize.symm (fun j p d hj hd => ?_) (fun t ht => (hrest t (by simpa using ht)).symm) hK'
    · have hj : j < m := by rw [← hA.len]; exact (List.getElem?_eq_some_iff.1 hV).1
      have hjl : j < l.length := by omega
      have := (hvs j l[j] hj (by simp [hjl])).1
      rw [List.getD, hV] at this
      rw [Nat.zero_add]
      exact this
    · have hjm : j < m := by
        have := (List.getElem?_eq_some_iff.1 hj).1
        rw [List.length_take] at this; omega
      rw [Nat.zero_add]
      refine (hvs j p hjm ?_).2 d hd
      rw [List.getElem?_take, if_pos hjm] at hj
      simpa using hj
  · simp
  · exfalso
    have hj' : j < l.length := by omega
    simp [hj'] at hl
end
end Go.Proofs.YtgcdfoadegojcaaDoor
