/- A region that draws its order and ends in a chain of operations, the first of them behind all others (perhaps by way of others): the others each alone, the chain as in a plain statement. -/
import Derived.Test.YtgcdfoadegojcaaDoorRelT
namespace Go.Proofs.YtgcdfoadegojcaaDoor
open Go.RowKit
set_option linter.unusedVariables false
section
variable {P : Program} {ops : Array Oper} {I : World → Prop} {R : World → World → Prop}
def onAt (ops : Array Oper) (i j : Nat) : Bool := match ops[i]? with
  | none => false
  | some o => o.after.toList.any fun e => Region.binds .any e && (e.on == j)
theorem onAt_parts {i j : Nat} (h : onAt ops i j = true) : ∃ o, ops[i]? = some o ∧ ∃ e ∈ o.after, Region.binds .any e = true ∧ e.on = j := by
  unfold onAt at h
  cases ho : ops[i]? with
  | none => rw [ho] at h; cases h
  | some o =>
    rw [ho] at h
    simp only [List.any_eq_true, Bool.and_eq_true, beq_iff_eq] at h
    obtain ⟨e, he, hb, hon⟩ := h
    exact ⟨o, rfl, e, by simpa using he, hb, hon⟩
/-- From operation m on each waits for the one ahead; all ahead of m are waited for on the way to m. -/
def tailsOk (ops : Array Oper) (m : Nat) : Bool :=
  decide (m < ops.size) && ((List.range m).all fun j => (List.range' (j + 1) (m - j)).any fun i => onAt ops i j) && (List.range' m (ops.size - m - 1)).all fun j => onAt ops (j + 1) j
theorem tailsOk_parts {m : Nat} (h : tailsOk ops m = true) : m < ops.size ∧ (∀ j, j < m → ∃ i, j < i ∧ i ≤ m ∧ onAt ops i j = true) ∧ ∀ j, m ≤ j → j + 1 < ops.size → onAt ops (j + 1) j = true := by
  unfold tailsOk at h
  simp only [Bool.and_eq_true, decide_eq_true_eq, List.all_eq_true, List.mem_range, List.any_eq_true] at h
  obtain ⟨⟨h1, h2⟩, h3⟩ := h
  refine ⟨h1, fun j hj => ?_, fun j hj hj2 => h3 j (List.mem_range'_1.2 ⟨hj, by omega⟩)⟩
  obtain ⟨i, hi, ho⟩ := h2 j hj
  have := List.mem_range'_1.1 hi
  exact ⟨i, by omega, by omega, ho⟩
/-- The chain itself. -/
theorem chain_sound {m : Nat} {Q : Exit → Act → World → Prop} (hback : ∀ (i : Nat) o, ops[i]? = some o → ∀ e ∈ o.after, Region.binds .any e = true → e.on < i) (hch : ∀ j, m ≤ j → j + 1 < ops.size → onAt ops (j + 1) j = true) :
    ∀ (fuel k : Nat) (listed : Array Bool) (a : Act) (w : World), m ≤ k → listed.size = ops.size → (∀ j, j < k → j < ops.size → listed.getD j false = true) → (∀ j, k ≤ j → j < ops.size → listed.getD j true = false) → listed.toList.count false ≤ fuel →
      wpList P ops Q (ops.toList.drop k) a w → wpAny P .any ops Q fuel listed a w := by
  have only : ∀ (k : Nat) (listed : Array Bool), m ≤ k → listed.size = ops.size → (∀ j, j < k → j < ops.size → listed.getD j false = true) → (∀ j, k ≤ j → j < ops.size → listed.getD j true = false) →
      (∀ i ∈ Region.ready .any ops listed, i = k ∧ k < ops.size) ∧ (k < ops.size → k ∈ Region.ready .any ops listed) := by
    intro k listed hk hls hlo hhi
    refine ⟨fun i hi => ?_, fun hks => ?_⟩
    · obtain ⟨h0, o, ho, hafter⟩ := mem_ready.1 hi
      have hlt : i < ops.size := (Array.getElem?_eq_some_iff.1 ho).1
      have hil := getD_false_of h0
      rcases Nat.lt_or_ge i k with h | h
      · have h1 := hlo i h hlt
        simp [Array.getElem?_eq_getElem hil] at h0 h1
        rw [h0] at h1; cases h1
      · rcases Nat.eq_or_lt_of_le h with h | h
        · exact ⟨h.symm, by omega⟩
        · exfalso
          obtain ⟨o', ho', e, he, hb, hon⟩ := onAt_parts (hch (i - 1) (by omega) (by omega))
          rw [show i - 1 + 1 = i by omega, ho] at ho'
          injection ho' with ho'
          subst ho'
          have h1 := hafter e he hb
          rw [hon] at h1
          have h2 := hhi (i - 1) (by omega) (by omega)
          have hjl : i - 1 < listed.size := by omega
          simp [Array.getElem?_eq_getElem hjl] at h1 h2
          rw [h2] at h1; cases h1
    · exact mem_ready.2 ⟨hhi k (Nat.le_refl _) hks, ops[k], Array.getElem?_eq_getElem hks, fun e he hb => by
        have := hback k _ (Array.getElem?_eq_getElem hks) e he hb
        exact hlo e.on this (by omega)⟩
  intro fuel
  induction fuel with
  | zero =>
    intro k listed a w hk hls hlo hhi hc h
    have hks : ops.size ≤ k := by
      rcases Nat.lt_or_ge k ops.size with hlt | hge
      · exfalso
        have hz : listed.toList.count false = 0 := by omega
        rw [List.count_eq_zero] at hz
        apply hz
        have hm := hhi k (Nat.le_refl _) hlt
        have hml : k < listed.size := by omega
        have e : listed[k] = false := by simpa [Array.getElem?_eq_getElem hml] using hm
        rw [← e]
        simp
      · exact hge
    rw [List.drop_of_length_le (by simpa using hks)] at h
    refine ⟨?_, h⟩
    rcases hr : Region.ready .any ops listed with _ | ⟨j, js⟩
    · rfl
    · have := ((only k listed hk hls hlo hhi).1 j (by rw [hr]; exact List.mem_cons_self ..)).2
      omega
  | succ fuel ih =>
    intro k listed a w hk hls hlo hhi hc h
    refine ⟨fun hr => ?_, fun i hi => ?_⟩
    · have hks : ops.size ≤ k := by
        rcases Nat.lt_or_ge k ops.size with hlt | hge
        · have := (only k listed hk hls hlo hhi).2 hlt
          rw [hr] at this; cases this
        · exact hge
      rw [List.drop_of_length_le (by simpa using hks)] at h
      exact h
    · obtain ⟨rfl, hlt⟩ := (only k listed hk hls hlo hhi).1 i hi
      have hlt' : i < ops.toList.length := by rw [Array.length_toList]; exact hlt
      rw [List.drop_eq_getElem_cons hlt', Array.getElem_toList] at h
      unfold wpOp
      rw [Array.getElem?_eq_getElem hlt]
      unfold wpList at h
      have hilt : i < listed.size := by omega
      have go : ∀ a w, wpList P ops Q (ops.toList.drop (i + 1)) a w → wpAny P .any ops Q fuel (listed.setIfInBounds i true) a w := fun a w hw =>
        ih (i + 1) _ a w (by omega) (by simpa using hls) (fun j hj hjs => by
          rcases Nat.eq_or_lt_of_le (Nat.le_of_lt_succ hj) with rfl | hj
          · simp [hilt]
          · exact getD_set_true (hlo j hj hjs)) (fun j hj hjs => by
          rw [getD_set_ne true (by omega)]
          exact hhi j (by omega) hjs) (count_set hilt (hhi i (Nat.le_refl _) hlt) hc) hw
      simp only at h ⊢
      split
      · rename_i hw
        rw [if_pos hw] at h
        rcases h with h | h
        · exact .inl (Oper.wp_mono go h)
        · exact .inr h
      · rename_i hw
        rw [if_neg hw] at h
        exact go _ _ h
/-- What is asked of a region's text: of the first m operations as of all in relOk; of the chain that it looks back. -/
def dstsM (ops : Array Oper) (m : Nat) : List Tmp := (ops.toList.take m).filterMap (·.dst)
def relOkM (ops : Array Oper) (m n : Nat) : Bool :=
  (dstsM ops m).all (· < n) && (dstsM ops m).Nodup && Region.noSelect ops &&
  (List.range ops.size).all fun i => match ops[i]? with
    | none => true
    | some o => (o.after.toList.all fun e => !Region.binds .any e || e.on < i) &&
      (!decide (i < m) || (o.looksAt ops).all fun t => !(dstsM ops m).contains t || o.after.toList.any fun e => useEdge e && ((ops[e.on]?).bind (·.dst) == some t))
theorem relOkM_parts {m n : Nat} (h : relOkM ops m n = true) : (∀ d ∈ dstsM ops m, d < n) ∧ (dstsM ops m).Nodup ∧ Region.noSelect ops = true ∧
    ∀ (i : Nat) o, ops[i]? = some o → (∀ e ∈ o.after, Region.binds .any e = true → e.on < i) ∧ (i < m → ∀ t ∈ o.looksAt ops, t ∉ dstsM ops m ∨ ∃ e ∈ o.after.toList, useEdge e = true ∧ (ops[e.on]?).bind (·.dst) = some t) := by
  unfold relOkM at h
  simp only [Bool.and_eq_true, List.all_eq_true, decide_eq_true_eq] at h
  obtain ⟨⟨⟨h1, h2⟩, h3⟩, h4⟩ := h
  refine ⟨h1, h2, h3, fun i o hi => ?_⟩
  have hlt : i < ops.size := (Array.getElem?_eq_some_iff.1 hi).1
  have h5 := h4 i (List.mem_range.2 hlt)
  rw [hi] at h5
  simp only [Bool.and_eq_true, List.all_eq_true, Bool.or_eq_true, Bool.not_eq_true', decide_eq_true_eq, List.any_eq_true, beq_iff_eq, decide_eq_false_iff_not] at h5
  obtain ⟨h6, h7⟩ := h5
  refine ⟨fun e he hb => ?_, fun him t ht => ?_⟩
  · rcases h6 e (by simpa using he) with h8 | h8
    · rw [hb] at h8; cases h8
    · exact h8
  · rcases (h7.resolve_left (by omega)) t ht with h8 | h8
    · left
      intro hm
      have : (dstsM ops m).contains t = true := by simpa using hm
      rw [h8] at this; cases this
    · exact .inr h8
theorem dstM_mem {i m : Nat} {o : Oper} {d : Tmp} (him : i < m) (hi : ops[i]? = some o) (hd : o.dst = some d) : d ∈ dstsM ops m :=
  List.mem_filterMap.2 ⟨o, by
    rw [List.mem_take_iff_getElem]
    have := (Array.getElem?_eq_some_iff.1 hi)
    refine ⟨i, by rw [Array.length_toList]; have := this.1; omega, ?_⟩
    rw [← this.2]; simp, hd⟩
theorem take_at {i m : Nat} {o : Oper} (him : i < m) (hi : ops[i]? = some o) : (ops.toList.take m)[i]? = some o := by
  rw [List.getElem?_take, if_pos him, Array.getElem?_toList]; exact hi
theorem relU_sound {a0 : Act} {m : Nat} {Vf : List (Value → World → Prop)} {Q : Exit → Act → World → Prop} (hok : relOkM ops m a0.tmps.size = true) (ht : tailsOk ops m = true) (hA : RelAllT P ops m I R a0 Vf) (hR : ∀ w, R w w)
    (hend : ∀ a w, I w → a.defers = a0.defers → a.tmps.size = a0.tmps.size → (∀ t, t ∉ (ops.toList.take m).filterMap (·.dst) → a.tmps[t]? = a0.tmps[t]?) →
      (∀ (j : Nat) p, j < m → ops[j]? = some p → ∃ v, (Vf.getD j (fun _ _ => False)) v w ∧ ∀ d, p.dst = some d → a.tmps[d]? = some v) → wpList P ops Q (ops.toList.drop m) a w) :
    ∀ (fuel : Nat) (listed : Array Bool) (a : Act) (w : World), listed.toList.count false ≤ fuel → (∀ j, m ≤ j → j < ops.size → listed.getD j true = false) → (∀ (i : Nat) o, ops[i]? = some o → listed.getD i false = true → ∀ e ∈ o.after, Region.binds .any e = true → listed.getD e.on false = true) → I w → a.defers = a0.defers → a.tmps.size = a0.tmps.size → listed.size = ops.size →
      (∀ t, t ∉ (ops.toList.take m).filterMap (·.dst) → a.tmps[t]? = a0.tmps[t]?) →
      (∀ (j : Nat) p, j < m → ops[j]? = some p → listed.getD j false = true → ∃ v, (Vf.getD j (fun _ _ => False)) v w ∧ ∀ d, p.dst = some d → a.tmps[d]? = some v) → wpAny P .any ops Q fuel listed a w := by
  obtain ⟨hd, hn, hsel, hpart⟩ := relOkM_parts hok
  obtain ⟨hmsz, hwait, hch⟩ := tailsOk_parts ht
  have noReady : ∀ (listed : Array Bool), listed.getD m true = false → listed.size = ops.size → Region.ready .any ops listed = [] → False := by
    intro listed hm hls hr
    have all : ∀ j, j < ops.size → listed.getD j false = true := by
      intro j
      induction j using Nat.strongRecOn with
      | _ j ih =>
        intro hj
        by_cases hf : listed.getD j false = true
        · exact hf
        · exfalso
          have hjl : j < listed.size := by rw [hls]; exact hj
          have hft : listed.getD j true = false := by
            simp [Array.getElem?_eq_getElem hjl] at hf ⊢
            exact hf
          have : j ∈ Region.ready .any ops listed := mem_ready.2 ⟨hft, ops[j], Array.getElem?_eq_getElem hj, fun e he hb => by
            have := (hpart j _ (Array.getElem?_eq_getElem hj)).1 e he hb
            exact ih e.on this (by omega)⟩
          rw [hr] at this
          cases this
    have h1 := all m (by omega)
    have hml := getD_false_of hm
    simp [Array.getElem?_eq_getElem hml] at hm h1
    rw [hm] at h1; cases h1
  intro fuel
  induction fuel with
  | zero =>
    intro listed a w hc hm0 _ hI _ _ hls _ _
    exfalso
    have hm := hm0 m (Nat.le_refl _) hmsz
    have hml := getD_false_of hm
    have hz : listed.toList.count false = 0 := by omega
    rw [List.count_eq_zero] at hz
    apply hz
    have e : listed[m] = false := by simpa [Array.getElem?_eq_getElem hml] using hm
    rw [← e]
    simp
  | succ fuel ih =>
    intro listed a w hc hm hdown hI hdef hsize hls hrest hvals
    by_cases hmr : m ∈ Region.ready .any ops listed
    · obtain ⟨_, om, hom, hafterm⟩ := mem_ready.1 hmr
      have hall : ∀ d j, m - j ≤ d → j < m → listed.getD j false = true := by
        intro d
        induction d with
        | zero => intro j h1 h2; omega
        | succ d ihd =>
          intro j h1 h2
          obtain ⟨i, hji, him, hon⟩ := hwait j h2
          obtain ⟨o, ho, e, he, hb, hej⟩ := onAt_parts hon
          rcases Nat.eq_or_lt_of_le him with rfl | him
          · rw [hom] at ho
            injection ho with ho
            subst ho
            rw [← hej]; exact hafterm e he hb
          · have := ihd i (by omega) him
            rw [← hej]; exact hdown i o ho this e he hb
      exact chain_sound (fun i o hi => (hpart i o hi).1) hch (fuel + 1) m listed a w (Nat.le_refl _) hls (fun j hj _ => hall _ j (Nat.le_refl _) hj) hm hc (hend a w hI hdef hsize hrest (fun j p hj hp => hvals j p hj hp (hall _ j (Nat.le_refl _) hj)))
    refine ⟨fun hr => (noReady listed (hm m (Nat.le_refl _) hmsz) hls hr).elim, fun i hi => ?_⟩
    have him : i ≠ m := fun e => hmr (e ▸ hi)
    obtain ⟨h0, o, ho, hafter⟩ := mem_ready.1 hi
    have hil := getD_false_of h0
    have hlt : i < ops.size := (Array.getElem?_eq_some_iff.1 ho).1
    have him' : i < m := by
      rcases Nat.lt_or_ge i m with h | h
      · exact h
      · exfalso
        obtain ⟨o', ho', e, he, hb, hon⟩ := onAt_parts (hch (i - 1) (by omega) (by omega))
        rw [show i - 1 + 1 = i by omega, ho] at ho'
        injection ho' with ho'
        subst ho'
        have h1 := hafter e he hb
        rw [hon] at h1
        have h2 := hm (i - 1) (by omega) (by omega)
        have hjl : i - 1 < listed.size := by omega
        simp [Array.getElem?_eq_getElem hjl] at h1 h2
        rw [h2] at h1; cases h1
    obtain ⟨hback, hlook⟩ := hpart i o ho
    have hvs : ∃ vs : Nat → Value, ∀ (j : Nat) p, j < m → ops[j]? = some p → listed.getD j false = true → (Vf.getD j (fun _ _ => False)) (vs j) w ∧ ∀ d, p.dst = some d → a.tmps[d]? = some (vs j) := by
      refine Classical.axiomOfChoice (r := fun j v => ∀ p, j < m → ops[j]? = some p → listed.getD j false = true → (Vf.getD j (fun _ _ => False)) v w ∧ ∀ d, p.dst = some d → a.tmps[d]? = some v) fun j => ?_
      cases hp : ops[j]? with
      | none => exact ⟨undef, fun p _ h => by cases h⟩
      | some p =>
        by_cases hl : listed.getD j false = true
        · by_cases hjm : j < m
          · obtain ⟨v, h1, h2⟩ := hvals j p hjm hp hl
            exact ⟨v, fun p' _ h _ => by injection h with h; subst h; exact ⟨h1, h2⟩⟩
          · exact ⟨undef, fun p' h => absurd h hjm⟩
        · exact ⟨undef, fun p' _ _ h => absurd h hl⟩
    obtain ⟨vs, hvs⟩ := hvs
    have hlisted : ∀ e ∈ o.after.toList, useEdge e = true → listed.getD e.on false = true := fun e he hu => hafter e (by simpa using he) (useEdge_binds hu)
    have hbk : ∀ e ∈ o.after.toList, useEdge e = true → e.on < i := fun e he hu => hback e (by simpa using he) (useEdge_binds hu)
    have hdeps := relDeps_at (ops := ops) (Vs := Vf.take i) (w := w) vs o.after.toList a0 (fun e he hu p hp => by
      have hlt := hbk e he hu
      have e1 : (Vf.take i).getD e.on (fun _ _ => False) = Vf.getD e.on (fun _ _ => False) := by
        rw [List.getD, List.getD, List.getElem?_take, if_pos hlt]
      rw [e1]
      exact (hvs e.on p (by omega) hp (hlisted e he hu)).1) (hA.step i o him' ho w hI)
    generalize hcan : o.after.toList.foldl (fun a e => if useEdge e = true then a.put ((ops[e.on]?).bind (·.dst)) (vs e.on) else a) a0 = can at hdeps
    have hsame : ∀ t ∈ o.looksAt ops, can.tmps[t]? = a.tmps[t]? := by
      intro t ht
      rw [← hcan]
      refine fold_tmps (ops := ops) vs a o.after.toList a0 hsize.symm (fun e he hu d hd' => ?_) t ?_
      · cases hp : ops[e.on]? with
        | none => rw [hp] at hd'; cases hd'
        | some p =>
          rw [hp] at hd'
          have := hbk e he hu
          exact (hvs e.on p (by omega) hp (hlisted e he hu)).2 d hd'
      · rcases hlook him' t ht with h | h
        · exact .inl (hrest t h)
        · exact .inr h
    have hsl : ∀ cs b, o.op ≠ .select cs b := fun cs b => Region.noSelect_spec hsel i o cs b ho
    obtain ⟨he1, he2⟩ := same_step (ops := ops) hsl hsame
    have hstep : relStep P ops o I R (Vf.getD i (fun _ _ => False)) w a := by
      unfold relStep at hdeps ⊢
      rw [← he1, ← he2]
      exact hdeps
    refine wpOp_of_rel ho hstep (fun v w' hv hI' hRw => ih _ _ _ (count_set hil h0 hc) (fun j hj hjs => by rw [getD_set_ne true (by omega)]; exact hm j hj hjs) (fun i' o' ho' hl' e he hb => by
      by_cases hii : i = i'
      · subst hii
        rw [ho] at ho'
        injection ho' with ho'
        subst ho'
        exact getD_set_true (hafter e he hb)
      · rw [getD_set_ne false hii] at hl'
        exact getD_set_true (hdown i' o' ho' hl' e he hb)) hI' (by rw [put_defers', hdef]) (by rw [put_size, hsize]) (by simpa using hls) (fun t ht => ?_) (fun j p hj hp hl => ?_)) hI (hR w)
    · cases hdo : o.dst with
      | none => exact hrest t ht
      | some d =>
        have hdm := dstM_mem him' ho hdo
        have hdt : d ≠ t := fun e => ht (e ▸ hdm)
        rw [put_tmps _ _ _ _ (by rw [hsize]; exact hd d hdm), if_neg hdt]
        exact hrest t ht
    · by_cases hij : i = j
      · subst hij
        rw [ho] at hp
        injection hp with hp
        subst hp
        refine ⟨v, hv, fun d hdo => ?_⟩
        rw [hdo, put_tmps _ _ _ _ (by rw [hsize]; exact hd d (dstM_mem him' ho hdo)), if_pos rfl]
      · rw [getD_set_ne false hij] at hl
        obtain ⟨u, hu, hud⟩ := hvals j p hj hp hl
        refine ⟨u, ?_, fun d hdp => ?_⟩
        · rcases hVj : Vf[j]? with _ | Vj
          · rw [List.getD, hVj] at hu; exact hu.elim
          · rw [List.getD, hVj] at hu ⊢
            exact hA.stable Vj (List.mem_of_getElem? hVj) _ _ _ hRw hu
        · cases hdo : o.dst with
          | none => exact hud d hdp
          | some d' =>
            have hne : d' ≠ d := by
              rintro rfl
              exact hij (nodup_dst _ hn i j o p d' (take_at him' ho) (take_at hj hp) hdo hdp)
            rw [put_tmps _ _ _ _ (by rw [hsize]; exact hd d' (dstM_mem him' ho hdo)), if_neg hne]
            exact hud d hdp
/-- A region that draws its order, behind m of its operations a chain. -/
theorem wp_region_tails {id : Nat} {Q : Exit → Act → World → Prop} {a : Act} {w : World} {l : List Oper} (m : Nat) (l1 l2 : List Oper) (I : World → Prop) (R : World → World → Prop) (h1 : l.take m = l1) (h2 : l.drop m = l2) (hm : P.follows .mixedOrders = true) (hok : relOkM l.toArray m a.tmps.size = true)
    (ht : tailsOk l.toArray m = true) (hR : ∀ w, R w w) (h0 : I w.drew)
    (h : wpRel P l.toArray I R a (fun Vs => ∀ w', I w' → relEnd w' (fun a' w'' => wpList P l.toArray Q l2 a' w'') l1 Vs a) l1 []) : (Code.region id l.toArray true).wp P Q a w := by
  have hsz := (tailsOk_parts ht).1
  have hlen : m < l.length := by simpa using hsz
  subst h1 h2
  obtain ⟨Vf, hA, hK⟩ := relAllT_of (P := P) (ops := l.toArray) a m (l.take m) [] (fun j hj => by
    rw [List.length_take] at hj
    simp only [List.length_nil, Nat.zero_add, List.getElem?_toArray]
    rw [List.getElem?_take, if_pos (by omega)]) (by simp; omega) (by simp) (by simp) h
  refine wp_region_any hm (relU_sound hok ht hA hR (fun a' w' hI hdef hsize hrest hvals => ?_) _ _ _ _ ?_ (fun j _ hj => by have : j < l.length := by simpa using hj
                                                                                                                            simp [this]) (fun i o ho hl => ?_) h0 rfl rfl (by simp) (fun _ _ => rfl) (fun j p hj hp hl => ?_))
  · have hvs : ∃ vs : Nat → Value, ∀ (j : Nat) p, j < m → l.toArray[j]? = some p → (Vf.getD j (fun _ _ => False)) (vs j) w' ∧ ∀ d, p.dst = some d → a'.tmps[d]? = some (vs j) := by
      refine Classical.axiomOfChoice (r := fun j v => ∀ p, j < m → l.toArray[j]? = some p → (Vf.getD j (fun _ _ => False)) v w' ∧ ∀ d, p.dst = some d → a'.tmps[d]? = some v) fun j => ?_
      cases hp : l.toArray[j]? with
      | none => exact ⟨undef, fun p _ h => by cases h⟩
      | some p =>
        by_cases hjm : j < m
        · obtain ⟨v, h1, h2⟩ := hvals j p hjm hp
          exact ⟨v, fun p' _ h => by injection h with h; subst h; exact ⟨h1, h2⟩⟩
        · exact ⟨undef, fun p' h => absurd h hjm⟩
    obtain ⟨vs, hvs⟩ := hvs
    have hK' := hK w' hI
    refine relEnd_at (K := fun a' w'' => wpList P l.toArray Q (l.drop m) a' w'') a' vs (l.take m) Vf 0 a (by rw [hA.len, List.length_take]; omega) (fun j V hV => ?_) hdef.symm hsize.symm (fun j p d hj hd => ?_) (fun t ht => (hrest t (by simpa using ht)).symm) hK'
    · have hj : j < m := by rw [← hA.len]; exact (List.getElem?_eq_some_iff.1 hV).1
      have hjl : j < l.length := by omega
      have := (hvs j l[j] hj (by simp [hjl])).1
      rw [List.getD, hV] at this
      rw [Nat.zero_add]
      exact this
    · have hjm : j < m := by
        have := (List.getElem?_eq_some_iff.1 hj).1
        rw [List.length_take] at this; omega
      rw [Nat.zero_add]
      refine (hvs j p hjm ?_).2 d hd
      rw [List.getElem?_take, if_pos hjm] at hj
      simpa using hj
  · simp
  · exfalso
    have hi : i < l.length := by
      have := (Array.getElem?_eq_some_iff.1 ho).1
      simpa using this
    simp [hi] at hl
  · exfalso
    have hj' : j < l.length := by omega
    simp [hj'] at hl
end
end Go.Proofs.YtgcdfoadegojcaaDoor
