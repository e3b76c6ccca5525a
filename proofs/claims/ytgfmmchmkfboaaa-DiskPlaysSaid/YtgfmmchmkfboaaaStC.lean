/- Rows of structs of k cells: a piece is struck out; what is behind is cleared. -/
import Derived.Test.YtgfmmchmkfboaaaStB
namespace Go.Proofs.Ytgfmmchmkfboaaa
open Go.RowKit
set_option linter.unusedVariables false
section
variable {α : Type} {enc : α → List Value} {k : Nat} {L M : List α} {P : Program}
theorem OwnK.parts {e : TypeId} {w : World} {g n c : Nat} (h : OwnK enc k e w (.slice (some ⟨g, 0, none⟩) n c) L) :
    ∃ cur : Array Value, n = L.length ∧ w.heap[g]? = some (.cells cur e (0, 0)) ∧ n ≤ c ∧ c ≤ maxLen ∧ cur.size = c * k ∧ cur.toList.take (n * k) = cellsK enc L := by
  rcases h.2 with ⟨h0, _⟩ | ⟨g', cap, cur, h0, hb, hh, h3, h4, h5, h6⟩
  · cases h0
  · injection h0 with e1 e2 e3; injection e1 with e1; injection e1 with e1
    subst e1 e3 e2
    exact ⟨cur, rfl, hh, h3, h4, h5, h6⟩
theorem OwnK.of_parts {e : TypeId} {w : World} {g n c : Nat} (hk : ∀ x, (enc x).length = k) (cur : Array Value) (hn : n = L.length) (hh : w.heap[g]? = some (.cells cur e (0, 0))) (h3 : n ≤ c) (h4 : c ≤ maxLen) (h5 : cur.size = c * k) (h6 : cur.toList.take (n * k) = cellsK enc L) :
    OwnK enc k e w (.slice (some ⟨g, 0, none⟩) n c) L := by
  subst hn
  exact ⟨cellsK_len hk L, .inr ⟨g, c, cur, rfl, Nat.zero_le _, hh, h3, h4, h5, h6⟩⟩
theorem setRow_grown (w : World) (g : Nat) (cs : Array Value) : w.grownBy (w.setRow g cs) (some g) :=
  ⟨rfl, rfl, rfl, by simp [World.setRow], fun i hi hn => by
    have : g ≠ i := fun e => hn (by rw [e])
    simp [World.setRow, Array.getElem?_modify, this]⟩
theorem run_del_k (w : World) (t ty e : TypeId) (i : TypeInfo) (hk : ∀ x, (enc x).length = k) (h1 : ∀ x, ∀ v ∈ enc x, v.oneCell' = true)
    (ht : P.underlying t = some (.slice e)) (hi : P.info? e = some i) (hsize : i.size = k) {g n c : Nat} (hown : OwnK enc k e w (.slice (some ⟨g, 0, none⟩) n c) L) (q j : Nat) (hq : q ≤ j) (hj : j ≤ n) (ad : Addr) (m cc : Nat) (hm : m = n - j) (had : n - j = 0 ∨ ad = ⟨g, j * k, none⟩) :
    ∃ w', (Builtin.append_ #[t, t] ty #[.slice (some ⟨g, 0, none⟩) q c, .slice (some ad) m cc]).run P w = .ok (.slice (some ⟨g, 0, none⟩) (q + m) c) w' ∧ w.grownBy w' (some g) ∧
      OwnK enc k e w' (.slice (some ⟨g, 0, none⟩) (q + m) c) (L.take q ++ L.drop j) := by
  subst hm
  have hrd := hown.read
  obtain ⟨cur, rfl, hh, h3, h4, h5, h6⟩ := hown.parts
  have hqc : q * k ≤ c * k := Nat.mul_le_mul_right _ (by omega)
  have hjn : j * k ≤ L.length * k := Nat.mul_le_mul_right _ hj
  have hnc : L.length * k ≤ c * k := Nat.mul_le_mul_right _ h3
  have hsum : (q + (L.length - j)) * k ≤ c * k := Nat.mul_le_mul_right _ (by omega)
  rw [Nat.add_mul] at hsum
  have hl : (cellsK enc (L.drop j)).length = (L.length - j) * k := by rw [cellsK_len hk, List.length_drop]
  have hcl : cur.toList.length = c * k := by simpa using h5
  have hr := run_append_room (P := P) w t ty e i ht hi g q c cur hh ad (L.length - j) cc (cellsK enc (L.drop j)) (by rw [hl, hsize]) (by
    intro x u hu
    have hx : x < (L.length - j) * k := by rw [← hl]; exact (List.getElem?_eq_some_iff.1 hu).1
    rcases had with h0 | rfl
    · rw [h0] at hx; simp at hx
    · obtain ⟨a', c', e', hc⟩ := hrd
      injection e' with e1 _ _
      rcases hc with h0 | ⟨b, off, e2, _, hc⟩
      · subst h0; simp at hx
      · rw [← e1] at e2
        injection e2 with e2; injection e2 with e2 e3
        subst e2 e3
        have hlt : j * k + x < L.length * k := by
          have : (L.length - j) * k = L.length * k - j * k := Nat.sub_mul _ _ _
          omega
        have hadd : (⟨g, j * k, none⟩ : Addr).add x = ⟨g, j * k + x, none⟩ := by unfold Addr.add; split <;> simp_all
        have h7 := hc (j * k + x) hlt
        rw [Nat.zero_add] at h7
        rw [hadd, h7, ← cellsK_drop hk, List.getElem?_drop] at *
        rw [List.getD, hu]; rfl) (cellsK_ones h1 _) (by omega) (by rw [hl, hsize, h5]; exact hsum)
  refine ⟨_, hr, setRow_grown _ _ _, ?_⟩
  have hsz : (cur.toList.take (q * i.size) ++ cellsK enc (L.drop j) ++ cur.toList.drop (q * i.size + (cellsK enc (L.drop j)).length)).length = c * k := by
    simp only [List.length_append, List.length_take, List.length_drop, hl, hsize, hcl]; omega
  refine OwnK.of_parts hk _ (by rw [List.length_append, List.length_take, List.length_drop]; omega) (setRow_heap w g cur _ e (0, 0) hh) (by omega) h4 (by rw [← hsz]; simp) ?_
  have q1 : (cur.toList.take (q * k)).length = q * k := by rw [List.length_take]; omega
  simp only [hsize]
  rw [List.append_assoc, List.take_append, q1, List.take_of_length_le (by rw [q1, Nat.add_mul]; omega), List.take_append, List.take_of_length_le (l := cellsK enc (L.drop j)) (by rw [hl, Nat.add_mul]; omega), hl, show (q + (L.length - j)) * k - q * k - (L.length - j) * k = 0 by rw [Nat.add_mul]; omega, List.take_zero, List.append_nil, cellsK_app, ← cellsK_take hk, ← h6, List.take_take, Nat.min_eq_left (Nat.mul_le_mul_right _ (by omega))]
theorem run_clear_own (w : World) (t e ty : TypeId) (z : Value) (hk : ∀ x, (enc x).length = k) (ht : P.underlying t = some (.slice e)) (hv : ∀ w, (zeroValue e).run P w = .ok z w) (h1 : ∀ v ∈ z.cells.toList, v.oneCell' = true) (hz : z.cells.size = k)
    {g q c : Nat} (hown : OwnK enc k e w (.slice (some ⟨g, 0, none⟩) q c) L) (p cc : Nat) (hp : 0 < p) (hpc : q + p ≤ c) :
    ∃ w', (Builtin.clear_ #[t] ty #[.slice (some ⟨g, q * k, none⟩) p cc]).run P w = .ok (.tuple #[]) w' ∧ w.grownBy w' (some g) ∧ OwnK enc k e w' (.slice (some ⟨g, 0, none⟩) q c) L := by
  obtain ⟨cur, rfl, hh, h3, h4, h5, h6⟩ := hown.parts
  have hcl : cur.toList.length = c * k := by simpa using h5
  have hfit : L.length * k + p * k ≤ c * k := by rw [← Nat.add_mul]; exact Nat.mul_le_mul_right _ hpc
  refine ⟨_, run_clear_k w t e ty z ht hv h1 g (L.length * k) p cc hp cur hh (by rw [hz, h5]; exact hfit), setRow_grown _ _ _, ?_⟩
  have hzl : (Builtin.zeroCells z.cells p).toList.length = p * k := by rw [Array.length_toList, size_zeroCells, hz]
  refine OwnK.of_parts hk _ rfl (setRow_heap w g cur _ e (0, 0) hh) h3 h4 ?_ ?_
  · simp only [List.size_toArray, List.length_append, List.length_take, List.length_drop, hzl, hcl]; omega
  · rw [List.append_assoc, List.take_append, List.take_take, Nat.min_self, h6, cellsK_len hk, Nat.sub_self, List.take_zero, List.append_nil]
/-- A builtin of two operands whose run is known. -/
theorem step_append_run {w w' : World} {ops : Array Oper} {o : Oper} {a : Act} {K : Act → World → Prop} {Q : Exit → Act → World → Prop} {E : Prop} (s x : Operand) (t : TypeId)
    (ho : o.op = .call { callee := .builtin .append, args := #[s, x], argTypes := #[t, t] }) (v vs u : Value) (hs : a.eval s = v) (hx : a.eval x = vs)
    (hrun : (Builtin.append_ #[t, t] o.type #[v, vs]).run P w = .ok u w') (hw : Region.wanted o (yielded ops a.tmps) = true)
    (h : K (a.put o.dst u) w') : if Region.wanted o (yielded ops a.tmps) = true then Oper.wp P o a w K Q else E := by
  rw [if_pos hw]
  unfold Oper.wp execOp
  simp only [ho, resolve, invoke, builtin, Sem.run_bind, Sem.run_pure, Result.andThen_ok, List.map_toArray, List.map_cons, List.map_nil, hs, hx, hrun]
  exact h
theorem wpList_clear_run {w w' : World} {ops : Array Oper} {rest : List Oper} {o : Oper} {a : Act} {Q : Exit → Act → World → Prop} (hgd : o.guard = none) (s : Operand) (t : TypeId)
    (ho : o.op = .call { callee := .builtin .clear, args := #[s], argTypes := #[t] }) (v u : Value) (hs : a.eval s = v)
    (hrun : (Builtin.clear_ #[t] o.type #[v]).run P w = .ok u w') (h : wpList P ops Q rest (a.put o.dst u) w') : wpList P ops Q (o :: rest) a w := by
  refine wpList_plain hgd fun K hK => ?_
  unfold Oper.wp execOp
  simp only [ho, resolve, invoke, builtin, Sem.run_bind, Sem.run_pure, Result.andThen_ok, List.map_toArray, List.map_cons, List.map_nil, hs, hrun]
  exact hK _ _ h
end
end Go.Proofs.Ytgfmmchmkfboaaa
