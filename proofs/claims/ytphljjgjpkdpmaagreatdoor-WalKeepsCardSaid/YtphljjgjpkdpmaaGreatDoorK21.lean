/- Several texts in one: StB. -/
import Derived.Test.YtphljjgjpkdpmaaGreatDoorK14
import Derived.Test.YtphljjgjpkdpmaaGreatDoorK3
import Derived.Lib.SliceRun
/- Rows of structs of k cells: append, clear, store. -/
namespace Go.Proofs.YtphljjgjpkdpmaaGreatDoor
open Go.RowKit
set_option linter.unusedVariables false
section
variable {α : Type} {enc : α → List Value} {k : Nat} {L M : List α} {P : Program}
theorem run_append_k (w : World) (t ty e : TypeId) (i : TypeInfo) (z : Value) (bytes : Nat) (hk : ∀ x, (enc x).length = k) (h1 : ∀ x, ∀ v ∈ enc x, v.oneCell' = true) (hk0 : 0 < k)
    (ht : P.underlying t = some (.slice e)) (hi : P.info? e = some i) (hz : i.zero = some z) (hsize : i.size = k) (hby : i.bytes = bytes) (hzs : z.cells.size = k)
    (v : Value) (hown : OwnK enc k e w v L) (vs : Value) (hr : ReadK enc k w vs M) (h63 : L.length + M.length ≤ maxLen) (hbytes : (L.length + M.length) * bytes ≤ 140737488355328) :
    ∃ v' w', (Builtin.append_ #[t, t] ty #[v, vs]).run P w = .ok v' w' ∧ OwnK enc k e w' v' (L ++ M) ∧ w.grownBy w' v.ownBlock ∧ Moved w v v' := by
  obtain ⟨a, cap, rfl, hc⟩ := hr
  rcases a with _ | ad
  · have hn : M = [] := by
      rcases hc with h | ⟨b, off, h, _⟩
      · exact h
      · cases h
    subst hn
    refine ⟨v, w, ?_, by simpa using hown, grow_refl _ _, Moved.refl _ _⟩
    rcases hown.2 with ⟨rfl, hn0⟩ | ⟨g, cp, cur, rfl, _, _, hnc, _⟩
    · simp [Builtin.append_, run_underlying ht, sizeOf, typeInfo, hi, Builtin.lenOf, Builtin.firstCells]
    · simp [Builtin.append_, run_underlying ht, sizeOf, typeInfo, hi, Builtin.lenOf, Builtin.firstCells, hnc, storeCells]
  · obtain ⟨v', w', hr, h2, h3, h4⟩ := run_append_buf w t ty e i z k bytes ht hi hz hsize hby hzs hk0 v L.length (cellsK enc L) hown ad M.length cap (cellsK enc M) (cellsK_len hk M) (by
      intro j u hu
      rcases hc with h | ⟨b, off, h, _, hc⟩
      · subst h; simp [cellsK] at hu
      · injection h with h
        subst h
        have hj : j < (cellsK enc M).length := (List.getElem?_eq_some_iff.1 hu).1
        have e : (⟨b, off, none⟩ : Addr).add j = ⟨b, off + j, none⟩ := by unfold Addr.add; split <;> simp_all
        rw [cellsK_len hk] at hj
        rw [e, hc j hj, List.getD, hu]; rfl) (cellsK_ones h1 M) h63 hbytes
    exact ⟨v', w', hr, by unfold OwnK; rw [cellsK_app, List.length_append]; exact h2, h3, h4⟩
theorem step_append_k {w : World} {ops : Array Oper} {o : Oper} {a : Act} {K : Act → World → Prop} {Q : Exit → Act → World → Prop} {E : Prop} (s x : Operand) (t : TypeId)
    (ho : o.op = .call { callee := .builtin .append, args := #[s, x], argTypes := #[t, t] })
    (e : TypeId) (i : TypeInfo) (z : Value) (bytes : Nat) (hk : ∀ x, (enc x).length = k) (h1 : ∀ x, ∀ v ∈ enc x, v.oneCell' = true) (hk0 : 0 < k)
    (ht : P.underlying t = some (.slice e)) (hi : P.info? e = some i) (hz : i.zero = some z) (hsize : i.size = k) (hby : i.bytes = bytes) (hzs : z.cells.size = k)
    (v : Value) (hs : a.eval s = v) (hown : OwnK enc k e w v L) (vs : Value) (hx : a.eval x = vs) (hr : ReadK enc k w vs M)
    (h63 : L.length + M.length ≤ maxLen) (hbytes : (L.length + M.length) * bytes ≤ 140737488355328) (hw : Region.wanted o (yielded ops a.tmps) = true)
    (h : ∀ v' w', OwnK enc k e w' v' (L ++ M) → w.grownBy w' v.ownBlock → Moved w v v' → K (a.put o.dst v') w') : if Region.wanted o (yielded ops a.tmps) = true then Oper.wp P o a w K Q else E := by
  rw [if_pos hw]
  obtain ⟨v', w', hrun, h2, h3, h4⟩ := run_append_k (P := P) w t o.type e i z bytes hk h1 hk0 ht hi hz hsize hby hzs v hown vs hr h63 hbytes
  unfold Oper.wp execOp
  simp only [ho, resolve, invoke, builtin, Sem.run_bind, Sem.run_pure, Result.andThen_ok, List.map_toArray, List.map_cons, List.map_nil, hs, hx, hrun]
  exact h v' w' h2 h3 h4
theorem wpList_append_k {w : World} {ops : Array Oper} {rest : List Oper} {o : Oper} {a : Act} {Q : Exit → Act → World → Prop} (hgd : o.guard = none) (s x : Operand) (t : TypeId)
    (ho : o.op = .call { callee := .builtin .append, args := #[s, x], argTypes := #[t, t] })
    (e : TypeId) (i : TypeInfo) (z : Value) (bytes : Nat) (hk : ∀ x, (enc x).length = k) (h1 : ∀ x, ∀ v ∈ enc x, v.oneCell' = true) (hk0 : 0 < k)
    (ht : P.underlying t = some (.slice e)) (hi : P.info? e = some i) (hz : i.zero = some z) (hsize : i.size = k) (hby : i.bytes = bytes) (hzs : z.cells.size = k)
    (v : Value) (hs : a.eval s = v) (hown : OwnK enc k e w v L) (vs : Value) (hx : a.eval x = vs) (hr : ReadK enc k w vs M)
    (h63 : L.length + M.length ≤ maxLen) (hbytes : (L.length + M.length) * bytes ≤ 140737488355328)
    (h : ∀ v' w', OwnK enc k e w' v' (L ++ M) → w.grownBy w' v.ownBlock → Moved w v v' → wpList P ops Q rest (a.put o.dst v') w') : wpList P ops Q (o :: rest) a w := by
  obtain ⟨v', w', hrun, h2, h3, h4⟩ := run_append_k (P := P) w t o.type e i z bytes hk h1 hk0 ht hi hz hsize hby hzs v hown vs hr h63 hbytes
  refine wpList_plain hgd fun K hK => ?_
  unfold Oper.wp execOp
  simp only [ho, resolve, invoke, builtin, Sem.run_bind, Sem.run_pure, Result.andThen_ok, List.map_toArray, List.map_cons, List.map_nil, hs, hx, hrun]
  exact hK _ _ (h v' w' h2 h3 h4)
/-- A block that was just laid reads as a row of one. -/
theorem ReadK.one (hk : ∀ x, (enc x).length = k) (w : World) (x : α) (t : TypeId) (c : Nat) (cs : Array Value) (hcs : cs = (enc x).toArray) : ReadK enc k (w.alloc (.cells cs t)) (.slice (some ⟨w.heap.size, 0, none⟩) 1 c) [x] := by
  subst hcs
  refine ⟨_, c, rfl, .inr ⟨w.heap.size, 0, rfl, by simp, fun j hj => ?_⟩⟩
  rw [World.cell?_alloc_at _ _ _ _ rfl, cellsK_one]
  have hj' : j < (enc x).length := by rw [hk]; simpa using hj
  simp [List.getD, List.getElem?_eq_getElem hj']
/-- An empty row that was just laid. -/
theorem OwnK.empty (e : TypeId) (w : World) : OwnK enc k e (w.alloc (.cells #[] e)) (.slice (some ⟨w.heap.size, 0, none⟩) 0 0) [] := by
  refine ⟨by simp [cellsK], .inr ⟨w.heap.size, 0, #[], rfl, Nat.zero_le _, heap_alloc_new w _, Nat.le_refl _, Nat.zero_le _, by simp, by simp [cellsK]⟩⟩
/-- A row cut at its end. -/
theorem OwnK.cut {e : TypeId} {w : World} {g n c : Nat} (hk : ∀ x, (enc x).length = k) (h : OwnK enc k e w (.slice (some ⟨g, 0, none⟩) n c) L) (i : Nat) (hi : i ≤ n) : OwnK enc k e w (.slice (some ⟨g, 0, none⟩) i c) (L.take i) := by
  rcases h.2 with ⟨h0, _⟩ | ⟨g', cap, cur, h0, hb, hh, h3, h4, h5, h6⟩
  · cases h0
  · injection h0 with e1 e2 e3; injection e1 with e1; injection e1 with e1
    subst e1 e3
    have hl : (L.take i).length = i := by rw [List.length_take]; omega
    refine ⟨by rw [cellsK_len hk], .inr ⟨g, c, cur, by rw [hl], Nat.zero_le _, hh, by omega, h4, h5, ?_⟩⟩
    rw [hl, ← cellsK_take hk, ← h6, List.take_take, Nat.min_eq_left (Nat.mul_le_mul_right _ (by omega))]
/-- The struct i is another one: its cells may be stored one by one. -/
theorem OwnK.put {e : TypeId} {w w' : World} {g n c : Nat} (hk : ∀ x, (enc x).length = k) (h : OwnK enc k e w (.slice (some ⟨g, 0, none⟩) n c) L) (i : Nat) (hi : i < n) (x : α)
    (hw : ∀ cur, w.heap[g]? = some (.cells cur e (0, 0)) → w'.heap[g]? = some (.cells (cur.toList.take (i * k) ++ enc x ++ cur.toList.drop (i * k + k)).toArray e (0, 0))) : OwnK enc k e w' (.slice (some ⟨g, 0, none⟩) n c) (L.set i x) := by
  have hn : n = L.length := by
    rcases h.2 with ⟨h0, _⟩ | ⟨g', cap, cur, h0, _⟩
    · cases h0
    · injection h0
  subst hn
  rcases h.2 with ⟨h0, _⟩ | ⟨g', cap, cur, h0, hb, hh, h3, h4, h5, h6⟩
  · cases h0
  · injection h0 with e1 e2 e3; injection e1 with e1; injection e1 with e1
    subst e1 e3
    have hik : i * k + k ≤ L.length * k := by
      have := Nat.mul_le_mul_right k hi; rw [Nat.succ_mul] at this; exact this
    have hck : L.length * k ≤ c * k := Nat.mul_le_mul_right _ h3
    have hcl : cur.toList.length = c * k := by simpa using h5
    have hsplit : cellsK enc (L.set i x) = (cellsK enc L).take (i * k) ++ enc x ++ (cellsK enc L).drop (i * k + k) := by
      rw [List.set_eq_take_append_cons_drop, if_pos hi, cellsK_app, cellsK_cons, cellsK_take hk, show i * k + k = (i + 1) * k by rw [Nat.succ_mul], cellsK_drop hk, List.append_assoc]
    refine ⟨by rw [cellsK_len hk], .inr ⟨g, c, _, by rw [List.length_set], Nat.zero_le _, hw cur hh, by rw [List.length_set]; exact h3, h4, ?_, ?_⟩⟩
    · simp only [List.size_toArray, List.length_append, List.length_take, List.length_drop, hk, hcl]; omega
    · rw [List.length_set, hsplit, ← h6]
      have q1 : (cur.toList.take (i * k)).length = i * k := by rw [List.length_take]; omega
      rw [List.take_append, List.take_append, List.take_of_length_le (l := cur.toList.take (i * k)) (by omega), q1, List.take_of_length_le (l := enc x) (by rw [hk]; omega), List.length_append, q1, hk, List.take_take, Nat.min_eq_left (by omega), List.take_drop, show i * k + k + (L.length * k - (i * k + k)) = L.length * k by omega]
theorem run_clear_k (w : World) (t e ty : TypeId) (z : Value) (ht : P.underlying t = some (.slice e)) (hv : ∀ w, (zeroValue e).run P w = .ok z w) (h1 : ∀ v ∈ z.cells.toList, v.oneCell' = true) (b o n c : Nat) (hn : 0 < n)
    (cur : Array Value) (hg : w.heap[b]? = some (.cells cur e (0, 0))) (hfit : o + n * z.cells.size ≤ cur.size) :
    (Builtin.clear_ #[t] ty #[.slice (some ⟨b, o, none⟩) n c]).run P w = .ok (.tuple #[]) (w.setRow b (cur.toList.take o ++ (Builtin.zeroCells z.cells n).toList ++ cur.toList.drop (o + (Builtin.zeroCells z.cells n).toList.length)).toArray) := by
  have hst := run_storeCells_at P b o e (Builtin.zeroCells z.cells n).toList 0 cur w hg (by rw [Array.length_toList, size_zeroCells]; omega) (by
    intro v hv
    rw [Builtin.zeroCells] at hv
    simp only [Array.toList_map, Array.toList_range, List.mem_map, List.mem_range] at hv
    obtain ⟨i, hi, rfl⟩ := hv
    have hz : z.cells.size ≠ 0 := by intro hz; rw [hz] at hi; simp at hi
    have hlt : i % z.cells.size < z.cells.size := Nat.mod_lt _ (by omega)
    apply h1
    rw [getElem!_pos z.cells _ hlt]; exact Array.getElem_mem_toList hlt)
  simp only [Nat.add_zero] at hst
  obtain ⟨m, rfl⟩ : ∃ m, n = m + 1 := ⟨n - 1, by omega⟩
  simp [Builtin.clear_, run_underlying ht, hv, hst]
end
end Go.Proofs.YtphljjgjpkdpmaaGreatDoor
