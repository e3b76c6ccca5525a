/- Rows of structs of k cells in a block that may be longer than the row's capacity (the row was cut by 'l[:i:i]'). -/
import Derived.Test.YtgfmmchmkfboaaaStB
namespace Go.Proofs.Ytgfmmchmkfboaaa
open Go.RowKit
set_option linter.unusedVariables false
section
variable {α : Type} {enc : α → List Value} {k : Nat} {L M : List α} {e : TypeId} {w w' : World} {v : Value}
def OwnX (enc : α → List Value) (k : Nat) (e : TypeId) (w : World) (v : Value) (L : List α) : Prop :=
  (v = .slice none 0 0 ∧ L = []) ∨ ∃ (g cap : Nat) (cur : Array Value), v = .slice (some ⟨g, 0, none⟩) L.length cap ∧ w.heap[g]? = some (.cells cur e (0, 0)) ∧ L.length ≤ cap ∧ cap ≤ maxLen ∧ cap * k ≤ cur.size ∧ cur.toList.take (L.length * k) = cellsK enc L
theorem OwnX.of (h : OwnK enc k e w v L) : OwnX enc k e w v L := by
  rcases h.2 with ⟨rfl, hn⟩ | ⟨g, cap, cur, rfl, _, hh, h3, h4, h5, h6⟩
  · exact .inl ⟨rfl, List.eq_nil_of_length_eq_zero hn⟩
  · exact .inr ⟨g, cap, cur, rfl, hh, h3, h4, Nat.le_of_eq h5.symm, h6⟩
theorem OwnX.nil (e : TypeId) (w : World) : OwnX enc k e w (.slice none 0 0) [] := .inl ⟨rfl, rfl⟩
theorem OwnX.lt (h : OwnX enc k e w v L) {g : Nat} (hg : v.ownBlock = some g) : g < w.heap.size := by
  rcases h with ⟨rfl, _⟩ | ⟨g', cap, cur, rfl, hh, _⟩
  · simp [Value.ownBlock] at hg
  · simp [Value.ownBlock] at hg
    subst hg
    exact (Array.getElem?_eq_some_iff.1 hh).1
theorem OwnX.same (h : OwnX enc k e w v L) (hb : ∀ g, v.ownBlock = some g → w'.heap[g]? = w.heap[g]?) : OwnX enc k e w' v L := by
  rcases h with h | ⟨g', cap, cur, rfl, hh, r⟩
  · exact .inl h
  · exact .inr ⟨g', cap, cur, rfl, (hb g' rfl).trans hh, r⟩
theorem OwnX.kept {row : Option Nat} (h : OwnX enc k e w v L) (hg : w.grownBy w' row) (hne : v.ownBlock = none ∨ v.ownBlock ≠ row) : OwnX enc k e w' v L :=
  h.same fun g hgg => hg.block g (h.lt hgg) (by rcases hne with x | x; · rw [x] at hgg; cases hgg
                                                · rw [← hgg]; exact x)
theorem OwnX.keep (h : OwnX enc k e w v L) (hg : w.grownBy w' none) : OwnX enc k e w' v L := h.same fun g hgg => hg.block g (h.lt hgg) (by simp)
theorem OwnX.drew (h : OwnX enc k e w v L) : OwnX enc k e w.drew v L := h
theorem Chg.ownX {S : Nat → Prop} (a : Chg S w w') (h : OwnX enc k e w v L) (hn : ∀ g, v.ownBlock = some g → ¬ S g) : OwnX enc k e w' v L := h.same fun g hg => a.block g (h.lt hg) (hn g hg)
theorem OwnX.form (h : OwnX enc k e w v L) : (v = .slice none 0 0 ∧ L = []) ∨ ∃ (g cap : Nat), v = .slice (some ⟨g, 0, none⟩) L.length cap ∧ L.length ≤ cap ∧ cap ≤ maxLen := by
  rcases h with h | ⟨g', cap, cur, rfl, hh, h3, h4, r⟩
  · exact .inl h
  · exact .inr ⟨g', cap, rfl, h3, h4⟩
theorem OwnX.cells (hk : ∀ x, (enc x).length = k) {g n c : Nat} (h : OwnX enc k e w (.slice (some ⟨g, 0, none⟩) n c) L) : n = L.length ∧ ∀ j, j < n * k → w.cell? ⟨g, j, none⟩ = some ((cellsK enc L).getD j undef) := by
  rcases h with ⟨h, _⟩ | ⟨g', cap, cur, h0, hh, h3, h4, h5, h6⟩
  · cases h
  · injection h0 with e1 e2 e3; injection e1 with e1; injection e1 with e1
    subst e1 e3 e2
    refine ⟨rfl, fun j hj => ?_⟩
    rw [cell_of_row w g j cur e (0, 0) hh]
    rw [← h6]
    have hnc : L.length * k ≤ c * k := Nat.mul_le_mul_right _ h3
    have hlt : j < cur.size := by omega
    rw [List.getD, List.getElem?_take_of_lt hj, Array.getElem?_toList, Array.getElem?_eq_getElem hlt]; rfl
theorem OwnX.read (hk : ∀ x, (enc x).length = k) (h : OwnX enc k e w v L) : ReadK enc k w v L := by
  rcases h.form with ⟨rfl, rfl⟩ | ⟨g, cap, rfl, h3, h4⟩
  · exact ⟨none, 0, rfl, .inl rfl⟩
  · refine ⟨_, cap, rfl, .inr ⟨g, 0, rfl, h.lt rfl, fun j hj => ?_⟩⟩
    rw [Nat.zero_add]
    exact (h.cells hk).2 j hj
theorem OwnX.at_ (hk : ∀ x, (enc x).length = k) {g n c : Nat} (h : OwnX enc k e w (.slice (some ⟨g, 0, none⟩) n c) L) (i : Nat) (hi : i < n) (x : α) (hx : L[i]? = some x) (j : Nat) (hj : j < k) : w.cell? ⟨g, i * k + j, none⟩ = some ((enc x).getD j undef) := by
  obtain ⟨rfl, hc⟩ := h.cells hk
  have hlt : i * k + j < L.length * k := by
    have : (i + 1) * k ≤ L.length * k := Nat.mul_le_mul_right _ hi
    rw [Nat.add_mul, Nat.one_mul] at this; omega
  rw [hc _ hlt, List.getD, cellsK_get hk L i j hj, hx]; rfl
theorem OwnX.frozen {g n c : Nat} (h : OwnX enc k e w (.slice (some ⟨g, 0, none⟩) n c) L) (i : Nat) : w.frozen? ⟨g, i, none⟩ = false := by
  rcases h with ⟨h, _⟩ | ⟨g', cap, cur, h0, hh, h3, h4, h5, h6⟩
  · cases h
  · injection h0 with e1 e2 e3; injection e1 with e1; injection e1 with e1
    subst e1
    simp [World.frozen?, hh]
theorem OwnX.cut (hk : ∀ x, (enc x).length = k) {g n c : Nat} (h : OwnX enc k e w (.slice (some ⟨g, 0, none⟩) n c) L) (i : Nat) (hi : i ≤ n) : OwnX enc k e w (.slice (some ⟨g, 0, none⟩) i i) (L.take i) := by
  rcases h with ⟨h0, _⟩ | ⟨g', cap, cur, h0, hh, h3, h4, h5, h6⟩
  · cases h0
  · injection h0 with e1 e2 e3; injection e1 with e1; injection e1 with e1
    subst e1 e3 e2
    have hl : (L.take i).length = i := by rw [List.length_take]; omega
    have hic : i * k ≤ c * k := Nat.mul_le_mul_right _ (by omega)
    refine .inr ⟨g, i, cur, by rw [hl], hh, by omega, by omega, by omega, ?_⟩
    rw [hl, ← cellsK_take hk, ← h6, List.take_take, Nat.min_eq_left (Nat.mul_le_mul_right _ (by omega))]
theorem cellsK_set1 (hk : ∀ x, (enc x).length = k) (i j : Nat) (hj : j < k) (x : α) (u : Value) : ∀ (i : Nat) (L : List α) (h : i < L.length) (hx : enc x = (enc L[i]).set j u), cellsK enc (L.set i x) = (cellsK enc L).set (i * k + j) u
  | 0, y :: L, _, hx => by
    rw [List.set_cons_zero, cellsK_cons, cellsK_cons, Nat.zero_mul, Nat.zero_add, List.set_append_left _ _ (by rw [hk]; exact hj)]
    congr 1
  | i + 1, y :: L, h, hx => by
    rw [List.set_cons_succ, cellsK_cons, cellsK_cons, cellsK_set1 hk i j hj x u i L (by simpa using h) (by simpa using hx), List.set_append_right _ _ (by rw [hk, Nat.add_mul]; omega), hk]
    congr 2
    rw [Nat.add_mul]; omega
theorem OwnX.set1 (hk : ∀ x, (enc x).length = k) {g n c : Nat} (h : OwnX enc k e w (.slice (some ⟨g, 0, none⟩) n c) L) (i : Nat) (hi : i < L.length) (x : α) (j : Nat) (hj : j < k) (u : Value) (hx : enc x = (enc L[i]).set j u) :
    OwnX enc k e (w.setCell ⟨g, i * k + j, none⟩ u) (.slice (some ⟨g, 0, none⟩) n c) (L.set i x) := by
  rcases h with ⟨h0, _⟩ | ⟨g', cap, cur, h0, hh, h3, h4, h5, h6⟩
  · cases h0
  · injection h0 with e1 e2 e3; injection e1 with e1; injection e1 with e1
    subst e1 e3 e2
    refine .inr ⟨g, c, cur.setIfInBounds (i * k + j) u, by rw [List.length_set], ?_, by rw [List.length_set]; exact h3, h4, by rw [Array.size_setIfInBounds]; exact h5, ?_⟩
    · simp [World.setCell, Array.getElem?_modify, hh]
    · rw [List.length_set, cellsK_set1 hk i j hj x u i L hi hx, ← h6, Array.toList_setIfInBounds, List.take_set]
theorem OwnX.far (h : OwnX enc k e w v L) {p : Addr} (hp : v.ownBlock ≠ some p.block) (u : Value) : OwnX enc k e (w.setCell p u) v L := h.same fun g hg => Below.heap_setCell _ _ _ _ (fun e => hp (by rw [hg, e]))
/-- What is behind place i. -/
theorem ReadK.drop (hk : ∀ x, (enc x).length = k) {a : Option Addr} {n c : Nat} (h : ReadK enc k w (.slice a n c) L) (i : Nat) (hi : i ≤ L.length) (a' : Option Addr) (m c' : Nat) (hm : m = L.length - i)
    (ha : i < L.length → ∀ b off, a = some ⟨b, off, none⟩ → a' = some ⟨b, off + i * k, none⟩) : ReadK enc k w (.slice a' m c') (L.drop i) := by
  subst hm
  obtain ⟨a2, c2, e2, h⟩ := h
  injection e2 with e3 e4 e5
  subst e3
  refine ⟨a', c', by rw [List.length_drop], ?_⟩
  by_cases hlt : i < L.length
  · rcases h with rfl | ⟨b, off, rfl, hb, hc⟩
    · simp at hlt
    · refine .inr ⟨b, off + i * k, ha hlt b off rfl, hb, fun j hj => ?_⟩
      rw [List.length_drop, Nat.sub_mul] at hj
      rw [Nat.add_assoc, hc (i * k + j) (by omega), ← cellsK_drop hk, List.getD, List.getD, List.getElem?_drop]
  · exact .inl (List.drop_eq_nil_of_le (by omega))
variable {P : Program}
theorem run_append_x (w : World) (t ty e : TypeId) (i : TypeInfo) (z : Value) (bytes : Nat) (hk : ∀ x, (enc x).length = k) (h1 : ∀ x, ∀ v ∈ enc x, v.oneCell' = true) (hk0 : 0 < k)
    (ht : P.underlying t = some (.slice e)) (hi : P.info? e = some i) (hz : i.zero = some z) (hsize : i.size = k) (hby : i.bytes = bytes) (hzs : z.cells.size = k)
    (v : Value) (hv : v = .slice none 0 0 ∨ ∃ (g : Nat), v = .slice (some ⟨g, 0, none⟩) L.length L.length) (hown : OwnX enc k e w v L) (vs : Value) (hr : ReadK enc k w vs M) (h63 : L.length + M.length ≤ maxLen) (hbytes : (L.length + M.length) * bytes ≤ 140737488355328) :
    ∃ v' w', (Builtin.append_ #[t, t] ty #[v, vs]).run P w = .ok v' w' ∧ w.grownBy w' none ∧ ((M = [] ∧ v' = v ∧ w' = w) ∨ (OwnK enc k e w' v' (L ++ M) ∧ NewBlk w v')) := by
  rcases hv with rfl | ⟨g, rfl⟩
  · have hL : L = [] := by
      rcases hown with h | ⟨g, c, _, h, _⟩
      · exact h.2
      · cases h
    subst hL
    obtain ⟨v', w', hr, ho, hg, hm⟩ := run_append_k (P := P) w t ty e i z bytes hk h1 hk0 ht hi hz hsize hby hzs (.slice none 0 0) (OwnK.nil e w) vs hr h63 hbytes
    exact ⟨v', w', hr, hg, .inr ⟨ho, (newblk_nil w).moved (Nat.le_refl _) hm⟩⟩
  · by_cases hM : M = []
    · subst hM
      obtain ⟨a, cap, rfl, _⟩ := hr
      refine ⟨_, w, ?_, grow_refl _ _, .inl ⟨rfl, rfl, rfl⟩⟩
      cases a <;> simp [Builtin.append_, run_underlying ht, sizeOf, typeInfo, hi, Builtin.lenOf, Builtin.firstCells, loadCells, loadCellsFrom, storeCells]
    · obtain ⟨a, cap, rfl, hc⟩ := hr
      rcases hc with h | ⟨b, off, rfl, hb, hc⟩
      · exact absurd h hM
      have hml : 0 < M.length := List.length_pos_iff.2 hM
      have hsmall : L.length + M.length ≤ 9223372036854775807 := by simp only [maxLen] at h63; omega
      have holds : ∀ j u, (cellsK enc L)[j]? = some u → w.cell? ((⟨g, 0, none⟩ : Addr).add j) = some u := by
        intro j u hu
        have hj : j < L.length * k := by rw [← cellsK_len hk]; exact (List.getElem?_eq_some_iff.1 hu).1
        have hadd : (⟨g, 0, none⟩ : Addr).add j = ⟨g, j, none⟩ := by unfold Addr.add; split <;> simp_all
        rw [hadd, (hown.cells hk).2 j hj, List.getD, hu]; rfl
      have hnews : ∀ j u, (cellsK enc M)[j]? = some u → w.cell? ((⟨b, off, none⟩ : Addr).add j) = some u := by
        intro j u hu
        have hj : j < M.length * k := by rw [← cellsK_len hk]; exact (List.getElem?_eq_some_iff.1 hu).1
        have hadd : (⟨b, off, none⟩ : Addr).add j = ⟨b, off + j, none⟩ := by unfold Addr.add; split <;> simp_all
        rw [hadd, hc j hj, List.getD, hu]; rfl
      subst hsize
      have hrun := run_append_grow (P := P) w t ty e i z ht hi hz ⟨g, 0, none⟩ L.length L.length (cellsK enc L) (cellsK_len hk L) holds ⟨b, off, none⟩ M.length cap (cellsK enc M) (cellsK_len hk M) hnews (by omega) (by omega) (growslice_fits (by omega) (by rw [hby]; exact hbytes))
      have hge := grownCap_ge w (L.length + M.length) L.length e
      have hcm : grownCap w (L.length + M.length) L.length e ≤ maxLen := grownCap_le_maxLen w (L.length + M.length) L.length e h63
      have hlen : (cellsK enc (L ++ M)).length = (L.length + M.length) * i.size := by rw [cellsK_len hk, List.length_append]
      refine ⟨_, _, hrun, grow_none (grow_drawn (grow_refl w none)) (World.grownBy_alloc _ _ _), .inr ⟨?_, newblk_at w _ _ _ (Nat.le_refl _) 0⟩⟩
      unfold OwnK
      rw [List.length_append]
      refine ⟨hlen, .inr ⟨w.heap.size, _, _, rfl, Nat.zero_le _, heap_alloc_new w.drew _, hge, hcm, ?_, ?_⟩⟩
      · simp only [Array.size_append, List.size_toArray, size_zeroCells, hzs, cellsK_len hk, ← Nat.add_mul]
        congr 1
        omega
      · simp only [Array.toList_append, List.append_assoc]
        rw [← List.append_assoc, ← hlen, cellsK_app]
        exact List.take_left
theorem step_append_x {w : World} {ops : Array Oper} {o : Oper} {a : Act} {K : Act → World → Prop} {Q : Exit → Act → World → Prop} {E : Prop} (s x : Operand) (t : TypeId)
    (ho : o.op = .call { callee := .builtin .append, args := #[s, x], argTypes := #[t, t] })
    (e : TypeId) (i : TypeInfo) (z : Value) (bytes : Nat) (hk : ∀ x, (enc x).length = k) (h1 : ∀ x, ∀ v ∈ enc x, v.oneCell' = true) (hk0 : 0 < k)
    (ht : P.underlying t = some (.slice e)) (hi : P.info? e = some i) (hz : i.zero = some z) (hsize : i.size = k) (hby : i.bytes = bytes) (hzs : z.cells.size = k)
    (v : Value) (hs : a.eval s = v) (hv : v = .slice none 0 0 ∨ ∃ (g : Nat), v = .slice (some ⟨g, 0, none⟩) L.length L.length) (hown : OwnX enc k e w v L) (vs : Value) (hx : a.eval x = vs) (hr : ReadK enc k w vs M)
    (h63 : L.length + M.length ≤ maxLen) (hbytes : (L.length + M.length) * bytes ≤ 140737488355328) (hw : Region.wanted o (yielded ops a.tmps) = true)
    (h : ∀ v' w', w.grownBy w' none → ((M = [] ∧ v' = v ∧ w' = w) ∨ (OwnK enc k e w' v' (L ++ M) ∧ NewBlk w v')) → K (a.put o.dst v') w') : if Region.wanted o (yielded ops a.tmps) = true then Oper.wp P o a w K Q else E := by
  rw [if_pos hw]
  obtain ⟨v', w', hrun, h2, h3⟩ := run_append_x (P := P) w t o.type e i z bytes hk h1 hk0 ht hi hz hsize hby hzs v hv hown vs hr h63 hbytes
  unfold Oper.wp execOp
  simp only [ho, resolve, invoke, builtin, Sem.run_bind, Sem.run_pure, Result.andThen_ok, List.map_toArray, List.map_cons, List.map_nil, hs, hx, hrun]
  exact h v' w' h2 h3
theorem wpList_append_x {w : World} {ops : Array Oper} {rest : List Oper} {o : Oper} {a : Act} {Q : Exit → Act → World → Prop} (hgd : o.guard = none) (s x : Operand) (t : TypeId)
    (ho : o.op = .call { callee := .builtin .append, args := #[s, x], argTypes := #[t, t] })
    (e : TypeId) (i : TypeInfo) (z : Value) (bytes : Nat) (hk : ∀ x, (enc x).length = k) (h1 : ∀ x, ∀ v ∈ enc x, v.oneCell' = true) (hk0 : 0 < k)
    (ht : P.underlying t = some (.slice e)) (hi : P.info? e = some i) (hz : i.zero = some z) (hsize : i.size = k) (hby : i.bytes = bytes) (hzs : z.cells.size = k)
    (v : Value) (hs : a.eval s = v) (hv : v = .slice none 0 0 ∨ ∃ (g : Nat), v = .slice (some ⟨g, 0, none⟩) L.length L.length) (hown : OwnX enc k e w v L) (vs : Value) (hx : a.eval x = vs) (hr : ReadK enc k w vs M)
    (h63 : L.length + M.length ≤ maxLen) (hbytes : (L.length + M.length) * bytes ≤ 140737488355328)
    (h : ∀ v' w', w.grownBy w' none → ((M = [] ∧ v' = v ∧ w' = w) ∨ (OwnK enc k e w' v' (L ++ M) ∧ NewBlk w v')) → wpList P ops Q rest (a.put o.dst v') w') : wpList P ops Q (o :: rest) a w := by
  obtain ⟨v', w', hrun, h2, h3⟩ := run_append_x (P := P) w t o.type e i z bytes hk h1 hk0 ht hi hz hsize hby hzs v hv hown vs hr h63 hbytes
  refine wpList_plain hgd fun K hK => ?_
  unfold Oper.wp execOp
  simp only [ho, resolve, invoke, builtin, Sem.run_bind, Sem.run_pure, Result.andThen_ok, List.map_toArray, List.map_cons, List.map_nil, hs, hx, hrun]
  exact hK _ _ (h v' w' h2 h3)
end
end Go.Proofs.Ytgfmmchmkfboaaa
