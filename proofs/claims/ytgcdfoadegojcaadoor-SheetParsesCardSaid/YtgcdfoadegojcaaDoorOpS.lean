/- Stage 8: how a sheet and a list of texts are opened, with the form's own reach. -/
import Derived.ChangeArms
import Derived.Test.YtgcdfoadegojcaaDoorOp
import Derived.Test.YtgcdfoadegojcaaDoorShtB
import Derived.SizedLaws
namespace Go.Proofs.YtgcdfoadegojcaaDoor
open Go.RowKit Go.ChangeShapes Go.WideShapes Go.ChangeAt
set_option linter.unusedVariables false
/-- A list of texts that came in. -/
structure TxOk (w : World) (v : Value) (l : List ByteArray) : Prop where
  row : RowAt w v (l.map Value.string)
  cap : CapOk v
  each : ∀ s ∈ l, s.size ≤ maxLen
  len : l.length ≤ 140737488355328
/-- A sheet that came in. -/
structure ShOk (w : World) (n : Int) (p : Option Addr) (c : Nat) (l : List ByteArray) : Prop where
  tx : TxOk w (.slice p l.length c) l
  num : -9223372036854775808 ≤ n ∧ n ≤ 9223372036854775807
theorem cells_sheet : Tryd.prog.cellsOf 30 = 2 := by kernel_rfl
theorem cellsS_int : Tryd.prog.cellsOf 3 = 1 := by kernel_rfl
theorem cellsS_str : Tryd.prog.cellsOf 9 = 1 := by kernel_rfl
theorem cellsS_strs : Tryd.prog.cellsOf 22 = 1 := by kernel_rfl
theorem bytesS_str : 1 ≤ Tryd.prog.bytesOf 9 := of_decide_eq_true (by kernel_rfl)
section
variable {H : Type} {enc : TypeId × Value → H} {w : World} {base : Nat} {held : Bool}
theorem tx_of {fuel : Nat} {cs : List Value} {x : DataW H × List MemPlace} (h : DataW.trod enc Tryd.prog w base (fun _ => true) held fuel 22 cs = some x) :
    ∃ v l, cs = [v] ∧ RowAt w v (l.map Value.string) ∧ CapOk v ∧ (∀ s ∈ l, s.size ≤ maxLen) ∧ (l = [] ∨ ∃ q, q ∈ x.1.weights Tryd.prog 22 ∧ l.length ≤ q) := by
  rcases open_strings Tryd.underlying22 Tryd.underlying9 cellsS_str h with ⟨rfl, _⟩ | ⟨a, len, c, ss, rfl, _, hl, hm, hz, hx, hcell, hws⟩
  · exact ⟨_, [], rfl, ⟨none, 0, rfl, .inl rfl⟩, capok_lit _ _, by simp, .inl rfl⟩
  · have hll : len ≤ ss.length := by rw [hz]; simpa using hl
    refine ⟨_, ss.take len, rfl, row_of_cells _ _ _ _ _ (by simp; omega) (fun i hi => ?_), ?_, fun s hs => hws s (List.mem_of_mem_take hs), .inr ⟨((ss.take len).length + (ss.drop len).length) * Tryd.prog.bytesOf 9, ?_, ?_⟩⟩
    · simp only [List.length_map, List.length_take] at hi
      have hi' : i < ss.length := by omega
      rw [hcell i hi']
      simp [show i < len by omega, List.getElem?_eq_getElem hi']
    · intro p n c' e; injection e with _ e2 e3; omega
    · rw [hx]
      simp only [DataW.weights, Tryd.underlying22, List.mem_cons]
      left
      unfold strs
      rw [List.length_map, List.length_map]
    · have := bytesS_str
      have h1 := Nat.mul_le_mul_left ((ss.take len).length + (ss.drop len).length) this
      omega
theorem open_textsz {r : Reach} {b0 : Nat} {v : Value} {d : DataW H} {ps : List MemPlace} {ts : List TypeId} {ds : List (DataW H)} (hsz : (DataW.weightsEach Tryd.prog ts ds).all (· ≤ reachBytes) = true) {j : Nat} (hts : ts[j]? = some 22) (hds : ds[j]? = some d)
    (hval : Value.okWide Tryd.prog w r b0 22 v) (hd : DataW.Trod enc Tryd.prog w base (fun _ => true) held 22 v d ps) : ∃ l, TxOk w v l := by
  have hR : reachBytes ≤ 140737488355328 := by decide
  obtain ⟨a, len, cap, rfl⟩ := okWide_slice Tryd.underlying22 hval
  obtain ⟨fuel, hf⟩ := hd
  obtain ⟨v, l, e, h1, h2, h3, h4⟩ := tx_of hf
  simp [Value.cells] at e
  subst e
  refine ⟨l, h1, h2, h3, ?_⟩
  rcases h4 with rfl | ⟨q, hq, hle⟩
  · simp
  · have := List.all_eq_true.1 hsz _ (DataW.weights_mem_each hts hds _ hq)
    have : q ≤ reachBytes := by simpa using this
    omega
theorem open_sheet {r : Reach} {b0 : Nat} {v : Value} {d : DataW H} {ps : List MemPlace} {ts : List TypeId} {ds : List (DataW H)} (hsz : (DataW.weightsEach Tryd.prog ts ds).all (· ≤ reachBytes) = true) {j : Nat} (hts : ts[j]? = some 30) (hds : ds[j]? = some d)
    (hval : Value.okWide Tryd.prog w r b0 30 v) (hd : DataW.Trod enc Tryd.prog w base (fun _ => true) held 30 v d ps) : ∃ n p c l, v = .agg #[.int .i64 n, .slice p l.length c] ∧ ShOk w n p c l := by
  have hR : reachBytes ≤ 140737488355328 := by decide
  obtain ⟨cs, rfl, hcs⟩ := okWide_struct Tryd.underlying30 hval
  obtain ⟨fuel, hf⟩ := hd
  obtain ⟨xs, m, _, hx, hlen, hxl, hf⟩ := DataW.trod_struct Tryd.underlying30 hf
  rw [cells_sheet] at hlen
  have hcl : (Value.agg cs).cells.toList = cs.toList := rfl
  match hc : (Value.agg cs).cells.toList, hlen with
  | [c0, c1], _ =>
    match xs, hxl with
    | [y0, y1], _ =>
      rw [hc] at hf
      have h0 : DataW.trod enc Tryd.prog w base (fun _ => true) held m 3 (([c0, c1].drop 0).take (Tryd.prog.cellsOf 3)) = some y0 := hf 0 _ rfl
      have h1 : DataW.trod enc Tryd.prog w base (fun _ => true) held m 22 (([c0, c1].drop 1).take (Tryd.prog.cellsOf 22)) = some y1 := hf 1 _ rfl
      rw [cellsS_int] at h0
      rw [cellsS_strs] at h1
      obtain ⟨n, e0, _, w0⟩ := DataW.trod_int Tryd.underlying3 h0
      obtain ⟨v1, l, e1, a1, a2, a3, a4⟩ := tx_of h1
      simp at e0 e1
      subst e0 e1
      obtain ⟨p, c, hv⟩ := row_form a1
      subst hv
      have hcs2 : cs = #[.int .i64 n, .slice p l.length c] := by
        rw [hcl] at hc
        have := congrArg List.toArray hc
        simpa using this
      refine ⟨n, p, c, l, by rw [hcs2], ⟨a1, a2, a3, ?_⟩, bd_i64 w0⟩
      rcases a4 with rfl | ⟨q, hq, hle⟩
      · simp
      · have hmem : q ∈ d.weights Tryd.prog 30 := by
          have hd1 : d = .agg [y0.1, y1.1] := by injection hx
          rw [hd1]
          simp only [DataW.weights, Tryd.underlying30]
          exact DataW.weights_mem_each (j := 1) rfl rfl _ hq
        have := List.all_eq_true.1 hsz _ (DataW.weights_mem_each hts hds _ hmem)
        have : q ≤ reachBytes := by simpa using this
        omega
end
end Go.Proofs.YtgcdfoadegojcaaDoor
