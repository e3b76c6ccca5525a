/- Stage 5: how calls are opened. -/
import Derived.Test.YtgfmmchmkfboaaaOpK
import Derived.Test.YtgfmmchmkfboaaaDkL
namespace Go.Proofs.Ytgfmmchmkfboaaa
open Go.RowKit Go.ChangeShapes Go.WideShapes Go.ChangeAt Go.Deep
set_option linter.unusedVariables false
theorem cells_oc : Try.prog.cellsOf 31 = 5 := by kernel_rfl
theorem cells_int : Try.prog.cellsOf 3 = 1 := by kernel_rfl
theorem cells_str : Try.prog.cellsOf 9 = 1 := by kernel_rfl
theorem cells_ints : Try.prog.cellsOf 29 = 1 := by kernel_rfl
theorem bytes_int : Try.prog.bytesOf 3 = 8 := by kernel_rfl
section
variable {H : Type} {enc : TypeId × Value → H} {w : World} {base : Nat} {held : Bool} {sp : Nat → Bool}
theorem open_oc {fuel : Nat} {cs : List Value} {x : DataW H × List MemPlace} (h : DataW.trod enc Try.prog w base (fun _ => true) held fuel 31 cs = some x) :
    ∃ o : Oc, cs = o.cells ∧ ∃ ks : List Int, RowAt w o.keeps (ks.map (Value.int .i64)) ∧ (∀ n ∈ ks, -9223372036854775808 ≤ n ∧ n ≤ 9223372036854775807) ∧ (-9223372036854775808 ≤ o.kind ∧ o.kind ≤ 9223372036854775807) ∧ (-9223372036854775808 ≤ o.num ∧ o.num ≤ 9223372036854775807) ∧ o.name.size ≤ maxLen ∧ o.data.size ≤ maxLen ∧ (ks = [] ∨ ∃ q ∈ x.1.weights Try.prog 31, ks.length ≤ q) := by
  obtain ⟨xs, n, _, hx, hlen, hxl, hf⟩ := DataW.trod_struct Try.underlying31 h
  rw [cells_oc] at hlen
  match cs, hlen with
  | [c0, c1, c2, c3, c4], _ =>
    match xs, hxl with
    | [y0, y1, y2, y3, y4], _ =>
      have h0 : DataW.trod enc Try.prog w base (fun _ => true) held n 3 (([c0, c1, c2, c3, c4].drop 0).take (Try.prog.cellsOf 3)) = some y0 := hf 0 _ rfl
      have h1 : DataW.trod enc Try.prog w base (fun _ => true) held n 9 (([c0, c1, c2, c3, c4].drop 1).take (Try.prog.cellsOf 9)) = some y1 := hf 1 _ rfl
      have h2 : DataW.trod enc Try.prog w base (fun _ => true) held n 9 (([c0, c1, c2, c3, c4].drop 2).take (Try.prog.cellsOf 9)) = some y2 := hf 2 _ rfl
      have h3 : DataW.trod enc Try.prog w base (fun _ => true) held n 3 (([c0, c1, c2, c3, c4].drop 3).take (Try.prog.cellsOf 3)) = some y3 := hf 3 _ rfl
      have h4 : DataW.trod enc Try.prog w base (fun _ => true) held n 29 (([c0, c1, c2, c3, c4].drop 4).take (Try.prog.cellsOf 29)) = some y4 := hf 4 _ rfl
      rw [cells_int] at h0 h3
      rw [cells_str] at h1 h2
      rw [cells_ints] at h4
      obtain ⟨a, e0, _, w0⟩ := DataW.trod_int Try.underlying3 h0
      obtain ⟨s1, e1, _, w1⟩ := DataW.trod_string Try.underlying9 h1
      obtain ⟨s2, e2, _, w2⟩ := DataW.trod_string Try.underlying9 h2
      obtain ⟨b, e3, _, w3⟩ := DataW.trod_int Try.underlying3 h3
      simp at e0 e1 e2 e3
      subst e0 e1 e2 e3
      rcases open_ints Try.underlying29 Try.underlying3 cells_int h4 with ⟨e5, _⟩ | ⟨p, len, c, zs, e5, _, hl, hm, hz, hy, hcell, hws⟩
      · simp at e5
        subst e5
        exact ⟨⟨a, s1, s2, b, _⟩, rfl, [], ⟨none, 0, rfl, .inl rfl⟩, by simp, bd_i64 w0, bd_i64 w3, w1, w2, .inl rfl⟩
      · simp at e5
        subst e5
        have hzc : len ≤ zs.length := by rw [hz]; simpa using hl
        refine ⟨⟨a, s1, s2, b, _⟩, rfl, zs.take len, row_of_cells _ _ _ _ _ (by simp; omega) (fun i hi => ?_), fun n hn => bd_i64 (hws n (List.mem_of_mem_take hn)), bd_i64 w0, bd_i64 w3, w1, w2, .inr ?_⟩
        · simp only [List.length_map, List.length_take] at hi
          have hi' : i < zs.length := by omega
          rw [hcell i hi']
          simp [show i < len by omega, List.getElem?_eq_getElem hi']
        · refine ⟨((zs.take len).length + (zs.drop len).length) * 8, ?_, by rw [List.length_take, List.length_drop]; omega⟩
          have hy4 : y4.1 = .slice (lits .i64 (zs.take len)) (lits .i64 (zs.drop len)) := by rw [hy]
          rw [hx]
          simp only [DataW.weights, Try.underlying31]
          refine each_weights (j := 4) rfl rfl _ ?_
          simp only [hy4, DataW.weights, Try.underlying29, bytes_int, lits, List.length_map, List.mem_cons]
          first | exact .inl rfl | exact .inl trivial | simp
end
/-- A script that came in. -/
structure Scr (w : World) (v : Value) (S : List Oc) : Prop where
  read : ReadK Oc.cells 5 w v S
  len : S.length ≤ maxLen
  each : ∀ o ∈ S, ∃ ks, OcOk w o ks
theorem Scr.keep {w w' : World} {v : Value} {S : List Oc} (h : Scr w v S) (g : w.grownBy w' none) : Scr w' v S :=
  ⟨h.read.kept g, h.len, fun o ho => by obtain ⟨ks, hk⟩ := h.each o ho; exact ⟨ks, hk.keep g⟩⟩
theorem open_script {H : Type} {enc : TypeId × Value → H} {w : World} {base : Nat} {held : Bool} {r : Reach} {b0 : Nat} {v : Value} {d : DataW H} {ps : List MemPlace} {ts : List TypeId} {ds : List (DataW H)} (hsz : (DataW.weightsEach Try.prog ts ds).all (· ≤ reachBytes) = true) {j : Nat} (hts : ts[j]? = some 22) (hds : ds[j]? = some d)
    (hval : Value.okWide Try.prog w r b0 22 v) (hd : DataW.Trod enc Try.prog w base (fun _ => true) held 22 v d ps) : ∃ S, Scr w v S := by
  have hR : reachBytes ≤ 140737488355328 := by decide
  obtain ⟨S, h1, h2, h3, _⟩ := open_structs (Q := fun o x => ∃ ks : List Int, RowAt w o.keeps (ks.map (Value.int .i64)) ∧ (∀ n ∈ ks, -9223372036854775808 ≤ n ∧ n ≤ 9223372036854775807) ∧ (-9223372036854775808 ≤ o.kind ∧ o.kind ≤ 9223372036854775807) ∧ (-9223372036854775808 ≤ o.num ∧ o.num ≤ 9223372036854775807) ∧ o.name.size ≤ maxLen ∧ o.data.size ≤ maxLen ∧ (ks = [] ∨ ∃ q ∈ x.weights Try.prog 31, ks.length ≤ q)) Try.underlying22 cells_oc (by omega) Oc.len (fun fuel cs x h => open_oc h) hval hd
  refine ⟨S, h1, h3, fun o ho => ?_⟩
  obtain ⟨x, ⟨ks, a1, a2, a4, a5, a6, a6', a7⟩, hw⟩ := h2 o ho
  refine ⟨ks, a1, a2, ?_, a4.1, a4.2, a5.1, a5.2, a6, a6'⟩
  rcases a7 with e | ⟨q, hq, hle⟩
  · rw [e]; exact Nat.zero_le _
  · have := List.all_eq_true.1 hsz _ (DataW.weights_mem_each hts hds _ (hw q hq))
    have : q ≤ reachBytes := by simpa using this
    omega
theorem open_callv {H : Type} {enc : TypeId × Value → H} {w : World} {base : Nat} {held : Bool} {r : Reach} {b0 : Nat} {v : Value} {d : DataW H} {ps : List MemPlace} {ts : List TypeId} {ds : List (DataW H)} (hsz : (DataW.weightsEach Try.prog ts ds).all (· ≤ reachBytes) = true) {j : Nat} (hts : ts[j]? = some 31) (hds : ds[j]? = some d)
    (hval : Value.okWide Try.prog w r b0 31 v) (hd : DataW.Trod enc Try.prog w base (fun _ => true) held 31 v d ps) : ∃ (o : Oc) (ks : List Int), v = o.val ∧ OcOk w o ks := by
  have hR : reachBytes ≤ 140737488355328 := by decide
  obtain ⟨cs, rfl, hcs⟩ := okWide_struct Try.underlying31 hval
  obtain ⟨fuel, hf⟩ := hd
  obtain ⟨o, ho, ks, a1, a2, a4, a5, a6, a6', a7⟩ := open_oc hf
  refine ⟨o, ks, ?_, a1, a2, ?_, a4.1, a4.2, a5.1, a5.2, a6, a6'⟩
  · have : cs.toList = o.cells := ho
    have h2 : cs = o.cells.toArray := by rw [← this]
    rw [h2]; rfl
  · rcases a7 with e | ⟨q, hq, hle⟩
    · rw [e]; exact Nat.zero_le _
    · have := List.all_eq_true.1 hsz _ (DataW.weights_mem_each hts hds _ hq)
      have : q ≤ reachBytes := by simpa using this
      omega
end Go.Proofs.Ytgfmmchmkfboaaa
