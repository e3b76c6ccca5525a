/- Stage 6: how letters and calls are opened. -/
import Derived.Test.YtpmfgjhkdokcbaaOpK
import Derived.Test.YtpmfgjhkdokcbaaPoPlays
namespace Go.Proofs.Ytpmfgjhkdokcbaa
open Go.RowKit Go.ChangeShapes Go.WideShapes Go.ChangeAt Go.Deep
set_option linter.unusedVariables false
def LtOk (l : Lt) : Prop := (-9223372036854775808 ≤ l.f ∧ l.f ≤ 9223372036854775807) ∧ (-9223372036854775808 ≤ l.t ∧ l.t ≤ 9223372036854775807) ∧ l.d.size ≤ maxLen
theorem cells_lt : Try.prog.cellsOf 33 = 3 := by kernel_rfl
theorem cells_cl : Try.prog.cellsOf 36 = 6 := by kernel_rfl
theorem cells_int : Try.prog.cellsOf 3 = 1 := by kernel_rfl
theorem cells_str : Try.prog.cellsOf 9 = 1 := by kernel_rfl
theorem cells_ints : Try.prog.cellsOf 34 = 1 := by kernel_rfl
theorem bytes_int : Try.prog.bytesOf 3 = 8 := by kernel_rfl
section
variable {H : Type} {enc : TypeId × Value → H} {w : World} {base : Nat} {held : Bool} {sp : Nat → Bool}
theorem open_let {fuel : Nat} {cs : List Value} {x : DataW H × List MemPlace} (h : DataW.trod enc Try.prog w base sp held fuel 33 cs = some x) : ∃ l : Lt, cs = l.cells ∧ LtOk l := by
  obtain ⟨xs, n, _, hx, hlen, hxl, hf⟩ := DataW.trod_struct Try.underlying33 h
  rw [cells_lt] at hlen
  match cs, hlen with
  | [c0, c1, c2], _ =>
    match xs, hxl with
    | [y0, y1, y2], _ =>
      have h0 : DataW.trod enc Try.prog w base sp held n 3 (([c0, c1, c2].drop 0).take (Try.prog.cellsOf 3)) = some y0 := hf 0 _ rfl
      have h1 : DataW.trod enc Try.prog w base sp held n 3 (([c0, c1, c2].drop 1).take (Try.prog.cellsOf 3)) = some y1 := hf 1 _ rfl
      have h2 : DataW.trod enc Try.prog w base sp held n 9 (([c0, c1, c2].drop 2).take (Try.prog.cellsOf 9)) = some y2 := hf 2 _ rfl
      rw [cells_int] at h0 h1
      rw [cells_str] at h2
      obtain ⟨a, e0, _, w0⟩ := DataW.trod_int Try.underlying3 h0
      obtain ⟨b, e1, _, w1⟩ := DataW.trod_int Try.underlying3 h1
      obtain ⟨s, e2, _, w2⟩ := DataW.trod_string Try.underlying9 h2
      simp at e0 e1 e2
      subst e0 e1 e2
      exact ⟨⟨a, b, s⟩, rfl, bd_i64 w0, bd_i64 w1, w2⟩
theorem open_call {fuel : Nat} {cs : List Value} {x : DataW H × List MemPlace} (h : DataW.trod enc Try.prog w base (fun _ => true) held fuel 36 cs = some x) :
    ∃ o : Cl, cs = o.cells ∧ ∃ ns : List Int, RowAt w o.n (ns.map (Value.int .i64)) ∧ (∀ n ∈ ns, -9223372036854775808 ≤ n ∧ n ≤ 9223372036854775807) ∧ LtOk o.l ∧ (-9223372036854775808 ≤ o.kind ∧ o.kind ≤ 9223372036854775807) ∧ (-9223372036854775808 ≤ o.k ∧ o.k ≤ 9223372036854775807) ∧ ns.length ≤ maxLen ∧ (ns = [] ∨ ∃ q ∈ x.1.weights Try.prog 36, ns.length ≤ q) := by
  obtain ⟨xs, n, _, hx, hlen, hxl, hf⟩ := DataW.trod_struct Try.underlying36 h
  rw [cells_cl] at hlen
  match cs, hlen with
  | [c0, c1, c2, c3, c4, c5], _ =>
    match xs, hxl with
    | [y0, y1, y2, y3], _ =>
      have h0 : DataW.trod enc Try.prog w base (fun _ => true) held n 3 (([c0, c1, c2, c3, c4, c5].drop 0).take (Try.prog.cellsOf 3)) = some y0 := hf 0 _ rfl
      have h1 : DataW.trod enc Try.prog w base (fun _ => true) held n 3 (([c0, c1, c2, c3, c4, c5].drop 1).take (Try.prog.cellsOf 3)) = some y1 := hf 1 _ rfl
      have h2 : DataW.trod enc Try.prog w base (fun _ => true) held n 33 (([c0, c1, c2, c3, c4, c5].drop 2).take (Try.prog.cellsOf 33)) = some y2 := hf 2 _ rfl
      have h3 : DataW.trod enc Try.prog w base (fun _ => true) held n 34 (([c0, c1, c2, c3, c4, c5].drop 5).take (Try.prog.cellsOf 34)) = some y3 := hf 3 _ rfl
      rw [cells_int] at h0 h1
      rw [cells_lt] at h2
      rw [cells_ints] at h3
      obtain ⟨a, e0, _, w0⟩ := DataW.trod_int Try.underlying3 h0
      obtain ⟨b, e1, _, w1⟩ := DataW.trod_int Try.underlying3 h1
      obtain ⟨l, e2, w2⟩ := open_let h2
      simp [Lt.cells] at e0 e1 e2
      obtain ⟨e2, e3, e4⟩ := e2
      subst e0 e1 e2 e3 e4
      rcases open_ints Try.underlying34 Try.underlying3 cells_int h3 with ⟨e5, _⟩ | ⟨p, len, c, zs, e5, _, hl, hm, hz, hy, hcell, hws⟩
      · simp at e5
        subst e5
        exact ⟨⟨a, b, l, _⟩, rfl, [], ⟨none, 0, rfl, .inl rfl⟩, by simp, w2, bd_i64 w0, bd_i64 w1, by simp, .inl rfl⟩
      · simp at e5
        subst e5
        have hzc : len ≤ zs.length := by rw [hz]; simpa using hl
        refine ⟨⟨a, b, l, _⟩, rfl, zs.take len, row_of_cells _ _ _ _ _ (by simp; omega) (fun i hi => ?_), fun n hn => bd_i64 (hws n (List.mem_of_mem_take hn)), w2, bd_i64 w0, bd_i64 w1, by rw [List.length_take]; omega, .inr ?_⟩
        · simp only [List.length_map, List.length_take] at hi
          have hi' : i < zs.length := by omega
          rw [hcell i hi']
          simp [show i < len by omega, List.getElem?_eq_getElem hi']
        · refine ⟨((zs.take len).length + (zs.drop len).length) * 8, ?_, by rw [List.length_take, List.length_drop]; omega⟩
          have hy3 : y3.1 = .slice (lits .i64 (zs.take len)) (lits .i64 (zs.drop len)) := by rw [hy]
          rw [hx]
          simp only [DataW.weights, Try.underlying36]
          refine each_weights (j := 3) rfl rfl _ ?_
          simp only [hy3, DataW.weights, Try.underlying34, bytes_int, lits, List.length_map, List.mem_cons]
          first | exact .inl rfl | exact .inl trivial | simp
end
theorem scr_of {w : World} {v : Value} {S : List Cl} (hr : ReadK Cl.cells 6 w v S) (hl : S.length ≤ maxLen) (he : ∀ o ∈ S, ∃ ns : List Int, RowAt w o.n (ns.map (Value.int .i64)) ∧ (∀ n ∈ ns, -9223372036854775808 ≤ n ∧ n ≤ 9223372036854775807) ∧ LtOk o.l ∧ (-9223372036854775808 ≤ o.kind ∧ o.kind ≤ 9223372036854775807) ∧ (-9223372036854775808 ≤ o.k ∧ o.k ≤ 9223372036854775807) ∧ ns.length ≤ 140737488355328) : Scr w v S :=
  ⟨hr, hl, fun o ho => by
    obtain ⟨ns, h1, h2, h3, h4, h5, h6⟩ := he o ho
    exact ⟨ns, h1, h2, h6, h4.1, h4.2, h5.1, h5.2, h3.2.2⟩⟩
theorem open_script {H : Type} {enc : TypeId × Value → H} {w : World} {base : Nat} {held : Bool} {r : Reach} {b0 : Nat} {v : Value} {d : DataW H} {ps : List MemPlace} {ts : List TypeId} {ds : List (DataW H)} (hsz : (DataW.weightsEach Try.prog ts ds).all (· ≤ reachBytes) = true) {j : Nat} (hts : ts[j]? = some 22) (hds : ds[j]? = some d)
    (hval : Value.okWide Try.prog w r b0 22 v) (hd : DataW.Trod enc Try.prog w base (fun _ => true) held 22 v d ps) : ∃ S, Scr w v S := by
  have hR : reachBytes ≤ 140737488355328 := by decide
  obtain ⟨S, h1, h2, h3, _⟩ := open_structs (Q := fun o x => ∃ ns : List Int, RowAt w o.n (ns.map (Value.int .i64)) ∧ (∀ n ∈ ns, -9223372036854775808 ≤ n ∧ n ≤ 9223372036854775807) ∧ LtOk o.l ∧ (-9223372036854775808 ≤ o.kind ∧ o.kind ≤ 9223372036854775807) ∧ (-9223372036854775808 ≤ o.k ∧ o.k ≤ 9223372036854775807) ∧ ns.length ≤ maxLen ∧ (ns = [] ∨ ∃ q ∈ x.weights Try.prog 36, ns.length ≤ q)) Try.underlying22 cells_cl (by omega) Cl.len (fun fuel cs x h => open_call h) hval hd
  refine ⟨S, scr_of h1 h3 fun o ho => ?_⟩
  obtain ⟨x, ⟨ns, a1, a2, a3, a4, a5, a6, a7⟩, hw⟩ := h2 o ho
  refine ⟨ns, a1, a2, a3, a4, a5, ?_⟩
  rcases a7 with e | ⟨q, hq, hle⟩
  · rw [e]; exact Nat.zero_le _
  · have := List.all_eq_true.1 hsz _ (DataW.weights_mem_each hts hds _ (hw q hq))
    have : q ≤ reachBytes := by simpa using this
    omega
theorem open_callv {H : Type} {enc : TypeId × Value → H} {w : World} {base : Nat} {held : Bool} {r : Reach} {b0 : Nat} {v : Value} {d : DataW H} {ps : List MemPlace} {ts : List TypeId} {ds : List (DataW H)} (hsz : (DataW.weightsEach Try.prog ts ds).all (· ≤ reachBytes) = true) {j : Nat} (hts : ts[j]? = some 36) (hds : ds[j]? = some d)
    (hval : Value.okWide Try.prog w r b0 36 v) (hd : DataW.Trod enc Try.prog w base (fun _ => true) held 36 v d ps) : ∃ (o : Cl) (ns : List Int), v = o.val ∧ ClOk w o ns := by
  have hR : reachBytes ≤ 140737488355328 := by decide
  obtain ⟨cs, rfl, hcs⟩ := okWide_struct Try.underlying36 hval
  obtain ⟨fuel, hf⟩ := hd
  obtain ⟨o, ho, ns, a1, a2, a3, a4, a5, a6, a7⟩ := open_call hf
  refine ⟨o, ns, ?_, a1, a2, ?_, a4.1, a4.2, a5.1, a5.2, a3.2.2⟩
  · have : cs.toList = o.cells := ho
    have h2 : cs = o.cells.toArray := by rw [← this]
    rw [h2]; rfl
  · rcases a7 with e | ⟨q, hq, hle⟩
    · rw [e]; exact Nat.zero_le _
    · have := List.all_eq_true.1 hsz _ (DataW.weights_mem_each hts hds _ hq)
      have : q ≤ reachBytes := by simpa using this
      omega
/-- A row of letters that came in. -/
structure Lrs (w : World) (v : Value) (S : List Lt) : Prop where
  read : ReadK Lt.cells 3 w v S
  len : S.length ≤ maxLen
  each : ∀ l ∈ S, LtOk l
theorem open_letters {H : Type} {enc : TypeId × Value → H} {w : World} {base : Nat} {held : Bool} {r : Reach} {b0 : Nat} {v : Value} {d : DataW H} {ps : List MemPlace}
    (hval : Value.okWide Try.prog w r b0 40 v) (hd : DataW.Trod enc Try.prog w base (fun _ => true) held 40 v d ps) : ∃ S, Lrs w v S := by
  obtain ⟨S, h1, h2, h3, _⟩ := open_structs (Q := fun l (_ : DataW H) => LtOk l) Try.underlying40 cells_lt (by omega) Lt.len (fun fuel cs x h => open_let h) hval hd
  exact ⟨S, h1, h3, fun l hl => by obtain ⟨_, h, _⟩ := h2 l hl; exact h⟩
end Go.Proofs.Ytpmfgjhkdokcbaa
