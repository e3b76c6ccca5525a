/- Several texts in one: OpW OpW2. -/
import Derived.Test.YtphljjgjpkdpmaaGreatDoorK27
import Derived.Test.YtphljjgjpkdpmaaGreatDoorK20
import Derived.ChangeArms
import Derived.SizedLaws
/- Stage 9: how operations are opened. -/
namespace Go.Proofs.YtphljjgjpkdpmaaGreatDoor
open Go.RowKit Go.ChangeShapes Go.WideShapes Go.ChangeAt Go.Deep
set_option linter.unusedVariables false
theorem cells_wo : Tryz.prog.cellsOf 37 = 6 := by kernel_rfl
theorem cellsW_int : Tryz.prog.cellsOf 3 = 1 := by kernel_rfl
theorem cellsW_str : Tryz.prog.cellsOf 9 = 1 := by kernel_rfl
theorem cellsW_ints : Tryz.prog.cellsOf 35 = 1 := by kernel_rfl
theorem cellsW_strs : Tryz.prog.cellsOf 34 = 1 := by kernel_rfl
theorem bytesW_int : Tryz.prog.bytesOf 3 = 8 := by kernel_rfl
theorem bytesW_str : 1 ≤ Tryz.prog.bytesOf 9 := of_decide_eq_true (by kernel_rfl)
section
variable {H : Type} {enc : TypeId × Value → H} {w : World} {base : Nat} {held : Bool}
theorem txW_of {fuel : Nat} {cs : List Value} {x : DataW H × List MemPlace} (h : DataW.trod enc Tryz.prog w base (fun _ => true) held fuel 34 cs = some x) :
    ∃ v l, cs = [v] ∧ RowAt w v (l.map Value.string) ∧ (∀ s ∈ l, s.size ≤ maxLen) ∧ (l = [] ∨ ∃ q, q ∈ x.1.weights Tryz.prog 34 ∧ l.length ≤ q) := by
  rcases open_strings Tryz.underlying34 Tryz.underlying9 cellsW_str h with ⟨rfl, _⟩ | ⟨a, len, c, ss, rfl, _, hl, hm, hz, hx, hcell, hws⟩
  · exact ⟨_, [], rfl, ⟨none, 0, rfl, .inl rfl⟩, by simp, .inl rfl⟩
  · have hll : len ≤ ss.length := by rw [hz]; simpa using hl
    refine ⟨_, ss.take len, rfl, row_of_cells _ _ _ _ _ (by simp; omega) (fun i hi => ?_), fun s hs => hws s (List.mem_of_mem_take hs), .inr ⟨((ss.take len).length + (ss.drop len).length) * Tryz.prog.bytesOf 9, ?_, ?_⟩⟩
    · simp only [List.length_map, List.length_take] at hi
      have hi' : i < ss.length := by omega
      rw [hcell i hi']
      simp [show i < len by omega, List.getElem?_eq_getElem hi']
    · rw [hx]
      simp only [DataW.weights, Tryz.underlying34, List.mem_cons]
      left
      unfold strs
      rw [List.length_map, List.length_map]
    · have := bytesW_str
      have h1 := Nat.mul_le_mul_left ((ss.take len).length + (ss.drop len).length) this
      omega
theorem insW_of {fuel : Nat} {cs : List Value} {x : DataW H × List MemPlace} (h : DataW.trod enc Tryz.prog w base (fun _ => true) held fuel 35 cs = some x) :
    ∃ v l, cs = [v] ∧ RowAt w v (l.map (Value.int .i64)) ∧ (∀ n ∈ l, -9223372036854775808 ≤ n ∧ n ≤ 9223372036854775807) ∧ (l = [] ∨ ∃ q, q ∈ x.1.weights Tryz.prog 35 ∧ l.length ≤ q) := by
  rcases open_ints Tryz.underlying35 Tryz.underlying3 cellsW_int h with ⟨rfl, _⟩ | ⟨p, len, c, zs, rfl, _, hl, hm, hz, hy, hcell, hws⟩
  · exact ⟨_, [], rfl, ⟨none, 0, rfl, .inl rfl⟩, by simp, .inl rfl⟩
  · have hzc : len ≤ zs.length := by rw [hz]; simpa using hl
    refine ⟨_, zs.take len, rfl, row_of_cells _ _ _ _ _ (by simp; omega) (fun i hi => ?_), fun n hn => bd_i64 (hws n (List.mem_of_mem_take hn)), .inr ⟨((zs.take len).length + (zs.drop len).length) * 8, ?_, ?_⟩⟩
    · simp only [List.length_map, List.length_take] at hi
      have hi' : i < zs.length := by omega
      rw [hcell i hi']
      simp [show i < len by omega, List.getElem?_eq_getElem hi']
    · have hy4 : x.1 = .slice (lits .i64 (zs.take len)) (lits .i64 (zs.drop len)) := by rw [hy]
      rw [hy4]
      simp only [DataW.weights, Tryz.underlying35, bytesW_int, lits, List.length_map, List.mem_cons]
      first | exact .inl rfl | exact .inl trivial | simp
    · rw [List.length_take, List.length_drop]; omega
set_option maxRecDepth 100000 in
theorem open_wo {fuel : Nat} {cs : List Value} {x : DataW H × List MemPlace} (h : DataW.trod enc Tryz.prog w base (fun _ => true) held fuel 37 cs = some x) :
    ∃ o : Wo, cs = o.cells ∧ ∃ (ls : List ByteArray) (ks : List Int), RowAt w o.list (ls.map Value.string) ∧ RowAt w o.keeps (ks.map (Value.int .i64)) ∧ (∀ s ∈ ls, s.size ≤ maxLen) ∧ (∀ n ∈ ks, -9223372036854775808 ≤ n ∧ n ≤ 9223372036854775807) ∧ (-9223372036854775808 ≤ o.kind ∧ o.kind ≤ 9223372036854775807) ∧ (-9223372036854775808 ≤ o.num ∧ o.num ≤ 9223372036854775807) ∧ o.text.size ≤ maxLen ∧ o.name.size ≤ maxLen
      ∧ (ls = [] ∨ ∃ q ∈ x.1.weights Tryz.prog 37, ls.length ≤ q) ∧ (ks = [] ∨ ∃ q ∈ x.1.weights Tryz.prog 37, ks.length ≤ q) := by
  obtain ⟨xs, n, _, hx, hlen, hxl, hf⟩ := DataW.trod_struct Tryz.underlying37 h
  rw [cells_wo] at hlen
  match cs, hlen with
  | [c0, c1, c2, c3, c4, c5], _ =>
    match xs, hxl with
    | [y0, y1, y2, y3, y4, y5], _ =>
      have h0 : DataW.trod enc Tryz.prog w base (fun _ => true) held n 3 (([c0, c1, c2, c3, c4, c5].drop 0).take (Tryz.prog.cellsOf 3)) = some y0 := hf 0 _ rfl
      have h1 : DataW.trod enc Tryz.prog w base (fun _ => true) held n 34 (([c0, c1, c2, c3, c4, c5].drop 1).take (Tryz.prog.cellsOf 34)) = some y1 := hf 1 _ rfl
      have h2 : DataW.trod enc Tryz.prog w base (fun _ => true) held n 9 (([c0, c1, c2, c3, c4, c5].drop 2).take (Tryz.prog.cellsOf 9)) = some y2 := hf 2 _ rfl
      have h3 : DataW.trod enc Tryz.prog w base (fun _ => true) held n 9 (([c0, c1, c2, c3, c4, c5].drop 3).take (Tryz.prog.cellsOf 9)) = some y3 := hf 3 _ rfl
      have h4 : DataW.trod enc Tryz.prog w base (fun _ => true) held n 3 (([c0, c1, c2, c3, c4, c5].drop 4).take (Tryz.prog.cellsOf 3)) = some y4 := hf 4 _ rfl
      have h5 : DataW.trod enc Tryz.prog w base (fun _ => true) held n 35 (([c0, c1, c2, c3, c4, c5].drop 5).take (Tryz.prog.cellsOf 35)) = some y5 := hf 5 _ rfl
      rw [cellsW_int] at h0 h4
      rw [cellsW_str] at h2 h3
      rw [cellsW_strs] at h1
      rw [cellsW_ints] at h5
      obtain ⟨a, e0, _, w0⟩ := DataW.trod_int Tryz.underlying3 h0
      obtain ⟨v1, ls, e1, a1, a2, a3⟩ := txW_of h1
      obtain ⟨s2, e2, _, w2⟩ := DataW.trod_string Tryz.underlying9 h2
      obtain ⟨s3, e3, _, w3⟩ := DataW.trod_string Tryz.underlying9 h3
      obtain ⟨b, e4, _, w4⟩ := DataW.trod_int Tryz.underlying3 h4
      obtain ⟨v5, ks, e5, b1, b2, b3⟩ := insW_of h5
      simp at e0 e1 e2 e3 e4 e5
      subst e0 e1 e2 e3 e4 e5
      refine ⟨⟨a, _, s2, s3, b, _⟩, rfl, ls, ks, a1, b1, a2, b2, bd_i64 w0, bd_i64 w4, w2, w3, ?_, ?_⟩
      · rcases a3 with e | ⟨q, hq, hle⟩
        · exact .inl e
        · refine .inr ⟨q, ?_, hle⟩
          rw [hx]
          simp only [DataW.weights, Tryz.underlying37]
          exact each_weights (j := 1) rfl rfl _ hq
      · rcases b3 with e | ⟨q, hq, hle⟩
        · exact .inl e
        · refine .inr ⟨q, ?_, hle⟩
          rw [hx]
          simp only [DataW.weights, Tryz.underlying37]
          exact each_weights (j := 5) rfl rfl _ hq
end
/-- A script that came in. -/
structure WScr (w : World) (v : Value) (S : List Wo) : Prop where
  read : ReadK Wo.cells 6 w v S
  len : S.length ≤ maxLen
  each : ∀ o ∈ S, ∃ ls ks, WoOk w o ls ks
theorem WScr.keep {w w' : World} {v : Value} {S : List Wo} (h : WScr w v S) (g : w.grownBy w' none) : WScr w' v S :=
  ⟨h.read.kept g, h.len, fun o ho => by obtain ⟨ls, ks, hk⟩ := h.each o ho; exact ⟨ls, ks, hk.keep g⟩⟩
set_option maxRecDepth 100000 in
theorem open_wscript {H : Type} {enc : TypeId × Value → H} {w : World} {base : Nat} {held : Bool} {r : Reach} {b0 : Nat} {v : Value} {d : DataW H} {ps : List MemPlace} {ts : List TypeId} {ds : List (DataW H)} (hsz : (DataW.weightsEach Tryz.prog ts ds).all (· ≤ reachBytes) = true) {j : Nat} (hts : ts[j]? = some 22) (hds : ds[j]? = some d)
    (hval : Value.okWide Tryz.prog w r b0 22 v) (hd : DataW.Trod enc Tryz.prog w base (fun _ => true) held 22 v d ps) : ∃ S, WScr w v S := by
  have hR : reachBytes ≤ 140737488355328 := by decide
  obtain ⟨S, h1, h2, h3, _⟩ := open_structs (Q := fun (o : Wo) x => ∃ (ls : List ByteArray) (ks : List Int), RowAt w o.list (ls.map Value.string) ∧ RowAt w o.keeps (ks.map (Value.int .i64)) ∧ (∀ s ∈ ls, s.size ≤ maxLen) ∧ (∀ n ∈ ks, -9223372036854775808 ≤ n ∧ n ≤ 9223372036854775807) ∧ (-9223372036854775808 ≤ o.kind ∧ o.kind ≤ 9223372036854775807) ∧ (-9223372036854775808 ≤ o.num ∧ o.num ≤ 9223372036854775807) ∧ o.text.size ≤ maxLen ∧ o.name.size ≤ maxLen
      ∧ (ls = [] ∨ ∃ q ∈ x.weights Tryz.prog 37, ls.length ≤ q) ∧ (ks = [] ∨ ∃ q ∈ x.weights Tryz.prog 37, ks.length ≤ q)) Tryz.underlying22 cells_wo (by omega) Wo.len (fun fuel cs x h => open_wo h) hval hd
  refine ⟨S, h1, h3, fun o ho => ?_⟩
  obtain ⟨x, ⟨ls, ks, a1, a2, a3, a4, a5, a6, a7, a8, a9, a10⟩, hw⟩ := h2 o ho
  have hM : (140737488355328 : Nat) ≤ maxLen := by decide
  refine ⟨ls, ks, a1, a2, ?_, a3, ?_, a4, a5, a6, a7, a8⟩
  · rcases a9 with e | ⟨q, hq, hle⟩
    · rw [e]; exact Nat.zero_le _
    · have := List.all_eq_true.1 hsz _ (DataW.weights_mem_each hts hds _ (hw q hq))
      have : q ≤ reachBytes := by simpa using this
      omega
  · rcases a10 with e | ⟨q, hq, hle⟩
    · rw [e]; exact Nat.zero_le _
    · have := List.all_eq_true.1 hsz _ (DataW.weights_mem_each hts hds _ (hw q hq))
      have : q ≤ reachBytes := by simpa using this
      omega
end Go.Proofs.YtphljjgjpkdpmaaGreatDoor
/- Stage 9: how operations are opened, with the rows' capacities. -/
namespace Go.Proofs.YtphljjgjpkdpmaaGreatDoor
open Go.RowKit Go.ChangeShapes Go.WideShapes Go.ChangeAt Go.Deep
set_option linter.unusedVariables false
def CapK (v : Value) : Prop := ∀ p n c, v = .slice p n c → n ≤ c
section
variable {H : Type} {enc : TypeId × Value → H} {w : World} {base : Nat} {held : Bool}
theorem txK_of {fuel : Nat} {cs : List Value} {x : DataW H × List MemPlace} (h : DataW.trod enc Tryz.prog w base (fun _ => true) held fuel 34 cs = some x) :
    ∃ v l, cs = [v] ∧ RowAt w v (l.map Value.string) ∧ CapK v ∧ (∀ s ∈ l, s.size ≤ maxLen) ∧ (l = [] ∨ ∃ q, q ∈ x.1.weights Tryz.prog 34 ∧ l.length ≤ q) := by
  rcases open_strings Tryz.underlying34 Tryz.underlying9 cellsW_str h with ⟨rfl, _⟩ | ⟨a, len, c, ss, rfl, _, hl, hm, hz, hx, hcell, hws⟩
  · exact ⟨_, [], rfl, ⟨none, 0, rfl, .inl rfl⟩, (by intro p n c e; injection e with _ e2 e3; omega), by simp, .inl rfl⟩
  · have hll : len ≤ ss.length := by rw [hz]; simpa using hl
    refine ⟨_, ss.take len, rfl, row_of_cells _ _ _ _ _ (by simp; omega) (fun i hi => ?_), ?_, fun s hs => hws s (List.mem_of_mem_take hs), .inr ⟨((ss.take len).length + (ss.drop len).length) * Tryz.prog.bytesOf 9, ?_, ?_⟩⟩
    · simp only [List.length_map, List.length_take] at hi
      have hi' : i < ss.length := by omega
      rw [hcell i hi']
      simp [show i < len by omega, List.getElem?_eq_getElem hi']
    · intro p n c' e; injection e with _ e2 e3; omega
    · rw [hx]
      simp only [DataW.weights, Tryz.underlying34, List.mem_cons]
      left
      unfold strs
      rw [List.length_map, List.length_map]
    · have := bytesW_str
      have h1 := Nat.mul_le_mul_left ((ss.take len).length + (ss.drop len).length) this
      omega
set_option maxRecDepth 100000 in
theorem open_wk {fuel : Nat} {cs : List Value} {x : DataW H × List MemPlace} (h : DataW.trod enc Tryz.prog w base (fun _ => true) held fuel 37 cs = some x) :
    ∃ o : Wo, cs = o.cells ∧ ∃ (ls : List ByteArray) (ks : List Int), CapK o.list ∧ RowAt w o.list (ls.map Value.string) ∧ RowAt w o.keeps (ks.map (Value.int .i64)) ∧ (∀ s ∈ ls, s.size ≤ maxLen) ∧ (∀ n ∈ ks, -9223372036854775808 ≤ n ∧ n ≤ 9223372036854775807) ∧ (-9223372036854775808 ≤ o.kind ∧ o.kind ≤ 9223372036854775807) ∧ (-9223372036854775808 ≤ o.num ∧ o.num ≤ 9223372036854775807) ∧ o.text.size ≤ maxLen ∧ o.name.size ≤ maxLen
      ∧ (ls = [] ∨ ∃ q ∈ x.1.weights Tryz.prog 37, ls.length ≤ q) ∧ (ks = [] ∨ ∃ q ∈ x.1.weights Tryz.prog 37, ks.length ≤ q) := by
  obtain ⟨xs, n, _, hx, hlen, hxl, hf⟩ := DataW.trod_struct Tryz.underlying37 h
  rw [cells_wo] at hlen
  match cs, hlen with
  | [c0, c1, c2, c3, c4, c5], _ =>
    match xs, hxl with
    | [y0, y1, y2, y3, y4, y5], _ =>
      have h0 : DataW.trod enc Tryz.prog w base (fun _ => true) held n 3 (([c0, c1, c2, c3, c4, c5].drop 0).take (Tryz.prog.cellsOf 3)) = some y0 := hf 0 _ rfl
      have h1 : DataW.trod enc Tryz.prog w base (fun _ => true) held n 34 (([c0, c1, c2, c3, c4, c5].drop 1).take (Tryz.prog.cellsOf 34)) = some y1 := hf 1 _ rfl
      have h2 : DataW.trod enc Tryz.prog w base (fun _ => true) held n 9 (([c0, c1, c2, c3, c4, c5].drop 2).take (Tryz.prog.cellsOf 9)) = some y2 := hf 2 _ rfl
      have h3 : DataW.trod enc Tryz.prog w base (fun _ => true) held n 9 (([c0, c1, c2, c3, c4, c5].drop 3).take (Tryz.prog.cellsOf 9)) = some y3 := hf 3 _ rfl
      have h4 : DataW.trod enc Tryz.prog w base (fun _ => true) held n 3 (([c0, c1, c2, c3, c4, c5].drop 4).take (Tryz.prog.cellsOf 3)) = some y4 := hf 4 _ rfl
      have h5 : DataW.trod enc Tryz.prog w base (fun _ => true) held n 35 (([c0, c1, c2, c3, c4, c5].drop 5).take (Tryz.prog.cellsOf 35)) = some y5 := hf 5 _ rfl
      rw [cellsW_int] at h0 h4
      rw [cellsW_str] at h2 h3
      rw [cellsW_strs] at h1
      rw [cellsW_ints] at h5
      obtain ⟨a, e0, _, w0⟩ := DataW.trod_int Tryz.underlying3 h0
      obtain ⟨v1, ls, e1, a1, aC, a2, a3⟩ := txK_of h1
      obtain ⟨s2, e2, _, w2⟩ := DataW.trod_string Tryz.underlying9 h2
      obtain ⟨s3, e3, _, w3⟩ := DataW.trod_string Tryz.underlying9 h3
      obtain ⟨b, e4, _, w4⟩ := DataW.trod_int Tryz.underlying3 h4
      obtain ⟨v5, ks, e5, b1, b2, b3⟩ := insW_of h5
      simp at e0 e1 e2 e3 e4 e5
      subst e0 e1 e2 e3 e4 e5
      refine ⟨⟨a, _, s2, s3, b, _⟩, rfl, ls, ks, aC, a1, b1, a2, b2, bd_i64 w0, bd_i64 w4, w2, w3, ?_, ?_⟩
      · rcases a3 with e | ⟨q, hq, hle⟩
        · exact .inl e
        · refine .inr ⟨q, ?_, hle⟩
          rw [hx]
          simp only [DataW.weights, Tryz.underlying37]
          exact each_weights (j := 1) rfl rfl _ hq
      · rcases b3 with e | ⟨q, hq, hle⟩
        · exact .inl e
        · refine .inr ⟨q, ?_, hle⟩
          rw [hx]
          simp only [DataW.weights, Tryz.underlying37]
          exact each_weights (j := 5) rfl rfl _ hq
end
/-- A script that came in. -/
structure WScrK (w : World) (v : Value) (S : List Wo) : Prop where
  scr : WScr w v S
  cap : ∀ o ∈ S, CapK o.list
set_option maxRecDepth 100000 in
theorem open_wscriptK {H : Type} {enc : TypeId × Value → H} {w : World} {base : Nat} {held : Bool} {r : Reach} {b0 : Nat} {v : Value} {d : DataW H} {ps : List MemPlace} {ts : List TypeId} {ds : List (DataW H)} (hsz : (DataW.weightsEach Tryz.prog ts ds).all (· ≤ reachBytes) = true) {j : Nat} (hts : ts[j]? = some 22) (hds : ds[j]? = some d)
    (hval : Value.okWide Tryz.prog w r b0 22 v) (hd : DataW.Trod enc Tryz.prog w base (fun _ => true) held 22 v d ps) : ∃ S, WScrK w v S := by
  have hR : reachBytes ≤ 140737488355328 := by decide
  obtain ⟨S, h1, h2, h3, _⟩ := open_structs (Q := fun (o : Wo) x => ∃ (ls : List ByteArray) (ks : List Int), CapK o.list ∧ RowAt w o.list (ls.map Value.string) ∧ RowAt w o.keeps (ks.map (Value.int .i64)) ∧ (∀ s ∈ ls, s.size ≤ maxLen) ∧ (∀ n ∈ ks, -9223372036854775808 ≤ n ∧ n ≤ 9223372036854775807) ∧ (-9223372036854775808 ≤ o.kind ∧ o.kind ≤ 9223372036854775807) ∧ (-9223372036854775808 ≤ o.num ∧ o.num ≤ 9223372036854775807) ∧ o.text.size ≤ maxLen ∧ o.name.size ≤ maxLen
      ∧ (ls = [] ∨ ∃ q ∈ x.weights Tryz.prog 37, ls.length ≤ q) ∧ (ks = [] ∨ ∃ q ∈ x.weights Tryz.prog 37, ks.length ≤ q)) Tryz.underlying22 cells_wo (by omega) Wo.len (fun fuel cs x h => open_wk h) hval hd
  refine ⟨S, ⟨h1, h3, fun o ho => ?_⟩, fun o ho => by
    obtain ⟨x, ⟨ls, ks, aC, _⟩, _⟩ := h2 o ho
    exact aC⟩
  obtain ⟨x, ⟨ls, ks, aC, a1, a2, a3, a4, a5, a6, a7, a8, a9, a10⟩, hw⟩ := h2 o ho
  have hM : (140737488355328 : Nat) ≤ maxLen := by decide
  refine ⟨ls, ks, a1, a2, ?_, a3, ?_, a4, a5, a6, a7, a8⟩
  · rcases a9 with e | ⟨q, hq, hle⟩
    · rw [e]; exact Nat.zero_le _
    · have := List.all_eq_true.1 hsz _ (DataW.weights_mem_each hts hds _ (hw q hq))
      have : q ≤ reachBytes := by simpa using this
      omega
  · rcases a10 with e | ⟨q, hq, hle⟩
    · rw [e]; exact Nat.zero_le _
    · have := List.all_eq_true.1 hsz _ (DataW.weights_mem_each hts hds _ (hw q hq))
      have : q ≤ reachBytes := by simpa using this
      omega
end Go.Proofs.YtphljjgjpkdpmaaGreatDoor
