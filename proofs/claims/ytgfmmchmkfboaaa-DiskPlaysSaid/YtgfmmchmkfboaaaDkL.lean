/- Stage 5: what the statements ask: great; a call of a drive that is none. -/
import Derived.Test.YtgfmmchmkfboaaaDkK
namespace Go.Proofs.Ytgfmmchmkfboaaa
open Go.RowKit
set_option linter.unusedVariables false
/-- A call. -/
structure Oc where
  kind : Int
  name : ByteArray
  data : ByteArray
  num : Int
  keeps : Value
def Oc.cells (o : Oc) : List Value := [.int .i64 o.kind, .string o.name, .string o.data, .int .i64 o.num, o.keeps]
def Oc.val (o : Oc) : Value := .agg #[.int .i64 o.kind, .string o.name, .string o.data, .int .i64 o.num, o.keeps]
theorem Oc.len (o : Oc) : o.cells.length = 5 := rfl
structure OcOk (w : World) (o : Oc) (ks : List Int) : Prop where
  row : RowAt w o.keeps (ks.map (Value.int .i64))
  ks1 : ∀ n ∈ ks, -9223372036854775808 ≤ n ∧ n ≤ 9223372036854775807
  ksl : ks.length ≤ 140737488355328
  kd1 : -9223372036854775808 ≤ o.kind
  kd2 : o.kind ≤ 9223372036854775807
  nm1 : -9223372036854775808 ≤ o.num
  nm2 : o.num ≤ 9223372036854775807
  nml : o.name.size ≤ maxLen
  dtl : o.data.size ≤ maxLen
theorem OcOk.keep {w w' : World} {o : Oc} {ks : List Int} (h : OcOk w o ks) (g : w.grownBy w' none) : OcOk w' o ks := { h with row := h.row.kept g }
theorem rowAt_len {w : World} {v : Value} {xs : List Value} (h : RowAt w v xs) : ∃ a c, v = .slice a xs.length c := by
  obtain ⟨a, c, e, _⟩ := h; exact ⟨a, c, e⟩
theorem ocok_len {w : World} {o : Oc} {ks ks' : List Int} (h : OcOk w o ks) (h' : OcOk w o ks') : ks.length = ks'.length := by
  obtain ⟨a, c, e⟩ := rowAt_len h.row
  obtain ⟨a', c', e'⟩ := rowAt_len h'.row
  rw [e] at e'
  injection e' with _ e' _
  simpa using e'
theorem oc_at {w : World} {a : Option Addr} {c n : Nat} {L : List Oc} (h : ReadK Oc.cells 5 w (.slice a n c) L) (hn : L.length = n) (j : Nat) (hj : j < n) (o : Oc) (hl : L[j]? = some o) :
    ∃ g off, a = some ⟨g, off, none⟩ ∧ g < w.heap.size ∧ w.cell? ⟨g, off + j * 5, none⟩ = some (.int .i64 o.kind) ∧ w.cell? ⟨g, off + j * 5 + 1, none⟩ = some (.string o.name) ∧ w.cell? ⟨g, off + j * 5 + 2, none⟩ = some (.string o.data) ∧ w.cell? ⟨g, off + j * 5 + 3, none⟩ = some (.int .i64 o.num) ∧ w.cell? ⟨g, off + j * 5 + 4, none⟩ = some o.keeps := by
  obtain ⟨g, off, e, hg, hc⟩ := h.at_ Oc.len hn j hj
  exact ⟨g, off, e, hg, hc o hl 0 (by omega), hc o hl 1 (by omega), hc o hl 2 (by omega), hc o hl 3 (by omega), hc o hl 4 (by omega)⟩
def OcSm (o : Oc) (ks : List Int) : Prop := o.data.size ≤ 8192 ∧ o.name.size ≤ 8192 ∧ ks.length ≤ 8192
def GreatR (w : World) (L : List Oc) (e : Ending) (w' : World) : Prop := (e = .returned (.bool true) ∨ (e = .returned (.bool false) ∧ L.length ≤ 200 ∧ ∀ o ∈ L, ∀ ks, OcOk w o ks → OcSm o ks)) ∧ w.grownBy w' none
set_option maxRecDepth 100000 in
set_option maxHeartbeats 1000000 in
theorem great_any (v : Value) (L : List Oc) (w : World) (hr : ReadK Oc.cells 5 w v L) (hl : L.length ≤ maxLen) (hok : ∀ o ∈ L, ∃ ks, OcOk w o ks) :
    Calls Try.prog 10 #[v] w (GreatR w L) := by
  obtain ⟨p, c, rfl⟩ := hr.len
  have il : (L.length : Int) ≤ 9223372036854775807 := by unfold maxLen at hl; omega
  have HOK := Lib.hid hok
  clear hl hok
  go_enter Try.func10, Try.ntmps10
  go_wp2
  go_loopw [3, 8] (fun nn i wr => ∃ j N : Nat, j ≤ L.length ∧ i = .int .i64 j ∧ nn = .int .i64 N ∧ N ≤ 8192 ∧ (∀ o ∈ L.take j, ∀ ks, OcOk w o ks → OcSm o ks) ∧ w.grownBy wr none) (fun _ i _ => L.length - (intOf i).toNat)
  case atStart => exact ⟨0, 0, Nat.zero_le _, rfl, rfl, Nat.zero_le _, (by simp), grow_refl _ _⟩
  case round =>
    obtain ⟨j, N, hj, rfl, rfl, hN, hlo, hg⟩ := hrel
    have HLO := Lib.hid hlo
    clear hlo
    by_cases hlt : j < L.length
    · obtain ⟨o, ho⟩ : ∃ o, o = L[j] := ⟨_, rfl⟩
      obtain ⟨g, off, rfl, hgl, r0, r1, r2, r3, r4⟩ := oc_at (hr.kept hg) rfl j hlt o (by rw [ho, List.getElem?_eq_getElem])
      have HOO := Lib.hid ho
      obtain ⟨ks, hks⟩ := HOK.out o (by rw [ho]; exact List.getElem_mem hlt)
      have HKS := Lib.hid hks
      obtain ⟨an, cn, e⟩ := rowAt_len hks.row
      rw [List.length_map] at e
      have hnl : (ks.length : Int) ≤ 140737488355328 := by have := hks.ksl; omega
      rw [e] at r4
      have i1 : (j : Int) < L.length := by omega
      have i0 : (0 : Int) ≤ j := by omega
      have n0 : (0 : Int) ≤ N := by omega
      have n1 : (N : Int) ≤ 8192 := by omega
      have m0 : (0 : Int) ≤ ks.length := by omega
      obtain ⟨a, ha⟩ : ∃ a : Nat, min (o.data.size : Int) 1048576 = (a : Int) := ⟨min o.data.size 1048576, by omega⟩
      obtain ⟨b, hb⟩ : ∃ b : Nat, min (o.name.size : Int) 1048576 = (b : Int) := ⟨min o.name.size 1048576, by omega⟩
      have a0 : (0 : Int) ≤ a := by omega
      have b0 : (0 : Int) ≤ b := by omega
      have a1 : (a : Int) ≤ 1048576 := by omega
      have b1 : (b : Int) ≤ 1048576 := by omega
      have HAB : Hid (a ≤ 8192 → b ≤ 8192 → o.data.size ≤ 8192 ∧ o.name.size ≤ 8192) := fun h1 h2 => by omega
      clear ho hks e
      · by_cases hgt : 8192 < N + (4 + a + b + ks.length)
        · have d1 : decide ((8192 : Int) < (N : Int) + (4 + (a : Int) + (b : Int) + (ks.length : Int))) = true := decide_eq_true (by omega)
          go_wp2
          go_ret
          exact ⟨.inl rfl, grow_none hg (World.grownBy_alloc _ _ _)⟩
        · have d1 : decide ((8192 : Int) < (N : Int) + (4 + (a : Int) + (b : Int) + (ks.length : Int))) = false := decide_eq_false (by omega)
          go_wp2
          go_roundw
          case rel => exact ⟨j + 1, N + (4 + a + b + ks.length), by omega, by go_num, by go_num, by omega, fun o' ho' ns' h' => by
            rw [List.take_succ_eq_append_getElem hlt] at ho'
            rcases List.mem_append.1 ho' with x | x
            · exact HLO.out o' x ns' h'
            · have e : o' = o := by rw [List.mem_singleton.1 x, ← HOO.out]
              subst e
              have := ocok_len HKS.out h'
              have := HAB.out (by omega) (by omega)
              exact ⟨this.1, this.2, by omega⟩, grow_none hg (World.grownBy_alloc _ _ _)⟩
          case measure => simp [intOf]; omega
    · obtain rfl : j = L.length := by omega
      by_cases h2 : 200 < L.length
      · have d2 : decide ((200 : Int) < (L.length : Int)) = true := decide_eq_true (by omega)
        go_wp2
        go_ret
        exact ⟨.inl rfl, hg⟩
      · have d2 : decide ((200 : Int) < (L.length : Int)) = false := decide_eq_false (by omega)
        go_wp2
        go_ret
        exact ⟨.inr ⟨rfl, by omega, by have := HLO.out; rwa [List.take_length] at this⟩, hg⟩
end Go.Proofs.Ytgfmmchmkfboaaa
