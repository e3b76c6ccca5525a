/- Stage 6: what the statements ask: great, alike. -/
import Derived.Test.YtpmfgjhkdokcbaaPoJ
namespace Go.Proofs.Ytpmfgjhkdokcbaa
open Go.RowKit
set_option linter.unusedVariables false
/-- A call. -/
structure Cl where
  kind : Int
  k : Int
  l : Lt
  n : Value
def Cl.cells (o : Cl) : List Value := [.int .i64 o.kind, .int .i64 o.k, .int .i64 o.l.f, .int .i64 o.l.t, .string o.l.d, o.n]
theorem Cl.len (o : Cl) : o.cells.length = 6 := rfl
/-- The nodes of a call are read as a list. -/
def ClOk (w : World) (o : Cl) (ns : List Int) : Prop := RowAt w o.n (ns.map (Value.int .i64)) ∧ (∀ n ∈ ns, -9223372036854775808 ≤ n ∧ n ≤ 9223372036854775807) ∧ ns.length ≤ 140737488355328 ∧ -9223372036854775808 ≤ o.kind ∧ o.kind ≤ 9223372036854775807 ∧ -9223372036854775808 ≤ o.k ∧ o.k ≤ 9223372036854775807 ∧ o.l.d.size ≤ maxLen
theorem clok_len {w : World} {o : Cl} {ns ns' : List Int} (h : ClOk w o ns) (h' : ClOk w o ns') : ns.length = ns'.length := by
  obtain ⟨a, c, e⟩ := h.1.len
  obtain ⟨a', c', e'⟩ := h'.1.len
  rw [e] at e'
  injection e' with _ e' _
  simpa using e'
theorem cl_at {w : World} {a : Option Addr} {c n : Nat} {L : List Cl} (h : ReadK Cl.cells 6 w (.slice a n c) L) (hn : L.length = n) (j : Nat) (hj : j < n) (o : Cl) (hl : L[j]? = some o) :
    ∃ g off, a = some ⟨g, off, none⟩ ∧ g < w.heap.size ∧ w.cell? ⟨g, off + j * 6, none⟩ = some (.int .i64 o.kind) ∧ w.cell? ⟨g, off + j * 6 + 1, none⟩ = some (.int .i64 o.k) ∧ w.cell? ⟨g, off + j * 6 + 2, none⟩ = some (.int .i64 o.l.f) ∧ w.cell? ⟨g, off + j * 6 + 3, none⟩ = some (.int .i64 o.l.t) ∧ w.cell? ⟨g, off + j * 6 + 4, none⟩ = some (.string o.l.d) ∧ w.cell? ⟨g, off + j * 6 + 5, none⟩ = some o.n := by
  obtain ⟨g, off, e, hg, hc⟩ := h.at_ Cl.len hn j hj
  exact ⟨g, off, e, hg, hc o hl 0 (by omega), hc o hl 1 (by omega), hc o hl 2 (by omega), hc o hl 3 (by omega), hc o hl 4 (by omega), hc o hl 5 (by omega)⟩
def GreatR (w : World) (L : List Cl) (e : Ending) (w' : World) : Prop := (e = .returned (.bool true) ∨ (e = .returned (.bool false) ∧ L.length ≤ 2000 ∧ ∀ o ∈ L, ∀ ns, ClOk w o ns → ns.length ≤ 2000)) ∧ w.grownBy w' none
set_option maxRecDepth 100000 in
set_option maxHeartbeats 1000000 in
theorem great_any (v : Value) (L : List Cl) (w : World) (hr : ReadK Cl.cells 6 w v L) (hl : L.length ≤ maxLen) (hok : ∀ o ∈ L, ∃ ns, ClOk w o ns) :
    Calls Try.prog 10 #[v] w (GreatR w L) := by
  obtain ⟨p, c, rfl⟩ := hr.len
  have il : (L.length : Int) ≤ 9223372036854775807 := by unfold maxLen at hl; omega
  have HOK := Lib.hid hok
  clear hl hok
  go_enter Try.func10, Try.ntmps10
  go_wp2
  go_loopw [3, 8] (fun nn i wr => ∃ j N : Nat, j ≤ L.length ∧ i = .int .i64 j ∧ nn = .int .i64 N ∧ j ≤ N ∧ N ≤ 2000 ∧ (∀ o ∈ L.take j, ∀ ns, ClOk w o ns → ns.length ≤ 2000) ∧ w.grownBy wr none) (fun _ i _ => L.length - (intOf i).toNat)
  case atStart => exact ⟨0, 0, Nat.zero_le _, rfl, rfl, Nat.le_refl _, Nat.zero_le _, (by simp), grow_refl _ _⟩
  case round =>
    obtain ⟨j, N, hj, rfl, rfl, hjN, hN, hlo, hg⟩ := hrel
    have HLO := Lib.hid hlo
    clear hlo
    by_cases hlt : j < L.length
    · obtain ⟨o, ho⟩ : ∃ o, o = L[j] := ⟨_, rfl⟩
      obtain ⟨g, off, rfl, hgl, r0, r1, r2, r3, r4, r5⟩ := cl_at (hr.kept hg) rfl j hlt o (by rw [ho, List.getElem?_eq_getElem])
      have HOO := Lib.hid ho
      obtain ⟨ns, hns⟩ := HOK.out o (by rw [ho]; exact List.getElem_mem hlt)
      have HNS := Lib.hid hns
      obtain ⟨an, cn, e⟩ := hns.1.len
      rw [List.length_map] at e
      have hnl : (ns.length : Int) ≤ 140737488355328 := by have := hns.2.2.1; omega
      rw [e] at r5
      have i1 : (j : Int) < L.length := by omega
      have i0 : (0 : Int) ≤ j := by omega
      have n0 : (0 : Int) ≤ N := by omega
      have n1 : (N : Int) ≤ 2000 := by omega
      have m0 : (0 : Int) ≤ ns.length := by omega
      clear ho hns e
      · by_cases hgt : 2000 < N + (1 + ns.length)
        · have d1 : decide ((2000 : Int) < (N : Int) + (1 + (ns.length : Int))) = true := decide_eq_true (by omega)
          go_wp2
          go_ret
          exact ⟨.inl rfl, grow_none hg (World.grownBy_alloc _ _ _)⟩
        · have d1 : decide ((2000 : Int) < (N : Int) + (1 + (ns.length : Int))) = false := decide_eq_false (by omega)
          go_wp2
          go_roundw
          case rel => exact ⟨j + 1, N + (1 + ns.length), by omega, by go_num, by go_num, by omega, by omega, fun o' ho' ns' h' => by
            rw [take_snocL L j hlt] at ho'
            rcases List.mem_append.1 ho' with x | x
            · exact HLO.out o' x ns' h'
            · have e : o' = o := by rw [List.mem_singleton.1 x, ← HOO.out]
              subst e
              have := clok_len HNS.out h'
              omega, grow_none hg (World.grownBy_alloc _ _ _)⟩
          case measure => simp [intOf]; omega
    · obtain rfl : j = L.length := by omega
      go_wp2
      go_ret
      exact ⟨.inr ⟨rfl, by omega, by have := HLO.out; rwa [List.take_length] at this⟩, hg⟩
theorem lt_struct : Try.prog.underlying 33 = some (.struct (Try.prog.fieldsOf 33)) := by kernel_rfl
theorem lt_held : Try.prog.stoodInHeld 33 = false := by kernel_rfl
theorem lt_equal (l : Lt) (w : World) : (Op.equalIn 10000 33 (.agg #[.int .i64 l.f, .int .i64 l.t, .string l.d]) (.agg #[.int .i64 l.f, .int .i64 l.t, .string l.d])).run Try.prog w = .ok true w := by
  rw [show (10000 : Nat) = 9999 + 1 from rfl, run_equalIn_struct w 9999 33 _ _ lt_struct lt_held]
  simp only [Program.fieldsOf, Try.underlying33]
  have u3 := Try.underlying3
  have u9 := Try.underlying9
  go_simp
theorem lt_neq (l : Lt) (w : World) : (binOp .neq 33 (.agg #[.int .i64 l.f, .int .i64 l.t, .string l.d]) (.agg #[.int .i64 l.f, .int .i64 l.t, .string l.d])).run Try.prog w = .ok (.bool false) w := by
  rw [run_neq_struct, lt_equal]; rfl
theorem lt_eql (l : Lt) (w : World) : (binOp .eql 33 (.agg #[.int .i64 l.f, .int .i64 l.t, .string l.d]) (.agg #[.int .i64 l.f, .int .i64 l.t, .string l.d])).run Try.prog w = .ok (.bool true) w := by
  rw [run_eql_struct, lt_equal]; rfl
set_option maxRecDepth 100000 in
set_option maxHeartbeats 1000000 in
theorem alike_same (b1 b2 : Nat) (v1 v2 : Value) (L : List Lt) (m : Nat) (w : World) (h1 : PAt 58 w b1 v1 L m) (h2 : PAt 48 w b2 v2 L m) :
    Calls Try.prog 12 #[.pointer (some ⟨b1, 0, none⟩), .pointer (some ⟨b2, 0, none⟩)] w fun e w' => e = .returned (.bool true) ∧ w.grownBy w' none := by
  have hb1 := h1.lt
  have hb2 := h2.lt
  have hmm := h1.most
  have hml := h1.len
  have hli : (L.length : Int) ≤ 512 := by omega
  have H1 := Lib.hid h1
  have H2 := Lib.hid h2
  obtain ⟨p, c, rfl⟩ := h2.form
  have c0 := h2.c0
  clear h1 h2
  go_enter Try.func12, Try.ntmps12
  go_wp2
  go_loopw [13] (fun i wr => ∃ j : Nat, j ≤ L.length ∧ i = .int .i64 j ∧ w.grownBy wr none) (fun i _ => L.length - (intOf i).toNat)
  case atStart => exact ⟨0, Nat.zero_le _, rfl, grow_refl _ _⟩
  case round =>
    obtain ⟨j, hj, rfl, hg⟩ := hrel
    have P1 := H1.out.keep hg
    have P2 := H2.out.keep hg
    have j0 : (0 : Int) ≤ j := by omega
    by_cases hlt : j < L.length
    · have i1 : (j : Int) < L.length := by omega
      obtain ⟨x, hx⟩ : ∃ x, x = L[j] := ⟨_, rfl⟩
      have hxs : L[j]? = some x := by rw [hx, List.getElem?_eq_getElem]
      have HK := Lib.hid (atL_yes hlt)
      rw [← hx] at HK
      have HXS := Lib.hid hxs
      have j5 : (j : Int) ≤ 512 := by omega
      have hnq := lt_neq x
      clear hx hxs c0
      go_wp2_with fail
      refine (At_any 58 b1 v1 L m j _ P1).mono ?_
      rintro e w1 ⟨rfl, g1⟩
      rw [HK.out.1, HK.out.2]
      have Q2 := P2.keep g1
      obtain ⟨gl, ol, rfl, hgl, r0, r1, r2⟩ := lt_at Q2.own.read rfl j hlt x HXS.out
      have d0 := Q2.c0
      have hgr : wr.grownBy w1 none := g1
      have hs1 : b2 < w1.heap.size := Q2.lt
      have G1 := Lib.hid (grow_none hg (grow_none g1 (World.grownBy_alloc w1 (.cells #[.int .i64 x.f, .int .i64 x.t, .string x.d] 33) none)))
      clear g1 Q2 P1 P2 hgr
      unfold Lt.val
      go_wp2
      go_quiet (fail)
      go_wp2
      go_roundw
      case rel => exact ⟨j + 1, by omega, by go_num, grow_drawnN _ G1.out⟩
      case measure => simp [intOf]; omega
    · obtain rfl : j = L.length := by omega
      have d0 := P2.c0
      clear c0
      have HP1 := Lib.hid P1
      clear P1 P2
      go_wp2
      go_quiet ((go_at_call 15; exact Calls.quiet_of_same ((Len_any 58 b1 v1 L m _ (HP1.out.drewN _)).mono fun _ _ ⟨x, y⟩ => ⟨x, y.symm⟩)))
      go_wp2
      go_ret
      exact ⟨rfl, grow_drawnN _ hg⟩
end Go.Proofs.Ytpmfgjhkdokcbaa
