/- Stage 5: a call of a drive. -/
import Derived.Test.YtgfmmchmkfboaaaDkM
namespace Go.Proofs.Ytgfmmchmkfboaaa
open Go.RowKit
set_option linter.unusedVariables false
/-- The names of the files, rising. -/
def NamesF (F : ByteArray → Option Ent) (ts : List (List UInt8)) : Prop := ∃ ss : List (List UInt8), ss.Nodup ∧ (∀ x, x ∈ ss ↔ (F (nm x)).isSome = true) ∧ ts = ss.mergeSort leB
theorem Names.toF {w : World} {b mb n : Nat} {G : ByteArray → Option Nat} {d : Dk} {ts : List (List UInt8)} (h : DAt w b mb n G d) (hN : Names G ts) : NamesF d.F ts := by
  obtain ⟨ss, h1, h2, h3, rfl⟩ := hN
  refine ⟨ss, h1, fun x => ?_, rfl⟩
  have : Names G (ss.mergeSort leB) := ⟨ss, h1, h2, h3, rfl⟩
  rw [← Names.of h this x]
  exact (List.mergeSort_perm ss leB).mem_iff.symm
theorem NamesF.mem {F : ByteArray → Option Ent} {ts : List (List UInt8)} (h : NamesF F ts) (x : List UInt8) : x ∈ ts ↔ (F (nm x)).isSome = true := by
  obtain ⟨ss, h1, h2, rfl⟩ := h
  rw [(List.mergeSort_perm ss leB).mem_iff]; exact h2 x
theorem NamesF.nodup {F : ByteArray → Option Ent} {ts : List (List UInt8)} (h : NamesF F ts) : ts.Nodup := by
  obtain ⟨ss, h1, _, rfl⟩ := h
  exact (List.mergeSort_perm ss leB).nodup_iff.2 h1
theorem RowN.of_own2 {S : Nat → Prop} {w : World} {e : TypeId} {v : Value} {n : Nat} {xs : List Value} (h : w.ownsRow 0 e 1 v n xs) (hS : ∀ g, v.ownBlock = some g → ¬ S g) : RowN S w v xs := by
  have hl : xs.length = n := by have := h.1; omega
  rcases h.2 with ⟨rfl, rfl⟩ | ⟨g, cap, cur, rfl, hb, hh, h1, h2, h3, h4⟩
  · have : xs = [] := List.eq_nil_of_length_eq_zero hl
    subst this
    exact ⟨none, 0, rfl, Nat.zero_le _, .inl rfl⟩
  · subst hl
    refine ⟨_, cap, rfl, h1, .inr ⟨g, 0, rfl, (Array.getElem?_eq_some_iff.1 hh).1, hS g rfl, fun j hj => ?_⟩⟩
    have := h.cells (g := g) rfl j (xs.getD j undef) (by simp [List.getD, List.getElem?_eq_getElem hj])
    have hadd : (⟨g, 0, none⟩ : Addr).add j = ⟨g, j, none⟩ := by unfold Addr.add; split <;> simp_all
    rw [hadd] at this
    rw [Nat.zero_add]
    exact this
/-- What a call answers, and what the drive is then. -/
def DidR (d : Dk) (o : Oc) (ks : List Int) (c : Int) (d' : Dk) : Prop :=
  (o.kind = 1 ∧ c = appC d o.name o.data ∧ d' = appD d o.name o.data) ∨ (o.kind = 2 ∧ c = stepOfC d o.name ∧ d' = syncD d o.name) ∨ (o.kind = 3 ∧ c = stepOfC d o.name ∧ d' = removeD d o.name) ∨
  (o.kind = 4 ∧ c = 0 ∧ d' = fuseD d o.num) ∨ (o.kind = 5 ∧ c = 0 ∧ ∃ ts, NamesF d.F ts ∧ d' = crashD d ks ts) ∨ (¬ (1 ≤ o.kind ∧ o.kind ≤ 7) ∧ c = 0 ∧ d' = d)
def DidE (b mb n : Nat) (G : ByteArray → Option Nat) (d : Dk) (o : Oc) (ks : List Int) (w : World) (e : Ending) (w' : World) : Prop :=
  ∃ c d' n', e = .returned (.tuple #[.pointer (some ⟨b, 0, none⟩), .int .i64 c]) ∧ n' ≤ n + 1 ∧ DidR d o ks c d' ∧ DEnd b mb G n' d' w w'
set_option maxRecDepth 100000 in
set_option maxHeartbeats 2000000 in
theorem did_any (b mb n : Nat) (G : ByteArray → Option Nat) (d : Dk) (o : Oc) (ks : List Int) (w : World) (h : DAt w b mb n G d) (hok : OcOk w o ks) (hsm : ks.length ≤ 8192) (hk : o.kind < 6) (hst : d.steps < 1000000) (hn : n < 1000000) :
    Calls Try.prog 13 #[.pointer (some ⟨b, 0, none⟩), o.val] w (DidE b mb n G d o ks w) := by
  obtain ⟨kd, nme, dta, num, kp⟩ := o
  obtain ⟨an, cn, en⟩ := rowAt_len hok.row
  rw [List.length_map] at en
  dsimp only at en hk
  subst en
  have HOK := Lib.hid hok
  have HSM := Lib.hid hsm
  have HST := Lib.hid hst
  have HN := Lib.hid hn
  have HKD := Lib.hid hk
  have H := Lib.hid h
  clear hok hsm hst hn hk h
  obtain ⟨i0, hi, hz0, hz1, hz2⟩ := info_parts info_int05
  unfold Oc.val
  unfold DidE
  by_cases h1 : kd = 1
  · subst h1
    go_enter Try.func13, Try.ntmps13
    have H2 := Lib.hid (H.out.keep (World.grownBy_alloc w (.cells #[.int .i64 1, .string nme, .string dta, .int .i64 num, .slice an ks.length cn] 31) none))
    go_wp2_with fail
    refine (Append_any b mb n G d nme dta _ H2.out HOK.out.nml HOK.out.dtl HST.out HN.out).mono ?_
    rintro e w1 ⟨rfl, n1, hn1, hE⟩
    have HE := Lib.hid (show _ ∧ _ from ⟨hn1, hE⟩)
    clear hE hn1
    go_wp2_with fail
    go_ret2
    exact ⟨_, _, n1, rfl, HE.out.1, .inl ⟨rfl, rfl, rfl⟩, DEnd.front (World.grownBy_alloc w (.cells #[.int .i64 1, .string nme, .string dta, .int .i64 num, .slice an ks.length cn] 31) none) HE.out.2⟩
  by_cases h2 : kd = 2
  · subst h2
    go_enter Try.func13, Try.ntmps13
    have H2 := Lib.hid (H.out.keep (World.grownBy_alloc w (.cells #[.int .i64 2, .string nme, .string dta, .int .i64 num, .slice an ks.length cn] 31) none))
    go_wp2_with fail
    refine (Sync_any b mb n G d nme _ H2.out HOK.out.nml HST.out).mono ?_
    rintro e w1 ⟨rfl, hE⟩
    have HE := Lib.hid hE
    clear hE
    go_wp2_with fail
    go_ret2
    exact ⟨_, _, n, rfl, by omega, .inr (.inl ⟨rfl, rfl, rfl⟩), DEnd.front (World.grownBy_alloc w (.cells #[.int .i64 2, .string nme, .string dta, .int .i64 num, .slice an ks.length cn] 31) none) HE.out⟩
  by_cases h3 : kd = 3
  · subst h3
    go_enter Try.func13, Try.ntmps13
    have H2 := Lib.hid (H.out.keep (World.grownBy_alloc w (.cells #[.int .i64 3, .string nme, .string dta, .int .i64 num, .slice an ks.length cn] 31) none))
    go_wp2_with fail
    refine (Remove_any b mb n G d nme _ H2.out HOK.out.nml HST.out).mono ?_
    rintro e w1 ⟨rfl, hE⟩
    have HE := Lib.hid hE
    clear hE
    go_wp2_with fail
    go_ret2
    exact ⟨_, _, n, rfl, by omega, .inr (.inr (.inl ⟨rfl, rfl, rfl⟩)), DEnd.front (World.grownBy_alloc w (.cells #[.int .i64 3, .string nme, .string dta, .int .i64 num, .slice an ks.length cn] 31) none) HE.out⟩
  by_cases h4 : kd = 4
  · subst h4
    go_enter Try.func13, Try.ntmps13
    have H2 := Lib.hid (H.out.keep (World.grownBy_alloc w (.cells #[.int .i64 4, .string nme, .string dta, .int .i64 num, .slice an ks.length cn] 31) none))
    go_wp2_with fail
    refine (Fuse_any b mb n G d num _ H2.out HOK.out.nm2).mono ?_
    rintro e w1 ⟨rfl, hE⟩
    have HE := Lib.hid hE
    clear hE
    go_wp2_with fail
    go_ret2
    exact ⟨_, _, n, rfl, by omega, .inr (.inr (.inr (.inl ⟨rfl, rfl, rfl⟩))), DEnd.front (World.grownBy_alloc w (.cells #[.int .i64 4, .string nme, .string dta, .int .i64 num, .slice an ks.length cn] 31) none) HE.out⟩
  by_cases h5 : kd = 5
  · subst h5
    go_enter Try.func13, Try.ntmps13
    have H2 := Lib.hid (H.out.keep (World.grownBy_alloc w (.cells #[.int .i64 5, .string nme, .string dta, .int .i64 num, .slice an ks.length cn] 31) none))
    have r6 := HOK.out.row.kept (World.grownBy_alloc w (.cells #[.int .i64 5, .string nme, .string dta, .int .i64 num, .slice an ks.length cn] 31) none)
    have r7 := r6.kept (World.grownBy_alloc (w.alloc (.cells #[.int .i64 5, .string nme, .string dta, .int .i64 num, .slice an ks.length cn] 31)) (.cells #[] 3) none)
    have oE : ((w.alloc (.cells #[.int .i64 5, .string nme, .string dta, .int .i64 num, .slice an ks.length cn] 31)).alloc (.cells #[] 3)).ownsRow 0 3 1 (.slice (some ⟨w.heap.size + 1, 0, none⟩) 0 0) 0 [] := by
      have := own_empty (w.alloc (.cells #[.int .i64 5, .string nme, .string dta, .int .i64 num, .slice an ks.length cn] 31)) 3 1
      simpa using this
    go_wp2_with (at_builtin; refine wpList_append_row _ rfl _ _ 29 rfl 3 i0 (.int .i64 0) 8 Try.underlying29 hi hz0 hz1 hz2 rfl (.slice (some ⟨w.heap.size + 1, 0, none⟩) 0 0) 0 [] rfl oE _ (ks.map (Value.int .i64)) rfl r7 (ones_int05 ks) (by rw [List.length_map]; have := HSM.out; show _ ≤ 2^63-1; omega) (by rw [List.length_map]; have := HSM.out; omega) ?_)
    intro v8 w8 o8 g8 m8
    have N8 := newblk_at (w.alloc (.cells #[.int .i64 5, .string nme, .string dta, .int .i64 num, .slice an ks.length cn] 31)) (w.heap.size + 1) 0 0 (by simp) 0
    have GX : (w.alloc (.cells #[.int .i64 5, .string nme, .string dta, .int .i64 num, .slice an ks.length cn] 31)).grownBy w8 none := grow_newblk (World.grownBy_alloc (w.alloc (.cells #[.int .i64 5, .string nme, .string dta, .int .i64 num, .slice an ks.length cn] 31)) (.cells #[] 3) none) N8 g8
    have NV : NewBlk (w.alloc (.cells #[.int .i64 5, .string nme, .string dta, .int .i64 num, .slice an ks.length cn] 31)) v8 := N8.moved (World.grownBy_alloc (w.alloc (.cells #[.int .i64 5, .string nme, .string dta, .int .i64 num, .slice an ks.length cn] 31)) (.cells #[] 3) none).size m8
    have H3 := Lib.hid (H2.out.keep GX)
    have HR := Lib.hid (RowN.of_own2 (S := DS b mb G) (by simpa using o8) (fun g hg hs => by have := NV g hg; have := H.out.live g hs; simp at *; omega))
    have HGX := Lib.hid GX
    clear r6 r7 oE o8 g8 m8 N8 GX NV
    go_wp2_with fail
    refine (Crash_any b mb n G d ks v8 _ H3.out HR.out).mono ?_
    rintro e w1 ⟨rfl, ts, hN, hl, hE⟩
    have HE := Lib.hid (show _ ∧ _ from ⟨hN.toF H3.out, hE⟩)
    clear hE hN hl
    go_wp2_with fail
    go_ret2
    exact ⟨_, _, n, rfl, by omega, .inr (.inr (.inr (.inr (.inl ⟨rfl, rfl, ts, HE.out.1, rfl⟩)))), DEnd.front (World.grownBy_alloc w (.cells #[.int .i64 5, .string nme, .string dta, .int .i64 num, .slice an ks.length cn] 31) none) (DEnd.front HGX.out HE.out.2)⟩
  have e1 : (kd == 1) = false := by rw [beq_eq_false_iff_ne]; exact h1
  have e2 : (kd == 2) = false := by rw [beq_eq_false_iff_ne]; exact h2
  have e3 : (kd == 3) = false := by rw [beq_eq_false_iff_ne]; exact h3
  have e4 : (kd == 4) = false := by rw [beq_eq_false_iff_ne]; exact h4
  have e5 : (kd == 5) = false := by rw [beq_eq_false_iff_ne]; exact h5
  have hlt := HKD.out
  have e6 : (kd == 6) = false := by rw [beq_eq_false_iff_ne]; omega
  have e7 : (kd == 7) = false := by rw [beq_eq_false_iff_ne]; omega
  have HX : Hid (¬ (1 ≤ kd ∧ kd ≤ 7)) := fun h => by omega
  clear hlt
  go_enter Try.func13, Try.ntmps13
  go_wp2_with fail
  go_ret2
  exact ⟨_, _, n, rfl, by omega, .inr (.inr (.inr (.inr (.inr ⟨HX.out, rfl, rfl⟩)))), DEnd.same H.out (World.grownBy_alloc _ _ _)⟩
end Go.Proofs.Ytgfmmchmkfboaaa
