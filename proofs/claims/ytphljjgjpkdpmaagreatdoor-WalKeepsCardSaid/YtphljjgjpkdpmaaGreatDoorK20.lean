/- Several texts in one: WalD. -/
import Derived.Test.YtphljjgjpkdpmaaGreatDoorK18
import Derived.Test.YtphljjgjpkdpmaaGreatDoorK19
import Derived.Test.YtphljjgjpkdpmaaGreatDoorRows
import Derived.Lib.LaidTab
/- Several texts in one: WlV WlW WlX WlY WlZ WnA WnT. -/
namespace Go.Proofs.YtphljjgjpkdpmaaGreatDoor
open Go.RowKit Go.Maps Go.Sort
set_option linter.unusedVariables false
theorem ba_left (x : ByteArray) : (⟨#[]⟩ : ByteArray) ++ x = x := by
  apply ByteArray.ext; simp
theorem ba_right (x : ByteArray) : x ++ (⟨#[]⟩ : ByteArray) = x := app_none x
theorem ba_assoc3 (a b c : ByteArray) : (a ++ b) ++ c = a ++ (b ++ c) := by
  apply ByteArray.ext
  simp [Array.append_assoc]
/-- What a file holds. -/
def txt (F : ByteArray → Option Ent) (s : ByteArray) : ByteArray := match F s with
  | none => ⟨#[]⟩
  | some e => e.l ++ e.w
theorem read_up {d : Dk} (h : d.down = false) (s : ByteArray) : (readR d s).1 = txt d.F s := by
  unfold readR txt
  rw [h]
  cases d.F s <;> rfl
theorem seg_up {d : Dk} (h : d.down = false) (k : Nat) : segT d k = txt d.F (nameW k) := read_up h _
theorem settle_all (e : Ent) : syncE e = ⟨e.l ++ e.w, ⟨#[]⟩, true⟩ := by
  unfold syncE settleE
  have h : e.w.extract 0 (max 0 (min (e.w.size : Int) (e.w.size : Int))).toNat = e.w := ext_all _ _ (by omega)
  rw [h]
theorem ref_up {d : Dk} {s : ByteArray} (h : refC d s = 0) : d.down = false ∧ nameB s = true := by
  unfold refC at h
  split at h
  · exact absurd h (by decide)
  · rename_i hn
    split at h
    · exact absurd h (by decide)
    · rename_i hd
      exact ⟨by simpa using hd, by simpa using hn⟩
theorem stepC_go {d : Dk} (h : stepC d = 0) : (stepD d).down = d.down ∧ (stepD d).lit = d.lit ∧ (stepD d).F = d.F ∧ (stepD d).steps = d.steps + 1 := by
  unfold stepC at h
  unfold stepD
  split at h
  · exact absurd h (by decide)
  · rename_i hc
    rw [if_neg hc]; exact ⟨rfl, rfl, rfl, rfl⟩
theorem stepOf_go {d : Dk} {s : ByteArray} (h : stepOfC d s = 0) : refC d s = 0 ∧ (d.F s).isSome = true ∧ (stepOfD d s).down = d.down ∧ (stepOfD d s).lit = d.lit ∧ (stepOfD d s).F = d.F := by
  unfold stepOfC at h
  split at h
  · rename_i hx; exact absurd h hx
  · rename_i hr
    split at h
    · exact absurd h (by decide)
    · rename_i hf
      unfold stepOfD
      rw [if_neg hr, if_neg hf]
      obtain ⟨k1, k2, k3, _⟩ := stepC_go h
      exact ⟨by simpa using hr, by cases hh : d.F s with
        | none => rw [hh] at hf; simp at hf
        | some e => rfl, k1, k2, k3⟩
/-- What a write that was done makes of the drive. -/
theorem write_done {d : Dk} {s x : ByteArray} (h : writeC d s x = 0) : d.down = false ∧ nameB s = true ∧ (writeD d s x).down = false ∧ (writeD d s x).lit = d.lit ∧ (writeD d s x).F = putE d.F s (some ⟨txt d.F s ++ x, ⟨#[]⟩, true⟩) := by
  have h1 : appC d s x = 0 := by
    unfold writeC at h
    split at h
    · rename_i hx; exact absurd h hx
    · rename_i hx; simpa using hx
  have h2 : stepOfC (appD d s x) s = 0 := by
    unfold writeC at h
    rwa [if_neg (fun hx => hx h1)] at h
  have hr : refC d s = 0 := by
    unfold appC at h1
    split at h1
    · rename_i hx; exact absurd h1 hx
    · rename_i hx; simpa using hx
  have hz : ¬ 1048576 < x.size + (entOf d s).sz := by
    unfold appC at h1
    rw [if_neg (fun hx => hx hr)] at h1
    split at h1
    · exact absurd h1 (by decide)
    · assumption
  have hs : stepC d = 0 := by
    unfold appC at h1
    rwa [if_neg (fun hx => hx hr), if_neg hz] at h1
  obtain ⟨k1, k2, k3, _⟩ := stepC_go hs
  have hA : appD d s x = { stepD d with F := putE d.F s (some ⟨(entOf d s).l, (entOf d s).w ++ x, (entOf d s).s⟩) } := by
    unfold appD
    rw [if_neg (fun hx => hx hr), if_neg hz, if_neg (fun hx => hx hs)]
  obtain ⟨q1, q2, q3, q4, q5⟩ := stepOf_go h2
  have hW : writeD d s x = { stepOfD (appD d s x) s with F := putE (appD d s x).F s (((appD d s x).F s).map syncE) } := by
    unfold writeD
    rw [if_neg (fun hx => hx h1)]
    unfold syncD
    rw [if_pos h2]
  obtain ⟨u1, u2⟩ := ref_up hr
  have hF : (appD d s x).F = putE d.F s (some ⟨(entOf d s).l, (entOf d s).w ++ x, (entOf d s).s⟩) := by rw [hA]
  have hFs : (appD d s x).F s = some ⟨(entOf d s).l, (entOf d s).w ++ x, (entOf d s).s⟩ := by rw [hF]; unfold putE; rw [if_pos rfl]
  refine ⟨u1, u2, ?_, ?_, ?_⟩
  · rw [hW]
    show (stepOfD (appD d s x) s).down = false
    rw [q3, hA]
    show (stepD d).down = false
    rw [k1, u1]
  · rw [hW]
    show (stepOfD (appD d s x) s).lit = d.lit
    rw [q4, hA]
    exact k2
  · rw [hW]
    show putE (appD d s x).F s (((appD d s x).F s).map syncE) = _
    rw [hFs, hF, putE_twice]
    show putE d.F s (some (syncE _)) = _
    rw [settle_all]
    congr 2
    show (⟨(entOf d s).l ++ ((entOf d s).w ++ x), ⟨#[]⟩, true⟩ : Ent) = _
    rw [← ba_assoc3]
    congr 1
    congr 1
    unfold entOf txt
    cases d.F s with
    | none => exact ba_left _
    | some e => rfl
theorem rem_done {d : Dk} {s : ByteArray} (h : stepOfC d s = 0) : d.down = false ∧ (removeD d s).down = false ∧ (removeD d s).lit = d.lit ∧ (removeD d s).F = putE d.F s none := by
  obtain ⟨q1, q2, q3, q4, q5⟩ := stepOf_go h
  obtain ⟨u1, _⟩ := ref_up q1
  have e : removeD d s = { stepOfD d s with F := putE d.F s none } := by unfold removeD; rw [if_pos h]
  refine ⟨u1, ?_, ?_, ?_⟩
  · rw [e]; show (stepOfD d s).down = false; rw [q3, u1]
  · rw [e]; exact q4
  · rw [e]
/-- Files that were removed, all of them. -/
theorem rems_done : ∀ (l : List ByteArray) (d : Dk), d.down = false → (rems d l).1 = 0 → (rems d l).2.down = false ∧ (rems d l).2.lit = d.lit ∧ ∀ x, (x ∈ l → (rems d l).2.F x = none) ∧ (x ∉ l → (rems d l).2.F x = d.F x)
  | [], d, hd, _ => ⟨hd, rfl, fun x => ⟨fun h => absurd h List.not_mem_nil, fun _ => rfl⟩⟩
  | s :: l, d, hd, h => by
    by_cases hs : stepOfC d s = 0
    · have e : rems d (s :: l) = rems (removeD d s) l := by
        unfold rems
        rw [List.foldl_cons]
        congr 1
        unfold remS
        rw [if_neg (fun h => h rfl), hs]
      obtain ⟨_, r2, r3, r4⟩ := rem_done hs
      rw [e] at h ⊢
      obtain ⟨k1, k2, k3⟩ := rems_done l (removeD d s) r2 h
      refine ⟨k1, k2.trans r3, fun x => ?_⟩
      obtain ⟨k4, k5⟩ := k3 x
      rw [r4] at k5
      unfold putE at k5
      by_cases hl : x ∈ l
      · exact ⟨fun _ => k4 hl, fun h => absurd (List.mem_cons_of_mem _ hl) h⟩
      · have k6 := k5 hl
        by_cases hx : x = s
        · rw [if_pos hx] at k6
          exact ⟨fun _ => k6, fun h => absurd (by rw [hx]; exact List.mem_cons_self ..) h⟩
        · rw [if_neg hx] at k6
          exact ⟨fun h => by rcases List.mem_cons.1 h with h | h; exact absurd h hx; exact absurd h hl, fun _ => k6⟩
    · exfalso
      have e : rems d (s :: l) = rems d [s] := by
        have h1 : (rems d [s]).1 ≠ 0 := by
          show (remS (0, d) s).1 ≠ 0
          unfold remS
          rw [if_neg (fun h => h rfl)]
          exact hs
        exact rems_stop (a := [s]) (b := l) h1
      rw [e] at h
      have h1 : (remS (0, d) s).1 = 0 := h
      unfold remS at h1
      rw [if_neg (fun h => h rfl)] at h1
      exact hs h1
/-- With nothing in the way all of them are. -/
theorem rems_go : ∀ (l : List ByteArray) (d : Dk), d.down = false → d.lit = false → l.Nodup → (∀ s ∈ l, nameB s = true ∧ (d.F s).isSome = true) → (rems d l).1 = 0
  | [], d, _, _, _, _ => rfl
  | s :: l, d, hd, hl, hn, h => by
    obtain ⟨h1, h2⟩ := h s (List.mem_cons_self ..)
    have hs : stepOfC d s = 0 := by
      have hr : refC d s = 0 := by
        unfold refC
        rw [if_neg (by rw [h1]; decide), if_neg (by rw [hd]; decide)]
      unfold stepOfC
      rw [if_neg (fun hx => hx hr), if_neg (by cases hf : d.F s with
        | none => rw [hf] at h2; cases h2
        | some e => simp)]
      unfold stepC
      rw [if_neg (by rw [hl]; simp)]
    have e : rems d (s :: l) = rems (removeD d s) l := by
      unfold rems
      rw [List.foldl_cons]
      congr 1
      unfold remS
      rw [if_neg (fun h => h rfl), hs]
    obtain ⟨_, r2, r3, r4⟩ := rem_done hs
    obtain ⟨n1, n2⟩ := List.nodup_cons.1 hn
    rw [e]
    refine rems_go l _ r2 (r3.trans hl) n2 fun t ht => ?_
    obtain ⟨t1, t2⟩ := h t (List.mem_cons_of_mem _ ht)
    refine ⟨t1, ?_⟩
    rw [r4]
    unfold putE
    rw [if_neg (fun e => n1 (by rw [← e]; exact ht))]
    exact t2
theorem seg_put {d d' : Dk} {m : Nat} {y : ByteArray} (h : d.down = false) (h' : d'.down = false) (hF : d'.F = putE d.F (nameW m) (some ⟨y, ⟨#[]⟩, true⟩)) (k : Nat) : segT d' k = if k = m then y else segT d k := by
  rw [seg_up h', seg_up h]
  unfold txt
  rw [hF]
  unfold putE
  by_cases hk : k = m
  · rw [if_pos hk, hk, if_pos rfl]; exact ba_right _
  · rw [if_neg hk, if_neg (fun e => hk (nameW_inj e))]
theorem gone_nil : goneK (⟨#[]⟩ : ByteArray) = false := by
  cases h : goneK (⟨#[]⟩ : ByteArray) with
  | false => rfl
  | true => exact absurd (gone_op h) (by have := op_nil; rw [show (⟨#[]⟩ : ByteArray) = bs [] from rfl, this]; decide)
/-- The drive is up, and has just the log's segments, all of them firm. -/
structure Good (d : Dk) (c : Lc) (base : ByteArray) (recs : List ByteArray) : Prop where
  up : d.down = false
  lg : Lg (segT d) c base recs
  firm : ∀ s e, d.F s = some e → e.w.size = 0 ∧ e.s = true ∧ ∃ k, c.first ≠ 0 ∧ c.first ≤ k ∧ k ≤ c.last ∧ s = nameW k
section
variable {d : Dk} {c : Lc} {base : ByteArray} {recs l : List ByteArray}
theorem Good.none (h : Good d c base recs) {k : Nat} (hk : c.first = 0 ∨ c.last < k ∨ k < c.first) : segT d k = ⟨#[]⟩ := by
  rw [seg_up h.up]
  unfold txt
  cases hf : d.F (nameW k) with
  | none => rfl
  | some e =>
    obtain ⟨_, _, j, j0, j1, j2, j3⟩ := h.firm _ e hf
    have := nameW_inj j3
    omega
theorem Good.has (h : Good d c base recs) (h0 : c.first ≠ 0) {k : Nat} (h1 : c.first ≤ k) (h2 : k ≤ c.last) : (d.F (nameW k)).isSome = true := by
  have hop := h.lg.op h0 h1 h2
  rw [seg_up h.up] at hop
  unfold txt at hop
  cases hf : d.F (nameW k) with
  | none => rw [hf] at hop; rw [show opB (⟨#[]⟩ : ByteArray) = false from op_nil] at hop; cases hop
  | some e => rfl
theorem seal_small (h : sealOk l) : ∀ p ∈ l, p.size ≤ 1048576 := fun p hp => Nat.le_trans (h.1 p hp) (by omega)
theorem sealB_bs (l : List ByteArray) : sealB l = bs (framesB l) := rfl
theorem place_cases (c : Lc) (hp : placeE c = 0) : (c.last = 0 ∧ placeN c = 1 ∧ placeH c = layX ⟨#[]⟩) ∨ (c.last ≠ 0 ∧ c.torn = false ∧ c.size < 2048 ∧ placeN c = c.last ∧ placeH c = ⟨#[]⟩) ∨ (c.last ≠ 0 ∧ ¬ (c.torn = false ∧ c.size < 2048) ∧ c.last ≠ 999999999 ∧ placeN c = c.last + 1 ∧ placeH c = goX c.size) := by
  unfold placeE at hp
  unfold placeN placeH
  by_cases h0 : c.last = 0
  · left
    rw [if_pos h0, if_pos h0]; exact ⟨h0, rfl, rfl⟩
  · right
    rw [if_neg h0] at hp
    rw [if_neg h0, if_neg h0]
    by_cases h1 : c.torn = false ∧ c.size < 2048
    · left
      rw [if_pos h1, if_pos h1]; exact ⟨h0, h1.1, h1.2, rfl, rfl⟩
    · right
      rw [if_neg h1] at hp
      rw [if_neg h1, if_neg h1]
      by_cases h2 : c.last = 999999999
      · rw [if_pos h2] at hp; exact absurd hp (by decide)
      · rw [if_neg h2, if_neg h2]; exact ⟨h0, h1, h2, rfl, rfl⟩
/-- Behind a write the files are the log's again. -/
theorem Good.put {d' : Dk} {c' : Lc} {base' : ByteArray} {recs' : List ByteArray} {m : Nat} {y : ByteArray} (h : Good d c base recs) (hup : d'.down = false) (hF : d'.F = putE d.F (nameW m) (some ⟨y, ⟨#[]⟩, true⟩)) (hlg : Lg (segT d') c' base' recs')
    (h0 : c'.first ≠ 0) (hm : c'.first ≤ m ∧ m ≤ c'.last) (hc : c.first ≠ 0 → c'.first ≤ c.first ∧ c.last ≤ c'.last) : Good d' c' base' recs' := by
  refine ⟨hup, hlg, fun s e he => ?_⟩
  rw [hF] at he
  unfold putE at he
  split at he
  · rename_i hs
    injection he with he
    subst he
    exact ⟨rfl, rfl, m, h0, hm.1, hm.2, hs⟩
  · obtain ⟨e1, e2, k, k0, k1, k2, k3⟩ := h.firm s e he
    have := hc k0
    exact ⟨e1, e2, k, h0, by omega, by omega, k3⟩
/-- Append, behind a write that was done. -/
theorem Good.append (h : Good d c base recs) (hs : sealOk l) (hp : placeE c = 0) (hz : c.size ≤ 1000000000) (hw : writeC d (nameW (placeN c)) (placeH c ++ sealB l) = 0) :
    Good (writeD d (nameW (placeN c)) (placeH c ++ sealB l)) (writeL c d (placeN c) (placeH c ++ sealB l)) base (recs ++ l) := by
  obtain ⟨w1, w2, w3, w4, w5⟩ := write_done hw
  have hsm := seal_small hs
  have hL : writeL c d (placeN c) (placeH c ++ sealB l) = growC c (placeN c) (placeH c ++ sealB l).size := by unfold writeL; rw [if_pos hw]
  rw [hL]
  have hpc := place_cases c hp
  clear hL hw hp
  generalize placeN c = PN at *
  generalize placeH c = PH at *
  rcases hpc with ⟨p0, p1, p2⟩ | ⟨p0, p1, p2, p3, p4⟩ | ⟨p0, p1, p2, p3, p4⟩
  · have f0 : c.first = 0 := by
      have := h.lg.le
      by_cases hf : c.first = 0
      · exact hf
      · have := this hf; omega
    obtain ⟨e1, e2, e3⟩ := h.lg.none f0
    subst e2 e3
    subst p1 p2
    have hT := seg_put h.up w3 w5
    have hn1 : txt d.F (nameW 1) = ⟨#[]⟩ := by rw [← seg_up h.up]; exact h.none (.inl f0)
    rw [hn1, ba_left] at hT
    have hg : growC c 1 (layX ⟨#[]⟩ ++ sealB l).size = ⟨1, 1, (layX ⟨#[]⟩ ++ sealB l).size, false⟩ := by
      unfold growC
      rw [if_pos f0, if_neg (show ¬ 1 = c.last by omega), if_neg (show ¬ 1 = c.last by omega), Nat.zero_add]
    rw [hg]
    have hT1 := hT 1
    rw [if_pos rfl] at hT1
    have hT2 := hT 2
    rw [if_neg (by omega), h.none (.inl f0)] at hT2
    have hlg := Lg.new (T' := segT (writeD d (nameW 1) (layX ⟨#[]⟩ ++ sealB l))) (k := 1) (s := ⟨#[]⟩) (l := l) (by omega) (by omega) (by show 0 ≤ _; omega) hsm (by rw [hT1, sealB_bs]) (by rw [hT2]; exact gone_nil)
    rw [hT1] at hlg
    rw [List.nil_append]
    exact h.put w3 w5 hlg (by show 1 ≠ 0; omega) (by show 1 ≤ 1 ∧ 1 ≤ 1; omega) (fun h => absurd f0 h)
  · subst p3 p4
    rw [ba_left] at *
    have f0 := h.lg.first0 p0
    have hle := h.lg.le f0
    have hT := seg_put h.up w3 w5
    rw [← seg_up h.up] at hT
    have hg : growC c c.last (sealB l).size = ⟨c.first, c.last, c.size + (framesB l).length, false⟩ := by
      unfold growC
      rw [if_neg f0, if_pos rfl, if_pos rfl, sealB_size, p1]
    rw [hg]
    have hT1 := hT c.last
    rw [if_pos rfl] at hT1
    have hT2 := hT (c.last + 1)
    rw [if_neg (by omega), h.none (.inr (.inl (by omega)))] at hT2
    have hlg := Lg.put_same (T' := segT (writeD d (nameW c.last) (sealB l))) h.lg p0 p1 hsm (by rw [hT1, sealB_bs]) (fun k hk => by rw [hT k, if_neg (by omega)]) (by rw [hT2]; exact gone_nil)
    exact h.put w3 w5 hlg f0 ⟨hle.1, Nat.le_refl _⟩ (fun _ => ⟨Nat.le_refl _, Nat.le_refl _⟩)
  · subst p3 p4
    have f0 := h.lg.first0 p0
    have hle := h.lg.le f0
    have hT := seg_put h.up w3 w5
    rw [← seg_up h.up, h.none (k := c.last + 1) (.inr (.inl (by omega))), ba_left] at hT
    have hg : growC c (c.last + 1) (goX c.size ++ sealB l).size = ⟨c.first, c.last + 1, (goX c.size ++ sealB l).size, false⟩ := by
      unfold growC
      rw [if_neg f0, if_neg (show ¬ c.last + 1 = c.last by omega), if_neg (show ¬ c.last + 1 = c.last by omega), Nat.zero_add]
    rw [hg]
    have hT1 := hT (c.last + 1)
    rw [if_pos rfl] at hT1
    have hT2 := hT (c.last + 1 + 1)
    rw [if_neg (by omega), h.none (.inr (.inl (by omega)))] at hT2
    have hlg := Lg.put_next (T' := segT (writeD d (nameW (c.last + 1)) (goX c.size ++ sealB l))) h.lg f0 (by omega) hz hsm (by rw [hT1, sealB_bs]) (fun k hk => by rw [hT k, if_neg (by omega)]) (by rw [hT2]; exact gone_nil)
    rw [hT1] at hlg
    exact h.put w3 w5 hlg f0 (by show c.first ≤ c.last + 1 ∧ c.last + 1 ≤ c.last + 1; omega) (fun _ => ⟨Nat.le_refl _, by show c.last ≤ c.last + 1; omega⟩)
theorem mem_segs {f l : Nat} {s : ByteArray} : s ∈ segsOf f l ↔ f ≠ 0 ∧ ∃ k, f ≤ k ∧ k ≤ l ∧ s = nameW k := by
  unfold segsOf
  by_cases h0 : f = 0
  · rw [if_pos h0]; simp [h0]
  · rw [if_neg h0, List.mem_map]
    constructor
    · rintro ⟨k, hk, rfl⟩
      rw [List.mem_range'_1] at hk
      exact ⟨h0, k, hk.1, by omega, rfl⟩
    · rintro ⟨_, k, h1, h2, rfl⟩
      exact ⟨k, by rw [List.mem_range'_1]; omega, rfl⟩
/-- Lay, that was done. -/
theorem Good.lay {s : ByteArray} (h : Good d c base recs) (hl : c.last < 999999999) (hs : s.size ≤ 524288) (hw : layC c d s = 0) : Good (layD c d s) (layL c d s) s [] := by
  have h1 : writeC d (layN c) (layX s) = 0 := by
    unfold layC at hw
    split at hw
    · rename_i hx; exact absurd hw hx
    · rename_i hx; simpa using hx
  have hd : layD c d s = (rems (writeD d (layN c) (layX s)) (segsOf c.first c.last)).2 := by unfold layD; rw [if_neg (fun hx => hx h1)]
  have hc : layL c d s = ⟨c.last + 1, c.last + 1, (layX s).size, false⟩ := by unfold layL; rw [if_neg (fun hx => hx h1)]
  have h2 : (rems (writeD d (layN c) (layX s)) (segsOf c.first c.last)).1 = 0 := by
    unfold layC at hw
    rwa [if_neg (fun hx => hx h1)] at hw
  obtain ⟨w1, w2, w3, w4, w5⟩ := write_done h1
  obtain ⟨r1, r2, r3⟩ := rems_done _ _ w3 h2
  rw [hd, hc]
  generalize hD : (rems (writeD d (layN c) (layX s)) (segsOf c.first c.last)).2 = D at *
  have hn : txt d.F (layN c) = ⟨#[]⟩ := by
    unfold layN
    rw [← seg_up h.up]
    refine h.none ?_
    by_cases h0 : c.first = 0
    · exact .inl h0
    · exact .inr (.inl (by omega))
  have hFn : D.F (layN c) = some ⟨layX s, ⟨#[]⟩, true⟩ := by
    rw [(r3 (layN c)).2 (fun hm => by
      obtain ⟨_, k, k1, k2, k3⟩ := mem_segs.1 hm
      have := nameW_inj (show nameW (c.last + 1) = nameW k from k3)
      omega), w5]
    unfold putE
    rw [if_pos rfl, hn, ba_left]
  have hFo : ∀ t e, D.F t = some e → t = layN c := by
    intro t e ht
    by_cases hm : t ∈ segsOf c.first c.last
    · rw [(r3 t).1 hm] at ht; cases ht
    · rw [(r3 t).2 hm, w5] at ht
      unfold putE at ht
      by_cases hx : t = layN c
      · exact hx
      · exfalso
        rw [if_neg hx] at ht
        obtain ⟨_, _, k, k0, k1, k2, k3⟩ := h.firm t e ht
        exact hm (mem_segs.2 ⟨k0, k, k1, k2, k3⟩)
  have hT1 : segT D (c.last + 1) = layX s := by
    rw [seg_up r1]
    unfold txt
    have := hFn
    unfold layN at this
    rw [this]
    exact ba_right _
  have hT2 : segT D (c.last + 1 + 1) = ⟨#[]⟩ := by
    rw [seg_up r1]
    unfold txt
    cases hf : D.F (nameW (c.last + 1 + 1)) with
    | none => rfl
    | some e =>
      have := nameW_inj (hFo _ e hf)
      omega
  have hlg := Lg.new (T' := segT D) (k := c.last + 1) (s := s) (l := []) (by omega) (by omega) (by omega) (by simp) (by rw [hT1]; exact (ba_right _).symm) (by rw [hT2]; exact gone_nil)
  rw [hT1] at hlg
  refine ⟨r1, hlg, fun t e ht => ?_⟩
  have ht2 := hFo t e ht
  rw [ht2, hFn] at ht
  injection ht with ht
  subst ht
  exact ⟨rfl, rfl, c.last + 1, by show c.last + 1 ≠ 0; omega, Nat.le_refl _, Nat.le_refl _, ht2⟩
end
theorem name_ok {k : Nat} (hk : k ≤ 1000000000) : nameB (nameW k) = true := by
  have hsz := nameW_le hk
  have hpos : (nameW k).size ≠ 0 := by rw [nameW_size]; omega
  unfold nameB
  rw [decide_eq_true hpos, decide_eq_true (by omega), Bool.and_true, Bool.and_true, List.all_eq_true]
  intro b hb
  have e : (nameW k).data.toList = logB ++ Lib.decDigits k := by unfold nameW; simp
  rw [e] at hb
  rcases List.mem_append.1 hb with hb | hb
  · have h4 : b = 108 ∨ b = 111 ∨ b = 103 ∨ b = 46 := by simpa [logB] using hb
    rcases h4 with rfl | rfl | rfl | rfl <;> decide
  · obtain ⟨h1, h2⟩ := dec_digit k b hb
    unfold okC
    have h3 : (48 : UInt8) ≤ b := by rw [UInt8.le_iff_toNat_le]; exact h1
    have h5 : b ≤ (57 : UInt8) := by rw [UInt8.le_iff_toNat_le]; exact h2
    simp [h3, h5]
theorem ref_ok {d : Dk} {s : ByteArray} (hd : d.down = false) (hn : nameB s = true) : refC d s = 0 := by
  unfold refC
  rw [if_neg (by rw [hn]; decide), if_neg (by rw [hd]; decide)]
theorem stepC_ok {d : Dk} (hl : d.lit = false) : stepC d = 0 := by
  unfold stepC
  rw [if_neg (by rw [hl]; simp)]
theorem stepOf_ok {d : Dk} {s : ByteArray} {e : Ent} (hd : d.down = false) (hl : d.lit = false) (hn : nameB s = true) (he : d.F s = some e) : stepOfC d s = 0 := by
  unfold stepOfC
  rw [if_neg (fun hx => hx (ref_ok hd hn)), if_neg (by rw [he]; simp)]
  exact stepC_ok hl
theorem write_goes {d : Dk} {s x : ByteArray} (hd : d.down = false) (hl : d.lit = false) (hn : nameB s = true) (hz : x.size + (entOf d s).sz ≤ 1048576) : writeC d s x = 0 := by
  have hr := ref_ok hd hn
  have hs := stepC_ok hl
  have hz' : ¬ 1048576 < x.size + (entOf d s).sz := by omega
  have h1 : appC d s x = 0 := by
    unfold appC
    rw [if_neg (fun hx => hx hr), if_neg hz']; exact hs
  obtain ⟨k1, k2, k3, _⟩ := stepC_go hs
  have hA : appD d s x = { stepD d with F := putE d.F s (some ⟨(entOf d s).l, (entOf d s).w ++ x, (entOf d s).s⟩) } := by
    unfold appD
    rw [if_neg (fun hx => hx hr), if_neg hz', if_neg (fun hx => hx hs)]
  unfold writeC
  rw [if_neg (fun hx => hx h1)]
  refine stepOf_ok (e := ⟨(entOf d s).l, (entOf d s).w ++ x, (entOf d s).s⟩) ?_ ?_ hn ?_
  · rw [hA]; exact k1.trans hd
  · rw [hA]; exact k2.trans hl
  · rw [hA]; show putE _ _ _ s = _; unfold putE; rw [if_pos rfl]
theorem goX_size (n : Nat) (hn : n ≤ 1000000000) : (goX n).size ≤ 200 :=
  headW_size 2 _ (by omega) (Nat.le_trans (nums1_size _ (by omega)) (by omega))
theorem lay0_size : (layX ⟨#[]⟩).size ≤ 200 := headW_size 1 _ (by omega) (Nat.le_trans text0_size (by omega))
section
variable {d : Dk} {c : Lc} {base : ByteArray} {recs l : List ByteArray}
theorem Good.ent (h : Good d c base recs) (k : Nat) : (entOf d (nameW k)).sz = (segT d k).size := by
  rw [seg_up h.up]
  unfold entOf txt
  cases hf : d.F (nameW k) with
  | none => rfl
  | some e =>
    show e.l.size + e.w.size = (e.l ++ e.w).size
    rw [ByteArray.size_append]
theorem Good.append_ok (h : Good d c base recs) (hl : d.lit = false) (hs : sealOk l) (hp : placeE c = 0) (hz : c.size ≤ 1000000000) : writeC d (nameW (placeN c)) (placeH c ++ sealB l) = 0 := by
  have hsz : (sealB l).size ≤ 65536 := by rw [sealB_size]; exact hs.2
  have hpc := place_cases c hp
  clear hp
  generalize placeN c = PN at *
  generalize placeH c = PH at *
  rcases hpc with ⟨p0, p1, p2⟩ | ⟨p0, p1, p2, p3, p4⟩ | ⟨p0, p1, p2, p3, p4⟩
  · have f0 : c.first = 0 := by
      by_cases hf : c.first = 0
      · exact hf
      · have := h.lg.le hf; omega
    subst p1 p2
    refine write_goes h.up hl (name_ok (by omega)) ?_
    rw [h.ent, h.none (.inl f0), ba_size_app]
    have := lay0_size
    have : (⟨#[]⟩ : ByteArray).size = 0 := rfl
    omega
  · subst p3 p4
    have f0 := h.lg.first0 p0
    have hle := h.lg.le f0
    obtain ⟨z1, z2⟩ := h.lg.size f0
    rw [p1] at z2
    have hz0 : (scanC (segT d c.last)).size = 0 := by simpa using z2
    refine write_goes h.up hl (name_ok (by omega)) ?_
    rw [h.ent, ba_size_app]
    have : (⟨#[]⟩ : ByteArray).size = 0 := rfl
    omega
  · subst p3 p4
    have f0 := h.lg.first0 p0
    have hle := h.lg.le f0
    refine write_goes h.up hl (name_ok (by omega)) ?_
    rw [h.ent, h.none (k := c.last + 1) (.inr (.inl (by omega))), ba_size_app]
    have := goX_size c.size hz
    have : (⟨#[]⟩ : ByteArray).size = 0 := rfl
    omega
theorem segs_nodup (f l : Nat) : (segsOf f l).Nodup := by
  unfold segsOf
  split
  · exact List.nodup_nil
  · rw [List.nodup_iff_pairwise_ne, List.pairwise_map]
    refine List.Pairwise.imp ?_ (List.nodup_iff_pairwise_ne.1 (List.nodup_range' (step := 1)))
    intro a b hab e
    exact hab (nameW_inj e)
theorem Good.lay_ok {s : ByteArray} (h : Good d c base recs) (hl : d.lit = false) (hc : c.last < 999999999) (hs : s.size ≤ 524288) : layC c d s = 0 := by
  have hx := (layX_size s hs).2
  have h1 : writeC d (layN c) (layX s) = 0 := by
    refine write_goes h.up hl (name_ok (by omega)) ?_
    unfold layN
    rw [h.ent, h.none (k := c.last + 1) (by
      by_cases h0 : c.first = 0
      · exact .inl h0
      · exact .inr (.inl (by omega)))]
    have : (⟨#[]⟩ : ByteArray).size = 0 := rfl
    omega
  unfold layC
  rw [if_neg (fun hx => hx h1)]
  obtain ⟨w1, w2, w3, w4, w5⟩ := write_done h1
  refine rems_go _ _ w3 (w4.trans hl) (segs_nodup _ _) fun t ht => ?_
  obtain ⟨f0, k, k1, k2, rfl⟩ := mem_segs.1 ht
  have := (h.lg.le f0).2
  refine ⟨name_ok (by omega), ?_⟩
  rw [w5]
  unfold putE
  rw [if_neg (fun e => by have := nameW_inj (show nameW k = nameW (c.last + 1) from e); omega)]
  exact h.has f0 k1 k2
theorem beg_not_gone {s : ByteArray} (h : begK s = true) : goneK s = false := by
  unfold begK at h
  have h1 := of_decide_eq_true ((Bool.and_eq_true_iff.1 (Bool.and_eq_true_iff.1 h).2).1)
  unfold goneK
  rw [h1]
  simp
theorem mem_names {F : ByteArray → Option Ent} {ts : List (List UInt8)} (hN : NamesF F ts) {s : ByteArray} : s ∈ (namesP ts logP).map nm ↔ (F s).isSome = true ∧ Lib.hasPrefix s.data.toList logP.data.toList = true := by
  rw [List.mem_map]
  constructor
  · rintro ⟨x, hx, rfl⟩
    unfold namesP at hx
    rw [List.mem_filter] at hx
    refine ⟨(hN.mem x).1 hx.1, ?_⟩
    have e : (nm x).data.toList = x := bs_list x
    rw [e]; exact hx.2
  · rintro ⟨h1, h2⟩
    refine ⟨s.data.toList, ?_, bs_self s⟩
    unfold namesP
    rw [List.mem_filter]
    refine ⟨(hN.mem _).2 ?_, h2⟩
    have e : nm s.data.toList = s := bs_self s
    rw [e]; exact h1
/-- Where the log of such a drive begins. -/
theorem Good.first (h : Good d c base recs) {ts : List (List UInt8)} (hN : NamesF d.F ts) : begN d ((namesP ts logP).map nm) = c.first := by
  obtain ⟨a, ha⟩ : ∃ a, a = begN d ((namesP ts logP).map nm) := ⟨_, rfl⟩
  rw [← ha]
  by_cases h0 : a = 0
  · by_cases f0 : c.first = 0
    · rw [h0, f0]
    · exfalso
      have hle := h.lg.le f0
      have := begN_max (d := d) (l := (namesP ts logP).map nm) (k := c.first) (by omega) (by omega) ((mem_names hN).2 ⟨h.has f0 (Nat.le_refl _) hle.1, name_pre _⟩) (h.lg.beg f0).1
      omega
  · obtain ⟨a1, a2, a3⟩ := begN_is ha.symm h0
    have h1 := ((mem_names hN).1 a2).1
    cases hf : d.F (nameW a) with
    | none => rw [hf] at h1; cases h1
    | some e =>
      obtain ⟨_, _, k, f0, k1, k2, k3⟩ := h.firm _ e hf
      have hk := nameW_inj k3
      subst hk
      by_cases he : a = c.first
      · exact he
      · exfalso
        have hg := (h.lg.all f0 (a - 1) (by omega) (by omega)).1
        rw [show a - 1 + 1 = a by omega, beg_not_gone a3] at hg
        cases hg
theorem Good.tidy (h : Good d c base recs) {ts : List (List UInt8)} (hN : NamesF d.F ts) : tidyL c (namesP ts logP) = [] := by
  unfold tidyL
  rw [List.filter_eq_nil_iff]
  intro s hs
  have h1 := ((mem_names hN).1 hs).1
  cases hf : d.F s with
  | none => rw [hf] at h1; cases h1
  | some e =>
    obtain ⟨_, _, k, f0, k1, k2, rfl⟩ := h.firm _ e hf
    have hle := h.lg.le f0
    unfold keepB
    rw [numW_name (by omega) (by omega), decide_eq_true (by omega)]
    simp
theorem Good.new : Good newD ⟨0, 0, 0, false⟩ ⟨#[]⟩ [] := ⟨rfl, Lg.zero _, fun s e he => by cases he⟩
end
/-- A log, its drive, the variables that are read below block B, its own blocks not. -/
structure Wl (B : Nat) (w : World) (lb db mb n : Nat) (G : ByteArray → Option Nat) (c : Lc) (d : Dk) : Prop where
  wat : WAt w lb db mb n G c d
  va : Va B w
  lo : Lo B lb db mb G
  hb : B ≤ w.heap.size
section
variable {B : Nat} {w w' : World} {lb db mb n n' : Nat} {G : ByteArray → Option Nat} {c c' : Lc} {d d' : Dk} {base : ByteArray} {recs l : List ByteArray}
theorem Wl.keep (h : Wl B w lb db mb n G c d) (g : w.grownBy w' none) : Wl B w' lb db mb n G c d := ⟨h.wat.keep g, h.va.keep g, h.lo, Nat.le_trans h.hb g.size⟩
theorem lo_over {G' : ByteArray → Option Nat} (hl : Lo B lb db mb G) (hB : B ≤ w.heap.size) (h3 : ∀ s g, G' s = some g → (∃ t, G t = some g) ∨ w.heap.size ≤ g) : Lo B lb db mb G' := by
  intro i hi
  rcases hi with rfl | rfl | rfl | ⟨t, h⟩
  · exact hl _ (.inl rfl)
  · exact hl _ (.inr (.inl rfl))
  · exact hl _ (.inr (.inr (.inl rfl)))
  · rcases h3 t i h with ⟨u, y⟩ | y
    · exact hl _ (.inr (.inr (.inr ⟨u, y⟩)))
    · exact Nat.le_trans hB y
theorem Wl.go (h : Wl B w lb db mb n G c d) (k : WEnd lb db mb G n' c' d' w w') : ∃ G', Wl B w' lb db mb n' G' c' d' ∧ Below B w w' := by
  have hv := h.va.over h.lo h.hb k
  obtain ⟨G', k1, k2, k3⟩ := k
  exact ⟨G', ⟨k1, hv, lo_over h.lo h.hb k3, Nat.le_trans h.hb k2.size⟩, k2.below h.hb h.lo⟩
theorem Wl.lcok (h : Wl B w lb db mb n G c d) (hg : Good d c base recs) : LcOk c := hg.lg.lcok (by have := DAt.text h.wat.dr (nameW c.last); show (segT d c.last).size ≤ _; unfold segT; omega)
theorem place_ok (h : c.last < 999999999) : placeE c = 0 := by
  unfold placeE
  split
  · rfl
  · split
    · rfl
    · rw [if_neg (by omega)]
theorem Append_good (v : Value) (h : Wl B w lb db mb n G c d) (hg : Good d c base recs) (hl : d.lit = false) (hs : sealOk l) (h0 : l ≠ []) (hr : RowAt w v (l.map Value.string)) (hlen : l.length ≤ 20000) (hc : c.last < 999999999) (hst : d.steps + 1 < 1000000) (hn : n < 1000000) :
    Calls Tryz.prog 16 #[.pointer (some ⟨lb, 0, none⟩), v] w fun e w' => e = .returned (.int .i64 0) ∧ ∃ n', n' ≤ n + 1 ∧ WEnd lb db mb G n' (writeL c d (placeN c) (placeH c ++ sealB l)) (writeD d (nameW (placeN c)) (placeH c ++ sealB l)) w w' := by
  have hk := h.lcok hg
  have ha := hg.append_ok hl hs (place_ok hc) hk.2.2.2
  have := LAppend_through lb db mb n G c d B v l w h.wat h.va h.lo h.hb hk hst hn hr hlen h0 hs (place_ok hc)
  rw [ha] at this
  exact this
theorem Lay_good (s : ByteArray) (h : Wl B w lb db mb n G c d) (hg : Good d c base recs) (hl : d.lit = false) (hs : s.size ≤ 524288) (hc : c.last < 999999999) (hst : d.steps + 3 + (c.last + 1 - c.first) < 1000000) (hn : n < 1000000) :
    Calls Tryz.prog 18 #[.pointer (some ⟨lb, 0, none⟩), .string s] w fun e w' => e = .returned (.int .i64 0) ∧ ∃ n', n' ≤ n + 1 ∧ WEnd lb db mb G n' (layL c d s) (layD c d s) w w' := by
  have := Lay_any lb db mb n G c d B s w h.wat h.va h.lo h.hb (h.lcok hg) hs hc hst hn
  unfold LayE at this
  rw [hg.lay_ok hl hc hs] at this
  exact this
theorem Good.names (hg : Good d c base recs) : ∀ s e, d.F s = some e → s.size ≤ 1000 := by
  intro s e he
  obtain ⟨_, _, k, f0, k1, k2, rfl⟩ := hg.firm s e he
  have := hg.lg.le f0
  exact Nat.le_trans (nameW_le (by omega)) (by omega)
theorem Open_good (h : DAt w db mb n G d) (hv : Va B w) (hlo : ∀ i, DS db mb G i → B ≤ i) (hB : B ≤ w.heap.size) (hg : Good d c base recs) (hst : d.steps + n < 1000000) :
    Calls Tryz.prog 15 #[.pointer (some ⟨db, 0, none⟩)] w fun e w' => ∃ v G', e = .returned (.tuple #[.pointer (some ⟨w.heap.size, 0, none⟩), .string base, v, .int .i64 0]) ∧ w'.ownsRow 0 9 1 v recs.length (recs.map Value.string) ∧ NewBlk w v ∧ (∀ k, v.ownBlock = some k → k ≠ w.heap.size ∧ ¬ DS db mb G' k)
      ∧ Wl B w' w.heap.size db mb n G' c d ∧ Chg (DS db mb G) w w' ∧ ∀ s g, G' s = some g → (∃ t, G t = some g) ∨ w.heap.size ≤ g := by
  refine (Open_up db mb n G d w h B hv hlo hB hg.up hst hg.names).mono ?_
  rintro e w' ⟨ts, c', base', recs', hN, hf, hlg, hx⟩
  rw [hg.first hN] at hf
  obtain ⟨rfl, rfl, rfl⟩ := Lg.same hlg hg.lg hf
  rw [hg.tidy hN] at hx
  have e0 : rems d [] = (0, d) := rfl
  rw [e0] at hx
  rcases hx with ⟨_, v, G', h1, h2, h3, h4, h5, h6, h7⟩ | ⟨hx, _⟩
  · refine ⟨v, G', h1, h2, h3, h4, ⟨h5, hv.below (h6.below hB hlo), ?_, Nat.le_trans hB h6.size⟩, h6, h7⟩
    intro i hi
    rcases hi with rfl | rfl | rfl | ⟨t, hi⟩
    · exact hB
    · exact hlo _ (.inl rfl)
    · exact hlo _ (.inr (.inl rfl))
    · rcases h7 t i hi with ⟨u, y⟩ | y
      · exact hlo _ (.inr (.inr ⟨u, y⟩))
      · exact Nat.le_trans hB y
  · exact absurd rfl hx
end
/-- What awake does, step by step. -/
def abB : ByteArray := ⟨#[97, 98]⟩
def xB : ByteArray := ⟨#[120]⟩
def cB : ByteArray := ⟨#[99]⟩
def awC0 : Lc := ⟨0, 0, 0, false⟩
noncomputable def awD1 : Dk := writeD newD (nameW (placeN awC0)) (placeH awC0 ++ sealB [abB])
noncomputable def awC1 : Lc := writeL awC0 newD (placeN awC0) (placeH awC0 ++ sealB [abB])
noncomputable def awD2 : Dk := layD awC1 awD1 xB
noncomputable def awC2 : Lc := layL awC1 awD1 xB
noncomputable def awD3 : Dk := writeD awD2 (nameW (placeN awC2)) (placeH awC2 ++ sealB [cB, ⟨#[]⟩])
noncomputable def awC3 : Lc := writeL awC2 awD2 (placeN awC2) (placeH awC2 ++ sealB [cB, ⟨#[]⟩])
theorem frames_le : ∀ l : List ByteArray, (∀ p ∈ l, p.size ≤ 8192) → (framesB l).length ≤ 8206 * l.length
  | [], _ => by simp [framesB]
  | p :: l, h => by
    have h1 := h p (List.mem_cons_self ..)
    have h2 := frames_le l (fun q hq => h q (List.mem_cons_of_mem _ hq))
    have e : framesB (p :: l) = frB p ++ framesB l := by unfold framesB; simp only [List.flatMap_cons]
    have h3 := numB_len (n := (p.size : Int)) (by omega)
    rw [e, List.length_append, frB_size, List.length_cons]
    omega
theorem seal1 : sealOk [abB] := by
  have h : ∀ p ∈ [abB], p.size ≤ 8192 := by intro p hp; rw [List.mem_singleton] at hp; subst hp; decide
  exact ⟨h, Nat.le_trans (frames_le _ h) (by simp)⟩
theorem seal2 : sealOk [cB, ⟨#[]⟩] := by
  have h : ∀ p ∈ [cB, (⟨#[]⟩ : ByteArray)], p.size ≤ 8192 := by
    intro p hp
    simp only [List.mem_cons, List.not_mem_nil, or_false] at hp
    rcases hp with rfl | rfl <;> decide
  exact ⟨h, Nat.le_trans (frames_le _ h) (by simp)⟩
theorem aw_num : (numB 0).length = 1 ∧ (numB 1).length = 1 ∧ (numB 2).length = 1 := by decide +kernel
theorem aw_size : (layX ⟨#[]⟩ ++ sealB [abB]).size = 14 := by
  have ht : textsB [(⟨#[]⟩ : ByteArray)] = numB 0 := text0
  have e3 : (⟨(textsB [(⟨#[]⟩ : ByteArray)]).toArray⟩ : ByteArray).data.toList = numB 0 := by rw [← ht]
  have h1 : (layX ⟨#[]⟩).size = 7 := by
    unfold layX headW framesB
    rw [one_bs, e3]
    simp only [List.flatMap_cons, List.flatMap_nil, List.append_nil]
    show (bs (frB _)).size = _
    have h2 : (bs (numB 1 ++ numB 0)).size = 2 := by rw [bs_size, List.length_append, aw_num.1, aw_num.2.1]
    rw [bs_size, frB_size, h2]
    have := aw_num.2.2
    show (numB 2).length + 4 + 2 = 7
    omega
  have h2 : (sealB [abB]).size = 7 := by
    rw [sealB_size]
    unfold framesB
    simp only [List.flatMap_cons, List.flatMap_nil, List.append_nil]
    rw [frB_size]
    have e : abB.size = 2 := rfl
    rw [e]
    have := aw_num.2.2
    show (numB 2).length + 4 + 2 = 7
    omega
  rw [ba_size_app, h1, h2]
theorem aw_place : placeE awC0 = 0 ∧ placeN awC0 = 1 ∧ placeH awC0 = layX ⟨#[]⟩ := by
  have h := place_ok (c := awC0) (by decide)
  rcases place_cases awC0 h with ⟨_, h1, h2⟩ | ⟨h1, _⟩ | ⟨h1, _⟩
  · exact ⟨h, h1, h2⟩
  · exact absurd rfl h1
  · exact absurd rfl h1
theorem aw_w1 : writeC newD (nameW (placeN awC0)) (placeH awC0 ++ sealB [abB]) = 0 := Good.new.append_ok rfl seal1 aw_place.1 (by show 0 ≤ _; omega)
theorem aw_g1 : Good awD1 awC1 ⟨#[]⟩ [abB] := Good.new.append seal1 aw_place.1 (by show 0 ≤ _; omega) aw_w1
theorem aw_c1 : awC1 = ⟨1, 1, 14, false⟩ := by
  have h := aw_w1
  unfold awC1 writeL
  rw [if_pos h, aw_place.2.1, aw_place.2.2, aw_size]
  rfl
theorem aw_l1 : awD1.lit = false := (write_done aw_w1).2.2.2.1
theorem aw_s1 : awD1.steps ≤ 2 := writeD_steps _ _ _
theorem log1 : (⟨#[108, 111, 103, 46, 49]⟩ : ByteArray) = nameW 1 := by
  unfold nameW logB
  rw [dec_small (by omega)]
  rfl
theorem aw_r1 : (readR awD1 ⟨#[108, 111, 103, 46, 49]⟩).1.size = 14 := by
  obtain ⟨w1, w2, w3, w4, w5⟩ := write_done aw_w1
  have h3 : awD1.down = false := w3
  have h5 : awD1.F = putE newD.F (nameW (placeN awC0)) (some ⟨txt newD.F (nameW (placeN awC0)) ++ (placeH awC0 ++ sealB [abB]), ⟨#[]⟩, true⟩) := w5
  rw [aw_place.2.1, aw_place.2.2] at h5
  rw [log1, read_up h3]
  unfold txt
  rw [h5]
  unfold putE
  rw [if_pos rfl]
  show ((txt newD.F (nameW 1) ++ (layX ⟨#[]⟩ ++ sealB [abB])) ++ (⟨#[]⟩ : ByteArray)).size = 14
  rw [ba_right]
  show ((⟨#[]⟩ : ByteArray) ++ (layX ⟨#[]⟩ ++ sealB [abB])).size = 14
  rw [ba_left, aw_size]
theorem aw_w2 : layC awC1 awD1 xB = 0 := aw_g1.lay_ok aw_l1 (by rw [aw_c1]; first | done | decide) (by decide)
theorem aw_g2 : Good awD2 awC2 xB [] := aw_g1.lay (by rw [aw_c1]; first | done | decide) (by decide) aw_w2
theorem aw_c2 : awC2.first = 2 ∧ awC2.last = 2 ∧ awC2.torn = false ∧ awC2.size < 2048 := by
  have h := aw_w2
  have h1 : writeC awD1 (layN awC1) (layX xB) = 0 := by
    unfold layC at h
    split at h
    · rename_i hx; exact absurd h hx
    · rename_i hx; simpa using hx
  have e : awC2 = ⟨awC1.last + 1, awC1.last + 1, (layX xB).size, false⟩ := by unfold awC2 layL; rw [if_neg (fun hx => hx h1)]
  have hz : (layX xB).size ≤ 200 := headW_size 1 _ (by omega) (by
    show (textsB [xB]).toArray.size ≤ 100
    rw [List.size_toArray]
    have ht : textsB [xB] = numB (xB.size : Int) ++ xB.data.toList ++ [] := by unfold textsB; simp
    rw [ht, List.length_append, List.length_append, List.length_nil]
    have := numB_len (n := (xB.size : Int)) (by decide)
    have : xB.data.toList.length = 1 := rfl
    omega)
  rw [e, aw_c1]
  exact ⟨rfl, rfl, rfl, by show (layX xB).size < 2048; omega⟩
theorem aw_l2 : awD2.lit = false ∧ awD2.steps ≤ 10 ∧ (readR awD2 ⟨#[108, 111, 103, 46, 49]⟩).2 = false := by
  have h := aw_w2
  have h1 : writeC awD1 (layN awC1) (layX xB) = 0 := by
    unfold layC at h
    split at h
    · rename_i hx; exact absurd h hx
    · rename_i hx; simpa using hx
  have hd : awD2 = (rems (writeD awD1 (layN awC1) (layX xB)) (segsOf awC1.first awC1.last)).2 := by unfold awD2 layD; rw [if_neg (fun hx => hx h1)]
  have h2 : (rems (writeD awD1 (layN awC1) (layX xB)) (segsOf awC1.first awC1.last)).1 = 0 := by
    unfold layC at h
    rwa [if_neg (fun hx => hx h1)] at h
  obtain ⟨w1, w2, w3, w4, w5⟩ := write_done h1
  obtain ⟨r1, r2, r3⟩ := rems_done _ _ w3 h2
  rw [← hd] at r1 r2 r3
  refine ⟨r2.trans (w4.trans aw_l1), ?_, ?_⟩
  · have h3 := rems_steps (writeD awD1 (layN awC1) (layX xB)) (segsOf awC1.first awC1.last) (0, writeD awD1 (layN awC1) (layX xB))
    have h4 := writeD_steps awD1 (layN awC1) (layX xB)
    have h5 := aw_s1
    have h6 : (segsOf awC1.first awC1.last).length ≤ 1 := by rw [aw_c1]; rw [segs_len (by decide)]; decide
    rw [hd]
    unfold rems
    simp only at h3
    omega
  · rw [log1]
    unfold readR
    rw [r1, (r3 (nameW 1)).1 (mem_segs.2 (by rw [aw_c1]; exact ⟨by decide, 1, Nat.le_refl _, Nat.le_refl _, rfl⟩))]
    rfl
theorem aw_place2 : placeE awC2 = 0 ∧ placeN awC2 = 2 := by
  have h := place_ok (c := awC2) (by rw [aw_c2.2.1]; first | done | decide)
  have h2 := aw_c2
  rcases place_cases awC2 h with ⟨h1, _⟩ | ⟨_, _, _, h1, _⟩ | ⟨_, h1, _⟩
  · omega
  · exact ⟨h, by omega⟩
  · exact absurd ⟨h2.2.2.1, h2.2.2.2⟩ h1
theorem aw_w3 : writeC awD2 (nameW (placeN awC2)) (placeH awC2 ++ sealB [cB, ⟨#[]⟩]) = 0 := aw_g2.append_ok aw_l2.1 seal2 aw_place2.1 (by have := aw_c2.2.2.2; omega)
theorem aw_g3 : Good awD3 awC3 xB [cB, ⟨#[]⟩] := aw_g2.append seal2 aw_place2.1 (by have := aw_c2.2.2.2; omega) aw_w3
theorem aw_c3 : awC3.last = 2 := by
  have h := aw_w3
  unfold awC3 writeL
  rw [if_pos h, aw_place2.2]
  rfl
theorem aw_s3 : awD3.steps ≤ 12 := Nat.le_trans (writeD_steps _ _ _) (by have := aw_l2.2.1; omega)
theorem bel_none {B : Nat} {w w' : World} (g : w.grownBy w' none) (hB : B ≤ w.heap.size) : Below B w w' := ⟨g.os, g.tape, g.output, g.size, fun k hk => g.block k (Nat.lt_of_lt_of_le hk hB) (by simp)⟩
theorem lit2r (w : World) (x y : Value) (t : TypeId) : RowAt (w.alloc (.cells #[x, y] t)) (.slice (some ⟨w.heap.size, 0, none⟩) 2 2) [x, y] := RowAt.lit w [x, y] t 2 2 rfl
set_option maxRecDepth 100000 in
set_option maxHeartbeats 4000000 in
theorem awake09_any (w : World) (hv : Va w.heap.size w) : Calls Tryz.prog 8 #[] w fun e w' => e = .returned (.bool true) ∧ w.grownBy w' none := by
  obtain ⟨B, hB⟩ : ∃ B, B = w.heap.size := ⟨_, rfl⟩
  rw [← hB] at hv
  have HB := Lib.hid hB
  have HV := Lib.hid hv
  have HSM := Lib.hid aw_r1
  have HNT := Lib.hid aw_l2.2.2
  obtain ⟨r1, hr1⟩ : ∃ r1, r1 = readR awD1 ⟨#[108, 111, 103, 46, 49]⟩ := ⟨_, rfl⟩
  obtain ⟨r2, hr2⟩ : ∃ r2, r2 = readR awD2 ⟨#[108, 111, 103, 46, 49]⟩ := ⟨_, rfl⟩
  rw [← hr1] at HSM
  rw [← hr2] at HNT
  have HR1 := Lib.hid fun (db mb n : Nat) (G : ByteArray → Option Nat) (W : World) (h : DAt W db mb n G awD1) => by
    have := dRead_any db mb n G awD1 ⟨#[108, 111, 103, 46, 49]⟩ W h (by decide)
    rw [← hr1] at this; exact this
  have HR2 := Lib.hid fun (db mb n : Nat) (G : ByteArray → Option Nat) (W : World) (h : DAt W db mb n G awD2) => by
    have := dRead_any db mb n G awD2 ⟨#[108, 111, 103, 46, 49]⟩ W h (by decide)
    rw [← hr2] at this; exact this
  clear hr1 hr2 hv hB
  go_enter Tryz.func8, Tryz.ntmps8
  go_wp2_with fail
  refine (New_any w).mono ?_
  rintro e w1 ⟨rfl, h1, g1⟩
  have V1 := Lib.hid (HV.out.keep g1)
  have B1 : Hid (B ≤ w1.heap.size) := by show B ≤ _; have := HB.out; have := g1.size; omega
  have H1 := Lib.hid h1
  have G1 := Lib.hid g1
  obtain ⟨db, hdb⟩ : ∃ db, db = w.heap.size + 1 := ⟨_, rfl⟩
  obtain ⟨mb, hmb⟩ : ∃ mb, mb = w.heap.size := ⟨_, rfl⟩
  rw [← hdb, ← hmb] at H1
  rw [← hdb]
  have LO1 : Hid (∀ i, DS db mb (fun _ => none) i → B ≤ i) := by
    intro i hi
    have := HB.out
    rcases hi with rfl | rfl | ⟨s, hs⟩
    · omega
    · omega
    · cases hs
  clear h1 g1 hdb hmb
  go_wp2_with fail
  refine (Open_good H1.out V1.out LO1.out B1.out Good.new (by decide)).mono ?_
  rintro e w2 ⟨v2, G2, rfl, o2, n2, f2, h2, c2, x2⟩
  have W2 := Lib.hid h2
  have E2 : Hid (Below B w1 w2) := c2.below B1.out LO1.out
  obtain ⟨lb, hlb⟩ : ∃ lb, lb = w1.heap.size := ⟨_, rfl⟩
  rw [← hlb] at W2
  rw [← hlb]
  obtain ⟨a2, k2, rfl⟩ := own_form o2
  clear o2 n2 f2 h2 c2 x2 hlb
  go_wp2_with fail
  have g3 : w2.grownBy (w2.alloc (.cells #[.string ⟨#[97, 98]⟩] 9)) none := World.grownBy_alloc _ _ _
  refine (Append_good (l := [abB]) (base := ⟨#[]⟩) (recs := []) _ (W2.out.keep g3) Good.new rfl seal1 (by simp) (RowAt.lit w2 [.string ⟨#[97, 98]⟩] _ _ _ rfl) (by decide) (by decide) (by decide) (by decide)).mono ?_
  rintro e w3 ⟨rfl, n3, hn3, k3⟩
  obtain ⟨G3, W3, E3⟩ := (W2.out.keep g3).go k3
  have W3 : Hid (Wl B w3 lb db mb n3 G3 awC1 awD1) := W3
  have E3 := Lib.hid (E2.out.trans ((bel_none g3 W2.out.hb).trans E3))
  have N3 := Lib.hid hn3
  clear g3 k3 hn3
  go_wp2_with fail
  refine (HR1.out db mb n3 G3 w3 W3.out.wat.dr).mono ?_
  rintro e w4 ⟨rfl, g4⟩
  have W4 := Lib.hid (W3.out.keep g4)
  have E4 := Lib.hid (E3.out.trans (bel_none g4 W3.out.hb))
  clear g4
  go_wp2_with fail
  refine (Lay_good (s := ⟨#[120]⟩) (base := ⟨#[]⟩) (recs := [abB]) W4.out aw_g1 aw_l1 (by decide) (by rw [aw_c1]; decide) (by have := aw_s1; rw [aw_c1]; show awD1.steps + 3 + (1 + 1 - 1) < 1000000; omega) (by have := N3.out; omega)).mono ?_
  rintro e w5 ⟨rfl, n5, hn5, k5⟩
  obtain ⟨G5, W5, E5⟩ := W4.out.go k5
  have W5 : Hid (Wl B w5 lb db mb n5 G5 awC2 awD2) := W5
  have E5 := Lib.hid (E4.out.trans E5)
  have N5 : Hid (n5 ≤ 2) := by show n5 ≤ 2; have := N3.out; omega
  clear k5 hn5
  go_wp2_with fail
  refine (HR2.out db mb n5 G5 w5 W5.out.wat.dr).mono ?_
  rintro e w6 ⟨rfl, g6⟩
  have W6 := Lib.hid (W5.out.keep g6)
  have E6 := Lib.hid (E5.out.trans (bel_none g6 W5.out.hb))
  rw [HNT.out]
  clear g6
  go_wp2_with fail
  have g7 : w6.grownBy (w6.alloc (.cells #[.string ⟨#[99]⟩, .string ⟨#[]⟩] 9)) none := World.grownBy_alloc _ _ _
  refine (Append_good (l := [cB, ⟨#[]⟩]) (base := xB) (recs := []) _ (W6.out.keep g7) aw_g2 aw_l2.1 seal2 (by simp) (lit2r w6 (.string ⟨#[99]⟩) (.string ⟨#[]⟩) _) (by decide) (by rw [aw_c2.2.1]; decide) (by have := aw_l2.2.1; omega) (by have := N5.out; omega)).mono ?_
  rintro e w7 ⟨rfl, n7, hn7, k7⟩
  obtain ⟨G7, W7, E7⟩ := (W6.out.keep g7).go k7
  have W7 : Hid (Wl B w7 lb db mb n7 G7 awC3 awD3) := W7
  have E7 := Lib.hid (E6.out.trans ((bel_none g7 W6.out.hb).trans E7))
  have N7 : Hid (n7 ≤ 3) := by show n7 ≤ 3; have := N5.out; omega
  clear g7 k7 hn7
  go_wp2_with fail
  refine (Open_good W7.out.wat.dr W7.out.va (fun i hi => W7.out.lo i (.inr hi)) W7.out.hb aw_g3 (by have := aw_s3; have := N7.out; omega)).mono ?_
  rintro e w8 ⟨v8, G8, rfl, o8, n8, f8, h8, c8, x8⟩
  have E8 : Hid (Below B w1 w8) := E7.out.trans (c8.below W7.out.hb (fun i hi => W7.out.lo i (.inr hi)))
  have hlb : lb < w7.heap.size := W7.out.wat.lt
  have L8 : Hid (LAt w8 lb db awC3) := c8.blk W7.out.wat.log W7.out.wat.far
  have R8 := RowAt.of_own o8
  obtain ⟨a8, k8, rfl⟩ := own_form o8
  have HSG := Lib.hid (Segment_any lb db awC3 w8 L8.out)
  rw [aw_c3] at HSG
  obtain ⟨bb, off, rfl, hcell⟩ := row_str (l := [cB, ⟨#[]⟩]) R8 (k := 0) (by decide)
  have hx : ((⟨#[120]⟩ : ByteArray).toList == (⟨#[120]⟩ : ByteArray).toList) = true := by simp
  have hsz := HSM.out
  clear o8 n8 f8 h8 c8 x8 hlb R8
  go_wp2_with fail
  refine HSG.out.mono ?_
  rintro e w9 ⟨rfl, rfl⟩
  have hcell : w9.cell? ⟨bb, off, none⟩ = some (.string ⟨#[99]⟩) := hcell
  rw [show xB = (⟨#[120]⟩ : ByteArray) from rfl]
  have hszi : (r1.1.size : Int) = 14 := by omega
  go_wp2
  go_ret
  exact ⟨rfl, E8.out.os.trans G1.out.os, E8.out.tape.trans G1.out.tape, E8.out.output.trans G1.out.output, Nat.le_trans G1.out.size E8.out.size, fun i hi _ => (E8.out.block i (by rw [HB.out]; exact hi)).trans (G1.out.block i hi (by simp))⟩
/-- What is done. -/
structure Wo where
  kind : Int
  list : Value
  text : ByteArray
  name : ByteArray
  num : Int
  keeps : Value
def Wo.cells (o : Wo) : List Value := [.int .i64 o.kind, o.list, .string o.text, .string o.name, .int .i64 o.num, o.keeps]
def Wo.val (o : Wo) : Value := .agg #[.int .i64 o.kind, o.list, .string o.text, .string o.name, .int .i64 o.num, o.keeps]
theorem Wo.len (o : Wo) : o.cells.length = 6 := rfl
structure WoOk (w : World) (o : Wo) (ls : List ByteArray) (ks : List Int) : Prop where
  rl : RowAt w o.list (ls.map Value.string)
  rk : RowAt w o.keeps (ks.map (Value.int .i64))
  lsl : ls.length ≤ maxLen
  ls1 : ∀ s ∈ ls, s.size ≤ maxLen
  ksl : ks.length ≤ 140737488355328
  ks1 : ∀ n ∈ ks, -9223372036854775808 ≤ n ∧ n ≤ 9223372036854775807
  kd : -9223372036854775808 ≤ o.kind ∧ o.kind ≤ 9223372036854775807
  nm : -9223372036854775808 ≤ o.num ∧ o.num ≤ 9223372036854775807
  tx : o.text.size ≤ maxLen
  na : o.name.size ≤ maxLen
theorem WoOk.keep {w w' : World} {o : Wo} {ls : List ByteArray} {ks : List Int} (h : WoOk w o ls ks) (g : w.grownBy w' none) : WoOk w' o ls ks := { h with rl := h.rl.kept g, rk := h.rk.kept g }
theorem rowLen {w : World} {v : Value} {xs : List Value} (h : RowAt w v xs) : ∃ a c, v = .slice a xs.length c := by
  obtain ⟨a, c, e, _⟩ := h; exact ⟨a, c, e⟩
/-- A row reads as one list. -/
theorem row_one {w : World} {v : Value} {xs ys : List Value} (h : RowAt w v xs) (h' : RowAt w v ys) : xs = ys := by
  obtain ⟨a, c, e, h⟩ := h
  obtain ⟨a', c', e', h'⟩ := h'
  rw [e] at e'
  injection e' with e1 e2 e3
  subst e1
  apply List.ext_getElem e2
  intro i h1 h2
  rcases h with h | ⟨b, off, ha, hb, hc⟩
  · rw [h] at h1; exact absurd h1 (Nat.not_lt_zero _)
  · rcases h' with h' | ⟨b', off', ha', hb', hc'⟩
    · rw [h'] at h2; exact absurd h2 (Nat.not_lt_zero _)
    · rw [ha] at ha'
      injection ha' with ha'
      injection ha' with e5 e6
      subst e5 e6
      have k1 := hc i h1
      have k2 := hc' i h2
      rw [k1] at k2
      injection k2 with k2
      simpa [List.getD, List.getElem?_eq_getElem h1, List.getElem?_eq_getElem h2] using k2
theorem strs_inj {a b : List ByteArray} (h : a.map Value.string = b.map Value.string) : a = b :=
  (List.map_inj_right (fun x y e => by injection e)).1 h
theorem ints_inj {a b : List Int} (h : a.map (Value.int .i64) = b.map (Value.int .i64)) : a = b :=
  (List.map_inj_right (fun x y e => by injection e)).1 h
theorem wo_one {w : World} {o : Wo} {ls ls' : List ByteArray} {ks ks' : List Int} (h : WoOk w o ls ks) (h' : WoOk w o ls' ks') : ls = ls' ∧ ks = ks' :=
  ⟨strs_inj (row_one h.rl h'.rl), ints_inj (row_one h.rk h'.rk)⟩
theorem wo_at {w : World} {a : Option Addr} {c n : Nat} {L : List Wo} (h : ReadK Wo.cells 6 w (.slice a n c) L) (hn : L.length = n) (j : Nat) (hj : j < n) (o : Wo) (hl : L[j]? = some o) :
    ∃ g off, a = some ⟨g, off, none⟩ ∧ g < w.heap.size ∧ w.cell? ⟨g, off + j * 6, none⟩ = some (.int .i64 o.kind) ∧ w.cell? ⟨g, off + j * 6 + 1, none⟩ = some o.list ∧ w.cell? ⟨g, off + j * 6 + 2, none⟩ = some (.string o.text) ∧ w.cell? ⟨g, off + j * 6 + 3, none⟩ = some (.string o.name) ∧ w.cell? ⟨g, off + j * 6 + 4, none⟩ = some (.int .i64 o.num) ∧ w.cell? ⟨g, off + j * 6 + 5, none⟩ = some o.keeps := by
  obtain ⟨g, off, e, hg, hc⟩ := h.at_ Wo.len hn j hj
  exact ⟨g, off, e, hg, hc o hl 0 (by omega), hc o hl 1 (by omega), hc o hl 2 (by omega), hc o hl 3 (by omega), hc o hl 4 (by omega), hc o hl 5 (by omega)⟩
/-- What records count for. -/
def wsum (ls : List ByteArray) : Nat := (ls.map fun s => 1 + s.size).sum
def wmin (ls : List ByteArray) : Nat := (ls.map fun s => 1 + min s.size 1048576).sum
theorem wmin_snoc (ls : List ByteArray) {k : Nat} (hk : k < ls.length) : wmin (ls.take (k + 1)) = wmin (ls.take k) + (1 + min ls[k].size 1048576) := by
  unfold wmin
  rw [List.take_succ_eq_append_getElem hk, List.map_append, List.sum_append]
  simp
theorem wmin_small : ∀ ls : List ByteArray, wmin ls ≤ 16384 → wmin ls = wsum ls ∧ (∀ s ∈ ls, s.size ≤ 16384) ∧ ls.length ≤ wsum ls
  | [], _ => ⟨rfl, by simp, Nat.le_refl _⟩
  | s :: ls, h => by
    have e1 : wmin (s :: ls) = (1 + min s.size 1048576) + wmin ls := by unfold wmin; simp
    have e2 : wsum (s :: ls) = (1 + s.size) + wsum ls := by unfold wsum; simp
    rw [e1] at h
    obtain ⟨i1, i2, i3⟩ := wmin_small ls (by omega)
    rw [e1, e2, List.length_cons]
    refine ⟨by omega, fun t ht => ?_, by omega⟩
    rcases List.mem_cons.1 ht with rfl | ht
    · omega
    · exact i2 t ht
def WoSm (o : Wo) (ls : List ByteArray) (ks : List Int) : Prop := wsum ls + o.text.size + ks.length ≤ 16384 ∧ (∀ s ∈ ls, s.size ≤ 16384) ∧ ls.length ≤ wsum ls
def GreatW (w : World) (L : List Wo) (e : Ending) (w' : World) : Prop := (e = .returned (.bool true) ∨ (e = .returned (.bool false) ∧ L.length ≤ 100 ∧ ∀ o ∈ L, ∀ ls ks, WoOk w o ls ks → WoSm o ls ks)) ∧ w.grownBy w' none
set_option maxRecDepth 100000 in
set_option maxHeartbeats 4000000 in
theorem great09_any (v : Value) (L : List Wo) (w : World) (hr : ReadK Wo.cells 6 w v L) (hl : L.length ≤ maxLen) (hok : ∀ o ∈ L, ∃ ls ks, WoOk w o ls ks) :
    Calls Tryz.prog 9 #[v] w (GreatW w L) := by
  obtain ⟨p, c, rfl⟩ := hr.len
  have il : (L.length : Int) ≤ 9223372036854775807 := by unfold maxLen at hl; omega
  have HOK := Lib.hid hok
  clear hl hok
  go_enter Tryz.func9, Tryz.ntmps9
  go_wp2
  go_loopw [3, 10] (fun nn i wr => ∃ j N : Nat, j ≤ L.length ∧ i = .int .i64 j ∧ nn = .int .i64 N ∧ N ≤ 16384 ∧ (∀ o ∈ L.take j, ∀ ls ks, WoOk w o ls ks → WoSm o ls ks) ∧ w.grownBy wr none) (fun _ i _ => L.length - (intOf i).toNat)
  case atStart => exact ⟨0, 0, Nat.zero_le _, rfl, rfl, Nat.zero_le _, (by simp), grow_refl _ _⟩
  case round =>
    obtain ⟨j, N, hj, rfl, rfl, hN, hlo, hg⟩ := hrel
    have HLO := Lib.hid hlo
    clear hlo
    by_cases hlt : j < L.length
    · obtain ⟨o, ho⟩ : ∃ o, o = L[j] := ⟨_, rfl⟩
      obtain ⟨g, off, rfl, hgl, r0, r1, r2, r3, r4, r5⟩ := wo_at (hr.kept hg) rfl j hlt o (by rw [ho, List.getElem?_eq_getElem])
      have HOO : Hid (L[j]? = some o) := by show _ = _; rw [ho, List.getElem?_eq_getElem]
      obtain ⟨ls, ks, hks⟩ := HOK.out o (by rw [ho]; exact List.getElem_mem hlt)
      have HKS := Lib.hid hks
      obtain ⟨an, cn, e⟩ := rowLen hks.rk
      obtain ⟨am, cm, e'⟩ := rowLen hks.rl
      rw [List.length_map] at e e'
      have hnl : (ks.length : Int) ≤ 140737488355328 := by have := hks.ksl; omega
      have hml : (ls.length : Int) ≤ 9223372036854775807 := by have := hks.lsl; unfold maxLen at this; omega
      rw [e] at r5
      rw [e'] at r1
      have i1 : (j : Int) < L.length := by omega
      have i0 : (0 : Int) ≤ j := by omega
      have n0 : (0 : Int) ≤ N := by omega
      have n1 : (N : Int) ≤ 16384 := by omega
      have m0 : (0 : Int) ≤ ks.length := by omega
      obtain ⟨a, ha⟩ : ∃ a : Nat, min (o.text.size : Int) 1048576 = (a : Int) := ⟨min o.text.size 1048576, by omega⟩
      have a0 : (0 : Int) ≤ a := by omega
      have a1 : (a : Int) ≤ 1048576 := by omega
      have HAB : Hid (a ≤ 16384 → o.text.size = a) := fun h1 => by omega
      have HR := Lib.hid (hks.rl.kept hg)
      rw [e'] at HR
      obtain ⟨M, hM⟩ : ∃ M : Nat, M = N + (10 + a + ks.length) := ⟨_, rfl⟩
      have HM := Lib.hid hM
      have hMi : (N : Int) + (10 + (a : Int) + (ks.length : Int)) = (M : Int) := by omega
      have hM9 : (M : Int) ≤ 200000000000000 := by omega
      have HG := Lib.hid hg
      have HJ := Lib.hid hlt
      clear ho hks e e' hM hg hj
      obtain ⟨wo, rfl⟩ : ∃ wo : World, wo = wr := ⟨_, rfl⟩
      go_wp2
      go_loopw [3, 28] (fun nn i wr => ∃ k Q : Nat, k ≤ ls.length ∧ i = .int .i64 k ∧ nn = .int .i64 Q ∧ Q = M + wmin (ls.take k) ∧ (0 < k → Q ≤ 16384) ∧ wo.grownBy wr none) (fun _ i _ => ls.length - (intOf i).toNat)
      case atStart => exact ⟨0, M, Nat.zero_le _, rfl, rfl, rfl, fun h => absurd h (Nat.lt_irrefl 0), World.grownBy_alloc _ _ _⟩
      case round =>
        obtain ⟨k, Q, hk, rfl, rfl, hQ, hQ2, hg2⟩ := hrel
        have HQ := Lib.hid hQ
        have hQ9 : (Q : Int) ≤ 200000000000000 := by
          by_cases h0 : k = 0
          · subst h0
            have : wmin (ls.take 0) = 0 := rfl
            omega
          · have := hQ2 (by omega); omega
        have q0 : (0 : Int) ≤ Q := by omega
        have HQ2 := Lib.hid hQ2
        have HG2 := Lib.hid hg2
        clear hQ hQ2
        by_cases hkl : k < ls.length
        · obtain ⟨bb, of2, rfl, hcell⟩ := row_str (HR.out.kept hg2) hkl
          obtain ⟨t, ht⟩ : ∃ t, t = ls[k] := ⟨_, rfl⟩
          have HW := Lib.hid (wmin_snoc ls hkl)
          rw [← ht] at hcell HW
          obtain ⟨b, hb⟩ : ∃ b : Nat, min (t.size : Int) 1048576 = (b : Int) := ⟨min t.size 1048576, by omega⟩
          have HB : Hid (min t.size 1048576 = b) := by show _ = _; omega
          have b0 : (0 : Int) ≤ b := by omega
          have b1 : (b : Int) ≤ 1048576 := by omega
          have k1 : (k : Int) < ls.length := by omega
          have k0 : (0 : Int) ≤ k := by omega
          obtain ⟨Q2, hq2⟩ : ∃ Q2 : Nat, Q2 = Q + (1 + b) := ⟨_, rfl⟩
          have hqi : (Q : Int) + (1 + (b : Int)) = (Q2 : Int) := by omega
          have HQQ : Hid (Q2 = M + wmin (ls.take (k + 1))) := by
            show _ = _
            rw [HW.out, HB.out, hq2, HQ.out]; omega
          clear ht hg2
          by_cases hgt : 16384 < Q2
          · have d1 : decide ((16384 : Int) < (Q2 : Int)) = true := decide_eq_true (by omega)
            have HQG := Lib.hid hgt
            clear hgt hq2
            go_wp2
            go_ret
            exact ⟨.inl rfl, grow_none HG.out HG2.out⟩
          · have d1 : decide ((16384 : Int) < (Q2 : Int)) = false := decide_eq_false (by omega)
            have HQG := Lib.hid hgt
            clear hgt hq2
            go_wp2
            go_roundw
            case rel => exact ⟨k + 1, Q2, by omega, by go_num, rfl, HQQ.out, fun _ => by have := HQG.out; omega, HG2.out⟩
            case measure => simp [intOf]; omega
        · obtain rfl : k = ls.length := by omega
          have HWT : Hid (Q = M + wmin ls) := by show _ = _; rw [HQ.out, List.take_length]
          have g3 := grow_none HG.out HG2.out
          by_cases hgt : 16384 < Q
          · have d1 : decide ((16384 : Int) < (Q : Int)) = true := decide_eq_true (by omega)
            clear hgt
            go_wp2
            go_ret
            exact ⟨.inl rfl, g3⟩
          · have d1 : decide ((16384 : Int) < (Q : Int)) = false := decide_eq_false (by omega)
            have HQG := Lib.hid hgt
            clear hgt
            go_wp2
            go_roundw
            case rel => exact ⟨j + 1, Q, by omega, by go_num, rfl, by have := HQG.out; omega, fun o' ho' ls' ks' h' => by
              rw [List.take_succ_eq_append_getElem hlt] at ho'
              rcases List.mem_append.1 ho' with x | x
              · exact HLO.out o' x ls' ks' h'
              · have e : o' = o := by
                  have h1 := HOO.out
                  rw [List.getElem?_eq_getElem hlt] at h1
                  injection h1 with h1
                  rw [List.mem_singleton.1 x, h1]
                subst e
                obtain ⟨rfl, rfl⟩ := wo_one HKS.out h'
                have h1 := HWT.out
                have h2 := HQG.out
                have h3 := HM.out
                obtain ⟨k1, k2, k3⟩ := wmin_small ls (by omega)
                have h4 := HAB.out (by omega)
                exact ⟨by omega, k2, k3⟩, g3⟩
            case measure => simp [intOf]; omega
    · obtain rfl : j = L.length := by omega
      by_cases h2 : 100 < L.length
      · have d2 : decide ((100 : Int) < (L.length : Int)) = true := decide_eq_true (by omega)
        go_wp2
        go_ret
        exact ⟨.inl rfl, hg⟩
      · have d2 : decide ((100 : Int) < (L.length : Int)) = false := decide_eq_false (by omega)
        go_wp2
        go_ret
        exact ⟨.inr ⟨rfl, by omega, by have := HLO.out; rwa [List.take_length] at this⟩, hg⟩
theorem iface_of_trod {H : Type} {P : Program} {enc : TypeId × Value → H} {w : World} {base fuel : Nat} {sp : Nat → Bool} {t : TypeId} {cs : List Value} {nm : String} {d : DataW H} {p : List MemPlace} {ms}
    (hu : P.underlying t = some (.interface ms)) (h : DataW.trod enc P w base sp false fuel t cs = some (.iface nm d, p)) : ∃ u v, cs = [.iface u v] := by
  cases fuel with
  | zero => simp [DataW.trod] at h
  | succ fuel =>
    unfold DataW.trod at h
    rw [hu] at h
    split at h
    all_goals first
      | (rename_i he; cases he; done)
      | (rename_i he _; cases he; done)
      | (rename_i he _ _; cases he; done)
      | skip
    · cases h
    · exact ⟨_, _, rfl⟩
    · cases h
theorem pow_tab : (DataW.agg (Lib.pow10Tab.map fun z => .lit (.int .u64 z)) : DataW Unit) = Rows.laid_internal_strconv_uint64pow10 := rfl
theorem under_error : ∃ ms, Tryz.prog.underlying 126 = some (.interface ms) := ⟨_, Tryz.underlying126⟩
theorem gPow : Tryz.prog.globalNamed "internal/strconv.uint64pow10" = some 2 := by kernel_rfl
theorem gSyn : Tryz.prog.globalNamed "strconv.ErrSyntax" = some 0 := by kernel_rfl
theorem gRng : Tryz.prog.globalNamed "strconv.ErrRange" = some 1 := by kernel_rfl
theorem gSynT : (Tryz.prog.globals[0]?).map (·.type) = some 126 := by kernel_rfl
theorem gRngT : (Tryz.prog.globals[1]?).map (·.type) = some 126 := by kernel_rfl
theorem var_lt {P : Program} {w : World} {n : String} {cs : Array Value} {k : Nat} (h : w.var? P n = some cs) (hk : P.globalNamed n = some k) : k < w.heap.size := by
  unfold World.var? at h
  rw [hk] at h
  simp only [Option.bind_some] at h
  cases hh : w.heap[k]? with
  | none => rw [hh] at h; simp at h
  | some o => exact (Array.getElem?_eq_some_iff.1 hh).1
theorem va_of_laid {W : World} (h : laidMetH Tryz.prog [("math/bits.deBruijn32tab", Rows.laid_math_bits_deBruijn32tab), ("math/bits.deBruijn64tab", Rows.laid_math_bits_deBruijn64tab), ("internal/strconv.uint64pow10", Rows.laid_internal_strconv_uint64pow10), ("redoubt/crc.moved", Rows.laid_redoubt_crc_moved), ("strconv.ErrRange", Rows.laid_strconv_ErrRange), ("strconv.ErrSyntax", Rows.laid_strconv_ErrSyntax)] W) : Va W.heap.size W := by
  have h' : laidMet Tryz.prog [("math/bits.deBruijn32tab", Rows.laid_math_bits_deBruijn32tab), ("math/bits.deBruijn64tab", Rows.laid_math_bits_deBruijn64tab), ("internal/strconv.uint64pow10", Rows.laid_internal_strconv_uint64pow10), ("redoubt/crc.moved", Rows.laid_redoubt_crc_moved), ("strconv.ErrRange", Rows.laid_strconv_ErrRange), ("strconv.ErrSyntax", Rows.laid_strconv_ErrSyntax)] W := h
  clear h
  obtain ⟨ps, ⟨_, _, _, _, _, _, _, _, _, _, h2, _⟩, _⟩ := h'
  obtain ⟨_, _, _, _, _, _, _, _, _, _, h3, _⟩ := h2
  obtain ⟨g3, t3, c3, f3, p3, q3, n3, y3, v3, d3, h4, _⟩ := h3
  obtain ⟨g4, t4, c4, f4, p4, q4, n4, y4, v4, d4, h5, _⟩ := h4
  obtain ⟨g5, t5, c5, f5, p5, q5, n5, y5, v5, d5, h6, _⟩ := h5
  obtain ⟨g6, t6, c6, f6, p6, q6, n6, y6, v6, d6, _, _⟩ := h6
  obtain ⟨ms, hms⟩ := under_error
  have e3 : Lib.TabIs Tryz.prog W "internal/strconv.uint64pow10" .u64 Lib.pow10Tab := by
    obtain rfl := Option.some.inj (gPow.symm.trans n3)
    obtain rfl := Option.some.inj ((show (Tryz.prog.globals[2]?).map (·.type) = some 186 by kernel_rfl).symm.trans y3)
    unfold Lib.TabIs
    rw [v3]
    have := Lib.cells_of_tab (k := .u64) (zs := Lib.pow10Tab) Tryz.underlying186 Tryz.underlying124 (by kernel_rfl) (by kernel_rfl) d3
    rw [← this]
  have e4 : Mv W := by
    obtain rfl := Option.some.inj (gMoved.symm.trans n4)
    obtain rfl := Option.some.inj (gMovedType.symm.trans y4)
    have hc := Lib.cells_of_tab (k := .u32) (zs := [0, 498536548, 997073096, 651767980, 1994146192, 1802195444, 1303535960, 1342533948, 3988292384, 4027552580, 3604390888, 3412177804, 2607071920, 2262029012, 2685067896, 3183342108]) Tryz.underlying195 Tryz.underlying121 cellsU32 cellsMoved d4
    have ht : Lib.TabIs Tryz.prog W "redoubt/crc.moved" .u32 [0, 498536548, 997073096, 651767980, 1994146192, 1802195444, 1303535960, 1342533948, 3988292384, 4027552580, 3604390888, 3412177804, 2607071920, 2262029012, 2685067896, 3183342108] := by
      unfold Lib.TabIs
      rw [v4, ← hc]
    intro j hj
    have hc2 := ht.cell gMoved j hj
    rw [hc2]
    have : ∀ i, i < 16 → ([0, 498536548, 997073096, 651767980, 1994146192, 1802195444, 1303535960, 1342533948, 3988292384, 4027552580, 3604390888, 3412177804, 2607071920, 2262029012, 2685067896, 3183342108] : List Int).getD i 0 = (tabN i : Nat) := by decide +kernel
    rw [this j hj]
  have e5 : ∃ tp p, W.var? Tryz.prog "strconv.ErrRange" = some #[.iface tp p] := by
    obtain rfl := Option.some.inj (gRng.symm.trans n5)
    obtain rfl := Option.some.inj (gRngT.symm.trans y5)
    obtain ⟨u, x, hx⟩ := iface_of_trod hms d5
    refine ⟨u, x, ?_⟩
    have hc : c5 = #[.iface u x] := Array.ext' hx
    exact v5.trans (congrArg some hc)
  have e6 : ∃ tp p, W.var? Tryz.prog "strconv.ErrSyntax" = some #[.iface tp p] := by
    obtain rfl := Option.some.inj (gSyn.symm.trans n6)
    obtain rfl := Option.some.inj (gSynT.symm.trans y6)
    obtain ⟨u, x, hx⟩ := iface_of_trod hms d6
    refine ⟨u, x, ?_⟩
    have hc : c6 = #[.iface u x] := Array.ext' hx
    exact v6.trans (congrArg some hc)
  refine ⟨⟨e3, e6, e5⟩, e4, fun s k hs hk => ?_, ?_⟩
  · rcases hs with rfl | rfl | rfl
    · exact var_lt v3 hk
    · exact var_lt v6 hk
    · exact var_lt v5 hk
  · exact var_lt v4 gMoved
end Go.Proofs.YtphljjgjpkdpmaaGreatDoor
