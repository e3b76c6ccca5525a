/- Stage 5: what lasts: pure facts. -/
import Derived.Test.YtgfmmchmkfboaaaDkO
namespace Go.Proofs.Ytgfmmchmkfboaaa
open Go.RowKit
set_option linter.unusedVariables false
theorem ba_assoc (a b c : ByteArray) : (a ++ b) ++ c = a ++ (b ++ c) := by
  apply ByteArray.ext
  simp [Array.append_assoc]
theorem ba_nil (a : ByteArray) : a ++ (⟨#[]⟩ : ByteArray) = a := app_none a
/-- The file is firm, and what lasts of it begins so. -/
def Firm (F : ByteArray → Option Ent) (name sure : ByteArray) : Prop := ∃ e, F name = some e ∧ e.s = true ∧ ∃ t, e.l = sure ++ t
theorem stepD_steps (d : Dk) : (stepD d).steps ≤ d.steps + 1 := by
  unfold stepD; split
  · exact Nat.le_succ _
  · exact Nat.le_refl _
theorem stepOfD_steps (d : Dk) (s : ByteArray) : (stepOfD d s).steps ≤ d.steps + 1 := by
  unfold stepOfD; split
  · exact Nat.le_succ _
  · split
    · exact Nat.le_succ _
    · exact stepD_steps d
theorem settle_l (e : Ent) (n : Int) : ∃ t, (settleE e n).l = e.l ++ t := ⟨_, rfl⟩
theorem Firm.crS {p : (ByteArray → Option Ent) × List Int} {name sure : ByteArray} (h : Firm p.1 name sure) (s : ByteArray) : Firm (crS p s).1 name sure := by
  obtain ⟨e, he, hs, t, ht⟩ := h
  by_cases hn : name = s
  · subst hn
    unfold Go.Proofs.Ytgfmmchmkfboaaa.crS
    rw [he]
    refine ⟨{ settleE e (if e.w.size = 0 then 0 else p.2.headD 0) with s := true }, ?_, rfl, ?_⟩
    · show putE _ _ _ name = _
      unfold putE
      rw [if_pos rfl, if_neg (fun x => by rw [hs] at x; cases x.1)]
    · obtain ⟨u, hu⟩ := settle_l e (if e.w.size = 0 then 0 else p.2.headD 0)
      exact ⟨t ++ u, by show (settleE e _).l = _; rw [hu, ht, ba_assoc]⟩
  · exact ⟨e, by rw [crS_other _ _ _ hn]; exact he, hs, t, ht⟩
theorem Firm.crK {F : ByteArray → Option Ent} {name sure : ByteArray} (h : Firm F name sure) (ks : List Int) (ts : List (List UInt8)) : ∀ k, k ≤ ts.length → Firm (crK F ks ts k).1 name sure
  | 0, _ => h
  | k + 1, hk => by
    rw [crK_succ F ks ts k (by omega)]
    exact (Firm.crK h ks ts k (by omega)).crS _
theorem Firm.did {d d' : Dk} {o : Oc} {ks : List Int} {c : Int} {name sure : ByteArray} (hd : DidR d o ks c d') (h : Firm d.F name sure) (h2 : ¬ (o.kind = 2 ∧ o.name = name ∧ c = 0)) (h3 : ¬ (o.kind = 3 ∧ o.name = name ∧ c = 0)) : Firm d'.F name sure := by
  rcases hd with ⟨_, _, rfl⟩ | ⟨hk, hc, rfl⟩ | ⟨hk, hc, rfl⟩ | ⟨_, _, rfl⟩ | ⟨_, _, ts, _, rfl⟩ | ⟨_, _, rfl⟩
  · by_cases hn : name = o.name
    · unfold appD
      split
      · exact h
      · split
        · exact h
        · split
          · rw [stepD_F]; exact h
          · obtain ⟨e, he, hs, t, ht⟩ := h
            rw [hn] at he
            refine ⟨⟨(entOf d o.name).l, (entOf d o.name).w ++ o.data, (entOf d o.name).s⟩, ?_, ?_, t, ?_⟩
            · show putE _ _ _ name = _
              unfold putE; rw [if_pos hn]
            · show (entOf d o.name).s = true
              unfold entOf; rw [he]; exact hs
            · show (entOf d o.name).l = _
              unfold entOf; rw [he]; exact ht
    · obtain ⟨e, he, x⟩ := h
      exact ⟨e, by rw [appD_other _ _ _ _ hn]; exact he, x⟩
  · by_cases hn : name = o.name
    · have hc0 : ¬ stepOfC d o.name = 0 := fun e => h2 ⟨hk, hn.symm, by rw [hc, e]⟩
      unfold syncD
      rw [if_neg hc0]
      obtain ⟨e, he, x⟩ := h
      exact ⟨e, by rw [stepOfD_F']; exact he, x⟩
    · obtain ⟨e, he, x⟩ := h
      exact ⟨e, by rw [syncD_other _ _ _ hn]; exact he, x⟩
  · unfold removeD
    split
    · rename_i h0
      have hn : ¬ name = o.name := fun e => h3 ⟨hk, e.symm, by rw [hc, h0]⟩
      obtain ⟨e, he, x⟩ := h
      exact ⟨e, by show putE _ _ _ name = _; unfold putE; rw [if_neg hn]; exact he, x⟩
    · obtain ⟨e, he, x⟩ := h
      exact ⟨e, by rw [stepOfD_F']; exact he, x⟩
  · exact h
  · exact h.crK ks ts ts.length (Nat.le_refl _)
  · exact h
theorem did_steps {d d' : Dk} {o : Oc} {ks : List Int} {c : Int} (hd : DidR d o ks c d') : d'.steps ≤ d.steps + 1 := by
  rcases hd with ⟨_, _, rfl⟩ | ⟨hk, hc, rfl⟩ | ⟨hk, hc, rfl⟩ | ⟨_, _, rfl⟩ | ⟨_, _, ts, _, rfl⟩ | ⟨_, _, rfl⟩
  · unfold appD
    split
    · exact Nat.le_succ _
    · split
      · exact Nat.le_succ _
      · split
        · exact stepD_steps d
        · exact stepD_steps d
  · unfold syncD
    split
    · exact stepOfD_steps _ _
    · exact stepOfD_steps _ _
  · unfold removeD
    split
    · exact stepOfD_steps _ _
    · exact stepOfD_steps _ _
  · exact Nat.le_succ _
  · exact Nat.le_succ _
  · exact Nat.le_succ _
def Inv (d : Dk) (name sure : ByteArray) (there : Bool) : Prop := there = true → Firm d.F name sure
theorem Inv.sync {d d' : Dk} {o : Oc} {ks : List Int} {c : Int} {name : ByteArray} (hd : DidR d o ks c d') (h2 : o.kind = 2 ∧ o.name = name ∧ c = 0) : Inv d' name (readR d' name).1 (readR d' name).2 := by
  obtain ⟨hk, rfl, hc0⟩ := h2
  intro ht
  rcases hd with ⟨hk2, _⟩ | ⟨_, hc, rfl⟩ | ⟨hk2, _⟩ | ⟨hk2, _⟩ | ⟨hk2, _⟩ | ⟨hk2, _⟩
  · omega
  · have h0 : stepOfC d o.name = 0 := by rw [← hc]; exact hc0
    obtain ⟨e, he⟩ := stepOf_zero h0
    have hF : (syncD d o.name).F o.name = some (syncE e) := by
      unfold syncD; rw [if_pos h0]
      show putE _ _ _ o.name = _
      unfold putE; rw [if_pos rfl, he]; rfl
    unfold readR at ht ⊢
    split at ht
    · cases ht
    · rename_i hdn
      rw [hF] at ht
      rw [if_neg hdn, hF]
      exact ⟨syncE e, hF, rfl, ⟨#[]⟩, by show (syncE e).l = ((syncE e).l ++ (syncE e).w) ++ _; rw [ba_nil]; exact (ba_nil _).symm⟩
  · omega
  · omega
  · omega
  · omega
theorem Inv.end {d : Dk} {name sure : ByteArray} {there : Bool} (h : Inv d name sure there) (ks : List Int) (ts : List (List UInt8)) :
    there = false ∨ (there = true ∧ ∃ r, readR (crashD d ks ts) name = (r, true) ∧ sure.size ≤ r.size ∧ r.extract 0 sure.size = sure) := by
  cases there
  · exact .inl rfl
  · obtain ⟨e, he, _, t, ht⟩ := (h rfl).crK ks ts ts.length (Nat.le_refl _)
    refine .inr ⟨rfl, e.l ++ e.w, ?_, ?_, ?_⟩
    · have hF : (crashD d ks ts).F name = some e := he
      unfold readR
      rw [if_neg (by show ¬ false = true; simp), hF]
    · rw [ht]; simp only [ByteArray.size_append]; omega
    · rw [ht, ba_assoc]
      apply ByteArray.ext
      simp
end Go.Proofs.Ytgfmmchmkfboaaa
