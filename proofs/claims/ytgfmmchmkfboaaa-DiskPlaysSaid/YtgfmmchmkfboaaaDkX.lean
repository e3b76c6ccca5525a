/- Stage 5: a second loss of power: pure facts. -/
import Derived.Test.YtgfmmchmkfboaaaDkW
import Derived.Test.YtgfmmchmkfboaaaDkP
namespace Go.Proofs.Ytgfmmchmkfboaaa
open Go.RowKit
set_option linter.unusedVariables false
/-- Nothing waits, and every file is firm. -/
def Settled (F : ByteArray → Option Ent) : Prop := ∀ x e, F x = some e → e.w.size = 0 ∧ e.s = true
theorem crS_set {p : (ByteArray → Option Ent) × List Int} {s : ByteArray} {e : Ent} (h : (crS p s).1 s = some e) : e.w.size = 0 ∧ e.s = true := by
  unfold crS at h
  split at h
  · rename_i hn
    rw [hn] at h; cases h
  · rename_i e0 he
    have h2 : putE p.1 s (if e0.s = false ∧ (settleE e0 (if e0.w.size = 0 then 0 else p.2.headD 0)).l.size = 0 then none else some { settleE e0 (if e0.w.size = 0 then 0 else p.2.headD 0) with s := true }) s = some e := h
    unfold putE at h2
    rw [if_pos rfl] at h2
    have hw : (settleE e0 (if e0.w.size = 0 then 0 else p.2.headD 0)).w.size = 0 := rfl
    generalize settleE e0 (if e0.w.size = 0 then 0 else p.2.headD 0) = E at h2 hw
    split at h2
    · cases h2
    · injection h2 with h2
      rw [← h2]
      exact ⟨hw, rfl⟩
theorem crK_set (F : ByteArray → Option Ent) (ks : List Int) (ts : List (List UInt8)) (hn : ts.Nodup) : ∀ k, k ≤ ts.length → ∀ j (h : j < ts.length), j < k → ∀ e, (crK F ks ts k).1 (nm ts[j]) = some e → e.w.size = 0 ∧ e.s = true
  | 0, _, j, _, hj, _, _ => absurd hj (Nat.not_lt_zero _)
  | k + 1, hk, j, h, hj, e, he => by
    rw [crK_succ F ks ts k (by omega)] at he
    by_cases hjk : j = k
    · subst hjk
      exact crS_set he
    · have hne : nm ts[j] ≠ nm ts[k] := fun y => by
        have := (List.nodup_iff_pairwise_ne.1 hn)
        rw [List.pairwise_iff_getElem] at this
        exact this j k h (by omega) (by omega) (nm_inj y)
      rw [crS_other _ _ _ hne] at he
      exact crK_set F ks ts hn k (by omega) j h (by omega) e he
theorem crash_settled {d : Dk} {ks : List Int} {ts : List (List UInt8)} (hN : NamesF d.F ts) : Settled (crashD d ks ts).F := by
  intro x e he
  have he' : (crK d.F ks ts ts.length).1 x = some e := he
  by_cases hx : x.data.toList ∈ ts
  · obtain ⟨j, hj, hj2⟩ := List.mem_iff_getElem.1 hx
    have hxx : x = nm ts[j] := by rw [hj2]
    rw [hxx] at he'
    exact crK_set d.F ks ts hN.nodup ts.length (Nat.le_refl _) j hj hj e he'
  · rw [crK_other d.F ks ts ts.length (Nat.le_refl _) x (fun j hj _ y => hx (by rw [y]; exact List.getElem_mem hj))] at he'
    have : (d.F (nm x.data.toList)).isSome = true := by
      show (d.F x).isSome = true
      rw [he']; rfl
    exact absurd ((hN.mem _).2 this) hx
theorem settle_id {e : Ent} (hw : e.w.size = 0) (hs : e.s = true) (n : Int) : ({ settleE e n with s := true } : Ent) = e := by
  obtain ⟨l, w, s⟩ := e
  dsimp only at hw hs
  subst hs
  have hw' := bytes_eq_empty hw
  subst hw'
  have hx : (⟨#[]⟩ : ByteArray).extract 0 (max 0 (min n (((⟨#[]⟩ : ByteArray).size : Nat) : Int))).toNat = ⟨#[]⟩ := by
    apply bytes_eq_empty
    rw [ByteArray.size_extract]
    show min _ 0 - 0 = 0
    omega
  show Ent.mk (l ++ (⟨#[]⟩ : ByteArray).extract 0 _) ⟨#[]⟩ true = _
  rw [hx, ba_nil]
theorem crS_id {F : ByteArray → Option Ent} (h : Settled F) (ks : List Int) (s : ByteArray) : crS (F, ks) s = (F, ks) := by
  unfold crS
  split
  · rfl
  · rename_i e he
    have he' : F s = some e := he
    obtain ⟨hw, hs⟩ := h s e he'
    rw [if_neg (fun y => by rw [hs] at y; cases y.1), settle_id hw hs, if_pos hw]
    have : putE F s (some e) = F := by
      funext x; unfold putE; split
      · rename_i hx; rw [hx, he']
      · rfl
    rw [this]
theorem crK_id {F : ByteArray → Option Ent} (h : Settled F) (ks : List Int) (ts : List (List UInt8)) : ∀ k, k ≤ ts.length → crK F ks ts k = (F, ks)
  | 0, _ => rfl
  | k + 1, hk => by rw [crK_succ F ks ts k (by omega), crK_id h ks ts k (by omega), crS_id h]
/-- A second loss of power leaves what the first has left. -/
theorem crash_twice {d : Dk} {ks ks2 : List Int} {ts ts2 : List (List UInt8)} (hN : NamesF d.F ts) : crashD (crashD d ks ts) ks2 ts2 = crashD d ks ts := by
  have h := crK_id (crash_settled (d := d) (ks := ks) hN) ks2 ts2 ts2.length (Nat.le_refl _)
  unfold crashD at h ⊢
  dsimp only at h ⊢
  rw [h]
theorem NamesF.one {F : ByteArray → Option Ent} {ts ts2 : List (List UInt8)} (h : NamesF F ts) (h2 : NamesF F ts2) : ts = ts2 := by
  obtain ⟨ss, n1, m1, rfl⟩ := h
  obtain ⟨ss2, n2, m2, rfl⟩ := h2
  exact mergeSort_of_perm ((List.perm_ext_iff_of_nodup n1 n2).2 fun x => by rw [m1, m2])
end Go.Proofs.Ytgfmmchmkfboaaa
