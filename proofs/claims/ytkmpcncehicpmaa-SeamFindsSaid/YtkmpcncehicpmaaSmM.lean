/- Where two lists part: the plain part. -/
import Derived.Test.YtkmpcncehicpmaaSmE
namespace Go.Proofs.Ytkmpcncehicpmaa
set_option linter.unusedVariables false
theorem dn_max {l : List Int} {since : Int} : ∀ {m k : Nat}, 1 ≤ k → k ≤ m → l.getD (k - 1) 0 ≤ since → k ≤ dn l since m
  | 0, k, h1, h2, _ => by omega
  | m + 1, k, h1, h2, h3 => by
    unfold dn
    split
    · rename_i hs
      by_cases e : k = m + 1
      · subst e; rw [Nat.add_sub_cancel] at h3; omega
      · exact dn_max h1 (by omega) h3
    · omega
theorem dn_val {l : List Int} {since : Int} : ∀ {m : Nat}, 0 < dn l since m → l.getD (dn l since m - 1) 0 ≤ since
  | 0, h => by simp [dn] at h
  | m + 1, h => by
    unfold dn at h ⊢
    split at h
    · rename_i hs
      rw [if_pos hs]; exact dn_val h
    · rename_i hs
      rw [if_neg hs, Nat.add_sub_cancel]; omega
/-- The epochs never fall. -/
def Sorted (l : List Int) : Prop := ∀ i, i + 1 < l.length → l.getD i 0 ≤ l.getD (i + 1) 0
theorem Sorted.le {l : List Int} (h : Sorted l) : ∀ {j i : Nat}, i ≤ j → j < l.length → l.getD i 0 ≤ l.getD j 0
  | 0, i, h1, _ => by rw [show i = 0 by omega]; exact Int.le_refl _
  | j + 1, i, h1, h2 => by
    by_cases e : i = j + 1
    · subst e; exact Int.le_refl _
    · exact Int.le_trans (h.le (show i ≤ j by omega) (by omega)) (h j h2)
/-- Where the sender looks next. -/
def stepN (a b : List Int) (n : Nat) : Nat := nextN a (hintN b n (a.getD (n - 1) 0) : Nat) (hintE b n (a.getD (n - 1) 0))
theorem stepN_lt (a b : List Int) {n : Nat} (h : 1 ≤ n) : stepN a b n < n := by
  have h1 := dn_le b (a.getD (n - 1) 0) (cutN ((n : Int) - 1) b.length)
  have h2 := dn_le a (hintE b n (a.getD (n - 1) 0)) (cutN (hintN b n (a.getD (n - 1) 0) : Nat) a.length)
  unfold stepN nextN
  have h3 : hintN b n (a.getD (n - 1) 0) ≤ cutN ((n : Int) - 1) b.length := h1
  unfold cutN at h2 h3
  unfold cutN
  omega
/-- No place that both have is passed over. -/
theorem step_keeps {a b : List Int} (ha : Sorted a) (hb : Sorted b) {n k : Nat} (hn : n ≤ a.length) (hk1 : 1 ≤ k) (hkn : k < n) (hkb : k ≤ b.length) (he : b.getD (k - 1) 0 = a.getD (k - 1) 0) : k ≤ stepN a b n := by
  have hs : a.getD (k - 1) 0 ≤ a.getD (n - 1) 0 := ha.le (by omega) (by omega)
  have hh : k ≤ hintN b n (a.getD (n - 1) 0) := dn_max hk1 (by unfold cutN; omega) (by rw [he]; exact hs)
  have hpos : hintN b n (a.getD (n - 1) 0) ≠ 0 := by omega
  have hle := dn_le b (a.getD (n - 1) 0) (cutN ((n : Int) - 1) b.length)
  have hle' : hintN b n (a.getD (n - 1) 0) ≤ cutN ((n : Int) - 1) b.length := hle
  have hE : a.getD (k - 1) 0 ≤ hintE b n (a.getD (n - 1) 0) := by
    unfold hintE
    rw [if_neg hpos, ← he]
    unfold cutN at hle'
    exact hb.le (by omega) (by omega)
  exact dn_max hk1 (by unfold cutN; omega) hE
/-- Where it doesn't stop, the epoch falls, or it stops next. -/
theorem step_falls {a b : List Int} (ha : Sorted a) {n : Nat} (hn1 : 1 ≤ n) (hn : n ≤ a.length) : stepN a b n = 0 ∨ a.getD (stepN a b n - 1) 0 < a.getD (n - 1) 0 ∨ (stepN a b n ≤ b.length ∧ b.getD (stepN a b n - 1) 0 = a.getD (stepN a b n - 1) 0) := by
  by_cases h0 : stepN a b n = 0
  · exact .inl h0
  · right
    have hv : a.getD (stepN a b n - 1) 0 ≤ hintE b n (a.getD (n - 1) 0) := dn_val (Nat.pos_of_ne_zero h0)
    have hle2 := dn_le a (hintE b n (a.getD (n - 1) 0)) (cutN (hintN b n (a.getD (n - 1) 0) : Nat) a.length)
    have hle3 : stepN a b n ≤ cutN (hintN b n (a.getD (n - 1) 0) : Nat) a.length := hle2
    have hle : hintN b n (a.getD (n - 1) 0) ≤ cutN ((n : Int) - 1) b.length := dn_le b (a.getD (n - 1) 0) (cutN ((n : Int) - 1) b.length)
    obtain ⟨h, hh⟩ : ∃ h, h = hintN b n (a.getD (n - 1) 0) := ⟨_, rfl⟩
    have hpos : h ≠ 0 := by
      intro e
      rw [← hh, e] at hle3
      unfold cutN at hle3
      omega
    have hE : hintE b n (a.getD (n - 1) 0) = b.getD (h - 1) 0 := by
      unfold hintE; rw [← hh, if_neg hpos]
    have hval : b.getD (h - 1) 0 ≤ a.getD (n - 1) 0 := by
      have : 0 < dn b (a.getD (n - 1) 0) (cutN ((n : Int) - 1) b.length) := by
        have : hintN b n (a.getD (n - 1) 0) = dn b (a.getD (n - 1) 0) (cutN ((n : Int) - 1) b.length) := rfl
        omega
      have h2 := dn_val this
      rw [hh]; exact h2
    rw [hE] at hv
    rw [← hh] at hle hle3
    unfold cutN at hle hle3
    by_cases hlt : a.getD (stepN a b n - 1) 0 < a.getD (n - 1) 0
    · exact .inl hlt
    · right
      -- the epoch at h is the same: so h itself is found
      have e1 : b.getD (h - 1) 0 = a.getD (n - 1) 0 := by omega
      have l1 : a.getD (stepN a b n - 1) 0 ≤ a.getD (h - 1) 0 := ha.le (by omega) (by omega)
      have l2 : a.getD (h - 1) 0 ≤ a.getD (n - 1) 0 := ha.le (by omega) (by omega)
      have hm : h ≤ stepN a b n := dn_max (by omega) (by unfold cutN; omega) (by rw [hE]; omega)
      have e2 : stepN a b n = h := by omega
      rw [e2]
      exact ⟨by omega, by omega⟩
/-- How many epochs the first k have. -/
def epN (l : List Int) : Nat → Nat
  | 0 => 0
  | k + 1 => epN l k + if k = 0 ∨ l.getD k 0 ≠ l.getD (k - 1) 0 then 1 else 0
theorem epN_mono (l : List Int) : ∀ {j i : Nat}, i ≤ j → epN l i ≤ epN l j
  | 0, i, h => by rw [show i = 0 by omega]; exact Nat.le_refl _
  | j + 1, i, h => by
    by_cases e : i = j + 1
    · subst e; exact Nat.le_refl _
    · have := epN_mono l (show i ≤ j by omega)
      rw [epN]; omega
theorem epN_lt (l : List Int) : ∀ {j i : Nat}, 1 ≤ i → i < j → l.getD (i - 1) 0 ≠ l.getD (j - 1) 0 → epN l i < epN l j
  | 0, i, _, h, _ => by omega
  | j + 1, i, h1, h, hne => by
    rw [epN]
    rw [Nat.add_sub_cancel] at hne
    by_cases e : l.getD (i - 1) 0 = l.getD (j - 1) 0
    · have : epN l i ≤ epN l j := epN_mono l (by omega)
      rw [if_pos (.inr (by rw [← e]; exact fun h2 => hne h2.symm))]; omega
    · have := epN_lt l h1 (show i < j by
        by_cases e2 : i = j
        · subst e2; exact absurd rfl e
        · omega) e
      omega
theorem epN_pos (l : List Int) {k : Nat} (h : 1 ≤ k) : 1 ≤ epN l k := by
  have h1 : epN l 1 = 1 := by rw [epN, epN, if_pos (.inl rfl)]
  have := epN_mono l h
  omega
/-- It stops here. -/
def Stops (a b : List Int) (n : Nat) : Prop := n = 0 ∨ (n ≤ b.length ∧ b.getD (n - 1) 0 = a.getD (n - 1) 0)
/-- So many rounds are enough. -/
def Enough (a b : List Int) (n left : Nat) : Prop := 1 ≤ left ∧ (Stops a b n ∨ epN a n + 1 ≤ left)
theorem enough_step {a b : List Int} (ha : Sorted a) {n left : Nat} (hn : n ≤ a.length) (hs : ¬ Stops a b n) (h : Enough a b n (left + 1)) : Enough a b (stepN a b n) left := by
  have hn1 : 1 ≤ n := by
    rcases Nat.eq_zero_or_pos n with e | e
    · exact absurd (.inl e) hs
    · exact e
  have he : epN a n ≤ left := by
    rcases h.2 with h | h
    · exact absurd h hs
    · omega
  have hp := epN_pos a hn1
  refine ⟨by omega, ?_⟩
  have hlt := stepN_lt a b hn1
  rcases step_falls (b := b) ha hn1 hn with h1 | h1 | h1
  · exact .inl (.inl h1)
  · by_cases h0 : stepN a b n = 0
    · exact .inl (.inl h0)
    · right
      have := epN_lt a (show 1 ≤ stepN a b n by omega) hlt (by omega)
      omega
  · exact .inl (.inr h1)
theorem al_two (a b : List Int) (n : Nat) : alB [a, b] n = true ↔ b.getD (n - 1) 0 = a.getD (n - 1) 0 := by
  unfold alB
  simp [List.getD]
theorem minL_two (a b : List Int) : minL [a, b] 2 = min a.length b.length := by
  unfold minL
  simp
theorem dnC_max {ls : List (List Int)} : ∀ {m k : Nat}, k ≤ m → (k = 0 ∨ alB ls k = true) → k ≤ dnC ls m
  | 0, k, h, _ => by omega
  | m + 1, k, h, ha => by
    unfold dnC
    split
    · omega
    · rename_i hn
      by_cases e : k = m + 1
      · subst e
        rcases ha with ha | ha
        · omega
        · exact absurd ha hn
      · exact dnC_max (by omega) ha
theorem dnC_val {ls : List (List Int)} : ∀ {m : Nat}, dnC ls m = 0 ∨ alB ls (dnC ls m) = true
  | 0 => .inl rfl
  | m + 1 => by
    unfold dnC
    split
    · rename_i h; exact .inr h
    · exact dnC_val
theorem dnC_le {ls : List (List Int)} : ∀ {m : Nat}, dnC ls m ≤ m
  | 0 => Nat.le_refl _
  | m + 1 => by
    unfold dnC
    split
    · omega
    · have := dnC_le (ls := ls) (m := m); omega
theorem cm_two (a b : List Int) : cmN [a, b] = dnC [a, b] (min a.length b.length) := by
  unfold cmN
  rw [if_neg (by simp)]
  show dnC [a, b] (minL [a, b] 2) = _
  rw [minL_two]
/-- The greatest place that both have is never passed over, and where it stops it is that place. -/
theorem cm_keeps {a b : List Int} (ha : Sorted a) (hb : Sorted b) {n : Nat} (hn : n ≤ a.length) (hs : ¬ Stops a b n) (h : cmN [a, b] ≤ n) : cmN [a, b] ≤ stepN a b n := by
  rw [cm_two] at h ⊢
  have h1 := dnC_le (ls := [a, b]) (m := min a.length b.length)
  rcases dnC_val (ls := [a, b]) (m := min a.length b.length) with h2 | h2
  · rw [h2]; exact Nat.zero_le _
  · rw [al_two] at h2
    by_cases h0 : dnC [a, b] (min a.length b.length) = 0
    · rw [h0]; exact Nat.zero_le _
    · refine step_keeps ha hb hn (by omega) ?_ (by omega) h2
      rcases Nat.lt_or_ge (dnC [a, b] (min a.length b.length)) n with h3 | h3
      · exact h3
      · exfalso
        have e : dnC [a, b] (min a.length b.length) = n := by omega
        rw [e] at h2 h1
        exact hs (.inr ⟨by omega, h2⟩)
theorem cm_stop {a b : List Int} {n : Nat} (hn : n ≤ a.length) (hs : Stops a b n) (h : cmN [a, b] ≤ n) : n = cmN [a, b] := by
  rcases hs with h0 | ⟨h1, h2⟩
  · omega
  · have : n ≤ cmN [a, b] := by
      rw [cm_two]
      exact dnC_max (by omega) (.inr ((al_two a b n).2 h2))
    omega
theorem cm_le (a b : List Int) : cmN [a, b] ≤ a.length := by
  rw [cm_two]
  have := dnC_le (ls := [a, b]) (m := min a.length b.length)
  omega
end Go.Proofs.Ytkmpcncehicpmaa
