/- Several texts in one: WalA. -/
import Derived.Lib.ItoaNum
import Derived.Lib.Atoi
import Derived.Lib.AtoiTie
import Derived.Test.YtphljjgjpkdpmaaGreatDoorK3
import Derived.Test.YtphljjgjpkdpmaaGreatDoorK4
import Derived.Test.YtphljjgjpkdpmaaGreatDoorK5
import Derived.Lib.LaidTab
import Derived.Lib.AtoiAllCases
import Derived.Test.YtphljjgjpkdpmaaGreatDoorK7
import Derived.Test.YtphljjgjpkdpmaaGreatDoorK12
import Derived.Test.YtphljjgjpkdpmaaGreatDoorK11
/- Several texts in one: WlA WlB WlC WlD WlE WlF WlG WlH. -/
namespace Go.Proofs.YtphljjgjpkdpmaaGreatDoor
open Go.RowKit
set_option linter.unusedVariables false
def logB : List UInt8 := [108, 111, 103, 46]
/-- A segment's name. -/
def nameW (n : Nat) : ByteArray := ⟨(logB ++ Lib.decDigits n).toArray⟩
theorem digit_val (d : Nat) (h : d < 10) : Lib.digitVal (UInt8.ofNat (48 + d)) = some d := by
  have e : (UInt8.ofNat (48 + d)).toNat = 48 + d := by rw [UInt8.toNat_ofNat']; omega
  unfold Lib.digitVal
  rw [e, if_pos (by omega)]
  congr 1; omega
theorem val_digit {b : UInt8} {d : Nat} (h : Lib.digitVal b = some d) : d < 10 ∧ b = UInt8.ofNat (48 + d) := by
  unfold Lib.digitVal at h
  split at h
  · rename_i hb
    injection h with h
    refine ⟨by omega, ?_⟩
    apply UInt8.toNat.inj
    rw [UInt8.toNat_ofNat']
    omega
  · cases h
theorem decFrom_cons (b : UInt8) (l : List UInt8) (acc : Nat) : Lib.decFrom acc (b :: l) = (match Lib.digitVal b with
    | some d => Lib.decFrom (acc * 10 + d) l
    | none => none) := rfl
theorem decFrom_app (m : List UInt8) : ∀ (l : List UInt8) (acc : Nat), Lib.decFrom acc (l ++ m) = (Lib.decFrom acc l).bind (fun a => Lib.decFrom a m)
  | [], acc => rfl
  | b :: l, acc => by
    rw [List.cons_append, decFrom_cons, decFrom_cons]
    cases h : Lib.digitVal b with
    | none => rfl
    | some d => exact decFrom_app m l _
theorem dec_small {n : Nat} (h : n < 10) : Lib.decDigits n = [UInt8.ofNat (48 + n)] := by rw [Lib.decDigits, dif_pos h]
theorem dec_big {n : Nat} (h : ¬ n < 10) : Lib.decDigits n = Lib.decDigits (n / 10) ++ [UInt8.ofNat (48 + n % 10)] := by rw [Lib.decDigits, dif_neg h]
theorem dec_back (n : Nat) : Lib.decFrom 0 (Lib.decDigits n) = some n := by
  induction n using Nat.strongRecOn with
  | _ n ih =>
    by_cases h : n < 10
    · rw [dec_small h]
      unfold Lib.decFrom
      rw [digit_val n h]
      show Lib.decFrom (0 * 10 + n) [] = _
      unfold Lib.decFrom
      congr 1; omega
    · rw [dec_big h, decFrom_app, ih (n / 10) (by omega)]
      show Lib.decFrom (n / 10) [UInt8.ofNat (48 + n % 10)] = _
      unfold Lib.decFrom
      rw [digit_val _ (Nat.mod_lt _ (by omega))]
      show Lib.decFrom (n / 10 * 10 + n % 10) [] = _
      unfold Lib.decFrom
      congr 1; omega
theorem decDigits_inj {a b : Nat} (h : Lib.decDigits a = Lib.decDigits b) : a = b := by
  have h1 := dec_back a
  rw [h, dec_back b] at h1
  injection h1 with h1
  exact h1.symm
theorem nameW_inj {a b : Nat} (h : nameW a = nameW b) : a = b := by
  unfold nameW at h
  have h1 := congrArg (fun s : ByteArray => s.data.toList) h
  simp only at h1
  exact decDigits_inj (List.append_cancel_left h1)
open Classical in
/-- A name's number; 0, if it is none of a segment. -/
noncomputable def numW (s : ByteArray) : Nat := if h : ∃ n, 1 ≤ n ∧ n ≤ 999999999 ∧ s = nameW n then h.choose else 0
theorem numW_name {n : Nat} (h1 : 1 ≤ n) (h2 : n ≤ 999999999) : numW (nameW n) = n := by
  have h : ∃ m, 1 ≤ m ∧ m ≤ 999999999 ∧ nameW n = nameW m := ⟨n, h1, h2, rfl⟩
  unfold numW
  rw [dif_pos h]
  exact (nameW_inj h.choose_spec.2.2).symm
theorem numW_none {s : ByteArray} (h : ∀ n, 1 ≤ n → n ≤ 999999999 → s ≠ nameW n) : numW s = 0 := by
  unfold numW
  rw [dif_neg]
  rintro ⟨n, h1, h2, h3⟩
  exact h n h1 h2 h3
theorem numW_le (s : ByteArray) : numW s ≤ 999999999 := by
  unfold numW
  split
  · rename_i h; exact h.choose_spec.2.1
  · omega
theorem numW_of {s : ByteArray} {n : Nat} (h : numW s = n) (h0 : n ≠ 0) : s = nameW n ∧ 1 ≤ n ∧ n ≤ 999999999 := by
  unfold numW at h
  split at h
  · rename_i hx
    have := hx.choose_spec
    rw [h] at this
    exact ⟨this.2.2, this.1, this.2.1⟩
  · omega
theorem nDigits_le : ∀ (k n : Nat), n < 10 ^ k → 1 ≤ k → Lib.nDigits n ≤ k
  | 0, n, _, h => by omega
  | k + 1, n, hn, _ => by
    by_cases h : n < 10
    · rw [Lib.nDigits_small h]; omega
    · rw [Lib.nDigits_big h]
      have hk : 1 ≤ k := by
        rcases Nat.eq_zero_or_pos k with rfl | hk
        · simp at hn; omega
        · exact hk
      have := nDigits_le k (n / 10) (by rw [Nat.div_lt_iff_lt_mul (by omega)]; rw [Nat.pow_succ] at hn; exact hn) hk
      omega
theorem dec_len {n : Nat} (h : n < 10000000000) : (Lib.decDigits n).length ≤ 10 := by
  rw [Lib.decDigits_length]
  exact nDigits_le 10 n h (by omega)
theorem nameW_size (n : Nat) : (nameW n).size = 4 + (Lib.decDigits n).length := by
  show (logB ++ Lib.decDigits n).toArray.size = _
  rw [List.size_toArray, List.length_append]; rfl
theorem dec_pos (n : Nat) : Lib.decDigits n ≠ [] := by
  by_cases h : n < 10
  · rw [dec_small h]; simp
  · rw [dec_big h]; simp
/-- Digits with no 0 ahead are those of their number. -/
theorem dec_of_len : ∀ (q : Nat) (l : List UInt8) (m : Nat), l.length = q → l ≠ [] → (∀ h : l ≠ [], l.head h ≠ 48) → Lib.decFrom 0 l = some m → Lib.decDigits m = l ∧ 1 ≤ m
  | 0, l, m, hq, h, _, _ => absurd (List.eq_nil_of_length_eq_zero hq) h
  | q + 1, l0, m, hq, _, hh, hm => by
    rcases List.eq_nil_or_concat l0 with rfl | ⟨l, b, rfl⟩
    · simp at hq
    rw [List.concat_eq_append] at hq hm ⊢
    simp only [List.concat_eq_append] at hh
    rw [decFrom_app] at hm
    cases hl : Lib.decFrom 0 l with
    | none => rw [hl] at hm; cases hm
    | some a =>
      rw [hl] at hm
      have hm : Lib.decFrom a [b] = some m := hm
      rw [decFrom_cons] at hm
      cases hd : Lib.digitVal b with
      | none => rw [hd] at hm; cases hm
      | some d =>
        rw [hd] at hm
        have hm : some (a * 10 + d) = some m := hm
        injection hm with hm
        obtain ⟨h10, rfl⟩ := val_digit hd
        by_cases hne : l = []
        · subst hne
          have hl : some 0 = some a := hl
          injection hl with hl
          have e : m = d := by omega
          subst e
          rw [dec_small h10]
          refine ⟨rfl, ?_⟩
          have h1 := hh (by simp)
          rcases Nat.eq_zero_or_pos m with h0 | h0
          · subst h0; exact absurd rfl h1
          · exact h0
        · obtain ⟨e1, e2⟩ := dec_of_len q l a (by simpa using hq) hne (fun h => by
            have := hh (by simp)
            rwa [List.head_append_of_ne_nil h] at this) hl
          have h3 : ¬ m < 10 := by omega
          rw [dec_big h3, show m / 10 = a by omega, show m % 10 = d by omega, e1]
          exact ⟨rfl, by omega⟩
theorem dec_of (l : List UInt8) (m : Nat) (h : l ≠ []) (hh : ∀ h : l ≠ [], l.head h ≠ 48) (hm : Lib.decFrom 0 l = some m) : Lib.decDigits m = l ∧ 1 ≤ m := dec_of_len _ l m rfl h hh hm
theorem dec_head (n : Nat) (hn : 1 ≤ n) : ∀ h : Lib.decDigits n ≠ [], (Lib.decDigits n).head h ≠ 48 := by
  induction n using Nat.strongRecOn with
  | _ n ih =>
    intro h
    by_cases h10 : n < 10
    · have e : (Lib.decDigits n).head h = UInt8.ofNat (48 + n) := by simp [dec_small h10]
      rw [e]
      intro e2
      have := congrArg UInt8.toNat e2
      rw [UInt8.toNat_ofNat'] at this
      have e3 : (48 : UInt8).toNat = 48 := rfl
      omega
    · have hp := dec_pos (n / 10)
      have e : (Lib.decDigits n).head h = (Lib.decDigits (n / 10)).head hp := by
        have : ∀ (x : List UInt8) (hx : x ≠ []), Lib.decDigits (n / 10) ++ [UInt8.ofNat (48 + n % 10)] = x → x.head hx = (Lib.decDigits (n / 10)).head hp := by
          rintro x hx rfl
          exact List.head_append_of_ne_nil hp
        exact this _ h (dec_big h10).symm
      rw [e]
      exact ih (n / 10) (by omega) (by omega) hp
theorem grow_os (w : World) (os : Array Obj) : w.grownBy (Go.Sort.grow w os) none :=
  ⟨rfl, rfl, rfl, by show w.heap.size ≤ (w.heap ++ os).size; rw [Array.size_append]; omega, fun k hk _ => by
    show (w.heap ++ os)[k]? = w.heap[k]?
    rw [Array.getElem?_append_left hk]⟩
theorem var_kept {P : Program} {w w' : World} {n : String} {cs : Array Value} (h : w.var? P n = some cs) (g : w.grownBy w' none) : w'.var? P n = some cs := by
  unfold World.var? at h ⊢
  cases hg : P.globalNamed n with
  | none => rw [hg] at h; cases h
  | some k =>
    rw [hg] at h
    simp only [Option.bind_some] at h ⊢
    cases hk : w.heap[k]? with
    | none => rw [hk] at h; cases h
    | some o =>
      rw [g.block k (Array.getElem?_eq_some_iff.1 hk).1 (by simp)]
      exact h
/-- The library's variables that are read: a table, two errors. -/
structure Nv (w : World) : Prop where
  tab : Lib.TabIs Tryz.prog w "internal/strconv.uint64pow10" .u64 Lib.pow10Tab
  syn : ∃ tp p, w.var? Tryz.prog "strconv.ErrSyntax" = some #[.iface tp p]
  rng : ∃ tp p, w.var? Tryz.prog "strconv.ErrRange" = some #[.iface tp p]
theorem Nv.kept {w w' : World} (h : Nv w) (g : w.grownBy w' none) : Nv w' :=
  ⟨var_kept h.tab g, let ⟨tp, p, e⟩ := h.syn; ⟨tp, p, var_kept e g⟩, let ⟨tp, p, e⟩ := h.rng; ⟨tp, p, var_kept e g⟩⟩
theorem Itoa_any (n : Nat) (w : World) (hn : n ≤ 1000000000) (hv : Nv w) :
    Calls Tryz.prog 80 #[.int .i64 (n : Int)] w fun e w' => e = .returned (.string ⟨(Lib.decDigits n).toArray⟩) ∧ w.grownBy w' none := by
  refine (Tryz.strconv_Itoa (n : Int) (by omega) (by omega) w hv.tab).mono ?_
  rintro e w' ⟨rfl, k, os, rfl⟩
  rw [Lib.itoa_nonneg]
  exact ⟨rfl, grow_none (grow_drawnN _ (grow_refl _ _)) (grow_os _ _)⟩
set_option maxRecDepth 100000 in
theorem nameOf_any (n : Nat) (w : World) (hn : n ≤ 1000000000) (hv : Nv w) :
    Calls Tryz.prog 47 #[.int .i64 (n : Int)] w fun e w' => e = .returned (.string (nameW n)) ∧ w.grownBy w' none := by
  have hl := dec_len (n := n) (by omega)
  obtain ⟨X, hX⟩ : ∃ X : ByteArray, X = ⟨(Lib.decDigits n).toArray⟩ := ⟨_, rfl⟩
  have hXs : X.size ≤ 10 := by rw [hX]; show (Lib.decDigits n).toArray.size ≤ 10; rw [List.size_toArray]; exact hl
  have hno : ¬ (9223372036854775807 < 4 + X.size) := by omega
  have HN : Hid ((⟨#[108, 111, 103, 46]⟩ : ByteArray) ++ X = nameW n) := by
    show _ = _
    rw [hX]
    exact ByteArray.mk_append_mk logB (Lib.decDigits n)
  have HI := Lib.hid (Itoa_any n w hn hv)
  rw [← hX] at HI
  clear hl hX hXs hn hv
  go_enter Tryz.func47, Tryz.ntmps47
  go_wp2_with fail
  refine HI.out.mono ?_
  rintro e w1 ⟨rfl, g1⟩
  go_wp2
  go_ret
  exact ⟨by rw [← HN.out]; rfl, g1⟩
theorem dec_digit (n : Nat) : ∀ b ∈ Lib.decDigits n, 48 ≤ b.toNat ∧ b.toNat ≤ 57 := by
  induction n using Nat.strongRecOn with
  | _ n ih =>
    intro b hb
    by_cases h : n < 10
    · rw [dec_small h, List.mem_singleton] at hb
      subst hb
      rw [UInt8.toNat_ofNat']; omega
    · rw [dec_big h] at hb
      rcases List.mem_append.1 hb with hb | hb
      · exact ih (n / 10) (by omega) b hb
      · rw [List.mem_singleton] at hb
        subst hb
        rw [UInt8.toNat_ofNat']; omega
theorem atoi_dec {n : Nat} (h : n < 10000000000) : Lib.atoiAll (Lib.decDigits n) = .ok (n : Int) := by
  rw [Lib.atoiAll_short _ (by have := dec_len h; omega)]
  have hb := dec_back n
  have hd := dec_digit n
  have hp := dec_pos n
  cases hl : Lib.decDigits n with
  | nil => exact absurd hl hp
  | cons b r =>
    rw [hl] at hb hd
    obtain ⟨h1, h2⟩ := hd b (List.mem_cons_self ..)
    have e1 : (b == 45) = false := by
      rw [beq_eq_false_iff_ne]
      rintro rfl
      have : (45 : UInt8).toNat = 45 := rfl
      omega
    have e2 : (b == 43) = false := by
      rw [beq_eq_false_iff_ne]
      rintro rfl
      have : (43 : UInt8).toNat = 43 := rfl
      omega
    unfold Lib.atoi Lib.decNat
    simp only [e1, e2, Bool.false_eq_true, if_false, List.isEmpty_cons, hb, Option.map_some]
    rfl
theorem trim_name (n : Nat) : Lib.trimPrefix (nameW n).data.toList logB = Lib.decDigits n := by
  have e : (nameW n).data.toList = logB ++ Lib.decDigits n := by unfold nameW; simp
  have hp : Lib.hasPrefix (logB ++ Lib.decDigits n) logB = true := by
    unfold Lib.hasPrefix
    simp
  rw [e]
  unfold Lib.trimPrefix
  rw [if_pos hp]
  exact List.drop_left
/-- What stands behind the names' prefix. -/
def tailW (s : ByteArray) : ByteArray := ⟨(Lib.trimPrefix s.data.toList logB).toArray⟩
theorem tailW_list (s : ByteArray) : (tailW s).data.toList = Lib.trimPrefix s.data.toList logB := by unfold tailW; simp
theorem tailW_size (s : ByteArray) : (tailW s).size ≤ s.size := by
  show (Lib.trimPrefix s.data.toList logB).toArray.size ≤ s.size
  rw [List.size_toArray]
  have : s.data.toList.length = s.size := by rw [Array.length_toList]; rfl
  unfold Lib.trimPrefix
  split
  · rw [List.length_drop]; omega
  · omega
theorem num_atoi {s : ByteArray} {n : Nat} (h : s = nameW n) (hn : n ≤ 1000000000) : Lib.atoiAll (tailW s).data.toList = .ok (n : Int) := by
  subst h
  rw [tailW_list, trim_name, atoi_dec (by omega)]
/-- How strconv.Atoi ends. -/
theorem Atoi_ok (s : ByteArray) (w : World) (hs : s.size ≤ 1000000) (v : Int) (h : Lib.atoiAll s.data.toList = .ok v) :
    Calls Tryz.prog 89 #[.string s] w fun e w' => e = .returned (.tuple #[.int .i64 v, .nilIface]) ∧ w.grownBy w' none := by
  refine (Tryz.strconv_Atoi_ok s (by omega) v h w).mono ?_
  rintro e w' ⟨rfl, h⟩
  refine ⟨rfl, ?_⟩
  rcases h with rfl | ⟨t, rfl⟩
  · exact grow_refl _ _
  · exact none_of_below (Lib.bytesWorld_below _ _ _)
theorem Atoi_bad (s : ByteArray) (w : World) (hs : s.size ≤ 1000000) (hv : Nv w) (h : ∀ v, Lib.atoiAll s.data.toList ≠ .ok v) :
    Calls Tryz.prog 89 #[.string s] w fun e w' => ∃ v t N, e = .returned (.tuple #[.int .i64 v, .iface t (.pointer (some ⟨N, 0, none⟩))]) ∧ w.grownBy w' none := by
  by_cases hr : Lib.atoiAll s.data.toList = .range
  · obtain ⟨tp, p, e⟩ := hv.rng
    refine (Tryz.strconv_Atoi_range_var s (by omega) hr tp p w e).mono ?_
    rintro e w' ⟨N, rfl, _, _, hb⟩
    exact ⟨_, _, N, rfl, none_of_below hb⟩
  · have hc : Lib.atoiAll s.data.toList = .syntax := by
      cases hx : Lib.atoiAll s.data.toList with
      | ok v => exact absurd hx (h v)
      | range => exact absurd hx hr
      | _ => rfl
    obtain ⟨tp, p, e⟩ := hv.syn
    refine (Tryz.strconv_Atoi_syntax_var s (by omega) hc tp p w e).mono ?_
    rintro e w' ⟨N, rfl, _, _, hb⟩
    exact ⟨_, _, N, rfl, none_of_below hb⟩
theorem num_of_ok {s : ByteArray} {v : Int} (h : Lib.atoiAll (tailW s).data.toList = .ok v) (hn : ¬ (1 ≤ v ∧ v ≤ 999999999 ∧ s = nameW v.toNat)) : numW s = 0 := by
  refine numW_none fun n h1 h2 e => hn ?_
  have := num_atoi e (by omega)
  rw [h] at this
  injection this with this
  subst this
  exact ⟨by omega, by omega, by simpa using e⟩
theorem num_of_bad {s : ByteArray} (h : ∀ v, Lib.atoiAll (tailW s).data.toList ≠ .ok v) : numW s = 0 :=
  numW_none fun n h1 h2 e => h _ (num_atoi e (by omega))
set_option maxRecDepth 100000 in
theorem numberOf_bad (s : ByteArray) (w : World) (hs : s.size ≤ 1000000) (hv : Nv w) (h : ∀ v, Lib.atoiAll (tailW s).data.toList ≠ .ok v) :
    Calls Tryz.prog 71 #[.string s] w fun e w' => e = .returned (.int .i64 0) ∧ w.grownBy w' none := by
  have HT := Lib.hid (Tryz.strings_TrimPrefix s ⟨#[108, 111, 103, 46]⟩ w)
  have HA := Lib.hid (Atoi_bad (tailW s) w (Nat.le_trans (tailW_size s) hs) hv h)
  clear h hs hv
  go_enter Tryz.func71, Tryz.ntmps71
  go_wp2_with fail
  refine HT.out.mono ?_
  rintro e w1 ⟨rfl, rfl⟩
  go_wp2_with fail
  refine HA.out.mono ?_
  rintro e w2 ⟨v, t, N, rfl, g⟩
  go_wp2
  go_ret
  exact ⟨rfl, g⟩
set_option maxRecDepth 100000 in
theorem numberOf_out (s : ByteArray) (w : World) (hs : s.size ≤ 1000000) (v : Int) (h : Lib.atoiAll (tailW s).data.toList = .ok v) (hn : v < 1 ∨ 999999999 < v) :
    Calls Tryz.prog 71 #[.string s] w fun e w' => e = .returned (.int .i64 0) ∧ w.grownBy w' none := by
  have HT := Lib.hid (Tryz.strings_TrimPrefix s ⟨#[108, 111, 103, 46]⟩ w)
  have HA := Lib.hid (Atoi_ok (tailW s) w (Nat.le_trans (tailW_size s) hs) v h)
  clear h hs
  rcases hn with hn | hn
  · go_enter Tryz.func71, Tryz.ntmps71
    go_wp2_with fail
    refine HT.out.mono ?_
    rintro e w1 ⟨rfl, rfl⟩
    go_wp2_with fail
    refine HA.out.mono ?_
    rintro e w2 ⟨rfl, g⟩
    go_wp2
    go_ret
    exact ⟨rfl, g⟩
  · have hn1 : ¬ v < 1 := by omega
    go_enter Tryz.func71, Tryz.ntmps71
    go_wp2_with fail
    refine HT.out.mono ?_
    rintro e w1 ⟨rfl, rfl⟩
    go_wp2_with fail
    refine HA.out.mono ?_
    rintro e w2 ⟨rfl, g⟩
    go_wp2
    go_ret
    exact ⟨rfl, g⟩
set_option maxRecDepth 100000 in
theorem numberOf_in (s : ByteArray) (w : World) (hs : s.size ≤ 1000000) (hv : Nv w) (n : Nat) (h : Lib.atoiAll (tailW s).data.toList = .ok (n : Int)) (h1 : 1 ≤ n) (h2 : n ≤ 999999999) :
    Calls Tryz.prog 71 #[.string s] w fun e w' => e = .returned (.int .i64 (if nameW n = s then (n : Int) else 0)) ∧ w.grownBy w' none := by
  have HT := Lib.hid (Tryz.strings_TrimPrefix s ⟨#[108, 111, 103, 46]⟩ w)
  have HA := Lib.hid (Atoi_ok (tailW s) w (Nat.le_trans (tailW_size s) hs) n h)
  have HN := Lib.hid fun (w2 : World) (g : w.grownBy w2 none) => nameOf_any n w2 (by omega) (hv.kept g)
  have n1 : ¬ ((n : Int) < 1) := by omega
  have n2 : ¬ (999999999 < (n : Int)) := by omega
  clear h hs hv h1 h2
  by_cases hn : nameW n = s
  · rw [if_pos hn]
    go_enter Tryz.func71, Tryz.ntmps71
    go_wp2_with fail
    refine HT.out.mono ?_
    rintro e w1 ⟨rfl, rfl⟩
    go_wp2_with fail
    refine HA.out.mono ?_
    rintro e w2 ⟨rfl, g⟩
    go_wp2_with fail
    refine (HN.out w2 g).mono ?_
    rintro e w3 ⟨rfl, g3⟩
    go_wp2
    go_ret
    exact ⟨rfl, grow_none g g3⟩
  · rw [if_neg hn]
    have hb : (!((nameW n).toList == s.toList)) = true := by
      rw [Bool.not_eq_true', beq_eq_false_iff_ne]
      intro e
      apply hn
      have e2 : (nameW n).data.toList = s.data.toList := by rw [← ByteArray.toList_eq, ← ByteArray.toList_eq]; exact e
      exact ByteArray.ext (Array.ext' e2)
    go_enter Tryz.func71, Tryz.ntmps71
    go_wp2_with fail
    refine HT.out.mono ?_
    rintro e w1 ⟨rfl, rfl⟩
    go_wp2_with fail
    refine HA.out.mono ?_
    rintro e w2 ⟨rfl, g⟩
    go_wp2_with fail
    refine (HN.out w2 g).mono ?_
    rintro e w3 ⟨rfl, g3⟩
    go_wp2
    · go_ret
      exact ⟨rfl, grow_none g g3⟩
theorem numberOf_any (s : ByteArray) (w : World) (hs : s.size ≤ 1000000) (hv : Nv w) :
    Calls Tryz.prog 71 #[.string s] w fun e w' => e = .returned (.int .i64 (numW s : Int)) ∧ w.grownBy w' none := by
  by_cases h : ∃ v, Lib.atoiAll (tailW s).data.toList = .ok v
  · obtain ⟨v, h⟩ := h
    by_cases hb : v < 1 ∨ 999999999 < v
    · rw [num_of_ok h (by omega)]
      exact numberOf_out s w hs v h hb
    · obtain ⟨n, rfl⟩ : ∃ n : Nat, v = n := ⟨v.toNat, by omega⟩
      refine (numberOf_in s w hs hv n h (by omega) (by omega)).mono ?_
      rintro e w' ⟨rfl, g⟩
      refine ⟨?_, g⟩
      split
      · rename_i e
        rw [← e, numW_name (by omega) (by omega)]
      · rename_i e
        rw [num_of_ok h (fun h3 => e (by have := h3.2.2; simpa using this.symm))]
        rfl
  · rw [num_of_bad (fun v e => h ⟨v, e⟩)]
    exact numberOf_bad s w hs hv (fun v e => h ⟨v, e⟩)
/-- What a frame's payload is read as; nothing, if it is none. -/
def payO (s : ByteArray) : ByteArray := if opB s then payB s else ⟨#[]⟩
def begB (s : ByteArray) : ByteArray := rText (nextS (payO s)) (nextBad (payO s))
def begK (s : ByteArray) : Bool := opB s && (decide ((getN (payO s)).1 = 1) && rDone (rTextS (nextS (payO s)) (nextBad (payO s))) (rCountB (nextS (payO s)) (nextBad (payO s))))
def goneN (s : ByteArray) : Int := rNum (nextS (payO s)) (nextBad (payO s))
def goneK (s : ByteArray) : Bool := opB s && (decide ((getN (payO s)).1 = 2) && rDone (rNumS (nextS (payO s)) (nextBad (payO s))) (rNumB (nextS (payO s)) (nextBad (payO s))))
theorem payO_size (s : ByteArray) : (payO s).size ≤ s.size := by
  unfold payO
  split
  · rename_i h
    have := open_less h
    unfold payB
    rw [ByteArray.size_extract, nextS_size]
    omega
  · exact Nat.zero_le _
/-- How a text is opened. -/
theorem Open_one (s : ByteArray) (w : World) (hm : Mv w) (hs : s.size ≤ 1000000000) :
    Calls Tryz.prog 91 #[.string s] w fun e w' => ∃ Q, e = .returned (.tuple #[.string (payO s), .string Q, .int .i64 (if opB s then 0 else 3)]) ∧ w.grownBy w' none := by
  unfold payO
  by_cases h : opB s = true
  · rw [if_pos h, if_pos h]
    exact (Open_yes s w hm hs h).mono fun e w' h => ⟨_, h⟩
  · rw [if_neg h, if_neg h]
    exact (Open_not s w hm hs (by simpa using h)).mono fun e w' h => ⟨_, h⟩
set_option maxRecDepth 100000 in
theorem begun_any (s : ByteArray) (w : World) (hm : Mv w) (hs : s.size ≤ 1000000000) :
    Calls Tryz.prog 72 #[.string s] w fun e w' => e = .returned (.tuple #[.string (begB s), .bool (begK s)]) ∧ w.grownBy w' none := by
  have hp := payO_size s
  have HO := Lib.hid (Open_one s w hm hs)
  unfold begB begK
  obtain ⟨P, hP⟩ : ∃ P, P = payO s := ⟨_, rfl⟩
  rw [← hP] at HO hp ⊢
  have hP1 := nextS_size P
  have HS := Lib.hid (show P.size ≤ 1000000000000000 by omega)
  have HS1 := Lib.hid (show (nextS P).size ≤ 1000000000000000 by omega)
  clear hP hp hP1 hm hs
  cases ho : opB s with
  | false =>
    rw [ho] at HO
    go_enter Tryz.func72, Tryz.ntmps72
    go_wp2_with fail
    refine HO.out.mono ?_
    rintro e w1 ⟨Q, rfl, g1⟩
    go_wp2_with fail
    refine (Read_any P w1).mono ?_
    rintro e w2 ⟨b, rfl, r2, g2, hb⟩
    go_wp2_with fail
    refine (Num_any b P false w2 r2 HS.out).mono ?_
    rintro e w3 ⟨rfl, r3, g3⟩
    go_wp2_with fail
    refine (Text_any2 b _ _ w3 r3 HS1.out).mono ?_
    rintro e w4 ⟨rfl, r4, g4⟩
    go_wp2
    go_ret2
    exact ⟨rfl, grow_none g1 (grow_new g2 hb (grow_same g3 g4))⟩
  | true =>
    rw [ho] at HO
    by_cases hk : (getN P).1 = 1
    · rw [decide_eq_true hk]
      go_enter Tryz.func72, Tryz.ntmps72
      go_wp2_with fail
      refine HO.out.mono ?_
      rintro e w1 ⟨Q, rfl, g1⟩
      go_wp2_with fail
      refine (Read_any P w1).mono ?_
      rintro e w2 ⟨b, rfl, r2, g2, hb⟩
      go_wp2_with fail
      refine (Num_any b P false w2 r2 HS.out).mono ?_
      rintro e w3 ⟨rfl, r3, g3⟩
      have hr : rNum P false = 1 := hk
      rw [hr]
      go_wp2_with fail
      refine (Text_any2 b _ _ w3 r3 HS1.out).mono ?_
      rintro e w4 ⟨rfl, r4, g4⟩
      go_wp2_with fail
      refine (Done_any b _ _ w4 r4).mono ?_
      rintro e w5 ⟨rfl, r5, g5⟩
      go_wp2
      go_ret2
      exact ⟨rfl, grow_none g1 (grow_new g2 hb (grow_same (grow_same g3 g4) g5))⟩
    · rw [decide_eq_false hk]
      go_enter Tryz.func72, Tryz.ntmps72
      go_wp2_with fail
      refine HO.out.mono ?_
      rintro e w1 ⟨Q, rfl, g1⟩
      go_wp2_with fail
      refine (Read_any P w1).mono ?_
      rintro e w2 ⟨b, rfl, r2, g2, hb⟩
      go_wp2_with fail
      refine (Num_any b P false w2 r2 HS.out).mono ?_
      rintro e w3 ⟨rfl, r3, g3⟩
      have hr : ¬ rNum P false = 1 := hk
      have hr2 : decide (rNum P false = 1) = false := decide_eq_false hr
      generalize rNum P false = K at *
      go_wp2_with fail
      refine (Text_any2 b _ _ w3 r3 HS1.out).mono ?_
      rintro e w4 ⟨rfl, r4, g4⟩
      go_wp2
      go_ret2
      exact ⟨rfl, grow_none g1 (grow_new g2 hb (grow_same g3 g4))⟩
set_option maxRecDepth 100000 in
theorem goneOn_any (s : ByteArray) (w : World) (hm : Mv w) (hs : s.size ≤ 1000000000) :
    Calls Tryz.prog 73 #[.string s] w fun e w' => e = .returned (.tuple #[.int .i64 (goneN s), .bool (goneK s)]) ∧ w.grownBy w' none := by
  have hp := payO_size s
  have HO := Lib.hid (Open_one s w hm hs)
  unfold goneN goneK
  obtain ⟨P, hP⟩ : ∃ P, P = payO s := ⟨_, rfl⟩
  rw [← hP] at HO hp ⊢
  have hP1 := nextS_size P
  have HS := Lib.hid (show P.size ≤ 1000000000000000 by omega)
  have HS1 := Lib.hid (show (nextS P).size ≤ 1000000000000000 by omega)
  clear hP hp hP1 hm hs
  cases ho : opB s with
  | false =>
    rw [ho] at HO
    go_enter Tryz.func73, Tryz.ntmps73
    go_wp2_with fail
    refine HO.out.mono ?_
    rintro e w1 ⟨Q, rfl, g1⟩
    go_wp2_with fail
    refine (Read_any P w1).mono ?_
    rintro e w2 ⟨b, rfl, r2, g2, hb⟩
    go_wp2_with fail
    refine (Num_any b P false w2 r2 HS.out).mono ?_
    rintro e w3 ⟨rfl, r3, g3⟩
    go_wp2_with fail
    refine (Num_any b _ _ w3 r3 HS1.out).mono ?_
    rintro e w4 ⟨rfl, r4, g4⟩
    go_wp2
    go_ret2
    exact ⟨rfl, grow_none g1 (grow_new g2 hb (grow_same g3 g4))⟩
  | true =>
    rw [ho] at HO
    by_cases hk : (getN P).1 = 2
    · rw [decide_eq_true hk]
      go_enter Tryz.func73, Tryz.ntmps73
      go_wp2_with fail
      refine HO.out.mono ?_
      rintro e w1 ⟨Q, rfl, g1⟩
      go_wp2_with fail
      refine (Read_any P w1).mono ?_
      rintro e w2 ⟨b, rfl, r2, g2, hb⟩
      go_wp2_with fail
      refine (Num_any b P false w2 r2 HS.out).mono ?_
      rintro e w3 ⟨rfl, r3, g3⟩
      have hr : rNum P false = 2 := hk
      rw [hr]
      go_wp2_with fail
      refine (Num_any b _ _ w3 r3 HS1.out).mono ?_
      rintro e w4 ⟨rfl, r4, g4⟩
      go_wp2_with fail
      refine (Done_any b _ _ w4 r4).mono ?_
      rintro e w5 ⟨rfl, r5, g5⟩
      go_wp2
      go_ret2
      exact ⟨rfl, grow_none g1 (grow_new g2 hb (grow_same (grow_same g3 g4) g5))⟩
    · rw [decide_eq_false hk]
      go_enter Tryz.func73, Tryz.ntmps73
      go_wp2_with fail
      refine HO.out.mono ?_
      rintro e w1 ⟨Q, rfl, g1⟩
      go_wp2_with fail
      refine (Read_any P w1).mono ?_
      rintro e w2 ⟨b, rfl, r2, g2, hb⟩
      go_wp2_with fail
      refine (Num_any b P false w2 r2 HS.out).mono ?_
      rintro e w3 ⟨rfl, r3, g3⟩
      have hr : ¬ rNum P false = 2 := hk
      have hr2 : decide (rNum P false = 2) = false := decide_eq_false hr
      generalize rNum P false = K at *
      go_wp2_with fail
      refine (Num_any b _ _ w3 r3 HS1.out).mono ?_
      rintro e w4 ⟨rfl, r4, g4⟩
      go_wp2
      go_ret2
      exact ⟨rfl, grow_none g1 (grow_new g2 hb (grow_same g3 g4))⟩
/-- A head. -/
def headW (k : Int) (r : ByteArray) : ByteArray := ⟨(framesB [⟨(numsB [k]).toArray⟩ ++ r]).toArray⟩
theorem nums1_size (k : Int) (hk : -9223372036854775808 ≤ k ∧ k ≤ 9223372036854775807) : (⟨(numsB [k]).toArray⟩ : ByteArray).size ≤ 10 := by
  show (numsB [k]).toArray.size ≤ 10
  rw [List.size_toArray]
  unfold numsB
  simp only [List.flatMap_cons, List.flatMap_nil, List.append_nil]
  exact numB_len hk
set_option maxRecDepth 100000 in
theorem headOf_any (k : Int) (r : ByteArray) (w : World) (hm : Mv w) (hk : -9223372036854775808 ≤ k ∧ k ≤ 9223372036854775807) (hr : r.size ≤ 1000000) :
    Calls Tryz.prog 44 #[.int .i64 k, .string r] w fun e w' => e = .returned (.string (headW k r)) ∧ w.grownBy w' none := by
  have hn := nums1_size k hk
  unfold headW
  have HN := Lib.hid fun (w1 : World) (v : Value) (h : RowAt w1 v ([k].map i64v)) => Nums_any v [k] w1 h (by intro n hn; rw [List.mem_singleton] at hn; subst hn; exact hk) (by simp)
  obtain ⟨K, hK⟩ : ∃ K : ByteArray, K = ⟨(numsB [k]).toArray⟩ := ⟨_, rfl⟩
  rw [← hK] at hn HN ⊢
  have hKr : (K ++ r).size = K.size + r.size := ByteArray.size_append
  have hno : ¬ (9223372036854775807 < K.size + r.size) := by omega
  have HS := Lib.hid fun (w1 : World) (v : Value) (m : Mv w1) (h : RowAt w1 v ([K ++ r].map Value.string)) => Seal_any v [K ++ r] w1 m h (by simp) (by intro s hs; rw [List.mem_singleton] at hs; subst hs; omega)
  have HM := Lib.hid hm
  clear hK hn hk hr hKr hm
  have gA := World.grownBy_alloc w (.cells #[.int .i64 k] 3) none
  go_enter Tryz.func44, Tryz.ntmps44
  go_wp2_with fail
  refine (HN.out _ _ (RowAt.lit w [.int .i64 k] _ _ _ rfl)).mono ?_
  rintro e w1 ⟨rfl, g1⟩
  have G1 := grow_none gA g1
  have gB := World.grownBy_alloc w1 (.cells #[.string (K ++ r)] 9) none
  have G2 := grow_none G1 gB
  go_wp2_with fail
  refine (HS.out _ _ (HM.out.kept G2) (RowAt.lit w1 [.string (K ++ r)] _ _ _ rfl)).mono ?_
  rintro e w2 ⟨rfl, g2⟩
  go_wp2
  go_ret
  exact ⟨rfl, grow_none G2 g2⟩
theorem scans_ex : ∀ (k : Nat) (s : ByteArray), s.size ≤ k → ∃ l c, Scans s l c
  | 0, s, h => by
    cases ho : opB s with
    | false => exact ⟨_, _, .stop s ho⟩
    | true => have := open_less ho; omega
  | k + 1, s, h => by
    cases ho : opB s with
    | false => exact ⟨_, _, .stop s ho⟩
    | true =>
      have := open_less ho
      obtain ⟨l, c, h⟩ := scans_ex k (behB s) (by omega)
      exact ⟨_, _, .go s l c ho h⟩
/-- The frames with which a text begins, and what is behind them. -/
noncomputable def scanL (s : ByteArray) : List ByteArray := (scans_ex s.size s (Nat.le_refl _)).choose
noncomputable def scanC (s : ByteArray) : ByteArray := (scans_ex s.size s (Nat.le_refl _)).choose_spec.choose
theorem scan_spec (s : ByteArray) : Scans s (scanL s) (scanC s) := (scans_ex s.size s (Nat.le_refl _)).choose_spec.choose_spec
theorem scan_is {s c : ByteArray} {l : List ByteArray} (h : Scans s l c) : l = scanL s ∧ c = scanC s := h.same (scan_spec s)
/-- Just the first n bytes are frames. -/
def cutOk (t : ByteArray) (n : Int) : Prop := 0 ≤ n ∧ n ≤ t.size ∧ scanL (t.extract 0 n.toNat) ≠ [] ∧ (scanC (t.extract 0 n.toNat)).size = 0
noncomputable def cutL (t : ByteArray) (n : Int) : List ByteArray := (scanL (t.extract 0 n.toNat)).drop 1
theorem cut_size (t : ByteArray) {n : Int} (h0 : 0 ≤ n) (h1 : n ≤ t.size) : ((t.extract 0 n.toNat).size : Int) = n := by
  rw [ByteArray.size_extract]; omega
set_option maxRecDepth 100000 in
theorem cutAt_out (t : ByteArray) (n : Int) (w : World) (h : n < 0 ∨ (t.size : Int) < n) (ht : t.size ≤ 1000000000) :
    Calls Tryz.prog 74 #[.string t, .int .i64 n] w fun e w' => e = .returned (.tuple #[.slice none 0 0, .bool false]) ∧ w.grownBy w' none := by
  by_cases h0 : n < 0
  · go_enter Tryz.func74, Tryz.ntmps74
    go_wp2
    go_ret2
    exact ⟨rfl, grow_refl _ _⟩
  · have h1 : (t.size : Int) < n := by omega
    clear h
    go_enter Tryz.func74, Tryz.ntmps74
    go_wp2
    go_ret2
    exact ⟨rfl, grow_refl _ _⟩
set_option maxRecDepth 100000 in
theorem cutAt_in (t : ByteArray) (n : Nat) (w : World) (hm : Mv w) (h : n ≤ t.size) (ht : t.size ≤ 1000000000) :
    Calls Tryz.prog 74 #[.string t, .int .i64 (n : Int)] w fun e w' =>
      ((cutOk t n ∧ ∃ p q, e = .returned (.tuple #[.slice p (cutL t n).length q, .bool true]) ∧ RowAt w' (.slice p (cutL t n).length q) ((cutL t n).map Value.string)) ∨ (¬ cutOk t n ∧ e = .returned (.tuple #[.slice none 0 0, .bool false]))) ∧ w.grownBy w' none := by
  have hsz := cut_size t (n := n) (by omega) (by omega)
  have e0 : (n : Int).toNat = n := rfl
  rw [e0] at hsz
  have HC := Lib.hid (Scan_any (t.extract 0 n) w hm (by omega))
  have HX : Hid (∀ l c, Scans (t.extract 0 n) l c → (cutOk t n ↔ (l ≠ [] ∧ c.size = 0)) ∧ cutL t n = l.drop 1) := by
    intro l c hs
    obtain ⟨rfl, rfl⟩ := scan_is hs
    unfold cutOk cutL
    rw [e0]
    exact ⟨⟨fun h => h.2.2, fun h => ⟨by omega, by omega, h.1, h.2⟩⟩, rfl⟩
  have n0 : ¬ ((n : Int) < 0) := by omega
  have n1 : ¬ ((t.size : Int) < (n : Int)) := by omega
  clear hm e0
  go_enter Tryz.func74, Tryz.ntmps74
  go_wp2_with fail
  refine HC.out.mono ?_
  rintro e w1 ⟨p, q, l, c, hs, hcs, hlq, rfl, hr, g⟩
  have HX1 := Lib.hid (HX.out l c hs)
  obtain ⟨y, hy⟩ : ∃ y : Int, y = ((t.extract 0 n).size : Int) - (c.size : Int) := ⟨_, rfl⟩
  rw [← hy]
  have HR := Lib.hid hr
  have HL := Lib.hid hlq
  clear hr HX HC hs hcs hlq
  by_cases hl : l.length = 0
  · have hno : Hid (¬ cutOk t n) := fun h => (HX1.out.1.1 h).1 (List.eq_nil_of_length_eq_zero hl)
    clear HX1 HR HL hy hsz
    rw [hl]
    go_wp2
    all_goals (go_ret2; exact ⟨.inr ⟨hno, rfl⟩, g⟩)
  · by_cases hc : c.size = 0
    · have hyes : Hid (cutOk t n) := HX1.out.1.2 ⟨fun e => hl (by rw [e]; rfl), hc⟩
      have hyn : y = (n : Int) := by omega
      have hcl : Hid (cutL t n = l.drop 1) := HX1.out.2
      have hlen : Hid ((cutL t n).length = l.length - 1) := by show _ = _; rw [HX1.out.2, List.length_drop]
      clear HX1 hy hsz hc
      subst hyn
      have HRD := Lib.hid (row_drop (k := 1) HR.out (by omega) rfl HL.out)
      rw [← hcl.out, ← hlen.out] at HRD
      by_cases hq : q = 1
      · rw [if_pos hq] at HRD
        go_wp2
        go_ret2
        rw [← hlen.out]
        exact ⟨.inl ⟨hyes.out, _, _, rfl, by rw [hq] at HRD; exact HRD⟩, g⟩
      · rw [if_neg hq] at HRD
        go_wp2
        go_ret2
        rw [← hlen.out]
        exact ⟨.inl ⟨hyes.out, _, _, rfl, HRD⟩, g⟩
    · have hno : Hid (¬ cutOk t n) := fun h => hc (HX1.out.1.1 h).2
      have hyn : ¬ y = (n : Int) := by omega
      have hyb : (y != (n : Int)) = true := by simpa using hyn
      clear HX1 HR HL hy hsz hc
      by_cases hq : q = 1
      · go_wp2
        all_goals (go_ret2; exact ⟨.inr ⟨hno, rfl⟩, g⟩)
      · go_wp2
        all_goals (go_ret2; exact ⟨.inr ⟨hno, rfl⟩, g⟩)
/-- What a log counts. -/
structure Lc where
  first : Nat
  last : Nat
  size : Nat
  torn : Bool
def Lc.cells (c : Lc) : List Value := [.int .i64 c.first, .int .i64 c.last, .int .i64 c.size, .bool c.torn]
def Lc.val (c : Lc) : Value := .agg #[.int .i64 c.first, .int .i64 c.last, .int .i64 c.size, .bool c.torn]
/-- A log in block b, on the drive in block db. -/
def LAt (w : World) (b db : Nat) (c : Lc) : Prop := Blk w b 72 [.int .i64 c.first, .int .i64 c.last, .int .i64 c.size, .bool c.torn, .pointer (some ⟨db, 0, none⟩)]
/-- Where the next records go. -/
def placeN (c : Lc) : Nat := if c.last = 0 then 1 else if c.torn = false ∧ c.size < 2048 then c.last else if c.last = 999999999 then 0 else c.last + 1
def placeE (c : Lc) : Int := if c.last = 0 then 0 else if c.torn = false ∧ c.size < 2048 then 0 else if c.last = 999999999 then 52 else 0
def placeH (c : Lc) : ByteArray := if c.last = 0 then headW 1 ⟨(textsB [⟨#[]⟩]).toArray⟩ else if c.torn = false ∧ c.size < 2048 then ⟨#[]⟩ else if c.last = 999999999 then ⟨#[]⟩ else headW 2 ⟨(numsB [(c.size : Int)]).toArray⟩
def PlaceE (c : Lc) (w : World) (e : Ending) (w' : World) : Prop := e = .returned (.tuple #[.int .i64 (placeN c), .string (placeH c), .int .i64 (placeE c)]) ∧ w.grownBy w' none
theorem room0 : roomB [(⟨#[]⟩ : ByteArray)] = 10 := rfl
theorem text0 : textsB [(⟨#[]⟩ : ByteArray)] = numB 0 := by
  unfold textsB
  simp only [List.flatMap_cons, List.flatMap_nil, List.append_nil]
  rfl
theorem text0_size : (⟨(textsB [⟨#[]⟩]).toArray⟩ : ByteArray).size ≤ 10 := by
  show (textsB [⟨#[]⟩]).toArray.size ≤ 10
  rw [List.size_toArray, text0]
  exact numB_len (by omega)
theorem lit2 (w : World) (o : Obj) (x : Value) (t : TypeId) : RowAt ((w.alloc o).alloc (.cells #[x] t)) (.slice (some ⟨w.heap.size + 1, 0, none⟩) 1 1) [x] := by
  have h := RowAt.lit (w.alloc o) [x] t 1 1 rfl
  have e : (w.alloc o).heap.size = w.heap.size + 1 := by simp [go_sem]
  rw [e] at h
  exact h
set_option maxRecDepth 100000 in
theorem place_new (f z : Nat) (tn : Bool) (X Hd : ByteArray) (w : World) (hm : Mv w)
    (ht : ∀ (w1 : World) (v : Value) (h : RowAt w1 v [Value.string ⟨#[]⟩]), Calls Tryz.prog 45 #[v] w1 fun e w' => e = .returned (.string X) ∧ w1.grownBy w' none)
    (hh : ∀ (w1 : World) (m : Mv w1), Calls Tryz.prog 44 #[.int .i64 1, .string X] w1 fun e w' => e = .returned (.string Hd) ∧ w1.grownBy w' none) :
    Calls Tryz.prog 42 #[.agg #[.int .i64 f, .int .i64 0, .int .i64 z, .bool tn]] w fun e w' => e = .returned (.tuple #[.int .i64 1, .string Hd, .int .i64 0]) ∧ w.grownBy w' none := by
  have HT := Lib.hid ht
  have HH := Lib.hid hh
  have HM := Lib.hid hm
  have gA : w.grownBy ((w.alloc (.cells (#[.int .i64 f, .int .i64 0, .int .i64 z, .bool tn]) 70)).alloc (.cells #[.string ⟨#[]⟩] 9)) none := grow_alloc _ _ (World.grownBy_alloc _ _ _)
  have R0 : RowAt ((w.alloc (.cells (#[.int .i64 f, .int .i64 0, .int .i64 z, .bool tn]) 70)).alloc (.cells #[.string ⟨#[]⟩] 9)) (.slice (some ⟨w.heap.size + 1, 0, none⟩) 1 1) [Value.string ⟨#[]⟩] := lit2 _ _ _ _
  have HR0 := Lib.hid R0
  have HGA := Lib.hid gA
  clear ht hh hm R0 gA
  go_enter Tryz.func42, Tryz.ntmps42
  go_wp2_with fail
  refine (HT.out _ _ HR0.out).mono ?_
  rintro e w1 ⟨rfl, g1⟩
  have G1 := grow_none HGA.out g1
  go_wp2_with fail
  refine (HH.out _ (HM.out.kept G1)).mono ?_
  rintro e w2 ⟨rfl, g2⟩
  go_wp2
  go_ret3
  exact ⟨rfl, grow_none G1 g2⟩
set_option maxRecDepth 100000 in
theorem place_same (c : Lc) (w : World) (hl : c.last ≤ 999999999) (hz : c.size ≤ 1000000000) (h0 : ¬ c.last = 0) (h1 : c.torn = false ∧ c.size < 2048) :
    Calls Tryz.prog 42 #[c.val] w (PlaceE c w) := by
  have HE : Hid (placeN c = c.last ∧ placeE c = 0 ∧ placeH c = ⟨#[]⟩) := by
    unfold placeN placeE placeH
    rw [if_neg h0, if_neg h0, if_neg h0, if_pos h1, if_pos h1, if_pos h1]; exact ⟨rfl, rfl, rfl⟩
  obtain ⟨f, l, z, tn⟩ := c
  obtain ⟨h1, h2⟩ := h1
  replace h1 : tn = false := h1
  replace h2 : z < 2048 := h2
  replace h0 : ¬ l = 0 := h0
  replace hl : l ≤ 999999999 := hl
  have i2 : (z : Int) < 2048 := by omega
  have i0 : ¬ (l : Int) = 0 := by omega
  have i0b : ((l : Int) == 0) = false := by simpa using i0
  subst h1
  unfold Lc.val
  go_enter Tryz.func42, Tryz.ntmps42
  go_wp2
  go_ret3
  refine ⟨?_, World.grownBy_alloc _ _ _⟩
  rw [HE.out.1, HE.out.2.1, HE.out.2.2]
  rfl
theorem place_none (c : Lc) (w : World) (hm : Mv w) (h0 : c.last = 0) :
    Calls Tryz.prog 42 #[c.val] w (PlaceE c w) := by
  obtain ⟨X, hX⟩ : ∃ X : ByteArray, X = ⟨(textsB [⟨#[]⟩]).toArray⟩ := ⟨_, rfl⟩
  have HE : Hid (placeN c = 1 ∧ placeE c = 0 ∧ placeH c = headW 1 X) := by
    unfold placeN placeE placeH
    rw [if_pos h0, if_pos h0, if_pos h0, hX]; exact ⟨rfl, rfl, rfl⟩
  have hXs : X.size ≤ 1000000 := by rw [hX]; exact Nat.le_trans text0_size (by omega)
  have hv : c.val = .agg #[.int .i64 c.first, .int .i64 0, .int .i64 c.size, .bool c.torn] := by unfold Lc.val; rw [h0]; rfl
  rw [hv]
  refine (place_new c.first c.size c.torn X (headW 1 X) w hm ?_ ?_).mono ?_
  · intro w1 v h
    rw [hX]
    exact Text_any v [⟨#[]⟩] w1 h (by rw [room0]; omega)
  · intro w1 m
    exact headOf_any 1 X w1 m (by omega) hXs
  · rintro e w' ⟨rfl, g⟩
    unfold PlaceE
    rw [HE.out.1, HE.out.2.1, HE.out.2.2]
    exact ⟨rfl, g⟩
set_option maxRecDepth 100000 in
theorem place_full (f z : Nat) (tn : Bool) (w : World) (h1 : ¬ (tn = false ∧ z < 2048)) :
    Calls Tryz.prog 42 #[.agg #[.int .i64 f, .int .i64 999999999, .int .i64 z, .bool tn]] w fun e w' => e = .returned (.tuple #[.int .i64 0, .string ⟨#[]⟩, .int .i64 52]) ∧ w.grownBy w' none := by
  cases tn with
  | true =>
    clear h1
    go_enter Tryz.func42, Tryz.ntmps42
    go_wp2
    go_ret3
    exact ⟨rfl, World.grownBy_alloc _ _ _⟩
  | false =>
    have i2 : ¬ (z : Int) < 2048 := by have : ¬ z < 2048 := fun h => h1 ⟨rfl, h⟩; omega
    clear h1
    go_enter Tryz.func42, Tryz.ntmps42
    go_wp2
    go_ret3
    exact ⟨rfl, World.grownBy_alloc _ _ _⟩
theorem relOf {f : FuncId} {args : Array Value} {u : Value} {w0 w : World} (h : Calls Tryz.prog f args w fun e w' => e = .returned u ∧ w.grownBy w' none) (hI : w0.grownBy w none) :
    Calls Tryz.prog f args w fun e w' => ∃ x, e = .returned x ∧ x = u ∧ w0.grownBy w' none ∧ w.grownBy w' none :=
  h.mono fun e w' ⟨he, g⟩ => ⟨_, he, rfl, grow_none hI g, g⟩
set_option maxRecDepth 100000 in
set_option maxHeartbeats 1000000 in
theorem place_more (f l z : Nat) (tn : Bool) (X Hd : ByteArray) (w : World) (hm : Mv w) (h0 : ¬ l = 0) (hl : l < 999999999) (h1 : ¬ (tn = false ∧ z < 2048))
    (hn : ∀ (w1 : World) (v : Value) (h : RowAt w1 v [Value.int .i64 z]), Calls Tryz.prog 77 #[v] w1 fun e w' => e = .returned (.string X) ∧ w1.grownBy w' none)
    (hh : ∀ (w1 : World) (m : Mv w1), Calls Tryz.prog 44 #[.int .i64 2, .string X] w1 fun e w' => e = .returned (.string Hd) ∧ w1.grownBy w' none) :
    Calls Tryz.prog 42 #[.agg #[.int .i64 f, .int .i64 l, .int .i64 z, .bool tn]] w fun e w' => e = .returned (.tuple #[.int .i64 ((l : Int) + 1), .string Hd, .int .i64 0]) ∧ w.grownBy w' none := by
  have HT := Lib.hid hn
  have HH := Lib.hid hh
  have HM := Lib.hid hm
  have HB : Hid (Blk (w.alloc (.cells (#[.int .i64 f, .int .i64 l, .int .i64 z, .bool tn]) 70)) w.heap.size 70 [.int .i64 f, .int .i64 l, .int .i64 z, .bool tn]) := Blk.new w _ _
  have i0 : ((l : Int) == 0) = false := by
    have : ¬ (l : Int) = 0 := by omega
    simpa using this
  have i1 : ((l : Int) == 999999999) = false := by
    have : ¬ (l : Int) = 999999999 := by omega
    simpa using this
  have HW : Hid (IntKind.i64.wrap ((l : Int) + 1) = (l : Int) + 1) := by show _ = _; rw [IntKind.wrap_i64]; omega
  clear hn hh hm h0 hl
  cases tn with
  | true =>
    clear h1
    go_enter Tryz.func42, Tryz.ntmps42
    go_wp2_with fail
    refine wp_region_rel (fun W => (w.alloc (.cells (#[.int .i64 f, .int .i64 l, .int .i64 z, .bool true]) 70)).grownBy W none) (fun W W' => W.grownBy W' none) (by kernel_rfl) (by kernel_rfl) (fun W => grow_refl W none) (grow_drawn (grow_refl _ _)) ?_
    iterate 5 (refine wpRel_det ?_; apply Exists.intro; refine ⟨fun W hI => ?_, ?_⟩; focus (have c1 : W.cell? ⟨w.heap.size, 1, none⟩ = some (.int .i64 l) := (HB.out.keep hI).cell 1 (by simp); have c2 : W.cell? ⟨w.heap.size, 2, none⟩ = some (.int .i64 z) := (HB.out.keep hI).cell 2 (by simp); go_simp; exact ⟨rfl, grow_refl _ _⟩))
    refine wpRel_step (fun v W => RowAt W v [.int .i64 z]) (fun v w w' g h => h.kept g) (fun W hI => ?_) ?_
    · go_simp
      exact ⟨RowAt.lit W [.int .i64 z] _ 1 1 rfl, grow_none hI (World.grownBy_alloc _ _ _), World.grownBy_alloc _ _ _⟩
    refine wpRel_det ?_; apply Exists.intro; refine ⟨fun W hI => ?_, ?_⟩
    · go_simp
      intro v hv
      exact relOf (HT.out W v hv) hI
    refine wpRel_det ?_; apply Exists.intro; refine ⟨fun W hI => ?_, ?_⟩
    · go_simp
      exact relOf (HH.out W (HM.out.kept (grow_none (World.grownBy_alloc _ _ _) hI))) hI
    repeat (refine wpRel_det ?_; apply Exists.intro; refine ⟨fun W hI => ?_, ?_⟩; focus (go_simp; exact ⟨rfl, grow_refl _ _⟩))
    refine wpRel_nil ?_
    intro w3 hI
    go_simp
    intro va hva
    go_wp2
    go_ret3
    refine ⟨?_, grow_none (World.grownBy_alloc _ _ _) hI⟩
    show Ending.returned (.tuple #[.int .i64 (IntKind.i64.wrap ((l : Int) + 1)), .string Hd, .int .i64 0]) = _
    rw [HW.out]
  | false =>
    have i2 : ¬ (z : Int) < 2048 := by have : ¬ z < 2048 := fun h => h1 ⟨rfl, h⟩; omega
    clear h1
    go_enter Tryz.func42, Tryz.ntmps42
    go_wp2_with fail
    refine wp_region_rel (fun W => (w.alloc (.cells (#[.int .i64 f, .int .i64 l, .int .i64 z, .bool false]) 70)).grownBy W none) (fun W W' => W.grownBy W' none) (by kernel_rfl) (by kernel_rfl) (fun W => grow_refl W none) (grow_drawn (grow_refl _ _)) ?_
    iterate 5 (refine wpRel_det ?_; apply Exists.intro; refine ⟨fun W hI => ?_, ?_⟩; focus (have c1 : W.cell? ⟨w.heap.size, 1, none⟩ = some (.int .i64 l) := (HB.out.keep hI).cell 1 (by simp); have c2 : W.cell? ⟨w.heap.size, 2, none⟩ = some (.int .i64 z) := (HB.out.keep hI).cell 2 (by simp); go_simp; exact ⟨rfl, grow_refl _ _⟩))
    refine wpRel_step (fun v W => RowAt W v [.int .i64 z]) (fun v w w' g h => h.kept g) (fun W hI => ?_) ?_
    · go_simp
      exact ⟨RowAt.lit W [.int .i64 z] _ 1 1 rfl, grow_none hI (World.grownBy_alloc _ _ _), World.grownBy_alloc _ _ _⟩
    refine wpRel_det ?_; apply Exists.intro; refine ⟨fun W hI => ?_, ?_⟩
    · go_simp
      intro v hv
      exact relOf (HT.out W v hv) hI
    refine wpRel_det ?_; apply Exists.intro; refine ⟨fun W hI => ?_, ?_⟩
    · go_simp
      exact relOf (HH.out W (HM.out.kept (grow_none (World.grownBy_alloc _ _ _) hI))) hI
    repeat (refine wpRel_det ?_; apply Exists.intro; refine ⟨fun W hI => ?_, ?_⟩; focus (go_simp; exact ⟨rfl, grow_refl _ _⟩))
    refine wpRel_nil ?_
    intro w3 hI
    go_simp
    intro va hva
    go_wp2
    go_ret3
    refine ⟨?_, grow_none (World.grownBy_alloc _ _ _) hI⟩
    show Ending.returned (.tuple #[.int .i64 (IntKind.i64.wrap ((l : Int) + 1)), .string Hd, .int .i64 0]) = _
    rw [HW.out]
theorem place_any (c : Lc) (w : World) (hm : Mv w) (hl : c.last ≤ 999999999) (hz : c.size ≤ 1000000000) :
    Calls Tryz.prog 42 #[c.val] w (PlaceE c w) := by
  by_cases h0 : c.last = 0
  · exact place_none c w hm h0
  by_cases h1 : c.torn = false ∧ c.size < 2048
  · exact place_same c w hl hz h0 h1
  by_cases h2 : c.last = 999999999
  · have HE : Hid (placeN c = 0 ∧ placeE c = 52 ∧ placeH c = ⟨#[]⟩) := by
      unfold placeN placeE placeH
      simp only [if_neg h0, if_neg h1, if_pos h2]; exact ⟨trivial, trivial, trivial⟩
    have hv : c.val = .agg #[.int .i64 c.first, .int .i64 999999999, .int .i64 c.size, .bool c.torn] := by unfold Lc.val; rw [h2]; rfl
    rw [hv]
    refine (place_full c.first c.size c.torn w h1).mono ?_
    rintro e w' ⟨rfl, g⟩
    unfold PlaceE
    rw [HE.out.1, HE.out.2.1, HE.out.2.2]
    exact ⟨rfl, g⟩
  · obtain ⟨X, hX⟩ : ∃ X : ByteArray, X = ⟨(numsB [(c.size : Int)]).toArray⟩ := ⟨_, rfl⟩
    have HE : Hid (placeN c = c.last + 1 ∧ placeE c = 0 ∧ placeH c = headW 2 X) := by
      unfold placeN placeE placeH
      simp only [if_neg h0, if_neg h1, if_neg h2, hX]; exact ⟨trivial, trivial, trivial⟩
    have hXs : X.size ≤ 1000000 := by rw [hX]; exact Nat.le_trans (nums1_size _ (by omega)) (by omega)
    refine (place_more c.first c.last c.size c.torn X (headW 2 X) w hm h0 (by omega) h1 ?_ ?_).mono ?_
    · intro w1 v h
      rw [hX]
      exact Nums_any v [(c.size : Int)] w1 h (by intro n hn; rw [List.mem_singleton] at hn; subst hn; omega) (by simp)
    · intro w1 m
      exact headOf_any 2 X w1 m (by omega) hXs
    · rintro e w' ⟨rfl, g⟩
      unfold PlaceE
      rw [HE.out.1, HE.out.2.1, HE.out.2.2]
      exact ⟨rfl, g⟩
/-- Bytes were put into a segment. -/
def growC (c : Lc) (n s : Nat) : Lc := ⟨if c.first = 0 then n else c.first, n, (if n = c.last then c.size else 0) + s, if n = c.last then c.torn else false⟩
theorem LAt.c0 {w : World} {b db : Nat} {c : Lc} (h : LAt w b db c) : w.cell? ⟨b, 0, none⟩ = some (.int .i64 c.first) := Blk.cell h 0 (by simp)
theorem LAt.c1 {w : World} {b db : Nat} {c : Lc} (h : LAt w b db c) : w.cell? ⟨b, 1, none⟩ = some (.int .i64 c.last) := Blk.cell h 1 (by simp)
theorem LAt.c2 {w : World} {b db : Nat} {c : Lc} (h : LAt w b db c) : w.cell? ⟨b, 2, none⟩ = some (.int .i64 c.size) := Blk.cell h 2 (by simp)
theorem LAt.c3 {w : World} {b db : Nat} {c : Lc} (h : LAt w b db c) : w.cell? ⟨b, 3, none⟩ = some (.bool c.torn) := Blk.cell h 3 (by simp)
theorem LAt.c4 {w : World} {b db : Nat} {c : Lc} (h : LAt w b db c) : w.cell? ⟨b, 4, none⟩ = some (.pointer (some ⟨db, 0, none⟩)) := Blk.cell h 4 (by simp)
theorem LAt.fr {w : World} {b db : Nat} {c : Lc} (h : LAt w b db c) (i : Nat) : w.frozen? ⟨b, i, none⟩ = false := Blk.frozen h i
theorem LAt.s0 {w : World} {b db : Nat} {c : Lc} (h : LAt w b db c) (x : Nat) : LAt (w.setCell ⟨b, 0, none⟩ (.int .i64 x)) b db { c with first := x } := Blk.set_ h 0 _
theorem LAt.s1 {w : World} {b db : Nat} {c : Lc} (h : LAt w b db c) (x : Nat) : LAt (w.setCell ⟨b, 1, none⟩ (.int .i64 x)) b db { c with last := x } := Blk.set_ h 1 _
theorem LAt.s2 {w : World} {b db : Nat} {c : Lc} (h : LAt w b db c) (x : Nat) : LAt (w.setCell ⟨b, 2, none⟩ (.int .i64 x)) b db { c with size := x } := Blk.set_ h 2 _
theorem LAt.s3 {w : World} {b db : Nat} {c : Lc} (h : LAt w b db c) (x : Bool) : LAt (w.setCell ⟨b, 3, none⟩ (.bool x)) b db { c with torn := x } := Blk.set_ h 3 _
set_option maxRecDepth 100000 in
/-- The same segment, and not the first time. -/
theorem grow_same2 (b db : Nat) (c : Lc) (n s : Nat) (w : World) (h : LAt w b db c) (hn : n = c.last) (hf : ¬ c.first = 0) (hz : c.size + s ≤ 1000000000000) :
    Calls Tryz.prog 78 #[.pointer (some ⟨b, 0, none⟩), .int .i64 n, .int .i64 s] w fun e w' => e = .returned (.tuple #[]) ∧ LAt w' b db (growC c n s) ∧ w.grownBy w' (some b) := by
  have HE : Hid (growC c n s = { c with size := c.size + s }) := by show _ = _; unfold growC; rw [if_neg hf, if_pos hn, if_pos hn]; cases c; simp_all
  have c0 := h.c0
  have c1 := h.c1
  have c2 := h.c2
  have c3 := h.c3
  have f2 := h.fr 2
  have HA := Lib.hid h
  have hw : IntKind.i64.wrap ((c.size : Int) + (s : Int)) = (c.size : Int) + (s : Int) := by rw [IntKind.wrap_i64]; omega
  have n1 : ((n : Int) == (c.last : Int)) = true := by subst hn; simp
  have n0 : ((c.first : Int) == 0) = false := by
    have : ¬ (c.first : Int) = 0 := by omega
    simpa using this
  have n1' : ((c.last : Int) == (n : Int)) = true := by subst hn; simp
  rw [← hn] at c1
  clear h hn hf hz
  go_enter Tryz.func78, Tryz.ntmps78
  go_wp2
  go_end0
  refine ⟨rfl, ?_, ?_⟩
  · rw [HE.out]
    exact HA.out.s2 _
  · exact grow_set _ _ _
set_option maxRecDepth 100000 in
theorem grow_next (b db : Nat) (c : Lc) (n s : Nat) (w : World) (h : LAt w b db c) (hn : ¬ n = c.last) (hf : ¬ c.first = 0) (hz : s ≤ 1000000000000) :
    Calls Tryz.prog 78 #[.pointer (some ⟨b, 0, none⟩), .int .i64 n, .int .i64 s] w fun e w' => e = .returned (.tuple #[]) ∧ LAt w' b db (growC c n s) ∧ w.grownBy w' (some b) := by
  have HE : Hid (growC c n s = ⟨c.first, n, 0 + s, false⟩) := by show _ = _; unfold growC; rw [if_neg hf, if_neg hn, if_neg hn]
  have c0 := h.c0
  have c1 := h.c1
  have c2 := h.c2
  have c3 := h.c3
  have f0 := h.fr 0
  have f1 := h.fr 1
  have f2 := h.fr 2
  have f3 := h.fr 3
  have HA := Lib.hid h
  have hw : IntKind.i64.wrap (0 + (s : Int)) = (s : Int) := by rw [IntKind.wrap_i64]; omega
  have hw2 : IntKind.i64.wrap (s : Int) = (s : Int) := by rw [IntKind.wrap_i64]; omega
  have n1 : ((n : Int) == (c.last : Int)) = false := by
    have : ¬ (n : Int) = (c.last : Int) := by omega
    simpa using this
  have n0 : ((c.first : Int) == 0) = false := by
    have : ¬ (c.first : Int) = 0 := by omega
    simpa using this
  clear h hn hf hz
  go_enter Tryz.func78, Tryz.ntmps78
  go_wp2
  go_end0
  refine ⟨rfl, ?_, ?_⟩
  · rw [HE.out]
    rw [Nat.zero_add]
    exact (((HA.out.s1 n).s2 0).s3 false).s2 s
  · exact grow_same (grow_same (grow_same (grow_set _ _ _) (grow_set _ _ _)) (grow_set _ _ _)) (grow_set _ _ _)
set_option maxRecDepth 100000 in
theorem grow_first (b db : Nat) (c : Lc) (n s : Nat) (w : World) (h : LAt w b db c) (hn : ¬ n = c.last) (hf : c.first = 0) (hz : s ≤ 1000000000000) :
    Calls Tryz.prog 78 #[.pointer (some ⟨b, 0, none⟩), .int .i64 n, .int .i64 s] w fun e w' => e = .returned (.tuple #[]) ∧ LAt w' b db (growC c n s) ∧ w.grownBy w' (some b) := by
  have HE : Hid (growC c n s = ⟨n, n, 0 + s, false⟩) := by show _ = _; unfold growC; rw [if_pos hf, if_neg hn, if_neg hn]
  have c0 := h.c0
  have c1 := h.c1
  have c2 := h.c2
  have c3 := h.c3
  have f0 := h.fr 0
  have f1 := h.fr 1
  have f2 := h.fr 2
  have f3 := h.fr 3
  have HA := Lib.hid h
  have hw : IntKind.i64.wrap (0 + (s : Int)) = (s : Int) := by rw [IntKind.wrap_i64]; omega
  have hw2 : IntKind.i64.wrap (s : Int) = (s : Int) := by rw [IntKind.wrap_i64]; omega
  have n1 : ((n : Int) == (c.last : Int)) = false := by
    have : ¬ (n : Int) = (c.last : Int) := by omega
    simpa using this
  have n0 : ((c.first : Int) == 0) = true := by
    have : (c.first : Int) = 0 := by omega
    simpa using this
  clear h hn hf hz
  go_enter Tryz.func78, Tryz.ntmps78
  go_wp2
  go_end0
  refine ⟨rfl, ?_, ?_⟩
  · rw [HE.out]
    rw [Nat.zero_add]
    exact ((((HA.out.s1 n).s2 0).s3 false).s0 n).s2 s
  · exact grow_same (grow_same (grow_same (grow_same (grow_set _ _ _) (grow_set _ _ _)) (grow_set _ _ _)) (grow_set _ _ _)) (grow_set _ _ _)
/-- A log's numbers are in order. -/
def LcOk (c : Lc) : Prop := (c.first = 0 ↔ c.last = 0) ∧ c.first ≤ c.last ∧ c.last ≤ 999999999 ∧ c.size ≤ 1000000000
theorem grow_any (b db : Nat) (c : Lc) (n s : Nat) (w : World) (h : LAt w b db c) (hc : LcOk c) (hn : 1 ≤ n) (hz : s ≤ 100000000) :
    Calls Tryz.prog 78 #[.pointer (some ⟨b, 0, none⟩), .int .i64 n, .int .i64 s] w fun e w' => e = .returned (.tuple #[]) ∧ LAt w' b db (growC c n s) ∧ w.grownBy w' (some b) := by
  obtain ⟨h1, h2, h3, h4⟩ := hc
  by_cases e : n = c.last
  · exact grow_same2 b db c n s w h e (fun h0 => by have := h1.1 h0; omega) (by omega)
  · by_cases e0 : c.first = 0
    · exact grow_first b db c n s w h e e0 (by omega)
    · exact grow_next b db c n s w h e e0 (by omega)
end Go.Proofs.YtphljjgjpkdpmaaGreatDoor
