/- Stage 3: the document's Name; Hash. -/
import Derived.Test.YtednbfhjkanllaaDoorShH
namespace Go.Proofs.YtednbfhjkanllaaDoor
open Go.RowKit
set_option linter.unusedVariables false
set_option maxRecDepth 100000 in
set_option maxHeartbeats 2000000 in
theorem refName_any (s : ByteArray) (w : World) (hs : s.size ≤ 1000000) :
    Calls Tryd.prog 14 #[.string s] w fun e w' => e = .returned (.string ⟨(hexB s.data.toList).toArray⟩) ∧ w.grownBy w' none := by
  obtain ⟨i0, hi, hz0, hz1, hz2⟩ := info_parts Tryd.info03_uint8
  have hsi : (s.size : Int) ≤ 1000000 := by omega
  have hln : s.data.toList.length = s.size := by rw [Array.length_toList]; rfl
  have HLN := Lib.hid hln
  clear hln
  go_enter Tryd.func14, Tryd.ntmps14
  go_wp2
  go_loopw [4, 5] (fun v i wr => ∃ k : Nat, k ≤ s.size ∧ i = .int .i64 k ∧ wr.ownsRow 0 5 1 v (2 * k) ((hexB (s.data.toList.take k)).map c8) ∧ w.grownBy wr none ∧ NewBlk w v) (fun _ i _ => s.size - (intOf i).toNat)
  case atStart => exact ⟨0, Nat.zero_le _, rfl, by simpa [hexB] using own_empty w 5 1, World.grownBy_alloc _ _ _, newblk_at _ _ _ _ (Nat.le_refl _) _⟩
  case round =>
    obtain ⟨k, hk, rfl, ho, hg, hn⟩ := hrel
    by_cases hlt : k < s.size
    · have hki : (k : Int) < s.size := by omega
      have HSN := Lib.hid (hexB_snoc s.data.toList k (by rw [HLN.out]; exact hlt))
      rw [byte_get s k hlt] at HSN
      obtain ⟨y, hy⟩ : ∃ y, y = s[k] := ⟨_, rfl⟩
      have hix : ∀ W, (Instr.index 9 (.string s) (.int .i64 (k : Int))).run Tryd.prog W = .ok (.int .u8 (y.toNat : Int)) W := fun W => by
        rw [run_index_string (P := Tryd.prog) W 9 s .i64 k Tryd.underlying9]
        simp [hlt, hy]
      rw [← hy] at HSN
      obtain ⟨a, ha, hae, ha1⟩ := byte_hi y
      obtain ⟨b, hb, hbe, hb1, hb2⟩ := byte_lo y
      have hda := fun W => idx_dig a ha W
      have hdb := fun W => idx_dig b hb W
      have HN : Hid ([c8 (hexD a), c8 (hexD b)] = (hexP y).map c8) := by show _ = _; rw [hae, hbe]; rfl
      have hkb : k ≤ 1000000 := by omega
      have tb : (y.toNat : Int).tmod 16 = (b : Int) := by rw [Int.tmod_eq_emod_of_nonneg (by omega)]; exact hb1
      have wa : IntKind.u8.wrap (a : Int) = (a : Int) := by rw [IntKind.wrap_u8]; omega
      have wb : IntKind.u8.wrap (b : Int) = (b : Int) := by rw [IntKind.wrap_u8]; omega
      have gA : wr.grownBy (wr.drew.alloc (.cells #[c8 (hexD a), c8 (hexD b)] 5)) none := grow_drew _ (World.grownBy_alloc wr.drew _ none)
      have oA := own_keep ho gA
      have rA : RowAt (wr.drew.alloc (.cells #[c8 (hexD a), c8 (hexD b)] 5)) (.slice (some ⟨wr.heap.size, 0, none⟩) 2 2) [c8 (hexD a), c8 (hexD b)] := RowAt.lit wr.drew [c8 (hexD a), c8 (hexD b)] 5 2 2 rfl
      have GA : w.grownBy (wr.drew.alloc (.cells #[c8 (hexD a), c8 (hexD b)] 5)) none := grow_none hg (grow_drew _ (World.grownBy_alloc wr.drew _ none))
      clear hy hae hbe
      go_wp2
      go_region_law (((with_reducible show (if Region.wanted (Oper.mk _ (Op.call { callee := .builtin .append, args := _, argTypes := _ }) _ _ _ _) _ = true then _ else _)); refine step_append_row (.tmp 13) (.tmp 26) 44 (by with_reducible rfl) 5 i0 (.int .u8 0) 1 Tryd.underlying44 hi hz0 hz1 hz2 rfl _ _ _ rfl oA _ [c8 (hexD a), c8 (hexD b)] rfl rA (one_c8 [hexD a, hexD b]) (by show 2 * k + 2 ≤ 2^63-1; omega) (by show (2 * k + 2) * 1 ≤ _; omega) rfl ?_; intro v4 w4 o4 g4 m4))
      all_goals
        have X4 := grow_newblk GA hn g4
        have N4 := hn.moved GA.size m4
        rw [HN.out, ← List.map_append, ← HSN.out] at o4
        go_wp2
        go_roundw
        case rel => exact ⟨k + 1, by omega, by go_num, o4, X4, N4⟩
        case measure => simp [intOf]; omega
    · have hki : (s.size : Int) ≤ k := by omega
      have ho2 := ho
      rw [show s.data.toList.take k = s.data.toList from List.take_of_length_le (by rw [HLN.out]; omega)] at ho2
      have hconv := run_str_buf (P := Tryd.prog) wr Tryd.underlying44 Tryd.underlying5 Tryd.underlying9 ho2
      clear ho
      go_wp2
      go_ret
      exact ⟨rfl, hg⟩
/-- What a digit counts for. -/
def hv (c : UInt8) : Option Nat :=
  if 48 ≤ c.toNat ∧ c.toNat ≤ 57 then some (c.toNat - 48) else if 97 ≤ c.toNat ∧ c.toNat ≤ 102 then some (c.toNat - 87) else none
def hvI (c : UInt8) : Int := match hv c with | some n => (n : Int) | none => -1
theorem hv_lt {c : UInt8} {n : Nat} (h : hv c = some n) : n < 16 := by
  unfold hv at h
  split at h
  · injection h with h; omega
  · split at h
    · injection h with h; omega
    · cases h
theorem hvI_all : ∀ n : Fin 256, Lib.indexByte digL (UInt8.ofNat n.val) = hvI (UInt8.ofNat n.val) := by decide +kernel
theorem idx_byte (y : UInt8) : Lib.indexByte (ByteArray.data ⟨#[48, 49, 50, 51, 52, 53, 54, 55, 56, 57, 97, 98, 99, 100, 101, 102]⟩).toList ((y.toNat : Int)).toNat.toUInt8 = hvI y := by
  have h := hvI_all ⟨y.toNat, y.toNat_lt⟩
  simp only [UInt8.ofNat_toNat] at h
  rw [← h]
  congr 1
  simp
/-- The byte of the j-th pair of digits. -/
def pairOf (a b : UInt8) : Option UInt8 :=
  match hv a, hv b with
  | some x, some y => some (UInt8.ofNat (16 * x + y))
  | _, _ => none
theorem pairOf_1 {a b : UInt8} (h : hv a = none) : pairOf a b = none := by unfold pairOf; rw [h]
theorem pairOf_2 {a b : UInt8} (h : hv b = none) : pairOf a b = none := by unfold pairOf; rw [h]; split <;> simp_all
theorem pairOf_3 {a b : UInt8} {x y : Nat} (h : hv a = some x) (k : hv b = some y) : pairOf a b = some (UInt8.ofNat (16 * x + y)) := by unfold pairOf; rw [h, k]
def pairAt (s : ByteArray) (j : Nat) : Option UInt8 := pairOf (s.data.toList.getD (2 * j) 0) (s.data.toList.getD (2 * j + 1) 0)
def preH (s : ByteArray) : Nat → Option (List UInt8)
  | 0 => some []
  | k + 1 => match preH s k, pairAt s k with
    | some l, some b => some (l ++ [b])
    | _, _ => none
theorem preH_len (s : ByteArray) : ∀ (k : Nat) (l : List UInt8), preH s k = some l → l.length = k
  | 0, l, h => by rw [preH] at h; injection h with h; subst h; rfl
  | k + 1, l, h => by
    rw [preH] at h
    split at h
    · rename_i l' b h1 h2
      injection h with h
      rw [← h, List.length_append, preH_len s k l' h1]; rfl
    · cases h
theorem preH_none (s : ByteArray) (k : Nat) (h : preH s k = none) : ∀ m, preH s (k + m) = none
  | 0 => h
  | m + 1 => by rw [← Nat.add_assoc, preH, preH_none s k h m]
theorem preH_stop (s : ByteArray) (k n : Nat) (hk : k < n) (h : pairAt s k = none) : preH s n = none := by
  have h1 : preH s (k + 1) = none := by rw [preH, h]; split <;> simp_all
  have := preH_none s (k + 1) h1 (n - (k + 1))
  rwa [show k + 1 + (n - (k + 1)) = n by omega] at this
/-- What a name is of. -/
def hashS (s : ByteArray) : Option (List UInt8) := if s.size % 2 = 0 then preH s (s.size / 2) else none
def hashV (s : ByteArray) : Value := match hashS s with
  | some l => .tuple #[.string ⟨l.toArray⟩, .bool true]
  | none => .tuple #[.string ⟨#[]⟩, .bool false]
theorem or_hex : ∀ x y : Fin 16, bits .or .i64 ((x.val : Int) * 16) (y.val : Int) = ((16 * x.val + y.val : Nat) : Int) := by decide +kernel
theorem or_hex' {x y : Nat} (hx : x < 16) (hy : y < 16) : bits .or .i64 ((x : Int) * 16) (y : Int) = ((16 * x + y : Nat) : Int) := or_hex ⟨x, hx⟩ ⟨y, hy⟩
end Go.Proofs.YtednbfhjkanllaaDoor
