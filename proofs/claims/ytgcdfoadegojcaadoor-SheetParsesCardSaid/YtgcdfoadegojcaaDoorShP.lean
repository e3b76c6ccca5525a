/- Stage 3: the document's less: numbers by digits of 65536: pure facts. -/
import Derived.Test.YtgcdfoadegojcaaDoorShN
namespace Go.Proofs.YtgcdfoadegojcaaDoor
open Go.RowKit
set_option linter.unusedVariables false
/-- The number of digits, the lowest one ahead. -/
def dv : List Nat → Nat
  | [] => 0
  | x :: l => x + 65536 * dv l
theorem dv_set (y : Nat) : ∀ (l : List Nat) (k : Nat) (h : k < l.length), dv (l.set k (l.getD k 0 + y)) = dv l + y * 65536 ^ k
  | x :: l, 0, _ => by
    show (x + y) + 65536 * dv l = x + 65536 * dv l + y * 1
    omega
  | x :: l, k + 1, h => by
    have ih := dv_set y l k (by simpa using h)
    show x + 65536 * dv (l.set k (l.getD k 0 + y)) = (x + 65536 * dv l) + y * 65536 ^ (k + 1)
    rw [ih, Nat.mul_add, Nat.pow_succ, Nat.mul_left_comm 65536 y, Nat.mul_comm 65536 (65536 ^ k), Nat.add_assoc]
theorem dv_split (l : List Nat) : ∀ k, k ≤ l.length → dv l = dv (l.take k) + 65536 ^ k * dv (l.drop k)
  | 0, _ => by simp [dv]
  | k + 1, hk => by
    cases l with
    | nil => simp at hk
    | cons x l =>
      have ih := dv_split l k (by simpa using hk)
      show x + 65536 * dv l = (x + 65536 * dv (l.take k)) + 65536 ^ (k + 1) * dv (l.drop k)
      rw [ih, Nat.mul_add, Nat.pow_succ, Nat.mul_comm (65536 ^ k) 65536, Nat.mul_assoc]
      omega
theorem dv_lt : ∀ (l : List Nat), (∀ x ∈ l, x < 65536) → dv l < 65536 ^ l.length
  | [], _ => by simp [dv]
  | x :: l, h => by
    have ih := dv_lt l (fun y hy => h y (List.mem_cons_of_mem _ hy))
    have hx := h x (List.mem_cons_self ..)
    rw [List.length_cons, Nat.pow_succ]
    show x + 65536 * dv l < _
    omega
def sumTo (f : Nat → Nat) : Nat → Nat
  | 0 => 0
  | n + 1 => sumTo f n + f n
theorem sumTo_mono {f g : Nat → Nat} : ∀ n, (∀ i, i < n → f i ≤ g i) → sumTo f n ≤ sumTo g n
  | 0, _ => Nat.le_refl _
  | n + 1, h => Nat.add_le_add (sumTo_mono n fun i hi => h i (by omega)) (h n (by omega))
/-- The parts of x. -/
def oP (x i : Nat) : Nat := if i = 0 then x % 65536 else if i = 1 then x / 65536 % 65536 else x / 4294967296
def tP (x i j k : Nat) : Nat := oP x i * oP x j * oP x k * 65536 ^ (i + j + k)
def t3 (x i j k : Nat) : Nat := sumTo (tP x i j) k
def t2 (x i j : Nat) : Nat := sumTo (fun j => t3 x i j 3) j
def t1 (x i : Nat) : Nat := sumTo (fun i => t2 x i 3) i
/-- x times x times x. -/
def cubeV (x : Nat) : Nat := t1 x 3
theorem oP_lt {x : Nat} (hx : x < 68719476736) (i : Nat) : oP x i ≤ 65535 := by
  unfold oP
  split
  · omega
  · split
    · omega
    · omega
theorem tP_le {x : Nat} (hx : x < 68719476736) (i j k : Nat) : tP x i j k ≤ 65535 * 65535 * 65535 * 65536 ^ (i + j + k) :=
  Nat.mul_le_mul_right _ (Nat.mul_le_mul (Nat.mul_le_mul (oP_lt hx i) (oP_lt hx j)) (oP_lt hx k))
theorem cubeV_lt {x : Nat} (hx : x < 68719476736) : cubeV x < 65536 ^ 9 := by
  have h1 : cubeV x ≤ sumTo (fun i => sumTo (fun j => sumTo (fun k => 65535 * 65535 * 65535 * 65536 ^ (i + j + k)) 3) 3) 3 :=
    sumTo_mono 3 fun i _ => sumTo_mono 3 fun j _ => sumTo_mono 3 fun k _ => tP_le hx i j k
  exact Nat.lt_of_le_of_lt h1 (by decide +kernel)
def lessB (x p : Nat) : Bool := decide (cubeV x / 65536 ^ 6 < p) || (decide (cubeV x / 65536 ^ 6 = p) && decide (cubeV x % 65536 ^ 6 = 0))
theorem dv_zero_iff : ∀ (l : List Nat), dv l = 0 ↔ l.sum = 0
  | [] => by simp [dv]
  | x :: l => by
    have ih := dv_zero_iff l
    show x + 65536 * dv l = 0 ↔ _
    rw [List.sum_cons]
    omega
/-- Digits at the end: what is above the sixth, and whether there is more. -/
theorem dv_parts {l : List Nat} {V : Nat} (hl : l.length = 12) (hv : dv l = V) (hd : ∀ j, j < 11 → l.getD j 0 < 65536) : dv (l.drop 6) = V / 65536 ^ 6 ∧ ((l.take 6).sum = 0 ↔ V % 65536 ^ 6 = 0) := by
  have hs := dv_split l 6 (by omega)
  have ht := dv_lt (l.take 6) (fun x hx => by
    obtain ⟨j, hj, rfl⟩ := List.mem_iff_getElem.1 hx
    rw [List.length_take] at hj
    rw [List.getElem_take]
    have := hd j (by omega)
    rwa [List.getD, List.getElem?_eq_getElem (by omega)] at this)
  rw [List.length_take, hl, show min 6 12 = 6 from rfl] at ht
  rw [← dv_zero_iff]
  rw [hv] at hs
  have h6 : (65536 ^ 6 : Nat) = 79228162514264337593543950336 := by decide
  rw [h6] at hs ht ⊢
  omega
/-- The greedy search for the root. -/
def cuR (p : Nat) : Nat → Nat
  | 0 => 0
  | k + 1 => if lessB (cuR p k + 2 ^ (34 - k)) p then cuR p k + 2 ^ (34 - k) else cuR p k
theorem cuR_lt (p : Nat) : ∀ k, k ≤ 35 → cuR p k + 2 ^ (35 - k) ≤ 2 ^ 35
  | 0, _ => by show 0 + _ ≤ _; omega
  | k + 1, hk => by
    have ih := cuR_lt p k (by omega)
    have e : 2 ^ (35 - k) = 2 * 2 ^ (34 - k) := by rw [show 35 - k = (34 - k) + 1 by omega, Nat.pow_succ]; omega
    rw [show 35 - (k + 1) = 34 - k by omega]
    unfold cuR
    split <;> omega
def cuW (p : Nat) : Nat := cuR p 35 % 4294967296
theorem cube_all : ∀ i, i < 64 → cuW (pr i) = cubesL.getD i 0 := by decide +kernel
theorem cuR_yes {p k r B x : Nat} (hr : r = cuR p k) (hB : B = 2 ^ (34 - k)) (hx : x = r + B) (h : lessB x p = true) : x = cuR p (k + 1) := by
  subst hr hB hx
  conv => rhs; unfold cuR
  rw [if_pos h]
theorem cuR_no {p k r B x : Nat} (hr : r = cuR p k) (hB : B = 2 ^ (34 - k)) (hx : x = r + B) (h : lessB x p = false) : r = cuR p (k + 1) := by
  subst hr hB hx
  conv => rhs; unfold cuR
  rw [if_neg (by rw [h]; simp)]
end Go.Proofs.YtgcdfoadegojcaaDoor
