/- Several texts in one: WalB DkG DkH DkRa DkOa. -/
import Derived.Test.YtphljjgjpkdpmaaGreatDoorW6
import Derived.Test.YtphljjgjpkdpmaaGreatDoorW7
import Derived.Test.YtphljjgjpkdpmaaGreatDoorW2
import Derived.Maps.RangeWalk
import Derived.Sort.KeysCollected
import Derived.Sort.OwnSorted
/- Several texts in one: WlI WlJ WlK WlL WlM WlN WlO WlP. -/
namespace Go.Proofs.YtphljjgjpkdpmaaGreatDoor
open Go.RowKit
set_option linter.unusedVariables false
/-- A log in block lb, its drive in block db, apart from one another. -/
structure WAt (w : World) (lb db mb n : Nat) (G : ByteArray → Option Nat) (c : Lc) (d : Dk) : Prop where
  log : LAt w lb db c
  dr : DAt w db mb n G d
  far : ¬ DS db mb G lb
/-- Behind a call the log counts c', the drive is d', and only their own blocks are other ones. -/
def WEnd (lb db mb : Nat) (G : ByteArray → Option Nat) (n' : Nat) (c' : Lc) (d' : Dk) (w w' : World) : Prop :=
  ∃ G', WAt w' lb db mb n' G' c' d' ∧ Chg (fun i => i = lb ∨ DS db mb G i) w w' ∧ ∀ s g, G' s = some g → (∃ t, G t = some g) ∨ w.heap.size ≤ g
section
variable {w w1 w' : World} {lb db mb n n' n1 : Nat} {G : ByteArray → Option Nat} {c c' c1 : Lc} {d d' d1 : Dk}
theorem WAt.lt (h : WAt w lb db mb n G c d) : lb < w.heap.size := Blk.lt h.log
theorem WAt.keep (h : WAt w lb db mb n G c d) (g : w.grownBy w' none) : WAt w' lb db mb n G c d := ⟨Blk.keep h.log g, h.dr.keep g, h.far⟩
theorem WEnd.same (h : WAt w lb db mb n G c d) (g : w.grownBy w' none) : WEnd lb db mb G n c d w w' := ⟨G, h.keep g, Chg.of_none g, fun s x hx => .inl ⟨s, hx⟩⟩
/-- A call of the drive's. -/
theorem WEnd.drive (h : WAt w lb db mb n G c d) (k : DEnd db mb G n' d' w w') : WEnd lb db mb G n' c d' w w' := by
  obtain ⟨G', h1, h2, h3⟩ := k
  refine ⟨G', ⟨h2.blk h.log h.far, h1, ?_⟩, ⟨h2.os, h2.tape, h2.output, h2.size, fun i hi hn => h2.block i hi (fun x => hn (.inr x))⟩, h3⟩
  rintro (x | x | ⟨s, x⟩)
  · exact h.far (.inl x)
  · exact h.far (.inr (.inl x))
  · rcases h3 s lb x with y | y
    · exact h.far (.inr (.inr y))
    · have := h.lt; omega
/-- The log's own block is written. -/
theorem WEnd.own (h : WAt w lb db mb n G c d) (k : LAt w' lb db c') (g : w.grownBy w' (some lb)) : WEnd lb db mb G n c' d w w' :=
  ⟨G, ⟨k, h.dr.chg (Chg.of_row (S := fun i => i = lb) g (fun i hi _ => by injection hi with hi; exact hi.symm)) (fun i hi e => h.far (e ▸ hi)), h.far⟩, Chg.of_row g (fun i hi _ => .inl (by injection hi with hi; exact hi.symm)), fun s x hx => .inl ⟨s, hx⟩⟩
theorem WEnd.more (h : WEnd lb db mb G n1 c1 d1 w w1) (k : ∀ G', WAt w1 lb db mb n1 G' c1 d1 → WEnd lb db mb G' n' c' d' w1 w') : WEnd lb db mb G n' c' d' w w' := by
  obtain ⟨G1, h1, h2, h3⟩ := h
  obtain ⟨G2, k1, k2, k3⟩ := k G1 h1
  refine ⟨G2, k1, h2.trans k2 (fun i hi hs => ?_), fun s x hx => ?_⟩
  · rcases hs with y | y | y | ⟨t, y⟩
    · exact .inl y
    · exact .inr (.inl y)
    · exact .inr (.inr (.inl y))
    · rcases h3 t i y with z | z
      · exact .inr (.inr (.inr z))
      · omega
  · rcases k3 s x hx with ⟨t, y⟩ | y
    · exact h3 t x y
    · exact .inr (Nat.le_trans h2.size y)
theorem WEnd.after {G1 : ByteArray → Option Nat} (h2 : Chg (fun i => i = lb ∨ DS db mb G i) w w1) (h3 : ∀ s g, G1 s = some g → (∃ t, G t = some g) ∨ w.heap.size ≤ g) (k : WEnd lb db mb G1 n' c' d' w1 w') : WEnd lb db mb G n' c' d' w w' := by
  obtain ⟨G2, k1, k2, k3⟩ := k
  refine ⟨G2, k1, h2.trans k2 (fun i hi hs => ?_), fun s x hx => ?_⟩
  · rcases hs with y | y | y | ⟨t, y⟩
    · exact .inl y
    · exact .inr (.inl y)
    · exact .inr (.inr (.inl y))
    · rcases h3 t i y with z | z
      · exact .inr (.inr (.inr z))
      · omega
  · rcases k3 s x hx with ⟨t, y⟩ | y
    · exact h3 t x y
    · exact .inr (Nat.le_trans h2.size y)
theorem WEnd.back (h : WEnd lb db mb G n1 c1 d1 w w1) (g : w1.grownBy w' none) : WEnd lb db mb G n1 c1 d1 w w' := h.more fun G' k => WEnd.same k g
theorem WEnd.front (h : WAt w lb db mb n G c d) (g : w.grownBy w1 none) (k : WEnd lb db mb G n' c' d' w1 w') : WEnd lb db mb G n' c' d' w w' := by
  obtain ⟨G', h1, h2, h3⟩ := k
  refine ⟨G', h1, (Chg.of_none g (S := fun i => i = lb ∨ DS db mb G i)).trans h2 (fun _ _ h => h), fun s x hx => ?_⟩
  rcases h3 s x hx with y | y
  · exact .inl y
  · exact .inr (Nat.le_trans g.size y)
end
/-- The variables that are read, all below block B. -/
structure Va (B : Nat) (w : World) : Prop where
  nv : Nv w
  mv : Mv w
  lo : ∀ s k, (s = "internal/strconv.uint64pow10" ∨ s = "strconv.ErrSyntax" ∨ s = "strconv.ErrRange") → Tryz.prog.globalNamed s = some k → k < B
  mlo : 3 < B
theorem var_below {P : Program} {w w' : World} {n : String} {cs : Array Value} {B : Nat} (h : w.var? P n = some cs) (hl : ∀ k, P.globalNamed n = some k → k < B) (g : Below B w w') : w'.var? P n = some cs := by
  unfold World.var? at h ⊢
  cases hg : P.globalNamed n with
  | none => rw [hg] at h; cases h
  | some k =>
    rw [hg] at h
    simp only [Option.bind_some] at h ⊢
    rw [g.block k (hl k hg)]
    exact h
theorem Va.below {B : Nat} {w w' : World} (h : Va B w) (g : Below B w w') : Va B w' :=
  ⟨⟨var_below h.nv.tab (fun k hk => h.lo _ k (.inl rfl) hk) g, let ⟨tp, p, e⟩ := h.nv.syn; ⟨tp, p, var_below e (fun k hk => h.lo _ k (.inr (.inl rfl)) hk) g⟩, let ⟨tp, p, e⟩ := h.nv.rng; ⟨tp, p, var_below e (fun k hk => h.lo _ k (.inr (.inr rfl)) hk) g⟩⟩,
    fun j hj => by rw [← h.mv j hj]; exact World.cell?_of_block (g.block _ h.mlo), h.lo, h.mlo⟩
theorem Va.keep {B : Nat} {w w' : World} (h : Va B w) (g : w.grownBy w' none) : Va B w' := ⟨h.nv.kept g, h.mv.kept g, h.lo, h.mlo⟩
/-- What a log and its drive own lies at B or above. -/
def Lo (B lb db mb : Nat) (G : ByteArray → Option Nat) : Prop := ∀ i, (i = lb ∨ DS db mb G i) → B ≤ i
theorem Va.over {B : Nat} {w w' : World} {lb db mb n' : Nat} {G : ByteArray → Option Nat} {c' : Lc} {d' : Dk} (h : Va B w) (hl : Lo B lb db mb G) (hB : B ≤ w.heap.size) (k : WEnd lb db mb G n' c' d' w w') : Va B w' := by
  obtain ⟨G', _, k2, _⟩ := k
  exact h.below (k2.below hB hl)
def writeC (d : Dk) (s x : ByteArray) : Int := if appC d s x ≠ 0 then appC d s x else stepOfC (appD d s x) s
def writeD (d : Dk) (s x : ByteArray) : Dk := if appC d s x ≠ 0 then appD d s x else syncD (appD d s x) s
def writeL (c : Lc) (d : Dk) (k : Nat) (x : ByteArray) : Lc := if writeC d (nameW k) x = 0 then growC c k x.size else c
theorem nameW_le {n : Nat} (h : n ≤ 1000000000) : (nameW n).size ≤ 14 := by
  have := dec_len (n := n) (by omega)
  rw [nameW_size]; omega
theorem steps_app (d : Dk) (s x : ByteArray) : (appD d s x).steps ≤ d.steps + 1 := by
  unfold appD stepD
  repeat' split
  all_goals (try simp only)
  all_goals omega
set_option maxRecDepth 100000 in
set_option maxHeartbeats 1000000 in
theorem write_any (lb db mb n : Nat) (G : ByteArray → Option Nat) (c : Lc) (d : Dk) (k : Nat) (x : ByteArray) (w : World) (h : WAt w lb db mb n G c d) (B : Nat) (hv : Va B w) (hlo : Lo B lb db mb G) (hB : B ≤ w.heap.size) (hc : LcOk c)
    (hk : 1 ≤ k) (hk2 : k ≤ 1000000000) (hx : x.size ≤ 100000000) (hst : d.steps + 1 < 1000000) (hn : n < 1000000) :
    Calls Tryz.prog 43 #[.pointer (some ⟨lb, 0, none⟩), .int .i64 k, .string x] w fun e w' => e = .returned (.int .i64 (writeC d (nameW k) x)) ∧ ∃ n', n' ≤ n + 1 ∧ WEnd lb db mb G n' (writeL c d k x) (writeD d (nameW k) x) w w' := by
  have hmx : maxLen = 9223372036854775807 := by decide
  have hsz := nameW_le hk2
  obtain ⟨s, hs⟩ : ∃ s, s = nameW k := ⟨_, rfl⟩
  have HV := Lib.hid hv
  have HLO := Lib.hid hlo
  have HBB := Lib.hid hB
  have HN : Hid (∀ w2 : World, Nv w2 → Calls Tryz.prog 47 #[.int .i64 (k : Int)] w2 fun e w' => e = .returned (.string s) ∧ w2.grownBy w' none) := by
    intro w2 g
    rw [hs]
    exact nameOf_any k w2 hk2 g
  have HL : Hid (writeL c d k x = if writeC d s x = 0 then growC c k x.size else c) := by show _ = _; rw [hs]; rfl
  rw [← hs] at hsz ⊢
  have HA := Lib.hid fun (w2 : World) (h2 : DAt w2 db mb n G d) => Append_any db mb n G d s x w2 h2 (by omega) (by omega) (by omega) hn
  have hst2 := steps_app d s x
  have HW := Lib.hid h
  have c4 := h.log.c4
  by_cases ha : appC d s x = 0
  · have hsn : s.size ≤ maxLen := by omega
    have HS := Lib.hid fun (G' : ByteArray → Option Nat) (n' : Nat) (w2 : World) (h2 : DAt w2 db mb n' G' (appD d s x)) => Sync_any db mb n' G' (appD d s x) s w2 h2 hsn (by omega)
    have hx2 : x.size ≤ 100000000 := hx
    by_cases hy : stepOfC (appD d s x) s = 0
    · have HE : Hid (writeC d s x = stepOfC (appD d s x) s ∧ writeD d s x = syncD (appD d s x) s) := by
        unfold writeC writeD
        rw [if_neg (fun h => h ha), if_neg (fun h => h ha)]; exact ⟨rfl, rfl⟩
      have HL2 : Hid (writeL c d k x = growC c k x.size) := by show _ = _; rw [HL.out, if_pos (by rw [HE.out.1]; exact hy)]
      rw [HE.out.1, HE.out.2, HL2.out]
      rw [ha] at HA
      rw [hy] at HS ⊢
      generalize syncD (appD d s x) s = SD at *
      have HC := Lib.hid hc
      have HK := Lib.hid hk
      have HX := Lib.hid hx
      generalize appD d s x = AD at *
      clear h hv hlo hB hc hk hk2 hx hst hn hs hst2 HL HE HL2 ha hx2 hy
      go_enter Tryz.func43, Tryz.ntmps43
      go_wp2_with fail
      refine wp_region_tails 7 _ _ (fun W => w.grownBy W none) (fun W W' => W.grownBy W' none) (by simp only [List.take_succ_cons, List.take_zero]; exact rfl) (by simp only [List.drop_succ_cons, List.drop_zero]; exact rfl) (by kernel_rfl) (by kernel_rfl) (by kernel_rfl) (fun W => grow_refl W none) (grow_drawn (grow_refl _ _)) ?_
      iterate 5 (refine wpRel_det ?_; apply Exists.intro; refine ⟨fun W hI => ?_, ?_⟩; focus (have c4 := (HW.out.keep hI).log.c4; go_simp; first | exact ⟨rfl, grow_refl _ _⟩ | exact ⟨rfl, hI, grow_refl _ _⟩))
      refine wpRel_det ?_; apply Exists.intro; refine ⟨fun W hI => ?_, ?_⟩
      · go_simp
        exact relOf (HN.out W (HV.out.keep hI).nv) hI
      iterate 1 (refine wpRel_det ?_; apply Exists.intro; refine ⟨fun W hI => ?_, ?_⟩; focus (go_simp; first | exact ⟨rfl, grow_refl _ _⟩ | exact ⟨rfl, hI, grow_refl _ _⟩))
      refine wpRel_nil ?_
      intro w3 hI3
      go_simp
      have h3 := HW.out.keep hI3
      go_wp2_with fail
      refine (HA.out w3 h3.dr).mono ?_
      rintro e w4 ⟨rfl, n', hn', hD⟩
      have hE := WEnd.front HW.out hI3 (WEnd.drive h3 hD)
      have V4 := Lib.hid (HV.out.over HLO.out HBB.out hE)
      obtain ⟨G4, h4, k4, f4⟩ := hE
      have H4 := Lib.hid h4
      have K4 := Lib.hid k4
      have F4 := Lib.hid f4
      clear h4 k4 f4 hD h3
      go_wp2_with fail
      refine wp_region_tails 6 _ _ (fun W => w4.grownBy W none) (fun W W' => W.grownBy W' none) (by simp only [List.take_succ_cons, List.take_zero]; exact rfl) (by simp only [List.drop_succ_cons, List.drop_zero]; exact rfl) (by kernel_rfl) (by kernel_rfl) (by kernel_rfl) (fun W => grow_refl W none) (grow_drawn (grow_refl _ _)) ?_
      iterate 5 (refine wpRel_det ?_; apply Exists.intro; refine ⟨fun W hI => ?_, ?_⟩; focus (have c4 := (H4.out.keep hI).log.c4; go_simp; first | exact ⟨rfl, grow_refl _ _⟩ | exact ⟨rfl, hI, grow_refl _ _⟩))
      refine wpRel_det ?_; apply Exists.intro; refine ⟨fun W hI => ?_, ?_⟩
      · go_simp
        exact relOf (HN.out W (V4.out.keep hI).nv) hI
      refine wpRel_nil ?_
      intro w5 hI5
      go_simp
      have h5 := H4.out.keep hI5
      go_wp2_with fail
      refine (HS.out G4 n' w5 h5.dr).mono ?_
      rintro e w6 ⟨rfl, hD6⟩
      obtain ⟨G6, h6, k6, f6⟩ := WEnd.after K4.out F4.out (WEnd.front H4.out hI5 (WEnd.drive h5 hD6))
      have H6 := Lib.hid h6
      have K6 := Lib.hid k6
      have F6 := Lib.hid f6
      clear h6 k6 f6 hD6 h5
      go_wp2_with fail
      refine (grow_any lb db c k x.size w6 H6.out.log HC.out HK.out HX.out).mono ?_
      rintro e w7 ⟨rfl, l7, g7⟩
      go_wp2
      go_ret
      exact ⟨rfl, n', hn', WEnd.after K6.out F6.out (WEnd.own H6.out l7 g7)⟩
    · have HE : Hid (writeC d s x = stepOfC (appD d s x) s ∧ writeD d s x = syncD (appD d s x) s) := by
        unfold writeC writeD
        rw [if_neg (fun h => h ha), if_neg (fun h => h ha)]; exact ⟨rfl, rfl⟩
      have HL2 : Hid (writeL c d k x = c) := by show _ = _; rw [HL.out, if_neg (by rw [HE.out.1]; exact hy)]
      have hy2 : (stepOfC (appD d s x) s == 0) = false := by simpa using hy
      rw [HE.out.1, HE.out.2, HL2.out]
      rw [ha] at HA
      generalize syncD (appD d s x) s = SD at *
      generalize stepOfC (appD d s x) s = SC at *
      generalize appD d s x = AD at *
      clear h hv hlo hB hc hk hk2 hx hst hn hs hst2 HL HE HL2 ha hx2
      go_enter Tryz.func43, Tryz.ntmps43
      go_wp2_with fail
      refine wp_region_tails 7 _ _ (fun W => w.grownBy W none) (fun W W' => W.grownBy W' none) (by simp only [List.take_succ_cons, List.take_zero]; exact rfl) (by simp only [List.drop_succ_cons, List.drop_zero]; exact rfl) (by kernel_rfl) (by kernel_rfl) (by kernel_rfl) (fun W => grow_refl W none) (grow_drawn (grow_refl _ _)) ?_
      iterate 5 (refine wpRel_det ?_; apply Exists.intro; refine ⟨fun W hI => ?_, ?_⟩; focus (have c4 := (HW.out.keep hI).log.c4; go_simp; first | exact ⟨rfl, grow_refl _ _⟩ | exact ⟨rfl, hI, grow_refl _ _⟩))
      refine wpRel_det ?_; apply Exists.intro; refine ⟨fun W hI => ?_, ?_⟩
      · go_simp
        exact relOf (HN.out W (HV.out.keep hI).nv) hI
      iterate 1 (refine wpRel_det ?_; apply Exists.intro; refine ⟨fun W hI => ?_, ?_⟩; focus (go_simp; first | exact ⟨rfl, grow_refl _ _⟩ | exact ⟨rfl, hI, grow_refl _ _⟩))
      refine wpRel_nil ?_
      intro w3 hI3
      go_simp
      have h3 := HW.out.keep hI3
      go_wp2_with fail
      refine (HA.out w3 h3.dr).mono ?_
      rintro e w4 ⟨rfl, n', hn', hD⟩
      have hE := WEnd.front HW.out hI3 (WEnd.drive h3 hD)
      have V4 := Lib.hid (HV.out.over HLO.out HBB.out hE)
      obtain ⟨G4, h4, k4, f4⟩ := hE
      have H4 := Lib.hid h4
      have K4 := Lib.hid k4
      have F4 := Lib.hid f4
      clear h4 k4 f4 hD h3
      go_wp2_with fail
      refine wp_region_tails 6 _ _ (fun W => w4.grownBy W none) (fun W W' => W.grownBy W' none) (by simp only [List.take_succ_cons, List.take_zero]; exact rfl) (by simp only [List.drop_succ_cons, List.drop_zero]; exact rfl) (by kernel_rfl) (by kernel_rfl) (by kernel_rfl) (fun W => grow_refl W none) (grow_drawn (grow_refl _ _)) ?_
      iterate 5 (refine wpRel_det ?_; apply Exists.intro; refine ⟨fun W hI => ?_, ?_⟩; focus (have c4 := (H4.out.keep hI).log.c4; go_simp; first | exact ⟨rfl, grow_refl _ _⟩ | exact ⟨rfl, hI, grow_refl _ _⟩))
      refine wpRel_det ?_; apply Exists.intro; refine ⟨fun W hI => ?_, ?_⟩
      · go_simp
        exact relOf (HN.out W (V4.out.keep hI).nv) hI
      refine wpRel_nil ?_
      intro w5 hI5
      go_simp
      have h5 := H4.out.keep hI5
      go_wp2_with fail
      refine (HS.out G4 n' w5 h5.dr).mono ?_
      rintro e w6 ⟨rfl, hD6⟩
      go_wp2
      go_ret
      exact ⟨rfl, n', hn', WEnd.after K4.out F4.out (WEnd.front H4.out hI5 (WEnd.drive h5 hD6))⟩
  · have HE : Hid (writeC d s x = appC d s x ∧ writeD d s x = appD d s x) := by
      unfold writeC writeD
      rw [if_pos ha, if_pos ha]; exact ⟨rfl, rfl⟩
    have HL2 : Hid (writeL c d k x = c) := by show _ = _; rw [HL.out, if_neg (by rw [HE.out.1]; exact ha)]
    have ha2 : (appC d s x == 0) = false := by simpa using ha
    rw [HE.out.1, HE.out.2, HL2.out]
    generalize appC d s x = AC at *
    generalize appD d s x = AD at *
    clear h hv hlo hB hc hk hk2 hx hst hn hs hst2 HL HE HL2
    go_enter Tryz.func43, Tryz.ntmps43
    go_wp2_with fail
    refine wp_region_tails 7 _ _ (fun W => w.grownBy W none) (fun W W' => W.grownBy W' none) (by simp only [List.take_succ_cons, List.take_zero]; exact rfl) (by simp only [List.drop_succ_cons, List.drop_zero]; exact rfl) (by kernel_rfl) (by kernel_rfl) (by kernel_rfl) (fun W => grow_refl W none) (grow_drawn (grow_refl _ _)) ?_
    iterate 5 (refine wpRel_det ?_; apply Exists.intro; refine ⟨fun W hI => ?_, ?_⟩; focus (have c4 := (HW.out.keep hI).log.c4; go_simp; first | exact ⟨rfl, grow_refl _ _⟩ | exact ⟨rfl, hI, grow_refl _ _⟩))
    refine wpRel_det ?_; apply Exists.intro; refine ⟨fun W hI => ?_, ?_⟩
    · go_simp
      exact relOf (HN.out W (HV.out.keep hI).nv) hI
    iterate 1 (refine wpRel_det ?_; apply Exists.intro; refine ⟨fun W hI => ?_, ?_⟩; focus (go_simp; first | exact ⟨rfl, grow_refl _ _⟩ | exact ⟨rfl, hI, grow_refl _ _⟩))
    refine wpRel_nil ?_
    intro w3 hI3
    go_simp
    have h3 := HW.out.keep hI3
    go_wp2_with fail
    refine (HA.out w3 h3.dr).mono ?_
    rintro e w4 ⟨rfl, n', hn', hD⟩
    go_wp2
    go_ret
    exact ⟨rfl, n', hn', WEnd.front HW.out hI3 (WEnd.drive h3 hD)⟩
/-- May these records be put at one time? -/
def sealOk (l : List ByteArray) : Prop := (∀ s ∈ l, s.size ≤ 8192) ∧ (framesB l).length ≤ 65536
set_option maxRecDepth 100000 in
theorem sealed_long (v : Value) (l : List ByteArray) (w : World) (hr : RowAt w v (l.map Value.string)) (hl : l.length ≤ 8192) (hb : ∀ s ∈ l, s.size ≤ 1000000000) (hs : ∃ s ∈ l, 8192 < s.size) :
    Calls Tryz.prog 41 #[v] w fun e w' => e = .returned (.tuple #[.string ⟨#[]⟩, .int .i64 4]) ∧ w.grownBy w' none := by
  obtain ⟨a, c, rfl⟩ := hr.len
  rw [List.length_map] at hr ⊢
  have hli : (l.length : Int) ≤ 8192 := by omega
  have HS := Lib.hid hs
  have HB := Lib.hid hb
  clear hs hb
  go_enter Tryz.func41, Tryz.ntmps41
  go_wp2
  go_loop [10] (fun i => ∃ k : Nat, k ≤ l.length ∧ i = .int .i64 k ∧ ∀ s ∈ l.take k, s.size ≤ 8192) (fun i => l.length - (intOf i).toNat)
  case atStart => exact ⟨0, Nat.zero_le _, rfl, by simp⟩
  case round =>
    obtain ⟨k, hk, rfl, hall⟩ := hrel
    have HA := Lib.hid hall
    clear hall
    by_cases hlt : k < l.length
    · obtain ⟨bb, off, rfl, hcell⟩ := row_str hr hlt
      have hsz := HB.out l[k] (List.getElem_mem hlt)
      have hki : (k : Int) < l.length := by omega
      by_cases hbig : 8192 < l[k].size
      · have h1 : decide ((8192 : Int) < l[k].size) = true := decide_eq_true (by omega)
        clear hbig
        go_wp2
        go_ret2
        exact ⟨rfl, grow_refl _ _⟩
      · have h1 : decide ((8192 : Int) < l[k].size) = false := decide_eq_false (by omega)
        have HN : Hid (∀ s ∈ l.take (k + 1), s.size ≤ 8192) := by
          intro s hs
          rw [List.take_succ_eq_append_getElem hlt, List.mem_append, List.mem_singleton] at hs
          rcases hs with hs | rfl
          · exact HA.out s hs
          · omega
        clear hbig
        go_wp2
        go_round
        case rel => exact ⟨k + 1, by omega, by go_num, HN.out⟩
        case measure => simp [intOf]; omega
    · exfalso
      obtain ⟨s, h1, h2⟩ := HS.out
      have := HA.out s (by rw [List.take_of_length_le (by omega)]; exact h1)
      omega
set_option maxRecDepth 100000 in
theorem sealed_short (v : Value) (l : List ByteArray) (w : World) (hm : Mv w) (hr : RowAt w v (l.map Value.string)) (hl : l.length ≤ 8192) (hb : ∀ s ∈ l, s.size ≤ 8192) (X : ByteArray) (hX : X = ⟨(framesB l).toArray⟩) :
    Calls Tryz.prog 41 #[v] w fun e w' => e = .returned (.tuple #[.string (if 65536 < X.size then ⟨#[]⟩ else X), .int .i64 (if 65536 < X.size then 4 else 0)]) ∧ w.grownBy w' none := by
  have HSL := Lib.hid (Seal_any v l w hm hr hl (fun s hs => Nat.le_trans (hb s hs) (by omega)))
  rw [← hX] at HSL
  obtain ⟨a, c, rfl⟩ := hr.len
  rw [List.length_map] at hr HSL ⊢
  have hli : (l.length : Int) ≤ 8192 := by omega
  have HB := Lib.hid hb
  obtain ⟨Y, hY⟩ : ∃ Y : ByteArray, Y = if 65536 < X.size then ⟨#[]⟩ else X := ⟨_, rfl⟩
  obtain ⟨E, hE⟩ : ∃ E : Int, E = if 65536 < X.size then 4 else 0 := ⟨_, rfl⟩
  rw [← hY, ← hE]
  have HY := Lib.hid hY
  have HE := Lib.hid hE
  clear hb hX hm hY hE
  go_enter Tryz.func41, Tryz.ntmps41
  go_wp2
  go_loop [10] (fun i => ∃ k : Nat, k ≤ l.length ∧ i = .int .i64 k) (fun i => l.length - (intOf i).toNat)
  case atStart => exact ⟨0, Nat.zero_le _, rfl⟩
  case round =>
    obtain ⟨k, hk, rfl⟩ := hrel
    by_cases hlt : k < l.length
    · obtain ⟨bb, off, rfl, hcell⟩ := row_str hr hlt
      have hsz := HB.out l[k] (List.getElem_mem hlt)
      have hki : (k : Int) < l.length := by omega
      have h1 : decide ((8192 : Int) < l[k].size) = false := decide_eq_false (by omega)
      go_wp2
      go_round
      case rel => exact ⟨k + 1, by omega, by go_num⟩
      case measure => simp [intOf]; omega
    · have hkl : k = l.length := by omega
      subst hkl
      by_cases hX : 65536 < X.size
      · have h1 : decide ((65536 : Int) < X.size) = true := decide_eq_true (by omega)
        have e1 := HY.out
        have e2 := HE.out
        rw [if_pos hX] at e1 e2
        subst e1 e2
        clear hX HY HE
        go_wp2_with fail
        refine HSL.out.mono ?_
        rintro e w2 ⟨rfl, g⟩
        go_wp2
        go_ret2
        exact ⟨rfl, g⟩
      · have h1 : decide ((65536 : Int) < X.size) = false := decide_eq_false (by omega)
        have e1 := HY.out
        have e2 := HE.out
        rw [if_neg hX] at e1 e2
        subst e1 e2
        clear hX HY HE
        go_wp2_with fail
        refine HSL.out.mono ?_
        rintro e w2 ⟨rfl, g⟩
        go_wp2
        go_ret2
        exact ⟨rfl, g⟩
/-- How sealed ends. -/
def sealB (l : List ByteArray) : ByteArray := ⟨(framesB l).toArray⟩
open Classical in
noncomputable def sealE (l : List ByteArray) : Int := if sealOk l then 0 else 4
theorem sealB_size (l : List ByteArray) : (sealB l).size = (framesB l).length := by
  show (framesB l).toArray.size = _
  rw [List.size_toArray]
theorem sealed_no (v : Value) (l : List ByteArray) (w : World) (hm : Mv w) (hr : RowAt w v (l.map Value.string)) (hl : l.length ≤ 8192) (hb : ∀ s ∈ l, s.size ≤ 1000000000) (h : ¬ sealOk l) :
    Calls Tryz.prog 41 #[v] w fun e w' => e = .returned (.tuple #[.string ⟨#[]⟩, .int .i64 4]) ∧ w.grownBy w' none := by
  by_cases hs : ∃ s ∈ l, 8192 < s.size
  · exact sealed_long v l w hr hl hb hs
  · have hb2 : ∀ s ∈ l, s.size ≤ 8192 := fun s hs2 => by
      rcases Nat.lt_or_ge 8192 s.size with x | x
      · exact absurd ⟨s, hs2, x⟩ hs
      · exact x
    have hx : 65536 < (sealB l).size := by
      rw [sealB_size]
      rcases Nat.lt_or_ge 65536 (framesB l).length with x | x
      · exact x
      · exact absurd ⟨hb2, x⟩ h
    have := sealed_short v l w hm hr hl hb2 (sealB l) rfl
    rw [if_pos hx, if_pos hx] at this
    exact this
theorem sealed_yes (v : Value) (l : List ByteArray) (w : World) (hm : Mv w) (hr : RowAt w v (l.map Value.string)) (hl : l.length ≤ 8192) (h : sealOk l) :
    Calls Tryz.prog 41 #[v] w fun e w' => e = .returned (.tuple #[.string (sealB l), .int .i64 0]) ∧ w.grownBy w' none := by
  have hx : ¬ 65536 < (sealB l).size := by rw [sealB_size]; have := h.2; omega
  have := sealed_short v l w hm hr hl h.1 (sealB l) rfl
  rw [if_neg hx, if_neg hx] at this
  exact this
set_option maxRecDepth 100000 in
theorem LAppend_nil (v : Value) (w : World) :
    Calls Tryz.prog 16 #[.pointer none, v] w fun e w' => e = .returned (.int .i64 2) ∧ w.grownBy w' none := by
  go_enter Tryz.func16, Tryz.ntmps16
  go_wp2
  go_ret
  exact ⟨rfl, grow_refl _ _⟩
set_option maxRecDepth 100000 in
theorem LAppend_long (lb : Nat) (v : Value) (l : List ByteArray) (w : World) (hm : Mv w) (hr : RowAt w v (l.map Value.string)) (hl : l.length ≤ 8192) (hb : ∀ s ∈ l, s.size ≤ 1000000000) (h : ¬ sealOk l) :
    Calls Tryz.prog 16 #[.pointer (some ⟨lb, 0, none⟩), v] w fun e w' => e = .returned (.int .i64 4) ∧ w.grownBy w' none := by
  have HS := Lib.hid (sealed_no v l w hm hr hl hb h)
  obtain ⟨a, c, rfl⟩ := hr.len
  rw [List.length_map] at HS ⊢
  have hli : (l.length : Int) ≤ 8192 := by omega
  clear hr hb h hm
  go_enter Tryz.func16, Tryz.ntmps16
  go_wp2_with fail
  refine HS.out.mono ?_
  rintro e w2 ⟨rfl, g⟩
  go_wp2
  go_ret
  exact ⟨rfl, g⟩
set_option maxRecDepth 100000 in
theorem LAppend_none (lb : Nat) (v : Value) (w : World) (hm : Mv w) (hr : RowAt w v []) :
    Calls Tryz.prog 16 #[.pointer (some ⟨lb, 0, none⟩), v] w fun e w' => e = .returned (.int .i64 0) ∧ w.grownBy w' none := by
  have HS := Lib.hid (sealed_yes v [] w hm hr (by simp) ⟨by simp, by simp [framesB]⟩)
  obtain ⟨a, c, rfl⟩ := hr.len
  rw [List.length_nil] at HS ⊢
  clear hr hm
  go_enter Tryz.func16, Tryz.ntmps16
  go_wp2_with fail
  refine HS.out.mono ?_
  rintro e w2 ⟨rfl, g⟩
  go_wp2
  go_ret
  exact ⟨rfl, g⟩
set_option maxRecDepth 100000 in
set_option maxHeartbeats 1000000 in
theorem LAppend_full (lb db : Nat) (cc : Lc) (v : Value) (l : List ByteArray) (w : World) (hm : Mv w) (hL : LAt w lb db cc) (hc : LcOk cc) (hr : RowAt w v (l.map Value.string)) (hl : l.length ≤ 8192) (h0 : l ≠ []) (h : sealOk l) (hp : ¬ placeE cc = 0) :
    Calls Tryz.prog 16 #[.pointer (some ⟨lb, 0, none⟩), v] w fun e w' => e = .returned (.int .i64 (placeE cc)) ∧ w.grownBy w' none := by
  have HS := Lib.hid (sealed_yes v l w hm hr hl h)
  have HP := Lib.hid fun (w2 : World) (m : Mv w2) => place_any cc w2 m hc.2.2.1 hc.2.2.2
  have hl0 : 0 < l.length := List.length_pos_iff.2 h0
  obtain ⟨a, c, rfl⟩ := hr.len
  rw [List.length_map] at HS ⊢
  have hli : (l.length : Int) ≤ 8192 := by omega
  have hlz : ((l.length : Int) == 0) = false := by
    have : ¬ (l.length : Int) = 0 := by omega
    simpa using this
  have hpe : (placeE cc == 0) = false := by simpa using hp
  have HM := Lib.hid hm
  have HLG := Lib.hid hL
  unfold PlaceE at HP
  generalize placeE cc = PE at *
  generalize placeN cc = PN at *
  generalize placeH cc = PH at *
  generalize sealB l = SB at *
  clear hr h hm hL hc h0
  go_enter Tryz.func16, Tryz.ntmps16
  go_wp2_with fail
  refine HS.out.mono ?_
  rintro e w2 ⟨rfl, g⟩
  have L2 := Blk.keep HLG.out g
  have c0 := LAt.c0 L2
  have c1 := LAt.c1 L2
  have c2 := LAt.c2 L2
  have c3 := LAt.c3 L2
  go_wp2_with fail
  refine (HP.out w2 (HM.out.kept g)).mono ?_
  rintro e w3 ⟨rfl, g3⟩
  go_wp2
  go_ret
  exact ⟨rfl, grow_none g g3⟩
theorem headW_size (k : Int) (r : ByteArray) (hk : -9223372036854775808 ≤ k ∧ k ≤ 9223372036854775807) (hr : r.size ≤ 100) : (headW k r).size ≤ 200 := by
  have hn := nums1_size k hk
  unfold headW
  obtain ⟨K, hK⟩ : ∃ K : ByteArray, K = ⟨(numsB [k]).toArray⟩ := ⟨_, rfl⟩
  rw [← hK] at hn ⊢
  have hs : (K ++ r).size = K.size + r.size := ByteArray.size_append
  generalize K ++ r = p at *
  show (framesB [p]).toArray.size ≤ 200
  rw [List.size_toArray]
  unfold framesB
  simp only [List.flatMap_cons, List.flatMap_nil, List.append_nil]
  have := numB_len (n := (p.size : Int)) (by omega)
  rw [frB_size]; omega
theorem place_lim (c : Lc) (hc : LcOk c) (hp : placeE c = 0) : 1 ≤ placeN c ∧ placeN c ≤ 1000000000 ∧ (placeH c).size ≤ 1000 := by
  obtain ⟨_, _, h3, h4⟩ := hc
  by_cases h0 : c.last = 0
  · have e : placeN c = 1 := by unfold placeN; rw [if_pos h0]
    have e2 : placeH c = headW 1 ⟨(textsB [⟨#[]⟩]).toArray⟩ := by unfold placeH; rw [if_pos h0]
    have := headW_size 1 ⟨(textsB [⟨#[]⟩]).toArray⟩ (by omega) (Nat.le_trans text0_size (by omega))
    rw [e, e2]; omega
  by_cases h1 : c.torn = false ∧ c.size < 2048
  · have e : placeN c = c.last := by unfold placeN; rw [if_neg h0, if_pos h1]
    have e2 : placeH c = ⟨#[]⟩ := by unfold placeH; rw [if_neg h0, if_pos h1]
    rw [e, e2]
    exact ⟨by omega, by omega, Nat.zero_le _⟩
  by_cases h2 : c.last = 999999999
  · have e : placeE c = 52 := by unfold placeE; rw [if_neg h0, if_neg h1, if_pos h2]
    omega
  · have e : placeN c = c.last + 1 := by unfold placeN; rw [if_neg h0, if_neg h1, if_neg h2]
    have e2 : placeH c = headW 2 ⟨(numsB [(c.size : Int)]).toArray⟩ := by unfold placeH; rw [if_neg h0, if_neg h1, if_neg h2]
    have := headW_size 2 ⟨(numsB [(c.size : Int)]).toArray⟩ (by omega) (Nat.le_trans (nums1_size _ (by omega)) (by omega))
    rw [e, e2]; omega
set_option maxRecDepth 100000 in
set_option maxHeartbeats 1000000 in
theorem LAppend_through (lb db mb n : Nat) (G : ByteArray → Option Nat) (cc : Lc) (d : Dk) (B : Nat) (v : Value) (l : List ByteArray) (w : World) (hW : WAt w lb db mb n G cc d) (hv : Va B w) (hlo : Lo B lb db mb G) (hB : B ≤ w.heap.size) (hc : LcOk cc)
    (hst : d.steps + 1 < 1000000) (hn : n < 1000000) (hr : RowAt w v (l.map Value.string)) (hl : l.length ≤ 8192) (h0 : l ≠ []) (h : sealOk l) (hp : placeE cc = 0) :
    Calls Tryz.prog 16 #[.pointer (some ⟨lb, 0, none⟩), v] w fun e w' => e = .returned (.int .i64 (writeC d (nameW (placeN cc)) (placeH cc ++ sealB l))) ∧ ∃ n', n' ≤ n + 1 ∧ WEnd lb db mb G n' (writeL cc d (placeN cc) (placeH cc ++ sealB l)) (writeD d (nameW (placeN cc)) (placeH cc ++ sealB l)) w w' := by
  obtain ⟨p1, p2, p3⟩ := place_lim cc hc hp
  have hsb : (sealB l).size ≤ 65536 := by rw [sealB_size]; exact h.2
  have hsz : (placeH cc ++ sealB l).size = (placeH cc).size + (sealB l).size := ByteArray.size_append
  have hno : ¬ (9223372036854775807 < (placeH cc).size + (sealB l).size) := by omega
  have HS := Lib.hid (sealed_yes v l w hv.mv hr hl h)
  have HP := Lib.hid fun (w2 : World) (m : Mv w2) => place_any cc w2 m hc.2.2.1 hc.2.2.2
  have HWR := Lib.hid fun (w2 : World) (h2 : WAt w2 lb db mb n G cc d) (v2 : Va B w2) (b2 : B ≤ w2.heap.size) => write_any lb db mb n G cc d (placeN cc) (placeH cc ++ sealB l) w2 h2 B v2 hlo b2 hc p1 p2 (by omega) hst hn
  have hl0 : 0 < l.length := List.length_pos_iff.2 h0
  obtain ⟨a, c, rfl⟩ := hr.len
  rw [List.length_map] at HS ⊢
  have hli : (l.length : Int) ≤ 8192 := by omega
  have hlz : ((l.length : Int) == 0) = false := by
    have : ¬ (l.length : Int) = 0 := by omega
    simpa using this
  have HM := Lib.hid hv
  have HLG := Lib.hid hW
  have HBB := Lib.hid hB
  unfold PlaceE at HP
  rw [hp] at HP
  obtain ⟨WC, hWC⟩ : ∃ WC, WC = writeC d (nameW (placeN cc)) (placeH cc ++ sealB l) := ⟨_, rfl⟩
  obtain ⟨WD, hWD⟩ : ∃ WD, WD = writeD d (nameW (placeN cc)) (placeH cc ++ sealB l) := ⟨_, rfl⟩
  obtain ⟨WL, hWL⟩ : ∃ WL, WL = writeL cc d (placeN cc) (placeH cc ++ sealB l) := ⟨_, rfl⟩
  rw [← hWC, ← hWD, ← hWL] at HWR ⊢
  clear hWC hWD hWL hp p1 p2 p3 hsz hsb
  generalize placeN cc = PN at *
  generalize placeH cc = PH at *
  generalize sealB l = SB at *
  clear hr h hv hW hc h0 hlo hB hst hn
  go_enter Tryz.func16, Tryz.ntmps16
  go_wp2_with fail
  refine HS.out.mono ?_
  rintro e w2 ⟨rfl, g⟩
  have L2 := Blk.keep HLG.out.log g
  have c0 := LAt.c0 L2
  have c1 := LAt.c1 L2
  have c2 := LAt.c2 L2
  have c3 := LAt.c3 L2
  go_wp2_with fail
  refine (HP.out w2 (HM.out.mv.kept g)).mono ?_
  rintro e w3 ⟨rfl, g3⟩
  have G3 := grow_none g g3
  clear L2 c0 c1 c2 c3
  go_wp2_with fail
  refine (HWR.out w3 (HLG.out.keep G3) (HM.out.keep G3) (Nat.le_trans HBB.out G3.size)).mono ?_
  rintro e w4 ⟨rfl, n', hn', hE⟩
  go_wp2
  go_ret
  exact ⟨rfl, n', hn', WEnd.front HLG.out G3 hE⟩
set_option maxRecDepth 100000 in
theorem Segment_any (lb db : Nat) (c : Lc) (w : World) (h : LAt w lb db c) :
    Calls Tryz.prog 24 #[.pointer (some ⟨lb, 0, none⟩)] w fun e w' => e = .returned (.int .i64 c.last) ∧ w' = w := by
  have c1 := h.c1
  go_enter Tryz.func24, Tryz.ntmps24
  go_wp2
  go_ret
  exact ⟨rfl, rfl⟩
set_option maxRecDepth 100000 in
theorem Segment_nil (w : World) :
    Calls Tryz.prog 24 #[.pointer none] w fun e w' => e = .returned (.int .i64 0) ∧ w' = w := by
  go_enter Tryz.func24, Tryz.ntmps24
  go_wp2
  go_ret
  exact ⟨rfl, rfl⟩
set_option maxRecDepth 100000 in
theorem Lay_nil (s : ByteArray) (w : World) :
    Calls Tryz.prog 18 #[.pointer none, .string s] w fun e w' => e = .returned (.int .i64 2) ∧ w.grownBy w' none := by
  go_enter Tryz.func18, Tryz.ntmps18
  go_wp2
  go_ret
  exact ⟨rfl, grow_refl _ _⟩
set_option maxRecDepth 100000 in
theorem Lay_long (lb : Nat) (s : ByteArray) (w : World) (hs : 524288 < s.size) (hs2 : s.size ≤ 1000000000) :
    Calls Tryz.prog 18 #[.pointer (some ⟨lb, 0, none⟩), .string s] w fun e w' => e = .returned (.int .i64 4) ∧ w.grownBy w' none := by
  have h1 : (524288 : Int) < s.size := by omega
  go_enter Tryz.func18, Tryz.ntmps18
  go_wp2
  go_ret
  exact ⟨rfl, grow_refl _ _⟩
set_option maxRecDepth 100000 in
theorem Lay_full (lb db : Nat) (c : Lc) (s : ByteArray) (w : World) (h : LAt w lb db c) (hs : s.size ≤ 524288) (hl : c.last = 999999999) :
    Calls Tryz.prog 18 #[.pointer (some ⟨lb, 0, none⟩), .string s] w fun e w' => e = .returned (.int .i64 52) ∧ w.grownBy w' none := by
  have h1 : ¬ (524288 : Int) < s.size := by omega
  have c1 := h.c1
  rw [hl] at c1
  clear h hs hl
  go_enter Tryz.func18, Tryz.ntmps18
  go_wp2
  go_ret
  exact ⟨rfl, grow_refl _ _⟩
def remS (p : Int × Dk) (s : ByteArray) : Int × Dk := if p.1 ≠ 0 then p else (stepOfC p.2 s, removeD p.2 s)
/-- Files are removed, till one of them can't be. -/
def rems (d : Dk) (l : List ByteArray) : Int × Dk := l.foldl remS (0, d)
theorem rems_snoc (d : Dk) (l : List ByteArray) (s : ByteArray) : rems d (l ++ [s]) = remS (rems d l) s := by
  unfold rems; rw [List.foldl_append]; rfl
theorem remS_stop {p : Int × Dk} (h : p.1 ≠ 0) : ∀ l : List ByteArray, l.foldl remS p = p
  | [] => rfl
  | s :: l => by
    have : remS p s = p := by unfold remS; rw [if_pos h]
    rw [List.foldl_cons, this]; exact remS_stop h l
theorem rems_stop {d : Dk} {a b : List ByteArray} (h : (rems d a).1 ≠ 0) : rems d (a ++ b) = rems d a := by
  unfold rems at h ⊢
  rw [List.foldl_append, remS_stop h]
theorem wl_stepD_steps (d : Dk) : (stepD d).steps ≤ d.steps + 1 := by
  unfold stepD; split <;> simp
theorem wl_stepOfD_steps (d : Dk) (s : ByteArray) : (stepOfD d s).steps ≤ d.steps + 1 := by
  unfold stepOfD
  split
  · omega
  split
  · omega
  exact wl_stepD_steps d
theorem wl_removeD_steps (d : Dk) (s : ByteArray) : (removeD d s).steps ≤ d.steps + 1 := by
  unfold removeD
  split
  · exact wl_stepOfD_steps d s
  · exact wl_stepOfD_steps d s
theorem remS_steps (p : Int × Dk) (s : ByteArray) : (remS p s).2.steps ≤ p.2.steps + 1 := by
  unfold remS
  split
  · omega
  · exact wl_removeD_steps _ _
theorem rems_steps (d : Dk) : ∀ (l : List ByteArray) (p : Int × Dk), (l.foldl remS p).2.steps ≤ p.2.steps + l.length
  | [], p => by simp
  | s :: l, p => by
    rw [List.foldl_cons, List.length_cons]
    have := rems_steps d l (remS p s)
    have := remS_steps p s
    omega
/-- The names of a log's segments. -/
def segsOf (f l : Nat) : List ByteArray := if f = 0 then [] else (List.range' f (l + 1 - f)).map nameW
theorem segs_take {f l k : Nat} (hf : f ≠ 0) (hk : k < l + 1 - f) : (segsOf f l).take (k + 1) = (segsOf f l).take k ++ [nameW (f + k)] := by
  unfold segsOf
  rw [if_neg hf]
  have hlen : k < ((List.range' f (l + 1 - f)).map nameW).length := by simpa using hk
  rw [List.take_succ_eq_append_getElem hlen]
  congr 2
  simp
theorem segs_len {f l : Nat} (hf : f ≠ 0) : (segsOf f l).length = l + 1 - f := by
  unfold segsOf; rw [if_neg hf]; simp
/-- The head of a log that begins anew. -/
def layX (s : ByteArray) : ByteArray := headW 1 ⟨(textsB [s]).toArray⟩
def layN (c : Lc) : ByteArray := nameW (c.last + 1)
def layC (c : Lc) (d : Dk) (s : ByteArray) : Int := if writeC d (layN c) (layX s) ≠ 0 then writeC d (layN c) (layX s) else (rems (writeD d (layN c) (layX s)) (segsOf c.first c.last)).1
def layD (c : Lc) (d : Dk) (s : ByteArray) : Dk := if writeC d (layN c) (layX s) ≠ 0 then writeD d (layN c) (layX s) else (rems (writeD d (layN c) (layX s)) (segsOf c.first c.last)).2
def layL (c : Lc) (d : Dk) (s : ByteArray) : Lc := if writeC d (layN c) (layX s) ≠ 0 then c else ⟨c.last + 1, c.last + 1, (layX s).size, false⟩
theorem Remove_w (lb db mb n : Nat) (G : ByteArray → Option Nat) (c : Lc) (d : Dk) (s : ByteArray) (w : World) (h : WAt w lb db mb n G c d) (hs : s.size ≤ 1000000) (hst : d.steps < 1000000) :
    Calls Tryz.prog 46 #[.pointer (some ⟨db, 0, none⟩), .string s] w fun e w' => e = .returned (.int .i64 (stepOfC d s)) ∧ WEnd lb db mb G n c (removeD d s) w w' :=
  (Remove_any db mb n G d s w h.dr (by have : maxLen = 9223372036854775807 := by decide
                                       omega) hst).mono fun e w' ⟨he, hE⟩ => ⟨he, WEnd.drive h hE⟩
/-- What a segment's file holds. -/
def segT (d : Dk) (k : Nat) : ByteArray := (readR d (nameW k)).1
noncomputable def begS (d : Dk) (a : Nat) (s : ByteArray) : Nat := if begK (readR d s).1 = true ∧ a < numW s then numW s else a
/-- The greatest segment that begins, of these names. -/
noncomputable def begN (d : Dk) (l : List ByteArray) : Nat := l.foldl (begS d) 0
theorem begN_snoc (d : Dk) (l : List ByteArray) (s : ByteArray) : begN d (l ++ [s]) = begS d (begN d l) s := by
  unfold begN; rw [List.foldl_append]; rfl
theorem begS_le (d : Dk) (a : Nat) (s : ByteArray) : a ≤ begS d a s := by
  unfold begS; split
  · rename_i h; exact Nat.le_of_lt h.2
  · exact Nat.le_refl _
theorem begS_fold (d : Dk) : ∀ (l : List ByteArray) (a : Nat), a ≤ l.foldl (begS d) a ∧ (∀ s ∈ l, begK (readR d s).1 = true → numW s ≤ l.foldl (begS d) a)
      ∧ (l.foldl (begS d) a = a ∨ ∃ s ∈ l, begK (readR d s).1 = true ∧ numW s = l.foldl (begS d) a ∧ a < numW s)
  | [], a => ⟨Nat.le_refl _, by simp, .inl rfl⟩
  | s :: l, a => by
    obtain ⟨h1, h2, h3⟩ := begS_fold d l (begS d a s)
    rw [List.foldl_cons]
    have hle := begS_le d a s
    refine ⟨Nat.le_trans hle h1, fun t ht hb => ?_, ?_⟩
    · rcases List.mem_cons.1 ht with rfl | ht
      · refine Nat.le_trans ?_ h1
        unfold begS
        split
        · exact Nat.le_refl _
        · rename_i h
          exact Nat.le_of_not_lt fun hl => h ⟨hb, hl⟩
      · exact h2 t ht hb
    · rcases h3 with h3 | ⟨t, ht, hb, hn, hl⟩
      · rw [h3]
        unfold begS
        split
        · rename_i h
          exact .inr ⟨s, List.mem_cons_self .., h.1, rfl, h.2⟩
        · exact .inl rfl
      · exact .inr ⟨t, List.mem_cons_of_mem _ ht, hb, hn, by omega⟩
theorem begN_is {d : Dk} {l : List ByteArray} {a : Nat} (h : begN d l = a) (h0 : a ≠ 0) : a ≤ 999999999 ∧ nameW a ∈ l ∧ begK (segT d a) = true := by
  rcases (begS_fold d l 0).2.2 with h3 | ⟨s, hs, hb, hn, hl⟩
  · exact absurd (h.symm.trans h3) h0
  · have e : numW s = a := hn.trans h
    obtain ⟨rfl, _, h2⟩ := numW_of e h0
    exact ⟨h2, hs, hb⟩
theorem begN_max {d : Dk} {l : List ByteArray} {k : Nat} (hk : 1 ≤ k) (hk2 : k ≤ 999999999) (hl : nameW k ∈ l) (hb : begK (segT d k) = true) : k ≤ begN d l := by
  have := (begS_fold d l 0).2.1 _ hl hb
  rw [numW_name hk hk2] at this
  exact this
/-- A segment's next one is the log's, too. -/
def goes (T : Nat → ByteArray) (k : Nat) : Prop := goneK (T (k + 1)) = true ∧ cutOk (T k) (goneN (T (k + 1)))
/-- A segment's records, if the next one goes on behind it. -/
noncomputable def recOf (T : Nat → ByteArray) (k : Nat) : List ByteArray := cutL (T k) (goneN (T (k + 1)))
/-- The records of m segments from f. -/
noncomputable def recsOf (T : Nat → ByteArray) (f m : Nat) : List ByteArray := (List.range m).flatMap fun i => recOf T (f + i)
theorem recs_succ (T : Nat → ByteArray) (f m : Nat) : recsOf T f (m + 1) = recsOf T f m ++ recOf T (f + m) := by
  unfold recsOf; rw [List.range_succ, List.flatMap_append]; simp
/-- The numbers, base and records of the log whose segments hold these texts. -/
structure Lg (T : Nat → ByteArray) (c : Lc) (base : ByteArray) (recs : List ByteArray) : Prop where
  none : c.first = 0 → c = ⟨0, 0, 0, false⟩ ∧ base = ⟨#[]⟩ ∧ recs = []
  beg : c.first ≠ 0 → begK (T c.first) = true ∧ base = begB (T c.first)
  le : c.first ≠ 0 → c.first ≤ c.last ∧ c.last ≤ 999999999
  all : c.first ≠ 0 → ∀ k, c.first ≤ k → k < c.last → goes T k
  stop : c.first ≠ 0 → c.last = 999999999 ∨ ¬ goes T c.last
  size : c.first ≠ 0 → c.size + (scanC (T c.last)).size = (T c.last).size ∧ c.torn = decide ((scanC (T c.last)).size ≠ 0)
  recs : c.first ≠ 0 → recs = recsOf T c.first (c.last - c.first) ++ (scanL (T c.last)).drop 1
theorem scan_ne {s : ByteArray} (h : opB s = true) : scanL s ≠ [] := by
  have := scan_spec s
  generalize scanL s = l at *
  generalize scanC s = c at *
  cases this with
  | stop _ h2 => rw [h] at h2; cases h2
  | go _ l c h2 h3 => simp
theorem scan_le (s : ByteArray) : (scanC s).size ≤ s.size := by
  have := scan_spec s
  generalize scanL s = l at *
  generalize scanC s = c at *
  induction this with
  | stop => exact Nat.le_refl _
  | go s l c h _ ih => have := open_less h; omega
theorem beg_op {s : ByteArray} (h : begK s = true) : opB s = true := by unfold begK at h; exact (Bool.and_eq_true_iff.1 h).1
theorem gone_op {s : ByteArray} (h : goneK s = true) : opB s = true := by unfold goneK at h; exact (Bool.and_eq_true_iff.1 h).1
theorem op_size {s : ByteArray} (h : opB s = true) : 5 ≤ s.size := by have := open_less h; omega
theorem Lg.lcok {T : Nat → ByteArray} {c : Lc} {base : ByteArray} {recs : List ByteArray} (h : Lg T c base recs) (hz : (T c.last).size ≤ 1000000000) : LcOk c := by
  by_cases h0 : c.first = 0
  · obtain ⟨rfl, _, _⟩ := h.none h0
    exact ⟨⟨fun _ => rfl, fun _ => rfl⟩, Nat.le_refl _, by show 0 ≤ _; omega, by show 0 ≤ _; omega⟩
  · have h1 := h.le h0
    have h2 := (h.size h0).1
    exact ⟨⟨fun h => absurd h h0, fun h => by omega⟩, h1.1, h1.2, by omega⟩
/-- Where a log begins fixes all of it. -/
theorem Lg.same {T : Nat → ByteArray} {c c' : Lc} {base base' : ByteArray} {recs recs' : List ByteArray} (h : Lg T c base recs) (h' : Lg T c' base' recs') (hf : c.first = c'.first) : c = c' ∧ base = base' ∧ recs = recs' := by
  by_cases h0 : c.first = 0
  · obtain ⟨e1, e2, e3⟩ := h.none h0
    obtain ⟨k1, k2, k3⟩ := h'.none (hf ▸ h0)
    exact ⟨by rw [e1, k1], by rw [e2, k2], by rw [e3, k3]⟩
  · have h0' : c'.first ≠ 0 := hf ▸ h0
    have l1 := h.le h0
    have l2 := h'.le h0'
    have hl : c.last = c'.last := by
      rcases Nat.lt_trichotomy c.last c'.last with hlt | he | hlt
      · rcases h.stop h0 with y | y
        · omega
        · exact absurd (h'.all h0' c.last (by omega) hlt) y
      · exact he
      · rcases h'.stop h0' with y | y
        · omega
        · exact absurd (h.all h0 c'.last (by omega) hlt) y
    have s1 := h.size h0
    have s2 := h'.size h0'
    rw [← hl] at s2
    refine ⟨?_, by rw [(h.beg h0).2, (h'.beg h0').2, hf], by rw [h.recs h0, h'.recs h0', hf, hl]⟩
    obtain ⟨f, l, z, t⟩ := c
    obtain ⟨f', l', z', t'⟩ := c'
    simp only at *
    subst hf hl
    have : z = z' := by omega
    subst this
    rw [s1.2, s2.2]
theorem fr_app (a b : List ByteArray) : framesB (a ++ b) = framesB a ++ framesB b := by unfold framesB; rw [List.flatMap_append]
theorem op_nil : opB (bs []) = false := by
  cases h : opB (bs []) with
  | false => rfl
  | true =>
    have := open_less h
    have : (bs []).size = 0 := bs_size []
    omega
theorem scans_eq {s c : ByteArray} {l : List ByteArray} (h : Scans s l c) : s.data.toList = framesB l ++ c.data.toList ∧ ∀ p ∈ l, p.size ≤ 1048576 := by
  induction h with
  | stop s h => exact ⟨by unfold framesB; simp, by simp⟩
  | go s l c h _ ih =>
    obtain ⟨h1, h2⟩ := open_sound h
    obtain ⟨i1, i2⟩ := ih
    refine ⟨?_, ?_⟩
    · rw [h1, i1]
      unfold framesB
      simp only [List.flatMap_cons, List.append_assoc]
    · intro p hp
      rcases List.mem_cons.1 hp with rfl | hp
      · exact h2
      · exact i2 p hp
theorem scans_frames (l : List ByteArray) (hl : ∀ p ∈ l, p.size ≤ 1048576) : Scans (bs (framesB l)) l (bs []) := by
  have := Scans.ahead (.stop _ op_nil) l hl
  rwa [List.append_nil, List.append_nil] at this
/-- A text of frames alone, and frames behind it. -/
theorem scan_add {s : ByteArray} {l : List ByteArray} (h : (scanC s).size = 0) (hl : ∀ p ∈ l, p.size ≤ 1048576) :
    scanL (s ++ bs (framesB l)) = scanL s ++ l ∧ (scanC (s ++ bs (framesB l))).size = 0 := by
  obtain ⟨h1, h2⟩ := scans_eq (scan_spec s)
  have hc : (scanC s).data.toList = [] := by
    apply List.eq_nil_of_length_eq_zero
    rw [len_bs]; exact h
  rw [hc, List.append_nil] at h1
  have e : s ++ bs (framesB l) = bs (framesB (scanL s ++ l)) := by
    rw [fr_app, ← h1]
    conv => lhs; rw [← bs_self s]
    exact ByteArray.mk_append_mk _ _
  have hs := scans_frames (scanL s ++ l) (fun p hp => by
    rcases List.mem_append.1 hp with hp | hp
    · exact h2 p hp
    · exact hl p hp)
  rw [← e] at hs
  obtain ⟨e1, e2⟩ := scan_is hs
  exact ⟨e1.symm, by rw [← e2]; rfl⟩
theorem scan_framesL {l : List ByteArray} (hl : ∀ p ∈ l, p.size ≤ 1048576) : scanL (bs (framesB l)) = l ∧ (scanC (bs (framesB l))).size = 0 := by
  obtain ⟨e1, e2⟩ := scan_is (scans_frames l hl)
  exact ⟨e1.symm, by rw [← e2]; rfl⟩
/-- What was scanned of a text, alone. -/
theorem scan_front (s : ByteArray) : scanL (s.extract 0 (s.size - (scanC s).size)) = scanL s ∧ (scanC (s.extract 0 (s.size - (scanC s).size))).size = 0 := by
  obtain ⟨h1, h2⟩ := scans_eq (scan_spec s)
  have h3 := congrArg List.length h1
  rw [List.length_append, len_bs, len_bs] at h3
  have e : s.extract 0 (s.size - (scanC s).size) = bs (framesB (scanL s)) := by
    rw [extract_self, List.drop_zero, h1, List.take_left']
    omega
  rw [e]
  exact scan_framesL h2
/-- The first frame alone tells whether a text begins, or goes on. -/
theorem payO_add {s : ByteArray} (h : opB s = true) (x : ByteArray) : opB (s ++ x) = true ∧ payO (s ++ x) = payO s := by
  obtain ⟨h1, h2⟩ := open_sound h
  have e : s ++ x = bs (frB (payB s) ++ ((behB s).data.toList ++ x.data.toList)) := by
    rw [← List.append_assoc, ← h1]
    conv => lhs; rw [← bs_self s, ← bs_self x]
    exact ByteArray.mk_append_mk _ _
  obtain ⟨k1, k2, k3⟩ := open_app (payB s) h2 ((behB s).data.toList ++ x.data.toList)
  rw [e]
  refine ⟨k1, ?_⟩
  unfold payO
  rw [if_pos k1, if_pos h, k2]
theorem beg_add {s : ByteArray} (h : opB s = true) (x : ByteArray) : begK (s ++ x) = begK s ∧ begB (s ++ x) = begB s := by
  obtain ⟨h1, h2⟩ := payO_add h x
  unfold begK begB
  rw [h1, h2, h]; exact ⟨rfl, rfl⟩
theorem gone_add {s : ByteArray} (h : opB s = true) (x : ByteArray) : goneK (s ++ x) = goneK s ∧ goneN (s ++ x) = goneN s := by
  obtain ⟨h1, h2⟩ := payO_add h x
  unfold goneK goneN
  rw [h1, h2, h]; exact ⟨rfl, rfl⟩
theorem wl_num_back {n : Int} (hn : -9223372036854775808 ≤ n ∧ n ≤ 9223372036854775807) (more : List UInt8) :
    rNum (bs (numB n ++ more)) false = n ∧ rNumS (bs (numB n ++ more)) false = bs more ∧ rNumB (bs (numB n ++ more)) false = false := by
  have h := getN_back hn more
  refine ⟨?_, nextS_back hn more, ?_⟩
  · show (getN ⟨_⟩).1 = n; rw [h]
  · show (false || nextBad ⟨_⟩) = false
    unfold nextBad
    rw [h]
    have := numB_pos n
    show (((numB n).length : Int) == 0) = false
    rw [beq_eq_false_iff_ne]; omega
theorem wl_text_back (s : ByteArray) (hs : s.size ≤ 9223372036854775807) (more : List UInt8) :
    rText (bs (numB s.size ++ s.data.toList ++ more)) false = s ∧ rTextS (bs (numB s.size ++ s.data.toList ++ more)) false = bs more ∧ rCountB (bs (numB s.size ++ s.data.toList ++ more)) false = false := by
  rw [List.append_assoc]
  have hn : -9223372036854775808 ≤ (s.size : Int) ∧ (s.size : Int) ≤ 9223372036854775807 := by omega
  have h : getN (bs (numB s.size ++ (s.data.toList ++ more))) = ((s.size : Int), (numB s.size).length) := getN_back hn (s.data.toList ++ more)
  have h2 : nextS (bs (numB s.size ++ (s.data.toList ++ more))) = bs (s.data.toList ++ more) := nextS_back hn _
  have h3 : sizeN (bs (numB s.size ++ (s.data.toList ++ more))) = s.size := by
    unfold sizeN
    rw [h2, bs_size, h, List.length_append, size_toList, if_neg (by simp only; omega)]
    rfl
  have h4 : sizeBad (bs (numB s.size ++ (s.data.toList ++ more))) = false := by
    unfold sizeBad nextBad
    rw [h2, bs_size, h, List.length_append, size_toList]
    have := numB_pos (s.size : Int)
    have e1 : decide ((s.size : Int) < 0) = false := by simp
    have e2 : decide (((s.size + more.length : Nat) : Int) < (s.size : Int)) = false := by simp; omega
    have e3 : ((((numB s.size).length : Nat) : Int) == 0) = false := by rw [beq_eq_false_iff_ne]; omega
    simp only [e1, e2, e3, Bool.or_false]
  refine ⟨?_, ?_, ?_⟩
  · show (nextS _).extract 0 (sizeN _) = s
    rw [h2, h3, extract_bs, List.drop_zero, Nat.sub_zero, List.take_left' (size_toList s), bs_self]
  · show (nextS _).extract (sizeN _) (nextS _).size = _
    rw [h2, h3, extract_bs, bs_size, List.drop_left' (size_toList s), List.take_of_length_le (by simp)]
  · show (false || sizeBad _) = false
    rw [h4]; rfl
theorem one_bs (k : Int) (r : ByteArray) : (⟨(numsB [k]).toArray⟩ ++ r : ByteArray) = bs (numB k ++ r.data.toList) := by
  have e : numsB [k] = numB k := by unfold numsB; simp
  rw [e]
  conv => lhs; rw [← bs_self r]
  exact ByteArray.mk_append_mk _ _
/-- A head that begins. -/
theorem head_beg (s : ByteArray) (hs : s.size ≤ 1000000) : opB (layX s) = true ∧ begK (layX s) = true ∧ begB (layX s) = s ∧ goneK (layX s) = false ∧ scanL (layX s) = [payO (layX s)] ∧ (scanC (layX s)).size = 0 := by
  have hx : layX s = bs (frB (bs (numB 1 ++ textsB [s])) ++ []) := by
    have e3 : (⟨(textsB [s]).toArray⟩ : ByteArray).data.toList = textsB [s] := bs_list _
    unfold layX headW framesB
    rw [one_bs, e3]
    simp only [List.flatMap_cons, List.flatMap_nil]
    rfl
  have ht : textsB [s] = numB (s.size : Int) ++ s.data.toList ++ [] := by unfold textsB; simp
  have hl1 := numB_len (n := 1) (by omega)
  have hl2 := numB_len (n := (s.size : Int)) (by omega)
  have hp : (bs (numB 1 ++ textsB [s])).size ≤ 1048576 := by
    rw [bs_size, ht, List.length_append, List.length_append, List.length_append, List.length_nil, len_bs]; omega
  obtain ⟨k1, k2, k3⟩ := open_app _ hp []
  rw [← hx] at k1 k2 k3
  have hpay : payO (layX s) = bs (numB 1 ++ textsB [s]) := by unfold payO; rw [if_pos k1, k2]
  obtain ⟨n1, n2, n3⟩ := wl_num_back (n := 1) (by omega) (textsB [s])
  have n2' : nextS (bs (numB 1 ++ textsB [s])) = bs (textsB [s]) := n2
  have n3' : nextBad (bs (numB 1 ++ textsB [s])) = false := by simpa [rNumB] using n3
  have n1' : (getN (bs (numB 1 ++ textsB [s]))).1 = 1 := n1
  obtain ⟨t1, t2, t3⟩ := wl_text_back s (by omega) []
  rw [← ht] at t1 t2 t3
  have hscan : Scans (layX s) [payO (layX s)] (bs []) := by
    have h0 : Scans (behB (layX s)) [] (bs []) := by rw [k3]; exact .stop _ op_nil
    have := Scans.go _ _ _ k1 h0
    rw [k2] at this
    rw [hpay]; exact this
  obtain ⟨s1, s2⟩ := scan_is hscan
  refine ⟨k1, ?_, ?_, ?_, s1.symm, by rw [← s2]; rfl⟩
  · unfold begK
    rw [hpay, n1', n2', n3', t2, t3, k1]
    unfold rDone
    simp only [decide_true, Bool.true_and]
    rw [if_neg (by simp), toList_nil (bs_size [])]; rfl
  · unfold begB
    rw [hpay, n2', n3', t1]
  · unfold goneK
    rw [hpay, n1']
    simp
def goX (n : Int) : ByteArray := headW 2 ⟨(numsB [n]).toArray⟩
/-- A head that goes on. -/
theorem head_gone (n : Int) (hn : -9223372036854775808 ≤ n ∧ n ≤ 9223372036854775807) : opB (goX n) = true ∧ goneK (goX n) = true ∧ goneN (goX n) = n ∧ begK (goX n) = false ∧ scanL (goX n) = [payO (goX n)] ∧ (scanC (goX n)).size = 0 := by
  have e : numsB [n] = numB n := by unfold numsB; simp
  have hx : goX n = bs (frB (bs (numB 2 ++ (numB n ++ []))) ++ []) := by
    have e3 : (⟨(numsB [n]).toArray⟩ : ByteArray).data.toList = numsB [n] := bs_list _
    unfold goX headW framesB
    rw [one_bs, e3, e]
    simp only [List.flatMap_cons, List.flatMap_nil, List.append_nil]
    rfl
  have hl1 := numB_len (n := 2) (by omega)
  have hl2 := numB_len (n := n) hn
  have hp : (bs (numB 2 ++ (numB n ++ []))).size ≤ 1048576 := by
    rw [bs_size, List.length_append, List.length_append, List.length_nil]; omega
  obtain ⟨k1, k2, k3⟩ := open_app _ hp []
  rw [← hx] at k1 k2 k3
  have hpay : payO (goX n) = bs (numB 2 ++ (numB n ++ [])) := by unfold payO; rw [if_pos k1, k2]
  obtain ⟨n1, n2, n3⟩ := wl_num_back (n := 2) (by omega) (numB n ++ [])
  have n2' : nextS (bs (numB 2 ++ (numB n ++ []))) = bs (numB n ++ []) := n2
  have n3' : nextBad (bs (numB 2 ++ (numB n ++ []))) = false := by simpa [rNumB] using n3
  have n1' : (getN (bs (numB 2 ++ (numB n ++ [])))).1 = 2 := n1
  obtain ⟨t1, t2, t3⟩ := wl_num_back hn []
  have hscan : Scans (goX n) [payO (goX n)] (bs []) := by
    have h0 : Scans (behB (goX n)) [] (bs []) := by rw [k3]; exact .stop _ op_nil
    have := Scans.go _ _ _ k1 h0
    rw [k2] at this
    rw [hpay]; exact this
  obtain ⟨s1, s2⟩ := scan_is hscan
  refine ⟨k1, ?_, ?_, ?_, s1.symm, by rw [← s2]; rfl⟩
  · unfold goneK
    rw [hpay, n1', n2', n3', t2, t3, k1]
    unfold rDone
    simp only [decide_true, Bool.true_and]
    rw [if_neg (by simp), toList_nil (bs_size [])]; rfl
  · unfold goneN
    rw [hpay, n2', n3', t1]
  · unfold begK
    rw [hpay, n1']
    simp
end Go.Proofs.YtphljjgjpkdpmaaGreatDoor
/- Stage 5: the names of all files, rising. -/
namespace Go.Proofs.YtphljjgjpkdpmaaGreatDoor
open Go.RowKit Go.Maps Go.Sort
set_option linter.unusedVariables false
theorem Tryz.info05_string : (Tryz.prog.info? 9).map (fun i => (i.zero, i.size, i.bytes)) = some (some (.string ⟨#[]⟩), 1, 16) := by kernel_rfl
theorem Rp_inv' {v : Value} {y : DataW Unit × List MemPlace} (h : Rp v = some y) : ∃ c, v = Pp c := by
  unfold Rp at h
  split at h
  · exact ⟨some _, rfl⟩
  · exact ⟨none, rfl⟩
  · cases h
/-- The names, rising. -/
def Names (G : ByteArray → Option Nat) (ts : List (List UInt8)) : Prop := ∃ ss : List (List UInt8), ss.Nodup ∧ (∀ x, x ∈ ss ↔ (G ⟨x.toArray⟩).isSome = true) ∧ (∀ x ∈ ss, x.length ≤ maxLen) ∧ ts = ss.mergeSort leB
section
variable {G : ByteArray → Option Nat} {ts : List (List UInt8)}
theorem Names.nodup (h : Names G ts) : ts.Nodup := by
  obtain ⟨ss, h1, _, _, rfl⟩ := h
  exact (List.mergeSort_perm ss leB).nodup_iff.2 h1
theorem Names.mem (h : Names G ts) (x : List UInt8) : x ∈ ts ↔ (G ⟨x.toArray⟩).isSome = true := by
  obtain ⟨ss, _, h2, _, rfl⟩ := h
  rw [(List.mergeSort_perm ss leB).mem_iff]; exact h2 x
theorem Names.le (h : Names G ts) : ∀ x ∈ ts, x.length ≤ maxLen := by
  obtain ⟨ss, _, _, h3, rfl⟩ := h
  exact fun x hx => h3 x ((List.mergeSort_perm ss leB).mem_iff.1 hx)
end
set_option maxRecDepth 100000 in
set_option maxHeartbeats 1000000 in
theorem all_any (b mb n : Nat) (G : ByteArray → Option Nat) (d : Dk) (w : World) (h : DAt w b mb n G d) :
    Calls Tryz.prog 48 #[.pointer (some ⟨b, 0, none⟩)] w fun e w' => ∃ v ts, e = .returned v ∧ Names G ts ∧ ts.length ≤ n ∧ w'.ownsRow w.heap.size 9 1 v ts.length (ts.map encStr) ∧ w.grownBy w' none := by
  obtain ⟨i0, hi, hz0, hz1, hz2⟩ := info_parts Tryz.info05_string
  have c0 := h.c0
  have hn := h.n1
  have H := Lib.hid h
  obtain ⟨D0, hown, hD1, hD2⟩ := h.map
  have HD2 := Lib.hid hD2
  have hsz := hown.size_le
  have hmx : Maps.size D0 ≤ 1000000 := Nat.le_trans hsz hn
  have HM := Lib.hid hmx
  have HS := Lib.hid hsz
  have hbl := hown.lt
  have HBL := Lib.hid hbl
  clear h hD1 hD2 hn hsz hmx hbl
  go_enter Tryz.func48, Tryz.ntmps48
  go_wp2_with (first
    | (at_len; refine wpList_len_own _ rfl _ 56 rfl 9 85 Tryz.underlying56 Rp mb n _ rfl hown ?_)
    | (at_make; refine wpList_make_own _ rfl _ _ 34 rfl w.heap.size 9 i0 (.string ⟨#[]⟩) 1 Tryz.underlying34 hi hz0 hz1 _ _ _ (Maps.size D0) rfl rfl rfl (by have := HM.out; rw [hz2]; omega) (by have := HM.out; show _ ≤ 2^63-1; omega) (Nat.le_refl _) ?_
       intro w1 hrow1 hg1
       have HG1 := Lib.hid hg1
       have HRow1 := Lib.hid hrow1
       have c0 := (H.out.keep HG1.out).c0
       clear hg1 hrow1)
    | (at_range; refine wpList_range_own _ rfl _ 56 rfl 9 85 strKeyed Tryz.underlying56 Rp mb n _ rfl (hown.kept HG1.out (by simp)) ?_; intro w0 hrg0 hg0 hs0))
  clear hs0
  go_frame
  go_loopw [3] (fun v wr => ∃ (left : Lit → Bool) (cnt : Nat) (ss : List (List UInt8)), wr.ranges Tryz.prog 9 Rp mb w1.heap.size n D0 left cnt ∧ ss.length + cnt ≤ Maps.size D0 ∧
      wr.ownsRow w.heap.size 9 1 v ss.length (ss.map encStr) ∧ v ≠ .slice none 0 0 ∧ Collected D0 left ss ∧ w.grownBy wr none)
    (fun _ wr => wr.rangeLeft mb w1.heap.size)
  case atStart =>
    exact ⟨_, _, [], hrg0, by simp, HRow1.out.kept hg0 (Or.inr (by simp [Value.ownBlock])), by simp, Collected.start D0, grow_none HG1.out hg0⟩
  case round =>
    obtain ⟨left, cnt, ss, hrg, hcs, hrow, hnn, hC, hnx⟩ := hrel
    have HRG := Lib.hid hrg
    have HC := Lib.hid hC
    have HNX := Lib.hid hnx
    have HROW := Lib.hid hrow
    have HCS := Lib.hid hcs
    clear hC hnx hcs
    go_wp2_with (at_next; refine wpList_next_ranges _ rfl _ rfl 9 strKeyed Rp encStr Pp (fun key kl hk => by obtain ⟨x, hx, _⟩ := Maps.keyOf_str Tryz.underlying9 hk; exact ⟨x, hx⟩) (fun v y hv => Rp_inv' hv) mb w1.heap.size n _ _ _ rfl hrg ?_ ?_)
    · intro hc0 hl0
      rcases HROW.out.2 with ⟨hnil, _⟩ | ⟨g, cap, cur, rfl, hbase, hb, h1, h2, h3, h4⟩
      · exact absurd hnil hnn
      have hH : Holds encStr wr g 0 ss.toArray := holds_of_block hb (by simpa using h4)
      have hgl : g < wr.heap.size := (Array.getElem?_eq_some_iff.1 hb).1
      have HF : Hid (Names G (ss.mergeSort leB) ∧ (ss.mergeSort leB).length = ss.length) := by
        refine ⟨⟨ss, HC.out.1, fun x => ?_, fun x hx => strKeys_le HRG.out.owns Tryz.underlying9 x ((HC.out.perm HRG.out.owns strKeyed Tryz.underlying9 hl0).mem_iff.1 hx), rfl⟩, List.length_mergeSort _⟩
        rw [HC.out.2 x, hl0, ← HD2.out ⟨x.toArray⟩]
        simp
      have HL : Hid (ss.length ≤ n ∧ w.heap.size ≤ g) := ⟨by have := HS.out; have := HCS.out; omega, hbase⟩
      have SO := Lib.hid (Tryz.slices_Sort_string g 0 cap ss wr hH hgl (by have := HCS.out; have := HM.out; omega))
      have HB := Lib.hid (show _ ∧ _ ∧ _ ∧ _ from ⟨hb, h1, h2, h3⟩)
      clear hH hgl hb h1 h2 h3 h4 hbase hrow HRG hrg hl0 hc0
      go_wp2_with fail
      refine SO.out.mono ?_
      rintro e w' ⟨rfl, nn, os, rfl⟩
      go_wp2
      go_ret
      refine ⟨_, ss.mergeSort leB, rfl, HF.out.1, by rw [HF.out.2]; exact HL.out.1, ?_, grow_new HNX.out HL.out.2 (grownBy_sorted _)⟩
      rw [HF.out.2]
      exact ownsRow_sorted HF.out.2 HL.out.2 HB.out.1 HB.out.2.1 HB.out.2.2.1 HB.out.2.2.2
    · intro x c kl yd yp w2 cnt2 hkey hlk hv hat hrg2 hlt hg2 hs2 hen
      obtain ⟨x', ex, rfl, _⟩ := Maps.keyOf_str Tryz.underlying9 hkey
      obtain rfl : x = x' := encStr_inj ex
      have hrow2 := HROW.out.kept hg2 (Or.inr (row_ne_iter HROW.out HRG.out).symm)
      have HR2 := Lib.hid hrow2
      have HRG2 := Lib.hid hrg2
      have HG2 := Lib.hid hg2
      have HLT := Lib.hid hlt
      have HAT := Lib.hid (show _ ∧ _ from ⟨hlk, hat⟩)
      clear hs2 hrow hrow2 hrg2 hg2 hlt hlk hat hrg hkey hv
      go_wp2_with (at_builtin; refine wpList_append_own _ rfl _ _ 34 rfl w.heap.size 9 i0 (.string ⟨#[]⟩) 1 16 Tryz.underlying34 hi hz0 hz1 hz2 rfl (by decide) _ _ _ rfl (HR2.out.alloc _) ⟨w2.heap.size, 0, none⟩ 1 1 [encStr x] rfl rfl (cell_one_new _ _ _) (by simp [Value.oneCell', encStr]) (by have := HCS.out; have := HM.out; have := HLT.out; unfold maxLen; omega) (by have := HCS.out; have := HM.out; have := HLT.out; omega) (by have := HNX.out.size; have := HG2.out.size; simp; omega) ?_
                   intro v' w3 hown' hg3 hnil3)
      have hrg3 := (HRG2.out.alloc _).kept hg3 (row_ne_low HR2.out HBL.out) (row_ne_iter HR2.out HRG2.out)
      have HRG3 := Lib.hid hrg3
      have HO := Lib.hid hown'
      have HN := Lib.hid hnil3
      have HGF : Hid (w.grownBy w3 none) := grow_newblk (grow_then_none (grow_new HNX.out (by exact HG1.out.size) HG2.out) (World.grownBy_alloc _ _ none)) (fun j hj => (HR2.out.lt j hj).1) hg3
      clear hrg3 hown' hnil3 hg3
      go_roundw
      case rel =>
        refine ⟨_, cnt2, ss ++ [x], HRG3.out, by have := HCS.out; have := HLT.out; simp; omega, by simpa using HO.out, fun hv' => by have := (HN.out.1 hv').2; omega, HC.out.step HAT.out.1 HAT.out.2, HGF.out⟩
      case measure => rw [HRG3.out.left_eq, HRG.out.left_eq]; exact HLT.out
end Go.Proofs.YtphljjgjpkdpmaaGreatDoor
/- Stage 5: a loss of power. -/
namespace Go.Proofs.YtphljjgjpkdpmaaGreatDoor
open Go.RowKit Go.Maps Go.Sort
set_option linter.unusedVariables false
/-- The slice reads as the list; its block is none of S. -/
def RowN (S : Nat → Prop) (w : World) (v : Value) (xs : List Value) : Prop :=
  ∃ a cap, v = .slice a xs.length cap ∧ xs.length ≤ cap ∧ (xs = [] ∨ ∃ b off, a = some ⟨b, off, none⟩ ∧ b < w.heap.size ∧ ¬ S b ∧ ∀ j, j < xs.length → w.cell? ⟨b, off + j, none⟩ = some (xs.getD j undef))
theorem RowN.chg {S : Nat → Prop} {w w' : World} {v : Value} {xs : List Value} (h : RowN S w v xs) (g : Chg S w w') : RowN S w' v xs := by
  obtain ⟨a, cap, rfl, hc, h⟩ := h
  refine ⟨a, cap, rfl, hc, ?_⟩
  rcases h with h | ⟨b, off, rfl, hb, hn, h⟩
  · exact .inl h
  · exact .inr ⟨b, off, rfl, Nat.lt_of_lt_of_le hb g.size, hn, fun j hj => by rw [← h j hj]; exact World.cell?_of_block (g.block b hb hn)⟩
theorem RowN.nil (S : Nat → Prop) (w : World) (a : Option Addr) (c : Nat) : RowN S w (.slice a 0 c) [] := ⟨a, c, rfl, Nat.zero_le _, .inl rfl⟩
theorem RowN.of_own {S : Nat → Prop} {w : World} {e : TypeId} {base : Nat} {v : Value} {n : Nat} {xs : List Value} (h : w.ownsRow base e 1 v n xs) (hS : ∀ i, base ≤ i → ¬ S i) : RowN S w v xs := by
  have hl : xs.length = n := by have := h.1; omega
  rcases h.2 with ⟨rfl, rfl⟩ | ⟨g, cap, cur, rfl, hb, hh, h1, h2, h3, h4⟩
  · have : xs = [] := List.eq_nil_of_length_eq_zero hl
    subst this
    exact ⟨none, 0, rfl, Nat.zero_le _, .inl rfl⟩
  · subst hl
    refine ⟨_, cap, rfl, h1, .inr ⟨g, 0, rfl, (Array.getElem?_eq_some_iff.1 hh).1, hS g hb, fun j hj => ?_⟩⟩
    have := h.cells (g := g) rfl j (xs.getD j undef) (by simp [List.getD, List.getElem?_eq_getElem hj])
    have hadd : (⟨g, 0, none⟩ : Addr).add j = ⟨g, j, none⟩ := by unfold Addr.add; split <;> simp_all
    rw [hadd] at this
    rw [Nat.zero_add]
    exact this
abbrev nm (x : List UInt8) : ByteArray := ⟨x.toArray⟩
/-- A file at a loss of power. -/
def crS (p : (ByteArray → Option Ent) × List Int) (s : ByteArray) : (ByteArray → Option Ent) × List Int :=
  match p.1 s with
  | none => p
  | some e =>
    (putE p.1 s (if e.s = false ∧ (settleE e (if e.w.size = 0 then 0 else p.2.headD 0)).l.size = 0 then none else some { settleE e (if e.w.size = 0 then 0 else p.2.headD 0) with s := true }), if e.w.size = 0 then p.2 else p.2.tail)
def crK (F : ByteArray → Option Ent) (ks : List Int) (ts : List (List UInt8)) (k : Nat) : (ByteArray → Option Ent) × List Int := (ts.take k).foldl (fun p x => crS p (nm x)) (F, ks)
theorem crK_succ (F : ByteArray → Option Ent) (ks : List Int) (ts : List (List UInt8)) (k : Nat) (h : k < ts.length) : crK F ks ts (k + 1) = crS (crK F ks ts k) (nm ts[k]) := by
  unfold crK
  rw [List.take_succ_eq_append_getElem h, List.foldl_append]; rfl
theorem nm_inj {x y : List UInt8} (h : nm x = nm y) : x = y := by
  have := congrArg (fun z : ByteArray => z.data.toList) h
  simpa [nm] using this
theorem crS_other (p : (ByteArray → Option Ent) × List Int) (s t : ByteArray) (h : t ≠ s) : (crS p s).1 t = p.1 t := by
  unfold crS
  split
  · rfl
  · show putE _ _ _ t = _
    unfold putE; rw [if_neg h]
theorem crK_other (F : ByteArray → Option Ent) (ks : List Int) (ts : List (List UInt8)) : ∀ k, k ≤ ts.length → ∀ s : ByteArray, (∀ j (h : j < ts.length), j < k → s ≠ nm ts[j]) → (crK F ks ts k).1 s = F s
  | 0, _, s, _ => rfl
  | k + 1, hk, s, h => by
    rw [crK_succ F ks ts k (by omega), crS_other _ _ _ (h k (by omega) (by omega))]
    exact crK_other F ks ts k (by omega) s (fun j hj hl => h j hj (by omega))
theorem crK_here (F : ByteArray → Option Ent) (ks : List Int) (ts : List (List UInt8)) (hn : ts.Nodup) (k : Nat) (hk : k < ts.length) : (crK F ks ts k).1 (nm ts[k]) = F (nm ts[k]) :=
  crK_other F ks ts k (by omega) _ (fun j hj hl e => by
    have := (List.nodup_iff_pairwise_ne.1 hn)
    rw [List.pairwise_iff_getElem] at this
    exact this j k hj hk hl (nm_inj e).symm)
section
variable {w w2 w3 : World} {b mb n : Nat} {G : ByteArray → Option Nat} {d : Dk}
theorem DEnd.crDel (h : DAt w b mb n G d) (s : ByteArray) (g : Nat) (hg : G s = some g) (e : Ent) (hb : FB w2 g e) (hs : e.sz ≤ 1048576) (g2 : w.grownBy w2 (some g))
    (hm : MapG w3 mb n (putG G s none)) (g3 : w2.grownBy w3 (some mb)) (v : Value) : DEnd b mb G n { d with F := putE d.F s none } w (w3.setCell ⟨g, 2, none⟩ v) := by
  have h2 := h.file s g hg e hb hs g2
  have h3 := h2.mapDel s hm g3
  have e1 : putE (putE d.F s (some e)) s none = putE d.F s none := by
    funext x; unfold putE; split <;> rfl
  have h3' : DAt w3 b mb n (putG G s none) { d with F := putE d.F s none } := by rw [← e1]; exact h3
  have c : Chg (fun i => i = g) w3 (w3.setCell ⟨g, 2, none⟩ v) := Chg.of_row (grow_set w3 ⟨g, 2, none⟩ v) (fun i hi _ => by injection hi with hi; exact hi.symm)
  have hf := h.far s g hg
  refine ⟨putG G s none, h3'.chg c (fun i hi hx => ?_), ?_, fun t x hx => .inl ⟨t, (putG_old s t x hx).2⟩⟩
  · subst hx
    rcases hi with y | y | ⟨t, y⟩
    · exact hf.1 y
    · exact hf.2 y
    · have := putG_old s t _ y
      exact this.1 (h.inj t s _ this.2 hg)
  · refine Chg.trans (T := DS b mb G) (Chg.trans (T := DS b mb G) (Chg.of_row g2 (fun i hi _ => ?_)) (Chg.of_row g3 (fun i hi _ => ?_)) (fun _ _ x => x)) (Chg.of_row (grow_set w3 ⟨g, 2, none⟩ v) (fun i hi _ => ?_)) (fun _ _ x => x)
    · injection hi with hi; subst hi; exact .inr (.inr ⟨s, hg⟩)
    · injection hi with hi; exact .inr (.inl hi.symm)
    · injection hi with hi; subst hi; exact .inr (.inr ⟨s, hg⟩)
end
end Go.Proofs.YtphljjgjpkdpmaaGreatDoor
/- Stage 5: Names, without what speaks of redoubtlaw05. -/
namespace Go.Proofs.YtphljjgjpkdpmaaGreatDoor
open Go.RowKit Go.Maps Go.Sort
set_option linter.unusedVariables false
def namesP (ts : List (List UInt8)) (p : ByteArray) : List (List UInt8) := ts.filter (fun x => Lib.hasPrefix x p.data.toList)
def NamesE (G : ByteArray → Option Nat) (n : Nat) (d : Dk) (p : ByteArray) (w : World) (e : Ending) (w' : World) : Prop :=
  ∃ v l, e = .returned v ∧ ((d.down = true ∧ l = []) ∨ (d.down = false ∧ ∃ ts, Names G ts ∧ l = namesP ts p)) ∧ l.length ≤ n ∧ w'.ownsRow 0 9 1 v l.length (l.map encStr) ∧ NewBlk w v ∧ w.grownBy w' none
set_option maxRecDepth 100000 in
set_option maxHeartbeats 2000000 in
theorem Names_any (b mb n : Nat) (G : ByteArray → Option Nat) (d : Dk) (p : ByteArray) (w : World) (h : DAt w b mb n G d) :
    Calls Tryz.prog 25 #[.pointer (some ⟨b, 0, none⟩), .string p] w (NamesE G n d p w) := by
  obtain ⟨i0, hi, hz0, hz1, hz2⟩ := info_parts Tryz.info05_string
  have c3 := h.c3
  have H := Lib.hid h
  have HN1 := Lib.hid h.n1
  clear h
  unfold NamesE
  cases hd : d.down
  · rw [hd] at c3
    clear hd
    go_enter Tryz.func25, Tryz.ntmps25
    go_wp2_with fail
    refine (all_any b mb n G d w H.out).mono ?_
    rintro e w1 ⟨vl, ts, rfl, hN, hln, hown, g1⟩
    have HN := Lib.hid hN
    have HLN := Lib.hid hln
    have HG1 := Lib.hid g1
    have hL := RowN.of_own (S := DS b mb G) hown (fun i hi hs => by have := H.out.live i hs; omega)
    have hlen : (ts.length : Int) ≤ 1000000 := by have := HN1.out; omega
    obtain ⟨al, cl, rfl, hcl, hcells⟩ := hL
    have HCELL := Lib.hid hcells
    rw [List.length_map]
    clear hN hln g1 hown hcl hcells
    go_wp2
    go_loopw [5, 19] (fun v i wr => ∃ k : Nat, k ≤ ts.length ∧ i = .int .i64 k ∧ (namesP (ts.take k) p).length ≤ k ∧ wr.ownsRow 0 9 1 v (namesP (ts.take k) p).length ((namesP (ts.take k) p).map encStr) ∧ NewBlk w1 v ∧ w1.grownBy wr none) (fun _ i _ => ts.length - (intOf i).toNat)
    case atStart => exact ⟨0, Nat.zero_le _, rfl, Nat.le_refl _, ⟨rfl, .inl ⟨rfl, rfl⟩⟩, newblk_nil _, grow_refl _ _⟩
    case round =>
      obtain ⟨k, hk, rfl, hfl, hrow, hnb, hg⟩ := hrel
      by_cases hlt : k < ts.length
      · obtain ⟨s, hs⟩ : ∃ s, s = nm ts[k] := ⟨_, rfl⟩
        have HK := Lib.hid hlt
        have i1 : (k : Int) < ts.length := by omega
        have i0' : (0 : Int) ≤ k := by omega
        obtain ⟨bl, ol, rfl, hbl, hcl⟩ : ∃ bl ol, al = some ⟨bl, ol, none⟩ ∧ bl < w1.heap.size ∧ w1.cell? ⟨bl, ol + k, none⟩ = some (.string s) := by
          rcases HCELL.out with y | ⟨bl, ol, y1, y2, y3, y4⟩
          · have : ts.length = 0 := by have := congrArg List.length y; simpa using this
            omega
          · refine ⟨bl, ol, y1, y2, ?_⟩
            rw [y4 k (by simpa using hlt), hs]
            simp [List.getD, List.getElem?_eq_getElem hlt]
        have cl1 : wr.cell? ⟨bl, ol + k, none⟩ = some (.string s) := by rw [← hcl]; exact World.cell?_of_block (hg.block bl hbl (by simp))
        have HST : Hid (namesP (ts.take (k + 1)) p = namesP (ts.take k) p ++ (if Lib.hasPrefix s.data.toList p.data.toList then [ts[k]] else [])) := by
          show _ = _
          unfold namesP
          rw [List.take_succ_eq_append_getElem hlt, List.filter_append, hs]
          congr 1
          rw [List.filter_cons, List.filter_nil]
          rfl
        have HX := Lib.hid (show s = nm ts[k] from hs)
        have HROW := Lib.hid hrow
        have HNB := Lib.hid hnb
        have HG := Lib.hid hg
        have HFL := Lib.hid hfl
        clear hk hfl hrow hnb hg hs hcl hlt
        go_wp2_with fail
        refine (Tryz.strings_HasPrefix s p wr).mono ?_
        rintro e w2 ⟨rfl, rfl⟩
        cases hp : Lib.hasPrefix s.data.toList p.data.toList
        · have HS2 : Hid (namesP (ts.take (k + 1)) p = namesP (ts.take k) p) := by show _ = _; rw [HST.out, hp]; simp
          clear hp
          go_wp2_with fail
          go_roundw
          case rel => exact ⟨k + 1, by have := HK.out; omega, by go_num, by rw [HS2.out]; have := HFL.out; omega, by rw [HS2.out]; exact HROW.out, HNB.out, HG.out⟩
          case measure => have := HK.out; simp [intOf]; omega
        · have HS2 : Hid (namesP (ts.take (k + 1)) p = namesP (ts.take k) p ++ [ts[k]'HK.out]) := by show _ = _; rw [HST.out, hp]; rfl
          clear hp
          go_wp2_with (at_builtin; refine wpList_append_row _ rfl _ _ 34 rfl 9 i0 (.string ⟨#[]⟩) 16 Tryz.underlying34 hi hz0 hz1 hz2 rfl _ (namesP (ts.take k) p).length ((namesP (ts.take k) p).map encStr) rfl (HROW.out.alloc _) _ [Value.string s] rfl (RowAt.lit w2 [Value.string s] _ _ _ rfl) (by intro u hu; simp at hu; subst hu; rfl) (by have := HFL.out; have := HK.out; have := HLN.out; have := HN1.out; show _ + 1 ≤ 2^63-1; omega) (by have := HFL.out; have := HK.out; have := HLN.out; have := HN1.out; show (_ + 1) * 16 ≤ _; omega) ?_)
          intro v8 w8 o8 g8 m8
          have NB8 := Lib.hid (HNB.out.moved (by have := HG.out.size; simp; omega) m8)
          have G8 := Lib.hid (grow_newblk (grow_then_none HG.out (World.grownBy_alloc _ _ none)) HNB.out g8)
          have O8 : Hid (w8.ownsRow 0 9 1 v8 (namesP (ts.take (k + 1)) p).length ((namesP (ts.take (k + 1)) p).map encStr)) := by
            show World.ownsRow _ _ _ _ _ _ _
            rw [HS2.out, List.length_append, List.map_append]
            have := o8
            rw [HX.out] at this
            exact this
          clear o8 g8 m8
          go_wp2_with fail
          go_roundw
          case rel => exact ⟨k + 1, by have := HK.out; omega, by go_num, by rw [HS2.out, List.length_append]; have := HFL.out; simp; omega, O8.out, NB8.out, G8.out⟩
          case measure => have := HK.out; simp [intOf]; omega
      · obtain rfl : k = ts.length := by omega
        have HROW := Lib.hid hrow
        rw [List.take_length] at hrow hfl
        have hfin := Lib.hid (show _ ∧ _ ∧ _ ∧ _ from ⟨hrow, hfl, hnb, hg⟩)
        clear hrow hfl hnb hg hlt hk HROW
        go_wp2_with fail
        go_ret
        refine ⟨_, namesP ts p, rfl, .inr ⟨by simp, ts, HN.out, rfl⟩, by have := hfin.out.2.1; have := HLN.out; omega, hfin.out.1, fun j hj => ?_, grow_none HG1.out hfin.out.2.2.2⟩
        have := hfin.out.2.2.1 j hj
        have := HG1.out.size
        omega
  · rw [hd] at c3
    clear hd
    go_enter Tryz.func25, Tryz.ntmps25
    go_wp2_with fail
    go_ret
    exact ⟨_, [], rfl, .inl ⟨by simp, rfl⟩, Nat.zero_le _, ⟨rfl, .inl ⟨rfl, rfl⟩⟩, newblk_nil _, grow_refl _ _⟩
end Go.Proofs.YtphljjgjpkdpmaaGreatDoor
/- Stage 5: a drive's names as its files tell them, without what speaks of redoubtlaw05. -/
namespace Go.Proofs.YtphljjgjpkdpmaaGreatDoor
open Go.RowKit Go.Maps Go.Sort
set_option linter.unusedVariables false
theorem Names.of {w : World} {b mb n : Nat} {G : ByteArray → Option Nat} {d : Dk} {ts : List (List UInt8)} (h : DAt w b mb n G d) (hN : Names G ts) (x : List UInt8) : x ∈ ts ↔ (d.F (nm x)).isSome = true := by
  rw [hN.mem x]
  cases hg : G (nm x) with
  | none => rw [h.non _ hg]; simp
  | some g => obtain ⟨e, he, _⟩ := h.ent _ g hg; rw [he]; simp
def NamesF (F : ByteArray → Option Ent) (ts : List (List UInt8)) : Prop := ∃ ss : List (List UInt8), ss.Nodup ∧ (∀ x, x ∈ ss ↔ (F (nm x)).isSome = true) ∧ ts = ss.mergeSort leB
theorem Names.toF {w : World} {b mb n : Nat} {G : ByteArray → Option Nat} {d : Dk} {ts : List (List UInt8)} (h : DAt w b mb n G d) (hN : Names G ts) : NamesF d.F ts := by
  obtain ⟨ss, h1, h2, h3, rfl⟩ := hN
  refine ⟨ss, h1, fun x => ?_, rfl⟩
  have : Names G (ss.mergeSort leB) := ⟨ss, h1, h2, h3, rfl⟩
  rw [← Names.of h this x]
  exact (List.mergeSort_perm ss leB).mem_iff.symm
theorem NamesF.mem {F : ByteArray → Option Ent} {ts : List (List UInt8)} (h : NamesF F ts) (x : List UInt8) : x ∈ ts ↔ (F (nm x)).isSome = true := by
  obtain ⟨ss, h1, h2, rfl⟩ := h
  rw [(List.mergeSort_perm ss leB).mem_iff]; exact h2 x
theorem NamesF.nodup {F : ByteArray → Option Ent} {ts : List (List UInt8)} (h : NamesF F ts) : ts.Nodup := by
  obtain ⟨ss, h1, _, rfl⟩ := h
  exact (List.mergeSort_perm ss leB).nodup_iff.2 h1
end Go.Proofs.YtphljjgjpkdpmaaGreatDoor
