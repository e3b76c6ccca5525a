/- Several texts in one: WalB. -/
import Derived.Test.YtphljjgjpkdpmaaGreatDoorK13
import Derived.Test.YtphljjgjpkdpmaaGreatDoorK15
import Derived.Test.YtphljjgjpkdpmaaGreatDoorK5
/- Several texts in one: WlI WlJ WlK WlL WlM WlN WlO WlP. -/
namespace Go.Proofs.YtphljjgjpkdpmaaGreatDoor
open Go.RowKit
set_option linter.unusedVariables false
/-- A log in block lb, its drive in block db, apart from one another. -/
structure WAt (w : World) (lb db mb n : Nat) (G : ByteArray → Option Nat) (c : Lc) (d : Dk) : Prop where
  log : LAt w lb db c
  dr : DAt w db mb n G d
  far : ¬ DS db mb G lb
/-- Behind a call the log counts c', the drive is d', and only their own blocks are other ones. -/
def WEnd (lb db mb : Nat) (G : ByteArray → Option Nat) (n' : Nat) (c' : Lc) (d' : Dk) (w w' : World) : Prop :=
  ∃ G', WAt w' lb db mb n' G' c' d' ∧ Chg (fun i => i = lb ∨ DS db mb G i) w w' ∧ ∀ s g, G' s = some g → (∃ t, G t = some g) ∨ w.heap.size ≤ g
section
variable {w w1 w' : World} {lb db mb n n' n1 : Nat} {G : ByteArray → Option Nat} {c c' c1 : Lc} {d d' d1 : Dk}
theorem WAt.lt (h : WAt w lb db mb n G c d) : lb < w.heap.size := Blk.lt h.log
theorem WAt.keep (h : WAt w lb db mb n G c d) (g : w.grownBy w' none) : WAt w' lb db mb n G c d := ⟨Blk.keep h.log g, h.dr.keep g, h.far⟩
theorem WEnd.same (h : WAt w lb db mb n G c d) (g : w.grownBy w' none) : WEnd lb db mb G n c d w w' := ⟨G, h.keep g, Chg.of_none g, fun s x hx => .inl ⟨s, hx⟩⟩
/-- A call of the drive's. -/
theorem WEnd.drive (h : WAt w lb db mb n G c d) (k : DEnd db mb G n' d' w w') : WEnd lb db mb G n' c d' w w' := by
  obtain ⟨G', h1, h2, h3⟩ := k
  refine ⟨G', ⟨h2.blk h.log h.far, h1, ?_⟩, ⟨h2.os, h2.tape, h2.output, h2.size, fun i hi hn => h2.block i hi (fun x => hn (.inr x))⟩, h3⟩
  rintro (x | x | ⟨s, x⟩)
  · exact h.far (.inl x)
  · exact h.far (.inr (.inl x))
  · rcases h3 s lb x with y | y
    · exact h.far (.inr (.inr y))
    · have := h.lt; omega
/-- The log's own block is written. -/
theorem WEnd.own (h : WAt w lb db mb n G c d) (k : LAt w' lb db c') (g : w.grownBy w' (some lb)) : WEnd lb db mb G n c' d w w' :=
  ⟨G, ⟨k, h.dr.chg (Chg.of_row (S := fun i => i = lb) g (fun i hi _ => by injection hi with hi; exact hi.symm)) (fun i hi e => h.far (e ▸ hi)), h.far⟩, Chg.of_row g (fun i hi _ => .inl (by injection hi with hi; exact hi.symm)), fun s x hx => .inl ⟨s, hx⟩⟩
theorem WEnd.more (h : WEnd lb db mb G n1 c1 d1 w w1) (k : ∀ G', WAt w1 lb db mb n1 G' c1 d1 → WEnd lb db mb G' n' c' d' w1 w') : WEnd lb db mb G n' c' d' w w' := by
  obtain ⟨G1, h1, h2, h3⟩ := h
  obtain ⟨G2, k1, k2, k3⟩ := k G1 h1
  refine ⟨G2, k1, h2.trans k2 (fun i hi hs => ?_), fun s x hx => ?_⟩
  · rcases hs with y | y | y | ⟨t, y⟩
    · exact .inl y
    · exact .inr (.inl y)
    · exact .inr (.inr (.inl y))
    · rcases h3 t i y with z | z
      · exact .inr (.inr (.inr z))
      · omega
  · rcases k3 s x hx with ⟨t, y⟩ | y
    · exact h3 t x y
    · exact .inr (Nat.le_trans h2.size y)
theorem WEnd.after {G1 : ByteArray → Option Nat} (h2 : Chg (fun i => i = lb ∨ DS db mb G i) w w1) (h3 : ∀ s g, G1 s = some g → (∃ t, G t = some g) ∨ w.heap.size ≤ g) (k : WEnd lb db mb G1 n' c' d' w1 w') : WEnd lb db mb G n' c' d' w w' := by
  obtain ⟨G2, k1, k2, k3⟩ := k
  refine ⟨G2, k1, h2.trans k2 (fun i hi hs => ?_), fun s x hx => ?_⟩
  · rcases hs with y | y | y | ⟨t, y⟩
    · exact .inl y
    · exact .inr (.inl y)
    · exact .inr (.inr (.inl y))
    · rcases h3 t i y with z | z
      · exact .inr (.inr (.inr z))
      · omega
  · rcases k3 s x hx with ⟨t, y⟩ | y
    · exact h3 t x y
    · exact .inr (Nat.le_trans h2.size y)
theorem WEnd.back (h : WEnd lb db mb G n1 c1 d1 w w1) (g : w1.grownBy w' none) : WEnd lb db mb G n1 c1 d1 w w' := h.more fun G' k => WEnd.same k g
theorem WEnd.front (h : WAt w lb db mb n G c d) (g : w.grownBy w1 none) (k : WEnd lb db mb G n' c' d' w1 w') : WEnd lb db mb G n' c' d' w w' := by
  obtain ⟨G', h1, h2, h3⟩ := k
  refine ⟨G', h1, (Chg.of_none g (S := fun i => i = lb ∨ DS db mb G i)).trans h2 (fun _ _ h => h), fun s x hx => ?_⟩
  rcases h3 s x hx with y | y
  · exact .inl y
  · exact .inr (Nat.le_trans g.size y)
end
/-- The variables that are read, all below block B. -/
structure Va (B : Nat) (w : World) : Prop where
  nv : Nv w
  mv : Mv w
  lo : ∀ s k, (s = "internal/strconv.uint64pow10" ∨ s = "strconv.ErrSyntax" ∨ s = "strconv.ErrRange") → Tryz.prog.globalNamed s = some k → k < B
  mlo : 3 < B
theorem var_below {P : Program} {w w' : World} {n : String} {cs : Array Value} {B : Nat} (h : w.var? P n = some cs) (hl : ∀ k, P.globalNamed n = some k → k < B) (g : Below B w w') : w'.var? P n = some cs := by
  unfold World.var? at h ⊢
  cases hg : P.globalNamed n with
  | none => rw [hg] at h; cases h
  | some k =>
    rw [hg] at h
    simp only [Option.bind_some] at h ⊢
    rw [g.block k (hl k hg)]
    exact h
theorem Va.below {B : Nat} {w w' : World} (h : Va B w) (g : Below B w w') : Va B w' :=
  ⟨⟨var_below h.nv.tab (fun k hk => h.lo _ k (.inl rfl) hk) g, let ⟨tp, p, e⟩ := h.nv.syn; ⟨tp, p, var_below e (fun k hk => h.lo _ k (.inr (.inl rfl)) hk) g⟩, let ⟨tp, p, e⟩ := h.nv.rng; ⟨tp, p, var_below e (fun k hk => h.lo _ k (.inr (.inr rfl)) hk) g⟩⟩,
    fun j hj => by rw [← h.mv j hj]; exact World.cell?_of_block (g.block _ h.mlo), h.lo, h.mlo⟩
theorem Va.keep {B : Nat} {w w' : World} (h : Va B w) (g : w.grownBy w' none) : Va B w' := ⟨h.nv.kept g, h.mv.kept g, h.lo, h.mlo⟩
/-- What a log and its drive own lies at B or above. -/
def Lo (B lb db mb : Nat) (G : ByteArray → Option Nat) : Prop := ∀ i, (i = lb ∨ DS db mb G i) → B ≤ i
theorem Va.over {B : Nat} {w w' : World} {lb db mb n' : Nat} {G : ByteArray → Option Nat} {c' : Lc} {d' : Dk} (h : Va B w) (hl : Lo B lb db mb G) (hB : B ≤ w.heap.size) (k : WEnd lb db mb G n' c' d' w w') : Va B w' := by
  obtain ⟨G', _, k2, _⟩ := k
  exact h.below (k2.below hB hl)
def writeC (d : Dk) (s x : ByteArray) : Int := if appC d s x ≠ 0 then appC d s x else stepOfC (appD d s x) s
def writeD (d : Dk) (s x : ByteArray) : Dk := if appC d s x ≠ 0 then appD d s x else syncD (appD d s x) s
def writeL (c : Lc) (d : Dk) (k : Nat) (x : ByteArray) : Lc := if writeC d (nameW k) x = 0 then growC c k x.size else c
theorem nameW_le {n : Nat} (h : n ≤ 1000000000) : (nameW n).size ≤ 14 := by
  have := dec_len (n := n) (by omega)
  rw [nameW_size]; omega
theorem steps_app (d : Dk) (s x : ByteArray) : (appD d s x).steps ≤ d.steps + 1 := by
  unfold appD stepD
  repeat' split
  all_goals (try simp only)
  all_goals omega
set_option maxRecDepth 100000 in
set_option maxHeartbeats 1000000 in
theorem write_any (lb db mb n : Nat) (G : ByteArray → Option Nat) (c : Lc) (d : Dk) (k : Nat) (x : ByteArray) (w : World) (h : WAt w lb db mb n G c d) (B : Nat) (hv : Va B w) (hlo : Lo B lb db mb G) (hB : B ≤ w.heap.size) (hc : LcOk c)
    (hk : 1 ≤ k) (hk2 : k ≤ 1000000000) (hx : x.size ≤ 100000000) (hst : d.steps + 1 < 1000000) (hn : n < 1000000) :
    Calls Tryz.prog 43 #[.pointer (some ⟨lb, 0, none⟩), .int .i64 k, .string x] w fun e w' => e = .returned (.int .i64 (writeC d (nameW k) x)) ∧ ∃ n', n' ≤ n + 1 ∧ WEnd lb db mb G n' (writeL c d k x) (writeD d (nameW k) x) w w' := by
  have hmx : maxLen = 9223372036854775807 := by decide
  have hsz := nameW_le hk2
  obtain ⟨s, hs⟩ : ∃ s, s = nameW k := ⟨_, rfl⟩
  have HV := Lib.hid hv
  have HLO := Lib.hid hlo
  have HBB := Lib.hid hB
  have HN : Hid (∀ w2 : World, Nv w2 → Calls Tryz.prog 47 #[.int .i64 (k : Int)] w2 fun e w' => e = .returned (.string s) ∧ w2.grownBy w' none) := by
    intro w2 g
    rw [hs]
    exact nameOf_any k w2 hk2 g
  have HL : Hid (writeL c d k x = if writeC d s x = 0 then growC c k x.size else c) := by show _ = _; rw [hs]; rfl
  rw [← hs] at hsz ⊢
  have HA := Lib.hid fun (w2 : World) (h2 : DAt w2 db mb n G d) => Append_any db mb n G d s x w2 h2 (by omega) (by omega) (by omega) hn
  have hst2 := steps_app d s x
  have HW := Lib.hid h
  have c4 := h.log.c4
  by_cases ha : appC d s x = 0
  · have hsn : s.size ≤ maxLen := by omega
    have HS := Lib.hid fun (G' : ByteArray → Option Nat) (n' : Nat) (w2 : World) (h2 : DAt w2 db mb n' G' (appD d s x)) => Sync_any db mb n' G' (appD d s x) s w2 h2 hsn (by omega)
    have hx2 : x.size ≤ 100000000 := hx
    by_cases hy : stepOfC (appD d s x) s = 0
    · have HE : Hid (writeC d s x = stepOfC (appD d s x) s ∧ writeD d s x = syncD (appD d s x) s) := by
        unfold writeC writeD
        rw [if_neg (fun h => h ha), if_neg (fun h => h ha)]; exact ⟨rfl, rfl⟩
      have HL2 : Hid (writeL c d k x = growC c k x.size) := by show _ = _; rw [HL.out, if_pos (by rw [HE.out.1]; exact hy)]
      rw [HE.out.1, HE.out.2, HL2.out]
      rw [ha] at HA
      rw [hy] at HS ⊢
      generalize syncD (appD d s x) s = SD at *
      have HC := Lib.hid hc
      have HK := Lib.hid hk
      have HX := Lib.hid hx
      generalize appD d s x = AD at *
      clear h hv hlo hB hc hk hk2 hx hst hn hs hst2 HL HE HL2 ha hx2 hy
      go_enter Tryz.func43, Tryz.ntmps43
      go_wp2_with fail
      refine wp_region_tails 7 _ _ (fun W => w.grownBy W none) (fun W W' => W.grownBy W' none) (by simp only [List.take_succ_cons, List.take_zero]; exact rfl) (by simp only [List.drop_succ_cons, List.drop_zero]; exact rfl) (by kernel_rfl) (by kernel_rfl) (by kernel_rfl) (fun W => grow_refl W none) (grow_drawn (grow_refl _ _)) ?_
      iterate 5 (refine wpRel_det ?_; apply Exists.intro; refine ⟨fun W hI => ?_, ?_⟩; focus (have c4 := (HW.out.keep hI).log.c4; go_simp; first | exact ⟨rfl, grow_refl _ _⟩ | exact ⟨rfl, hI, grow_refl _ _⟩))
      refine wpRel_det ?_; apply Exists.intro; refine ⟨fun W hI => ?_, ?_⟩
      · go_simp
        exact relOf (HN.out W (HV.out.keep hI).nv) hI
      iterate 1 (refine wpRel_det ?_; apply Exists.intro; refine ⟨fun W hI => ?_, ?_⟩; focus (go_simp; first | exact ⟨rfl, grow_refl _ _⟩ | exact ⟨rfl, hI, grow_refl _ _⟩))
      refine wpRel_nil ?_
      intro w3 hI3
      go_simp
      have h3 := HW.out.keep hI3
      go_wp2_with fail
      refine (HA.out w3 h3.dr).mono ?_
      rintro e w4 ⟨rfl, n', hn', hD⟩
      have hE := WEnd.front HW.out hI3 (WEnd.drive h3 hD)
      have V4 := Lib.hid (HV.out.over HLO.out HBB.out hE)
      obtain ⟨G4, h4, k4, f4⟩ := hE
      have H4 := Lib.hid h4
      have K4 := Lib.hid k4
      have F4 := Lib.hid f4
      clear h4 k4 f4 hD h3
      go_wp2_with fail
      refine wp_region_tails 6 _ _ (fun W => w4.grownBy W none) (fun W W' => W.grownBy W' none) (by simp only [List.take_succ_cons, List.take_zero]; exact rfl) (by simp only [List.drop_succ_cons, List.drop_zero]; exact rfl) (by kernel_rfl) (by kernel_rfl) (by kernel_rfl) (fun W => grow_refl W none) (grow_drawn (grow_refl _ _)) ?_
      iterate 5 (refine wpRel_det ?_; apply Exists.intro; refine ⟨fun W hI => ?_, ?_⟩; focus (have c4 := (H4.out.keep hI).log.c4; go_simp; first | exact ⟨rfl, grow_refl _ _⟩ | exact ⟨rfl, hI, grow_refl _ _⟩))
      refine wpRel_det ?_; apply Exists.intro; refine ⟨fun W hI => ?_, ?_⟩
      · go_simp
        exact relOf (HN.out W (V4.out.keep hI).nv) hI
      refine wpRel_nil ?_
      intro w5 hI5
      go_simp
      have h5 := H4.out.keep hI5
      go_wp2_with fail
      refine (HS.out G4 n' w5 h5.dr).mono ?_
      rintro e w6 ⟨rfl, hD6⟩
      obtain ⟨G6, h6, k6, f6⟩ := WEnd.after K4.out F4.out (WEnd.front H4.out hI5 (WEnd.drive h5 hD6))
      have H6 := Lib.hid h6
      have K6 := Lib.hid k6
      have F6 := Lib.hid f6
      clear h6 k6 f6 hD6 h5
      go_wp2_with fail
      refine (grow_any lb db c k x.size w6 H6.out.log HC.out HK.out HX.out).mono ?_
      rintro e w7 ⟨rfl, l7, g7⟩
      go_wp2
      go_ret
      exact ⟨rfl, n', hn', WEnd.after K6.out F6.out (WEnd.own H6.out l7 g7)⟩
    · have HE : Hid (writeC d s x = stepOfC (appD d s x) s ∧ writeD d s x = syncD (appD d s x) s) := by
        unfold writeC writeD
        rw [if_neg (fun h => h ha), if_neg (fun h => h ha)]; exact ⟨rfl, rfl⟩
      have HL2 : Hid (writeL c d k x = c) := by show _ = _; rw [HL.out, if_neg (by rw [HE.out.1]; exact hy)]
      have hy2 : (stepOfC (appD d s x) s == 0) = false := by simpa using hy
      rw [HE.out.1, HE.out.2, HL2.out]
      rw [ha] at HA
      generalize syncD (appD d s x) s = SD at *
      generalize stepOfC (appD d s x) s = SC at *
      generalize appD d s x = AD at *
      clear h hv hlo hB hc hk hk2 hx hst hn hs hst2 HL HE HL2 ha hx2
      go_enter Tryz.func43, Tryz.ntmps43
      go_wp2_with fail
      refine wp_region_tails 7 _ _ (fun W => w.grownBy W none) (fun W W' => W.grownBy W' none) (by simp only [List.take_succ_cons, List.take_zero]; exact rfl) (by simp only [List.drop_succ_cons, List.drop_zero]; exact rfl) (by kernel_rfl) (by kernel_rfl) (by kernel_rfl) (fun W => grow_refl W none) (grow_drawn (grow_refl _ _)) ?_
      iterate 5 (refine wpRel_det ?_; apply Exists.intro; refine ⟨fun W hI => ?_, ?_⟩; focus (have c4 := (HW.out.keep hI).log.c4; go_simp; first | exact ⟨rfl, grow_refl _ _⟩ | exact ⟨rfl, hI, grow_refl _ _⟩))
      refine wpRel_det ?_; apply Exists.intro; refine ⟨fun W hI => ?_, ?_⟩
      · go_simp
        exact relOf (HN.out W (HV.out.keep hI).nv) hI
      iterate 1 (refine wpRel_det ?_; apply Exists.intro; refine ⟨fun W hI => ?_, ?_⟩; focus (go_simp; first | exact ⟨rfl, grow_refl _ _⟩ | exact ⟨rfl, hI, grow_refl _ _⟩))
      refine wpRel_nil ?_
      intro w3 hI3
      go_simp
      have h3 := HW.out.keep hI3
      go_wp2_with fail
      refine (HA.out w3 h3.dr).mono ?_
      rintro e w4 ⟨rfl, n', hn', hD⟩
      have hE := WEnd.front HW.out hI3 (WEnd.drive h3 hD)
      have V4 := Lib.hid (HV.out.over HLO.out HBB.out hE)
      obtain ⟨G4, h4, k4, f4⟩ := hE
      have H4 := Lib.hid h4
      have K4 := Lib.hid k4
      have F4 := Lib.hid f4
      clear h4 k4 f4 hD h3
      go_wp2_with fail
      refine wp_region_tails 6 _ _ (fun W => w4.grownBy W none) (fun W W' => W.grownBy W' none) (by simp only [List.take_succ_cons, List.take_zero]; exact rfl) (by simp only [List.drop_succ_cons, List.drop_zero]; exact rfl) (by kernel_rfl) (by kernel_rfl) (by kernel_rfl) (fun W => grow_refl W none) (grow_drawn (grow_refl _ _)) ?_
      iterate 5 (refine wpRel_det ?_; apply Exists.intro; refine ⟨fun W hI => ?_, ?_⟩; focus (have c4 := (H4.out.keep hI).log.c4; go_simp; first | exact ⟨rfl, grow_refl _ _⟩ | exact ⟨rfl, hI, grow_refl _ _⟩))
      refine wpRel_det ?_; apply Exists.intro; refine ⟨fun W hI => ?_, ?_⟩
      · go_simp
        exact relOf (HN.out W (V4.out.keep hI).nv) hI
      refine wpRel_nil ?_
      intro w5 hI5
      go_simp
      have h5 := H4.out.keep hI5
      go_wp2_with fail
      refine (HS.out G4 n' w5 h5.dr).mono ?_
      rintro e w6 ⟨rfl, hD6⟩
      go_wp2
      go_ret
      exact ⟨rfl, n', hn', WEnd.after K4.out F4.out (WEnd.front H4.out hI5 (WEnd.drive h5 hD6))⟩
  · have HE : Hid (writeC d s x = appC d s x ∧ writeD d s x = appD d s x) := by
      unfold writeC writeD
      rw [if_pos ha, if_pos ha]; exact ⟨rfl, rfl⟩
    have HL2 : Hid (writeL c d k x = c) := by show _ = _; rw [HL.out, if_neg (by rw [HE.out.1]; exact ha)]
    have ha2 : (appC d s x == 0) = false := by simpa using ha
    rw [HE.out.1, HE.out.2, HL2.out]
    generalize appC d s x = AC at *
    generalize appD d s x = AD at *
    clear h hv hlo hB hc hk hk2 hx hst hn hs hst2 HL HE HL2
    go_enter Tryz.func43, Tryz.ntmps43
    go_wp2_with fail
    refine wp_region_tails 7 _ _ (fun W => w.grownBy W none) (fun W W' => W.grownBy W' none) (by simp only [List.take_succ_cons, List.take_zero]; exact rfl) (by simp only [List.drop_succ_cons, List.drop_zero]; exact rfl) (by kernel_rfl) (by kernel_rfl) (by kernel_rfl) (fun W => grow_refl W none) (grow_drawn (grow_refl _ _)) ?_
    iterate 5 (refine wpRel_det ?_; apply Exists.intro; refine ⟨fun W hI => ?_, ?_⟩; focus (have c4 := (HW.out.keep hI).log.c4; go_simp; first | exact ⟨rfl, grow_refl _ _⟩ | exact ⟨rfl, hI, grow_refl _ _⟩))
    refine wpRel_det ?_; apply Exists.intro; refine ⟨fun W hI => ?_, ?_⟩
    · go_simp
      exact relOf (HN.out W (HV.out.keep hI).nv) hI
    iterate 1 (refine wpRel_det ?_; apply Exists.intro; refine ⟨fun W hI => ?_, ?_⟩; focus (go_simp; first | exact ⟨rfl, grow_refl _ _⟩ | exact ⟨rfl, hI, grow_refl _ _⟩))
    refine wpRel_nil ?_
    intro w3 hI3
    go_simp
    have h3 := HW.out.keep hI3
    go_wp2_with fail
    refine (HA.out w3 h3.dr).mono ?_
    rintro e w4 ⟨rfl, n', hn', hD⟩
    go_wp2
    go_ret
    exact ⟨rfl, n', hn', WEnd.front HW.out hI3 (WEnd.drive h3 hD)⟩
/-- May these records be put at one time? -/
def sealOk (l : List ByteArray) : Prop := (∀ s ∈ l, s.size ≤ 8192) ∧ (framesB l).length ≤ 65536
set_option maxRecDepth 100000 in
theorem sealed_long (v : Value) (l : List ByteArray) (w : World) (hr : RowAt w v (l.map Value.string)) (hl : l.length ≤ 20000) (hb : ∀ s ∈ l, s.size ≤ 1000000000) (hs : ∃ s ∈ l, 8192 < s.size) :
    Calls Tryz.prog 41 #[v] w fun e w' => e = .returned (.tuple #[.string ⟨#[]⟩, .int .i64 4]) ∧ w.grownBy w' none := by
  obtain ⟨a, c, rfl⟩ := hr.len
  rw [List.length_map] at hr ⊢
  have hli : (l.length : Int) ≤ 20000 := by omega
  have HS := Lib.hid hs
  have HB := Lib.hid hb
  clear hs hb
  go_enter Tryz.func41, Tryz.ntmps41
  go_wp2
  go_loop [10] (fun i => ∃ k : Nat, k ≤ l.length ∧ i = .int .i64 k ∧ ∀ s ∈ l.take k, s.size ≤ 8192) (fun i => l.length - (intOf i).toNat)
  case atStart => exact ⟨0, Nat.zero_le _, rfl, by simp⟩
  case round =>
    obtain ⟨k, hk, rfl, hall⟩ := hrel
    have HA := Lib.hid hall
    clear hall
    by_cases hlt : k < l.length
    · obtain ⟨bb, off, rfl, hcell⟩ := row_str hr hlt
      have hsz := HB.out l[k] (List.getElem_mem hlt)
      have hki : (k : Int) < l.length := by omega
      by_cases hbig : 8192 < l[k].size
      · have h1 : decide ((8192 : Int) < l[k].size) = true := decide_eq_true (by omega)
        clear hbig
        go_wp2
        go_ret2
        exact ⟨rfl, grow_refl _ _⟩
      · have h1 : decide ((8192 : Int) < l[k].size) = false := decide_eq_false (by omega)
        have HN : Hid (∀ s ∈ l.take (k + 1), s.size ≤ 8192) := by
          intro s hs
          rw [List.take_succ_eq_append_getElem hlt, List.mem_append, List.mem_singleton] at hs
          rcases hs with hs | rfl
          · exact HA.out s hs
          · omega
        clear hbig
        go_wp2
        go_round
        case rel => exact ⟨k + 1, by omega, by go_num, HN.out⟩
        case measure => simp [intOf]; omega
    · exfalso
      obtain ⟨s, h1, h2⟩ := HS.out
      have := HA.out s (by rw [List.take_of_length_le (by omega)]; exact h1)
      omega
set_option maxRecDepth 100000 in
theorem sealed_short (v : Value) (l : List ByteArray) (w : World) (hm : Mv w) (hr : RowAt w v (l.map Value.string)) (hl : l.length ≤ 20000) (hb : ∀ s ∈ l, s.size ≤ 8192) (X : ByteArray) (hX : X = ⟨(framesB l).toArray⟩) :
    Calls Tryz.prog 41 #[v] w fun e w' => e = .returned (.tuple #[.string (if 65536 < X.size then ⟨#[]⟩ else X), .int .i64 (if 65536 < X.size then 4 else 0)]) ∧ w.grownBy w' none := by
  have HSL := Lib.hid (Seal_wide v l w hm hr hl (fun s hs => Nat.le_trans (hb s hs) (by omega)))
  rw [← hX] at HSL
  obtain ⟨a, c, rfl⟩ := hr.len
  rw [List.length_map] at hr HSL ⊢
  have hli : (l.length : Int) ≤ 20000 := by omega
  have HB := Lib.hid hb
  obtain ⟨Y, hY⟩ : ∃ Y : ByteArray, Y = if 65536 < X.size then ⟨#[]⟩ else X := ⟨_, rfl⟩
  obtain ⟨E, hE⟩ : ∃ E : Int, E = if 65536 < X.size then 4 else 0 := ⟨_, rfl⟩
  rw [← hY, ← hE]
  have HY := Lib.hid hY
  have HE := Lib.hid hE
  clear hb hX hm hY hE
  go_enter Tryz.func41, Tryz.ntmps41
  go_wp2
  go_loop [10] (fun i => ∃ k : Nat, k ≤ l.length ∧ i = .int .i64 k) (fun i => l.length - (intOf i).toNat)
  case atStart => exact ⟨0, Nat.zero_le _, rfl⟩
  case round =>
    obtain ⟨k, hk, rfl⟩ := hrel
    by_cases hlt : k < l.length
    · obtain ⟨bb, off, rfl, hcell⟩ := row_str hr hlt
      have hsz := HB.out l[k] (List.getElem_mem hlt)
      have hki : (k : Int) < l.length := by omega
      have h1 : decide ((8192 : Int) < l[k].size) = false := decide_eq_false (by omega)
      go_wp2
      go_round
      case rel => exact ⟨k + 1, by omega, by go_num⟩
      case measure => simp [intOf]; omega
    · have hkl : k = l.length := by omega
      subst hkl
      by_cases hX : 65536 < X.size
      · have h1 : decide ((65536 : Int) < X.size) = true := decide_eq_true (by omega)
        have e1 := HY.out
        have e2 := HE.out
        rw [if_pos hX] at e1 e2
        subst e1 e2
        clear hX HY HE
        go_wp2_with fail
        refine HSL.out.mono ?_
        rintro e w2 ⟨rfl, g⟩
        go_wp2
        go_ret2
        exact ⟨rfl, g⟩
      · have h1 : decide ((65536 : Int) < X.size) = false := decide_eq_false (by omega)
        have e1 := HY.out
        have e2 := HE.out
        rw [if_neg hX] at e1 e2
        subst e1 e2
        clear hX HY HE
        go_wp2_with fail
        refine HSL.out.mono ?_
        rintro e w2 ⟨rfl, g⟩
        go_wp2
        go_ret2
        exact ⟨rfl, g⟩
/-- How sealed ends. -/
def sealB (l : List ByteArray) : ByteArray := ⟨(framesB l).toArray⟩
open Classical in
noncomputable def sealE (l : List ByteArray) : Int := if sealOk l then 0 else 4
theorem sealB_size (l : List ByteArray) : (sealB l).size = (framesB l).length := by
  show (framesB l).toArray.size = _
  rw [List.size_toArray]
theorem sealed_no (v : Value) (l : List ByteArray) (w : World) (hm : Mv w) (hr : RowAt w v (l.map Value.string)) (hl : l.length ≤ 20000) (hb : ∀ s ∈ l, s.size ≤ 1000000000) (h : ¬ sealOk l) :
    Calls Tryz.prog 41 #[v] w fun e w' => e = .returned (.tuple #[.string ⟨#[]⟩, .int .i64 4]) ∧ w.grownBy w' none := by
  by_cases hs : ∃ s ∈ l, 8192 < s.size
  · exact sealed_long v l w hr hl hb hs
  · have hb2 : ∀ s ∈ l, s.size ≤ 8192 := fun s hs2 => by
      rcases Nat.lt_or_ge 8192 s.size with x | x
      · exact absurd ⟨s, hs2, x⟩ hs
      · exact x
    have hx : 65536 < (sealB l).size := by
      rw [sealB_size]
      rcases Nat.lt_or_ge 65536 (framesB l).length with x | x
      · exact x
      · exact absurd ⟨hb2, x⟩ h
    have := sealed_short v l w hm hr hl hb2 (sealB l) rfl
    rw [if_pos hx, if_pos hx] at this
    exact this
theorem sealed_yes (v : Value) (l : List ByteArray) (w : World) (hm : Mv w) (hr : RowAt w v (l.map Value.string)) (hl : l.length ≤ 20000) (h : sealOk l) :
    Calls Tryz.prog 41 #[v] w fun e w' => e = .returned (.tuple #[.string (sealB l), .int .i64 0]) ∧ w.grownBy w' none := by
  have hx : ¬ 65536 < (sealB l).size := by rw [sealB_size]; have := h.2; omega
  have := sealed_short v l w hm hr hl h.1 (sealB l) rfl
  rw [if_neg hx, if_neg hx] at this
  exact this
set_option maxRecDepth 100000 in
theorem LAppend_nil (v : Value) (w : World) :
    Calls Tryz.prog 16 #[.pointer none, v] w fun e w' => e = .returned (.int .i64 2) ∧ w.grownBy w' none := by
  go_enter Tryz.func16, Tryz.ntmps16
  go_wp2
  go_ret
  exact ⟨rfl, grow_refl _ _⟩
set_option maxRecDepth 100000 in
theorem LAppend_long (lb : Nat) (v : Value) (l : List ByteArray) (w : World) (hm : Mv w) (hr : RowAt w v (l.map Value.string)) (hl : l.length ≤ 20000) (hb : ∀ s ∈ l, s.size ≤ 1000000000) (h : ¬ sealOk l) :
    Calls Tryz.prog 16 #[.pointer (some ⟨lb, 0, none⟩), v] w fun e w' => e = .returned (.int .i64 4) ∧ w.grownBy w' none := by
  have HS := Lib.hid (sealed_no v l w hm hr hl hb h)
  obtain ⟨a, c, rfl⟩ := hr.len
  rw [List.length_map] at HS ⊢
  have hli : (l.length : Int) ≤ 20000 := by omega
  clear hr hb h hm
  go_enter Tryz.func16, Tryz.ntmps16
  go_wp2_with fail
  refine HS.out.mono ?_
  rintro e w2 ⟨rfl, g⟩
  go_wp2
  go_ret
  exact ⟨rfl, g⟩
set_option maxRecDepth 100000 in
theorem LAppend_none (lb : Nat) (v : Value) (w : World) (hm : Mv w) (hr : RowAt w v []) :
    Calls Tryz.prog 16 #[.pointer (some ⟨lb, 0, none⟩), v] w fun e w' => e = .returned (.int .i64 0) ∧ w.grownBy w' none := by
  have HS := Lib.hid (sealed_yes v [] w hm hr (by simp) ⟨by simp, by simp [framesB]⟩)
  obtain ⟨a, c, rfl⟩ := hr.len
  rw [List.length_nil] at HS ⊢
  clear hr hm
  go_enter Tryz.func16, Tryz.ntmps16
  go_wp2_with fail
  refine HS.out.mono ?_
  rintro e w2 ⟨rfl, g⟩
  go_wp2
  go_ret
  exact ⟨rfl, g⟩
set_option maxRecDepth 100000 in
set_option maxHeartbeats 1000000 in
theorem LAppend_full (lb db : Nat) (cc : Lc) (v : Value) (l : List ByteArray) (w : World) (hm : Mv w) (hL : LAt w lb db cc) (hc : LcOk cc) (hr : RowAt w v (l.map Value.string)) (hl : l.length ≤ 20000) (h0 : l ≠ []) (h : sealOk l) (hp : ¬ placeE cc = 0) :
    Calls Tryz.prog 16 #[.pointer (some ⟨lb, 0, none⟩), v] w fun e w' => e = .returned (.int .i64 (placeE cc)) ∧ w.grownBy w' none := by
  have HS := Lib.hid (sealed_yes v l w hm hr hl h)
  have HP := Lib.hid fun (w2 : World) (m : Mv w2) => place_any cc w2 m hc.2.2.1 hc.2.2.2
  have hl0 : 0 < l.length := List.length_pos_iff.2 h0
  obtain ⟨a, c, rfl⟩ := hr.len
  rw [List.length_map] at HS ⊢
  have hli : (l.length : Int) ≤ 20000 := by omega
  have hlz : ((l.length : Int) == 0) = false := by
    have : ¬ (l.length : Int) = 0 := by omega
    simpa using this
  have hpe : (placeE cc == 0) = false := by simpa using hp
  have HM := Lib.hid hm
  have HLG := Lib.hid hL
  unfold PlaceE at HP
  generalize placeE cc = PE at *
  generalize placeN cc = PN at *
  generalize placeH cc = PH at *
  generalize sealB l = SB at *
  clear hr h hm hL hc h0
  go_enter Tryz.func16, Tryz.ntmps16
  go_wp2_with fail
  refine HS.out.mono ?_
  rintro e w2 ⟨rfl, g⟩
  have L2 := Blk.keep HLG.out g
  have c0 := LAt.c0 L2
  have c1 := LAt.c1 L2
  have c2 := LAt.c2 L2
  have c3 := LAt.c3 L2
  go_wp2_with fail
  refine (HP.out w2 (HM.out.kept g)).mono ?_
  rintro e w3 ⟨rfl, g3⟩
  go_wp2
  go_ret
  exact ⟨rfl, grow_none g g3⟩
theorem headW_size (k : Int) (r : ByteArray) (hk : -9223372036854775808 ≤ k ∧ k ≤ 9223372036854775807) (hr : r.size ≤ 100) : (headW k r).size ≤ 200 := by
  have hn := nums1_size k hk
  unfold headW
  obtain ⟨K, hK⟩ : ∃ K : ByteArray, K = ⟨(numsB [k]).toArray⟩ := ⟨_, rfl⟩
  rw [← hK] at hn ⊢
  have hs : (K ++ r).size = K.size + r.size := ByteArray.size_append
  generalize K ++ r = p at *
  show (framesB [p]).toArray.size ≤ 200
  rw [List.size_toArray]
  unfold framesB
  simp only [List.flatMap_cons, List.flatMap_nil, List.append_nil]
  have := numB_len (n := (p.size : Int)) (by omega)
  rw [frB_size]; omega
theorem place_lim (c : Lc) (hc : LcOk c) (hp : placeE c = 0) : 1 ≤ placeN c ∧ placeN c ≤ 1000000000 ∧ (placeH c).size ≤ 1000 := by
  obtain ⟨_, _, h3, h4⟩ := hc
  by_cases h0 : c.last = 0
  · have e : placeN c = 1 := by unfold placeN; rw [if_pos h0]
    have e2 : placeH c = headW 1 ⟨(textsB [⟨#[]⟩]).toArray⟩ := by unfold placeH; rw [if_pos h0]
    have := headW_size 1 ⟨(textsB [⟨#[]⟩]).toArray⟩ (by omega) (Nat.le_trans text0_size (by omega))
    rw [e, e2]; omega
  by_cases h1 : c.torn = false ∧ c.size < 2048
  · have e : placeN c = c.last := by unfold placeN; rw [if_neg h0, if_pos h1]
    have e2 : placeH c = ⟨#[]⟩ := by unfold placeH; rw [if_neg h0, if_pos h1]
    rw [e, e2]
    exact ⟨by omega, by omega, Nat.zero_le _⟩
  by_cases h2 : c.last = 999999999
  · have e : placeE c = 52 := by unfold placeE; rw [if_neg h0, if_neg h1, if_pos h2]
    omega
  · have e : placeN c = c.last + 1 := by unfold placeN; rw [if_neg h0, if_neg h1, if_neg h2]
    have e2 : placeH c = headW 2 ⟨(numsB [(c.size : Int)]).toArray⟩ := by unfold placeH; rw [if_neg h0, if_neg h1, if_neg h2]
    have := headW_size 2 ⟨(numsB [(c.size : Int)]).toArray⟩ (by omega) (Nat.le_trans (nums1_size _ (by omega)) (by omega))
    rw [e, e2]; omega
set_option maxRecDepth 100000 in
set_option maxHeartbeats 1000000 in
theorem LAppend_through (lb db mb n : Nat) (G : ByteArray → Option Nat) (cc : Lc) (d : Dk) (B : Nat) (v : Value) (l : List ByteArray) (w : World) (hW : WAt w lb db mb n G cc d) (hv : Va B w) (hlo : Lo B lb db mb G) (hB : B ≤ w.heap.size) (hc : LcOk cc)
    (hst : d.steps + 1 < 1000000) (hn : n < 1000000) (hr : RowAt w v (l.map Value.string)) (hl : l.length ≤ 20000) (h0 : l ≠ []) (h : sealOk l) (hp : placeE cc = 0) :
    Calls Tryz.prog 16 #[.pointer (some ⟨lb, 0, none⟩), v] w fun e w' => e = .returned (.int .i64 (writeC d (nameW (placeN cc)) (placeH cc ++ sealB l))) ∧ ∃ n', n' ≤ n + 1 ∧ WEnd lb db mb G n' (writeL cc d (placeN cc) (placeH cc ++ sealB l)) (writeD d (nameW (placeN cc)) (placeH cc ++ sealB l)) w w' := by
  obtain ⟨p1, p2, p3⟩ := place_lim cc hc hp
  have hsb : (sealB l).size ≤ 65536 := by rw [sealB_size]; exact h.2
  have hsz : (placeH cc ++ sealB l).size = (placeH cc).size + (sealB l).size := ByteArray.size_append
  have hno : ¬ (9223372036854775807 < (placeH cc).size + (sealB l).size) := by omega
  have HS := Lib.hid (sealed_yes v l w hv.mv hr hl h)
  have HP := Lib.hid fun (w2 : World) (m : Mv w2) => place_any cc w2 m hc.2.2.1 hc.2.2.2
  have HWR := Lib.hid fun (w2 : World) (h2 : WAt w2 lb db mb n G cc d) (v2 : Va B w2) (b2 : B ≤ w2.heap.size) => write_any lb db mb n G cc d (placeN cc) (placeH cc ++ sealB l) w2 h2 B v2 hlo b2 hc p1 p2 (by omega) hst hn
  have hl0 : 0 < l.length := List.length_pos_iff.2 h0
  obtain ⟨a, c, rfl⟩ := hr.len
  rw [List.length_map] at HS ⊢
  have hli : (l.length : Int) ≤ 20000 := by omega
  have hlz : ((l.length : Int) == 0) = false := by
    have : ¬ (l.length : Int) = 0 := by omega
    simpa using this
  have HM := Lib.hid hv
  have HLG := Lib.hid hW
  have HBB := Lib.hid hB
  unfold PlaceE at HP
  rw [hp] at HP
  obtain ⟨WC, hWC⟩ : ∃ WC, WC = writeC d (nameW (placeN cc)) (placeH cc ++ sealB l) := ⟨_, rfl⟩
  obtain ⟨WD, hWD⟩ : ∃ WD, WD = writeD d (nameW (placeN cc)) (placeH cc ++ sealB l) := ⟨_, rfl⟩
  obtain ⟨WL, hWL⟩ : ∃ WL, WL = writeL cc d (placeN cc) (placeH cc ++ sealB l) := ⟨_, rfl⟩
  rw [← hWC, ← hWD, ← hWL] at HWR ⊢
  clear hWC hWD hWL hp p1 p2 p3 hsz hsb
  generalize placeN cc = PN at *
  generalize placeH cc = PH at *
  generalize sealB l = SB at *
  clear hr h hv hW hc h0 hlo hB hst hn
  go_enter Tryz.func16, Tryz.ntmps16
  go_wp2_with fail
  refine HS.out.mono ?_
  rintro e w2 ⟨rfl, g⟩
  have L2 := Blk.keep HLG.out.log g
  have c0 := LAt.c0 L2
  have c1 := LAt.c1 L2
  have c2 := LAt.c2 L2
  have c3 := LAt.c3 L2
  go_wp2_with fail
  refine (HP.out w2 (HM.out.mv.kept g)).mono ?_
  rintro e w3 ⟨rfl, g3⟩
  have G3 := grow_none g g3
  clear L2 c0 c1 c2 c3
  go_wp2_with fail
  refine (HWR.out w3 (HLG.out.keep G3) (HM.out.keep G3) (Nat.le_trans HBB.out G3.size)).mono ?_
  rintro e w4 ⟨rfl, n', hn', hE⟩
  go_wp2
  go_ret
  exact ⟨rfl, n', hn', WEnd.front HLG.out G3 hE⟩
set_option maxRecDepth 100000 in
theorem Segment_any (lb db : Nat) (c : Lc) (w : World) (h : LAt w lb db c) :
    Calls Tryz.prog 24 #[.pointer (some ⟨lb, 0, none⟩)] w fun e w' => e = .returned (.int .i64 c.last) ∧ w' = w := by
  have c1 := h.c1
  go_enter Tryz.func24, Tryz.ntmps24
  go_wp2
  go_ret
  exact ⟨rfl, rfl⟩
set_option maxRecDepth 100000 in
theorem Segment_nil (w : World) :
    Calls Tryz.prog 24 #[.pointer none] w fun e w' => e = .returned (.int .i64 0) ∧ w' = w := by
  go_enter Tryz.func24, Tryz.ntmps24
  go_wp2
  go_ret
  exact ⟨rfl, rfl⟩
set_option maxRecDepth 100000 in
theorem Lay_nil (s : ByteArray) (w : World) :
    Calls Tryz.prog 18 #[.pointer none, .string s] w fun e w' => e = .returned (.int .i64 2) ∧ w.grownBy w' none := by
  go_enter Tryz.func18, Tryz.ntmps18
  go_wp2
  go_ret
  exact ⟨rfl, grow_refl _ _⟩
set_option maxRecDepth 100000 in
theorem Lay_long (lb : Nat) (s : ByteArray) (w : World) (hs : 524288 < s.size) (hs2 : s.size ≤ 1000000000) :
    Calls Tryz.prog 18 #[.pointer (some ⟨lb, 0, none⟩), .string s] w fun e w' => e = .returned (.int .i64 4) ∧ w.grownBy w' none := by
  have h1 : (524288 : Int) < s.size := by omega
  go_enter Tryz.func18, Tryz.ntmps18
  go_wp2
  go_ret
  exact ⟨rfl, grow_refl _ _⟩
set_option maxRecDepth 100000 in
theorem Lay_full (lb db : Nat) (c : Lc) (s : ByteArray) (w : World) (h : LAt w lb db c) (hs : s.size ≤ 524288) (hl : c.last = 999999999) :
    Calls Tryz.prog 18 #[.pointer (some ⟨lb, 0, none⟩), .string s] w fun e w' => e = .returned (.int .i64 52) ∧ w.grownBy w' none := by
  have h1 : ¬ (524288 : Int) < s.size := by omega
  have c1 := h.c1
  rw [hl] at c1
  clear h hs hl
  go_enter Tryz.func18, Tryz.ntmps18
  go_wp2
  go_ret
  exact ⟨rfl, grow_refl _ _⟩
def remS (p : Int × Dk) (s : ByteArray) : Int × Dk := if p.1 ≠ 0 then p else (stepOfC p.2 s, removeD p.2 s)
/-- Files are removed, till one of them can't be. -/
def rems (d : Dk) (l : List ByteArray) : Int × Dk := l.foldl remS (0, d)
theorem rems_snoc (d : Dk) (l : List ByteArray) (s : ByteArray) : rems d (l ++ [s]) = remS (rems d l) s := by
  unfold rems; rw [List.foldl_append]; rfl
theorem remS_stop {p : Int × Dk} (h : p.1 ≠ 0) : ∀ l : List ByteArray, l.foldl remS p = p
  | [] => rfl
  | s :: l => by
    have : remS p s = p := by unfold remS; rw [if_pos h]
    rw [List.foldl_cons, this]; exact remS_stop h l
theorem rems_stop {d : Dk} {a b : List ByteArray} (h : (rems d a).1 ≠ 0) : rems d (a ++ b) = rems d a := by
  unfold rems at h ⊢
  rw [List.foldl_append, remS_stop h]
theorem wl_stepD_steps (d : Dk) : (stepD d).steps ≤ d.steps + 1 := by
  unfold stepD; split <;> simp
theorem wl_stepOfD_steps (d : Dk) (s : ByteArray) : (stepOfD d s).steps ≤ d.steps + 1 := by
  unfold stepOfD
  split
  · omega
  split
  · omega
  exact wl_stepD_steps d
theorem wl_removeD_steps (d : Dk) (s : ByteArray) : (removeD d s).steps ≤ d.steps + 1 := by
  unfold removeD
  split
  · exact wl_stepOfD_steps d s
  · exact wl_stepOfD_steps d s
theorem remS_steps (p : Int × Dk) (s : ByteArray) : (remS p s).2.steps ≤ p.2.steps + 1 := by
  unfold remS
  split
  · omega
  · exact wl_removeD_steps _ _
theorem rems_steps (d : Dk) : ∀ (l : List ByteArray) (p : Int × Dk), (l.foldl remS p).2.steps ≤ p.2.steps + l.length
  | [], p => by simp
  | s :: l, p => by
    rw [List.foldl_cons, List.length_cons]
    have := rems_steps d l (remS p s)
    have := remS_steps p s
    omega
/-- The names of a log's segments. -/
def segsOf (f l : Nat) : List ByteArray := if f = 0 then [] else (List.range' f (l + 1 - f)).map nameW
theorem segs_take {f l k : Nat} (hf : f ≠ 0) (hk : k < l + 1 - f) : (segsOf f l).take (k + 1) = (segsOf f l).take k ++ [nameW (f + k)] := by
  unfold segsOf
  rw [if_neg hf]
  have hlen : k < ((List.range' f (l + 1 - f)).map nameW).length := by simpa using hk
  rw [List.take_succ_eq_append_getElem hlen]
  congr 2
  simp
theorem segs_len {f l : Nat} (hf : f ≠ 0) : (segsOf f l).length = l + 1 - f := by
  unfold segsOf; rw [if_neg hf]; simp
/-- The head of a log that begins anew. -/
def layX (s : ByteArray) : ByteArray := headW 1 ⟨(textsB [s]).toArray⟩
def layN (c : Lc) : ByteArray := nameW (c.last + 1)
def layC (c : Lc) (d : Dk) (s : ByteArray) : Int := if writeC d (layN c) (layX s) ≠ 0 then writeC d (layN c) (layX s) else (rems (writeD d (layN c) (layX s)) (segsOf c.first c.last)).1
def layD (c : Lc) (d : Dk) (s : ByteArray) : Dk := if writeC d (layN c) (layX s) ≠ 0 then writeD d (layN c) (layX s) else (rems (writeD d (layN c) (layX s)) (segsOf c.first c.last)).2
def layL (c : Lc) (d : Dk) (s : ByteArray) : Lc := if writeC d (layN c) (layX s) ≠ 0 then c else ⟨c.last + 1, c.last + 1, (layX s).size, false⟩
theorem Remove_w (lb db mb n : Nat) (G : ByteArray → Option Nat) (c : Lc) (d : Dk) (s : ByteArray) (w : World) (h : WAt w lb db mb n G c d) (hs : s.size ≤ 1000000) (hst : d.steps < 1000000) :
    Calls Tryz.prog 46 #[.pointer (some ⟨db, 0, none⟩), .string s] w fun e w' => e = .returned (.int .i64 (stepOfC d s)) ∧ WEnd lb db mb G n c (removeD d s) w w' :=
  (Remove_any db mb n G d s w h.dr (by have : maxLen = 9223372036854775807 := by decide
                                       omega) hst).mono fun e w' ⟨he, hE⟩ => ⟨he, WEnd.drive h hE⟩
/-- What a segment's file holds. -/
def segT (d : Dk) (k : Nat) : ByteArray := (readR d (nameW k)).1
noncomputable def begS (d : Dk) (a : Nat) (s : ByteArray) : Nat := if begK (readR d s).1 = true ∧ a < numW s then numW s else a
/-- The greatest segment that begins, of these names. -/
noncomputable def begN (d : Dk) (l : List ByteArray) : Nat := l.foldl (begS d) 0
theorem begN_snoc (d : Dk) (l : List ByteArray) (s : ByteArray) : begN d (l ++ [s]) = begS d (begN d l) s := by
  unfold begN; rw [List.foldl_append]; rfl
theorem begS_le (d : Dk) (a : Nat) (s : ByteArray) : a ≤ begS d a s := by
  unfold begS; split
  · rename_i h; exact Nat.le_of_lt h.2
  · exact Nat.le_refl _
theorem begS_fold (d : Dk) : ∀ (l : List ByteArray) (a : Nat), a ≤ l.foldl (begS d) a ∧ (∀ s ∈ l, begK (readR d s).1 = true → numW s ≤ l.foldl (begS d) a)
      ∧ (l.foldl (begS d) a = a ∨ ∃ s ∈ l, begK (readR d s).1 = true ∧ numW s = l.foldl (begS d) a ∧ a < numW s)
  | [], a => ⟨Nat.le_refl _, by simp, .inl rfl⟩
  | s :: l, a => by
    obtain ⟨h1, h2, h3⟩ := begS_fold d l (begS d a s)
    rw [List.foldl_cons]
    have hle := begS_le d a s
    refine ⟨Nat.le_trans hle h1, fun t ht hb => ?_, ?_⟩
    · rcases List.mem_cons.1 ht with rfl | ht
      · refine Nat.le_trans ?_ h1
        unfold begS
        split
        · exact Nat.le_refl _
        · rename_i h
          exact Nat.le_of_not_lt fun hl => h ⟨hb, hl⟩
      · exact h2 t ht hb
    · rcases h3 with h3 | ⟨t, ht, hb, hn, hl⟩
      · rw [h3]
        unfold begS
        split
        · rename_i h
          exact .inr ⟨s, List.mem_cons_self .., h.1, rfl, h.2⟩
        · exact .inl rfl
      · exact .inr ⟨t, List.mem_cons_of_mem _ ht, hb, hn, by omega⟩
theorem begN_is {d : Dk} {l : List ByteArray} {a : Nat} (h : begN d l = a) (h0 : a ≠ 0) : a ≤ 999999999 ∧ nameW a ∈ l ∧ begK (segT d a) = true := by
  rcases (begS_fold d l 0).2.2 with h3 | ⟨s, hs, hb, hn, hl⟩
  · exact absurd (h.symm.trans h3) h0
  · have e : numW s = a := hn.trans h
    obtain ⟨rfl, _, h2⟩ := numW_of e h0
    exact ⟨h2, hs, hb⟩
theorem begN_max {d : Dk} {l : List ByteArray} {k : Nat} (hk : 1 ≤ k) (hk2 : k ≤ 999999999) (hl : nameW k ∈ l) (hb : begK (segT d k) = true) : k ≤ begN d l := by
  have := (begS_fold d l 0).2.1 _ hl hb
  rw [numW_name hk hk2] at this
  exact this
/-- A segment's next one is the log's, too. -/
def goes (T : Nat → ByteArray) (k : Nat) : Prop := goneK (T (k + 1)) = true ∧ cutOk (T k) (goneN (T (k + 1)))
/-- A segment's records, if the next one goes on behind it. -/
noncomputable def recOf (T : Nat → ByteArray) (k : Nat) : List ByteArray := cutL (T k) (goneN (T (k + 1)))
/-- The records of m segments from f. -/
noncomputable def recsOf (T : Nat → ByteArray) (f m : Nat) : List ByteArray := (List.range m).flatMap fun i => recOf T (f + i)
theorem recs_succ (T : Nat → ByteArray) (f m : Nat) : recsOf T f (m + 1) = recsOf T f m ++ recOf T (f + m) := by
  unfold recsOf; rw [List.range_succ, List.flatMap_append]; simp
/-- The numbers, base and records of the log whose segments hold these texts. -/
structure Lg (T : Nat → ByteArray) (c : Lc) (base : ByteArray) (recs : List ByteArray) : Prop where
  none : c.first = 0 → c = ⟨0, 0, 0, false⟩ ∧ base = ⟨#[]⟩ ∧ recs = []
  beg : c.first ≠ 0 → begK (T c.first) = true ∧ base = begB (T c.first)
  le : c.first ≠ 0 → c.first ≤ c.last ∧ c.last ≤ 999999999
  all : c.first ≠ 0 → ∀ k, c.first ≤ k → k < c.last → goes T k
  stop : c.first ≠ 0 → c.last = 999999999 ∨ ¬ goes T c.last
  size : c.first ≠ 0 → c.size + (scanC (T c.last)).size = (T c.last).size ∧ c.torn = decide ((scanC (T c.last)).size ≠ 0)
  recs : c.first ≠ 0 → recs = recsOf T c.first (c.last - c.first) ++ (scanL (T c.last)).drop 1
theorem scan_ne {s : ByteArray} (h : opB s = true) : scanL s ≠ [] := by
  have := scan_spec s
  generalize scanL s = l at *
  generalize scanC s = c at *
  cases this with
  | stop _ h2 => rw [h] at h2; cases h2
  | go _ l c h2 h3 => simp
theorem scan_le (s : ByteArray) : (scanC s).size ≤ s.size := by
  have := scan_spec s
  generalize scanL s = l at *
  generalize scanC s = c at *
  induction this with
  | stop => exact Nat.le_refl _
  | go s l c h _ ih => have := open_less h; omega
theorem beg_op {s : ByteArray} (h : begK s = true) : opB s = true := by unfold begK at h; exact (Bool.and_eq_true_iff.1 h).1
theorem gone_op {s : ByteArray} (h : goneK s = true) : opB s = true := by unfold goneK at h; exact (Bool.and_eq_true_iff.1 h).1
theorem op_size {s : ByteArray} (h : opB s = true) : 5 ≤ s.size := by have := open_less h; omega
theorem Lg.lcok {T : Nat → ByteArray} {c : Lc} {base : ByteArray} {recs : List ByteArray} (h : Lg T c base recs) (hz : (T c.last).size ≤ 1000000000) : LcOk c := by
  by_cases h0 : c.first = 0
  · obtain ⟨rfl, _, _⟩ := h.none h0
    exact ⟨⟨fun _ => rfl, fun _ => rfl⟩, Nat.le_refl _, by show 0 ≤ _; omega, by show 0 ≤ _; omega⟩
  · have h1 := h.le h0
    have h2 := (h.size h0).1
    exact ⟨⟨fun h => absurd h h0, fun h => by omega⟩, h1.1, h1.2, by omega⟩
/-- Where a log begins fixes all of it. -/
theorem Lg.same {T : Nat → ByteArray} {c c' : Lc} {base base' : ByteArray} {recs recs' : List ByteArray} (h : Lg T c base recs) (h' : Lg T c' base' recs') (hf : c.first = c'.first) : c = c' ∧ base = base' ∧ recs = recs' := by
  by_cases h0 : c.first = 0
  · obtain ⟨e1, e2, e3⟩ := h.none h0
    obtain ⟨k1, k2, k3⟩ := h'.none (hf ▸ h0)
    exact ⟨by rw [e1, k1], by rw [e2, k2], by rw [e3, k3]⟩
  · have h0' : c'.first ≠ 0 := hf ▸ h0
    have l1 := h.le h0
    have l2 := h'.le h0'
    have hl : c.last = c'.last := by
      rcases Nat.lt_trichotomy c.last c'.last with hlt | he | hlt
      · rcases h.stop h0 with y | y
        · omega
        · exact absurd (h'.all h0' c.last (by omega) hlt) y
      · exact he
      · rcases h'.stop h0' with y | y
        · omega
        · exact absurd (h.all h0 c'.last (by omega) hlt) y
    have s1 := h.size h0
    have s2 := h'.size h0'
    rw [← hl] at s2
    refine ⟨?_, by rw [(h.beg h0).2, (h'.beg h0').2, hf], by rw [h.recs h0, h'.recs h0', hf, hl]⟩
    obtain ⟨f, l, z, t⟩ := c
    obtain ⟨f', l', z', t'⟩ := c'
    simp only at *
    subst hf hl
    have : z = z' := by omega
    subst this
    rw [s1.2, s2.2]
theorem fr_app (a b : List ByteArray) : framesB (a ++ b) = framesB a ++ framesB b := by unfold framesB; rw [List.flatMap_append]
theorem op_nil : opB (bs []) = false := by
  cases h : opB (bs []) with
  | false => rfl
  | true =>
    have := open_less h
    have : (bs []).size = 0 := bs_size []
    omega
theorem scans_eq {s c : ByteArray} {l : List ByteArray} (h : Scans s l c) : s.data.toList = framesB l ++ c.data.toList ∧ ∀ p ∈ l, p.size ≤ 1048576 := by
  induction h with
  | stop s h => exact ⟨by unfold framesB; simp, by simp⟩
  | go s l c h _ ih =>
    obtain ⟨h1, h2⟩ := open_sound h
    obtain ⟨i1, i2⟩ := ih
    refine ⟨?_, ?_⟩
    · rw [h1, i1]
      unfold framesB
      simp only [List.flatMap_cons, List.append_assoc]
    · intro p hp
      rcases List.mem_cons.1 hp with rfl | hp
      · exact h2
      · exact i2 p hp
theorem scans_frames (l : List ByteArray) (hl : ∀ p ∈ l, p.size ≤ 1048576) : Scans (bs (framesB l)) l (bs []) := by
  have := Scans.ahead (.stop _ op_nil) l hl
  rwa [List.append_nil, List.append_nil] at this
/-- A text of frames alone, and frames behind it. -/
theorem scan_add {s : ByteArray} {l : List ByteArray} (h : (scanC s).size = 0) (hl : ∀ p ∈ l, p.size ≤ 1048576) :
    scanL (s ++ bs (framesB l)) = scanL s ++ l ∧ (scanC (s ++ bs (framesB l))).size = 0 := by
  obtain ⟨h1, h2⟩ := scans_eq (scan_spec s)
  have hc : (scanC s).data.toList = [] := by
    apply List.eq_nil_of_length_eq_zero
    rw [len_bs]; exact h
  rw [hc, List.append_nil] at h1
  have e : s ++ bs (framesB l) = bs (framesB (scanL s ++ l)) := by
    rw [fr_app, ← h1]
    conv => lhs; rw [← bs_self s]
    exact ByteArray.mk_append_mk _ _
  have hs := scans_frames (scanL s ++ l) (fun p hp => by
    rcases List.mem_append.1 hp with hp | hp
    · exact h2 p hp
    · exact hl p hp)
  rw [← e] at hs
  obtain ⟨e1, e2⟩ := scan_is hs
  exact ⟨e1.symm, by rw [← e2]; rfl⟩
theorem scan_framesL {l : List ByteArray} (hl : ∀ p ∈ l, p.size ≤ 1048576) : scanL (bs (framesB l)) = l ∧ (scanC (bs (framesB l))).size = 0 := by
  obtain ⟨e1, e2⟩ := scan_is (scans_frames l hl)
  exact ⟨e1.symm, by rw [← e2]; rfl⟩
/-- What was scanned of a text, alone. -/
theorem scan_front (s : ByteArray) : scanL (s.extract 0 (s.size - (scanC s).size)) = scanL s ∧ (scanC (s.extract 0 (s.size - (scanC s).size))).size = 0 := by
  obtain ⟨h1, h2⟩ := scans_eq (scan_spec s)
  have h3 := congrArg List.length h1
  rw [List.length_append, len_bs, len_bs] at h3
  have e : s.extract 0 (s.size - (scanC s).size) = bs (framesB (scanL s)) := by
    rw [extract_self, List.drop_zero, h1, List.take_left']
    omega
  rw [e]
  exact scan_framesL h2
/-- The first frame alone tells whether a text begins, or goes on. -/
theorem payO_add {s : ByteArray} (h : opB s = true) (x : ByteArray) : opB (s ++ x) = true ∧ payO (s ++ x) = payO s := by
  obtain ⟨h1, h2⟩ := open_sound h
  have e : s ++ x = bs (frB (payB s) ++ ((behB s).data.toList ++ x.data.toList)) := by
    rw [← List.append_assoc, ← h1]
    conv => lhs; rw [← bs_self s, ← bs_self x]
    exact ByteArray.mk_append_mk _ _
  obtain ⟨k1, k2, k3⟩ := open_app (payB s) h2 ((behB s).data.toList ++ x.data.toList)
  rw [e]
  refine ⟨k1, ?_⟩
  unfold payO
  rw [if_pos k1, if_pos h, k2]
theorem beg_add {s : ByteArray} (h : opB s = true) (x : ByteArray) : begK (s ++ x) = begK s ∧ begB (s ++ x) = begB s := by
  obtain ⟨h1, h2⟩ := payO_add h x
  unfold begK begB
  rw [h1, h2, h]; exact ⟨rfl, rfl⟩
theorem gone_add {s : ByteArray} (h : opB s = true) (x : ByteArray) : goneK (s ++ x) = goneK s ∧ goneN (s ++ x) = goneN s := by
  obtain ⟨h1, h2⟩ := payO_add h x
  unfold goneK goneN
  rw [h1, h2, h]; exact ⟨rfl, rfl⟩
theorem wl_num_back {n : Int} (hn : -9223372036854775808 ≤ n ∧ n ≤ 9223372036854775807) (more : List UInt8) :
    rNum (bs (numB n ++ more)) false = n ∧ rNumS (bs (numB n ++ more)) false = bs more ∧ rNumB (bs (numB n ++ more)) false = false := by
  have h := getN_back hn more
  refine ⟨?_, nextS_back hn more, ?_⟩
  · show (getN ⟨_⟩).1 = n; rw [h]
  · show (false || nextBad ⟨_⟩) = false
    unfold nextBad
    rw [h]
    have := numB_pos n
    show (((numB n).length : Int) == 0) = false
    rw [beq_eq_false_iff_ne]; omega
theorem wl_text_back (s : ByteArray) (hs : s.size ≤ 9223372036854775807) (more : List UInt8) :
    rText (bs (numB s.size ++ s.data.toList ++ more)) false = s ∧ rTextS (bs (numB s.size ++ s.data.toList ++ more)) false = bs more ∧ rCountB (bs (numB s.size ++ s.data.toList ++ more)) false = false := by
  rw [List.append_assoc]
  have hn : -9223372036854775808 ≤ (s.size : Int) ∧ (s.size : Int) ≤ 9223372036854775807 := by omega
  have h : getN (bs (numB s.size ++ (s.data.toList ++ more))) = ((s.size : Int), (numB s.size).length) := getN_back hn (s.data.toList ++ more)
  have h2 : nextS (bs (numB s.size ++ (s.data.toList ++ more))) = bs (s.data.toList ++ more) := nextS_back hn _
  have h3 : sizeN (bs (numB s.size ++ (s.data.toList ++ more))) = s.size := by
    unfold sizeN
    rw [h2, bs_size, h, List.length_append, size_toList, if_neg (by simp only; omega)]
    rfl
  have h4 : sizeBad (bs (numB s.size ++ (s.data.toList ++ more))) = false := by
    unfold sizeBad nextBad
    rw [h2, bs_size, h, List.length_append, size_toList]
    have := numB_pos (s.size : Int)
    have e1 : decide ((s.size : Int) < 0) = false := by simp
    have e2 : decide (((s.size + more.length : Nat) : Int) < (s.size : Int)) = false := by simp; omega
    have e3 : ((((numB s.size).length : Nat) : Int) == 0) = false := by rw [beq_eq_false_iff_ne]; omega
    simp only [e1, e2, e3, Bool.or_false]
  refine ⟨?_, ?_, ?_⟩
  · show (nextS _).extract 0 (sizeN _) = s
    rw [h2, h3, extract_bs, List.drop_zero, Nat.sub_zero, List.take_left' (size_toList s), bs_self]
  · show (nextS _).extract (sizeN _) (nextS _).size = _
    rw [h2, h3, extract_bs, bs_size, List.drop_left' (size_toList s), List.take_of_length_le (by simp)]
  · show (false || sizeBad _) = false
    rw [h4]; rfl
theorem one_bs (k : Int) (r : ByteArray) : (⟨(numsB [k]).toArray⟩ ++ r : ByteArray) = bs (numB k ++ r.data.toList) := by
  have e : numsB [k] = numB k := by unfold numsB; simp
  rw [e]
  conv => lhs; rw [← bs_self r]
  exact ByteArray.mk_append_mk _ _
/-- A head that begins. -/
theorem head_beg (s : ByteArray) (hs : s.size ≤ 1000000) : opB (layX s) = true ∧ begK (layX s) = true ∧ begB (layX s) = s ∧ goneK (layX s) = false ∧ scanL (layX s) = [payO (layX s)] ∧ (scanC (layX s)).size = 0 := by
  have hx : layX s = bs (frB (bs (numB 1 ++ textsB [s])) ++ []) := by
    have e3 : (⟨(textsB [s]).toArray⟩ : ByteArray).data.toList = textsB [s] := bs_list _
    unfold layX headW framesB
    rw [one_bs, e3]
    simp only [List.flatMap_cons, List.flatMap_nil]
    rfl
  have ht : textsB [s] = numB (s.size : Int) ++ s.data.toList ++ [] := by unfold textsB; simp
  have hl1 := numB_len (n := 1) (by omega)
  have hl2 := numB_len (n := (s.size : Int)) (by omega)
  have hp : (bs (numB 1 ++ textsB [s])).size ≤ 1048576 := by
    rw [bs_size, ht, List.length_append, List.length_append, List.length_append, List.length_nil, len_bs]; omega
  obtain ⟨k1, k2, k3⟩ := open_app _ hp []
  rw [← hx] at k1 k2 k3
  have hpay : payO (layX s) = bs (numB 1 ++ textsB [s]) := by unfold payO; rw [if_pos k1, k2]
  obtain ⟨n1, n2, n3⟩ := wl_num_back (n := 1) (by omega) (textsB [s])
  have n2' : nextS (bs (numB 1 ++ textsB [s])) = bs (textsB [s]) := n2
  have n3' : nextBad (bs (numB 1 ++ textsB [s])) = false := by simpa [rNumB] using n3
  have n1' : (getN (bs (numB 1 ++ textsB [s]))).1 = 1 := n1
  obtain ⟨t1, t2, t3⟩ := wl_text_back s (by omega) []
  rw [← ht] at t1 t2 t3
  have hscan : Scans (layX s) [payO (layX s)] (bs []) := by
    have h0 : Scans (behB (layX s)) [] (bs []) := by rw [k3]; exact .stop _ op_nil
    have := Scans.go _ _ _ k1 h0
    rw [k2] at this
    rw [hpay]; exact this
  obtain ⟨s1, s2⟩ := scan_is hscan
  refine ⟨k1, ?_, ?_, ?_, s1.symm, by rw [← s2]; rfl⟩
  · unfold begK
    rw [hpay, n1', n2', n3', t2, t3, k1]
    unfold rDone
    simp only [decide_true, Bool.true_and]
    rw [if_neg (by simp), toList_nil (bs_size [])]; rfl
  · unfold begB
    rw [hpay, n2', n3', t1]
  · unfold goneK
    rw [hpay, n1']
    simp
def goX (n : Int) : ByteArray := headW 2 ⟨(numsB [n]).toArray⟩
/-- A head that goes on. -/
theorem head_gone (n : Int) (hn : -9223372036854775808 ≤ n ∧ n ≤ 9223372036854775807) : opB (goX n) = true ∧ goneK (goX n) = true ∧ goneN (goX n) = n ∧ begK (goX n) = false ∧ scanL (goX n) = [payO (goX n)] ∧ (scanC (goX n)).size = 0 := by
  have e : numsB [n] = numB n := by unfold numsB; simp
  have hx : goX n = bs (frB (bs (numB 2 ++ (numB n ++ []))) ++ []) := by
    have e3 : (⟨(numsB [n]).toArray⟩ : ByteArray).data.toList = numsB [n] := bs_list _
    unfold goX headW framesB
    rw [one_bs, e3, e]
    simp only [List.flatMap_cons, List.flatMap_nil, List.append_nil]
    rfl
  have hl1 := numB_len (n := 2) (by omega)
  have hl2 := numB_len (n := n) hn
  have hp : (bs (numB 2 ++ (numB n ++ []))).size ≤ 1048576 := by
    rw [bs_size, List.length_append, List.length_append, List.length_nil]; omega
  obtain ⟨k1, k2, k3⟩ := open_app _ hp []
  rw [← hx] at k1 k2 k3
  have hpay : payO (goX n) = bs (numB 2 ++ (numB n ++ [])) := by unfold payO; rw [if_pos k1, k2]
  obtain ⟨n1, n2, n3⟩ := wl_num_back (n := 2) (by omega) (numB n ++ [])
  have n2' : nextS (bs (numB 2 ++ (numB n ++ []))) = bs (numB n ++ []) := n2
  have n3' : nextBad (bs (numB 2 ++ (numB n ++ []))) = false := by simpa [rNumB] using n3
  have n1' : (getN (bs (numB 2 ++ (numB n ++ [])))).1 = 2 := n1
  obtain ⟨t1, t2, t3⟩ := wl_num_back hn []
  have hscan : Scans (goX n) [payO (goX n)] (bs []) := by
    have h0 : Scans (behB (goX n)) [] (bs []) := by rw [k3]; exact .stop _ op_nil
    have := Scans.go _ _ _ k1 h0
    rw [k2] at this
    rw [hpay]; exact this
  obtain ⟨s1, s2⟩ := scan_is hscan
  refine ⟨k1, ?_, ?_, ?_, s1.symm, by rw [← s2]; rfl⟩
  · unfold goneK
    rw [hpay, n1', n2', n3', t2, t3, k1]
    unfold rDone
    simp only [decide_true, Bool.true_and]
    rw [if_neg (by simp), toList_nil (bs_size [])]; rfl
  · unfold goneN
    rw [hpay, n2', n3', t1]
  · unfold begK
    rw [hpay, n1']
    simp
end Go.Proofs.YtphljjgjpkdpmaaGreatDoor
