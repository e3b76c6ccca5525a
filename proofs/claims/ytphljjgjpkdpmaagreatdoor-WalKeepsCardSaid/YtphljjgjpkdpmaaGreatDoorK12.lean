/- Several texts in one: FrI. -/
import Derived.Test.YtphljjgjpkdpmaaGreatDoorK11
import Derived.Outline
/- Stage 4: Scan, and the document's Scan. -/
namespace Go.Proofs.YtphljjgjpkdpmaaGreatDoor
open Go.RowKit
set_option linter.unusedVariables false
theorem Tryz.info04_string : (Tryz.prog.info? 9).map (fun i => (i.zero, i.size, i.bytes)) = some (some (.string ⟨#[]⟩), 1, 16) := by kernel_rfl
theorem one_str (s : ByteArray) : ∀ u ∈ [Value.string s], u.oneCell' = true := by intro u hu; simp at hu; subst hu; rfl
def sizeOf1 : Value → Nat
  | .string s => s.size
  | _ => 0
/-- What a scan has done so far. -/
def ScanRel (s : ByteArray) (w : World) (done : List ByteArray) (cur : ByteArray) (v : Value) (wr : World) : Prop :=
  (∀ l c, Scans cur l c → Scans s (done ++ l) c) ∧ cur.size + 5 * done.length ≤ s.size ∧ wr.ownsRow 0 9 1 v done.length (done.map Value.string) ∧ w.grownBy wr none ∧ NewBlk w v
theorem ScanRel.start (s : ByteArray) (w : World) : ScanRel s w [] s (.slice none 0 0) w :=
  ⟨fun l c h => h, by simp, World.ownsRow_nil _ _ _ _, grow_refl _ _, newblk_nil _⟩
theorem ScanRel.next {s : ByteArray} {w w3 : World} {done : List ByteArray} {cur : ByteArray} {v3 : Value} (h1 : ∀ l c, Scans cur l c → Scans s (done ++ l) c) (h2 : cur.size + 5 * done.length ≤ s.size) (hop : opB cur = true)
    (ho : w3.ownsRow 0 9 1 v3 (done.length + 1) (done.map Value.string ++ [.string (payB cur)])) (hg : w.grownBy w3 none) (hn : NewBlk w v3) : ScanRel s w (done ++ [payB cur]) (behB cur) v3 w3 := by
  refine ⟨fun l c h => ?_, ?_, ?_, hg, hn⟩
  · rw [List.append_assoc]; exact h1 _ _ (.go _ _ _ hop h)
  · have := open_less hop
    rw [List.length_append, List.length_singleton]; omega
  · rw [List.length_append, List.length_singleton, List.map_append]; exact ho
def ScanE (s : ByteArray) (w : World) (e : Ending) (w' : World) : Prop :=
  ∃ p q l c, Scans s l c ∧ c.size + 5 * l.length ≤ s.size ∧ l.length ≤ q ∧ e = .returned (.tuple #[.slice p l.length q, .int .i64 ((s.size : Int) - (c.size : Int))]) ∧ RowAt w' (.slice p l.length q) (l.map Value.string) ∧ w.grownBy w' none
theorem own_form2 {w : World} {e : TypeId} {n : Nat} {v : Value} {xs : List Value} (h : w.ownsRow 0 e 1 v n xs) : ∃ a c, v = .slice a n c ∧ n ≤ c := by
  rcases h.2 with ⟨rfl, rfl⟩ | ⟨g, cap, cur, rfl, _, _, hnc, _⟩
  · exact ⟨_, _, rfl, Nat.le_refl _⟩
  · exact ⟨_, _, rfl, hnc⟩
theorem ScanE.of {s : ByteArray} {w w' : World} {done : List ByteArray} {cur : ByteArray} {v : Value} (h : ScanRel s w done cur v w') (hop : opB cur = false) {x : Int} (hx : x = (s.size : Int) - (cur.size : Int)) : ScanE s w (.returned (.tuple #[v, .int .i64 x])) w' := by
  obtain ⟨h1, h2, h3, h4, h5⟩ := h
  have := h1 [] cur (.stop _ hop)
  rw [List.append_nil] at this
  obtain ⟨a, q, rfl, hq⟩ := own_form2 h3
  exact ⟨a, q, done, cur, this, h2, hq, by rw [hx], RowAt.of_own h3, h4⟩
theorem row_take {w : World} {p : Option Addr} {n c k : Nat} {l : List ByteArray} (h : RowAt w (.slice p n c) (l.map Value.string)) (hk : k ≤ n) (hn : l.length = n) : RowAt w (.slice p k c) ((l.take k).map Value.string) := by
  obtain ⟨a, c', e, h⟩ := h
  injection e with e1 e2 e3
  subst e1 e3
  have hl : ((l.take k).map Value.string).length = k := by rw [List.length_map, List.length_take]; omega
  refine ⟨p, c, by rw [hl], ?_⟩
  rcases h with h | ⟨b, off, rfl, hb, hc⟩
  · have : l = [] := by simpa using h
    subst this
    left; simp
  · right
    refine ⟨b, off, rfl, hb, fun j hj => ?_⟩
    rw [hl] at hj
    have hj2 : j < l.length := by omega
    rw [hc j (by rw [List.length_map]; exact hj2)]
    simp [List.getD, hj]
theorem add_off (b off k : Nat) : (⟨b, off, none⟩ : Addr).add k = ⟨b, off + k, none⟩ := by unfold Addr.add; split <;> simp_all
theorem row_drop {w : World} {p : Option Addr} {n c k : Nat} {l : List ByteArray} (h : RowAt w (.slice p n c) (l.map Value.string)) (hk : k ≤ n) (hn : l.length = n) (hc : n ≤ c) : RowAt w (.slice (if c = k then p else p.map (·.add k)) (n - k) (c - k)) ((l.drop k).map Value.string) := by
  obtain ⟨a, c', e, h⟩ := h
  injection e with e1 e2 e3
  subst e1 e3
  have hl : ((l.drop k).map Value.string).length = n - k := by rw [List.length_map, List.length_drop]; omega
  refine ⟨_, _, by rw [hl], ?_⟩
  rcases h with h | ⟨b, off, rfl, hb, hcell⟩
  · have : l = [] := by simpa using h
    subst this
    left; simp
  · by_cases hck : c = k
    · left
      rw [List.drop_of_length_le (by omega)]; rfl
    · right
      rw [if_neg hck]
      refine ⟨b, off + k, ?_, hb, fun j hj => ?_⟩
      · exact congrArg some (add_off b off k)
      · rw [hl] at hj
        have hj2 : k + j < l.length := by omega
        rw [show off + k + j = off + (k + j) by omega, hcell (k + j) (by rw [List.length_map]; exact hj2)]
        simp [List.getD, List.getElem?_drop]
set_option maxRecDepth 100000 in
set_option maxHeartbeats 1000000 in
theorem Scan_any (s : ByteArray) (w : World) (hm : Mv w) (hs : s.size ≤ 1000000000) : Calls Tryz.prog 75 #[.string s] w (ScanE s w) := by
  obtain ⟨i0, hi, hz0, hz1, hz2⟩ := info_parts Tryz.info04_string
  have hsi : (s.size : Int) ≤ 1000000000 := by omega
  have st := ScanRel.start s w
  go_enter Tryz.func75, Tryz.ntmps75
  go_wp2
  go_loopw [2, 3, 4] (fun v x r wr => ∃ done cur, ScanRel s w done cur v wr ∧ r = .string cur ∧ x = .int .i64 ((s.size : Int) - (cur.size : Int))) (fun _ _ r _ => sizeOf1 r)
  case atStart => exact ⟨[], s, st, rfl, by rw [Int.sub_self]⟩
  case round =>
    obtain ⟨done, cur, hR, rfl, rfl⟩ := hrel
    have hR0 := hR
    obtain ⟨k1, k2, ho, hg, hn⟩ := hR
    have hcs : cur.size ≤ 1000000000 := by omega
    have hci : (cur.size : Int) ≤ s.size := by omega
    have hdl : done.length ≤ 200000000 := by omega
    have mr := hm.kept hg
    have HK1 := Lib.hid k1
    have HR := Lib.hid hR0
    clear k1 st hR0
    by_cases hop : opB cur = true
    · have hl := open_less hop
      have HOP := Lib.hid hop
      go_wp2_with fail
      refine (Open_yes cur _ mr hcs hop).mono ?_
      rintro e w2 ⟨rfl, g2⟩
      obtain ⟨P, hP⟩ : ∃ P, P = payB cur := ⟨_, rfl⟩
      obtain ⟨B, hB⟩ : ∃ B, B = behB cur := ⟨_, rfl⟩
      rw [← hB] at hl ⊢
      rw [← hP]
      have hBi : (B.size : Int) ≤ s.size := by omega
      have HP := Lib.hid hP
      have HB := Lib.hid hB
      have o2 := own_keep ho g2
      have gA := World.grownBy_alloc w2 (.cells #[Value.string P] 9) none
      have G2 := grow_none (grow_none hg g2) gA
      clear hop hP hB ho
      go_wp2_with (at_builtin; refine wpList_append_row _ rfl _ _ 34 rfl 9 i0 (.string ⟨#[]⟩) 16 Tryz.underlying34 hi hz0 hz1 hz2 rfl _ _ _ rfl (o2.alloc _) _ [Value.string P] rfl (RowAt.lit w2 [Value.string P] _ _ _ rfl) (ones_str [P]) (by show done.length + 1 ≤ 2^63-1; omega) (by show (done.length + 1) * 16 ≤ _; omega) ?_)
      intro v3 w3 o3 g3 m3
      have X3 := grow_newblk G2 hn g3
      have N3 := hn.moved G2.size m3
      go_wp2
      go_roundw
      case rel => exact ⟨done ++ [P], B, by rw [HP.out, HB.out]; exact ScanRel.next HK1.out k2 HOP.out (by rw [← HP.out]; exact o3) X3 N3, rfl, rfl⟩
      case measure => simp only [sizeOf1]; omega
    · have hop' : opB cur = false := by simpa using hop
      have HOP := Lib.hid hop'
      go_wp2_with fail
      refine (Open_not cur _ mr hcs hop').mono ?_
      rintro e w2 ⟨rfl, g2⟩
      clear hop hop'
      obtain ⟨va, vc, rfl, hvc⟩ := own_form2 ho
      go_wp2
      refine bodyPost_ret (v := .tuple #[.slice va done.length vc, .int .i64 ((s.size : Int) - (cur.size : Int))]) ?_ ?_ ?_
      · simp [results, go_sem]
      · rfl
      · exact ScanE.of ⟨HK1.out, k2, own_keep ho g2, grow_none hg g2, hn⟩ HOP.out rfl
theorem suf_next {s c : ByteArray} (h : s.extract (s.size - c.size) s.size = c) (hc : c.size ≤ s.size) (hop : opB c = true) : s.extract (s.size - (behB c).size) s.size = behB c := by
  obtain ⟨h1, _⟩ := open_sound hop
  have hl := open_less hop
  have h2 := congrArg List.length h1
  rw [List.length_append, len_bs, len_bs] at h2
  rw [extract_self] at h ⊢
  have h3 : (s.data.toList.drop (s.size - c.size)).take (s.size - (s.size - c.size)) = c.data.toList := by rw [← bs_list (List.take _ _), h]
  rw [List.take_of_length_le (by rw [List.length_drop, len_bs]; omega)] at h3 ⊢
  have h4 : s.data.toList.drop (s.size - (behB c).size) = (behB c).data.toList := by
    rw [show s.size - (behB c).size = (s.size - c.size) + (frB (payB c)).length by omega, ← List.drop_drop, h3]
    conv => lhs; rw [h1]
    exact List.drop_left' rfl
  rw [h4, bs_self]
set_option maxRecDepth 100000 in
set_option maxHeartbeats 1000000 in
theorem refScan_any (s : ByteArray) (w : World) (hs : s.size ≤ 1000000000) : Calls Tryz.prog 55 #[.string s] w (ScanE s w) := by
  obtain ⟨i0, hi, hz0, hz1, hz2⟩ := info_parts Tryz.info04_string
  have hsi : (s.size : Int) ≤ 1000000000 := by omega
  have st := ScanRel.start s w
  go_enter Tryz.func55, Tryz.ntmps55
  go_wp2
  go_loopw [4, 5] (fun v x wr => ∃ done cur, ScanRel s w done cur v wr ∧ s.extract (s.size - cur.size) s.size = cur ∧ x = .int .i64 ((s.size : Int) - (cur.size : Int))) (fun _ x _ => s.size - (intOf x).toNat)
  case atStart => exact ⟨[], s, st, by rw [Nat.sub_self]; exact (extract_self s 0 s.size).trans (by rw [List.drop_zero, Nat.sub_zero, List.take_of_length_le (by rw [len_bs]; exact Nat.le_refl _), bs_self]), by rw [Int.sub_self]⟩
  case round =>
    obtain ⟨done, cur, hR, hsuf, rfl⟩ := hrel
    obtain ⟨k1, k2, ho, hg, hn⟩ := hR
    have hcs : cur.size ≤ 1000000000 := by omega
    have hcl : cur.size ≤ s.size := by omega
    have hci : (cur.size : Int) ≤ s.size := by omega
    have hdl : done.length ≤ 200000000 := by omega
    have HK1 := Lib.hid k1
    have HSUF := Lib.hid hsuf
    have q2 : (0 : Int) ≤ (s.size : Int) - (cur.size : Int) := by omega
    have q3 : ((s.size : Int) - (cur.size : Int)).toNat = s.size - cur.size := by omega
    clear k1 st
    by_cases hop : opB cur = true
    · have hl := open_less hop
      have HOP := Lib.hid hop
      go_wp2_with fail
      refine (refOpen_yes cur _ hcs hop).mono ?_
      rintro e w2 ⟨rfl, g2⟩
      have HSN := Lib.hid (suf_next HSUF.out hcl hop)
      obtain ⟨P, hP⟩ : ∃ P, P = payB cur := ⟨_, rfl⟩
      obtain ⟨B, hB⟩ : ∃ B, B = behB cur := ⟨_, rfl⟩
      rw [← hB] at hl HSN ⊢
      rw [← hP]
      have hBi : (B.size : Int) ≤ s.size := by omega
      have HP := Lib.hid hP
      have HB := Lib.hid hB
      have o2 := own_keep ho g2
      have gA := World.grownBy_alloc w2 (.cells #[Value.string P] 9) none
      have G2 := grow_none (grow_none hg g2) gA
      clear hop hP hB ho hsuf q3
      go_wp2_with (at_builtin; refine wpList_append_row _ rfl _ _ 34 rfl 9 i0 (.string ⟨#[]⟩) 16 Tryz.underlying34 hi hz0 hz1 hz2 rfl _ _ _ rfl (o2.alloc _) _ [Value.string P] rfl (RowAt.lit w2 [Value.string P] _ _ _ rfl) (ones_str [P]) (by show done.length + 1 ≤ 2^63-1; omega) (by show (done.length + 1) * 16 ≤ _; omega) ?_)
      intro v3 w3 o3 g3 m3
      have X3 := grow_newblk G2 hn g3
      have N3 := hn.moved G2.size m3
      go_wp2
      go_roundw
      case rel => exact ⟨done ++ [P], B, by rw [HP.out, HB.out]; exact ScanRel.next HK1.out k2 HOP.out (by rw [← HP.out]; exact o3) X3 N3, HSN.out, rfl⟩
      case measure => simp only [intOf]; omega
    · have hop' : opB cur = false := by simpa using hop
      have HOP := Lib.hid hop'
      go_wp2_with fail
      refine (refOpen_not cur _ hcs hop').mono ?_
      rintro e w2 ⟨rfl, g2⟩
      clear hop hop'
      obtain ⟨va, vc, rfl, hvc⟩ := own_form2 ho
      go_wp2
      refine bodyPost_ret (v := .tuple #[.slice va done.length vc, .int .i64 ((s.size : Int) - (cur.size : Int))]) ?_ ?_ ?_
      · simp [results, go_sem]
      · rfl
      · exact ScanE.of ⟨HK1.out, k2, own_keep ho g2, grow_none hg g2, hn⟩ HOP.out rfl
end Go.Proofs.YtphljjgjpkdpmaaGreatDoor
