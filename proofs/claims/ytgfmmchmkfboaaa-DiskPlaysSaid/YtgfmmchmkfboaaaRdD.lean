/- The document's drive: Remove. -/
import Derived.Test.YtgfmmchmkfboaaaRdC
import Derived.Test.YtgfmmchmkfboaaaStC
namespace Go.Proofs.Ytgfmmchmkfboaaa
open Go.RowKit
set_option linter.unusedVariables false
section
variable {α : Type} {enc : α → List Value} {k : Nat} {L M : List α} {e : TypeId} {P : Program}
theorem run_append_x2 (w : World) (t ty e : TypeId) (i : TypeInfo) (z : Value) (bytes : Nat) (hk : ∀ x, (enc x).length = k) (h1 : ∀ x, ∀ v ∈ enc x, v.oneCell' = true) (hk0 : 0 < k)
    (ht : P.underlying t = some (.slice e)) (hi : P.info? e = some i) (hz : i.zero = some z) (hsize : i.size = k) (hby : i.bytes = bytes) (hzs : z.cells.size = k)
    (v : Value) (hv : v = .slice none 0 0 ∨ ∃ (g : Nat), v = .slice (some ⟨g, 0, none⟩) L.length L.length) (hown : OwnX enc k e w v L) (vs : Value) (hr : ReadK enc k w vs M) (h63 : L.length + M.length ≤ maxLen) (hbytes : (L.length + M.length) * bytes ≤ 140737488355328) :
    ∃ v' w', (Builtin.append_ #[t, t] ty #[v, vs]).run P w = .ok v' w' ∧ w.grownBy w' none ∧ OwnX enc k e w' v' (L ++ M) ∧ (v'.ownBlock = v.ownBlock ∨ NewBlk w v') := by
  obtain ⟨v', w', hr, hg, h⟩ := run_append_x (P := P) w t ty e i z bytes hk h1 hk0 ht hi hz hsize hby hzs v hv hown vs hr h63 hbytes
  refine ⟨v', w', hr, hg, ?_⟩
  rcases h with ⟨rfl, rfl, rfl⟩ | ⟨ho, hn⟩
  · exact ⟨by rw [List.append_nil]; exact hown, .inl rfl⟩
  · exact ⟨OwnX.of ho, .inr hn⟩
end
set_option maxRecDepth 100000 in
set_option maxHeartbeats 2000000 in
theorem refRemove_any (b : Nat) (v : Value) (d : Rk) (s : ByteArray) (w : World) (h : RAt w b v d) (hs : s.size ≤ maxLen) (hst : d.cnt < 1000000) :
    Calls Try.prog 33 #[.pointer (some ⟨b, 0, none⟩), .string s] w fun e w' => e = .returned (.int .i64 (rstepOfC d s)) ∧ REnd b v (rremoveD d s) w w' := by
  obtain ⟨ii, hi, hz0, hz1, hz2⟩ := info_parts info_rf
  have H := Lib.hid h
  have HS := Lib.hid hs
  have HST := Lib.hid hst
  have c2 := h.c2
  clear h hs hst
  cases hn : nameB s
  · have HC : Hid (rstepOfC d s = 1 ∧ rremoveD d s = d) := by
      have e1 : rstepOfC d s = 1 := by unfold rstepOfC; rw [if_pos hn]
      refine ⟨e1, ?_⟩
      unfold rremoveD; rw [e1, if_neg (by decide)]; unfold rstepOfD; rw [if_pos hn]
    have HN := Lib.hid hn
    clear hn
    go_enter Try.func33, Try.ntmps33
    go_wp2_with fail
    refine (Named_any s _ HS.out).mono ?_
    rintro e w1 ⟨rfl, rfl⟩
    rw [HN.out]
    go_wp2
    go_ret
    exact ⟨by rw [HC.out.1]; rfl, by rw [HC.out.2]; exact REnd.same H.out (grow_refl _ _)⟩
  have HN := Lib.hid hn
  have HNF : Hid (¬ nameB s = false) := by intro x; rw [hn] at x; cases x
  clear hn
  cases ho : d.off
  rotate_left
  · rw [ho] at c2
    have HC : Hid (rstepOfC d s = 50 ∧ rremoveD d s = d) := by
      have e1 : rstepOfC d s = 50 := by unfold rstepOfC; rw [if_neg HNF.out, if_pos ho]
      refine ⟨e1, ?_⟩
      unfold rremoveD; rw [e1, if_neg (by decide)]; unfold rstepOfD; rw [if_neg HNF.out, if_pos ho]
    clear ho
    go_enter Try.func33, Try.ntmps33
    go_wp2_with fail
    refine (Named_any s _ HS.out).mono ?_
    rintro e w1 ⟨rfl, rfl⟩
    rw [HN.out]
    go_wp2
    go_ret
    exact ⟨by rw [HC.out.1]; rfl, by rw [HC.out.2]; exact REnd.same H.out (grow_refl _ _)⟩
  rw [ho] at c2
  have HOF : Hid (¬ d.off = true) := by intro x; rw [ho] at x; cases x
  clear ho
  cases ha : isAt d.L s
  · have HC : Hid (rstepOfC d s = 51 ∧ rremoveD d s = d) := by
      have e1 : rstepOfC d s = 51 := by unfold rstepOfC; rw [if_neg HNF.out, if_neg HOF.out, if_pos ha]
      refine ⟨e1, ?_⟩
      unfold rremoveD; rw [e1, if_neg (by decide)]; unfold rstepOfD; rw [if_neg HNF.out, if_neg HOF.out, if_pos ha]
    have HA := Lib.hid ha
    clear ha
    go_enter Try.func33, Try.ntmps33
    go_wp2_with fail
    refine (Named_any s _ HS.out).mono ?_
    rintro e w1 ⟨rfl, rfl⟩
    rw [HN.out]
    go_wp2_with fail
    refine (At_any b v d s _ H.out).mono ?_
    rintro e w1 ⟨rfl, g1⟩
    rw [HA.out]
    go_wp2
    go_ret
    exact ⟨by rw [HC.out.1]; rfl, by rw [HC.out.2]; exact REnd.same H.out g1⟩
  have HA := Lib.hid ha
  have HAF : Hid (¬ isAt d.L s = false) := by intro x; rw [ha] at x; cases x
  obtain ⟨f, hf, _, hlt⟩ := isAt_yes ha
  obtain ⟨k, hk⟩ : ∃ k, k = placeL d.L s := ⟨_, rfl⟩
  rw [← hk] at hf hlt
  have HK := Lib.hid hk
  clear ha hk hf
  cases hp : rstepB d
  · have HC : Hid (rstepOfC d s = 50 ∧ rremoveD d s = rstepD d) := by
      have e1 : rstepOfC d s = 50 := by unfold rstepOfC; rw [if_neg HNF.out, if_neg HOF.out, if_neg HAF.out, if_pos hp]
      refine ⟨e1, ?_⟩
      unfold rremoveD; rw [e1, if_neg (by decide)]; unfold rstepOfD; rw [if_neg HNF.out, if_neg HOF.out, if_neg HAF.out]
    have HP := Lib.hid hp
    clear hp
    go_enter Try.func33, Try.ntmps33
    go_wp2_with fail
    refine (Named_any s _ HS.out).mono ?_
    rintro e w1 ⟨rfl, rfl⟩
    rw [HN.out]
    go_wp2_with fail
    refine (At_any b v d s _ H.out).mono ?_
    rintro e w1 ⟨rfl, g1⟩
    rw [HA.out]
    have H1 := Lib.hid (H.out.keep g1)
    have G1 := Lib.hid g1
    clear g1
    go_wp2_with fail
    refine (rstep_any b v d w1 H1.out HST.out).mono ?_
    rintro e w2 ⟨rfl, h2, g2⟩
    rw [HP.out]
    go_wp2
    go_ret
    exact ⟨by rw [HC.out.1]; rfl, by rw [HC.out.2]; exact REnd.front G1.out (REnd.of_b h2 g2)⟩
  have HP := Lib.hid hp
  have HC : Hid (rstepOfC d s = 0 ∧ rremoveD d s = { rstepD d with L := d.L.take k ++ d.L.drop (k + 1) }) := by
    have e1 : rstepOfC d s = 0 := by unfold rstepOfC; rw [if_neg HNF.out, if_neg HOF.out, if_neg HAF.out, if_neg (by rw [hp]; simp)]
    refine ⟨e1, ?_⟩
    unfold rremoveD; rw [e1, if_pos rfl, ← HK.out]
  obtain ⟨g, c, rfl, hc1, hc2⟩ := H.out.blkOf hlt
  have hcm : (c : Int) ≤ 9223372036854775807 := by unfold maxLen at hc2; omega
  have hll := H.out.len
  have hli : (d.L.length : Int) ≤ 1000000 := by omega
  have i0 : (0 : Int) ≤ k := by omega
  have i1 : (k : Int) < d.L.length := by omega
  have hci : (d.L.length : Int) ≤ c := by omega
  have i5 : (k : Int) + 1 ≤ d.L.length := by omega
  have q1 : k ≤ c := by omega
  have q2 : k + 1 ≤ c := by omega
  have q3 : k + 1 ≤ d.L.length := by omega
  have i7 : (0 : Int) ≤ (k : Int) + 1 := by omega
  obtain ⟨ad, had, hor⟩ : ∃ ad : Addr, (if c = k + 1 then some (⟨g, 0, none⟩ : Addr) else some ⟨g, (k + 1) * 4, none⟩) = some ad ∧ (k + 1 < d.L.length → ad = ⟨g, (k + 1) * 4, none⟩) := by
    by_cases hc : c = k + 1
    · exact ⟨_, if_pos hc, fun x => by omega⟩
    · exact ⟨_, if_neg hc, fun _ => rfl⟩
  have hwr : IntKind.i64.wrap ((k : Int) + 1) = (k : Int) + 1 := by rw [IntKind.wrap_i64]; omega
  have htn : ((k : Int) + 1).toNat = k + 1 := by omega
  clear hp
  go_enter Try.func33, Try.ntmps33
  go_wp2_with fail
  refine (Named_any s _ HS.out).mono ?_
  rintro e w1 ⟨rfl, rfl⟩
  rw [HN.out]
  go_wp2_with fail
  refine (At_any b _ d s _ H.out).mono ?_
  rintro e w1 ⟨rfl, g1⟩
  rw [HA.out, ← HK.out]
  have H1 := Lib.hid (H.out.keep g1)
  have G1 := Lib.hid g1
  clear g1
  go_wp2_with fail
  refine (rstep_any b _ d w1 H1.out HST.out).mono ?_
  rintro e w2 ⟨rfl, h2, g2⟩
  rw [HP.out]
  obtain ⟨D, hD⟩ : ∃ D, D = rstepD d := ⟨_, rfl⟩
  have hDL : D.L = d.L := by rw [hD, rstepD_L]
  rw [← hD] at h2 HC
  have d0 := h2.c0
  have hown := h2.own
  have hrd := h2.drew.read
  rw [hDL] at hown hrd
  have oX : OwnX Rf.cells 4 66 w2.drew (.slice (some ⟨g, 0, none⟩) k k) (d.L.take k) := hown.cut Rf.len k (by omega)
  have hlk : (d.L.take k).length = k := by rw [List.length_take]; omega
  have rX : ReadK Rf.cells 4 w2.drew (.slice (some ad) (d.L.length - (k + 1)) (c - (k + 1))) (d.L.drop (k + 1)) :=
    ReadK.drop Rf.len hrd (k + 1) q3 _ _ _ rfl (fun hlt' b off e => by injection e with e; injection e with e1 e2; rw [hor hlt', e1, ← e2, Nat.zero_add])
  obtain ⟨v4, w4, hap, g4, o4, m4⟩ := run_append_x2 (P := Try.prog) w2.drew 58 58 66 ii _ 56 Rf.len Rf.ones (by omega) Try.underlying58 hi hz0 hz1 hz2 rfl (.slice (some ⟨g, 0, none⟩) k k) (.inr ⟨g, by rw [hlk]⟩) oX _ rX
    (by rw [hlk, List.length_drop]; show _ ≤ 2^63-1; omega) (by rw [hlk, List.length_drop]; omega)
  have HST4 := Lib.hid (h2.drew.store (d' := { D with L := d.L.take k ++ d.L.drop (k + 1) }) g4 (fun g' hg' => by
      rcases m4 with x | x
      · exact .inl (by rw [← hg', x]; rfl)
      · exact .inr (x g' hg')) o4 rfl rfl rfl (by show (d.L.take k ++ d.L.drop (k + 1)).length ≤ _; rw [List.length_append, hlk, List.length_drop]; omega)
      (fun f hf => h2.sz f (by
        rw [hDL]
        rcases List.mem_append.1 hf with x | x
        · exact List.mem_of_mem_take x
        · exact List.mem_of_mem_drop x))
      (fun f hf => h2.nm f (by
        rw [hDL]
        rcases List.mem_append.1 hf with x | x
        · exact List.mem_of_mem_take x
        · exact List.mem_of_mem_drop x)))
  have HE : Hid (∀ w3, REnd b (.slice (some ⟨g, 0, none⟩) d.L.length c) { D with L := d.L.take k ++ d.L.drop (k + 1) } w2.drew w3 → REnd b (.slice (some ⟨g, 0, none⟩) d.L.length c) { D with L := d.L.take k ++ d.L.drop (k + 1) } w w3) := by
    intro w3 k3
    exact REnd.front G1.out ((REnd.of_b h2.drew (grow_drawn g2)).more fun v1 hv1 => by
      have : v1 = .slice (some ⟨g, 0, none⟩) d.L.length c := by
        have e1 := hv1.c0
        rw [h2.drew.c0] at e1
        injection e1 with e1; exact e1.symm
      subst this
      exact k3)
  obtain ⟨a4, c4, hv4⟩ := (o4.read Rf.len).len
  obtain ⟨N, hN⟩ : ∃ N, N = (d.L.take k ++ d.L.drop (k + 1)).length := ⟨_, rfl⟩
  rw [← hN] at hv4
  subst hv4
  have b4 := h2.drew.blk.keep g4
  have e4 := b4.cell 0 (by simp)
  have f4 := b4.frozen 0
  have HAP := Lib.hid hap
  clear hap oX rX o4 m4 g4 b4 h2 g2 hD hN hown hrd
  go_wp2
  go_region_law (((with_reducible show (if Region.wanted (Oper.mk _ (Op.call { callee := .builtin .append, args := _, argTypes := _ }) _ _ _ _) _ = true then _ else _)); refine step_append_run (.tmp 32) (.tmp 39) 58 (by with_reducible rfl) _ _ _ rfl rfl HAP.out rfl ?_))
  all_goals
    go_wp2
    go_ret
    exact ⟨by rw [HC.out.1]; rfl, by rw [HC.out.2]; exact HE.out _ HST4.out⟩
end Go.Proofs.Ytgfmmchmkfboaaa
