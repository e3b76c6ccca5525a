/- Stage 3: what the row's list gives: the tables' cells. -/
import Derived.Test.YtgcdfoadegojcaaDoorRows
import Derived.Test.YtgcdfoadegojcaaDoorShG
import Derived.Lib.LaidTab
namespace Go.Proofs.YtgcdfoadegojcaaDoor
open Go.RowKit
theorem laid_tail {P : Program} {W : World} {x : String × DataW Unit} {rest : List (String × DataW Unit)} (h : laidMet P (x :: rest) W) : laidMet P rest W := by
  obtain ⟨ps, hv, hnd, hall⟩ := h
  obtain ⟨n, d⟩ := x
  obtain ⟨g, t, cs, fuel, p, q, _, _, _, _, hr, rfl⟩ := hv
  exact ⟨q, hr, (List.nodup_append.1 hnd).2.1, fun b off hm => hall b off (List.mem_append_right _ hm)⟩
theorem gFirst : Tryd.prog.globalNamed "redoubt/sha.first" = some 0 := by kernel_rfl
theorem gFirstType : (Tryd.prog.globals[0]?).map (·.type) = some 57 := by kernel_rfl
theorem gCubes : Tryd.prog.globalNamed "redoubt/sha.cubes" = some 1 := by kernel_rfl
theorem gCubesType : (Tryd.prog.globals[1]?).map (·.type) = some 65 := by kernel_rfl
theorem cells8 : Tryd.prog.cellsOf 57 = 8 := by kernel_rfl
theorem cells64 : Tryd.prog.cellsOf 65 = 64 := by kernel_rfl
theorem cellsU32 : Tryd.prog.cellsOf 56 = 1 := by kernel_rfl
/-- Both tables lie there. -/
def Tb (w : World) : Prop := Ck w ∧ Fi w
theorem Tb.kept {w w' : World} (h : Tb w) (g : w.grownBy w' none) : Tb w' := ⟨h.1.kept g (by simp), h.2.kept g (by simp)⟩
theorem first_all : ∀ i : Fin 8, ([1779033703, 3144134277, 1013904242, 2773480762, 1359893119, 2600822924, 528734635, 1541459225] : List Int).getD i.val 0 = un (h0.getD i.val 0) := by decide +kernel
theorem cubes_all : ∀ i : Fin 64, ([1116352408, 1899447441, 3049323471, 3921009573, 961987163, 1508970993, 2453635748, 2870763221, 3624381080, 310598401, 607225278, 1426881987, 1925078388, 2162078206, 2614888103, 3248222580, 3835390401, 4022224774, 264347078, 604807628, 770255983, 1249150122, 1555081692, 1996064986, 2554220882, 2821834349, 2952996808, 3210313671, 3336571891, 3584528711, 113926993, 338241895, 666307205, 773529912, 1294757372, 1396182291, 1695183700, 1986661051, 2177026350, 2456956037, 2730485921, 2820302411, 3259730800, 3345764771, 3516065817, 3600352804, 4094571909, 275423344, 430227734, 506948616, 659060556, 883997877, 958139571, 1322822218, 1537002063, 1747873779, 1955562222, 2024104815, 2227730452, 2361852424, 2428436474, 2756734187, 3204031479, 3329325298] : List Int).getD i.val 0 = un (Kw i.val) := by decide +kernel
theorem tb_of_laid {W : World} (h : laidMetH Tryd.prog [("redoubt/sha.first", Rows.laid_redoubt_sha_first), ("redoubt/sha.cubes", Rows.laid_redoubt_sha_cubes)] W) : Tb W := by
  have h1 : laidMet Tryd.prog [("redoubt/sha.first", Lib.tabData .u32 [1779033703, 3144134277, 1013904242, 2773480762, 1359893119, 2600822924, 528734635, 1541459225]), ("redoubt/sha.cubes", Lib.tabData .u32 [1116352408, 1899447441, 3049323471, 3921009573, 961987163, 1508970993, 2453635748, 2870763221, 3624381080, 310598401, 607225278, 1426881987, 1925078388, 2162078206, 2614888103, 3248222580, 3835390401, 4022224774, 264347078, 604807628, 770255983, 1249150122, 1555081692, 1996064986, 2554220882, 2821834349, 2952996808, 3210313671, 3336571891, 3584528711, 113926993, 338241895, 666307205, 773529912, 1294757372, 1396182291, 1695183700, 1986661051, 2177026350, 2456956037, 2730485921, 2820302411, 3259730800, 3345764771, 3516065817, 3600352804, 4094571909, 275423344, 430227734, 506948616, 659060556, 883997877, 958139571, 1322822218, 1537002063, 1747873779, 1955562222, 2024104815, 2227730452, 2361852424, 2428436474, 2756734187, 3204031479, 3329325298])] W := h
  have t1 : Lib.TabIs Tryd.prog W "redoubt/sha.first" .u32 [1779033703, 3144134277, 1013904242, 2773480762, 1359893119, 2600822924, 528734635, 1541459225] :=
    Lib.tabIs_of_head gFirst gFirstType Tryd.underlying57 Tryd.underlying56 cellsU32 cells8 h1
  have t2 : Lib.TabIs Tryd.prog W "redoubt/sha.cubes" .u32 [1116352408, 1899447441, 3049323471, 3921009573, 961987163, 1508970993, 2453635748, 2870763221, 3624381080, 310598401, 607225278, 1426881987, 1925078388, 2162078206, 2614888103, 3248222580, 3835390401, 4022224774, 264347078, 604807628, 770255983, 1249150122, 1555081692, 1996064986, 2554220882, 2821834349, 2952996808, 3210313671, 3336571891, 3584528711, 113926993, 338241895, 666307205, 773529912, 1294757372, 1396182291, 1695183700, 1986661051, 2177026350, 2456956037, 2730485921, 2820302411, 3259730800, 3345764771, 3516065817, 3600352804, 4094571909, 275423344, 430227734, 506948616, 659060556, 883997877, 958139571, 1322822218, 1537002063, 1747873779, 1955562222, 2024104815, 2227730452, 2361852424, 2428436474, 2756734187, 3204031479, 3329325298] :=
    Lib.tabIs_of_head gCubes gCubesType Tryd.underlying65 Tryd.underlying56 cellsU32 cells64 (laid_tail h1)
  refine ⟨fun j hj => ?_, fun j hj => ?_⟩
  · rw [t2.cell gCubes j hj, cubes_all ⟨j, hj⟩]
  · rw [t1.cell gFirst j hj, first_all ⟨j, hj⟩]
end Go.Proofs.YtgcdfoadegojcaaDoor
