/- How layer 25's cards lie: what is laid in the program's table. -/
import Derived.Test.YtibglhlhogfdnaaDoorRows
import Derived.Test.YtibglhlhogfdnaaDoorTie
import Derived.Test.YtibglhlhogfdnaaDoorCards
import Derived.Test.YtibglhlhogfdnaaDoorUOwn
import Derived.Test.YtibglhlhogfdnaaDoorUArgs
import Derived.LaidMore
import Derived.LaidHandle
import Derived.SevenTiedAt
import Derived.Stop.Joined
import Derived.Lib.LaidTab
import Derived.LaidSub
import Derived.LaidLaws
import Derived.MakeChecks
namespace Go.Proofs.YtibglhlhogfdnaaDoor
open Go.ChangeShapes Go.WideShapes Go.ChangeAt Go.RowKit QP

def Kz : List Int := [1116352408, 1899447441, 3049323471, 3921009573, 961987163, 1508970993, 2453635748, 2870763221, 3624381080, 310598401, 607225278, 1426881987, 1925078388, 2162078206, 2614888103, 3248222580, 3835390401, 4022224774, 264347078, 604807628, 770255983, 1249150122, 1555081692, 1996064986, 2554220882, 2821834349, 2952996808, 3210313671, 3336571891, 3584528711, 113926993, 338241895, 666307205, 773529912, 1294757372, 1396182291, 1695183700, 1986661051, 2177026350, 2456956037, 2730485921, 2820302411, 3259730800, 3345764771, 3516065817, 3600352804, 4094571909, 275423344, 430227734, 506948616, 659060556, 883997877, 958139571, 1322822218, 1537002063, 1747873779, 1955562222, 2024104815, 2227730452, 2361852424, 2428436474, 2756734187, 3204031479, 3329325298]
theorem Kz_is : Kz = K.map fun x : Nat => (x : Int) := by rw [K_is]; rfl
theorem gCon : Tryd.prog.globalNamed "hopper/sha.constants" = some 0 := by kernel_rfl
theorem tCon : ((Tryd.prog.globals[(0 : Nat)]?).map (·.type)) = some 99 := by kernel_rfl
theorem cCon : Tryd.prog.cellsOf 99 = 64 := by kernel_rfl
theorem con_of {W : World} (h : laidMetH Tryd.prog [("hopper/sha.constants", Rows.laid_hopper_sha_constants)] W) : Con W := by
  rw [MakeChecks.laidMetH_plain _ _ _ (by kernel_rfl)] at h
  have ht : Lib.TabIs Tryd.prog W "hopper/sha.constants" .u32 Kz := Lib.tabIs_of_head (rest := []) gCon tCon Tryd.underlying99 Tryd.underlying77 (by kernel_rfl) cCon h
  have hc : ∀ i x : Nat, K[i]? = some x → W.cell? ⟨0, i, none⟩ = some (.int .u32 (x : Int)) := fun i x hx => by
    have hi : i < K.length := (List.getElem?_eq_some_iff.1 hx).1
    have hz : Kz.getD i 0 = (x : Int) := by rw [Kz_is, List.getD_eq_getElem?_getD, List.getElem?_map, hx]; rfl
    have h1 := Lib.TabIs.cell ht gCon i (by rw [Kz_is, List.length_map]; exact hi)
    rwa [hz] at h1
  exact ⟨block_lt_of_cell (hc 0 _ (List.getElem?_eq_getElem (by rw [K_length]; decide))), hc⟩
end Go.Proofs.YtibglhlhogfdnaaDoor
