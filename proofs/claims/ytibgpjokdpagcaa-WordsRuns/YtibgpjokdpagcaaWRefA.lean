/- The document's machine does an instruction, whichever. -/
import Derived.Test.YtibgpjokdpagcaaWRefD1
import Derived.Test.YtibgpjokdpagcaaWRefD2
import Derived.Test.YtibgpjokdpagcaaWRefD3
import Derived.Test.YtibgpjokdpagcaaWRefD4
import Derived.Test.YtibgpjokdpagcaaWRefD5
import Derived.Test.YtibgpjokdpagcaaWRefD6
import Derived.Test.YtibgpjokdpagcaaWRefD7
import Derived.Test.YtibgpjokdpagcaaWRefD8
namespace Go.Proofs.Ytibgpjokdpagcaa
open Go.RowKit

section
variable {wb w : World} {mb pb rb db : Nat} {vt vc : Value} {m n : Nat} {Ps : List Int} {R : List (List Int)} {D : List Bool} {c : List Int} {k : Nat} {t : Nat} {L : List InsV} {tb to ct : Nat} {ta : Option Addr} {tc : Nat}

theorem do_any (h : RefG wb w mb pb rb db vt vc m n Ps R D c k) (hT : TaskAt wb vt m t L tb to ct ta tc) (ht : t < m) {p : Nat} (hp : Ps.getD t 0 = (p : Int)) {x : InsV} (hx : L[p]? = some x) (hO : TaskOk L n) (h8 : (R.getD t []).length = 8) :
    Calls Try.prog 29 #[.pointer (some ⟨mb, 0, none⟩), .int .i64 (t : Int)] w fun e w' => e = .returned (.bool (doA x ⟨R.getD t [], p, c⟩ L.length)) ∧
      RefG wb w' mb pb rb db vt vc m n (Ps.set t (doP x ⟨R.getD t [], p, c⟩ L.length)) (R.set t (St.one L.length ⟨R.getD t [], p, c⟩ x).1.r) (doD x D t) (St.one L.length ⟨R.getD t [], p, c⟩ x).1.c k := by
  have hm := (hO.all x (List.mem_of_getElem? hx)).2
  have hk : x.kind = 1 ∨ x.kind = 2 ∨ x.kind = 3 ∨ x.kind = 7 ∨ x.kind = 4 ∨ x.kind = 5 ∨ x.kind = 6 ∨ x.kind = 8 := by
    unfold InsV.num at hm
    split at hm
    · omega
    · split at hm
      · omega
      · split at hm
        · omega
        · exact hm.elim
  rcases hk with e | e | e | e | e | e | e | e
  · exact do_1 h hT ht hp hx e hO h8
  · exact do_2 h hT ht hp hx e hO h8
  · exact do_3 h hT ht hp hx e hO h8
  · exact do_7 h hT ht hp hx e hO h8
  · exact do_4 h hT ht hp hx e hO h8
  · exact do_5 h hT ht hp hx e hO h8
  · exact do_6 h hT ht hp hx e hO h8
  · exact do_8 h hT ht hp hx e hO h8
end

end Go.Proofs.Ytibgpjokdpagcaa
