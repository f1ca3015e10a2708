/- The program's auth keeps what is asked of it. -/
import Derived.Test.YtibglhlhogfdnaaDoorUCheck
import Derived.Test.YtibglhlhogfdnaaDoorUNamesC
namespace Go.Proofs.YtibglhlhogfdnaaDoor
open Go.RowKit QP AP

/-- the program's calls -/
def theKit : KitA := {
  Ok := Con
  ok := fun h hb => h.below hb
  I := KeyI
  res := keyI_res
  rise := fun h => by
    obtain ⟨m, hG, _⟩ := h
    exact ⟨hG.rise, hG.few⟩
  new := fun w _ => new_auth w
  put := fun g K n k w F _ h hn hk => put_auth g K n k w F h hn hk
  take := fun g K n w F _ h hn => take_auth g K n w F h hn
  names := fun g K w F _ h => names_auth g K w F h
  chal := fun d n w hc _ => chal_auth d n w hc
  proof := fun k n c w hw hk hn hc => proof_auth k n c w hw hk hn hc
  check := fun g K n c p w F hw h hn hc hp => check_auth g K n c p w F hw h hn hc hp }
end Go.Proofs.YtibglhlhogfdnaaDoor
