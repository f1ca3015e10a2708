/- What the row's listed variables give: Itoa's table, and that Atoi's error of syntax is one. -/
import Derived.Test.YtfaelefeiinbaaaDoorMArgs
import Derived.Test.YtfaelefeiinbaaaDoorMItoa
import Derived.Lib.LaidTab
import Derived.LaidSub
import Derived.LaidLaws
import Derived.Stop.LaidErr
import Derived.MakeChecks
namespace Go.Proofs.YtfaelefeiinbaaaDoor
open Go.ChangeShapes Go.WideShapes Go.ChangeAt Go.RowKit

/-- strconv.ErrSyntax holds an error -/
def Errs (w : World) : Prop := ∃ tp p, w.var? Tryd.prog "strconv.ErrSyntax" = some #[.iface tp p]

theorem only_tab : (Rows.moneyTextsRow.laid.filter fun x => x.1 == "internal/strconv.uint64pow10") = [("internal/strconv.uint64pow10", Rows.laid_internal_strconv_uint64pow10)] := by kernel_rfl
theorem only_err : (Rows.moneyTextsRow.laid.filter fun x => x.1 == "strconv.ErrSyntax") = [("strconv.ErrSyntax", Rows.laid_strconv_ErrSyntax)] := by kernel_rfl
theorem gTab : ((Tryd.prog.globalNamed "internal/strconv.uint64pow10").bind fun g => ((Tryd.prog.globals[g]?).map (·.type)).map fun t => (Tryd.prog.underlying t, Tryd.prog.cellsOf t)) = some (some (.array 20 65), 20) := by kernel_rfl
theorem gErr : ((Tryd.prog.globalNamed "strconv.ErrSyntax").bind fun g => ((Tryd.prog.globals[g]?).map (·.type)).map fun t => match Tryd.prog.underlying t with | some (.interface _) => true | _ => false) = some true := by kernel_rfl

theorem tab_of {W : World} (h : laidMetH Tryd.prog Rows.moneyTextsRow.laid W) : Tab W := by
  have h1 := h.filter (fun x => x.1 == "internal/strconv.uint64pow10")
  rw [only_tab, MakeChecks.laidMetH_plain _ _ _ (by kernel_rfl)] at h1
  obtain ⟨g, hg, hg2⟩ := Option.bind_eq_some_iff.1 gTab
  obtain ⟨t, ht, ht2⟩ := Option.map_eq_some_iff.1 hg2
  obtain ⟨hu, hc⟩ := Prod.mk.inj ht2
  exact Lib.tabIs_of_head (rest := []) hg ht hu Tryd.underlying65 (by kernel_rfl) hc h1
theorem errs_of {W : World} (h : laidMetH Tryd.prog Rows.moneyTextsRow.laid W) : Errs W := by
  have h1 := h.filter (fun x => x.1 == "strconv.ErrSyntax")
  rw [only_err, MakeChecks.laidMetH_plain _ _ _ (by kernel_rfl)] at h1
  obtain ⟨ps, ⟨g0, t0, cs0, f0, p0, q0, hg0, ht0, hv0, hd0, _, e0⟩, _, hrows⟩ := h1
  obtain ⟨g, hg, hg2⟩ := Option.bind_eq_some_iff.1 gErr
  obtain ⟨t, ht, ht2⟩ := Option.map_eq_some_iff.1 hg2
  obtain rfl := Option.some.inj (hg.symm.trans hg0)
  obtain rfl := Option.some.inj (ht.symm.trans ht0)
  cases hu : Tryd.prog.underlying t with
  | none => rw [hu] at ht2; cases ht2
  | some d =>
    rw [hu] at ht2
    cases d with
    | interface ms =>
      obtain ⟨_, u, v, e, _, _⟩ := iface_of_trod hu hd0
      refine ⟨u, v, ?_⟩
      rw [hv0]
      congr 1
      exact Array.ext' e
    | _ => cases ht2
end Go.Proofs.YtfaelefeiinbaaaDoor
