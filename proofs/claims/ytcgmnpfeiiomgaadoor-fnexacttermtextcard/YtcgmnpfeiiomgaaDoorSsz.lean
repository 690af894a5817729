/- The model's sizes of a tree: spec.SizeOf, spec.l05Size. -/
import Derived.Test.YtcgmnpfeiiomgaaDoorTrz
import Derived.Deep.QuietTactic
import Derived.StillTailTactics
namespace Go.Proofs.YtcgmnpfeiiomgaaDoor
open Go.RowKit

theorem tree_ind {p : TreeD → Prop} (h : ∀ t : TreeD, (∀ i (h : i < t.kids.length), p t.kids[i]) → p t) (t : TreeD) : p t :=
  h t (kids_ind (p := fun ts => ∀ i (h : i < ts.length), p ts[i]) (fun _ ih i hi => h _ (ih i hi)) t.kids)

end Go.Proofs.YtcgmnpfeiiomgaaDoor
