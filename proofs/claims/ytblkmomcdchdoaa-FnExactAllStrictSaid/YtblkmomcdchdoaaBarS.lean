/-
  Contracts: bars that are searched, all of them and up to an index.
-/
import Derived.Test.YtblkmomcdchdoaaBarI
import Derived.Test.YtblkmomcdchdoaaCC
import Derived.Maps.AppendAt
import Derived.WalkMore
import Derived.Test.YtblkmomcdchdoaaKeep2
namespace Go.Proofs.Ytblkmomcdchdoaa
open Go.RowKit

theorem ownsRow_slice' {w : World} {B e s n : Nat} {v : Value} {xs : List Value} (h : w.ownsRow B e s v n xs) : ∃ A c, v = .slice A n c := by
  rcases h.2 with ⟨hv, h0⟩ | ⟨g, cap, cur, hv, _⟩
  · exact ⟨none, 0, by rw [hv, h0]⟩
  · exact ⟨_, _, hv⟩
end Go.Proofs.Ytblkmomcdchdoaa
