/-
  Package pack: Read tells of every text what the plain function tells: over this seat's translation.
-/
import Derived.Test.YtcnejkbbheihiaaDoorPkFilePkCutFile
import Derived.Test.YtcnejkbbheihiaaDoorPkNextPkCheck
import Derived.Test.YtcnejkbbheihiaaDoorTold
namespace Go.Proofs.YtcnejkbbheihiaaDoor
open Go.RowKit Go.Shelf

theorem cutV_none {s : List UInt8} (h : cutFileL s = none) : cutV s = .tuple #[fv ⟨[], false, []⟩, sv [], .bool false] := by unfold cutV; rw [h]
theorem cutV_some {s r : List UInt8} {f : F} (h : cutFileL s = some (f, r)) : cutV s = .tuple #[fv f, sv r, .bool true] := by unfold cutV; rw [h]

theorem small_pack {l : List F} (h : (packL l).length ≤ 20000) : Small l :=
  ⟨by have := pack_count l; omega, fun f hf => by have := (pack_mem hf).1; omega, fun f hf => by have := (pack_mem hf).2; omega⟩

theorem owns_files {w : World} {base : Nat} {v : Value} {l : List F} (h : w.ownsRow base 47 3 v l.length (lcells l)) : ∃ a cap, v = .slice a l.length cap ∧ LiesAt w a l ∧ l.length ≤ cap := by
  obtain ⟨a, cap, rfl, hl, hn⟩ := owns_lies h
  refine ⟨a, cap, rfl, hl, ?_⟩
  rcases h.2 with ⟨h0, h1⟩ | ⟨g, c, cur, h0, _, _, h1, _⟩
  · omega
  · cases h0
    exact h1

end Go.Proofs.YtcnejkbbheihiaaDoor
