/- Queries made of numbers: what flow wants of them. -/
import Derived.Test.YtdoioaeppepndaaDoorFlAx
import Derived.Test.YtdoioaeppepndaaDoorFlMx
import Derived.Test.YtdoioaeppepndaaDoorKitQw
import Derived.Test.YtdoioaeppepndaaDoorWfPx
namespace Go.Proofs.YtdoioaeppepndaaDoor
open Go.RowKit Go.Shelf
open A8 Tk7 W10 Lb F11 Kq

theorem fl_kit {w : World} {q : GQ} {l : List Int} (hq : QW w q) (h : q.qu = kitQ l) : FlG w q := by
  have hp : q.t.nd = (kitQ l).p := congrArg Qu.p h
  have h1 : (subsT q.t).length = lenN q.t.nd := by unfold lenN; rw [← subsT_nd, List.length_map]
  have h2 := kit_len l
  rw [← hp] at h2
  refine ⟨hq, by omega, fun s hs => ?_, fun t ht => ?_⟩
  · rw [h] at hs
    have := use_short l s hs
    unfold maxLen
    omega
  · have hm : t.nd ∈ subsN q.t.nd := by rw [← subsT_nd]; exact List.mem_map_of_mem ht
    rw [hp] at hm
    have := ((kit_pat l).small t.nd hm).1
    omega
theorem bn_ok {w : World} {q : GQ} (hq : QW w q) : BnOk (atsQ q.qu) := by
  intro a ha
  unfold atsQ at ha
  split at ha
  · obtain ⟨n, hn, rfl⟩ := List.mem_map.1 ha
    have h1 : n ∈ subsN q.t.nd := (List.mem_filter.1 hn).1
    rw [← subsT_nd] at h1
    obtain ⟨t, ht, rfl⟩ := List.mem_map.1 h1
    have := hq.tr t ht
    cases t with
    | mk k mn mx g sk ks =>
      rw [nd_mk]
      exact this.2.1.1.bn
  · cases ha
end Go.Proofs.YtdoioaeppepndaaDoor
