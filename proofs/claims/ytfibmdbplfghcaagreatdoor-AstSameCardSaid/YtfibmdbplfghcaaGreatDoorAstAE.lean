/- The law on equal queries, whatever they are. -/
import Derived.Test.YtfibmdbplfghcaaGreatDoorAstAD
namespace Go.Proofs.YtfibmdbplfghcaaGreatDoor
open Go.RowKit
open A8 Tk7

theorem lsame_any (a b : GQ) (w : World) (hL : Lay w) (ha : QW w a) (hb : QW w b) :
    Calls Tryz.prog 5 #[.agg a.row.toArray, .agg b.row.toArray] w fun e w' => e = .returned (.bool true) ∧ Below w.heap.size w w' := by
  have hLa := fun w' (hb' : Below w.heap.size w w') => light_any a w' (ha.later hb')
  have hLb := fun w' (hb' : Below w.heap.size w w') => light_any b w' (hb.later hb')
  have hW := fun w' (hb' : Below w.heap.size w w') => awake_any w' (hL.later hb')
  have hAB := fun w' (hb' : Below w.heap.size w w') => sameq_any a b w' (ha.later hb') (hb.later hb')
  have hBA := fun w' (hb' : Below w.heap.size w w') => sameq_any b a w' (hb.later hb') (ha.later hb')
  have hAA := fun w' (hb' : Below w.heap.size w w') => sameq_any a a w' (ha.later hb') (ha.later hb')
  have hR := fun w' (hb' : Below w.heap.size w w') => rsameq_any a b w' (ha.later hb') (hb.later hb')
  rw [sameQ_symm a.qu b.qu] at hBA
  rw [sameQ_refl] at hAA
  obtain ⟨p, hp⟩ : ∃ p, p = lightB a.qu := ⟨_, rfl⟩
  obtain ⟨q, hq⟩ : ∃ q, q = lightB b.qu := ⟨_, rfl⟩
  obtain ⟨s, hs⟩ : ∃ s, s = sameQ a.qu b.qu := ⟨_, rfl⟩
  rw [← hp] at hLa
  rw [← hq] at hLb
  rw [← hs] at hAB hBA hR
  clear hp hq hs hL ha hb
  obtain ⟨⟨xk, xmn, xmx, ⟨⟨xkd, xbd, xbn, xcs, xnm⟩, xsc⟩, xsk, xks⟩, xw, xh, xhv, xe, xem⟩ := a
  obtain ⟨⟨yk, ymn, ymx, ⟨⟨ykd, ybd, ybn, ycs, ynm⟩, ysc⟩, ysk, yks⟩, yw, yh, yhv, ye, yem⟩ := b
  simp only [qrow_is'] at hLa hLb hAB hBA hAA hR ⊢
  cases p with
  | false => exact lsame_a xk xmn xmx xkd xbd xbn xsc (strOf xnm) xsk xw xh xe yk ymn ymx ykd ybd ybn ysc (strOf ynm) ysk yw yh ye w hLa hW
  | true =>
    cases q with
    | false => exact lsame_b xk xmn xmx xkd xbd xbn xsc (strOf xnm) xsk xw xh xe yk ymn ymx ykd ybd ybn ysc (strOf ynm) ysk yw yh ye w hLa hLb hW
    | true =>
      cases s with
      | false => exact lsame_cf xk xmn xmx xkd xbd xbn xsc (strOf xnm) xsk xw xh xe yk ymn ymx ykd ybd ybn ysc (strOf ynm) ysk yw yh ye w hLa hLb hW hAB hBA hAA hR
      | true => exact lsame_ct xk xmn xmx xkd xbd xbn xsc (strOf xnm) xsk xw xh xe yk ymn ymx ykd ybd ybn ysc (strOf ynm) ysk yw yh ye w hLa hLb hW hAB hBA hAA hR
end Go.Proofs.YtfibmdbplfghcaaGreatDoor
