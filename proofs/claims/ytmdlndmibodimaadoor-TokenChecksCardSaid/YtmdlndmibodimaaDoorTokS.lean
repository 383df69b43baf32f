/- Walk: the program's text of tokens. -/
import Derived.Test.YtmdlndmibodimaaDoorTokR
import Derived.Test.YtmdlndmibodimaaDoorShelfMore
import Derived.Test.YtmdlndmibodimaaDoorAppRun
import Derived.Laws.MakeOwn
import Derived.Deep.OwnRows
namespace Go.Proofs.YtmdlndmibodimaaDoor
open Go.RowKit
open Tk7

/-- The first error of a list of tokens. -/
def errK : List TK → Int
  | [] => 0
  | x :: xs => if checkI x = 0 then errK xs else checkI x
/-- The text of a list of tokens. -/
def textK (ks : List TK) : List UInt8 := if errK ks = 0 then Lib.join (ks.map (·.2.1)) [32] else []
theorem infoStr7 : (Tryd.prog.info? 9).map (fun i => (i.zero, i.size, i.bytes)) = some (some (.string ⟨#[]⟩), 1, 16) := by kernel_rfl
def outs (ks : List TK) : List ByteArray := ks.map fun x => strOf x.2.1
def svals (l : List ByteArray) : List Value := l.map Value.string
theorem outs_len (ks : List TK) : (outs ks).length = ks.length := by unfold outs; rw [List.length_map]
theorem outs_bytes (ks : List TK) : (outs ks).map (·.data.toList) = ks.map (·.2.1) := by
  unfold outs
  rw [List.map_map]
  apply List.map_congr_left
  intro x _
  exact strOf_dat _
theorem madeS (n : Nat) : madeCells #[Value.string ⟨#[]⟩] n = (List.replicate n (Value.string ⟨#[]⟩)).toArray := by
  apply Array.ext'
  apply List.ext_getElem?
  intro j
  by_cases hj : j < n
  · simp only [madeCells, Array.toList_map, Array.toList_range, List.getElem?_map, List.getElem?_range hj, Option.map_some]
    simp [hj, Nat.mod_one]
  · rw [List.getElem?_eq_none (by rw [Array.length_toList, size_madeCells]; omega), List.getElem?_eq_none (by simp; omega)]
theorem errK_step {ks : List TK} {k : Nat} (h : k < ks.length) : errK (ks.drop k) = if checkI ks[k] = 0 then errK (ks.drop (k + 1)) else checkI ks[k] := by
  rw [List.drop_eq_getElem_cons h]; rfl
theorem svals_take {ks : List TK} {k : Nat} (h : k < ks.length) : (svals (outs (ks.take k)) ++ List.replicate (ks.length - k) (Value.string ⟨#[]⟩)).set k (.string (strOf ks[k].2.1)) = svals (outs (ks.take (k + 1))) ++ List.replicate (ks.length - (k + 1)) (Value.string ⟨#[]⟩) := by
  have hl : (svals (outs (ks.take k))).length = k := by unfold svals outs; rw [List.length_map, List.length_map, List.length_take]; omega
  rw [List.set_append_right _ _ (by omega), hl, Nat.sub_self, show ks.length - k = (ks.length - (k + 1)) + 1 by omega, List.replicate_succ, List.set_cons_zero, take_snoc _ _ h]
  unfold svals outs
  rw [List.map_append, List.map_append, List.append_assoc]
  rfl
theorem svals_at {ks : List TK} {k : Nat} (h : k < ks.length) : (svals (outs (ks.take k)) ++ List.replicate (ks.length - k) (Value.string ⟨#[]⟩))[k]? = some (Value.string ⟨#[]⟩) := by
  have hl : (svals (outs (ks.take k))).length = k := by unfold svals outs; rw [List.length_map, List.length_map, List.length_take]; omega
  rw [List.getElem?_append_right (by omega), hl, Nat.sub_self, List.getElem?_replicate, if_pos (by omega)]
set_option maxRecDepth 100000 in
set_option maxHeartbeats 4000000 in
theorem text_any (v : Value) (ks : List TK) (w : World) (hG : SG w) (hv : KSl w v ks) (hl : ks.length ≤ 1000) (hs : ∀ x ∈ ks, x.2.1.length ≤ 100000) (hjl : (Lib.join (ks.map (·.2.1)) [32]).length ≤ 1000000000) :
    Calls Tryd.prog 14 #[v] w fun e w' => e = .returned (.tuple #[.string (strOf (textK ks)), .int .i64 (errK ks)]) ∧ Below w.heap.size w w' := by
  obtain ⟨A, cap, rfl, hcap, hmax, _, hc⟩ := hv.at_
  have hmk : ∀ w, (Instr.makeSlice 62 (.int .i64 (ks.length : Int)) (.int .i64 (ks.length : Int))).run Tryd.prog w = .ok (.slice (some ⟨w.heap.size, 0, none⟩) ks.length ks.length) (w.alloc (.cells (List.replicate ks.length (Value.string ⟨#[]⟩)).toArray 9)) := fun w => by
    rw [← madeS]
    exact run_make_row' 62 9 (.string ⟨#[]⟩) 16 Tryd.underlying62 infoStr7 rfl .i64 .i64 ks.length (by omega) (by omega) w
  have hW := fun (x : TK) (h : x.2.1.length ≤ 100000) W hG => check_any x.1 x.2.1 x.2.2 (by unfold maxLen; omega) W hG
  have HC := Lib.hid hc
  have HS := Lib.hid hs
  clear hc hs hv
  go_enter Tryd.func14, Tryd.ntmps14
  go_wp2
  clear hmk
  go_loopw [13] (fun i wr => ∃ k : Nat, k ≤ ks.length ∧ i = .int .i64 (k : Int) ∧ Hid (errK ks = errK (ks.drop k)) ∧ Hid (Blk wr w.heap.size (svals (outs (ks.take k)) ++ List.replicate (ks.length - k) (Value.string ⟨#[]⟩))) ∧ Below w.heap.size w wr) (fun i _ => ks.length - (intOf i).toNat)
  case atStart =>
    refine ⟨0, Nat.zero_le _, rfl, Lib.hid rfl, Lib.hid ?_, by go_grown⟩
    exact Blk.is _ rfl
  case round =>
    obtain ⟨k, hk, rfl, hE, hK, hB⟩ := hrel
    by_cases hlt : k < ks.length
    · obtain ⟨a, rfl, hab, c0, c1, c2⟩ := HC.out k hlt
      have d0 := (hB.cell (p := a.add (k * 3)) (by rw [add_block]; omega)).trans c0
      have d1 := (hB.cell (p := a.add (k * 3 + 1)) (by rw [add_block]; omega)).trans c1
      have d2 := (hB.cell (p := a.add (k * 3 + 2)) (by rw [add_block]; omega)).trans c2
      rw [← add_at _ (k * 3) 1 (by decide)] at d1
      rw [← add_at _ (k * 3) 2 (by decide)] at d2
      have hi' : (k : Int) < (ks.length : Int) := by omega
      have hBk := fun w hG => hW ks[k] (HS.out _ (List.getElem_mem hlt)) w hG
      have hst := errK_step hlt
      have hsv := svals_take hlt
      obtain ⟨x, hx⟩ : ∃ x, x = ks[k] := ⟨_, rfl⟩
      rw [← hx] at hBk hst hsv d0 d1 d2
      obtain ⟨K, S, at_⟩ := x
      simp only at hBk hsv d0 d1 d2
      obtain ⟨q, hq⟩ : ∃ q, q = checkI (K, S, at_) := ⟨_, rfl⟩
      rw [← hq] at hBk hst
      have HSV := Lib.hid hsv
      have HST := Lib.hid hst
      have GB := hG.later hB
      clear c0 c1 c2 hx hq hsv hst
      by_cases hq : q = 0
      · subst hq
        have HE := Lib.hid (show errK ks = errK (ks.drop (k + 1)) by rw [hE.out, HST.out, if_pos rfl])
        go_wp2_with (go_at_call 26; refine (hBk _ (GB.later (below1 _ _))).mono ?_; rintro e w' ⟨rfl, hb⟩; have HK := Lib.hid ((hK.out.alloc _).later hb); have HB := Lib.hid (bstep (bstep hB (below1 _ _)) hb); have s0 := HK.out.cell k _ (svals_at hlt); have sf := HK.out.fr k _ (svals_at hlt); have z := (Blk.is (w := wr) (us := [.int .i64 K, .string (strOf S), .int .i64 at_]) 30 rfl).later hb; have z0 := z.cell 0 _ rfl; have z1 := z.cell 1 _ rfl; have z2 := z.cell 2 _ rfl; clear z)
        go_roundw
        case rel => exact ⟨k + 1, by omega, by go_num, HE, Lib.hid (by rw [← HSV.out]; exact HK.out.set k _), HB.out.setCell (p := ⟨w.heap.size, k, none⟩) (by simp) _⟩
        case measure => simp [intOf]; omega
      · have hqb : (q != 0) = true := by simpa using hq
        have HE := Lib.hid (show errK ks = q by rw [hE.out, HST.out, if_neg hq])
        have HQ := Lib.hid hq
        clear hq
        go_wp2_with (go_at_call 26; refine (hBk _ (GB.later (below1 _ _))).mono ?_; rintro e w' ⟨rfl, hb⟩; have HB := Lib.hid (bstep (bstep hB (below1 _ _)) hb))
        go_ret2
        exact ⟨by rw [HE.out, show textK ks = [] by unfold textK; rw [if_neg (by rw [HE.out]; exact HQ.out)]]; rfl, HB.out⟩
    · have hkz : k = ks.length := by omega
      subst hkz
      have hi' : ¬ (ks.length : Int) < (ks.length : Int) := by omega
      have hE0 : errK ks = 0 := by rw [hE.out, List.drop_length]; rfl
      have hT0 : textK ks = Lib.join (ks.map (·.2.1)) [32] := by unfold textK; rw [if_pos hE0]
      rw [List.take_length, Nat.sub_self, List.replicate_zero, List.append_nil] at hK
      by_cases hz : ks = []
      · subst hz
        have hj := fun c => Tryd.strings_Join_none (some ⟨w.heap.size, 0, none⟩) c ⟨#[32]⟩ wr
        have HT := Lib.hid hT0
        have HE := Lib.hid hE0
        clear hK hE hE0 hT0 hW HC
        go_wp2_with (go_at_call 36; refine (hj _).mono ?_; rintro e w' ⟨rfl, rfl⟩)
        go_ret2
        exact ⟨by rw [HE.out, HT.out]; rfl, hB⟩
      · have hlt : w.heap.size < wr.heap.size := by
          have h0 : 0 < ks.length := List.length_pos_iff.2 hz
          exact hK.out.lt
        have hj := Tryd.strings_Join w.heap.size 0 ks.length (outs ks) ⟨#[32]⟩ wr (fun j x hx => by rw [Nat.zero_add]; exact hK.out.cell j _ (by unfold svals; rw [List.getElem?_map, hx]; rfl)) hlt (by rw [outs_len]; omega) (by rw [outs_len]; omega) (by
          rw [outs_bytes]
          show (Lib.join (ks.map (·.2.1)) [32]).length ≤ _
          omega)
        rw [outs_bytes, outs_len] at hj
        have hjs : (⟨(Lib.join (ks.map (·.2.1)) (⟨#[32]⟩ : ByteArray).data.toList).toArray⟩ : ByteArray) = strOf (textK ks) := by rw [hT0]; rfl
        rw [hjs] at hj
        have HE := Lib.hid hE0
        clear hjs hK hE hE0 hT0 hW HC
        go_wp2_with (go_at_call 36; refine hj.mono ?_; rintro e w' ⟨rfl, hb⟩)
        go_ret2
        exact ⟨by rw [HE.out]; rfl, bstep hB hb⟩
end Go.Proofs.YtmdlndmibodimaaDoor
