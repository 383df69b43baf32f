/- Walks: texts of blanks alone; TokenBack. -/
import Derived.Test.YtmdlndmibodimaaDoorTokS
import Derived.Test.YtmdlndmibodimaaDoorTokQ
import Derived.Deep.RegionHeld3
namespace Go.Proofs.YtmdlndmibodimaaDoor
open Go.RowKit
open Tk7

set_option maxRecDepth 100000 in
set_option maxHeartbeats 2000000 in
theorem blanks_true (g : List UInt8) (hg : ∀ b ∈ g, blankB b = true) (hl : g.length ≤ 1000000) (w : World) :
    Calls Tryd.prog 28 #[.string (strOf g)] w fun e w' => e = .returned (.bool true) ∧ w = w' := by
  have hsz : (strOf g).size = g.length := strOf_size g
  go_enter Tryd.func28, Tryd.ntmps28
  go_wp2
  go_loopw [3] (fun i wr => ∃ k : Nat, k ≤ g.length ∧ i = .int .i64 (k : Int) ∧ w = wr) (fun i _ => g.length - (intOf i).toNat)
  case atStart => exact ⟨0, Nat.zero_le _, rfl, rfl⟩
  case round =>
    obtain ⟨k, hk, rfl, rfl⟩ := hrel
    by_cases hlt : k < g.length
    · have q1 : k < (strOf g).size := by rw [hsz]; exact hlt
      have hb := blankB_iff.1 (hg g[k] (List.getElem_mem hlt))
      have hx : ((strOf g)[k]'q1) = g[k] := rfl
      rw [← hx] at hb
      obtain ⟨c, hc⟩ : ∃ c : Int, ((((strOf g)[k]'q1).toNat : Nat) : Int) = c := ⟨_, rfl⟩
      rw [hc] at hb
      have g1 : (0 : Int) ≤ (k : Int) := by omega
      have g2 : (k : Int) < (g.length : Int) := by omega
      have hw : IntKind.i64.wrap ((k : Int) + 1) = (k : Int) + 1 := IntWalk.i64_in _ ⟨by omega, by omega⟩
      clear hx hg
      rcases hb with rfl | rfl | rfl | rfl
      all_goals
        go_wp2
        go_roundw
        case rel => exact ⟨k + 1, by omega, by go_num, by first | rfl | trivial⟩
        case measure => simp [intOf]; omega
    · have g2 : ¬ (k : Int) < (g.length : Int) := by omega
      go_wp2
      go_ret
      exact ⟨rfl, rfl⟩
theorem joinT_is (ts : List T) : Lib.join (ts.map (·.2.1)) [32] = joinT ts := by
  cases ts with
  | nil => rfl
  | cons t ts =>
    rw [List.map_cons, Lib.join_cons]
    unfold joinT Lib.joinTail
    rw [List.map_map]
    rfl
theorem check_tok {t : T} (h : isTok t.1 t.2.1 = true) : checkI (tkOf t) = 0 := by
  have hk := isTok_kind h
  unfold checkI tkOf
  simp only
  rw [if_neg (by omega), Int.toNat_natCast, h, if_neg (by decide), if_neg (by omega)]
theorem errK_all {ks : List TK} (h : ∀ x ∈ ks, checkI x = 0) : errK ks = 0 := by
  induction ks with
  | nil => rfl
  | cons x xs ih =>
    unfold errK
    rw [if_pos (h x (by simp))]
    exact ih (fun y hy => h y (by simp [hy]))
/-- The text of the tokens of a text, and its tokens. -/
theorem text_back {t : List UInt8} {ts : List T} (h : toksR t = .ok ts) (ht : t.length ≤ 190) : errK (ts.map tkOf) = 0 ∧ textK (ts.map tkOf) = joinT ts ∧ (joinT ts).length ≤ 380 ∧ ∃ us, toksR (joinT ts) = .ok us ∧ sameT us ts := by
  have hl := (toks_lt h).2
  have h1 := laid_of t.length t 0 ts (Nat.le_refl _) hl
  have h2 := laid_len ts t 0 h1
  have h3 := laid_tok ts t 0 h1
  have h4 := toksR_len h
  have h5 := joinT_len ts
  have h6 : errK (ts.map tkOf) = 0 := errK_all fun x hx => by
    obtain ⟨y, hy, rfl⟩ := List.mem_map.1 hx
    exact check_tok (h3 y hy)
  refine ⟨h6, ?_, by omega, ?_⟩
  · unfold textK
    rw [if_pos h6, List.map_map]
    exact joinT_is ts
  · obtain ⟨us, h7, h8⟩ := toks_join ts 0 h3
    exact ⟨us, by rw [toksG_zero _ (by omega)]; exact h7, h8⟩
set_option maxRecDepth 100000 in
set_option maxHeartbeats 4000000 in
theorem back_err (t : List UInt8) (ht : t.length ≤ 190) (e : Int × Nat) (h : toksR t = .error e) (w : World) (hG : SG w) :
    Calls Tryd.prog 6 #[.string (strOf t)] w fun e w' => e = .returned (.bool true) ∧ Below w.heap.size w w' := by
  obtain ⟨er, p⟩ := e
  have hf := toks_fault (by omega) h
  have her : er = 3 := hf.1
  subst her
  have hp : p < t.length := hf.2
  have hT := fun w hG => tokens_err h w hG
  have e1 : (strOf t).size = t.length := strOf_size t
  obtain ⟨S, hS⟩ : ∃ S, S = strOf t := ⟨_, rfl⟩
  rw [← hS] at hT e1 ⊢
  have g1 : ¬ (190 : Int) < (t.length : Int) := by omega
  have g2 : (0 : Int) ≤ (p : Int) := by omega
  have g3 : (p : Int) < (t.length : Int) := by omega
  clear hS hf
  go_enter Tryd.func6, Tryd.ntmps6
  go_wp2_with (first
    | (go_at_call 9; with_reducible refine (hT _ hG).mono ?_; rintro e w1 ⟨rfl, hb1⟩; have hG1 := (hG.later hb1).later (below1 w1 (.cells #[.int .i64 3, .int .i64 (p : Int)] 25)))
    | (go_at_call 17; with_reducible refine (awake_any _ hG1).mono ?_; rintro e w7 ⟨rfl, hb7⟩))
  go_ret
  exact ⟨rfl, bstep (bstep hb1 (below1 w1 _)) hb7⟩
/-- What region 11 holds fast: the token's three cells, the signs, what lay. -/
theorem held_t {P : Program} {f : FuncId} {args : Array Value} {v : Value} {W wx : World} {X : Nat} {c0 c1 c2 : Value} (hc : ∀ w, SG w → Calls P f args w fun e w' => e = .returned v ∧ Below w.heap.size w w')
    (h0 : wx.cell? ⟨X, 0, none⟩ = some c0) (h1 : wx.cell? ⟨X, 1, none⟩ = some c1) (h2 : wx.cell? ⟨X, 2, none⟩ = some c2) (h3 : SG wx) (h4 : Below W.heap.size W wx) :
    Calls P f args wx fun e w' => e = .returned v ∧ w'.cell? ⟨X, 0, none⟩ = some c0 ∧ w'.cell? ⟨X, 1, none⟩ = some c1 ∧ w'.cell? ⟨X, 2, none⟩ = some c2 ∧ SG w' ∧ Below W.heap.size W w' :=
  (hc wx h3).mono fun _ w' hh =>
    have hl : ∀ {p : Addr} {v : Value}, wx.cell? p = some v → w'.cell? p = some v := fun {_ _} h => (hh.2.cell (World.block_lt_of_cell? wx _ h)).trans h
    ⟨hh.1, hl h0, hl h1, hl h2, h3.later hh.2, bstep h4 hh.2⟩
theorem sg_drew (w : World) : SG w.drew = SG w := rfl
theorem below_drew (n : Nat) (w w' : World) : Below n w w'.drew = Below n w w' := by
  apply propext
  constructor
  · intro h; exact ⟨h.os, h.tape, h.output, h.size, h.block⟩
  · intro h; exact ⟨h.os, h.tape, h.output, h.size, h.block⟩
attribute [local go_sem] sg_drew below_drew
attribute [local simp] sg_drew below_drew
set_option maxRecDepth 100000 in
set_option maxHeartbeats 8000000 in
theorem back_ok (t : List UInt8) (ht : t.length ≤ 190) (ts : List T) (h : toksR t = .ok ts) (w : World) (hG : SG w) :
    Calls Tryd.prog 6 #[.string (strOf t)] w fun e w' => e = .returned (.bool true) ∧ Below w.heap.size w w' := by
  have hT := fun w hG => tokens_ok h w hG
  have e1 : (strOf t).size = t.length := strOf_size t
  have h4 := toksR_len h
  obtain ⟨hE0, hTX, hJl, us, hus, hsame⟩ := text_back h ht
  have hT2 := fun w hG => tokens_ok hus w hG
  have hSame := fun w u v (hu : KSl w u (us.map tkOf)) (hv : KSl w v (ts.map tkOf)) => same_any u v _ _ w hu hv
  rw [sameK_toks hsame] at hSame
  have hLaid := laid_of t.length t 0 ts (Nat.le_refl _) (toks_lt h).2
  have HL0 := Lib.hid hLaid
  have HTL := Lib.hid (fun i hi => tok_len h i hi)
  have hTxt := fun v w hG (hv : KSl w v (ts.map tkOf)) => text_any v (ts.map tkOf) w hG hv (by rw [List.length_map]; omega) (fun x hx => by
    obtain ⟨y, hy, rfl⟩ := List.mem_map.1 hx
    obtain ⟨i, hi, rfl⟩ := List.getElem_of_mem hy
    have := tok_len h i hi
    show (ts[i]).2.1.length ≤ _
    omega) (by
    have hj := joinT_is ts
    rw [List.map_map]
    show (Lib.join (ts.map (·.2.1)) [32]).length ≤ _
    rw [hj]
    omega)
  rw [hE0, hTX] at hTxt
  have hex : ∀ a b : Nat, (strOf t).extract a b = strOf ((t.drop a).take (b - a)) := fun a b => by rw [ext_take]; unfold restAt; rw [strOf_dat]
  have HEX := Lib.hid hex
  obtain ⟨S, hS⟩ : ∃ S, S = strOf t := ⟨_, rfl⟩
  rw [← hS] at hT e1 HEX ⊢
  have g1 : ¬ (190 : Int) < (t.length : Int) := by omega
  clear hS hE0 hTX hus hsame hLaid hex
  go_enter Tryd.func6, Tryd.ntmps6
  go_wp2_with fail
  refine (hT _ hG).mono ?_
  rintro e w1 ⟨A1, c1, rfl, hb1, ho1⟩
  obtain ⟨W, hWW⟩ : ∃ W, W = w1.alloc (.cells #[.int .i64 0, .int .i64 0] 25) := ⟨_, rfl⟩
  have bW : Below w1.heap.size w1 W := by rw [hWW]; exact below1 _ _
  have F1 : Blk W w1.heap.size [.int .i64 0, .int .i64 0] := by rw [hWW]; exact Blk.is _ rfl
  have f10 := F1.cell 0 _ rfl
  have hk1 := (own_ts ho1).later bW
  have GW := (hG.later hb1).later bW
  have BW := bstep hb1 bW
  clear hT ho1 bW
  go_upto_region 4 with (fail)
  rw [← hWW]
  clear hWW
  obtain ⟨A1', c1', hsl, hk2, _, _, hkc⟩ := hk1.at_
  rw [List.length_map] at hsl
  simp only [Value.slice.injEq] at hsl
  obtain ⟨rfl, _, rfl⟩ := hsl
  have HKC := Lib.hid hkc
  have HK1 := Lib.hid hk1
  clear hkc hk1
  go_wp2
  go_loopg [5, 6] ts.length (fun g pv iv wr => ∃ (i P : Nat), i ≤ ts.length ∧ g = ts.length - i ∧ iv = .int .i64 (i : Int) ∧ pv = .int .i64 (P : Int) ∧ P ≤ t.length ∧ Hid (Laid (t.drop P) P (ts.drop i)) ∧ Hid (Below W.heap.size W wr))
  case atStart => exact ⟨0, 0, Nat.zero_le _, rfl, rfl, rfl, Nat.zero_le _, HL0, Lib.hid (Below.refl _ _)⟩
  case round =>
    obtain ⟨i, P, hi, hg, rfl, rfl, hP, hL, hB⟩ := hrel
    have hwi : IntKind.i64.wrap ((i : Int) + 1) = (i : Int) + 1 := IntWalk.i64_in _ ⟨by omega, by omega⟩
    by_cases hlt : i < ts.length
    · obtain ⟨a, rfl, ha, d0, d1, d2⟩ := HKC.out i (by rw [List.length_map]; exact hlt)
      rw [List.getElem_map] at d0 d1 d2
      have hLx := hL.out
      rw [List.drop_eq_getElem_cons hlt] at hLx
      obtain ⟨x, hx⟩ : ∃ x, x = ts[i] := ⟨_, rfl⟩
      rw [← hx] at d0 d1 d2 hLx
      obtain ⟨kd, tx, at_⟩ := x
      obtain ⟨gb, rest, hl1, hl2, hl3, hl4, hl5⟩ := hLx
      simp only at hl1 hl3 hl4 hl5
      have hchk := check_tok (t := (kd, tx, at_)) hl4
      have hCk := fun w hG => check_any (kd : Int) tx (at_ : Int) (by have hq := HTL.out i hlt; rw [← hx] at hq; have hq2 : tx.length ≤ t.length := hq; unfold maxLen; omega) w hG
      have hck2 : checkI ((kd : Int), tx, (at_ : Int)) = 0 := hchk
      rw [hck2] at hCk
      have hlen : t.length - P = gb.length + (tx.length + rest.length) := by
        have := congrArg List.length hl1
        rw [List.length_drop, List.length_append, List.length_append] at this
        exact this
      have hAP : at_ + tx.length ≤ t.length := by omega
      have hrest : rest = t.drop (at_ + tx.length) := by
        have h1 : t.drop (at_ + tx.length) = (t.drop P).drop (gb.length + tx.length) := by rw [List.drop_drop]; congr 1; omega
        rw [h1, hl1, ← List.append_assoc, ← List.length_append, List.drop_left]
      have htx : S.extract at_ (at_ + tx.length) = strOf tx := by
        rw [HEX.out, Nat.add_sub_cancel_left]
        have h1 : t.drop at_ = (t.drop P).drop gb.length := by rw [List.drop_drop]; congr 1
        rw [h1, hl1, List.drop_left, List.take_left]
      have hgb : S.extract P at_ = strOf gb := by
        rw [HEX.out, hl1, show at_ - P = gb.length by omega, List.take_left]
      have hBl := fun w => blanks_true gb hl2 (by omega) w
      rw [hrest] at hl5
      have HL5 := Lib.hid hl5
      have D0 : wr.cell? (a.add (i * 3)) = some (.int .i64 (kd : Int)) := (hB.out.cell (p := a.add (i * 3)) (by rw [add_block]; exact ha)).trans d0
      have D1 : wr.cell? (a.add (i * 3 + 1)) = some (.string (strOf tx)) := (hB.out.cell (p := a.add (i * 3 + 1)) (by rw [add_block]; exact ha)).trans d1
      have D2 : wr.cell? (a.add (i * 3 + 2)) = some (.int .i64 (at_ : Int)) := (hB.out.cell (p := a.add (i * 3 + 2)) (by rw [add_block]; exact ha)).trans d2
      rw [← add_at _ (i * 3) 1 (by decide)] at D1
      rw [← add_at _ (i * 3) 2 (by decide)] at D2
      have x1 : (i : Int) < (ts.length : Int) := by omega
      obtain ⟨T1, hT1⟩ : ∃ T1, T1 = strOf tx := ⟨_, rfl⟩
      obtain ⟨G1, hG1⟩ : ∃ G1, G1 = strOf gb := ⟨_, rfl⟩
      have hTs : T1.size = tx.length := by rw [hT1, strOf_size]
      rw [← hT1] at D1 htx hCk
      rw [← hG1] at hgb hBl
      have y1 : decide ((at_ : Int) < (P : Int)) = false := decide_eq_false (by omega)
      have y12 : decide (at_ < P) = false := decide_eq_false (by omega)
      have y11 : (T1.toList != T1.toList) = false := by simp
      have y2 : IntKind.i64.wrap ((t.length : Int) - (at_ : Int)) = (t.length : Int) - (at_ : Int) := IntWalk.i64_in _ ⟨by omega, by omega⟩
      have y3 : decide ((t.length : Int) - (at_ : Int) < (tx.length : Int)) = false := decide_eq_false (by omega)
      have y4 : IntKind.i64.wrap ((at_ : Int) + (tx.length : Int)) = ((at_ + tx.length : Nat) : Int) := by rw [IntWalk.i64_in _ ⟨by omega, by omega⟩]; omega
      obtain ⟨Q, hQ⟩ : ∃ Q, Q = at_ + tx.length := ⟨_, rfl⟩
      rw [← hQ] at htx y4 HL5 hAP
      have y5 : (at_ : Int) ≤ (Q : Int) := by omega
      have y6 : (Q : Int) ≤ (t.length : Int) := by omega
      have y7 : (0 : Int) ≤ (at_ : Int) := by omega
      have y8 : (P : Int) ≤ (at_ : Int) := by omega
      have y9 : (at_ : Int) ≤ (t.length : Int) := by omega
      have y10 : (0 : Int) ≤ (P : Int) := by omega
      have HQ := Lib.hid hQ
      obtain ⟨X, hX⟩ : ∃ X, X = wr.heap.size := ⟨_, rfl⟩
      obtain ⟨w3, hw3⟩ : ∃ w3, w3 = wr.alloc (.cells #[.int .i64 (kd : Int), .string T1, .int .i64 (at_ : Int)] 30) := ⟨_, rfl⟩
      have BB : Below W.heap.size W w3 := by rw [hw3]; exact bstep hB.out (below1 _ _)
      have KK : Blk w3 X [.int .i64 (kd : Int), .string T1, .int .i64 (at_ : Int)] := by rw [hw3, hX]; exact Blk.is _ rfl
      have z0 := KK.cell 0 _ rfl
      have z1 := KK.cell 1 _ rfl
      have z2 := KK.cell 2 _ rfl
      have GS : SG w3 := GW.later BB
      clear hx hl1 hl2 hl3 hl4 hl5 hchk hck2 hrest hL d0 d1 d2 hT1 hG1 hQ hlen KK HKC HTL HEX HL0 hSame hTxt hT2
      go_upto_region 11 with (fail)
      rw [← hX, ← hw3]
      clear hX hw3 hB
      go_region_held3 (fun w' => w'.cell? ⟨X, 0, none⟩ = some (.int .i64 (kd : Int)) ∧ w'.cell? ⟨X, 1, none⟩ = some (.string T1) ∧ w'.cell? ⟨X, 2, none⟩ = some (.int .i64 (at_ : Int)) ∧ SG w' ∧ Below W.heap.size W w') (go_keep)
        (first
          | (go_at_call 26; refine (held_t (W := W) (X := X) (c0 := .int .i64 (kd : Int)) (c1 := .string T1) (c2 := .int .i64 (at_ : Int)) hCk ?_ ?_ ?_ ?_ ?_).mono ?_; (simp [*]); (simp [*]); (simp [*]); (simp [*]); (simp [*]); rintro e w9 ⟨rfl, q0, q1, q2, q3, q4⟩)
          | (go_at_call 28; refine (hBl _).mono ?_; rintro e w9 ⟨rfl, rfl⟩))
      clear hCk hBl
      go_wp2
      go_roundg (ts.length - (i + 1))
      case rel => exact ⟨i + 1, Q, by omega, rfl, by go_num, rfl, hAP, HL5, Lib.hid q4⟩
      case measure => omega
    · obtain rfl : i = ts.length := by omega
      have x1 : ¬ (ts.length : Int) < (ts.length : Int) := by omega
      have hLx := hL.out
      rw [List.drop_length] at hLx
      have hbb : ∀ b ∈ t.drop P, blankB b = true := hLx
      have hBl := fun w => blanks_true (t.drop P) hbb (by rw [List.length_drop]; omega) w
      have hcut : S.extract P t.length = strOf (t.drop P) := by
        rw [HEX.out, List.take_of_length_le (by rw [List.length_drop]; omega)]
      have y1 : (0 : Int) ≤ (P : Int) := by omega
      have y2 : (P : Int) ≤ (t.length : Int) := by omega
      have hTx := hTxt _ wr (GW.later hB.out) (HK1.out.later hB.out)
      have MB := bstep BW hB.out
      have MG := GW.later hB.out
      have M1 := HK1.out.later hB.out
      obtain ⟨G1, hG1⟩ : ∃ G1, G1 = strOf (t.drop P) := ⟨_, rfl⟩
      obtain ⟨O2, hO2⟩ : ∃ O2, O2 = strOf (joinT ts) := ⟨_, rfl⟩
      rw [← hG1] at hBl hcut
      rw [← hO2] at hTx hT2
      clear hG1 hO2 hL hLx hbb HKC HTL HEX HL0 hTxt hB HK1
      go_upto_region 15 with (go_at_call 14; with_reducible refine hTx.mono ?_; rintro e w3 ⟨rfl, hb3⟩)
      have MG3 := MG.later hb3
      have MB3 := bstep MB hb3
      have M13 := M1.later hb3
      clear M1 MG MB
      go_upto_region 16 with (go_at_call 9; with_reducible refine (hT2 _ MG3).mono ?_; rintro e w4 ⟨A4, c4, rfl, hb4, ho4⟩)
      have b5 := bstep hb4 (below1 w4 (.cells #[.int .i64 0, .int .i64 0] 25))
      have M15 := M13.later b5
      have M45 := (own_ts ho4).later (below1 w4 (.cells #[.int .i64 0, .int .i64 0] 25))
      have hS := hSame _ _ _ M45 M15
      have MG5 := MG3.later b5
      have MB5 := bstep MB3 b5
      clear hSame ho4 M15 M45 M13
      go_wp2_with (first
        | (go_at_call 28; with_reducible refine (hBl _).mono ?_; rintro e w9 ⟨rfl, rfl⟩)
        | (go_at_call 23; with_reducible refine hS.mono ?_; rintro e w6 ⟨rfl, hb6⟩)
        | (go_at_call 17; with_reducible refine (awake_any _ (MG5.later hb6)).mono ?_; rintro e w7 ⟨rfl, hb7⟩))
      go_ret
      exact ⟨rfl, bstep (bstep MB5 hb6) hb7⟩
theorem back_any (s : ByteArray) (w : World) (hG : SG w) :
    Calls Tryd.prog 6 #[.string s] w fun e w' => e = .returned (.bool true) ∧ Below w.heap.size w w' := by
  by_cases h : s.size ≤ 190
  · rw [str_is (s := s) rfl]
    have hl : s.data.toList.length ≤ 190 := by rw [bytes_size]; exact h
    cases hr : toksR s.data.toList with
    | error e => exact back_err _ hl e hr w hG
    | ok ts => exact back_ok _ hl ts hr w hG
  · have g1 : (190 : Int) < (s.size : Int) := by omega
    clear h
    go_enter Tryd.func6, Tryd.ntmps6
    go_wp2_with (go_at_call 17; with_reducible refine (awake_any _ hG).mono ?_; rintro e w7 ⟨rfl, hb7⟩)
    go_ret
    exact ⟨rfl, hb7⟩
end Go.Proofs.YtmdlndmibodimaaDoor
