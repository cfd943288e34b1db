/-
  stookref00.Rows answers whether two lists hold the same rows.
-/
import Derived.Test.YteemhdoegjdaiaaRowsG
import Derived.Test.YteemhdoegjdaiaaSameB
import Derived.Deep.RegionHeld3
namespace Go.Proofs.Yteemhdoegjdaiaa
open Go.RowKit
set_option linter.unusedVariables false

theorem rows_take {la lb : List (List Nat)} {k : Nat} {x y : List Nat} (h : la.take k = lb.take k) (ha : la[k]? = some x) (hb : lb[k]? = some y) : la.take (k + 1) = lb.take (k + 1) ↔ x = y := by
  rw [List.take_add_one, List.take_add_one, ha, hb, h]
  simp
theorem rows_ne {la lb : List (List Nat)} {k : Nat} (h : la.take k ≠ lb.take k) : la ≠ lb := fun e => h (by rw [e])

theorem Rv.at_ {w : World} {B n c : Nat} {A : Option Addr} {ls : List (List Nat)} (h : Rv w B (.slice A n c) ls) {k : Nat} (hk : k < ls.length) :
    ∃ b off A' c' x, A = some ⟨b, off, none⟩ ∧ b < B ∧ ls[k]? = some x ∧ w.cell? ⟨b, off + k, none⟩ = some (.slice A' x.length c') ∧ Bv w B (.slice A' x.length c') x := by
  obtain ⟨A', c', e, h1, h2, h3, h4⟩ := h
  injection e with e1 e2 e3
  subst e1
  obtain ⟨b, off, rfl, hb, hc⟩ := h4 (by omega)
  obtain ⟨u, hu, hv⟩ := hc k _ (List.getElem?_eq_getElem hk)
  obtain ⟨A2, c2, rfl, _⟩ := id hv
  exact ⟨b, off, A2, c2, _, rfl, hb, List.getElem?_eq_getElem hk, hu, hv⟩

set_option maxHeartbeats 2000000 in
set_option maxRecDepth 100000 in
theorem rows_any (v v' : Value) (la lb : List (List Nat)) (B B' : Nat) (w : World) (h : Rv w B v la) (h' : Rv w B' v' lb) (hB : B ≤ w.heap.size) (hB' : B' ≤ w.heap.size) :
    Calls Try.prog 23 #[v, v'] w (IsBool (decide (la = lb)) w) := by
  have H0 := Lib.hid h
  have H1 := Lib.hid h'
  obtain ⟨A, c, rfl, g1, g2, _, _⟩ := h
  obtain ⟨A', c', rfl, g1', g2', _, _⟩ := h'
  unfold maxLen at g2 g2'
  by_cases hlen : la.length = lb.length
  · have hq : (((la.length : Nat) : Int) != ((lb.length : Nat) : Int)) = false := by rw [hlen]; simp
    have HE := Lib.hid hlen
    have hle : la.length ≤ lb.length := by omega
    have hge : lb.length ≤ la.length := by omega
    clear hlen
    go_enter Try.func23, Try.ntmps23
    go_wp2
    go_loopw [5] (fun i wr => ∃ k : Nat, k ≤ la.length ∧ i = .int .i64 k ∧ Hid (la.take k = lb.take k) ∧ Below w.heap.size w wr) (fun i _ => la.length - (intOf i).toNat)
    case atStart => exact ⟨0, by omega, rfl, by simp [Hid], Below.refl _ _⟩
    case round =>
      obtain ⟨k, hk, rfl, HT, hbr⟩ := hrel
      by_cases hlt : k < la.length
      · have hlt' : k < lb.length := by omega
        obtain ⟨b1, o1, A1, c1, x, rfl, hb1, hx, hc1, hv1⟩ := (H0.out.below_ hbr hB).at_ hlt
        obtain ⟨b2, o2, A2, c2, y, rfl, hb2, hy, hc2, hv2⟩ := (H1.out.below_ hbr hB').at_ hlt'
        have HS := Lib.hid (rows_take HT.out hx hy)
        have HC := Lib.hid (same_bv _ _ x y _ _ wr.drew (show Bv wr.drew _ _ _ from hv1) (show Bv wr.drew _ _ _ from hv2))
        have hs0 : wr.drew.cell? ⟨b1, o1 + k, none⟩ = some (.slice A1 x.length c1) ∧ wr.drew.cell? ⟨b2, o2 + k, none⟩ = some (.slice A2 y.length c2) := ⟨hc1, hc2⟩
        have HCE := Lib.hid (fun (w' : World) (hw : Below w.heap.size wr.drew w') => (⟨(hw.cell (p := ⟨b1, o1 + k, none⟩) (by show b1 < _; omega)).trans hc1, (hw.cell (p := ⟨b2, o2 + k, none⟩) (by show b2 < _; omega)).trans hc2⟩ : w'.cell? ⟨b1, o1 + k, none⟩ = some (.slice A1 x.length c1) ∧ w'.cell? ⟨b2, o2 + k, none⟩ = some (.slice A2 y.length c2)))
        have hbd := hbr.drew
        have HBd := Lib.hid hbd
        obtain ⟨q, hqe⟩ : ∃ q : Bool, decide (x = y) = q := ⟨_, rfl⟩
        have HQ := Lib.hid hqe
        rw [hqe] at HC
        have i1 : (k : Int) < (la.length : Nat) := by omega
        have i2 : (k : Int) < (lb.length : Nat) := by omega
        clear hx hy hv1 hv2 hc1 hc2 hqe hbd
        go_wp2
        go_region_held3 (fun w' => w'.cell? ⟨b1, o1 + k, none⟩ = some (.slice A1 x.length c1) ∧ w'.cell? ⟨b2, o2 + k, none⟩ = some (.slice A2 y.length c2))
          (first | exact hs0 | exact hs1)
          (first | (go_at_call 13; (with_reducible refine HC.out.mono ?_); rintro e w3 ⟨rfl, hb3⟩; have HB3 := Lib.hid (HBd.out.trans (hb3.mono HBd.out.size)); have hs1 := HCE.out w3 (hb3.mono HBd.out.size)))
        all_goals
          try clear hs0
          try clear hs1
          clear HCE HC
          cases q
          · have hne : la ≠ lb := rows_ne (fun e => of_decide_eq_false HQ.out (HS.out.1 e))
            have HN : Hid (decide (la = lb) = false) := by simp [Hid, hne]
            clear hne
            go_wp2
            go_ret
            exact ⟨by rw [HN.out]; rfl, HB3.out⟩
          · have HT2 := Lib.hid (HS.out.2 (of_decide_eq_true HQ.out))
            go_wp2
            go_roundw
            case rel => exact ⟨k + 1, by omega, by go_num, HT2.out, HB3.out⟩
            case measure => simp [intOf]; omega
      · have h0 : k = la.length := by omega
        have h1 : la = lb := by
          have := HT.out
          rw [List.take_of_length_le (by omega), List.take_of_length_le (by omega)] at this
          exact this
        go_wp2
        go_ret
        exact ⟨by simp [h1], hbr⟩
  · have hq : (((la.length : Nat) : Int) != ((lb.length : Nat) : Int)) = true := by rw [bne_iff_ne]; omega
    have hne : la ≠ lb := fun e => hlen (by rw [e])
    have HN : Hid (decide (la = lb) = false) := by simp [Hid, hne]
    clear hlen hne
    go_enter Try.func23, Try.ntmps23
    go_wp2
    go_ret
    exact ⟨by rw [HN.out]; rfl, Below.refl _ _⟩
end Go.Proofs.Yteemhdoegjdaiaa
