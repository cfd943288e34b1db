/-
  vocab.seen's add, allBytes; vocab.newSeen; slices.Contains and Index of bools.
-/
import Derived.Test.YtgkmlcghkkpgpaaVpMem
namespace Go.Proofs.Ytgkmlcghkkpgpaa
open Go.RowKit Go.Maps
set_option linter.unusedVariables false

set_option maxHeartbeats 2000000 in
/-- slices.Index over bools, for false. -/
theorem pindex_bools (bs : List Bool) (b off : Nat) (w : World) (hl : bs.length = 256) (hc : ∀ j t, bs[j]? = some t → w.cell? ⟨b, off + j, none⟩ = some (.bool t)) :
    Calls Try.prog 62 #[.slice (some ⟨b, off, none⟩) 256 256, .bool false] w (fun e w' => (∃ x : Int, e = .returned (.int .i64 x) ∧ (0 ≤ x ↔ false ∈ bs)) ∧ w' = w) := by
  go_enter Try.func62, Try.ntmps62
  go_wp2
  go_loop [5, 8] (fun _ s8 => ∃ k : Nat, k ≤ 256 ∧ s8 = .int .i64 k ∧ Hid (∀ j, j < k → bs[j]? = some true)) (fun _ s8 => 256 - (intOf s8).toNat)
  case atStart => exact ⟨0, by omega, rfl, fun j hj => by omega⟩
  case round =>
    obtain ⟨k, hk, rfl, HA⟩ := hrel
    by_cases hlt : k < 256
    · obtain ⟨t, ht⟩ : ∃ t, bs[k]? = some t := ⟨bs[k]'(by omega), List.getElem?_eq_getElem (by omega)⟩
      have hcell := hc k t ht
      have hki : (k : Int) < 256 := by omega
      cases t with
      | false =>
        have HI : Hid (false ∈ bs) := List.mem_of_getElem? ht
        clear hc ht
        go_wp2
        go_ret
        exact ⟨⟨k, rfl, ⟨fun _ => HI.out, fun _ => by omega⟩⟩, rfl⟩
      | true =>
        have HK : Hid (∀ j, j < k + 1 → bs[j]? = some true) := fun j hj => by
          rcases Nat.lt_or_ge j k with h | h
          · exact HA.out j h
          · obtain rfl : j = k := by omega
            exact ht
        have HC := Lib.hid hc
        clear hc ht
        go_wp2
        go_round
        case rel => exact ⟨k + 1, by omega, by go_num, HK.out⟩
        case measure => simp [intOf]; omega
    · obtain rfl : k = 256 := by omega
      have HI : Hid (¬ false ∈ bs) := fun hm => by
        obtain ⟨j, hj⟩ := List.getElem?_of_mem hm
        have hlt := (List.getElem?_eq_some_iff.1 hj).1
        have := HA.out j (by omega)
        rw [hj] at this
        cases this
      clear hc
      go_wp2
      go_ret
      exact ⟨⟨-1, rfl, ⟨fun h => by omega, fun h => absurd h HI.out⟩⟩, rfl⟩
theorem pcontains_bools (bs : List Bool) (b off : Nat) (w : World) (hl : bs.length = 256) (hc : ∀ j t, bs[j]? = some t → w.cell? ⟨b, off + j, none⟩ = some (.bool t)) :
    Calls Try.prog 54 #[.slice (some ⟨b, off, none⟩) 256 256, .bool false] w (fun e w' => e = .returned (.bool (bs.contains false)) ∧ w' = w) := by
  have H := Lib.hid (pindex_bools bs b off w hl hc)
  clear hc
  obtain ⟨r, hr⟩ : ∃ r, bs.contains false = r := ⟨_, rfl⟩
  have HR : Hid (r = true ↔ false ∈ bs) := by unfold Hid; rw [← hr]; exact List.elem_iff
  rw [hr]
  clear hr
  go_enter Try.func54, Try.ntmps54
  go_wp2_with (fail)
  refine H.out.mono ?_
  rintro e w' ⟨⟨x, rfl, hx⟩, rfl⟩
  have HX := Lib.hid hx
  clear hx H
  go_wp2
  go_ret
  refine ⟨?_, rfl⟩
  have h1 := HX.out
  have h2 := HR.out
  have h3 : decide (x ≥ 0) = r := by
    rw [Bool.eq_iff_iff, decide_eq_true_eq, h2, ← h1]
  rw [← h3]
  rfl
theorem pallBytes_any {w : World} {sb base : Nat} {D : List Vo.Pc} (h : SeenD w sb base D) :
    Calls Try.prog 38 #[.pointer (some ⟨sb, 0, none⟩)] w (fun e w' => e = .returned (.bool (!(Vo.bits D).contains false)) ∧ w' = w) := by
  obtain ⟨b1, b2, v, h⟩ := h
  have H := Lib.hid (pcontains_bools (Vo.bits D) sb 0 w h.len (fun j t ht => by rw [Nat.zero_add]; exact h.bool_ ht))
  obtain ⟨r, hr⟩ : ∃ r, (Vo.bits D).contains false = r := ⟨_, rfl⟩
  rw [hr] at H ⊢
  clear h hr
  go_enter Try.func38, Try.ntmps38
  go_wp2_with (fail)
  refine H.out.mono ?_
  rintro e w' ⟨rfl, rfl⟩
  clear H
  go_wp2
  go_ret
  exact ⟨rfl, rfl⟩
end Go.Proofs.Ytgkmlcghkkpgpaa
