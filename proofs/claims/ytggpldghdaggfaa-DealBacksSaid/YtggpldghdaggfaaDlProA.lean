/-
  deal's small parts: placesOf, its closure, stepCount, inPlace, refuse.
-/
import Derived.Test.YtggpldghdaggfaaRDlB
import Derived.Test.YtggpldghdaggfaaKWord
namespace Go.Proofs.Ytggpldghdaggfaa
open Go.RowKit
set_option linter.unusedVariables false

namespace Dl
/-- The first k places tell themselves. -/
def begun (n k : Nat) (t : List Int) : Prop := t.length = n ∧ ∀ j, j < k → t[j]? = some (j : Int)
theorem begun_zero (n : Nat) : begun n 0 (List.replicate n 0) := ⟨by simp, by intro j hj; omega⟩
theorem begun_step {n k : Nat} {t : List Int} (h : begun n k t) (hk : k < n) : begun n (k + 1) (t.set k (k : Int)) := by
  refine ⟨by rw [List.length_set]; exact h.1, fun j hj => ?_⟩
  rw [List.getElem?_set]
  by_cases e : k = j
  · subst e
    rw [if_pos rfl, if_pos (by rw [h.1]; exact hk)]
  · rw [if_neg e]
    exact h.2 j (by omega)
theorem begun_done {n : Nat} {t : List Int} (h : begun n n t) : t = ids n := by
  refine List.ext_getElem? fun j => ?_
  by_cases hj : j < n
  · rw [h.2 j hj, ids_at hj]
  · rw [List.getElem?_eq_none (by rw [h.1]; omega), List.getElem?_eq_none (by rw [ids_len]; omega)]
end Dl

/-- A closure that tells places: its variable lies in a block of its own. -/
def IsPlaces (m : Int) (w : World) (e : Ending) (w' : World) : Prop :=
  ∃ c, e = .returned (.func (.func 46) #[] #[.pointer (some ⟨c, 0, none⟩)]) ∧ c < w'.heap.size ∧ w'.cell? ⟨c, 0, none⟩ = some (.int .i64 m) ∧ Below w.heap.size w w'

set_option maxHeartbeats 400000 in
theorem pplaces_any (n : Int) (h0 : 0 ≤ n) (h1 : n ≤ 65536) (w : World) : Calls Try.prog 41 #[.int .i64 n] w (IsPlaces (n - 1) w) := by
  have hmf : ∀ (fn : Fn) (first cap : Array Value) (w : World), (Instr.makeFunc fn first cap).run Try.prog w = .ok (.func fn first cap) w := fun _ _ _ _ => rfl
  go_enter Try.func41, Try.ntmps41
  go_wp2
  go_ret
  refine ⟨w.heap.size, rfl, by simp, ?_, (Below.refl _ _).alloc (Nat.le_refl _) _⟩
  exact cell_of_row _ w.heap.size 0 _ _ _ (heap_alloc_new w _)

set_option maxHeartbeats 400000 in
theorem pplace_any (c : Nat) (m k : Int) (w : World) (hc : w.cell? ⟨c, 0, none⟩ = some (.int .i64 m)) (h0 : -1 ≤ m) (h1 : m ≤ 65536) (h2 : 0 ≤ k) (h3 : k ≤ 65536) :
    Calls Try.prog 46 #[.int .i64 k, .pointer (some ⟨c, 0, none⟩)] w (fun e w' => e = .returned (.int .i64 (m - k)) ∧ w = w') := by
  have hw : IntKind.i64.wrap (m - k) = m - k := by rw [IntKind.wrap_i64]; omega
  go_enter Try.func46, Try.ntmps46
  go_wp2
  go_ret
  exact ⟨rfl, rfl⟩

/-- The same for a region that draws its order. -/
theorem pplace_q (c : Nat) (m k x : Int) (w : World) (hc : w.cell? ⟨c, 0, none⟩ = some (.int .i64 m)) (h0 : -1 ≤ m) (h1 : m ≤ 65536) (h2 : 0 ≤ k) (h3 : k ≤ 65536) (hx : m - k = x) (n : Nat) :
    Calls Try.prog 46 #[.int .i64 k, .pointer (some ⟨c, 0, none⟩)] (w.drewN n) (fun e w' => e = .returned (.int .i64 x) ∧ w' = w.drewN n) :=
  (pplace_any c m k (w.drewN n) hc h0 h1 h2 h3).mono fun e w' ⟨he, hw⟩ => ⟨by rw [he, hx], hw.symm⟩

set_option maxHeartbeats 400000 in
theorem pcount_any (n m : Nat) (h1 : n ≤ 65536) (hm : m = n - 1) (w : World) :
    Calls Try.prog 42 #[.int .i64 (n : Nat)] w (fun e w' => e = .returned (.int .i64 (m : Nat)) ∧ w = w') := by
  rcases Nat.eq_zero_or_pos n with rfl | hp
  · subst hm
    go_enter Try.func42, Try.ntmps42
    go_wp2
    go_ret
    exact ⟨rfl, rfl⟩
  · obtain rfl : n = m + 1 := by omega
    have hx : 0 ≤ (((m + 1 : Nat) : Int) - 1) := by omega
    clear hm hp
    go_enter Try.func42, Try.ntmps42
    go_wp2
    go_ret
    exact ⟨rfl, rfl⟩

set_option maxHeartbeats 1000000 in
theorem pinplace_any (n : Nat) (hn : n ≤ 65536) (w : World) : Calls Try.prog 45 #[.int .i64 (n : Nat)] w (IsL1 iK (Dl.ids n) w) := by
  go_enter Try.func45, Try.ntmps45
  go_wp2_with (at_make; go_must (refine wpList_make_l _ iK rfl _ _ rfl w.heap.size .i64 .i64 _ _ n n rfl rfl rfl rfl (Nat.le_refl _) (by show 8 * _ ≤ _; omega) (by simp only [maxLen]; omega) (Nat.le_refl _) ?_; intro w1 hO hG))
  have HO := Lib.hid hO
  have HB := Lib.hid ((Below.refl w.heap.size w).grown hG (Nat.le_refl _) (by intro k hk; cases hk))
  clear hO hG
  go_loopw [8] (fun i wr => ∃ (k : Nat) (t : List Int), k ≤ n ∧ i = .int .i64 k ∧ Hid (Dl.begun n k t) ∧ Hid (OwnL iK wr w.heap.size (.slice (some ⟨w.heap.size, 0, none⟩) n n) t) ∧ Below w.heap.size w wr) (fun i _ => n - (intOf i).toNat)
  case atStart => exact ⟨0, List.replicate n 0, by omega, rfl, Dl.begun_zero n, HO.out, HB.out⟩
  case round =>
    obtain ⟨k, t, hk, rfl, HK, HT, hbr⟩ := hrel
    clear HB HO
    by_cases hlt : k < n
    · have hkl : k < t.length := by rw [HK.out.1]; exact hlt
      obtain ⟨y, _, hc2⟩ := HT.out.was_ hkl
      have hfr := HT.out.cool_ k
      have hki : I64 (k : Int) := i64_nat (by omega)
      obtain ⟨hs1, hg1⟩ := HT.out.setInt_ hkl hki
      have HS := Lib.hid hs1
      have HK2 := Lib.hid (Dl.begun_step HK.out hlt)
      have HB2 := Lib.hid (hbr.setCell (p := ⟨w.heap.size, k, none⟩) (Nat.le_refl _) (.int .i64 (k : Int)))
      clear hs1 hg1 HT HK hkl hki
      go_wp2
      exact ⟨⟨k + 1, t.set k (k : Int), by omega, by go_num, HK2.out, HS.out, HB2.out⟩, by simp [intOf]; omega⟩
    · have hkn : k = n := by omega
      subst hkn
      have hd := Dl.begun_done HK.out
      subst hd
      have HL := Lib.hid (Dl.ids_len k)
      clear hlt hk HK
      go_wp2
      go_ret
      refine ⟨some ⟨w.heap.size, 0, none⟩, k, by rw [HL.out]; rfl, ?_, hbr⟩
      rw [HL.out]
      exact HT.out

set_option maxHeartbeats 400000 in
theorem prefuse_any (n : Int) (w : World) : Calls Try.prog 32 #[.int .i64 n] w (fun e w' => e = .returned (.int .i64 ((if n < 0 then 2 else if 65536 < n then 3 else 0 : Nat) : Int)) ∧ w = w') := by
  by_cases h0 : n < 0
  · have hi : (if n < 0 then 2 else if 65536 < n then 3 else 0 : Nat) = 2 := if_pos h0
    rw [hi]
    clear hi
    go_enter Try.func32, Try.ntmps32
    go_wp2
    go_ret
    exact ⟨rfl, rfl⟩
  by_cases h1 : 65536 < n
  · have hi : (if n < 0 then 2 else if 65536 < n then 3 else 0 : Nat) = 3 := by rw [if_neg h0, if_pos h1]
    rw [hi]
    clear hi
    go_enter Try.func32, Try.ntmps32
    go_wp2
    go_ret
    exact ⟨rfl, rfl⟩
  · have hi : (if n < 0 then 2 else if 65536 < n then 3 else 0 : Nat) = 0 := by rw [if_neg h0, if_neg h1]
    rw [hi]
    clear hi
    go_enter Try.func32, Try.ntmps32
    go_wp2
    go_ret
    exact ⟨rfl, rfl⟩
end Go.Proofs.Ytggpldghdaggfaa
