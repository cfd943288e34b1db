/-
  page.mayBe, page.lay.
-/
import Derived.Test.YtdmomnpmicagcaaPgMem
import Derived.Test.YtdmomnpmicagcaaCMathB
import Derived.Test.YtdmomnpmicagcaaMem
namespace Go.Proofs.Ytdmomnpmicagcaa
open Go.RowKit
set_option linter.unusedVariables false
/-- A number's bytes, the lowest first: so many. -/
def bts (n m : Nat) : List Nat := (List.range m).map (Cr.byt n)
theorem bts_len (n m : Nat) : (bts n m).length = m := by simp [bts]
theorem bts_succ (n m : Nat) : bts n (m + 1) = bts n m ++ [Cr.byt n m] := by simp [bts, List.range_succ]
theorem bts_lt (n m : Nat) : ∀ x ∈ bts n m, x < 256 := fun x hx => by
  obtain ⟨i, _, rfl⟩ := List.mem_map.1 hx
  exact Cr.byt_lt n i
set_option maxHeartbeats 1000000 in
theorem pmaybe_any (n : Int) (w : World) : Calls Try.prog 15 #[.int .i64 n] w (fun e w' => e = .returned (.bool (decide (0 ≤ n ∧ n < 65536))) ∧ w' = w) := by
  by_cases h0 : 0 ≤ n
  · by_cases h1 : n < 65536
    · go_enter Try.func15, Try.ntmps15
      go_wp2
      go_ret
      exact ⟨by simp [h0, h1], rfl⟩
    · go_enter Try.func15, Try.ntmps15
      go_wp2
      go_ret
      exact ⟨by simp [h1], rfl⟩
  · go_enter Try.func15, Try.ntmps15
    go_wp2
    go_ret
    exact ⟨by simp; omega, rfl⟩
set_option maxHeartbeats 1000000 in
set_option maxRecDepth 100000 in
theorem play_any (g k m c n : Nat) (t : TypeId) (z : List Nat) (w : World) (hn : n < 4294967296) (h : Rw w g t (bvs z)) (h8 : ∀ x ∈ z, x < 256) (hk : k + m ≤ z.length) (hm : m ≤ 4) :
    Calls Try.prog 24 #[.slice (some ⟨g, k, none⟩) m c, .int .u32 (n : Nat)] w (fun e w' => (∃ x, e = .returned x) ∧ Rw w' g t (bvs (pu z k (bts n m))) ∧ w.grownBy w' (some g)) := by
  have H0 := Lib.hid h
  have HK := Lib.hid hk
  clear h hk
  go_enter Try.func24, Try.ntmps24
  go_wp2
  go_loopw [7] (fun i wr => ∃ j : Nat, j ≤ m ∧ i = .int .i64 j ∧ Hid (Rw wr g t (bvs (pu z k (bts n j)))) ∧ Hid (w.grownBy wr (some g))) (fun i _ => m - (intOf i).toNat)
  case atStart => exact ⟨0, by omega, rfl, by unfold Hid; rw [show bts n 0 = [] from rfl, pu_nil]; exact H0.out, World.grownBy.refl _ _⟩
  case round =>
    obtain ⟨j, hj, rfl, HR, HG⟩ := hrel
    by_cases hlt : j < m
    · have hk := HK.out
      have hx : (n : Int) / 2 ^ (8 * j) % 256 = ((Cr.byt n j : Nat) : Int) := by unfold Cr.byt; simp
      have hlen : (pu z k (bts n j)).length = z.length := pu_len (by rw [bts_len]; omega)
      obtain ⟨x0, hx0⟩ : ∃ x, (pu z k (bts n j))[k + j]? = some x := ⟨_, List.getElem?_eq_getElem (by omega)⟩
      have hc0 := HR.out.byte hx0
      have hf0 := HR.out.frozen (k + j)
      have hs := HR.out.setByte (k + j) (Cr.byt n j)
      have e := pu_snoc (z := z) (m := bts n j) (k := k) (x := Cr.byt n j) (by rw [bts_len]; omega)
      rw [bts_len, ← bts_succ] at e
      rw [e] at hs
      have HS := Lib.hid hs
      have hg : wr.grownBy (wr.setCell ⟨g, k + j, none⟩ (.int .u8 (Cr.byt n j : Nat))) (some g) := ⟨rfl, rfl, rfl, by simp [World.setCell], fun k _ hk => Below.heap_setCell _ _ _ k (fun e => hk (by rw [e]))⟩
      have HG2 := Lib.hid (grownBy_trans HG.out hg)
      clear hs e hx0 hlen hg
      go_wp2
      exact ⟨⟨j + 1, by omega, by go_num, HS.out, HG2.out⟩, by simp [intOf]; omega⟩
    · have h0 : j = m := by omega
      subst h0
      go_wp2
      go_end0
      exact ⟨⟨_, rfl⟩, HR.out, HG.out⟩
end Go.Proofs.Ytdmomnpmicagcaa
