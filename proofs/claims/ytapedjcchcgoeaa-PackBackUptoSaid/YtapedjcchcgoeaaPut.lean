/-
  leb.Put answers the bytes of a number, in new memory.
-/
import Derived.Test.YtapedjcchcgoeaaApp
import Derived.Test.YtapedjcchcgoeaaLen
namespace Go.Proofs.Ytapedjcchcgoeaa
open Go.RowKit
set_option linter.unusedVariables false

/-- A call that answers these bytes in new memory, and turns nothing that was there. -/
def IsFresh (l : List Nat) (w : World) (e : Ending) (w' : World) : Prop :=
  ∃ A c, e = .returned (.slice A l.length c) ∧ OwnB w' w.heap.size (.slice A l.length c) l ∧ Below w.heap.size w w'

set_option maxHeartbeats 400000 in
set_option maxRecDepth 100000 in
theorem put_any (n : Nat) (hn : Mt.B64 n) (w : World) :
    Calls Try.prog 35 #[.int .u64 n] w (IsFresh (Mt.put n) w) := by
  have hlen := Mt.put_len_le n
  obtain ⟨i0, hi, hz0, hz1, hz2⟩ := info_parts info5
  go_enter Try.func35, Try.ntmps35
  have hb2 : i0.bytes * (Mt.put n).length ≤ 281474976710656 := by rw [hz2]; omega
  have hm3 : (Mt.put n).length ≤ maxLen := by simp only [maxLen]; omega
  clear hlen
  go_wp2_with (first | (go_at_call 30; refine (len_any _ hn _).mono ?_; rintro e w' ⟨rfl, rfl⟩) | (at_make; go_must (refine wpList_make_own _ rfl _ _ 28 rfl w.heap.size 5 i0 (.int .u8 0) 1 Try.underlying28 hi hz0 hz1 .i64 .i64 _ (Mt.put n).length rfl rfl rfl hb2 hm3 (Nat.le_refl _) ?_; intro w1 hown hgrow)))
  have how : OwnB w1 w.heap.size (.slice (some ⟨w.heap.size, 0, none⟩) 0 (Mt.put n).length) [] := ⟨by simp, hown⟩
  have hbel : Below w.heap.size w w1 := (Below.refl _ _).grown hgrow (Nat.le_refl _) (by intro k hk; cases hk)
  clear hown hgrow hb2 hm3
  go_loopw [0, 3] (fun m v wr => ∃ (q : Nat) (l : List Nat), m = .int .u64 q ∧ Hid (Mt.B64 q) ∧ Hid (OwnB wr w.heap.size v l) ∧ Hid (Mt.put n = l ++ Mt.put q) ∧ Below w.heap.size w wr) (fun m _ _ => (intOf m).toNat)
  case atStart => exact ⟨n, [], rfl, hn, how, rfl, hbel⟩
  case round =>
    obtain ⟨q, l, rfl, HQ, HO, HP, hbr⟩ := hrel
    clear how hbel hi hz0 hz1 hz2
    have hbase : w.heap.size ≤ wr.heap.size := hbr.size
    have hl10 : l.length ≤ 10 := by
      have h1 := Mt.put_len_le n
      rw [HP.out, List.length_append] at h1
      omega
    by_cases h : 128 ≤ q
    · have HP2 : Hid (Mt.put n = (l ++ [q % 128 + 128]) ++ Mt.put (q / 128)) := by
        unfold Hid
        rw [HP.out, Mt.put_step h HQ.out]
        simp
      have HQ2 : Hid (Mt.B64 (q / 128)) := Mt.b64_div HQ.out
      have hown1 := HO.out.alloc_ (.cells #[.int .u8 (bits BinOp.or IntKind.u8 ((q : Int) % 256) 128)] 5)
      have hsrc := Bv.one_ wr (or128 q) (by omega)
      have hbel1 := hbr.alloc hbase (.cells #[.int .u8 (bits BinOp.or IntKind.u8 ((q : Int) % 256) 128)] 5)
      have HO1 := Lib.hid hown1
      have HS := Lib.hid hsrc
      have HB := Lib.hid hbel1
      clear hown1 hsrc hbel1 HP HO HQ hn
      go_wp2_with (at_builtin; go_must (refine wpList_append_bytes _ rfl _ _ rfl rfl w.heap.size _ rfl l HO1.out _ rfl _ [q % 128 + 128] HS.out (by simp; omega) (by simp; omega) ?_; intro A c w2 hA))
      go_roundw
      case rel => exact ⟨q / 128, l ++ [q % 128 + 128], by simp, HQ2, (by simpa [Hid] using hA.own), HP2, HB.out.grown hA.grown (by simp; omega) (fun k hk => (HO1.out.lt_ k hk).1)⟩
      case measure => simp [intOf]; omega
    · have HP2 : Hid (Mt.put n = l ++ [q]) := by
        unfold Hid
        rw [HP.out, Mt.put_small (by omega)]
      have hown1 := HO.out.alloc_ (.cells #[.int .u8 (q : Int)] 5)
      have hsrc := Bv.one_ wr (x := (q : Int)) (c := q) rfl (by omega)
      have hbel1 := hbr.alloc hbase (.cells #[.int .u8 (q : Int)] 5)
      have HO1 := Lib.hid hown1
      have HS := Lib.hid hsrc
      have HB := Lib.hid hbel1
      clear hown1 hsrc hbel1 HP HO HQ hn
      go_wp2_with (at_builtin; go_must (refine wpList_append_bytes _ rfl _ _ rfl rfl w.heap.size _ rfl l HO1.out _ rfl _ [q] HS.out (by simp; omega) (by simp; omega) ?_; intro A c w2 hA))
      go_ret
      exact ⟨A, c, by rw [HP2.out]; simp, by rw [HP2.out]; exact hA.own, HB.out.grown hA.grown (by simp; omega) (fun k hk => (HO1.out.lt_ k hk).1)⟩
end Go.Proofs.Ytapedjcchcgoeaa
