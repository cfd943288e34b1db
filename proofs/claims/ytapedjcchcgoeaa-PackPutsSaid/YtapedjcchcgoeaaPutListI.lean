/-
  leb.PutList answers the counted list, in new memory without spare room.
-/
import Derived.Test.YtapedjcchcgoeaaRowsOwn
namespace Go.Proofs.Ytapedjcchcgoeaa
open Go.RowKit
set_option linter.unusedVariables false

theorem cat_puts (l : List Nat) : cat (Mt.put l.length :: l.map Mt.put) = putList l := by simp [cat, putList, puts]
theorem map_snoc {l : List Nat} {k c : Nat} {r : List Nat} (h : l.drop k = c :: r) : (l.take (k + 1)).map Mt.put = (l.take k).map Mt.put ++ [Mt.put c] := by rw [take_one h]; simp
theorem putList_len (l : List Nat) : (putList l).length ≤ 10 + 10 * l.length := by
  have h1 := puts_len l
  have h2 := Mt.put_len_le l.length
  unfold putList
  rw [List.length_append]
  omega

set_option maxHeartbeats 2000000 in
set_option maxRecDepth 100000 in
theorem putList_any (v : Value) (l : List Nat) (B : Nat) (w : World) (hB : B ≤ w.heap.size) (h : Wv w B v l) (hsz : l.length ≤ 2097152) :
    Calls Try.prog 28 #[v] w (IsFull (putList l) w) := by
  have hb : Mt.B64 l.length := by unfold Mt.B64; omega
  have HB0 := Lib.hid hb
  have hpl := putList_len l
  have HW := Lib.hid (wrap_len l.length (by omega))
  have H0 := Lib.hid h
  obtain ⟨A, c, rfl, hc1, hc2, hc3, _⟩ := h
  have hl : l.length ≤ 140737488355328 := by omega
  obtain ⟨i0, hi, hz0, hz1, hz2⟩ := info_parts info23
  have hby : i0.bytes * (l.length + 1) ≤ 281474976710656 := by rw [hz2]; omega
  have hml : l.length + 1 ≤ maxLen := by simp only [maxLen]; omega
  clear hb
  go_enter Try.func28, Try.ntmps28
  go_wp2_with (at_make; go_must (refine wpList_make_own _ rfl _ _ 60 rfl w.heap.size 28 i0 (.slice none 0 0) 1 Try.underlying60 hi hz0 hz1 .i64 .i64 _ (l.length + 1) rfl rfl (by simp) hby hml (Nat.le_refl _) ?_; intro w1 hown hgrow))
  have hr1 : RowsOwn w1 w.heap.size (l.length + 1) [] [] := ⟨rfl, hown, fun j u l hu => by simp at hu⟩
  have hb1 : Below w.heap.size w w1 := (Below.refl _ _).grown hgrow (Nat.le_refl _) (by intro k hk; cases hk)
  have HP := Lib.hid (put_any l.length HB0.out w1)
  have HR := Lib.hid hr1
  have HB := Lib.hid hb1
  clear hown hgrow hi hz0 hz1 hz2 hby hml hr1 hb1
  try rw [HW.out]
  ((with_reducible refine HP.out.mono ?_); rintro e w2 ⟨A1, c1, rfl, ho, hb2⟩)
  have HR2 := Lib.hid (HR.out.below_ hb2)
  have HB2 := Lib.hid (HB.out.trans (hb2.mono HB.out.size))
  have HU := Lib.hid ho.form_
  have HK : Hid (∀ k, (Value.slice A1 (Mt.put l.length).length c1).ownBlock = some k → w.heap.size < k) := fun k hk => by have := (ho.lt_ k hk).1; have := HR.out.lt_; omega
  clear HR HB ho hb2 HP
  go_wp2_with (at_builtin; go_must (refine wpList_push w2 rfl _ _ rfl rfl w.heap.size (l.length + 1) [] [] A1 _ c1 (Mt.put l.length) rfl rfl HR2.out HU.out HK.out (by simp) ?_; intro w3 hr3 hg3))
  have hz2 : w.heap.size ≤ w2.heap.size := HB2.out.size
  have hb3 : Below w.heap.size w w3 := (HB2.out.alloc hz2 _).grown hg3 (by simp; omega) (by intro k hk; injection hk with hk; omega)
  have HR3 := Lib.hid hr3
  have HB3 := Lib.hid hb3
  clear hr3 hb3 hg3 HR2 HB2 HU HK hz2
  go_loopw [3, 19] (fun u i wr => ∃ (k : Nat) (us : List Value) (ls : List (List Nat)), k ≤ l.length ∧ i = .int .i64 k ∧ u = .slice (some ⟨w.heap.size, 0, none⟩) us.length (l.length + 1) ∧ Hid (us.length = k + 1) ∧ Hid (RowsOwn wr w.heap.size (l.length + 1) us ls) ∧ Hid (ls = Mt.put l.length :: (l.take k).map Mt.put) ∧ Below w.heap.size w wr) (fun _ i _ => l.length - (intOf i).toNat)
  case atStart => exact ⟨0, [.slice A1 (Mt.put l.length).length c1], [Mt.put l.length], by omega, rfl, rfl, rfl, HR3.out, by simp [Hid], HB3.out⟩
  case round =>
    obtain ⟨k, us, ls, hk, rfl, rfl, HL, HR, HE, hbr⟩ := hrel
    have hbase : w.heap.size ≤ wr.heap.size := hbr.size
    clear HB3 HR3
    by_cases hlt : k < l.length
    · obtain ⟨A', c', e', _, _, _, hts⟩ := H0.out.below_ hbr hB
      injection e' with e1 e2 e3
      subst e1
      obtain ⟨b, off, x, rfl, hb, hx, hd, hcell⟩ := hts.at_ hlt
      have HE2 : Hid (ls ++ [Mt.put x] = Mt.put l.length :: (l.take (k + 1)).map Mt.put) := by
        unfold Hid; rw [map_snoc hd, HE.out]; rfl
      have HX := Lib.hid (put_any x hx wr)
      clear hts hd HE hx e3
      go_wp2_with fail
      ((with_reducible refine HX.out.mono ?_); rintro e w4 ⟨A2, c2, rfl, ho4, hb4⟩)
      have HR4 := Lib.hid (HR.out.below_ hb4)
      have HU := Lib.hid ho4.form_
      have HK : Hid (∀ k, (Value.slice A2 (Mt.put x).length c2).ownBlock = some k → w.heap.size < k) := fun k hk => by have := (ho4.lt_ k hk).1; have := HR.out.lt_; omega
      have hbr4 := hbr.trans (hb4.mono hbase)
      have hbase4 : w.heap.size ≤ w4.heap.size := hbr4.size
      have hroom : us.length + 1 ≤ l.length + 1 := by have := HL.out; omega
      clear ho4 hb4 HR HX hbr
      go_wp2_with (at_builtin; go_must (refine wpList_push w4 rfl _ _ rfl rfl w.heap.size (l.length + 1) us ls A2 _ c2 (Mt.put x) rfl rfl HR4.out HU.out HK.out hroom ?_; intro w5 hr5 hg5))
      go_roundw
      case rel => exact ⟨k + 1, us ++ [Value.slice A2 (Mt.put x).length c2], ls ++ [Mt.put x], by omega, by go_num, by simp, by unfold Hid; rw [List.length_append, HL.out]; rfl, (by exact hr5), HE2, (hbr4.alloc hbase4 _).grown hg5 (by simp; omega) (by intro k hk; injection hk with hk; omega)⟩
      case measure => simp [intOf]; omega
    · have hkk : k = l.length := by omega
      have hls : ls = Mt.put l.length :: l.map Mt.put := by rw [HE.out, hkk, List.take_length]
      have hul : us.length = ls.length := HR.out.1
      have hcat : cat ls = putList l := by rw [hls]; exact cat_puts l
      have HJ := Lib.hid (join_any _ ls wr.heap.size wr (Nat.le_refl _) HR.out.rws_ (by rw [hcat]; omega))
      rw [hcat, ← hul] at HJ
      clear HE HR hls hul hcat
      go_wp2_with fail
      ((with_reducible refine HJ.out.mono ?_); rintro e w6 ⟨g, rfl, ho6, hb6⟩)
      have hO := ho6.mono_ hbase
      have hB6 := hbr.trans (hb6.mono hbase)
      clear HJ ho6 hb6
      go_wp2
      go_ret
      exact ⟨g, rfl, hO, hB6⟩
end Go.Proofs.Ytapedjcchcgoeaa
