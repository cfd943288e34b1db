/-
  leb.PutList and stookref01.PutList answer the counted list, in new memory.
-/
import Derived.Test.YtheiffjnddhcoaaPutRow
import Derived.Test.YtheiffjnddhcoaaWords
namespace Go.Proofs.Ytheiffjnddhcoaa
open Go.RowKit
set_option linter.unusedVariables false

/-- The bytes of numbers, one behind the other. -/
def puts (l : List Nat) : List Nat := (l.map Mt.put).flatten
def putList (l : List Nat) : List Nat := Mt.put l.length ++ puts l
theorem puts_nil : puts [] = [] := rfl
theorem puts_snoc (l : List Nat) (c : Nat) : puts (l ++ [c]) = puts l ++ Mt.put c := by simp [puts]
theorem puts_len (l : List Nat) : (puts l).length ≤ 10 * l.length := by
  induction l with
  | nil => simp [puts]
  | cons x r ih =>
    have h := Mt.put_len_le x
    have e : puts (x :: r) = Mt.put x ++ puts r := by simp [puts]
    rw [e]
    simp only [List.length_append, List.length_cons]
    omega
theorem take_one {l : List Nat} {k c : Nat} {r : List Nat} (h : l.drop k = c :: r) : l.take (k + 1) = l.take k ++ [c] := by
  rw [List.take_add, h]; rfl

set_option maxHeartbeats 1000000 in
set_option maxRecDepth 100000 in
theorem rputList_any (v : Value) (l : List Nat) (B : Nat) (w : World) (hB : B ≤ w.heap.size) (h : Wv w B v l) (hsz : l.length ≤ 2097152) :
    Calls Try.prog 28 #[v] w (IsFresh (putList l) w) := by
  have hb : Mt.B64 l.length := by unfold Mt.B64; omega
  have HP := Lib.hid (rput_any 9 l.length w (by omega) hb)
  have hlen := Mt.put_len_le l.length
  have HW := Lib.hid (wrap_len l.length (by omega))
  have H0 := Lib.hid h
  obtain ⟨A, c, rfl, hc1, hc2, hc3, _⟩ := h
  have hl : l.length ≤ 140737488355328 := by omega
  clear hb
  go_enter Try.func28, Try.ntmps28
  go_wp2_with fail
  try rw [HW.out]
  ((with_reducible refine HP.out.mono ?_); rintro e w1 ⟨A1, c1, rfl, ho, hb1⟩)
  have hz := hb1.size
  have HO := Lib.hid ho
  have HB := Lib.hid hb1
  clear ho hb1 HP HW
  go_wp2_with fail
  go_loopw [3, 4] (fun u i wr => ∃ (k : Nat) (y : List Nat), k ≤ l.length ∧ i = .int .i64 k ∧ Hid (OwnB wr w.heap.size u y) ∧ Hid (y = Mt.put l.length ++ puts (l.take k)) ∧ Below w.heap.size w wr) (fun _ i _ => l.length - (intOf i).toNat)
  case atStart => exact ⟨0, Mt.put l.length, by omega, rfl, HO.out, by simp [Hid, puts], HB.out⟩
  case round =>
    obtain ⟨k, y, hk, rfl, HY, HE, hbr⟩ := hrel
    have hbase : w.heap.size ≤ wr.heap.size := hbr.size
    clear HO HB
    by_cases hlt : k < l.length
    · obtain ⟨A', c', e', _, _, _, hts⟩ := H0.out.below_ hbr hB
      injection e' with e1 e2 e3
      subst e1
      obtain ⟨b, off, x, rfl, hb, hx, hd, hcell⟩ := hts.at_ hlt
      have hyl : y.length ≤ 10 + 10 * k := by
        have h1 := puts_len (l.take k)
        have h2 : (l.take k).length ≤ k := List.length_take_le _ _
        rw [HE.out, List.length_append]
        omega
      have HE2 : Hid (y ++ Mt.put x = Mt.put l.length ++ puts (l.take (k + 1))) := by
        unfold Hid; rw [take_one hd, puts_snoc, HE.out, List.append_assoc]
      have HX := Lib.hid (rput_any 9 x wr (by unfold Mt.B64 at hx; omega) hx)
      have hxl := Mt.put_len_le x
      clear hts hd HE hx e3
      go_wp2_with fail
      ((with_reducible refine HX.out.mono ?_); rintro e w2 ⟨A2, c2, rfl, ho2, hb2⟩)
      have HY2 := Lib.hid (HY.out.below_ hb2 (Nat.le_refl _))
      have HS := Lib.hid ho2.form_
      have hbr2 := hbr.trans (hb2.mono hbase)
      have hbase2 : w.heap.size ≤ w2.heap.size := hbr2.size
      clear ho2 hb2 HY HX hbr
      go_wp2_with (at_builtin; go_must (refine wpList_append_bytes _ rfl _ _ rfl rfl w.heap.size _ rfl y HY2.out _ rfl _ (Mt.put x) HS.out (by omega) hbase2 ?_; intro A3 c3 w3 hA))
      go_roundw
      case rel => exact ⟨k + 1, y ++ Mt.put x, by omega, by go_num, (by simpa [Hid] using hA.own), HE2, hbr2.grown hA.grown hbase2 (fun k hk => (HY2.out.lt_ k hk).1)⟩
      case measure => simp [intOf]; omega
    · have hkk : k = l.length := by omega
      have hy : y = putList l := by rw [HE.out, hkk, List.take_length]; rfl
      clear HE
      go_wp2
      go_ret
      rw [← hy]
      exact HY.out.fresh hbr
end Go.Proofs.Ytheiffjnddhcoaa
