/-
  RPut: stookref01.Put answers the bytes of a number, in new memory.
  PutListM: What counted lists are, in bytes; a length as a word.
  PutRow: leb.PutRow and stookref01.PutRow answer the counted row, in new memory.
-/
import Derived.Test.YtlefkaoibokjdaaPc14
import Derived.Test.YtlefkaoibokjdaaPc01
namespace Go.Proofs.Ytlefkaoibokjdaa
open Go.RowKit
set_option linter.unusedVariables false

theorem OwnB.fresh {w w' : World} {v : Value} {l : List Nat} (h : OwnB w' w.heap.size v l) (hb : Below w.heap.size w w') : IsFresh l w (.returned v) w' := by
  obtain ⟨A, c, rfl, _⟩ := h.form_
  exact ⟨A, c, rfl, h, hb⟩

set_option maxHeartbeats 400000 in
set_option maxRecDepth 100000 in
theorem rput_small (n : Nat) (hn : n < 128) (w : World) :
    Calls Try.prog 40 #[.int .u64 n] w (IsFresh (Mt.put n) w) := by
  have HP := Lib.hid (Mt.put_small hn)
  go_enter Try.func40, Try.ntmps40
  go_wp2
  go_ret
  have h := OwnB.lit_ w (Nat.le_refl _) (c := n) rfl (by omega)
  rw [HP.out]
  exact h.fresh ((Below.refl _ _).alloc (Nat.le_refl _) _)

theorem wrap_div (n : Nat) (hb : Mt.B64 n) : IntKind.u64.wrap ((n : Int) / 128) = ((n / 128 : Nat) : Int) := by
  unfold Mt.B64 at hb
  rw [IntKind.wrap_u64]
  omega

set_option maxHeartbeats 400000 in
set_option maxRecDepth 100000 in
theorem rput_any (k : Nat) : ∀ (n : Nat) (w : World), n < 128 ^ (k + 1) → Mt.B64 n →
    Calls Try.prog 40 #[.int .u64 n] w (IsFresh (Mt.put n) w) := by
  induction k with
  | zero => intro n w h _; exact rput_small n (by simpa using h) w
  | succ k ih =>
    intro n w h hb
    by_cases hn : n < 128
    · exact rput_small n hn w
    · have HP := Lib.hid (Mt.put_step (by omega) hb)
      have hq : n / 128 < 128 ^ (k + 1) := by rw [Nat.div_lt_iff_lt_mul (by decide)]; rw [Nat.pow_succ] at h; exact h
      have HI := Lib.hid (ih (n / 128) (w.alloc (.cells #[.int .u8 ((n : Int) % 128 + 128)] 5)) hq (Mt.b64_div hb))
      have hl := Mt.put_len_le (n / 128)
      have HW := Lib.hid (wrap_div n hb)
      have ho := Lib.hid (OwnB.lit_ w (Nat.le_refl _) (c := n % 128 + 128) (x := (n : Int) % 128 + 128) (by omega) (by omega))
      have hbel := Lib.hid ((Below.refl w.heap.size w).alloc (Nat.le_refl _) (.cells #[.int .u8 ((n : Int) % 128 + 128)] 5))
      clear ih h hb hq
      go_enter Try.func40, Try.ntmps40
      go_wp2_with fail
      rw [HW.out]
      ((with_reducible refine HI.out.mono ?_); rintro e w1 ⟨A, c, rfl, hown, hb1⟩)
      have hsrc := Lib.hid hown.form_
      have ho1 := Lib.hid (ho.out.below_ hb1 (Nat.le_refl _))
      have hb2 := Lib.hid (hbel.out.trans (hb1.mono (by simp)))
      have hsz : w.heap.size ≤ w1.heap.size := by have := hb1.size; simp at this; omega
      clear hown hb1 ho hbel
      go_wp2_with (at_builtin; go_must (refine wpList_append_bytes _ rfl _ _ rfl rfl w.heap.size _ rfl [n % 128 + 128] ho1.out _ rfl _ (Mt.put (n / 128)) hsrc.out (by simp; omega) hsz ?_; intro A2 c2 w2 hA))
      go_ret
      have hO := hA.own
      have hB : Below w.heap.size w w2 := hb2.out.grown hA.grown hsz (fun k hk => (ho1.out.lt_ k hk).1)
      have hf := hO.fresh hB
      rw [HP.out]
      simpa using hf
end Go.Proofs.Ytlefkaoibokjdaa
namespace Go.Proofs.Ytlefkaoibokjdaa
open Go.RowKit
set_option linter.unusedVariables false

/-- The bytes of numbers, one behind the other. -/
def puts (l : List Nat) : List Nat := (l.map Mt.put).flatten
def putList (l : List Nat) : List Nat := Mt.put l.length ++ puts l
theorem puts_nil : puts [] = [] := rfl
theorem puts_snoc (l : List Nat) (c : Nat) : puts (l ++ [c]) = puts l ++ Mt.put c := by simp [puts]
theorem puts_len (l : List Nat) : (puts l).length ≤ 10 * l.length := by
  induction l with
  | nil => simp [puts]
  | cons x r ih =>
    have h := Mt.put_len_le x
    have e : puts (x :: r) = Mt.put x ++ puts r := by simp [puts]
    rw [e]
    simp only [List.length_append, List.length_cons]
    omega
theorem take_one {l : List Nat} {k c : Nat} {r : List Nat} (h : l.drop k = c :: r) : l.take (k + 1) = l.take k ++ [c] := by
  rw [List.take_add, h]; rfl

theorem Bv.alloc_ {w : World} {B : Nat} {v : Value} {l : List Nat} (h : Bv w B v l) (hB : B ≤ w.heap.size) (o : Obj) : Bv (w.alloc o) B v l :=
  h.below_ ((Below.refl B w).alloc hB o) (Nat.le_refl _)

theorem wrap_len (n : Nat) (h : n ≤ 140737488355328) : IntKind.u64.wrap (n : Int) = (n : Int) := by rw [IntKind.wrap_u64]; omega
end Go.Proofs.Ytlefkaoibokjdaa
namespace Go.Proofs.Ytlefkaoibokjdaa
open Go.RowKit
set_option linter.unusedVariables false

def putRow (l : List Nat) : List Nat := Mt.put l.length ++ l
theorem putRow_len (l : List Nat) : (putRow l).length = (Mt.put l.length).length + l.length := by simp [putRow]

theorem Rws.one_ {w : World} {B : Nat} {u : Value} {l : List Nat} (h : Bv w B u l) (hB : B ≤ w.heap.size) :
    Rws (w.alloc (.cells #[u] 27)) (w.heap.size + 1) (.slice (some ⟨w.heap.size, 0, none⟩) 1 1) [l] := by
  refine ⟨w.heap.size, 0, 1, rfl, by omega, by simp, by simp [maxLen], fun j x hj => ?_⟩
  match j, hj with
  | 0, hj =>
    simp at hj
    subst hj
    refine ⟨u, ?_, (h.alloc_ hB _).mono_ (by omega)⟩
    rw [cell_of_row _ w.heap.size (0 + 0) #[u] 27 (0, 0) (heap_alloc_new w _)]; rfl
  | j + 1, hj => simp at hj

theorem Rws.two_ {w : World} {B : Nat} {u u' : Value} {l l' : List Nat} (h : Bv w B u l) (h' : Bv w B u' l') (hB : B ≤ w.heap.size) :
    Rws (w.alloc (.cells #[u, u'] 27)) (w.heap.size + 1) (.slice (some ⟨w.heap.size, 0, none⟩) 2 2) [l, l'] := by
  refine ⟨w.heap.size, 0, 2, rfl, by omega, by simp, by simp [maxLen], fun j x hj => ?_⟩
  match j, hj with
  | 0, hj =>
    simp at hj
    subst hj
    refine ⟨u, ?_, (h.alloc_ hB _).mono_ (by omega)⟩
    rw [cell_of_row _ w.heap.size (0 + 0) #[u, u'] 27 (0, 0) (heap_alloc_new w _)]; rfl
  | 1, hj =>
    simp at hj
    subst hj
    refine ⟨u', ?_, (h'.alloc_ hB _).mono_ (by omega)⟩
    rw [cell_of_row _ w.heap.size (0 + 1) #[u, u'] 27 (0, 0) (heap_alloc_new w _)]; rfl
  | j + 2, hj => simp at hj


set_option maxHeartbeats 1000000 in
set_option maxRecDepth 100000 in
theorem putRow_any (v : Value) (l : List Nat) (B : Nat) (w : World) (hB : B ≤ w.heap.size) (h : Bv w B v l) (hsz : l.length + 10 ≤ 140737488355328) :
    Calls Try.prog 39 #[v] w (IsFull (putRow l) w) := by
  have hb : Mt.B64 l.length := by unfold Mt.B64; omega
  have HP := Lib.hid (put_any l.length hb w)
  have hlen := Mt.put_len_le l.length
  have HW := Lib.hid (wrap_len l.length (by omega))
  have H0 := Lib.hid h
  obtain ⟨A, c, rfl, _, _, _, _⟩ := h
  have hl : l.length ≤ 140737488355328 := by omega
  clear hb
  go_enter Try.func39, Try.ntmps39
  go_wp2_with fail
  try rw [HW.out]
  ((with_reducible refine HP.out.mono ?_); rintro e w1 ⟨A1, c1, rfl, ho, hb1⟩)
  have hz := hb1.size
  have HR := Lib.hid (Rws.two_ ho.form_ ((H0.out.below_ hb1 hB).mono_ (by omega)) (Nat.le_refl _))
  have HB := Lib.hid (hb1.alloc hz (.cells #[.slice A1 (Mt.put l.length).length c1, .slice A l.length c] 27))
  have HJ := Lib.hid (join_any _ _ _ _ (by simp) HR.out (by simp [cat]; omega))
  clear ho hb1
  go_wp2_with fail
  ((with_reducible refine HJ.out.mono ?_); rintro e w2 ⟨g, rfl, ho2, hb2⟩)
  have e1 : cat [Mt.put l.length, l] = putRow l := by simp [cat, putRow]
  rw [e1] at ho2 ⊢
  have hO : OwnB w2 w.heap.size (.slice (some ⟨g, 0, none⟩) (putRow l).length (putRow l).length) (putRow l) := ho2.mono_ (by simp; omega)
  have hB2 := HB.out.trans (hb2.mono (by simp; omega))
  clear ho2 hb2 HJ HR HB
  go_wp2
  go_ret
  exact ⟨g, rfl, hO, hB2⟩

set_option maxHeartbeats 1000000 in
set_option maxRecDepth 100000 in
theorem rputRow_any (v : Value) (l : List Nat) (B : Nat) (w : World) (hB : B ≤ w.heap.size) (h : Bv w B v l) (hsz : l.length + 10 ≤ 140737488355328) :
    Calls Try.prog 61 #[v] w (IsFresh (putRow l) w) := by
  have hb : Mt.B64 l.length := by unfold Mt.B64; omega
  have HP := Lib.hid (rput_any 9 l.length w (by omega) hb)
  have hlen := Mt.put_len_le l.length
  have HW := Lib.hid (wrap_len l.length (by omega))
  have H0 := Lib.hid h
  obtain ⟨A, c, rfl, _, _, _, _⟩ := h
  have hl : l.length ≤ 140737488355328 := by omega
  clear hb
  go_enter Try.func61, Try.ntmps61
  go_wp2_with fail
  try rw [HW.out]
  ((with_reducible refine HP.out.mono ?_); rintro e w1 ⟨A1, c1, rfl, ho, hb1⟩)
  have hz := hb1.size
  have HO := Lib.hid ho
  have HB := Lib.hid hb1
  have HX := Lib.hid (H0.out.below_ hb1 hB)
  clear ho hb1
  go_wp2_with (at_builtin; go_must (refine wpList_append_bytes _ rfl _ _ rfl rfl w.heap.size _ rfl (Mt.put l.length) HO.out _ rfl _ l HX.out (by omega) hz ?_; intro A2 c2 w2 hA))
  go_ret
  have hf := hA.own.fresh (HB.out.grown hA.grown hz (fun k hk => (HO.out.lt_ k hk).1))
  unfold putRow
  simpa using hf
end Go.Proofs.Ytlefkaoibokjdaa
