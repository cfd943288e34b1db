/-
  leb.PutRow and stookref01.PutRow answer the counted row, in new memory.
-/
import Derived.Test.YteemhdoegjdaiaaJoin
import Derived.Test.YteemhdoegjdaiaaRPut
namespace Go.Proofs.Yteemhdoegjdaiaa
open Go.RowKit
set_option linter.unusedVariables false

def putRow (l : List Nat) : List Nat := Mt.put l.length ++ l
theorem putRow_len (l : List Nat) : (putRow l).length = (Mt.put l.length).length + l.length := by simp [putRow]

theorem Bv.alloc_ {w : World} {B : Nat} {v : Value} {l : List Nat} (h : Bv w B v l) (hB : B ≤ w.heap.size) (o : Obj) : Bv (w.alloc o) B v l :=
  h.below_ ((Below.refl B w).alloc hB o) (Nat.le_refl _)

theorem Rws.one_ {w : World} {B : Nat} {u : Value} {l : List Nat} (h : Bv w B u l) (hB : B ≤ w.heap.size) :
    Rws (w.alloc (.cells #[u] 22)) (w.heap.size + 1) (.slice (some ⟨w.heap.size, 0, none⟩) 1 1) [l] := by
  refine ⟨w.heap.size, 0, 1, rfl, by omega, by simp, by simp [maxLen], fun j x hj => ?_⟩
  match j, hj with
  | 0, hj =>
    simp at hj
    subst hj
    refine ⟨u, ?_, (h.alloc_ hB _).mono_ (by omega)⟩
    rw [cell_of_row _ w.heap.size (0 + 0) #[u] 22 (0, 0) (heap_alloc_new w _)]; rfl
  | j + 1, hj => simp at hj

theorem Rws.two_ {w : World} {B : Nat} {u u' : Value} {l l' : List Nat} (h : Bv w B u l) (h' : Bv w B u' l') (hB : B ≤ w.heap.size) :
    Rws (w.alloc (.cells #[u, u'] 22)) (w.heap.size + 1) (.slice (some ⟨w.heap.size, 0, none⟩) 2 2) [l, l'] := by
  refine ⟨w.heap.size, 0, 2, rfl, by omega, by simp, by simp [maxLen], fun j x hj => ?_⟩
  match j, hj with
  | 0, hj =>
    simp at hj
    subst hj
    refine ⟨u, ?_, (h.alloc_ hB _).mono_ (by omega)⟩
    rw [cell_of_row _ w.heap.size (0 + 0) #[u, u'] 22 (0, 0) (heap_alloc_new w _)]; rfl
  | 1, hj =>
    simp at hj
    subst hj
    refine ⟨u', ?_, (h'.alloc_ hB _).mono_ (by omega)⟩
    rw [cell_of_row _ w.heap.size (0 + 1) #[u, u'] 22 (0, 0) (heap_alloc_new w _)]; rfl
  | j + 2, hj => simp at hj

theorem wrap_len (n : Nat) (h : n ≤ 140737488355328) : IntKind.u64.wrap (n : Int) = (n : Int) := by rw [IntKind.wrap_u64]; omega

set_option maxHeartbeats 1000000 in
set_option maxRecDepth 100000 in
theorem putRow_any (v : Value) (l : List Nat) (B : Nat) (w : World) (hB : B ≤ w.heap.size) (h : Bv w B v l) (hsz : l.length + 10 ≤ 140737488355328) :
    Calls Try.prog 28 #[v] w (IsFull (putRow l) w) := by
  have hb : Mt.B64 l.length := by unfold Mt.B64; omega
  have HP := Lib.hid (put_any l.length hb w)
  have hlen := Mt.put_len_le l.length
  have HW := Lib.hid (wrap_len l.length (by omega))
  have H0 := Lib.hid h
  obtain ⟨A, c, rfl, _, _, _, _⟩ := h
  have hl : l.length ≤ 140737488355328 := by omega
  clear hb
  go_enter Try.func28, Try.ntmps28
  go_wp2_with fail
  try rw [HW.out]
  ((with_reducible refine HP.out.mono ?_); rintro e w1 ⟨A1, c1, rfl, ho, hb1⟩)
  have hz := hb1.size
  have HR := Lib.hid (Rws.two_ ho.form_ ((H0.out.below_ hb1 hB).mono_ (by omega)) (Nat.le_refl _))
  have HB := Lib.hid (hb1.alloc hz (.cells #[.slice A1 (Mt.put l.length).length c1, .slice A l.length c] 22))
  have HJ := Lib.hid (join_any _ _ _ _ (by simp) HR.out (by simp [cat]; omega))
  clear ho hb1
  go_wp2_with fail
  ((with_reducible refine HJ.out.mono ?_); rintro e w2 ⟨g, rfl, ho2, hb2⟩)
  have e1 : cat [Mt.put l.length, l] = putRow l := by simp [cat, putRow]
  rw [e1] at ho2 ⊢
  have hO : OwnB w2 w.heap.size (.slice (some ⟨g, 0, none⟩) (putRow l).length (putRow l).length) (putRow l) := ho2.mono_ (by simp; omega)
  have hB2 := HB.out.trans (hb2.mono (by simp; omega))
  clear ho2 hb2 HJ HR HB
  go_wp2
  go_ret
  exact ⟨g, rfl, hO, hB2⟩

set_option maxHeartbeats 1000000 in
set_option maxRecDepth 100000 in
theorem rputRow_any (v : Value) (l : List Nat) (B : Nat) (w : World) (hB : B ≤ w.heap.size) (h : Bv w B v l) (hsz : l.length + 10 ≤ 140737488355328) :
    Calls Try.prog 30 #[v] w (IsFresh (putRow l) w) := by
  have hb : Mt.B64 l.length := by unfold Mt.B64; omega
  have HP := Lib.hid (rput_any 9 l.length w (by omega) hb)
  have hlen := Mt.put_len_le l.length
  have HW := Lib.hid (wrap_len l.length (by omega))
  have H0 := Lib.hid h
  obtain ⟨A, c, rfl, _, _, _, _⟩ := h
  have hl : l.length ≤ 140737488355328 := by omega
  clear hb
  go_enter Try.func30, Try.ntmps30
  go_wp2_with fail
  try rw [HW.out]
  ((with_reducible refine HP.out.mono ?_); rintro e w1 ⟨A1, c1, rfl, ho, hb1⟩)
  have hz := hb1.size
  have HO := Lib.hid ho
  have HB := Lib.hid hb1
  have HX := Lib.hid (H0.out.below_ hb1 hB)
  clear ho hb1
  go_wp2_with (at_builtin; go_must (refine wpList_append_bytes _ rfl _ _ rfl rfl w.heap.size _ rfl (Mt.put l.length) HO.out _ rfl _ l HX.out (by omega) hz ?_; intro A2 c2 w2 hA))
  go_ret
  have hf := hA.own.fresh (HB.out.grown hA.grown hz (fun k hk => (HO.out.lt_ k hk).1))
  unfold putRow
  simpa using hf
end Go.Proofs.Yteemhdoegjdaiaa
