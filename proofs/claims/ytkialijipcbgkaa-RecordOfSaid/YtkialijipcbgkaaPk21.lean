/-
  BvLv: Bytes in two words: Bv (layers 1 to 4) and Lv yK.
  Cat: Rows, one behind the other.
  Slice: The first bytes of a slice that may be nil: what cutting it answers, in one word.
  ConA: slices.Grow of a list of bytes that is not there: room of the call's own.
-/
import Derived.Test.YtkialijipcbgkaaPk01
import Derived.Test.YtkialijipcbgkaaPk07
import Derived.Lib.AppendZeros
namespace Go.Proofs.Ytkialijipcbgkaa
open Go.RowKit
set_option linter.unusedVariables false

theorem octs_flat (l : List Nat) : yK.flat l = l.map u8 := by
  show l.flatMap (fun x => [u8 x]) = l.map u8
  induction l with
  | nil => rfl
  | cons x r ih => rw [List.flatMap_cons, ih]; rfl
theorem Bv.lv_ {w : World} {B : Nat} {v : Value} {l : List Nat} (h : Bv w B v l) : Lv yK w B v l := by
  obtain ⟨A, c, e, h1, h2, h3, h4, h5⟩ := h
  refine ⟨A, c, e, h1, h2, h3, h4, fun hp => ?_⟩
  obtain ⟨b, off, hA, hb, hc⟩ := h5 hp
  refine ⟨b, off, hA, hb, fun j u hj => ?_⟩
  have hf := octs_flat l
  rw [hf, List.getElem?_map] at hj
  cases hx : l[j]? with
  | none => rw [hx] at hj; cases hj
  | some x =>
    rw [hx] at hj
    cases hj
    exact hc j x hx
theorem Lv.bv_ {w : World} {B : Nat} {v : Value} {l : List Nat} (h : Lv yK w B v l) : Bv w B v l := by
  obtain ⟨A, c, e, h1, h2, h3, h4, h5⟩ := h
  refine ⟨A, c, e, h1, h2, h3, h4, fun hp => ?_⟩
  obtain ⟨b, off, hA, hb, hc⟩ := h5 hp
  refine ⟨b, off, hA, hb, fun j x hj => hc j (u8 x) ?_⟩
  have hf := octs_flat l
  rw [hf, List.getElem?_map, hj]
  rfl
end Go.Proofs.Ytkialijipcbgkaa
namespace Go.Proofs.Ytkialijipcbgkaa

/-- All rows, one behind the other. -/
def cat (ls : List (List Nat)) : List Nat := ls.flatten
theorem flat_succ {ls : List (List Nat)} {k : Nat} {l : List Nat} (h : ls[k]? = some l) : cat (ls.take (k + 1)) = cat (ls.take k) ++ l := by
  unfold cat
  rw [List.take_add_one, h]; simp
theorem flat_le (ls : List (List Nat)) (k : Nat) : (cat (ls.take k)).length ≤ (cat ls).length := by
  unfold cat
  have h := List.take_append_drop k ls
  have h2 := congrArg (fun x => x.flatten.length) h
  simp only [List.flatten_append, List.length_append] at h2
  omega

end Go.Proofs.Ytkialijipcbgkaa
namespace Go.Proofs.Ytkialijipcbgkaa
open Go.RowKit

set_option maxRecDepth 100000 in
theorem addr_zero (a : Addr) : a.add 0 = a := by
  unfold Addr.add
  split <;> simp_all
set_option maxRecDepth 100000 in
theorem slice_to (A : Option Addr) (n c m : Nat) (h : m ≤ c) (w : World) :
    (Instr.slice 28 (.slice A n c) none (some (.int .i64 (m : Nat))) none).run Try.prog w = .ok (.slice A m c) w := by
  have h1 : (sizeOf (Try.prog.elem 28)).run Try.prog w = .ok 1 w := by
    obtain ⟨i, hi, _, hs, _⟩ := info_parts info5
    have he : Try.prog.elem 28 = 5 := by kernel_rfl
    rw [he]
    simp [sizeOf, typeInfo, hi, hs]
  rw [run_slice_h (P := Try.prog) w 28 A n c Try.underlying28 .i64 (m : Nat) (by omega) (by omega), h1]
  simp only [Result.andThen, sliced, Int.toNat_natCast, Nat.zero_mul, Nat.sub_zero]
  have e : A.map (·.add 0) = A := by cases A <;> simp [addr_zero]
  simp [addr_zero]
set_option maxRecDepth 100000 in
theorem sliceAt_to (A : Option Addr) (n c m : Nat) (h : m ≤ c) (w : World) :
    (Instr.sliceAt 28 (.slice A n c) none (some (.int .i64 (m : Nat))) none).run Try.prog w = .ok (.slice A m c) w := by
  rw [run_sliceAt_slice (P := Try.prog) w _ _ _ _ _ Try.underlying28]
  exact slice_to A n c m h w
end Go.Proofs.Ytkialijipcbgkaa
namespace Go.Proofs.Ytkialijipcbgkaa
open Go.RowKit
set_option linter.unusedVariables false
/-- A new row of zeros, cut to nothing. -/
theorem own_room (w : World) {base n c : Nat} (hb : base ≤ w.heap.size) (hn : n ≤ c) (hc : c ≤ maxLen) :
    OwnL yK (w.drew.alloc (.cells (Builtin.zeroCells (Value.int .u8 0).cells n ++ Builtin.zeroCells (Value.int .u8 0).cells (c - n)) 5)) base (.slice (some ⟨w.heap.size, 0, none⟩) 0 c) [] := by
  refine ⟨by simp, .inr ⟨w.heap.size, List.replicate c 0, by simp, hb, fun x hx => by rw [List.eq_of_mem_replicate hx]; show (0 : Nat) < 256; omega, by simpa using hc, ?_⟩⟩
  have h1 : (w.drew.alloc (.cells (Builtin.zeroCells (Value.int .u8 0).cells n ++ Builtin.zeroCells (Value.int .u8 0).cells (c - n)) 5)).heap[w.heap.size]? = _ := heap_alloc_new w.drew _
  rw [h1]
  have e1 : Builtin.zeroCells (Value.int .u8 0).cells n = (yK.flat (List.replicate n 0)).toArray := zero_cells (K := yK) n
  have e2 : Builtin.zeroCells (Value.int .u8 0).cells (c - n) = (yK.flat (List.replicate (c - n) 0)).toArray := zero_cells (K := yK) (c - n)
  have e3 : (yK.flat (List.replicate n 0)).toArray ++ (yK.flat (List.replicate (c - n) 0)).toArray = (yK.flat (List.replicate c 0)).toArray := by
    rw [List.append_toArray, octs_flat, octs_flat, octs_flat, ← List.map_append, List.replicate_append_replicate, Nat.add_sub_cancel' hn]
  rw [e1, e2, e3, List.nil_append]
  rfl
set_option maxHeartbeats 1000000 in
set_option maxRecDepth 100000 in
theorem pgrow_any (n : Nat) (w : World) (hn : n ≤ 140737488355328) : Calls Try.prog 54 #[.slice none 0 0, .int .i64 (n : Nat)] w
    (fun e w' => ∃ A c, e = .returned (.slice A 0 c) ∧ OwnL yK w' w.heap.size (.slice A 0 c) [] ∧ Below w.heap.size w w') := by
  have h0 : ¬ (n : Int) < 0 := by omega
  have ws : IntKind.i64.wrap ((n : Int)) = (n : Int) := by rw [IntKind.wrap_i64]; omega
  have hc0 := fun w' => slice_to none 0 0 0 (Nat.le_refl _) w'
  have hcA := fun (A : Option Addr) (m c : Nat) w' => slice_to A m c 0 (Nat.zero_le _) w'
  simp only [Int.natCast_zero] at hc0 hcA
  by_cases hp : 0 < n
  · have hpi : (0 : Int) < (n : Int) := by omega
    obtain ⟨i, hi, hz, hs, hbt⟩ := info_parts info5
    have hr := Lib.run_append_nil_zeros (P := Try.prog) w 28 3 28 5 i (.int .u8 0) .i64 .i64 Try.underlying28 Try.underlying3 hi hz n hp (by rw [hs]; omega) (by omega) (by rw [hbt]; omega)
    have HG : Hid (n ≤ Go.grownCap w n 0 5 ∧ Go.grownCap w n 0 5 ≤ maxLen) := ⟨grownCap_ge _ _ _ _, grownCap_le_maxLen _ _ _ _ (by simp [maxLen]; omega)⟩
    obtain ⟨c, hc⟩ : ∃ c, Go.grownCap w n 0 5 = c := ⟨_, rfl⟩
    rw [hc] at hr HG
    have HO := Lib.hid (own_room w (base := w.heap.size) (Nat.le_refl _) HG.out.1 HG.out.2)
    have HB : Hid (Below w.heap.size w (w.drew.alloc (.cells (Builtin.zeroCells (Value.int .u8 0).cells n ++ Builtin.zeroCells (Value.int .u8 0).cells (c - n)) 5))) := ((Below.refl _ _).drew).alloc (Nat.le_refl _) _
    obtain ⟨W, hW⟩ : ∃ W, w.drew.alloc (.cells (Builtin.zeroCells (Value.int .u8 0).cells n ++ Builtin.zeroCells (Value.int .u8 0).cells (c - n)) 5) = W := ⟨_, rfl⟩
    rw [hW] at hr HO HB
    clear hW hc hi hz hs hbt
    go_enter Try.func54, Try.ntmps54
    go_wp2_with (at_builtin; go_must (refine Lib.wpList_append_run _ rfl _ _ _ _ rfl _ _ rfl rfl _ _ hr ?_))
    go_ret
    exact ⟨_, _, rfl, HO.out, HB.out⟩
  · have hpi : ¬ (0 : Int) < (n : Int) := by omega
    go_enter Try.func54, Try.ntmps54
    go_wp2
    go_ret
    exact ⟨_, _, rfl, OwnL.nil_ _ _ _, Below.refl _ _⟩
end Go.Proofs.Ytkialijipcbgkaa
