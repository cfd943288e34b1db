/-
  Arr4: An array of the four bytes of a number, byte by byte.
  KByte: The kind of elements uint8: slices of bytes.
  BStr: Bytes as a string: what the conversion makes of a slice of bytes.
-/
import Derived.Test.YtglkhgchbnkekaaPk04
import Derived.Test.YtglkhgchbnkekaaPk02
import Derived.Test.YtglkhgchbnkekaaProg
import Derived.Laws.BytesString
import Derived.Laws.Cells
namespace Go.Proofs.Ytglkhgchbnkekaa
open Go.RowKit
set_option linter.unusedVariables false

/-- The array's cells, the first k of them written. -/
def arr4 (n k : Nat) : Array Value := #[.int .u8 (if 0 < k then Cr.byt n 0 else 0 : Nat), .int .u8 (if 1 < k then Cr.byt n 1 else 0 : Nat), .int .u8 (if 2 < k then Cr.byt n 2 else 0 : Nat), .int .u8 (if 3 < k then Cr.byt n 3 else 0 : Nat)]

theorem arr4_at (n : Nat) {k : Nat} (h : k < 4) : ∃ x : Nat, (arr4 n k)[k]? = some (.int .u8 x) := by
  rcases k with _|_|_|_|k
  all_goals first | exact ⟨0, rfl⟩ | omega
theorem arr4_set (n : Nat) {k : Nat} (h : k < 4) : (arr4 n k).setIfInBounds k (.int .u8 (Cr.byt n k : Nat)) = arr4 n (k + 1) := by
  rcases k with _|_|_|_|k
  all_goals first | rfl | omega
theorem arr4_end (n : Nat) : arr4 n 4 = #[.int .u8 (Cr.byt n 0 : Nat), .int .u8 (Cr.byt n 1 : Nat), .int .u8 (Cr.byt n 2 : Nat), .int .u8 (Cr.byt n 3 : Nat)] := rfl

/-- A call that answers an array of the four bytes of a number, and turns nothing that was there. -/
def IsFour (n : Nat) (w : World) (e : Ending) (w' : World) : Prop :=
  e = .returned (.agg #[.int .u8 (Cr.byt n 0 : Nat), .int .u8 (Cr.byt n 1 : Nat), .int .u8 (Cr.byt n 2 : Nat), .int .u8 (Cr.byt n 3 : Nat)]) ∧ Below w.heap.size w w'

end Go.Proofs.Ytglkhgchbnkekaa
namespace Go.Proofs.Ytglkhgchbnkekaa
open Go.RowKit
set_option linter.unusedVariables false

/-- What fits into a byte. -/
def U8 (x : Nat) : Prop := x < 256
def yK : El Try.prog Nat where
  e := 5
  s := 27
  size := 1
  bytes := 1
  zero := .int .u8 0
  z := 0
  enc := fun x => [.int .u8 (x : Nat)]
  ok := U8
  len := fun _ => rfl
  one := fun x u hu => by simp at hu; subst hu; rfl
  okz := by unfold U8; omega
  encz := rfl
  pos := by decide
  under := Try.underlying27
  info := by kernel_rfl

section
variable {w : World} {base B n c : Nat} {A : Option Addr} {l : List Nat}
theorem Lv.byte_ (h : Lv yK w B (.slice A n c) l) {k : Nat} (hk : k < l.length) :
    ∃ b off x, A = some ⟨b, off, none⟩ ∧ b < B ∧ U8 x ∧ l[k]? = some x ∧ w.cell? ⟨b, off + k, none⟩ = some (.int .u8 (x : Nat)) := by
  obtain ⟨b, off, x, h1, h2, h3, h4, h5⟩ := h.at_ hk
  have h6 := h5 0 (.int .u8 (x : Nat)) rfl
  refine ⟨b, off, x, h1, h2, h3, h4, ?_⟩
  have e : off + (k * yK.size + 0) = off + k := by show off + (k * 1 + 0) = _; omega
  rw [e] at h6
  exact h6
theorem OwnL.byte_ (h : OwnL yK w base (.slice A n c) l) {k : Nat} (hk : k < l.length) :
    ∃ g x, A = some ⟨g, 0, none⟩ ∧ n = l.length ∧ base ≤ g ∧ U8 x ∧ l[k]? = some x ∧ w.cell? ⟨g, k, none⟩ = some (.int .u8 (x : Nat)) ∧ w.frozen? ⟨g, k, none⟩ = false := by
  obtain ⟨g, x, h1, h2, h3, h4, h5, h6, h7⟩ := h.at_ hk
  have h8 := h6 0 (.int .u8 (x : Nat)) rfl
  refine ⟨g, x, h1, h2, h3, h4, h5, ?_, h7 k⟩
  have e : k * yK.size + 0 = k := by show k * 1 + 0 = _; omega
  rw [e] at h8
  exact h8
theorem OwnL.setByte_ {g : Nat} (h : OwnL yK w base (.slice (some ⟨g, 0, none⟩) n c) l) {j : Nat} (hj : j < l.length) {x : Nat} (hx : U8 x) :
    OwnL yK (w.setCell ⟨g, j, none⟩ (.int .u8 (x : Nat))) base (.slice (some ⟨g, 0, none⟩) n c) (l.set j x) ∧ w.grownBy (w.setCell ⟨g, j, none⟩ (.int .u8 (x : Nat))) (some g) := h.set_ rfl hj hx rfl
end
end Go.Proofs.Ytglkhgchbnkekaa
namespace Go.Proofs.Ytglkhgchbnkekaa
open Go.RowKit
set_option linter.unusedVariables false

/-- The string whose bytes these are. -/
def bstr (l : List Nat) : ByteArray := ⟨(l.map UInt8.ofNat).toArray⟩
theorem foldl_push (l : List Nat) : ∀ r : ByteArray, (l.map Int.ofNat).foldl (fun r n => r.push (UInt8.ofNat n.toNat)) r = ⟨r.data ++ (l.map UInt8.ofNat).toArray⟩ := by
  induction l with
  | nil => intro r; simp
  | cons x l ih =>
    intro r
    rw [List.map_cons, List.foldl_cons, ih]
    simp [ByteArray.push]
theorem bstr_inj {l m : List Nat} (hl : ∀ x ∈ l, x < 256) (hm : ∀ x ∈ m, x < 256) (h : bstr l = bstr m) : l = m := by
  have h1 : (l.map UInt8.ofNat).toArray = (m.map UInt8.ofNat).toArray := congrArg ByteArray.data h
  have h2 : l.map UInt8.ofNat = m.map UInt8.ofNat := by simpa using h1
  clear h h1
  induction l generalizing m with
  | nil => cases m with
    | nil => rfl
    | cons => cases h2
  | cons x l ih => cases m with
    | nil => cases h2
    | cons y m =>
      rw [List.map_cons, List.map_cons] at h2
      injection h2 with h3 h4
      have hx := hl x (by simp)
      have hy := hm y (by simp)
      have e : x = y := by
        have := congrArg UInt8.toNat h3
        simp only [UInt8.toNat_ofNat'] at this
        omega
      rw [e, ih (fun z hz => hl z (by simp [hz])) (fun z hz => hm z (by simp [hz])) h4]
theorem bstr_toList (l : List Nat) : (bstr l).toList = l.map UInt8.ofNat := by rw [ByteArray.toList_eq]; simp [bstr]
/-- Two strings of bytes compared, as the walk has it. -/
theorem bstr_eq {l m : List Nat} (hl : ∀ x ∈ l, x < 256) (hm : ∀ x ∈ m, x < 256) : ((bstr l).toList == m.map UInt8.ofNat) = decide (l = m) := by
  rw [bstr_toList, Bool.eq_iff_iff, beq_iff_eq, decide_eq_true_eq]
  constructor
  · intro h
    refine bstr_inj hl hm ?_
    unfold bstr
    rw [h]
  · intro h; rw [h]
theorem conv_str {w : World} {B n c : Nat} {A : Option Addr} {l : List Nat} (hv : Lv yK w B (.slice A n c) l) (hp : 0 < l.length) :
    (convert 27 9 (.slice A n c)).run Try.prog w = .ok (.string (bstr l)) w := by
  obtain ⟨A', c', e, -, -, -, -, h5⟩ := hv
  obtain ⟨b, off, hA, -, hc⟩ := h5 hp
  simp only [Value.slice.injEq] at e
  obtain ⟨rfl, rfl, rfl⟩ := e
  subst hA
  have h0 := run_convert_bytes_string (P := Try.prog) w 27 9 5 (some ⟨b, off, none⟩) l.length c Try.underlying27 Try.underlying5 Try.underlying9
  rw [h0]
  clear h0
  have hf : ∀ l : List Nat, yK.flat l = (l.map Int.ofNat).map (Value.int .u8) := by
    intro l
    show l.flatMap (fun x : Nat => [Value.int .u8 (x : Nat)]) = _
    induction l with
    | nil => rfl
    | cons x r ih => rw [List.flatMap_cons, ih]; rfl
  have hlen : ((l.map Int.ofNat).map (Value.int .u8)).length = l.length := by simp
  rw [hf] at hc
  have hload := run_loadCells_list (P := Try.prog) (w := w) ⟨b, off, none⟩ ((l.map Int.ofNat).map (Value.int .u8)) (fun j v hj => by have := hc j v hj; by_cases h0 : j = 0 <;> simp_all [Addr.add])
  rw [hlen] at hload
  rw [run_bytesToString w _ _ _ (l.map Int.ofNat) hload, foldl_push]
  simp only [bstr, ByteArray.empty, ByteArray.emptyWithCapacity]
  congr 3
  exact Array.empty_append
end Go.Proofs.Ytglkhgchbnkekaa
