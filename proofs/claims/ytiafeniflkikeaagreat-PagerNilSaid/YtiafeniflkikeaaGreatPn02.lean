/- Parts of the proof. -/
import Derived.Test.YtiafeniflkikeaaGreatPn01
import Derived.Test.YtiafeniflkikeaaGreatProg
import Derived.Laws.BytesString
import Derived.Laws.Cells
import Derived.WalkKit
import Derived.Below
import Derived.Laws.CopyOwn
import Derived.Lib.Hide
namespace Go.Proofs.YtiafeniflkikeaaGreat
open Go.RowKit
set_option linter.unusedVariables false
def U8 (x : Nat) : Prop := x < 256
def yK : El Tryz.prog Nat where
 e := 5
 s := 40
 size := 1
 bytes := 1
 zero := .int .u8 0
 z := 0
 enc := fun x => [.int .u8 (x : Nat)]
 ok := U8
 len := fun _ => rfl
 one := fun x u hu => by simp at hu; subst hu; rfl
 okz := by unfold U8; omega
 encz := rfl
 pos := by decide
 under := Tryz.underlying40
 info := by kernel_rfl
section
variable {w : World} {base B n c : Nat} {A : Option Addr} {l : List Nat}
end
end Go.Proofs.YtiafeniflkikeaaGreat
namespace Go.Proofs.YtiafeniflkikeaaGreat
open Go.RowKit
set_option linter.unusedVariables false
def bstr (l : List Nat) : ByteArray := ⟨(l.map UInt8.ofNat).toArray⟩
theorem foldl_push (l : List Nat) : ∀ r : ByteArray, (l.map Int.ofNat).foldl (fun r n => r.push (UInt8.ofNat n.toNat)) r = ⟨r.data ++ (l.map UInt8.ofNat).toArray⟩ := by
 induction l with
 | nil => intro r; simp
 | cons x l ih =>
  intro r
  rw [List.map_cons, List.foldl_cons, ih]
  simp [ByteArray.push]
theorem bstr_inj {l m : List Nat} (hl : ∀ x ∈ l, x < 256) (hm : ∀ x ∈ m, x < 256) (h : bstr l = bstr m) : l = m := by
 have h1 : (l.map UInt8.ofNat).toArray = (m.map UInt8.ofNat).toArray := congrArg ByteArray.data h
 have h2 : l.map UInt8.ofNat = m.map UInt8.ofNat := by simpa using h1
 clear h h1
 induction l generalizing m with
 | nil => cases m with
  | nil => rfl
  | cons => cases h2
 | cons x l ih => cases m with
  | nil => cases h2
  | cons y m =>
   rw [List.map_cons, List.map_cons] at h2
   injection h2 with h3 h4
   have hx := hl x (by simp)
   have hy := hm y (by simp)
   have e : x = y := by
    have := congrArg UInt8.toNat h3
    simp only [UInt8.toNat_ofNat'] at this
    omega
   rw [e, ih (fun z hz => hl z (by simp [hz])) (fun z hz => hm z (by simp [hz])) h4]
theorem bstr_toList (l : List Nat) : (bstr l).toList = l.map UInt8.ofNat := by rw [ByteArray.toList_eq]; simp [bstr]
theorem bstr_eq {l m : List Nat} (hl : ∀ x ∈ l, x < 256) (hm : ∀ x ∈ m, x < 256) : ((bstr l).toList == m.map UInt8.ofNat) = decide (l = m) := by
 rw [bstr_toList, Bool.eq_iff_iff, beq_iff_eq, decide_eq_true_eq]
 constructor
 ·intro h
  refine bstr_inj hl hm ?_
  unfold bstr
  rw [h]
 ·intro h; rw [h]
theorem conv_str {w : World} {B n c : Nat} {A : Option Addr} {l : List Nat} (hv : Lv yK w B (.slice A n c) l) (hp : 0 < l.length) :
  (convert 40 9 (.slice A n c)).run Tryz.prog w = .ok (.string (bstr l)) w := by
 obtain ⟨A', c', e, -, -, -, -, h5⟩ := hv
 obtain ⟨b, off, hA, -, hc⟩ := h5 hp
 simp only [Value.slice.injEq] at e
 obtain ⟨rfl, rfl, rfl⟩ := e
 subst hA
 have h0 := run_convert_bytes_string (P := Tryz.prog) w 40 9 5 (some ⟨b, off, none⟩) l.length c Tryz.underlying40 Tryz.underlying5 Tryz.underlying9
 rw [h0]
 clear h0
 have hf : ∀ l : List Nat, yK.flat l = (l.map Int.ofNat).map (Value.int .u8) := by
  intro l
  show l.flatMap (fun x : Nat => [Value.int .u8 (x : Nat)]) = _
  induction l with
  | nil => rfl
  | cons x r ih => rw [List.flatMap_cons, ih]; rfl
 have hlen : ((l.map Int.ofNat).map (Value.int .u8)).length = l.length := by simp
 rw [hf] at hc
 have hload := run_loadCells_list (P := Tryz.prog) (w := w) ⟨b, off, none⟩ ((l.map Int.ofNat).map (Value.int .u8)) (fun j v hj => by have := hc j v hj; by_cases h0 : j = 0 <;> simp_all [Addr.add])
 rw [hlen] at hload
 rw [run_bytesToString w _ _ _ (l.map Int.ofNat) hload, foldl_push]
 simp only [bstr, ByteArray.empty, ByteArray.emptyWithCapacity]
 congr 3
 exact Array.empty_append
end Go.Proofs.YtiafeniflkikeaaGreat
namespace Go.Proofs.YtiafeniflkikeaaGreat
open Go.RowKit
set_option linter.unusedVariables false
theorem bstr_eq2 {l m : List Nat} (hl : ∀ x ∈ l, x < 256) (hm : ∀ x ∈ m, x < 256) : ((bstr l).toList == (bstr m).toList) = decide (l = m) := by
 rw [bstr_toList m]; exact bstr_eq hl hm
set_option maxHeartbeats 1000000 in
theorem pbequal_any (u v : Value) (la lb : List Nat) (B : Nat) (w : World) (hu : Lv yK w B u la) (hv : Lv yK w B v lb) (h1 : 0 < la.length) (h2 : 0 < lb.length) :
  Calls Tryz.prog 111 #[u, v] w (fun e w' => e = .returned (.bool (decide (la = lb))) ∧ w' = w) := by
 have k3 := bstr_eq2 (l := la) (m := lb) hu.ok_ hv.ok_
 obtain ⟨A, c, rfl, -, -, -, -, -⟩ := id hu
 obtain ⟨A', c', rfl, -, -, -, -, -⟩ := id hv
 have k1 := conv_str hu h1
 have k2 := conv_str hv h2
 clear hu hv h1 h2
 go_enter Tryz.func111, Tryz.ntmps111
 go_wp2
 go_ret
 exact ⟨rfl, rfl⟩
end Go.Proofs.YtiafeniflkikeaaGreat
namespace Go.Proofs.YtiafeniflkikeaaGreat
open Go.RowKit
set_option linter.unusedVariables false
def Rw (w : World) (g : Nat) (t : TypeId) (c : Array Value) : Prop := w.heap[g]? = some (.cells c t (0, 0))
section
variable {w w' : World} {g k : Nat} {t : TypeId} {c : Array Value} {v : Value}
theorem Rw.lt (h : Rw w g t c) : g < w.heap.size := (Array.getElem?_eq_some_iff.1 h).1
theorem Rw.cell (h : Rw w g t c) (k : Nat) : w.cell? ⟨g, k, none⟩ = c[k]? := cell_of_row w g k c t (0, 0) h
theorem Rw.frozen (h : Rw w g t c) (k : Nat) : w.frozen? ⟨g, k, none⟩ = false := by
 have h' : w.heap[g]? = some (.cells c t (0, 0)) := h
 simp [World.frozen?, h']
theorem Rw.below (h : Rw w g t c) {B : Nat} (hb : Below B w w') (hB : g < B) : Rw w' g t c := (hb.block g hB).trans h
theorem Rw.drew (h : Rw w g t c) : Rw w.drew g t c := h
theorem Rw.new (w : World) (t : TypeId) (c : Array Value) : Rw (w.alloc (.cells c t)) w.heap.size t c := heap_alloc_new w _
theorem Rw.at_ {n : Nat} (h : n = w.heap.size) (t : TypeId) (c : Array Value) : Rw (w.alloc (.cells c t)) n t c := by subst h; exact Rw.new w t c
theorem Rw.old (h : Rw w g t c) (o : Obj) : Rw (w.alloc o) g t c := by
 show (w.heap.push o)[g]? = _
 have := h.lt
 rw [Array.getElem?_push, if_neg (by omega)]
 exact h
theorem Rw.set (h : Rw w g t c) (k : Nat) (v : Value) : Rw (w.setCell ⟨g, k, none⟩ v) g t (c.setIfInBounds k v) := by
 unfold Rw
 rw [setCell_eq_setRow w g k c t (0, 0) v h]
 exact setRow_heap w g c _ t (0, 0) h
theorem Rw.setOther (h : Rw w g t c) {g' : Nat} (hg : g ≠ g') (k : Nat) (v : Value) : Rw (w.setCell ⟨g', k, none⟩ v) g t c := by
 unfold Rw World.setCell at *
 simp only [Array.getElem?_modify, Ne.symm hg, if_false]
 exact h
theorem Rw.row (h : Rw w g t c) (c' : Array Value) : Rw (w.setRow g c') g t c' := setRow_heap w g c c' t (0, 0) h
theorem Rw.rowOther (h : Rw w g t c) {g' : Nat} (hg : g ≠ g') (c' : Array Value) : Rw (w.setRow g' c') g t c := (setRow_other w g' g c' hg).trans h
end
end Go.Proofs.YtiafeniflkikeaaGreat
