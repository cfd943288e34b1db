/-
  SfMath: Chapter 14: a disk whose power fails, as mathematics: what is sure, rows of acts, what a failure leaves.
  KInt: The kind of elements int: slices of int.
  KDeed: The kind of elements stooklaw14.Op: slices of deeds for a disk, with their bytes.
-/
import Derived.Test.YtmcbjcbnckpfkaaGreatPt01
import Derived.Test.YtmcbjcbnckpfkaaGreatProg
import Derived.Test.YtmcbjcbnckpfkaaGreatPt04
import Derived.Test.YtmcbjcbnckpfkaaGreatPt03
namespace Go.Proofs.YtmcbjcbnckpfkaaGreat.Sf
open Go.RowKit
set_option linter.unusedVariables false

/-- An act of a file: bytes from a place on; cut: only so many are left. -/
structure Act where
  cut : Bool
  at_ : Nat
  b : List Nat
/-- What is sure of a file, and its row. -/
structure File where
  sure : List Nat
  row : List Act
abbrev Dir := List (ByteArray × Nat)
structure St where
  room : Nat
  files : List File
  sure : Dir
  row : List Dir
  seen : Dir
  acts : Nat
  fuse : Nat
  dead : Bool

def noFile : File := ⟨[], []⟩
def done (b : List Nat) (a : Act) : List Nat := if a.cut then b.take a.at_ else b.take a.at_ ++ a.b ++ b.drop (a.at_ + a.b.length)
/-- A file behind the first acts of its row. -/
def bytes (f : File) (k : Nat) : List Nat := (f.row.take k).foldl done f.sure
def now (f : File) : List Nat := f.row.foldl done f.sure
theorem bytes_all (f : File) : bytes f f.row.length = now f := by unfold bytes now; rw [List.take_length]
theorem bytes_zero (f : File) : bytes f 0 = f.sure := rfl
theorem bytes_succ {f : File} {k : Nat} {a : Act} (h : f.row[k]? = some a) : bytes f (k + 1) = done (bytes f k) a := by
  unfold bytes
  rw [List.take_add_one, h]
  simp [List.foldl_append]

def find (d : Dir) (s : ByteArray) : Option Nat := (d.find? (fun e => decide (e.1 = s))).map (·.2)
def without (d : Dir) (s : ByteArray) : Dir := d.filter (fun e => decide (e.1 ≠ s))
/-- How many names are ahead of one. -/
def ahead (d : Dir) (s : ByteArray) : Nat := (d.takeWhile (fun e => Op.bytesLess e.1.toList s.toList)).length
def with_ (d : Dir) (s : ByteArray) (n : Nat) : Dir := d.take (ahead d s) ++ (s, n) :: d.drop (ahead d s)

def okChar (c : UInt8) : Bool := (decide (97 ≤ c.toNat) && decide (c.toNat ≤ 122)) || (decide (48 ≤ c.toNat) && decide (c.toNat ≤ 57)) || decide (c.toNat = 46) || decide (c.toNat = 45)
def isName (s : ByteArray) : Bool := s.toList.all okChar && decide (1 ≤ s.size) && decide (s.size ≤ 32)

/-- An act that is done: counted; does the power fail at it? -/
def blown (t : St) : Nat × St :=
  if t.fuse = 0 then (0, { t with acts := t.acts + 1 })
  else if t.fuse = 1 then (13, { t with acts := t.acts + 1, fuse := 0, dead := true })
  else (0, { t with acts := t.acts + 1, fuse := t.fuse - 1 })
def turn (t : St) (d : Dir) : Nat × St := blown { t with seen := d, row := t.row ++ [d] }
def fileAt (t : St) (n : Nat) : File := t.files.getD n noFile
def add (t : St) (n : Nat) (a : Act) : Nat × St := blown { t with files := t.files.set n ⟨(fileAt t n).sure, (fileAt t n).row ++ [a]⟩ }
/-- The number of a file; an error, if the disk is dead, or it is not there. -/
def get (t : St) (s : ByteArray) : Nat × Nat :=
  if t.dead then (0, 13) else match find t.seen s with
    | none => (0, 7)
    | some n => (n, 0)
def len (t : St) (n : Nat) : Nat := (now (fileAt t n)).length
def lens (t : St) (d : Dir) : Nat := (d.map fun e => len t e.2).sum
def used (t : St) : Nat := if t.dead then 0 else lens t t.seen

def new (room : Nat) : St := ⟨room, [], [], [], [], 0, 0, false⟩
def create (t : St) (s : ByteArray) : Nat × St :=
  if t.dead then (13, t) else if isName s = false then (2, t) else if (find t.seen s).isSome then (8, t) else if 64 ≤ t.seen.length then (3, t)
  else turn { t with files := t.files ++ [noFile] } (with_ t.seen s t.files.length)
def append (t : St) (s : ByteArray) (b : List Nat) : Nat × St :=
  if (get t s).2 ≠ 0 then ((get t s).2, t)
  else if 0 < b.length ∧ t.room < used t + b.length then (9, t)
  else add t (get t s).1 ⟨false, len t (get t s).1, b⟩
def write (t : St) (s : ByteArray) (a : Int) (b : List Nat) : Nat × St :=
  if (get t s).2 ≠ 0 then ((get t s).2, t)
  else if a < 0 ∨ (len t (get t s).1 : Int) < a then (2, t)
  else if len t (get t s).1 < a.toNat + b.length ∧ t.room < used t + (a.toNat + b.length - len t (get t s).1) then (9, t)
  else add t (get t s).1 ⟨false, a.toNat, b⟩
def cut (t : St) (s : ByteArray) (a : Int) : Nat × St :=
  if (get t s).2 ≠ 0 then ((get t s).2, t)
  else if a < 0 ∨ (len t (get t s).1 : Int) < a then (2, t)
  else add t (get t s).1 ⟨true, a.toNat, []⟩
def rename (t : St) (s u : ByteArray) : Nat × St :=
  if (get t s).2 ≠ 0 then ((get t s).2, t)
  else if isName u = false then (2, t)
  else turn t (with_ (without (without t.seen s) u) u (get t s).1)
def remove (t : St) (s : ByteArray) : Nat × St :=
  if (get t s).2 ≠ 0 then ((get t s).2, t) else turn t (without t.seen s)
def sync (t : St) (s : ByteArray) : Nat × St :=
  if (get t s).2 ≠ 0 then ((get t s).2, t)
  else if (blown t).1 ≠ 0 then blown t
  else (0, { (blown t).2 with files := t.files.set (get t s).1 ⟨now (fileAt t (get t s).1), []⟩ })
def syncDir (t : St) : Nat × St :=
  if t.dead then (13, t)
  else if (blown t).1 ≠ 0 then blown t
  else (0, { (blown t).2 with sure := t.seen, row := [] })
def arm (t : St) (n : Int) : Nat × St :=
  if t.dead then (13, t) else if n < 0 then (2, t) else (0, { t with fuse := n.toNat })
def read (t : St) (s : ByteArray) (a n : Int) : List Nat × Nat :=
  if (get t s).2 ≠ 0 then ([], (get t s).2)
  else if a < 0 ∨ (len t (get t s).1 : Int) < a ∨ n < 0 then ([], 2)
  else (((now (fileAt t (get t s).1)).drop a.toNat).take n.toNat, 0)
def size (t : St) (s : ByteArray) : Nat × Nat :=
  if (get t s).2 ≠ 0 then (0, (get t s).2) else (len t (get t s).1, 0)
def names (t : St) : List ByteArray := if t.dead then [] else t.seen.map (·.1)
def roomOf (t : St) : Nat := if t.dead then 0 else t.room

/-- A deed. -/
structure Op where
  call : Nat
  name : ByteArray
  to : ByteArray
  at_ : Int
  b : List Nat
def doOp (t : St) (o : Op) : Nat × St :=
  if o.call = 0 then create t o.name else if o.call = 1 then append t o.name o.b else if o.call = 2 then write t o.name o.at_ o.b
  else if o.call = 3 then cut t o.name o.at_ else if o.call = 4 then rename t o.name o.to else if o.call = 5 then remove t o.name
  else if o.call = 6 then sync t o.name else if o.call = 7 then syncDir t else if o.call = 8 then arm t o.at_ else (0, t)
def doAll (t : St) (l : List Op) : St := l.foldl (fun t o => (doOp t o).2) t
theorem doAll_more {t : St} {l : List Op} {k : Nat} {o : Op} (h : l[k]? = some o) : doAll t (l.take (k + 1)) = (doOp (doAll t (l.take k)) o).2 := by
  unfold doAll
  rw [List.take_add_one, h]
  simp [List.foldl_append]

/-! ### What a failure leaves -/
/-- What is left of a number, as one without a sign, divided by that. -/
def left (x : Int) (many : Nat) : Nat := (x % 18446744073709551616).toNat % many
def took (l : List Int) (many : Nat) : Nat := match l with
  | [] => 0
  | x :: _ => left x many
/-- A file behind the first bytes of one more act. -/
def torn (b : List Nat) (a : Act) (n : Nat) : List Nat :=
  let e := if a.at_ + n < b.length then (a.at_ + n) / 512 * 512 else a.at_ + n
  if e ≤ a.at_ then b else done b ⟨false, a.at_, a.b.take (e - a.at_)⟩
/-- What is left of a file, and of the numbers. -/
def kept1 (f : File) (l : List Int) : List Nat × List Int :=
  match f.row[took l (f.row.length + 1)]? with
  | some a => if a.cut then (bytes f (took l (f.row.length + 1)), l.drop 1)
    else (torn (bytes f (took l (f.row.length + 1))) a (took (l.drop 1) (a.b.length + 1)), l.drop 2)
  | none => (bytes f (took l (f.row.length + 1)), l.drop 1)
def kept (t : St) : Dir → List Int → List (List Nat)
  | [], _ => []
  | e :: d, l => (kept1 (fileAt t e.2) l).1 :: kept t d (kept1 (fileAt t e.2) l).2
/-- The numbers that are left behind the files of a directory. -/
def rest (t : St) : Dir → List Int → List Int
  | [], l => l
  | e :: d, l => rest t d (kept1 (fileAt t e.2) l).2
/-- The directory that a failure leaves. -/
def dirAt (t : St) (k : Nat) : Dir := if k = 0 then t.sure else t.row.getD (k - 1) []
def dirOf (t : St) (l : List Int) : Dir := dirAt t (took l (t.row.length + 1))
def numbered (d : Dir) : Dir := d.mapIdx (fun i e => (e.1, i))
def fail (t : St) (l : List Int) : St :=
  ⟨t.room, (kept t (dirOf t l) (l.drop 1)).map (fun b => ⟨b, []⟩), numbered (dirOf t l), [], numbered (dirOf t l), 0, 0, false⟩

/-- More than a statement goes through. -/
def bulk (l : List Op) : Nat := (l.map fun o => min o.b.length 20001).sum
def great (l : List Op) : Bool := decide (120 < l.length) || decide (20000 < bulk l)
end Go.Proofs.YtmcbjcbnckpfkaaGreat.Sf
namespace Go.Proofs.YtmcbjcbnckpfkaaGreat
open Go.RowKit
set_option linter.unusedVariables false

/-- What fits into an int. -/
def I64 (x : Int) : Prop := -9223372036854775808 ≤ x ∧ x < 9223372036854775808
def iK : El Tryz.prog Int where
  e := 3
  s := 39
  size := 1
  bytes := 8
  zero := .int .i64 0
  z := 0
  enc := fun x => [.int .i64 x]
  ok := I64
  len := fun _ => rfl
  one := fun x u hu => by simp at hu; subst hu; rfl
  okz := by unfold I64; omega
  encz := rfl
  pos := by decide
  under := Tryz.underlying39
  info := by kernel_rfl

theorem i64_nat {n : Nat} (h : n < 9223372036854775808) : I64 (n : Int) := by unfold I64; omega
theorem i64_wrap {x : Int} (h : I64 x) : IntKind.i64.wrap x = x := by unfold I64 at h; rw [IntKind.wrap_i64]; omega

section
variable {w : World} {base B n c : Nat} {A : Option Addr} {l : List Int}
theorem Lv.int_ (h : Lv iK w B (.slice A n c) l) {k : Nat} (hk : k < l.length) :
    ∃ b off x, A = some ⟨b, off, none⟩ ∧ b < B ∧ I64 x ∧ l[k]? = some x ∧ w.cell? ⟨b, off + k, none⟩ = some (.int .i64 x) := by
  obtain ⟨b, off, x, h1, h2, h3, h4, h5⟩ := h.at_ hk
  have h6 := h5 0 (.int .i64 x) rfl
  refine ⟨b, off, x, h1, h2, h3, h4, ?_⟩
  have e : off + (k * iK.size + 0) = off + k := by show off + (k * 1 + 0) = _; omega
  rw [e] at h6
  exact h6
theorem OwnL.int_ (h : OwnL iK w base (.slice A n c) l) {k : Nat} (hk : k < l.length) :
    ∃ g x, A = some ⟨g, 0, none⟩ ∧ n = l.length ∧ base ≤ g ∧ I64 x ∧ l[k]? = some x ∧ w.cell? ⟨g, k, none⟩ = some (.int .i64 x) ∧ w.frozen? ⟨g, k, none⟩ = false := by
  obtain ⟨g, x, h1, h2, h3, h4, h5, h6, h7⟩ := h.at_ hk
  have h8 := h6 0 (.int .i64 x) rfl
  refine ⟨g, x, h1, h2, h3, h4, h5, ?_, h7 k⟩
  have e : k * iK.size + 0 = k := by show k * 1 + 0 = _; omega
  rw [e] at h8
  exact h8
theorem OwnL.was_ {g : Nat} (h : OwnL iK w base (.slice (some ⟨g, 0, none⟩) n c) l) {k : Nat} (hk : k < l.length) : ∃ x, l[k]? = some x ∧ w.cell? ⟨g, k, none⟩ = some (.int .i64 x) := by
  obtain ⟨g', x, e, _, _, _, h5, h6, _⟩ := h.int_ hk
  injection e with e
  injection e with e
  subst e
  exact ⟨x, h5, h6⟩
theorem OwnL.setInt_ {g : Nat} (h : OwnL iK w base (.slice (some ⟨g, 0, none⟩) n c) l) {j : Nat} (hj : j < l.length) {x : Int} (hx : I64 x) :
    OwnL iK (w.setCell ⟨g, j, none⟩ (.int .i64 x)) base (.slice (some ⟨g, 0, none⟩) n c) (l.set j x) ∧ w.grownBy (w.setCell ⟨g, j, none⟩ (.int .i64 x)) (some g) := h.set_ rfl hj hx rfl
end
end Go.Proofs.YtmcbjcbnckpfkaaGreat
namespace Go.Proofs.YtmcbjcbnckpfkaaGreat
open Go.ChangeShapes Go.WideShapes Go.RowKit Go.Deep
set_option linter.unusedVariables false

/-- A deed as it lies in memory: its bytes are a slice. -/
structure Raw where
  call : Nat
  name : ByteArray
  to : ByteArray
  at_ : Int
  A : Option Addr
  n : Nat
  c : Nat
def RawOk (x : Raw) : Prop := x.call < 256 ∧ x.name.size ≤ maxLen ∧ x.to.size ≤ maxLen ∧ I64 x.at_
def dK : El Tryz.prog Raw where
  e := 35
  s := 22
  size := 5
  bytes := 72
  zero := .agg #[.int .u8 0, .string ByteArray.empty, .string ByteArray.empty, .int .i64 0, .slice none 0 0]
  z := ⟨0, ByteArray.empty, ByteArray.empty, 0, none, 0, 0⟩
  enc := fun x => [.int .u8 (x.call : Nat), .string x.name, .string x.to, .int .i64 x.at_, .slice x.A x.n x.c]
  ok := RawOk
  len := fun _ => rfl
  one := fun x u hu => by simp at hu; rcases hu with rfl | rfl | rfl | rfl | rfl <;> rfl
  okz := by simp [RawOk, I64, maxLen]
  encz := rfl
  pos := by decide
  under := Tryz.underlying22
  info := by kernel_rfl
/-- What a deed in memory stands for. -/
def Deed (w : World) (B : Nat) (x : Raw) (o : Sf.Op) : Prop :=
  o.call = x.call ∧ o.name = x.name ∧ o.to = x.to ∧ o.at_ = x.at_ ∧ Lv yK w B (.slice x.A x.n x.c) o.b
/-- A slice of deeds. -/
def Dv (w : World) (B : Nat) (v : Value) (l : List Sf.Op) : Prop :=
  ∃ us : List Raw, us.length = l.length ∧ Lv dK w B v us ∧ ∀ (j : Nat) (x : Raw) (o : Sf.Op), us[j]? = some x → l[j]? = some o → Deed w B x o
def deedC (x : Raw) : Array Value := #[.int .u8 (x.call : Nat), .string x.name, .string x.to, .int .i64 x.at_, .slice x.A x.n x.c]
section
variable {w w' : World} {B : Nat} {v : Value} {l : List Sf.Op}
theorem Deed.below_ {x : Raw} {o : Sf.Op} (h : Deed w B x o) {B' : Nat} (hb : Below B' w w') (hB : B ≤ B') : Deed w' B x o := ⟨h.1, h.2.1, h.2.2.1, h.2.2.2.1, h.2.2.2.2.below_ hb hB⟩
theorem Dv.below_ (h : Dv w B v l) {B' : Nat} (hb : Below B' w w') (hB : B ≤ B') : Dv w' B v l := by
  obtain ⟨us, h1, h2, h3⟩ := h
  exact ⟨us, h1, h2.below_ hb hB, fun j x o hx ho => (h3 j x o hx ho).below_ hb hB⟩
theorem Deed.mono_ {x : Raw} {o : Sf.Op} (h : Deed w B x o) {B' : Nat} (hB : B ≤ B') : Deed w B' x o := ⟨h.1, h.2.1, h.2.2.1, h.2.2.2.1, h.2.2.2.2.mono_ hB⟩
theorem Dv.mono_ (h : Dv w B v l) {B' : Nat} (hB : B ≤ B') : Dv w B' v l := by
  obtain ⟨us, h1, h2, h3⟩ := h
  exact ⟨us, h1, h2.mono_ hB, fun j x o hx ho => (h3 j x o hx ho).mono_ hB⟩
theorem Dv.len_ {A : Option Addr} {n c : Nat} (h : Dv w B (.slice A n c) l) : n = l.length := by
  obtain ⟨us, h1, h2, _⟩ := h
  rw [h2.len_.1, h1]
/-- Deed k, whose cells these are. -/
theorem Dv.at_ {A : Option Addr} {n c : Nat} (h : Dv w B (.slice A n c) l) {k : Nat} (hk : k < l.length) :
    ∃ b off x o, A = some ⟨b, off, none⟩ ∧ b < B ∧ RawOk x ∧ l[k]? = some o ∧ Deed w B x o ∧ w.rangeAt b (off + k * 5) (deedC x).toList := by
  obtain ⟨us, h1, h2, h3⟩ := h
  obtain ⟨b, off, x, hA, hb, hx, hq, hm⟩ := h2.mid_ (k := k) (by omega)
  exact ⟨b, off, x, l[k], hA, hb, hx, List.getElem?_eq_getElem hk, h3 k x _ hq (List.getElem?_eq_getElem hk), hm⟩
/-- The bytes of deed k. -/
theorem Dv.row_ {A : Option Addr} {n c : Nat} (h : Dv w B (.slice A n c) l) {k : Nat} (hk : k < l.length) :
    ∃ b off x o, A = some ⟨b, off, none⟩ ∧ b < B ∧ l[k]? = some o ∧ Deed w B x o ∧ x.n = o.b.length ∧ o.b.length ≤ maxLen ∧ w.cell? ⟨b, off + k * 5 + 4, none⟩ = some (.slice x.A x.n x.c) := by
  obtain ⟨b, off, x, o, hA, hb, _, hq, hd, hm⟩ := h.at_ hk
  have h5 := hd.2.2.2.2.len_
  exact ⟨b, off, x, o, hA, hb, hq, hd, h5.1, by omega, hm 4 _ rfl⟩
end

/-- An argument that is a slice of whatever elements, opened as a list of which something is known besides. -/
theorem lv_open2 {H : Type} {enc : TypeId × Value → H} {P : Program} {w : World} {base : Nat} {spare : Nat → Bool} {held : Bool} {α : Type} (K : El P α) (Q : α → Prop) (inj : ∀ a b, K.enc a = K.enc b → a = b) (hce : P.cellsOf K.e = K.size)
    (dec : ∀ (fuel : Nat) (cs : List Value) (x : DataW H × List MemPlace), DataW.trod enc P w base spare held fuel K.e cs = some x → ∃ a, K.ok a ∧ Q a ∧ cs = K.enc a)
    {fuel : Nat} {a : Option Addr} {len cap : Nat} {x : DataW H × List MemPlace} (h : DataW.trod enc P w base spare held fuel K.s [.slice a len cap] = some x) :
    ∃ l : List α, l.length = len ∧ Lv K w w.heap.size (.slice a len cap) l ∧ ∀ y ∈ l, Q y := by
  have h' := h
  obtain ⟨l, h1, h2⟩ := lv_open K hce (fun fuel cs x h => (dec fuel cs x h).imp fun a h => ⟨h.1, h.2.2⟩) h
  rcases open_slice K.under h' with ⟨h0, _⟩ | ⟨ad, len', cap', m, n, D, Pl, h0, _, hl, hm, hmm, _, hx⟩
  · simp at h0
    obtain ⟨rfl, rfl, rfl⟩ := h0
    obtain rfl := List.eq_nil_of_length_eq_zero h1
    exact ⟨[], rfl, h2, by simp⟩
  · simp at h0
    obtain ⟨rfl, rfl, rfl⟩ := h0
    have hlm : len ≤ m := by rw [hmm]; split <;> omega
    refine ⟨l, h1, h2, fun y hy => ?_⟩
    obtain ⟨i, hi⟩ := List.getElem?_of_mem hy
    have hil := (List.getElem?_eq_some_iff.1 hi).1
    obtain ⟨cs', c1, c2⟩ := hx i (by omega)
    obtain ⟨z, _, hz, rfl⟩ := dec _ _ _ c2
    rw [hce] at c1
    obtain ⟨_, _, hcell⟩ := World.cells?_some c1
    obtain ⟨b, off, y', e, _, _, hy', hc⟩ := h2.at_ hil
    injection e with e
    subst e
    rw [hi] at hy'
    obtain rfl := Option.some.inj hy'
    have he : K.enc y = K.enc z := by
      apply List.ext_getElem?
      intro j
      by_cases hj : j < K.size
      · have h3 := hcell j hj
        simp only [add_addr] at h3
        have hjy : j < (K.enc y).length := by rw [K.len]; exact hj
        have h4 := hc j _ (List.getElem?_eq_getElem hjy)
        rw [← Nat.add_assoc] at h4
        rw [List.getElem?_eq_getElem hjy, ← h4, ← h3]
      · rw [List.getElem?_eq_none (by rw [K.len]; omega), List.getElem?_eq_none (by rw [K.len]; omega)]
    rw [inj y z he]
    exact hz
theorem raw_inj (a b : Raw) (h : dK.enc a = dK.enc b) : a = b := by
  obtain ⟨a1, a2, a3, a4, a5, a6, a7⟩ := a
  obtain ⟨b1, b2, b3, b4, b5, b6, b7⟩ := b
  simp only [dK, List.cons.injEq, Value.int.injEq, Value.string.injEq, Value.slice.injEq, and_true, true_and] at h
  obtain ⟨h1, h2, h3, h4, h5, h6, h7⟩ := h
  obtain rfl := Int.ofNat.inj h1
  subst h2 h3 h4 h5 h6 h7
  rfl
theorem deed_dec {H : Type} {enc : TypeId × Value → H} {w : World} {sp : Nat → Bool} {held : Bool} {fuel : Nat} {cs : List Value} {x : DataW H × List MemPlace} (h : DataW.trod enc Tryz.prog w 0 sp held fuel 35 cs = some x) :
    ∃ a, RawOk a ∧ (∃ o, Deed w w.heap.size a o) ∧ cs = dK.enc a := by
  obtain ⟨hl, hf⟩ := dec_fields Tryz.underlying35 (by kernel_rfl) (by kernel_rfl) h
  obtain ⟨n0, v0, y0, h0, g0⟩ := hf 0 _ rfl
  obtain ⟨n1, v1, y1, h1, g1⟩ := hf 1 _ rfl
  obtain ⟨n2, v2, y2, h2, g2⟩ := hf 2 _ rfl
  obtain ⟨n3, v3, y3, h3, g3⟩ := hf 3 _ rfl
  obtain ⟨n4, v4, y4, h4, g4⟩ := hf 4 _ rfl
  obtain ⟨a0, rfl, w0⟩ := dec_int Tryz.underlying5 g0
  obtain ⟨a1, u1, _, w1⟩ := DataW.trod_string Tryz.underlying9 g1
  obtain rfl := List.singleton_inj.1 u1
  obtain ⟨a2, u2, _, w2⟩ := DataW.trod_string Tryz.underlying9 g2
  obtain rfl := List.singleton_inj.1 u2
  obtain ⟨a3, rfl, w3⟩ := dec_int Tryz.underlying3 g3
  have b0 := bounds_u8 w0
  have b3 := bounds_i64 w3
  obtain ⟨t0, rfl⟩ := Int.eq_ofNat_of_zero_le b0.1
  have h5 : ∃ A n c, v4 = .slice A n c := by
    rcases open_slice Tryz.underlying33 g4 with ⟨h0, _⟩ | ⟨ad, len', cap', m, n, D, Pl, h0, _⟩
    · simp at h0; exact ⟨_, _, _, h0⟩
    · simp at h0; exact ⟨_, _, _, h0⟩
  obtain ⟨A, n, c, rfl⟩ := h5
  obtain ⟨b, _, hb⟩ := octs_in g4
  refine ⟨⟨t0, a1, a2, a3, A, n, c⟩, ⟨by show t0 < 256; omega, w1, w2, by show I64 a3; unfold I64; omega⟩, ⟨⟨t0, a1, a2, a3, b⟩, rfl, rfl, rfl, rfl, hb⟩, ?_⟩
  have hl2 : cs.length = 5 := hl
  match cs, hl2 with
  | [c0, c1, c2, c3, c4], _ =>
    simp at h0 h1 h2 h3 h4
    rw [h0, h1, h2, h3, h4]
    rfl
theorem deeds_in {H : Type} {enc : TypeId × Value → H} {w : World} {sp : Nat → Bool} {held : Bool} {fuel : Nat} {a : Option Addr} {len cap : Nat} {x : DataW H × List MemPlace} (h : DataW.trod enc Tryz.prog w 0 sp held fuel 22 [.slice a len cap] = some x) :
    ∃ l : List Sf.Op, l.length = len ∧ Dv w w.heap.size (.slice a len cap) l := by
  obtain ⟨us, h1, h2, h3⟩ := lv_open2 dK (fun x => ∃ o, Deed w w.heap.size x o) raw_inj (by kernel_rfl) (fun fuel cs x h => deed_dec h) h
  haveI : Inhabited Sf.Op := ⟨⟨0, ByteArray.empty, ByteArray.empty, 0, []⟩⟩
  obtain ⟨f, hf⟩ := choose_lt (α := Sf.Op) (n := len) (p := fun i o => ∀ x, us[i]? = some x → Deed w w.heap.size x o) (fun i hi => by
    obtain ⟨o, ho⟩ := h3 us[i] (List.getElem_mem (by omega))
    exact ⟨o, fun x hx => by rw [List.getElem?_eq_getElem (by omega)] at hx; obtain rfl := Option.some.inj hx; exact ho⟩)
  refine ⟨(List.range len).map f, by simp, us, by simp [h1], h2, fun j x o hx ho => ?_⟩
  have hj : j < len := by have := (List.getElem?_eq_some_iff.1 hx).1; omega
  rw [List.getElem?_map, List.getElem?_range hj] at ho
  obtain rfl := Option.some.inj ho
  exact hf j hj x hx
end Go.Proofs.YtmcbjcbnckpfkaaGreat
