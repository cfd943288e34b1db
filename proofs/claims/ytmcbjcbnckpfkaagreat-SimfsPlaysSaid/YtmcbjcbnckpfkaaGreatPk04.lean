/-
  FrameB: From what a row says of a slice of bytes to a list (Lv yK).
  SfMath: Chapter 14: a disk whose power fails, as mathematics: what is sure, rows of acts, what a failure leaves.
  KInt: The kind of elements int: slices of int.
-/
import Derived.Test.YtmcbjcbnckpfkaaGreatPk03
import Derived.Test.YtmcbjcbnckpfkaaGreatPk01
import Derived.Test.YtmcbjcbnckpfkaaGreatProg
namespace Go.Proofs.YtmcbjcbnckpfkaaGreat
open Go.ChangeShapes Go.WideShapes Go.RowKit
set_option linter.unusedVariables false

theorem octs_in {H : Type} {enc : TypeId × Value → H} {w : World} {sp : Nat → Bool} {held : Bool} {fuel : Nat} {a : Option Addr} {len cap : Nat} {x : DataW H × List MemPlace} (h : DataW.trod enc Tryz.prog w 0 sp held fuel 33 [.slice a len cap] = some x) :
    ∃ l : List Nat, l.length = len ∧ Lv yK w w.heap.size (.slice a len cap) l :=
  lv_open yK (by kernel_rfl) (fun fuel cs x h => by
    obtain ⟨n, rfl, _, hw⟩ := DataW.trod_int Tryz.underlying5 h
    have hb := bounds_u8 hw
    obtain ⟨t, rfl⟩ := Int.eq_ofNat_of_zero_le hb.1
    exact ⟨t, (by show _ < _; omega), rfl⟩) h
end Go.Proofs.YtmcbjcbnckpfkaaGreat
namespace Go.Proofs.YtmcbjcbnckpfkaaGreat.Sf
open Go.RowKit
set_option linter.unusedVariables false

/-- An act of a file: bytes from a place on; cut: only so many are left. -/
structure Act where
  cut : Bool
  at_ : Nat
  b : List Nat
/-- What is sure of a file, and its row. -/
structure File where
  sure : List Nat
  row : List Act
abbrev Dir := List (ByteArray × Nat)
structure St where
  room : Nat
  files : List File
  sure : Dir
  row : List Dir
  seen : Dir
  acts : Nat
  fuse : Nat
  dead : Bool

def noFile : File := ⟨[], []⟩
def done (b : List Nat) (a : Act) : List Nat := if a.cut then b.take a.at_ else b.take a.at_ ++ a.b ++ b.drop (a.at_ + a.b.length)
/-- A file behind the first acts of its row. -/
def bytes (f : File) (k : Nat) : List Nat := (f.row.take k).foldl done f.sure
def now (f : File) : List Nat := f.row.foldl done f.sure
theorem bytes_all (f : File) : bytes f f.row.length = now f := by unfold bytes now; rw [List.take_length]
theorem bytes_zero (f : File) : bytes f 0 = f.sure := rfl
theorem bytes_succ {f : File} {k : Nat} {a : Act} (h : f.row[k]? = some a) : bytes f (k + 1) = done (bytes f k) a := by
  unfold bytes
  rw [List.take_add_one, h]
  simp [List.foldl_append]

def find (d : Dir) (s : ByteArray) : Option Nat := (d.find? (fun e => decide (e.1 = s))).map (·.2)
def without (d : Dir) (s : ByteArray) : Dir := d.filter (fun e => decide (e.1 ≠ s))
/-- How many names are ahead of one. -/
def ahead (d : Dir) (s : ByteArray) : Nat := (d.takeWhile (fun e => Op.bytesLess e.1.toList s.toList)).length
def with_ (d : Dir) (s : ByteArray) (n : Nat) : Dir := d.take (ahead d s) ++ (s, n) :: d.drop (ahead d s)

def okChar (c : UInt8) : Bool := (decide (97 ≤ c.toNat) && decide (c.toNat ≤ 122)) || (decide (48 ≤ c.toNat) && decide (c.toNat ≤ 57)) || decide (c.toNat = 46) || decide (c.toNat = 45)
def isName (s : ByteArray) : Bool := s.toList.all okChar && decide (1 ≤ s.size) && decide (s.size ≤ 32)

/-- An act that is done: counted; does the power fail at it? -/
def blown (t : St) : Nat × St :=
  if t.fuse = 0 then (0, { t with acts := t.acts + 1 })
  else if t.fuse = 1 then (13, { t with acts := t.acts + 1, fuse := 0, dead := true })
  else (0, { t with acts := t.acts + 1, fuse := t.fuse - 1 })
def turn (t : St) (d : Dir) : Nat × St := blown { t with seen := d, row := t.row ++ [d] }
def fileAt (t : St) (n : Nat) : File := t.files.getD n noFile
def add (t : St) (n : Nat) (a : Act) : Nat × St := blown { t with files := t.files.set n ⟨(fileAt t n).sure, (fileAt t n).row ++ [a]⟩ }
/-- The number of a file; an error, if the disk is dead, or it is not there. -/
def get (t : St) (s : ByteArray) : Nat × Nat :=
  if t.dead then (0, 13) else match find t.seen s with
    | none => (0, 7)
    | some n => (n, 0)
def len (t : St) (n : Nat) : Nat := (now (fileAt t n)).length
def lens (t : St) (d : Dir) : Nat := (d.map fun e => len t e.2).sum
def used (t : St) : Nat := if t.dead then 0 else lens t t.seen

def new (room : Nat) : St := ⟨room, [], [], [], [], 0, 0, false⟩
def create (t : St) (s : ByteArray) : Nat × St :=
  if t.dead then (13, t) else if isName s = false then (2, t) else if (find t.seen s).isSome then (8, t) else if 64 ≤ t.seen.length then (3, t)
  else turn { t with files := t.files ++ [noFile] } (with_ t.seen s t.files.length)
def append (t : St) (s : ByteArray) (b : List Nat) : Nat × St :=
  if (get t s).2 ≠ 0 then ((get t s).2, t)
  else if 0 < b.length ∧ t.room < used t + b.length then (9, t)
  else add t (get t s).1 ⟨false, len t (get t s).1, b⟩
def write (t : St) (s : ByteArray) (a : Int) (b : List Nat) : Nat × St :=
  if (get t s).2 ≠ 0 then ((get t s).2, t)
  else if a < 0 ∨ (len t (get t s).1 : Int) < a then (2, t)
  else if len t (get t s).1 < a.toNat + b.length ∧ t.room < used t + (a.toNat + b.length - len t (get t s).1) then (9, t)
  else add t (get t s).1 ⟨false, a.toNat, b⟩
def cut (t : St) (s : ByteArray) (a : Int) : Nat × St :=
  if (get t s).2 ≠ 0 then ((get t s).2, t)
  else if a < 0 ∨ (len t (get t s).1 : Int) < a then (2, t)
  else add t (get t s).1 ⟨true, a.toNat, []⟩
def rename (t : St) (s u : ByteArray) : Nat × St :=
  if (get t s).2 ≠ 0 then ((get t s).2, t)
  else if isName u = false then (2, t)
  else turn t (with_ (without (without t.seen s) u) u (get t s).1)
def remove (t : St) (s : ByteArray) : Nat × St :=
  if (get t s).2 ≠ 0 then ((get t s).2, t) else turn t (without t.seen s)
def sync (t : St) (s : ByteArray) : Nat × St :=
  if (get t s).2 ≠ 0 then ((get t s).2, t)
  else if (blown t).1 ≠ 0 then blown t
  else (0, { (blown t).2 with files := t.files.set (get t s).1 ⟨now (fileAt t (get t s).1), []⟩ })
def syncDir (t : St) : Nat × St :=
  if t.dead then (13, t)
  else if (blown t).1 ≠ 0 then blown t
  else (0, { (blown t).2 with sure := t.seen, row := [] })
def arm (t : St) (n : Int) : Nat × St :=
  if t.dead then (13, t) else if n < 0 then (2, t) else (0, { t with fuse := n.toNat })
def read (t : St) (s : ByteArray) (a n : Int) : List Nat × Nat :=
  if (get t s).2 ≠ 0 then ([], (get t s).2)
  else if a < 0 ∨ (len t (get t s).1 : Int) < a ∨ n < 0 then ([], 2)
  else (((now (fileAt t (get t s).1)).drop a.toNat).take n.toNat, 0)
def size (t : St) (s : ByteArray) : Nat × Nat :=
  if (get t s).2 ≠ 0 then (0, (get t s).2) else (len t (get t s).1, 0)
def names (t : St) : List ByteArray := if t.dead then [] else t.seen.map (·.1)
def roomOf (t : St) : Nat := if t.dead then 0 else t.room

/-- A deed. -/
structure Op where
  call : Nat
  name : ByteArray
  to : ByteArray
  at_ : Int
  b : List Nat
def doOp (t : St) (o : Op) : Nat × St :=
  if o.call = 0 then create t o.name else if o.call = 1 then append t o.name o.b else if o.call = 2 then write t o.name o.at_ o.b
  else if o.call = 3 then cut t o.name o.at_ else if o.call = 4 then rename t o.name o.to else if o.call = 5 then remove t o.name
  else if o.call = 6 then sync t o.name else if o.call = 7 then syncDir t else if o.call = 8 then arm t o.at_ else (0, t)
def doAll (t : St) (l : List Op) : St := l.foldl (fun t o => (doOp t o).2) t
theorem doAll_more {t : St} {l : List Op} {k : Nat} {o : Op} (h : l[k]? = some o) : doAll t (l.take (k + 1)) = (doOp (doAll t (l.take k)) o).2 := by
  unfold doAll
  rw [List.take_add_one, h]
  simp [List.foldl_append]

/-! ### What a failure leaves -/
/-- What is left of a number, as one without a sign, divided by that. -/
def left (x : Int) (many : Nat) : Nat := (x % 18446744073709551616).toNat % many
def took (l : List Int) (many : Nat) : Nat := match l with
  | [] => 0
  | x :: _ => left x many
/-- A file behind the first bytes of one more act. -/
def torn (b : List Nat) (a : Act) (n : Nat) : List Nat :=
  let e := if a.at_ + n < b.length then (a.at_ + n) / 512 * 512 else a.at_ + n
  if e ≤ a.at_ then b else done b ⟨false, a.at_, a.b.take (e - a.at_)⟩
/-- What is left of a file, and of the numbers. -/
def kept1 (f : File) (l : List Int) : List Nat × List Int :=
  match f.row[took l (f.row.length + 1)]? with
  | some a => if a.cut then (bytes f (took l (f.row.length + 1)), l.drop 1)
    else (torn (bytes f (took l (f.row.length + 1))) a (took (l.drop 1) (a.b.length + 1)), l.drop 2)
  | none => (bytes f (took l (f.row.length + 1)), l.drop 1)
def kept (t : St) : Dir → List Int → List (List Nat)
  | [], _ => []
  | e :: d, l => (kept1 (fileAt t e.2) l).1 :: kept t d (kept1 (fileAt t e.2) l).2
/-- The numbers that are left behind the files of a directory. -/
def rest (t : St) : Dir → List Int → List Int
  | [], l => l
  | e :: d, l => rest t d (kept1 (fileAt t e.2) l).2
/-- The directory that a failure leaves. -/
def dirAt (t : St) (k : Nat) : Dir := if k = 0 then t.sure else t.row.getD (k - 1) []
def dirOf (t : St) (l : List Int) : Dir := dirAt t (took l (t.row.length + 1))
def numbered (d : Dir) : Dir := d.mapIdx (fun i e => (e.1, i))
def fail (t : St) (l : List Int) : St :=
  ⟨t.room, (kept t (dirOf t l) (l.drop 1)).map (fun b => ⟨b, []⟩), numbered (dirOf t l), [], numbered (dirOf t l), 0, 0, false⟩

/-- More than a statement goes through. -/
def bulk (l : List Op) : Nat := (l.map fun o => min o.b.length 20001).sum
def great (l : List Op) : Bool := decide (120 < l.length) || decide (20000 < bulk l)
end Go.Proofs.YtmcbjcbnckpfkaaGreat.Sf
namespace Go.Proofs.YtmcbjcbnckpfkaaGreat
open Go.RowKit
set_option linter.unusedVariables false

/-- What fits into an int. -/
def I64 (x : Int) : Prop := -9223372036854775808 ≤ x ∧ x < 9223372036854775808
def iK : El Tryz.prog Int where
  e := 3
  s := 39
  size := 1
  bytes := 8
  zero := .int .i64 0
  z := 0
  enc := fun x => [.int .i64 x]
  ok := I64
  len := fun _ => rfl
  one := fun x u hu => by simp at hu; subst hu; rfl
  okz := by unfold I64; omega
  encz := rfl
  pos := by decide
  under := Tryz.underlying39
  info := by kernel_rfl

theorem i64_nat {n : Nat} (h : n < 9223372036854775808) : I64 (n : Int) := by unfold I64; omega
theorem i64_wrap {x : Int} (h : I64 x) : IntKind.i64.wrap x = x := by unfold I64 at h; rw [IntKind.wrap_i64]; omega

section
variable {w : World} {base B n c : Nat} {A : Option Addr} {l : List Int}
theorem Lv.int_ (h : Lv iK w B (.slice A n c) l) {k : Nat} (hk : k < l.length) :
    ∃ b off x, A = some ⟨b, off, none⟩ ∧ b < B ∧ I64 x ∧ l[k]? = some x ∧ w.cell? ⟨b, off + k, none⟩ = some (.int .i64 x) := by
  obtain ⟨b, off, x, h1, h2, h3, h4, h5⟩ := h.at_ hk
  have h6 := h5 0 (.int .i64 x) rfl
  refine ⟨b, off, x, h1, h2, h3, h4, ?_⟩
  have e : off + (k * iK.size + 0) = off + k := by show off + (k * 1 + 0) = _; omega
  rw [e] at h6
  exact h6
theorem OwnL.int_ (h : OwnL iK w base (.slice A n c) l) {k : Nat} (hk : k < l.length) :
    ∃ g x, A = some ⟨g, 0, none⟩ ∧ n = l.length ∧ base ≤ g ∧ I64 x ∧ l[k]? = some x ∧ w.cell? ⟨g, k, none⟩ = some (.int .i64 x) ∧ w.frozen? ⟨g, k, none⟩ = false := by
  obtain ⟨g, x, h1, h2, h3, h4, h5, h6, h7⟩ := h.at_ hk
  have h8 := h6 0 (.int .i64 x) rfl
  refine ⟨g, x, h1, h2, h3, h4, h5, ?_, h7 k⟩
  have e : k * iK.size + 0 = k := by show k * 1 + 0 = _; omega
  rw [e] at h8
  exact h8
theorem OwnL.was_ {g : Nat} (h : OwnL iK w base (.slice (some ⟨g, 0, none⟩) n c) l) {k : Nat} (hk : k < l.length) : ∃ x, l[k]? = some x ∧ w.cell? ⟨g, k, none⟩ = some (.int .i64 x) := by
  obtain ⟨g', x, e, _, _, _, h5, h6, _⟩ := h.int_ hk
  injection e with e
  injection e with e
  subst e
  exact ⟨x, h5, h6⟩
theorem OwnL.setInt_ {g : Nat} (h : OwnL iK w base (.slice (some ⟨g, 0, none⟩) n c) l) {j : Nat} (hj : j < l.length) {x : Int} (hx : I64 x) :
    OwnL iK (w.setCell ⟨g, j, none⟩ (.int .i64 x)) base (.slice (some ⟨g, 0, none⟩) n c) (l.set j x) ∧ w.grownBy (w.setCell ⟨g, j, none⟩ (.int .i64 x)) (some g) := h.set_ rfl hj hx rfl
end
end Go.Proofs.YtmcbjcbnckpfkaaGreat
