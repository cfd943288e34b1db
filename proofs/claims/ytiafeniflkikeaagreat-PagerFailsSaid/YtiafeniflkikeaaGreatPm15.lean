/- Parts of the proof. -/
import Derived.Test.YtiafeniflkikeaaGreatPm05
import Derived.Test.YtiafeniflkikeaaGreatPm04
import Derived.Test.YtiafeniflkikeaaGreatPm03
namespace Go.Proofs.YtiafeniflkikeaaGreat
open Go.RowKit
set_option linter.unusedVariables false
section
variable {P : Program} {α : Type}
def OwnQ (K : El P α) (w : World) (base : Nat) (v : Value) (l : List α) : Prop :=
 (∀ x ∈ l, K.ok x) ∧ ((v = .slice none 0 0 ∧ l = []) ∨
  ∃ g c cur, v = .slice (some ⟨g, 0, none⟩) l.length c ∧ base ≤ g ∧ w.heap[g]? = some (.cells cur K.e (0, 0)) ∧ l.length ≤ c ∧ c ≤ maxLen ∧ cur.size = c * K.size ∧ cur.toList.take (l.length * K.size) = K.flat l)
def IsQ1 (K : El P α) (l : List α) (w : World) (e : Ending) (w' : World) : Prop :=
 ∃ A c, e = .returned (.slice A l.length c) ∧ OwnQ K w' w.heap.size (.slice A l.length c) l ∧ Below w.heap.size w w'
variable {K : El P α} {w w' : World} {base : Nat} {v : Value} {l : List α} {F : Nat → Prop}
theorem OwnQ.of_row (hk : ∀ x ∈ l, K.ok x) (h : w.ownsRow base K.e K.size v l.length (K.flat l)) : OwnQ K w base v l := by
 refine ⟨hk, ?_⟩
 rcases h.2 with ⟨h1, h2⟩ | ⟨g, cap, cur, rfl, hb, hh, h1, h2, h3, h4⟩
 ·exact .inl ⟨h1, List.eq_nil_of_length_eq_zero h2⟩
 ·exact .inr ⟨g, cap, cur, rfl, hb, hh, h1, h2, h3, h4⟩
theorem OwnQ.lt_ (h : OwnQ K w base v l) : ∀ k, v.ownBlock = some k → base ≤ k ∧ k < w.heap.size := by
 intro k hk
 rcases h.2 with ⟨rfl, _⟩ | ⟨g, c, cur, rfl, hb, hg, _⟩
 ·simp [Value.ownBlock] at hk
 ·simp [Value.ownBlock] at hk
  subst hk
  exact ⟨hb, (Array.getElem?_eq_some_iff.1 hg).1⟩
theorem OwnQ.mono_ (h : OwnQ K w base v l) {base' : Nat} (hb : base' ≤ base) : OwnQ K w base' v l := by
 refine ⟨h.1, ?_⟩
 rcases h.2 with hn | ⟨g, c, cur, rfl, hg, hr⟩
 ·exact .inl hn
 ·exact .inr ⟨g, c, cur, rfl, by omega, hr⟩
theorem OwnQ.form_ (h : OwnQ K w base v l) : Lv K w w.heap.size v l := by
 rcases h.2 with ⟨rfl, rfl⟩ | ⟨g, c, cur, rfl, hb, hg, h1, h2, h3, h4⟩
 ·exact Lv.nil_ _ _ _
 ·refine ⟨_, _, rfl, h1, h2, by simp, h.1, fun _ => ⟨g, 0, rfl, (Array.getElem?_eq_some_iff.1 hg).1, fun j u hj => ?_⟩⟩
  rw [Nat.zero_add, cell_of_row w g j _ _ _ hg, ← Array.getElem?_toList]
  rw [← h4, List.getElem?_take] at hj
  split at hj
  ·exact hj
  ·cases hj
theorem OwnQ.of_block (h : OwnQ K w base v l) (hb : ∀ k, v.ownBlock = some k → w'.heap[k]? = w.heap[k]?) : OwnQ K w' base v l := by
 refine ⟨h.1, ?_⟩
 rcases h.2 with hn | ⟨g, c, cur, rfl, hg, hh, hr⟩
 ·exact .inl hn
 ·exact .inr ⟨g, c, cur, rfl, hg, (hb g rfl).trans hh, hr⟩
theorem OwnQ.turned_ (h : OwnQ K w base v l) (ht : Turned F w w') (hn : ∀ k, v.ownBlock = some k → ¬ F k) : OwnQ K w' base v l :=
 h.of_block fun k hk => ht.block k (h.lt_ k hk).2 (hn k hk)
end
end Go.Proofs.YtiafeniflkikeaaGreat
namespace Go.Proofs.YtiafeniflkikeaaGreat
open Go.RowKit
set_option linter.unusedVariables false
theorem own_kindN {P : Program} {α : Type} {K : El P α} {w : World} {base b : Nat} {v : Value} {l : List α} {cs : Array Value} {T : TypeId} {fr : Nat × Nat} (h : OwnL K w base v l) (hb : w.heap[b]? = some (.cells cs T fr)) (hT : T ≠ K.e) : v.ownBlock ≠ some b := by
 intro e
 rcases h.2 with ⟨rfl, _⟩ | ⟨g, s, rfl, _, _, _, hh⟩
 ·cases e
 ·have eg : g = b := Option.some.inj e
  subst eg
  rw [hb] at hh
  injection hh with hh
  injection hh with _ hh _
  exact hT hh
theorem own_twoN {P : Program} {α β : Type} {K : El P α} {K' : El P β} {w : World} {base base' : Nat} {v u : Value} {l : List α} {m : List β} (h : OwnL K w base v l) (h' : OwnL K' w base' u m) (hT : K'.e ≠ K.e) {k : Nat} (hk : v.ownBlock = some k) : u.ownBlock ≠ some k := by
 intro e
 rcases h'.2 with ⟨rfl, _⟩ | ⟨g, s, rfl, _, _, _, hh⟩
 ·cases e
 ·have eg : g = k := Option.some.inj e
  subst eg
  exact own_kindN h hh hT hk
theorem own_ne_or {v u : Value} (h : ∀ k, v.ownBlock = some k → u.ownBlock ≠ some k) : v.ownBlock = none ∨ v.ownBlock ≠ u.ownBlock := by
 cases hv : v.ownBlock with
 | none => exact .inl rfl
 | some k => exact .inr fun e => h k hv e.symm
end Go.Proofs.YtiafeniflkikeaaGreat
namespace Go.Proofs.YtiafeniflkikeaaGreat.Sf
open Go.RowKit
set_option linter.unusedVariables false
structure Act where
 cut : Bool
 at_ : Nat
 b : List Nat
structure File where
 sure : List Nat
 row : List Act
abbrev Dir := List (ByteArray × Nat)
structure St where
 room : Nat
 files : List File
 sure : Dir
 row : List Dir
 seen : Dir
 acts : Nat
 fuse : Nat
 dead : Bool
def noFile : File := ⟨[], []⟩
def done (b : List Nat) (a : Act) : List Nat := if a.cut then b.take a.at_ else b.take a.at_ ++ a.b ++ b.drop (a.at_ + a.b.length)
def bytes (f : File) (k : Nat) : List Nat := (f.row.take k).foldl done f.sure
def now (f : File) : List Nat := f.row.foldl done f.sure
theorem bytes_all (f : File) : bytes f f.row.length = now f := by unfold bytes now; rw [List.take_length]
theorem bytes_zero (f : File) : bytes f 0 = f.sure := rfl
theorem bytes_succ {f : File} {k : Nat} {a : Act} (h : f.row[k]? = some a) : bytes f (k + 1) = done (bytes f k) a := by
 unfold bytes
 rw [List.take_add_one, h]
 simp [List.foldl_append]
def find (d : Dir) (s : ByteArray) : Option Nat := (d.find? (fun e => decide (e.1 = s))).map (·.2)
def without (d : Dir) (s : ByteArray) : Dir := d.filter (fun e => decide (e.1 ≠ s))
def ahead (d : Dir) (s : ByteArray) : Nat := (d.takeWhile (fun e => Op.bytesLess e.1.toList s.toList)).length
def with_ (d : Dir) (s : ByteArray) (n : Nat) : Dir := d.take (ahead d s) ++ (s, n) :: d.drop (ahead d s)
def okChar (c : UInt8) : Bool := (decide (97 ≤ c.toNat) && decide (c.toNat ≤ 122)) || (decide (48 ≤ c.toNat) && decide (c.toNat ≤ 57)) || decide (c.toNat = 46) || decide (c.toNat = 45)
def isName (s : ByteArray) : Bool := s.toList.all okChar && decide (1 ≤ s.size) && decide (s.size ≤ 32)
def blown (t : St) : Nat × St :=
 if t.fuse = 0 then (0, { t with acts := t.acts + 1 })
 else if t.fuse = 1 then (13, { t with acts := t.acts + 1, fuse := 0, dead := true })
 else (0, { t with acts := t.acts + 1, fuse := t.fuse - 1 })
def turn (t : St) (d : Dir) : Nat × St := blown { t with seen := d, row := t.row ++ [d] }
def fileAt (t : St) (n : Nat) : File := t.files.getD n noFile
def add (t : St) (n : Nat) (a : Act) : Nat × St := blown { t with files := t.files.set n ⟨(fileAt t n).sure, (fileAt t n).row ++ [a]⟩ }
def get (t : St) (s : ByteArray) : Nat × Nat :=
 if t.dead then (0, 13) else match find t.seen s with
  | none => (0, 7)
  | some n => (n, 0)
def len (t : St) (n : Nat) : Nat := (now (fileAt t n)).length
def lens (t : St) (d : Dir) : Nat := (d.map fun e => len t e.2).sum
def used (t : St) : Nat := if t.dead then 0 else lens t t.seen
def new (room : Nat) : St := ⟨room, [], [], [], [], 0, 0, false⟩
def create (t : St) (s : ByteArray) : Nat × St :=
 if t.dead then (13, t) else if isName s = false then (2, t) else if (find t.seen s).isSome then (8, t) else if 64 ≤ t.seen.length then (3, t)
 else turn { t with files := t.files ++ [noFile] } (with_ t.seen s t.files.length)
def append (t : St) (s : ByteArray) (b : List Nat) : Nat × St :=
 if (get t s).2 ≠ 0 then ((get t s).2, t)
 else if 0 < b.length ∧ t.room < used t + b.length then (9, t)
 else add t (get t s).1 ⟨false, len t (get t s).1, b⟩
def write (t : St) (s : ByteArray) (a : Int) (b : List Nat) : Nat × St :=
 if (get t s).2 ≠ 0 then ((get t s).2, t)
 else if a < 0 ∨ (len t (get t s).1 : Int) < a then (2, t)
 else if len t (get t s).1 < a.toNat + b.length ∧ t.room < used t + (a.toNat + b.length - len t (get t s).1) then (9, t)
 else add t (get t s).1 ⟨false, a.toNat, b⟩
def cut (t : St) (s : ByteArray) (a : Int) : Nat × St :=
 if (get t s).2 ≠ 0 then ((get t s).2, t)
 else if a < 0 ∨ (len t (get t s).1 : Int) < a then (2, t)
 else add t (get t s).1 ⟨true, a.toNat, []⟩
def rename (t : St) (s u : ByteArray) : Nat × St :=
 if (get t s).2 ≠ 0 then ((get t s).2, t)
 else if isName u = false then (2, t)
 else turn t (with_ (without (without t.seen s) u) u (get t s).1)
def sync (t : St) (s : ByteArray) : Nat × St :=
 if (get t s).2 ≠ 0 then ((get t s).2, t)
 else if (blown t).1 ≠ 0 then blown t
 else (0, { (blown t).2 with files := t.files.set (get t s).1 ⟨now (fileAt t (get t s).1), []⟩ })
def syncDir (t : St) : Nat × St :=
 if t.dead then (13, t)
 else if (blown t).1 ≠ 0 then blown t
 else (0, { (blown t).2 with sure := t.seen, row := [] })
def arm (t : St) (n : Int) : Nat × St :=
 if t.dead then (13, t) else if n < 0 then (2, t) else (0, { t with fuse := n.toNat })
def read (t : St) (s : ByteArray) (a n : Int) : List Nat × Nat :=
 if (get t s).2 ≠ 0 then ([], (get t s).2)
 else if a < 0 ∨ (len t (get t s).1 : Int) < a ∨ n < 0 then ([], 2)
 else (((now (fileAt t (get t s).1)).drop a.toNat).take n.toNat, 0)
def size (t : St) (s : ByteArray) : Nat × Nat :=
 if (get t s).2 ≠ 0 then (0, (get t s).2) else (len t (get t s).1, 0)
def names (t : St) : List ByteArray := if t.dead then [] else t.seen.map (·.1)
structure Op where
 call : Nat
 name : ByteArray
 to : ByteArray
 at_ : Int
 b : List Nat
def left (x : Int) (many : Nat) : Nat := (x % 18446744073709551616).toNat % many
def took (l : List Int) (many : Nat) : Nat := match l with
 | [] => 0
 | x :: _ => left x many
def torn (b : List Nat) (a : Act) (n : Nat) : List Nat :=
 let e := if a.at_ + n < b.length then (a.at_ + n) / 512 * 512 else a.at_ + n
 if e ≤ a.at_ then b else done b ⟨false, a.at_, a.b.take (e - a.at_)⟩
def kept1 (f : File) (l : List Int) : List Nat × List Int :=
 match f.row[took l (f.row.length + 1)]? with
 | some a => if a.cut then (bytes f (took l (f.row.length + 1)), l.drop 1)
  else (torn (bytes f (took l (f.row.length + 1))) a (took (l.drop 1) (a.b.length + 1)), l.drop 2)
 | none => (bytes f (took l (f.row.length + 1)), l.drop 1)
def kept (t : St) : Dir → List Int → List (List Nat)
 | [], _ => []
 | e :: d, l => (kept1 (fileAt t e.2) l).1 :: kept t d (kept1 (fileAt t e.2) l).2
def rest (t : St) : Dir → List Int → List Int
 | [], l => l
 | e :: d, l => rest t d (kept1 (fileAt t e.2) l).2
def dirAt (t : St) (k : Nat) : Dir := if k = 0 then t.sure else t.row.getD (k - 1) []
def dirOf (t : St) (l : List Int) : Dir := dirAt t (took l (t.row.length + 1))
def numbered (d : Dir) : Dir := d.mapIdx (fun i e => (e.1, i))
def fail (t : St) (l : List Int) : St :=
 ⟨t.room, (kept t (dirOf t l) (l.drop 1)).map (fun b => ⟨b, []⟩), numbered (dirOf t l), [], numbered (dirOf t l), 0, 0, false⟩
end Go.Proofs.YtiafeniflkikeaaGreat.Sf
namespace Go.Proofs.YtiafeniflkikeaaGreat.Pp
structure S where
 name : ByteArray
 root : Rt.Root
 cache : Nat
 l : List Pa.Page
 turns : Nat
def pageOf (F : List Nat) (n : Nat) : List Nat := (F.drop (512 * n)).take 512
def rdE (F : List Nat) (n : Nat) : Nat × List Nat × Nat := if F.length < 512 * n then (0, [], 2) else if F.length < 512 * (n + 1) then (0, [], 4) else Pg.getE n (pageOf F n)
def readE (s : S) (F : List Nat) (n : Int) : Nat × List Nat × Nat := match Pa.find s.l n with
 | none => (0, [], 7)
 | some x => if x.state = 2 then (x.kind, x.body, 0) else rdE F x.n
def ins (l : List Pa.Page) (n : Nat) : List Pa.Page := l.takeWhile (fun x => decide (x.n < n)) ++ ⟨n, 1, 0, []⟩ :: l.dropWhile (fun x => decide (x.n < n))
def useE (s : S) (n : Int) : S × Nat :=
 if n < 2 ∨ s.root.pages ≤ n then (s, 2) else match Pa.find s.l n with
  | some _ => (s, 8)
  | none => ({ s with l := ins s.l n.toNat }, 0)
def bare (x : Pa.Page) : Pa.Page := if x.state = 2 then x else { x with kind := 0, body := [] }
def asM (s : S) (F : List Nat) : Pa.M := ⟨s.root, s.l, F.length⟩
def told (F : List Nat) : Rt.Root × Nat := Rt.pickE (F.take 512) ((F.drop 512).take 512)
def openE (t : Sf.St) (name : ByteArray) (cache : Int) : Option S × Nat :=
 if cache < 0 ∨ 256 < cache then (none, 2)
 else if (Sf.get t name).2 ≠ 0 then (none, (Sf.get t name).2)
 else if (Sf.now (Sf.fileAt t (Sf.get t name).1)).length < 1024 then (none, 4)
 else if (told (Sf.now (Sf.fileAt t (Sf.get t name).1))).2 ≠ 0 then (none, 7)
 else (some ⟨name, (told (Sf.now (Sf.fileAt t (Sf.get t name).1))).1, cache.toNat, [], 0⟩, 0)
def Vers (f : Sf.File) (x : List Nat) : Prop := ∃ l, x = (Sf.kept1 f l).1
def Tells (x : List Nat) (r : Rt.Root) (P : List (Nat × List Nat)) : Prop :=
 1024 ≤ x.length ∧ told x = (r, 0) ∧ ∀ p ∈ P, 512 * (p.1 + 1) ≤ x.length ∧ pageOf x p.1 = p.2
def held (l : List Pa.Page) (F : List Nat) : List (Nat × List Nat) := (l.filter (fun x => decide (x.state ≠ 2))).map (fun x => (x.n, pageOf F x.n))
def next (l : List Pa.Page) (F : List Nat) : List (Nat × List Nat) := (Pa.keep l).map (fun x => (x.n, if x.state = 2 then Pg.page x.n x.kind x.body else pageOf F x.n))
structure But (k : Nat) (t t' : Sf.St) : Prop where
 room : t'.room = t.room
 len : t'.files.length = t.files.length
 file : ∀ j, j ≠ k → Sf.fileAt t' j = Sf.fileAt t j
 sure : t'.sure = t.sure
 row : t'.row = t.row
 seen : t'.seen = t.seen
structure New (s : S) (F F' : List Nat) (r : Rt.Root) : Prop where
 len : F'.length = Pa.sizeL F.length s.l
 root : told F' = (r, 0)
 pend : ∀ x ∈ s.l, x.state = 2 → pageOf F' x.n = Pg.page x.n x.kind x.body
 used : ∀ x ∈ s.l, x.state ≠ 2 → x.n < 65536 → 512 * (x.n + 1) ≤ F.length → pageOf F' x.n = pageOf F x.n
structure Keeps (s : S) (F F' : List Nat) : Prop where
 len : F'.length = F.length
 told : told F' = told F
 used : ∀ x ∈ s.l, x.state ≠ 2 → pageOf F' x.n = pageOf F x.n
inductive Com (s : S) (F : List Nat) (t : Sf.St) (k : Nat) (r : Rt.Root) : Nat → S → List Nat → Sf.St → Prop
 | arg : (Pa.commit (asM s F) r ((t.room : Int) - Sf.used t)).2 = 2 → Com s F t k r 2 s F t
 | done (F' : List Nat) (t' : Sf.St) (tn : Nat) : (Pa.commit (asM s F) r ((t.room : Int) - Sf.used t)).2 = 0 → New s F F' (Pa.rootOf (asM s F) r) → But k t t' → Sf.fileAt t' k = ⟨F', []⟩ → t'.dead = false → (t.fuse = 0 → t'.fuse = 0) → t'.acts ≤ t.acts + 200000 → tn ≤ s.turns + 200000 →
   Com s F t k r 0 { s with root := Pa.rootOf (asM s F) r, l := (Pa.keep s.l).map Pa.used, turns := tn } F' t'
 | full (F' : List Nat) (t' : Sf.St) : (Pa.commit (asM s F) r ((t.room : Int) - Sf.used t)).2 = 9 → But k t t' → Sf.now (Sf.fileAt t' k) = F' → Keeps s F F' → t'.dead = false → (t.fuse = 0 → t'.fuse = 0) → t'.acts ≤ t.acts + 200000 → Com s F t k r 9 s F' t'
 | dead (e : Nat) (s' : S) (F' : List Nat) (t' : Sf.St) : (Pa.commit (asM s F) r ((t.room : Int) - Sf.used t)).2 ≠ 2 → t.fuse ≠ 0 → But k t t' → t'.dead = true → e ≠ 0 → t'.acts ≤ t.acts + 200000 →
   ((∀ x, Vers (Sf.fileAt t k) x → Tells x s.root (held s.l F)) → (Pa.commit (asM s F) r ((t.room : Int) - Sf.used t)).2 = 0 → (∀ x, Vers (Sf.fileAt t' k) x → Tells x s.root (held s.l F) ∨ Tells x (Pa.rootOf (asM s F) r) (next s.l F))) → Com s F t k r e s' F' t'
end Go.Proofs.YtiafeniflkikeaaGreat.Pp
