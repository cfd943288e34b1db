/- Parts of the proof. -/
import Derived.Test.YtiafeniflkikeaaGreatPm16
import Derived.Test.YtiafeniflkikeaaGreatPm14
import Derived.Maps.RangeWalk
import Derived.Maps.OwnSet
import Derived.Test.YtiafeniflkikeaaGreatPm05
import Derived.Test.YtiafeniflkikeaaGreatPm03
import Derived.Test.YtiafeniflkikeaaGreatPm11
import Derived.Deep.MidRow
import Derived.Deep.WholeRow
namespace Go.Proofs.YtiafeniflkikeaaGreat
open Go.RowKit Go.Maps
set_option linter.unusedVariables false
structure RawC where
 at_ : Nat
 sl : Sl
 cut : Bool
structure RawN where
 gone : ByteArray
 come : ByteArray
 num : Nat
structure RawX where
 sure : Sl
 row : Sl
 now : Sl
def encC (x : RawC) : List Value := [.int .i64 (x.at_ : Nat), .slice x.sl.A x.sl.n x.sl.c, .bool x.cut]
def cK : El Tryz.prog RawC where
 e := 153
 s := 103
 size := 3
 bytes := 40
 zero := .agg #[.int .i64 0, .slice none 0 0, .bool false]
 z := ⟨0, ⟨none, 0, 0⟩, false⟩
 enc := encC
 ok := fun x => x.at_ ≤ 1048576
 len := fun _ => rfl
 one := fun x u hu => by simp [encC] at hu; rcases hu with rfl | rfl | rfl <;> rfl
 okz := by simp
 encz := rfl
 pos := by decide
 under := Tryz.underlying103
 info := by kernel_rfl
def encN (x : RawN) : List Value := [.string x.gone, .string x.come, .int .i64 (x.num : Nat)]
def nK : El Tryz.prog RawN where
 e := 121
 s := 69
 size := 3
 bytes := 40
 zero := .agg #[.string ByteArray.empty, .string ByteArray.empty, .int .i64 0]
 z := ⟨ByteArray.empty, ByteArray.empty, 0⟩
 enc := encN
 ok := fun x => x.gone.size ≤ maxLen ∧ x.come.size ≤ maxLen ∧ x.num < 2199023255552
 len := fun _ => rfl
 one := fun x u hu => by simp [encN] at hu; rcases hu with rfl | rfl | rfl <;> rfl
 okz := by simp [maxLen]
 encz := rfl
 pos := by decide
 under := Tryz.underlying69
 info := by kernel_rfl
def xV (x : RawX) : Value := .agg #[slV x.sure, slV x.row, slV x.now]
def datA : Option Addr → DataW Unit
 | none => .nil
 | some a => .agg ([.lit (.int .i64 a.block), .lit (.int .i64 a.off)] ++ (match a.spot with | none => [] | some k => [.lit (.int .i64 k)]))
theorem datA_inj {a b : Option Addr} (h : datA a = datA b) : a = b := by
 cases a with
 | none => cases b with
  | none => rfl
  | some b => cases h
 | some a => cases b with
  | none => cases h
  | some b =>
   obtain ⟨a1, a2, a3⟩ := a
   obtain ⟨b1, b2, b3⟩ := b
   cases a3 <;> cases b3 <;> simp [datA] at h ⊢ <;> omega
def datS (u : Sl) : DataW Unit := .agg [datA u.A, .lit (.int .i64 u.n), .lit (.int .i64 u.c)]
theorem datS_inj {a b : Sl} (h : datS a = datS b) : a = b := by
 obtain ⟨a1, a2, a3⟩ := a
 obtain ⟨b1, b2, b3⟩ := b
 simp [datS] at h
 obtain ⟨h1, h2, h3⟩ := h
 rw [datA_inj h1]
 simp only [Sl.mk.injEq, true_and]
 omega
def datX (x : RawX) : DataW Unit := .agg [datS x.sure, datS x.row, datS x.now]
def readX : Value → Option (DataW Unit × List MemPlace)
 | .agg cs => match cs.toList with
  | [.slice A n c, .slice A2 n2 c2, .slice A3 n3 c3] => some (datX ⟨⟨A, n, c⟩, ⟨A2, n2, c2⟩, ⟨A3, n3, c3⟩⟩, [])
  | _ => none
 | _ => none
theorem readX_val (x : RawX) : readX (xV x) = some (datX x, []) := rfl
theorem readX_inv (v : Value) (x : RawX) (ps : List MemPlace) (h : readX v = some (datX x, ps)) : v = xV x := by
 unfold readX at h
 split at h
 ·rename_i cs
  split at h
  ·rename_i A n c A2 n2 c2 A3 n3 c3 hc
   simp only [Option.some.injEq, Prod.mk.injEq] at h
   have h1 := h.1
   simp [datX] at h1
   obtain ⟨e1, e2, e3⟩ := h1
   have : cs = #[.slice A n c, .slice A2 n2 c2, .slice A3 n3 c3] := by apply Array.ext'; rw [hc]
   rw [this]
   obtain ⟨y1, y2, y3⟩ := x
   simp only [] at e1 e2 e3
   rw [← datS_inj e1, ← datS_inj e2, ← datS_inj e3]
   rfl
  ·cases h
 ·cases h
theorem readX_any (v : Value) (y : DataW Unit × List MemPlace) (h : readX v = some y) : ∃ x, v = xV x ∧ y = (datX x, []) := by
 unfold readX at h
 split at h
 ·rename_i cs
  split at h
  ·rename_i A n c A2 n2 c2 A3 n3 c3 hc
   have : cs = #[.slice A n c, .slice A2 n2 c2, .slice A3 n3 c3] := by apply Array.ext'; rw [hc]
   rw [this]
   exact ⟨⟨⟨A, n, c⟩, ⟨A2, n2, c2⟩, ⟨A3, n3, c3⟩⟩, rfl, (Option.some.inj h).symm⟩
  ·cases h
 ·cases h
theorem datX_inj {a b : RawX} (h : datX a = datX b) : a = b := by
 obtain ⟨a1, a2, a3⟩ := a
 obtain ⟨b1, b2, b3⟩ := b
 simp [datX] at h
 obtain ⟨h1, h2, h3⟩ := h
 rw [datS_inj h1, datS_inj h2, datS_inj h3]
def x0 : RawX := ⟨⟨none, 0, 0⟩, ⟨none, 0, 0⟩, ⟨none, 0, 0⟩⟩
theorem zeroX (w : World) : (zeroValue 105).run Tryz.prog w = .ok (xV x0) w := by kernel_rfl
def fM : MpK Tryz.prog Int RawX where
 t := 66
 k := 3
 e := 105
 key := fun x => .int .i64 x
 lit := fun x => .int .i64 x
 ok := fun x => (Lit.int .i64 x).wf = true
 val := xV
 z := x0
 read := readX
 dat := datX
 keyed := int_keyed Tryz.underlying3
 under := Tryz.underlying66
 law := fun x hx => keyOf_int_mk Tryz.underlying3 hx
 inj := fun x y h => by injection h
 zero := zeroX
 readVal := readX_val
 readInv := fun v y ps h => readX_inv v y ps h
theorem zeroI (w : World) : (zeroValue 3).run Tryz.prog w = .ok (.int .i64 0) w := by kernel_rfl
def dM : MpK Tryz.prog ByteArray Int where
 t := 68
 k := 9
 e := 3
 key := fun s => .string s
 lit := fun s => .string s.data.toList
 ok := fun s => s.size ≤ maxLen
 val := fun y => .int .i64 y
 z := 0
 read := readInt .i64
 dat := fun y => .lit (.int .i64 y)
 keyed := string_keyed Tryz.underlying9
 under := Tryz.underlying68
 law := fun x hx => WideMaps.keyOf_string_mk Tryz.underlying9 hx
 inj := fun x y h => by injection h
 zero := zeroI
 readVal := readInt_val .i64
 readInv := readInt_inv .i64
end Go.Proofs.YtiafeniflkikeaaGreat
namespace Go.Proofs.YtiafeniflkikeaaGreat
open Go.RowKit Go.Maps
set_option linter.unusedVariables false
structure RawU where
 kind : Nat
 sl : Sl
structure RawH where
 u : RawU
 turn : Int
def uV (x : RawU) : Value := .agg #[.int .u8 (x.kind : Nat), slV x.sl]
def hV (x : RawH) : Value := .agg #[.int .u8 (x.u.kind : Nat), slV x.u.sl, .int .i64 x.turn]
def datU (x : RawU) : DataW Unit := .agg [.lit (.int .u8 (x.kind : Nat)), datS x.sl]
def datH (x : RawH) : DataW Unit := .agg [.lit (.int .u8 (x.u.kind : Nat)), datS x.u.sl, .lit (.int .i64 x.turn)]
theorem datU_inj {a b : RawU} (h : datU a = datU b) : a = b := by
 obtain ⟨a1, a2⟩ := a
 obtain ⟨b1, b2⟩ := b
 simp [datU] at h
 obtain ⟨h1, h2⟩ := h
 rw [datS_inj h2]
 simp only [RawU.mk.injEq, and_true]
 omega
theorem datH_inj {a b : RawH} (h : datH a = datH b) : a = b := by
 obtain ⟨⟨a1, a2⟩, a3⟩ := a
 obtain ⟨⟨b1, b2⟩, b3⟩ := b
 simp [datH] at h
 obtain ⟨h1, h2, h3⟩ := h
 rw [datS_inj h2, h3]
 have : a1 = b1 := by omega
 rw [this]
def readU : Value → Option (DataW Unit × List MemPlace)
 | .agg cs => match cs.toList with
  | [.int .u8 k, .slice A n c] => if 0 ≤ k then some (datU ⟨k.toNat, ⟨A, n, c⟩⟩, []) else none
  | _ => none
 | _ => none
def readH : Value → Option (DataW Unit × List MemPlace)
 | .agg cs => match cs.toList with
  | [.int .u8 k, .slice A n c, .int .i64 t] => if 0 ≤ k then some (datH ⟨⟨k.toNat, ⟨A, n, c⟩⟩, t⟩, []) else none
  | _ => none
 | _ => none
theorem readU_val (x : RawU) : readU (uV x) = some (datU x, []) := by
 show (if (0 : Int) ≤ (x.kind : Nat) then some (datU ⟨((x.kind : Nat) : Int).toNat, ⟨x.sl.A, x.sl.n, x.sl.c⟩⟩, []) else none) = _
 rw [if_pos (by omega)]
 rfl
theorem readH_val (x : RawH) : readH (hV x) = some (datH x, []) := by
 show (if (0 : Int) ≤ (x.u.kind : Nat) then some (datH ⟨⟨((x.u.kind : Nat) : Int).toNat, ⟨x.u.sl.A, x.u.sl.n, x.u.sl.c⟩⟩, x.turn⟩, []) else none) = _
 rw [if_pos (by omega)]
 rfl
theorem readU_any (v : Value) (y : DataW Unit × List MemPlace) (h : readU v = some y) : ∃ x, v = uV x ∧ y = (datU x, []) := by
 unfold readU at h
 split at h
 ·rename_i cs
  split at h
  ·rename_i k A n c hc
   have e : cs = #[.int .u8 k, .slice A n c] := by apply Array.ext'; rw [hc]
   split at h
   ·rename_i h0
    refine ⟨⟨k.toNat, ⟨A, n, c⟩⟩, ?_, (Option.some.inj h).symm⟩
    rw [e]
    show _ = Value.agg #[.int .u8 (k.toNat : Nat), .slice A n c]
    rw [Int.toNat_of_nonneg h0]
   ·cases h
  ·cases h
 ·cases h
theorem readH_any (v : Value) (y : DataW Unit × List MemPlace) (h : readH v = some y) : ∃ x, v = hV x ∧ y = (datH x, []) := by
 unfold readH at h
 split at h
 ·rename_i cs
  split at h
  ·rename_i k A n c t hc
   have e : cs = #[.int .u8 k, .slice A n c, .int .i64 t] := by apply Array.ext'; rw [hc]
   split at h
   ·rename_i h0
    refine ⟨⟨⟨k.toNat, ⟨A, n, c⟩⟩, t⟩, ?_, (Option.some.inj h).symm⟩
    rw [e]
    show _ = Value.agg #[.int .u8 (k.toNat : Nat), .slice A n c, .int .i64 t]
    rw [Int.toNat_of_nonneg h0]
   ·cases h
  ·cases h
 ·cases h
theorem zeroNum (w : World) : (zeroValue 109).run Tryz.prog w = .ok (.agg #[]) w := by kernel_rfl
theorem zeroU (w : World) : (zeroValue 108).run Tryz.prog w = .ok (uV ⟨0, ⟨none, 0, 0⟩⟩) w := by kernel_rfl
theorem zeroH (w : World) : (zeroValue 174).run Tryz.prog w = .ok (hV ⟨⟨0, ⟨none, 0, 0⟩⟩, 0⟩) w := by kernel_rfl
def nuM : MpK Tryz.prog Int Unit where
 t := 73
 k := 3
 e := 109
 key := fun x => .int .i64 x
 lit := fun x => .int .i64 x
 ok := fun x => (Lit.int .i64 x).wf = true
 val := fun _ => .agg #[]
 z := ()
 read := unitElem
 dat := fun _ => .agg []
 keyed := int_keyed Tryz.underlying3
 under := Tryz.underlying73
 law := fun x hx => keyOf_int_mk Tryz.underlying3 hx
 inj := fun x y h => by injection h
 zero := zeroNum
 readVal := fun _ => unitElem_mk
 readInv := fun v y ps h => (unitElem_inv h).1
def peM : MpK Tryz.prog Int RawU where
 t := 74
 k := 3
 e := 108
 key := fun x => .int .i64 x
 lit := fun x => .int .i64 x
 ok := fun x => (Lit.int .i64 x).wf = true
 val := uV
 z := ⟨0, ⟨none, 0, 0⟩⟩
 read := readU
 dat := datU
 keyed := int_keyed Tryz.underlying3
 under := Tryz.underlying74
 law := fun x hx => keyOf_int_mk Tryz.underlying3 hx
 inj := fun x y h => by injection h
 zero := zeroU
 readVal := readU_val
 readInv := fun v y ps h => by
  obtain ⟨x, rfl, e⟩ := readU_any v _ h
  rw [datU_inj (Prod.mk.inj e).1]
def haM : MpK Tryz.prog Int RawH where
 t := 75
 k := 3
 e := 174
 key := fun x => .int .i64 x
 lit := fun x => .int .i64 x
 ok := fun x => (Lit.int .i64 x).wf = true
 val := hV
 z := ⟨⟨0, ⟨none, 0, 0⟩⟩, 0⟩
 read := readH
 dat := datH
 keyed := int_keyed Tryz.underlying3
 under := Tryz.underlying75
 law := fun x hx => keyOf_int_mk Tryz.underlying3 hx
 inj := fun x y h => by injection h
 zero := zeroH
 readVal := readH_val
 readInv := fun v y ps h => by
  obtain ⟨x, rfl, e⟩ := readH_any v _ h
  rw [datH_inj (Prod.mk.inj e).1]
theorem nuM_ok : MpOk nuM where
 only := fun v kl h => by
  obtain ⟨x, h1, h2, h3⟩ := Maps.keyOf_int_inv Tryz.underlying3 h
  exact ⟨x, h3, h1, h2⟩
 elem := fun v y h => by
  obtain ⟨e, rfl⟩ := unitElem_inv h
  exact ⟨(), e, rfl⟩
 dinj := fun a b h => rfl
theorem peM_ok : MpOk peM where
 only := fun v kl h => by
  obtain ⟨x, h1, h2, h3⟩ := Maps.keyOf_int_inv Tryz.underlying3 h
  exact ⟨x, h3, h1, h2⟩
 elem := fun v y h => readU_any v y h
 dinj := fun a b h => datU_inj h
theorem haM_ok : MpOk haM where
 only := fun v kl h => by
  obtain ⟨x, h1, h2, h3⟩ := Maps.keyOf_int_inv Tryz.underlying3 h
  exact ⟨x, h3, h1, h2⟩
 elem := fun v y h => readH_any v y h
 dinj := fun a b h => datH_inj h
theorem i64_ok {x : Int} (h : I64 x) : (Lit.int .i64 x).wf = true := WalkArith.wf_i64 (by unfold I64 at h; omega)
theorem wpList_next_nu (w : World) {ops : Array Oper} {rest : List Oper} {o : Oper} {a : Act} {Q : Exit → Act → World → Prop} (hg : o.guard = none) (it : Operand) (hop : o.op = Op.next it false) (b r n : Nat) (f : Int → Option Unit) (L : Int → Bool) (cnt : Nat) (hit : a.eval it = .pointer (some ⟨r, 0, none⟩)) (h : IsRg nuM w b r n f L cnt)
  (hDone : (∀ x : Int, (Lit.int .i64 x).wf = true → L x = false) → wpList Tryz.prog ops Q rest (a.put o.dst (.tuple #[.bool false])) w)
  (hMore : ∀ (x : Int) (c : Unit) (w' : World) (cnt' : Nat), (Lit.int .i64 x).wf = true → L x = true → f x = some c → IsRg nuM w' b r n f (fun z => L z && !decide (z = x)) cnt' → cnt' < cnt → w.grownBy w' (some r) → w'.heap.size = w.heap.size →
   (Instr.entry (.pointer (some ⟨r, 0, none⟩))).run Tryz.prog w' = .ok (.tuple #[.int .i64 x, .agg #[]]) w' → wpList Tryz.prog ops Q rest (a.put o.dst (.tuple #[.bool true, .int .i64 x, .agg #[]])) w') :
  wpList Tryz.prog ops Q (o :: rest) a w := wpList_next_mp w nuM nuM_ok hg it hop b r n f L cnt hit h hDone hMore
theorem wpList_next_pe (w : World) {ops : Array Oper} {rest : List Oper} {o : Oper} {a : Act} {Q : Exit → Act → World → Prop} (hg : o.guard = none) (it : Operand) (hop : o.op = Op.next it false) (b r n : Nat) (f : Int → Option RawU) (L : Int → Bool) (cnt : Nat) (hit : a.eval it = .pointer (some ⟨r, 0, none⟩)) (h : IsRg peM w b r n f L cnt)
  (hDone : (∀ x : Int, (Lit.int .i64 x).wf = true → L x = false) → wpList Tryz.prog ops Q rest (a.put o.dst (.tuple #[.bool false])) w)
  (hMore : ∀ (x : Int) (c : RawU) (w' : World) (cnt' : Nat), (Lit.int .i64 x).wf = true → L x = true → f x = some c → IsRg peM w' b r n f (fun z => L z && !decide (z = x)) cnt' → cnt' < cnt → w.grownBy w' (some r) → w'.heap.size = w.heap.size →
   (Instr.entry (.pointer (some ⟨r, 0, none⟩))).run Tryz.prog w' = .ok (.tuple #[.int .i64 x, .agg #[.int .u8 (c.kind : Nat), .slice c.sl.A c.sl.n c.sl.c]]) w' → wpList Tryz.prog ops Q rest (a.put o.dst (.tuple #[.bool true, .int .i64 x, .agg #[.int .u8 (c.kind : Nat), .slice c.sl.A c.sl.n c.sl.c]])) w') :
  wpList Tryz.prog ops Q (o :: rest) a w := wpList_next_mp w peM peM_ok hg it hop b r n f L cnt hit h hDone hMore
theorem wpList_next_ha (w : World) {ops : Array Oper} {rest : List Oper} {o : Oper} {a : Act} {Q : Exit → Act → World → Prop} (hg : o.guard = none) (it : Operand) (hop : o.op = Op.next it false) (b r n : Nat) (f : Int → Option RawH) (L : Int → Bool) (cnt : Nat) (hit : a.eval it = .pointer (some ⟨r, 0, none⟩)) (h : IsRg haM w b r n f L cnt)
  (hDone : (∀ x : Int, (Lit.int .i64 x).wf = true → L x = false) → wpList Tryz.prog ops Q rest (a.put o.dst (.tuple #[.bool false])) w)
  (hMore : ∀ (x : Int) (c : RawH) (w' : World) (cnt' : Nat), (Lit.int .i64 x).wf = true → L x = true → f x = some c → IsRg haM w' b r n f (fun z => L z && !decide (z = x)) cnt' → cnt' < cnt → w.grownBy w' (some r) → w'.heap.size = w.heap.size →
   (Instr.entry (.pointer (some ⟨r, 0, none⟩))).run Tryz.prog w' = .ok (.tuple #[.int .i64 x, .agg #[.int .u8 (c.u.kind : Nat), .slice c.u.sl.A c.u.sl.n c.u.sl.c, .int .i64 c.turn]]) w' → wpList Tryz.prog ops Q rest (a.put o.dst (.tuple #[.bool true, .int .i64 x, .agg #[.int .u8 (c.u.kind : Nat), .slice c.u.sl.A c.u.sl.n c.u.sl.c, .int .i64 c.turn]])) w') :
  wpList Tryz.prog ops Q (o :: rest) a w := wpList_next_mp w haM haM_ok hg it hop b r n f L cnt hit h hDone hMore
end Go.Proofs.YtiafeniflkikeaaGreat
namespace Go.Proofs.YtiafeniflkikeaaGreat
open Go.RowKit
set_option linter.unusedVariables false
def pyC (bf : Nat) (s : Pp.S) (U D P H last frm : Nat) : Array Value :=
 #[.pointer (some ⟨bf, 0, none⟩), .string s.name, .int .u64 (s.root.seq : Nat), .int .i64 s.root.page, .int .i64 s.root.pages, .int .u64 (s.root.lsn : Nat), .int .u64 (s.root.next : Nat), .int .i64 s.root.shard, .int .i64 s.root.tail,
  .map (some U), .map (some D), .map (some P), .int .i64 (s.cache : Nat), .map (some H), .int .i64 (last : Nat), .int .i64 (frm : Nat)]
structure InB (w : World) (B : Nat → Prop) (u : RawU) (kind : Nat) (body : List Nat) : Prop where
 ek : u.kind = kind
 k8 : kind < 256
 lv : Lv yK w w.heap.size (slV u.sl) body
 len : body.length ≤ 496
 blk : 0 < body.length → ∀ k, (slV u.sl).ownBlock = some k → B k
section
variable {w w' : World} {B G : Nat → Prop} {u : RawU} {kind : Nat} {body : List Nat}
theorem InB.turned (h : InB w B u kind body) (ht : Turned G w w') (hG : ∀ k, B k → ¬ G k) : InB w' B u kind body :=
 ⟨h.ek, h.k8, (h.lv.turnedB_ ht (fun hp k hk => hG k (h.blk hp k hk))).mono_ ht.size, h.len, h.blk⟩
theorem InB.more {B' : Nat → Prop} (h : InB w B u kind body) (hB : ∀ k, B k → B' k) : InB w B' u kind body := ⟨h.ek, h.k8, h.lv, h.len, fun hp k hk => hB k (h.blk hp k hk)⟩
end
structure PyHas (w : World) (fp : Fp) (s : Pp.S) (F : List Nat) (b bf U D P H last frm : Nat) (fP : Int → Option RawU) (fH : Int → Option RawH) : Prop where
 head : Rw w b 79 (pyC bf s U D P H last frm)
 used : IsMp nuM w U 65536 (Pp.usedF s.l)
 drop : IsMp nuM w D 65536 (Pp.dropF s.l)
 pend : IsMp peM w P 65536 fP
 hand : IsMp haM w H 65536 fH
 hpend : ∀ k c, fP k = some c → ∃ x ∈ s.l, (x.n : Int) = k ∧ x.state = 2 ∧ InB w fp.R c x.kind x.body
 there : ∀ x ∈ s.l, x.state = 2 → (fP (x.n : Int)).isSome
 hhand : ∀ k c, fH k = some c → (∃ x ∈ s.l, (x.n : Int) = k ∧ x.state ≠ 2) ∧ c.turn ≤ (last : Int) ∧ ∃ kind body, InB w fp.R c.u kind body ∧ Pp.rdE F k.toNat = (kind, body, 0)
 few : Pp.cnt 65536 fH ≤ s.cache
 last : last ≤ s.turns
 from2 : 2 ≤ frm ∧ frm ≤ 65536
 full : ∀ k : Nat, 2 ≤ k → k < frm → ∃ x ∈ s.l, x.n = k
 sound : Pp.Sound s F
 m : ∀ k, fp.M k ↔ k = b ∨ k = U ∨ k = D ∨ k = P ∨ k = H
 r : ∀ k, fp.R k → ¬ fp.M k ∧ k < w.heap.size
 sb : b ≠ U ∧ b ≠ D ∧ b ≠ P ∧ b ≠ H
 su : U ≠ D ∧ U ≠ P ∧ U ≠ H
 sd : D ≠ P ∧ D ≠ H
 sp : P ≠ H
def PPager (w : World) (fp : Fp) (s : Pp.S) (F : List Nat) (b bf : Nat) : Prop := ∃ U D P H last frm fP fH, PyHas w fp s F b bf U D P H last frm fP fH
def TurnsP (f : Fp) (s : Pp.S) (F : List Nat) (b bf : Nat) (w w' : World) : Prop := ∃ f', PPager w' f' s F b bf ∧ f.Next f' w.heap.size ∧ Turned f.M w w'
section
variable {w w' : World} {fp : Fp} {s : Pp.S} {F : List Nat} {b bf U D P H last frm : Nat} {fP : Int → Option RawU} {fH : Int → Option RawH} {G : Nat → Prop}
theorem PyHas.lts (h : PyHas w fp s F b bf U D P H last frm fP fH) : b < w.heap.size ∧ U < w.heap.size ∧ D < w.heap.size ∧ P < w.heap.size ∧ H < w.heap.size :=
 ⟨h.head.lt, h.used.lt_, h.drop.lt_, h.pend.lt_, h.hand.lt_⟩
theorem PyHas.lt (h : PyHas w fp s F b bf U D P H last frm fP fH) : fp.Lt w.heap.size := fun k hk => by
 have := h.lts
 rcases hk with hk | hk
 ·rcases (h.m k).1 hk with rfl | rfl | rfl | rfl | rfl <;> omega
 ·exact (h.r k hk).2
theorem PyHas.ms (h : PyHas w fp s F b bf U D P H last frm fP fH) : fp.M b ∧ fp.M U ∧ fp.M D ∧ fp.M P ∧ fp.M H := by
 refine ⟨?_, ?_, ?_, ?_, ?_⟩ <;> rw [h.m] <;> simp
theorem PyHas.turned (h : PyHas w fp s F b bf U D P H last frm fP fH) (ht : Turned G w w') (hG : fp.Off G) : PyHas w' fp s F b bf U D P H last frm fP fH := by
 obtain ⟨mb, mU, mD, mP, mH⟩ := h.ms
 have no : ∀ k, fp.M k → ¬ G k := fun k hk hg => (hG k hg).1 hk
 have nr : ∀ k, fp.R k → ¬ G k := fun k hk hg => (hG k hg).2 hk
 exact ⟨(ht.block _ h.head.lt (no _ mb)).trans h.head, h.used.turned_ ht (no _ mU), h.drop.turned_ ht (no _ mD), h.pend.turned_ ht (no _ mP), h.hand.turned_ ht (no _ mH),
  fun k c hk => by obtain ⟨x, h1, h2, h3, h4⟩ := h.hpend k c hk; exact ⟨x, h1, h2, h3, h4.turned ht nr⟩, h.there,
  fun k c hk => by obtain ⟨h1, h2, kind, body, h3, h4⟩ := h.hhand k c hk; exact ⟨h1, h2, kind, body, h3.turned ht nr, h4⟩,
  h.few, h.last, h.from2, h.full, h.sound, h.m, fun k hk => ⟨(h.r k hk).1, Nat.lt_of_lt_of_le (h.r k hk).2 ht.size⟩, h.sb, h.su, h.sd, h.sp⟩
theorem PyHas.below (h : PyHas w fp s F b bf U D P H last frm fP fH) (hb : Below w.heap.size w w') : PyHas w' fp s F b bf U D P H last frm fP fH := h.turned (Turned.of_below hb) (h.lt.off fun _ h => h)
theorem PyHas.cell (h : PyHas w fp s F b bf U D P H last frm fP fH) {i : Nat} {v : Value} (hv : (pyC bf s U D P H last frm)[i]? = some v) : w.cell? ⟨b, i, none⟩ = some v := (h.head.cell i).trans hv
theorem ppager_lt (h : PPager w fp s F b bf) : fp.Lt w.heap.size := by
 obtain ⟨U, D, P, H, last, frm, fP, fH, h⟩ := h
 exact h.lt
theorem ppager_turned (h : PPager w fp s F b bf) (ht : Turned G w w') (hG : fp.Off G) : PPager w' fp s F b bf := by
 obtain ⟨U, D, P, H, last, frm, fP, fH, h⟩ := h
 exact ⟨U, D, P, H, last, frm, fP, fH, h.turned ht hG⟩
theorem PyHas.pend_iff (h : PyHas w fp s F b bf U D P H last frm fP fH) (k : Int) : (fP k).isSome ↔ ∃ x ∈ s.l, (x.n : Int) = k ∧ x.state = 2 := by
 constructor
 ·intro hs
  obtain ⟨c, hc⟩ := Option.isSome_iff_exists.1 hs
  obtain ⟨x, h1, h2, h3, _⟩ := h.hpend k c hc
  exact ⟨x, h1, h2, h3⟩
 ·rintro ⟨x, h1, rfl, h3⟩
  exact h.there x h1 h3
theorem PyHas.small_pend (h : PyHas w fp s F b bf U D P H last frm fP fH) : Pp.Small fP := fun k c hc => by
 obtain ⟨x, h1, h2, _⟩ := h.hpend k c hc
 have := h.sound.from2 x h1
 omega
theorem PyHas.small_hand (h : PyHas w fp s F b bf U D P H last frm fP fH) : Pp.Small fH := fun k c hc => by
 obtain ⟨⟨x, h1, h2, _⟩, _⟩ := h.hhand k c hc
 have := h.sound.from2 x h1
 omega
theorem Pp.small_used {l : List Pa.Page} (h : ∀ x ∈ l, 2 ≤ x.n ∧ x.n < 65536 ∧ (x.state = 1 ∨ x.state = 2 ∨ x.state = 3)) : Pp.Small (Pp.usedF l) := fun k c hc => by
 obtain ⟨x, h1, h2, _⟩ := Pp.usedF_some.1 (by rw [hc]; rfl : (Pp.usedF l k).isSome)
 have := h x h1
 omega
theorem Pp.small_drop {l : List Pa.Page} (h : ∀ x ∈ l, 2 ≤ x.n ∧ x.n < 65536 ∧ (x.state = 1 ∨ x.state = 2 ∨ x.state = 3)) : Pp.Small (Pp.dropF l) := fun k c hc => by
 obtain ⟨x, h1, h2, _⟩ := Pp.dropF_some.1 (by rw [hc]; rfl : (Pp.dropF l k).isSome)
 have := h x h1
 omega
theorem nu_ok (x : Int) : nuM.ok x ↔ I64 x := by
 constructor
 ·intro h
  have h : (Lit.int .i64 x).wf = true := h
  simp [Lit.wf, IntKind.min, IntKind.max, IntKind.signed, IntKind.bits] at h
  unfold I64
  omega
 ·exact i64_ok
theorem pe_ok (x : Int) : peM.ok x ↔ I64 x := nu_ok x
theorem ha_ok (x : Int) : haM.ok x ↔ I64 x := nu_ok x
end
end Go.Proofs.YtiafeniflkikeaaGreat
namespace Go.Proofs.YtiafeniflkikeaaGreat
open Go.RowKit
set_option linter.unusedVariables false
section
variable {w : World} {fp : Fp} {s : Pp.S} {F : List Nat} {b bf U D P H last frm : Nat} {fP : Int → Option RawU} {fH : Int → Option RawH}
set_option maxHeartbeats 1000000 in
set_option maxRecDepth 100000 in
theorem pymade_any (h0 : w.cell? ⟨b, 0, none⟩ = some (.pointer (some ⟨bf, 0, none⟩))) : Calls Tryz.prog 56 #[.pointer (some ⟨b, 0, none⟩)] w (fun e w' => e = .returned (.bool true) ∧ w = w') := by
 go_enter Tryz.func56, Tryz.ntmps56
 go_wp2
 go_ret
 exact ⟨rfl, rfl⟩
set_option maxHeartbeats 1000000 in
set_option maxRecDepth 100000 in
theorem pyplace_any (n : Nat) (hn : n ≤ 65536) (w : World) : Calls Tryz.prog 85 #[.int .i64 (n : Nat)] w (fun e w' => e = .returned (.int .i64 ((512 * n : Nat) : Int)) ∧ w = w') := by
 have hw : IntKind.i64.wrap ((n : Int) * 512) = (n : Int) * 512 := by rw [IntKind.wrap_i64]; omega
 go_enter Tryz.func85, Tryz.ntmps85
 go_wp2
 go_ret
 exact ⟨by rw [show ((512 * n : Nat) : Int) = (n : Int) * 512 by omega]; rfl, rfl⟩
set_option maxHeartbeats 1000000 in
set_option maxRecDepth 100000 in
theorem pyhas_any {g m : Nat} {f : Int → Option Unit} (h : IsMp nuM w g m f) (n : Int) (hn : I64 n) : Calls Tryz.prog 61 #[.map (some g), .int .i64 n] w (IsBool (f n).isSome w) := by
 have hlk : (Instr.lookup 73 (.map (some g)) (.int .i64 n) true).run Tryz.prog w = .ok (.tuple #[.agg #[], .bool (f n).isSome]) w := h.look_ok (K := nuM) (i64_ok hn)
 obtain ⟨c, hc⟩ : ∃ c, (f n).isSome = c := ⟨_, rfl⟩
 rw [hc] at hlk ⊢
 go_enter Tryz.func61, Tryz.ntmps61
 go_wp2
 go_ret
 exact ⟨rfl, (Below.refl _ _).alloc (Nat.le_refl _) _⟩
set_option maxHeartbeats 1000000 in
set_option maxRecDepth 100000 in
theorem pyisPending_any (h : PyHas w fp s F b bf U D P H last frm fP fH) (n : Int) (hn : I64 n) : Calls Tryz.prog 88 #[.pointer (some ⟨b, 0, none⟩), .int .i64 n] w (IsBool (fP n).isSome w) := by
 have hlk : (Instr.lookup 74 (.map (some P)) (.int .i64 n) true).run Tryz.prog w = .ok (.tuple #[uV ((fP n).getD ⟨0, ⟨none, 0, 0⟩⟩), .bool (fP n).isSome]) w := h.pend.look_ok (K := peM) (i64_ok hn)
 obtain ⟨⟨k, ⟨A, n', c'⟩⟩, hu⟩ : ∃ u, (fP n).getD ⟨0, ⟨none, 0, 0⟩⟩ = u := ⟨_, rfl⟩
 rw [hu] at hlk
 simp only [uV, slV] at hlk
 obtain ⟨c, hc⟩ : ∃ c, (fP n).isSome = c := ⟨_, rfl⟩
 rw [hc] at hlk ⊢
 have h11 : w.cell? ⟨b, 11, none⟩ = some (.map (some P)) := h.cell rfl
 clear h
 go_enter Tryz.func88, Tryz.ntmps88
 go_wp2
 go_ret
 exact ⟨rfl, (Below.refl _ _).alloc (Nat.le_refl _) _⟩
theorem PyHas.free_iff (h : PyHas w fp s F b bf U D P H last frm fP fH) (n : Int) : ((Pp.usedF s.l n).isSome || (fP n).isSome) = (Pa.find s.l n).isSome := by
 have h1 := Pp.usedF_some (l := s.l) (k := n)
 have h2 := h.pend_iff n
 have h3 : (Pa.find s.l n).isSome = true ↔ ∃ x ∈ s.l, (x.n : Int) = n := by
  unfold Pa.find
  cases hq : Pa.idx s.l n with
  | none =>
   simp only [Option.bind_none, Option.isSome_none, Bool.false_eq_true, false_iff]
   unfold Pa.idx at hq
   rw [List.findIdx?_eq_none_iff] at hq
   rintro ⟨x, hx, hn⟩
   simpa [hn] using hq x hx
  | some i =>
   obtain ⟨x, hx, hxn⟩ := Pa.idx_lt hq
   simp only [Option.bind_some, hx, Option.isSome_some, true_iff]
   exact ⟨x, List.mem_of_getElem? hx, hxn⟩
 rw [Bool.eq_iff_iff, Bool.or_eq_true, h1, h2, h3]
 constructor
 ·rintro (⟨x, hx, hn, _⟩ | ⟨x, hx, hn, _⟩) <;> exact ⟨x, hx, hn⟩
 ·rintro ⟨x, hx, hn⟩
  by_cases hs : x.state = 2
  ·exact .inr ⟨x, hx, hn, hs⟩
  ·exact .inl ⟨x, hx, hn, hs⟩
set_option maxHeartbeats 1000000 in
set_option maxRecDepth 100000 in
theorem pyisFree_any (h : PyHas w fp s F b bf U D P H last frm fP fH) (n : Int) (hn : I64 n) : Calls Tryz.prog 57 #[.pointer (some ⟨b, 0, none⟩), .int .i64 n] w (IsBool (!(Pa.find s.l n).isSome) w) := by
 have h9 : w.cell? ⟨b, 9, none⟩ = some (.map (some U)) := h.cell rfl
 have CH := Lib.hid (pyhas_any h.used n hn)
 have HF := Lib.hid (h.free_iff n)
 have HP := Lib.hid h
 have HN := Lib.hid hn
 obtain ⟨u, hu⟩ : ∃ u, (Pp.usedF s.l n).isSome = u := ⟨_, rfl⟩
 rw [hu] at CH HF
 clear h hn hu
 cases u with
 | true =>
  go_enter Tryz.func57, Tryz.ntmps57
  go_wp2_with fail
  refine CH.out.mono ?_
  rintro e1 w1 ⟨rfl, b1⟩
  clear CH
  go_wp2
  go_ret
  exact ⟨by rw [← HF.out]; rfl, b1⟩
 | false =>
  go_enter Tryz.func57, Tryz.ntmps57
  go_wp2_with fail
  refine CH.out.mono ?_
  rintro e1 w1 ⟨rfl, b1⟩
  have CP := Lib.hid (pyisPending_any (HP.out.below b1) n HN.out)
  obtain ⟨p, hp⟩ : ∃ u, (fP n).isSome = u := ⟨_, rfl⟩
  rw [hp] at CP HF
  clear CH hp
  go_wp2_with fail
  refine CP.out.mono ?_
  rintro e2 w2 ⟨rfl, b2⟩
  clear CP
  go_wp2
  go_ret
  exact ⟨by rw [← HF.out]; rfl, b1.trans (b2.mono b1.size)⟩
def Pp.need (l : List Pa.Page) (n : Int) : Bool := (Pa.keep l).any (fun x => decide ((x.n : Int) = n))
theorem PyHas.need_iff (h : PyHas w fp s F b bf U D P H last frm fP fH) (n : Int) : ((fP n).isSome || ((Pp.usedF s.l n).isSome && !(Pp.dropF s.l n).isSome)) = Pp.need s.l n := by
 have h1 := Pp.usedF_some (l := s.l) (k := n)
 have h4 := Pp.dropF_some (l := s.l) (k := n)
 have h2 := h.pend_iff n
 have h3 : Pp.need s.l n = true ↔ ∃ x ∈ s.l, (x.n : Int) = n ∧ x.state ≠ 3 := by
  unfold Pp.need Pa.keep
  rw [List.any_eq_true]
  constructor
  ·rintro ⟨x, hx, hn⟩
   have := List.mem_filter.1 hx
   exact ⟨x, this.1, by simpa using hn, by simpa using this.2⟩
  ·rintro ⟨x, hx, hn, hs⟩
   exact ⟨x, List.mem_filter.2 ⟨hx, by simpa using hs⟩, by simpa using hn⟩
 rw [Bool.eq_iff_iff, Bool.or_eq_true, Bool.and_eq_true, Bool.not_eq_true', ← Bool.not_eq_true, h1, h2, h3, h4]
 constructor
 ·rintro (⟨x, hx, hn, hs⟩ | ⟨⟨x, hx, hn, hs⟩, hd⟩)
  ·exact ⟨x, hx, hn, by omega⟩
  ·exact ⟨x, hx, hn, fun e => hd ⟨x, hx, hn, e⟩⟩
 ·rintro ⟨x, hx, hn, hs⟩
  by_cases hs2 : x.state = 2
  ·exact .inl ⟨x, hx, hn, hs2⟩
  ·refine .inr ⟨⟨x, hx, hn, hs2⟩, ?_⟩
   rintro ⟨y, hy, hyn, hys⟩
   have := Pp.rising_inj h.sound.rise hx hy (by omega)
   subst this
   exact hs hys
set_option maxHeartbeats 1000000 in
set_option maxRecDepth 100000 in
theorem pyisNeeded_any (h : PyHas w fp s F b bf U D P H last frm fP fH) (n : Int) (hn : I64 n) : Calls Tryz.prog 60 #[.pointer (some ⟨b, 0, none⟩), .int .i64 n] w (IsBool (Pp.need s.l n) w) := by
 have CP := Lib.hid (pyisPending_any h n hn)
 have HF := Lib.hid (h.need_iff n)
 have HP := Lib.hid h
 have HN := Lib.hid hn
 obtain ⟨p, hp⟩ : ∃ u, (fP n).isSome = u := ⟨_, rfl⟩
 rw [hp] at CP HF
 clear h hn hp
 cases p with
 | true =>
  go_enter Tryz.func60, Tryz.ntmps60
  go_wp2_with fail
  refine CP.out.mono ?_
  rintro e1 w1 ⟨rfl, b1⟩
  clear CP
  go_wp2
  go_ret
  exact ⟨by rw [← HF.out]; rfl, b1⟩
 | false =>
  obtain ⟨u, hu⟩ : ∃ u, (Pp.usedF s.l n).isSome = u := ⟨_, rfl⟩
  rw [hu] at HF
  go_enter Tryz.func60, Tryz.ntmps60
  go_wp2_with fail
  refine CP.out.mono ?_
  rintro e1 w1 ⟨rfl, b1⟩
  have HP1 := Lib.hid (HP.out.below b1)
  have CH := Lib.hid (pyhas_any HP1.out.used n HN.out)
  have h9 : w1.cell? ⟨b, 9, none⟩ = some (.map (some U)) := HP1.out.cell rfl
  rw [hu] at CH
  clear CP hu
  cases u with
  | false =>
   go_wp2_with fail
   refine CH.out.mono ?_
   rintro e2 w2 ⟨rfl, b2⟩
   clear CH
   go_wp2
   go_ret
   exact ⟨by rw [← HF.out]; rfl, b1.trans (b2.mono b1.size)⟩
  | true =>
   go_wp2_with fail
   refine CH.out.mono ?_
   rintro e2 w2 ⟨rfl, b2⟩
   have HP2 := Lib.hid (HP1.out.below b2)
   have CD := Lib.hid (pyhas_any HP2.out.drop n HN.out)
   have h10 : w2.cell? ⟨b, 10, none⟩ = some (.map (some D)) := HP2.out.cell rfl
   clear CH
   obtain ⟨u, hu⟩ : ∃ u, (Pp.dropF s.l n).isSome = u := ⟨_, rfl⟩
   rw [hu] at HF CD
   clear hu
   go_wp2_with fail
   refine CD.out.mono ?_
   rintro e3 w3 ⟨rfl, b3⟩
   clear CD
   go_wp2
   go_ret
   exact ⟨by rw [← HF.out]; rfl, (b1.trans (b2.mono b1.size)).trans (b3.mono (by have := b1.size; have := b2.size; omega))⟩
set_option maxHeartbeats 1000000 in
set_option maxRecDepth 100000 in
theorem pproot_any (h : PPager w fp s F b bf) : Calls Tryz.prog 31 #[.pointer (some ⟨b, 0, none⟩)] w (fun e w' => e = .returned (.agg (rtC s.root)) ∧ Below w.heap.size w w') := by
 obtain ⟨U, D, P, H, last, frm, fP, fH, h⟩ := h
 have h0 : w.cell? ⟨b, 0, none⟩ = some (.pointer (some ⟨bf, 0, none⟩)) := h.cell rfl
 obtain ⟨W, hW⟩ : ∃ W, w.alloc (.cells none7 34) = W := ⟨_, rfl⟩
 have hW0 : W.cell? ⟨b, 0, none⟩ = some (.pointer (some ⟨bf, 0, none⟩)) := by rw [← hW]; exact (h.head.old _).cell 0 |>.trans rfl
 have hb : Below w.heap.size w W := by rw [← hW]; exact (Below.refl _ _).alloc (Nat.le_refl _) _
 have HB := Lib.hid hb
 have hz7 := (zero_of_info (n := 7) rt_zero).1
 have HZ : Hid (Rw W w.heap.size 34 none7) := by unfold Hid; rw [← hW]; exact Rw.new w _ _
 have HN7 : Hid (none7.size = 7) := rfl
 have HH := Lib.hid (h.below hb)
 have CM := Lib.hid (pymade_any hW0)
 obtain ⟨N, hN⟩ : ∃ N, none7 = N := ⟨_, rfl⟩
 rw [hN] at hW HZ hz7 HN7
 obtain ⟨C, hC⟩ : ∃ C, rtC s.root = C := ⟨_, rfl⟩
 have HC := Lib.hid hC
 have hszC : (Tryz.prog.info? 34).map (·.size) = some C.size := by rw [← hC]; exact rt_size
 have honeC : C.all (·.oneCell') = true := by rw [← hC]; exact rtC_one _
 have hNC : N.size = C.size := by rw [HN7.out, ← hC]; rfl
 have hrg : W.rangeAt b 2 C.toList := by
  intro j u hj
  rw [← hC] at hj
  have hj7 : j < 7 := (List.getElem?_eq_some_iff.1 hj).1
  have hi : j = 0 ∨ j = 1 ∨ j = 2 ∨ j = 3 ∨ j = 4 ∨ j = 5 ∨ j = 6 := by omega
  rcases hi with rfl | rfl | rfl | rfl | rfl | rfl | rfl <;> exact (HH.out.cell rfl).trans hj
 rw [hC]
 clear h h0 hW0 hN hC hb
 go_enter Tryz.func31, Tryz.ntmps31
 go_wp2_with fail
 refine CM.out.mono ?_
 rintro e1 w1 ⟨rfl, rfl⟩
 clear CM
 go_wp2_with (first
  | ((with_reducible refine gate_load 34 ?_); refine wpList_load_mid rfl 34 _ rfl b 2 rfl C.toList _ hrg Tryz.underlying34 rfl (by simpa using hszC) ?_)
  | ((with_reducible refine gate_store 34 ?_); refine wpList_store_row rfl 34 _ _ rfl w.heap.size C rfl rfl 34 N HZ.out hszC hNC honeC ?_))
 refine bodyPost_ret (v := .agg C) (results_cell_row rfl _ _ w.heap.size 34 C (0, 0) _ rfl (Rw.row HZ.out C) Tryz.underlying34 rfl hszC) rfl ⟨rfl, below_setRow HB.out (Nat.le_refl _) _⟩
end
end Go.Proofs.YtiafeniflkikeaaGreat
