/- Parts of the proof. -/
import Derived.Test.YtiafeniflkikeaaGreatPm04
import Derived.Deep.Slices
import Derived.Deep.Fields
import Derived.OpenShut
import Derived.Test.YtiafeniflkikeaaGreatPm05
import Derived.Test.YtiafeniflkikeaaGreatPm06
namespace Go.Proofs.YtiafeniflkikeaaGreat
open Go.ChangeShapes Go.WideShapes Go.RowKit Go.Deep
set_option linter.unusedVariables false
theorem lv_open {H : Type} {enc : TypeId × Value → H} {P : Program} {w : World} {base : Nat} {spare : Nat → Bool} {held : Bool} {α : Type} (K : El P α) (hce : P.cellsOf K.e = K.size)
  (dec : ∀ (fuel : Nat) (cs : List Value) (x : DataW H × List MemPlace), DataW.trod enc P w base spare held fuel K.e cs = some x → ∃ a, K.ok a ∧ cs = K.enc a)
  {fuel : Nat} {a : Option Addr} {len cap : Nat} {x : DataW H × List MemPlace} (h : DataW.trod enc P w base spare held fuel K.s [.slice a len cap] = some x) :
  ∃ l : List α, l.length = len ∧ Lv K w w.heap.size (.slice a len cap) l := by
 rcases open_slice K.under h with ⟨h0, _⟩ | ⟨ad, len', cap', m, n, D, Pl, h0, _, hl, hm, hmm, _, hx⟩
 ·simp at h0
  obtain ⟨rfl, rfl, rfl⟩ := h0
  exact ⟨[], rfl, Lv.nil_ _ _ _⟩
 ·simp at h0
  obtain ⟨rfl, rfl, rfl⟩ := h0
  have hlm : len ≤ m := by rw [hmm]; split <;> omega
  haveI : Inhabited α := ⟨K.z⟩
  obtain ⟨f, hf⟩ := choose_lt (α := α) (n := len) (p := fun i y => K.ok y ∧ ∀ j u, (K.enc y)[j]? = some u → w.cell? ((ad.add (i * K.size)).add j) = some u) (fun i hi => by
   obtain ⟨cs', h1, h2⟩ := hx i (by omega)
   obtain ⟨y, hy, rfl⟩ := dec _ _ _ h2
   rw [hce] at h1
   obtain ⟨_, _, hcell⟩ := World.cells?_some h1
   refine ⟨y, hy, fun j u hj => ?_⟩
   have hjs : j < K.size := by have := (List.getElem?_eq_some_iff.1 hj).1; rw [K.len] at this; exact this
   rw [hcell j hjs]
   exact hj)
  have hlen : ((List.range len).map f).length = len := by simp
  refine ⟨(List.range len).map f, hlen, some ad, cap, by rw [hlen], by omega, hm, by simp, ?_, fun hp => ?_⟩
  ·intro y hy
   obtain ⟨i, hi, rfl⟩ := List.mem_map.1 hy
   exact (hf i (List.mem_range.1 hi)).1
  ·rw [hlen] at hp
   obtain ⟨b, off, spot⟩ := ad
   have hs0 := K.pos
   have hz : (K.enc (f 0)).length = K.size := K.len _
   have hc0 := (hf 0 hp).2 0 _ (List.getElem?_eq_getElem (by omega))
   have hspot : spot = none := by simpa [Addr.add] using World.cell?_spot hc0
   subst hspot
   simp only [add_addr] at hf hc0
   refine ⟨b, off, rfl, World.block_lt_of_cell? w _ hc0, fun j u hj => ?_⟩
   have hj2 : j < len * K.size := by have := (List.getElem?_eq_some_iff.1 hj).1; rw [flat_len, hlen] at this; exact this
   have hq : j / K.size < len := (Nat.div_lt_iff_lt_mul hs0).2 hj2
   have hr : j % K.size < K.size := Nat.mod_lt _ hs0
   have hat := flat_at (K := K) (l := (List.range len).map f) (i := j / K.size) (x := f (j / K.size)) (by simp [hq]) hr
   rw [Nat.div_add_mod' j K.size] at hat
   rw [hat] at hj
   have := (hf _ hq).2 _ u hj
   rw [Nat.add_assoc, Nat.div_add_mod' j K.size] at this
   exact this
end Go.Proofs.YtiafeniflkikeaaGreat
namespace Go.Proofs.YtiafeniflkikeaaGreat
open Go.ChangeShapes Go.WideShapes Go.RowKit Go.Deep
set_option linter.unusedVariables false
end Go.Proofs.YtiafeniflkikeaaGreat
namespace Go.Proofs.YtiafeniflkikeaaGreat
open Go.ChangeShapes Go.WideShapes Go.RowKit
set_option linter.unusedVariables false
theorem octs_in {H : Type} {enc : TypeId × Value → H} {w : World} {sp : Nat → Bool} {held : Bool} {fuel : Nat} {a : Option Addr} {len cap : Nat} {x : DataW H × List MemPlace} (h : DataW.trod enc Tryz.prog w 0 sp held fuel 40 [.slice a len cap] = some x) :
  ∃ l : List Nat, l.length = len ∧ Lv yK w w.heap.size (.slice a len cap) l :=
 lv_open yK (by kernel_rfl) (fun fuel cs x h => by
  obtain ⟨n, rfl, _, hw⟩ := DataW.trod_int Tryz.underlying5 h
  have hb := bounds_u8 hw
  obtain ⟨t, rfl⟩ := Int.eq_ofNat_of_zero_le hb.1
  exact ⟨t, (by show _ < _; omega), rfl⟩) h
end Go.Proofs.YtiafeniflkikeaaGreat
namespace Go.Proofs.YtiafeniflkikeaaGreat
open Go.ChangeShapes Go.WideShapes Go.RowKit Go.Deep
set_option linter.unusedVariables false
namespace Pa
structure Act where
 do_ : Int
 n : Int
 any : Bool
 kind : Nat
 body : List Nat
 root : Rt.Root
end Pa
structure RawT where
 do_ : Int
 n : Int
 any : Bool
 kind : Nat
 A : Option Addr
 m : Nat
 c : Nat
 root : Rt.Root
def RawTOk (x : RawT) : Prop := I64 x.do_ ∧ I64 x.n ∧ x.kind < 256 ∧ Rt.Fit x.root
def actL (x : RawT) : List Value := [.int .i64 x.do_, .int .i64 x.n, .bool x.any, .int .u8 (x.kind : Nat), .slice x.A x.m x.c, .int .u64 (x.root.seq : Nat), .int .i64 x.root.page, .int .i64 x.root.pages, .int .u64 (x.root.lsn : Nat), .int .u64 (x.root.next : Nat), .int .i64 x.root.shard, .int .i64 x.root.tail]
def tK : El Tryz.prog RawT where
 e := 42
 s := 22
 size := 12
 bytes := 104
 zero := .agg #[.int .i64 0, .int .i64 0, .bool false, .int .u8 0, .slice none 0 0, .int .u64 0, .int .i64 0, .int .i64 0, .int .u64 0, .int .u64 0, .int .i64 0, .int .i64 0]
 z := ⟨0, 0, false, 0, none, 0, 0, Rt.zero⟩
 enc := actL
 ok := RawTOk
 len := fun _ => rfl
 one := fun x u hu => by simp [actL] at hu; rcases hu with rfl | rfl | rfl | rfl | rfl | rfl | rfl | rfl | rfl | rfl | rfl | rfl <;> rfl
 okz := ⟨by simp [I64], by simp [I64], by decide, Rt.fit_zero⟩
 encz := rfl
 pos := by decide
 under := Tryz.underlying22
 info := by kernel_rfl
def ActOf (w : World) (B : Nat) (x : RawT) (o : Pa.Act) : Prop :=
 o.do_ = x.do_ ∧ o.n = x.n ∧ o.any = x.any ∧ o.kind = x.kind ∧ o.root = x.root ∧ Lv yK w B (.slice x.A x.m x.c) o.body
def Av (w : World) (B : Nat) (v : Value) (l : List Pa.Act) : Prop :=
 ∃ us : List RawT, us.length = l.length ∧ Lv tK w B v us ∧ ∀ (j : Nat) (x : RawT) (o : Pa.Act), us[j]? = some x → l[j]? = some o → ActOf w B x o
def actC (x : RawT) : Array Value := (actL x).toArray
section
variable {w w' : World} {B : Nat} {v : Value} {l : List Pa.Act}
theorem Av.len_ {A : Option Addr} {n c : Nat} (h : Av w B (.slice A n c) l) : n = l.length := by
 obtain ⟨us, h1, h2, _⟩ := h
 rw [h2.len_.1, h1]
theorem Av.at_ {A : Option Addr} {n c : Nat} (h : Av w B (.slice A n c) l) {k : Nat} (hk : k < l.length) :
  ∃ b off x o, A = some ⟨b, off, none⟩ ∧ b < B ∧ RawTOk x ∧ l[k]? = some o ∧ ActOf w B x o ∧ w.rangeAt b (off + k * 12) (actC x).toList := by
 obtain ⟨us, h1, h2, h3⟩ := h
 obtain ⟨b, off, x, hA, hb, hx, hq, hm⟩ := h2.mid_ (k := k) (by omega)
 exact ⟨b, off, x, l[k], hA, hb, hx, List.getElem?_eq_getElem hk, h3 k x _ hq (List.getElem?_eq_getElem hk), hm⟩
end
theorem actL_inj (a b : RawT) (h : tK.enc a = tK.enc b) : a = b := by
 obtain ⟨a1, a2, a3, a4, a5, a6, a7, ⟨r1, r2, r3, r4, r5, r6, r7⟩⟩ := a
 obtain ⟨b1, b2, b3, b4, b5, b6, b7, ⟨s1, s2, s3, s4, s5, s6, s7⟩⟩ := b
 simp only [tK, actL, List.cons.injEq, Value.int.injEq, Value.bool.injEq, Value.slice.injEq, and_true, true_and] at h
 obtain ⟨h1, h2, h3, h4, ⟨h5, h6, h7⟩, h8, h9, h10, h11, h12, h13, h14⟩ := h
 obtain rfl := Int.ofNat.inj h4
 obtain rfl := Int.ofNat.inj h8
 obtain rfl := Int.ofNat.inj h11
 obtain rfl := Int.ofNat.inj h12
 subst h1 h2 h3 h5 h6 h7 h9 h10 h13 h14
 rfl
end Go.Proofs.YtiafeniflkikeaaGreat
