/-
  PkXor: Exclusive or with all bits, with none.
  PkProA: pack: Fold, Unfold.
  PkProB: pack: differences.
  Words: The words for memory once more, for slices of numbers.
-/
import Derived.Test.YtkialijipcbgkaaPk23
import Derived.Test.YtkialijipcbgkaaPk26
import Derived.Test.YtkialijipcbgkaaPk27
import Derived.Test.YtkialijipcbgkaaPk03
import Derived.BigRegion
import Derived.Test.YtkialijipcbgkaaPk01
namespace Go.Proofs.Ytkialijipcbgkaa
open Go.RowKit
set_option linter.unusedVariables false
namespace Pk
theorem ofInt_nat (m : Nat) : BitVec.ofInt 64 (m : Int) = BitVec.ofNat 64 m := BitVec.ofInt_natCast ..
theorem xor_none (m : Nat) (h : m < 18446744073709551616) : bits .xor .u64 (m : Int) 0 = (m : Int) := by
  obtain ⟨x, rfl⟩ := nl_of_u64 h
  have h1 := xor_l x 0#64
  have h2 : ((nl 0#64 : Nat) : Int) = 0 := rfl
  rw [h2] at h1
  rw [h1, BitVec.xor_zero]
theorem not_nl (x : W64) : nl (x ^^^ BitVec.allOnes 64) = 18446744073709551615 - nl x := by
  rw [BitVec.xor_allOnes]
  unfold nl
  rw [BitVec.toNat_not]
theorem ones_nl : nl (BitVec.allOnes 64) = 18446744073709551615 := by decide
theorem xor_all (m : Nat) (h : m < 18446744073709551616) : bits .xor .u64 (m : Int) 18446744073709551615 = ((18446744073709551615 - m : Nat) : Int) := by
  obtain ⟨x, rfl⟩ := nl_of_u64 h
  have h1 := xor_l x (BitVec.allOnes 64)
  rw [ones_nl, not_nl] at h1
  exact h1
theorem ixor_none (m : Nat) (h : m < 9223372036854775808) : bits .xor .i64 (m : Int) 0 = (m : Int) := by
  show IntKind.i64.wrap ((BitVec.ofInt 64 (m : Int) ^^^ BitVec.ofInt 64 0).toNat : Int) = _
  have h0 : BitVec.ofInt 64 0 = 0#64 := rfl
  rw [h0, BitVec.xor_zero, ofInt_nat, BitVec.toNat_ofNat, IntKind.wrap_i64]
  omega
theorem ixor_all (m : Nat) (h : m < 9223372036854775808) : bits .xor .i64 (m : Int) (-1) = -(m : Int) - 1 := by
  show IntKind.i64.wrap ((BitVec.ofInt 64 (m : Int) ^^^ BitVec.ofInt 64 (-1)).toNat : Int) = _
  have h0 : BitVec.ofInt 64 (-1) = BitVec.allOnes 64 := by decide
  rw [h0, BitVec.xor_allOnes, BitVec.toNat_not, ofInt_nat, BitVec.toNat_ofNat, IntKind.wrap_i64]
  omega
theorem and_one (u : Nat) (h : u < 18446744073709551616) : bits .and .u64 (u : Int) 1 = ((u % 2 : Nat) : Int) := by
  obtain ⟨x, rfl⟩ := nl_of_u64 h
  have h1 := and_l x 1#64
  have h2 : ((nl 1#64 : Nat) : Int) = 1 := rfl
  rw [h2] at h1
  rw [h1]
  unfold nl
  rw [BitVec.toNat_and]
  show ((x.toNat &&& 1 : Nat) : Int) = _
  rw [Nat.and_one_is_mod]
theorem fold_pos {n : Int} (h0 : 0 ≤ n) (h1 : n < 9223372036854775808) : bits .xor .u64 (n * 2) (n / 9223372036854775808) = (fold n : Nat) := by
  have e1 : n / 9223372036854775808 = 0 := by omega
  have e2 : n * 2 = ((2 * n.toNat : Nat) : Int) := by omega
  unfold fold
  rw [if_pos h0, e1, e2, xor_none _ (by omega)]
theorem fold_neg {n : Int} (h0 : n < 0) (h1 : -9223372036854775808 ≤ n) : bits .xor .u64 (IntKind.u64.wrap (IntKind.u64.wrap n * 2)) (IntKind.u64.wrap (n / 9223372036854775808)) = (fold n : Nat) := by
  have e1 : IntKind.u64.wrap (n / 9223372036854775808) = 18446744073709551615 := by rw [IntKind.wrap_u64]; omega
  have e2 : IntKind.u64.wrap (IntKind.u64.wrap n * 2) = ((18446744073709551615 - (2 * (-(n + 1)).toNat + 1) : Nat) : Int) := by
    rw [IntKind.wrap_u64, IntKind.wrap_u64]; omega
  unfold fold
  rw [if_neg (by omega), e1, e2, xor_all _ (by omega)]
  omega
theorem unfold_bits {u : Nat} (hu : u < 18446744073709551616) : bits .xor .i64 ((u : Int) / 2) (wrap64 (-wrap64 (bits .and .u64 (u : Int) 1))) = unfold u := by
  have e2 : (u : Int) / 2 = ((u / 2 : Nat) : Int) := by omega
  rw [and_one u hu, e2]
  unfold unfold
  split
  · rename_i h
    have e1 : wrap64 (-wrap64 ((u % 2 : Nat) : Int)) = 0 := by rw [h]; unfold wrap64; decide
    rw [e1, ixor_none _ (by omega)]
  · rename_i h
    have e1 : wrap64 (-wrap64 ((u % 2 : Nat) : Int)) = -1 := by
      have : u % 2 = 1 := by omega
      rw [this]; unfold wrap64; decide
    rw [e1, ixor_all _ (by omega)]
end Pk
end Go.Proofs.Ytkialijipcbgkaa
namespace Go.Proofs.Ytkialijipcbgkaa
open Go.RowKit
theorem pfold_any (n : Int) (hn : I64 n) (w : World) : Calls Try.prog 78 #[.int .i64 n] w (fun e w' => e = .returned (.int .u64 (Pk.fold n : Nat)) ∧ w = w') := by
  unfold I64 at hn
  by_cases h : 0 ≤ n
  · have HF := Lib.hid (Pk.fold_pos h (by omega))
    have h1 : IntKind.u64.wrap n = n := by rw [IntKind.wrap_u64]; omega
    go_enter Try.func78, Try.ntmps78
    go_wp2
    go_ret
    exact ⟨congrArg (fun x => Ending.returned (Value.int _ x)) HF.out, rfl⟩
  · have HF := Lib.hid (Pk.fold_neg (n := n) (by omega) (by omega))
    go_enter Try.func78, Try.ntmps78
    go_wp2
    go_ret
    exact ⟨congrArg (fun x => Ending.returned (Value.int _ x)) HF.out, rfl⟩
theorem punfold_any (u : Nat) (hu : u < 18446744073709551616) (w : World) : Calls Try.prog 80 #[.int .u64 (u : Nat)] w (fun e w' => e = .returned (.int .i64 (Pk.unfold u)) ∧ w = w') := by
  have HF := Lib.hid (Pk.unfold_bits hu)
  go_enter Try.func80, Try.ntmps80
  go_wp2
  go_ret
  exact ⟨congrArg (fun x => Ending.returned (Value.int _ x)) HF.out, rfl⟩
end Go.Proofs.Ytkialijipcbgkaa
namespace Go.Proofs.Ytkialijipcbgkaa
open Go.RowKit
set_option linter.unusedVariables false
set_option maxHeartbeats 2000000 in
set_option maxRecDepth 100000 in
theorem pdif_any (v : Value) (l : List Int) (B : Nat) (w : World) (hB : B ≤ w.heap.size) (h : Lv iK w B v l) :
    Calls Try.prog 52 #[v] w (IsLE wK (Pk.difE l) w) := by
  have H0 := Lib.hid h
  obtain ⟨A, c, rfl, hc1, hc2, _, _⟩ := h
  have hl : l.length ≤ 9223372036854775807 := by simp only [maxLen] at hc2; omega
  by_cases hbig : 65536 < l.length
  · have hbi : (65536 : Int) < (l.length : Int) := by omega
    have HE : Hid (Pk.difE l = ([], 3)) := if_pos hbig
    clear hbig hc1 hc2
    go_enter Try.func52, Try.ntmps52
    go_wp2
    go_ret2
    exact IsLE.none_b HE.out rfl (Below.refl _ _)
  · have hbi : ¬ (65536 : Int) < (l.length : Int) := by omega
    have HPE : Hid (Pk.difE l = if ∀ t ∈ l, Pk.Tok t then (Pk.dif 0 l, 0) else ([], 2)) := if_neg hbig
    clear hc1 hc2
    go_enter Try.func52, Try.ntmps52
    go_wp2_with (at_make; go_must (refine wpList_make_l _ wK rfl _ _ rfl w.heap.size .i64 .i64 _ _ 0 l.length rfl rfl rfl rfl (Nat.zero_le _) (by show 8 * _ ≤ _; omega) (by simp only [maxLen]; omega) (Nat.le_refl _) ?_; intro w1 hO hG))
    have HO : Hid (OwnL wK w1 w.heap.size (.slice (some ⟨w.heap.size, 0, none⟩) 0 l.length) []) := hO
    have HB : Hid (Below w.heap.size w w1) := (Below.refl _ _).grown hG (Nat.le_refl _) (by intro k hk; cases hk)
    clear hO hG
    go_loopw [4, 5, 7, 16] (fun u ws tk i wr => ∃ (k : Nat) (y : List Nat) (was : Int), k ≤ l.length ∧ i = .int .i64 (k : Nat) ∧ ws = .int .i64 was ∧ Hid (was = (l.take k).getLastD 0 ∧ Pk.Tok was ∧ ∀ t ∈ l.take k, Pk.Tok t) ∧ Hid (OwnL wK wr w.heap.size u y) ∧ Hid (y = Pk.dif 0 (l.take k)) ∧ Below w.heap.size w wr) (fun _ _ _ i _ => l.length - (intOf i).toNat)
    case atStart => exact ⟨0, [], 0, by omega, rfl, rfl, ⟨rfl, by unfold Pk.Tok; omega, by simp⟩, HO.out, by simp [Hid, Pk.dif], HB.out⟩
    case round =>
      obtain ⟨k, y, was, hk, rfl, rfl, HT, HY, HE, hbr⟩ := hrel
      have hbase : w.heap.size ≤ wr.heap.size := hbr.size
      clear HO HB
      by_cases hlt : k < l.length
      · have hki : (k : Int) < (l.length : Int) := by omega
        have hk0 : (0 : Int) ≤ (k : Int) := by omega
        have wk : IntKind.i64.wrap ((k : Int) + 1) = (k : Int) + 1 := by rw [IntKind.wrap_i64]; omega
        obtain ⟨b, off, x, rfl, hb, hx, hq, hcell0⟩ := H0.out.int_ hlt
        have DX0 : Hid (∀ w', Below w.heap.size w w' → w'.cell? ⟨b, off + k, none⟩ = some (.int .i64 x)) := fun w' hb' => (hb'.cell (p := ⟨b, off + k, none⟩) (by show b < _; omega)).trans hcell0
        have hcell := DX0.out wr hbr
        clear hcell0
        by_cases htk : Pk.Tok x
        · have hx0 : ¬ x < 0 := by unfold Pk.Tok at htk; omega
          have hx1 : ¬ 1048575 < x := by unfold Pk.Tok at htk; omega
          have hwt := HT.out.2.1
          have hf := Pk.fold_tok htk hwt
          have wsb : IntKind.i64.wrap (x - was) = x - was := by unfold Pk.Tok at htk hwt; rw [IntKind.wrap_i64]; omega
          have HF := Lib.hid (pfold_any (x - was) (by unfold Pk.Tok at htk hwt; unfold I64; omega) wr)
          have HT2 : Hid (x = (l.take (k + 1)).getLastD 0 ∧ Pk.Tok x ∧ ∀ t ∈ l.take (k + 1), Pk.Tok t) := by
            unfold Hid
            rw [Pk.take_more hq]
            refine ⟨(Pk.getLastD_snoc _ _ _).symm, htk, fun t ht => ?_⟩
            rcases List.mem_append.1 ht with h | h
            · exact HT.out.2.2 t h
            · rw [List.mem_singleton.1 h]; exact htk
          have HE2 : Hid (y ++ [Pk.fold (x - was)] = Pk.dif 0 (l.take (k + 1))) := by
            unfold Hid
            rw [Pk.dif_more hq, HE.out, ← HT.out.1]
          have hyl : y.length = k := by
            rw [HE.out, Pk.dif_len, List.length_take]
            omega
          have HKx : Hid (U64 (Pk.fold (x - was))) := by unfold Hid U64; omega
          have HYL := Lib.hid hyl
          clear hq hb hx htk hwt hf HT HE hyl
          go_wp2_with fail
          ((with_reducible refine HF.out.mono ?_); rintro e w2 ⟨rfl, rfl⟩)
          go_wp2_with (at_builtin; go_must (refine wpList_push_l _ wK rfl _ _ rfl w.heap.size _ rfl y HY.out rfl (Pk.fold (x - was)) HKx.out _ rfl _ rfl (by have := HYL.out; show _ * 8 ≤ _; omega) (by have := HYL.out; simp only [maxLen]; omega) hbase ?_; intro A3 c3 w5 hA hG; have dz : w5.cell? ⟨b, off + k, none⟩ = some (.int .i64 x) := DX0.out w5 (hbr.grown hG hbase (fun k hk => (HY.out.lt_ k hk).1))))
          go_roundw
          case rel => exact ⟨k + 1, y ++ [Pk.fold (x - was)], x, by omega, by go_num, rfl, HT2.out, hA, HE2.out, hbr.grown hG hbase (fun k hk => (HY.out.lt_ k hk).1)⟩
          case measure => simp [intOf]; omega
        · have HEE : Hid (Pk.difE l = ([], 2)) := by
            unfold Hid
            rw [HPE.out, if_neg (fun h => htk (h x (List.mem_of_getElem? hq)))]
          by_cases hx0 : x < 0
          · clear hq hb hx htk HT HE HPE
            go_wp2
            go_ret2
            exact IsLE.none_b HEE.out rfl hbr
          · have hx1 : 1048575 < x := by unfold Pk.Tok at htk; omega
            clear hq hb hx htk HT HE HPE
            go_wp2
            go_ret2
            exact IsLE.none_b HEE.out rfl hbr
      · have hki : ¬ (k : Int) < (l.length : Int) := by omega
        have hkk : k = l.length := by omega
        have HEE : Hid (Pk.difE l = (y, 0)) := by
          unfold Hid
          have ht : l.take k = l := by rw [hkk, List.take_length]
          rw [HPE.out, HE.out]
          have h2 := HT.out.2.2
          rw [ht] at h2 ⊢
          rw [if_pos h2]
        obtain ⟨A2, c2, ev, _⟩ := HY.out.form_
        clear HE HT HPE
        subst ev
        go_wp2
        go_ret2
        exact IsLE.of HEE.out rfl rfl HY.out hbr
end Go.Proofs.Ytkialijipcbgkaa
namespace Go.Proofs.Ytkialijipcbgkaa
open Go.RowKit
set_option linter.unusedVariables false

/-- The slice with address A and length l.length holds the bytes l, in a block below B. -/
def Wts (w : World) (B : Nat) (A : Option Addr) (l : List Nat) : Prop :=
  (∀ x ∈ l, Mt.B64 x) ∧ (0 < l.length → ∃ b off, A = some ⟨b, off, none⟩ ∧ b < B ∧ ∀ j c, l[j]? = some c → w.cell? ⟨b, off + j, none⟩ = some (.int .u64 (c : Nat)))

section
variable {w w' : World} {B B' : Nat} {A : Option Addr} {l : List Nat}
theorem Wts.nil_ (w : World) (B : Nat) (A : Option Addr) : Wts w B A [] := ⟨by simp, by simp⟩
theorem Wts.at_ (h : Wts w B A l) {k : Nat} (hk : k < l.length) :
    ∃ b off c, A = some ⟨b, off, none⟩ ∧ b < B ∧ Mt.B64 c ∧ l.drop k = c :: l.drop (k + 1) ∧ w.cell? ⟨b, off + k, none⟩ = some (.int .u64 (c : Nat)) := by
  obtain ⟨b, off, e, hb, hc⟩ := h.2 (by omega)
  exact ⟨b, off, l[k], e, hb, h.1 _ (List.getElem_mem hk), List.drop_eq_getElem_cons hk, hc k _ (List.getElem?_eq_getElem hk)⟩
theorem Wts.below (h : Wts w B A l) (hb : Below B' w w') (hB : B ≤ B') : Wts w' B A l :=
  ⟨h.1, fun hn => by
    obtain ⟨b, off, e, hl, hc⟩ := h.2 hn
    exact ⟨b, off, e, hl, fun j c hj => (hb.cell (p := ⟨b, off + j, none⟩) (by show b < B'; omega)).trans (hc j c hj)⟩⟩
theorem Wts.mono (h : Wts w B A l) (hB : B ≤ B') : Wts w B' A l :=
  ⟨h.1, fun hn => by
    obtain ⟨b, off, e, hl, hc⟩ := h.2 hn
    exact ⟨b, off, e, by omega, hc⟩⟩
end

def u64v (x : Nat) : Value := .int .u64 (x : Nat)

/-- The call's own slice v, in a block from base on, holds the bytes l. -/
def OwnW (w : World) (base : Nat) (v : Value) (l : List Nat) : Prop := (∀ x ∈ l, Mt.B64 x) ∧ w.ownsRow base 24 1 v l.length (l.map u64v)

/-- The value v is a slice that holds the bytes l, in a block below B. -/
def Wv (w : World) (B : Nat) (v : Value) (l : List Nat) : Prop := ∃ A c, v = .slice A l.length c ∧ l.length ≤ c ∧ c ≤ maxLen ∧ (A = none → c = 0) ∧ Wts w B A l

theorem infoWord : (Try.prog.info? 24).map (fun i => (i.zero, i.size, i.bytes)) = some (some (.int .u64 0), 1, 8) := by kernel_rfl

section
variable {w w' : World} {base B : Nat} {v : Value} {l : List Nat}
theorem OwnW.nil_ (w : World) (base : Nat) : OwnW w base (.slice none 0 0) [] := ⟨by simp, World.ownsRow_nil w base _ 1⟩
theorem OwnW.lt_ (h : OwnW w base v l) : ∀ k, v.ownBlock = some k → base ≤ k ∧ k < w.heap.size := h.2.lt
theorem OwnW.form_ (h : OwnW w base v l) : Wv w w.heap.size v l := by
  obtain ⟨hb, hl, ⟨rfl, h0⟩ | ⟨g, cap, cur, rfl, hg, hh, hn, hc, hs, ht⟩⟩ := h
  · obtain rfl : l = [] := List.eq_nil_of_length_eq_zero h0
    exact ⟨none, 0, rfl, by simp, by simp [maxLen], by simp, Wts.nil_ _ _ _⟩
  · refine ⟨some ⟨g, 0, none⟩, cap, rfl, hn, hc, by simp, hb, fun _ => ⟨g, 0, rfl, ?_, fun j c hj => ?_⟩⟩
    · rcases Nat.lt_or_ge g w.heap.size with h1 | h1
      · exact h1
      · rw [Array.getElem?_eq_none h1] at hh; cases hh
    · rw [Nat.zero_add, cell_of_row w g j cur _ (0, 0) hh]
      have hj' : j < l.length := (List.getElem?_eq_some_iff.1 hj).1
      have h2 : (l.map u64v)[j]? = some (u64v c) := by rw [List.getElem?_map, hj]; rfl
      rw [← ht, List.getElem?_take, if_pos (by omega)] at h2
      simpa [u64v] using h2
theorem OwnW.kept_ (h : OwnW w base v l) {row : Option Nat} (hg : w.grownBy w' row) (hne : v.ownBlock = none ∨ v.ownBlock ≠ row) : OwnW w' base v l := ⟨h.1, h.2.kept hg hne⟩
theorem OwnW.alloc_ (h : OwnW w base v l) (o : Obj) : OwnW (w.alloc o) base v l := ⟨h.1, h.2.alloc o⟩
theorem OwnW.drewN_ (h : OwnW w base v l) (n : Nat) : OwnW (w.drewN n) base v l := h
theorem OwnW.below_ (h : OwnW w base v l) {B : Nat} (hb : Below B w w') (hB : w.heap.size ≤ B) : OwnW w' base v l := by
  refine ⟨h.1, h.2.1, ?_⟩
  rcases h.2.2 with hn | ⟨g, cap, cur, rfl, hg, hh, hr⟩
  · exact .inl hn
  · refine .inr ⟨g, cap, cur, rfl, hg, ?_, hr⟩
    have hlt : g < w.heap.size := (Array.getElem?_eq_some_iff.1 hh).1
    rw [hb.block g (by omega)]
    exact hh
theorem OwnW.mono_ (h : OwnW w base v l) {base' : Nat} (hb : base' ≤ base) : OwnW w base' v l := by
  refine ⟨h.1, h.2.1, ?_⟩
  rcases h.2.2 with hn | ⟨g, cap, cur, rfl, hg, hr⟩
  · exact .inl hn
  · exact .inr ⟨g, cap, cur, rfl, by omega, hr⟩
theorem OwnW.lit_ (w : World) {base : Nat} (hb : base ≤ w.heap.size) {c : Nat} {x : Int} (hx : x = (c : Nat)) (hc : Mt.B64 c) : OwnW (w.alloc (.cells #[.int .u64 x] 24)) base (.slice (some ⟨w.heap.size, 0, none⟩) 1 1) [c] := by
  subst hx
  exact ⟨by simpa using hc, by simpa [u64v] using World.ownsRow_lit (base := base) (e := 24) (size := 1) w #[.int .u64 (c : Nat)] 1 hb (by simp [maxLen]) (by simp)⟩
theorem Wv.below_ (h : Wv w B v l) {B' : Nat} (hb : Below B' w w') (hB : B ≤ B') : Wv w' B v l := by
  obtain ⟨A, c, e, h1, h2, h3, h4⟩ := h
  exact ⟨A, c, e, h1, h2, h3, h4.below hb hB⟩
theorem Wv.mono_ (h : Wv w B v l) {B' : Nat} (hB : B ≤ B') : Wv w B' v l := by
  obtain ⟨A, c, e, h1, h2, h3, h4⟩ := h
  exact ⟨A, c, e, h1, h2, h3, h4.mono hB⟩
theorem Wv.take_ {A : Option Addr} {n c : Nat} (h : Wv w B (.slice A n c) l) {k : Nat} (hk : k ≤ l.length) : Wv w B (.slice A k c) (l.take k) := by
  obtain ⟨A', c', e, h1, h2, h3, h4, h5⟩ := h
  injection e with e1 e2 e3
  subst e1 e3
  refine ⟨A, c, by rw [List.length_take, Nat.min_eq_left hk], by rw [List.length_take]; omega, h2, h3, fun x hx => h4 x (List.mem_of_mem_take hx), fun hp => ?_⟩
  obtain ⟨b, off, e, hb, hc⟩ := h5 (by rw [List.length_take] at hp; omega)
  refine ⟨b, off, e, hb, fun j u hj => hc j u ?_⟩
  rw [List.getElem?_take] at hj
  split at hj
  · exact hj
  · cases hj
theorem Wv.one_ (w : World) {c : Nat} {x : Int} (hx : x = (c : Nat)) (hc : Mt.B64 c) : Wv (w.alloc (.cells #[.int .u64 x] 24)) (w.heap.size + 1) (.slice (some ⟨w.heap.size, 0, none⟩) 1 1) [c] := by
  subst hx
  have h := (OwnW.lit_ w (Nat.le_refl _) rfl hc).form_
  simpa using h
end

/-- What an append leaves. -/
structure ApdW (w w' : World) (base : Nat) (v v' : Value) (l : List Nat) : Prop where
  own : OwnW w' base v' l
  grown : w.grownBy w' v.ownBlock

set_option maxRecDepth 100000 in
theorem run_append_words (w : World) (base : Nat) (v : Value) (l : List Nat) (hown : OwnW w base v l) (x : Value) (B : Nat) (m : List Nat) (hx : Wv w B x m) (hsz : (l.length + m.length) * 8 ≤ 140737488355328) (hbase : base ≤ w.heap.size) :
    ∃ v' w', (Builtin.append_ #[75, 75] 75 #[v, x]).run Try.prog w = .ok v' w' ∧ ApdW w w' base v v' (l ++ m) := by
  obtain ⟨i0, hi, hz0, hz1, hz2⟩ := info_parts infoWord
  obtain ⟨A, c, rfl, hmc, hcm, hnil, hm⟩ := hx
  cases A with
  | none =>
    obtain rfl := hnil rfl
    obtain rfl : m = [] := List.eq_nil_of_length_eq_zero (by omega)
    refine ⟨v, w, run_append_owned_none w base _ _ _ i0 1 Try.underlying75 hi v l.length _ hown.2, by simpa using hown, ⟨rfl, rfl, rfl, Nat.le_refl _, fun _ _ _ => rfl⟩⟩
  | some ad =>
    have hnews : ∀ j u, (m.map u64v)[j]? = some u → w.cell? (ad.add j) = some u := by
      intro j u hu
      rw [List.getElem?_map] at hu
      cases hj : m[j]? with
      | none => rw [hj] at hu; cases hu
      | some c =>
        rw [hj] at hu
        have hj' : j < m.length := (List.getElem?_eq_some_iff.1 hj).1
        obtain ⟨b, off, e, _, hc⟩ := hm.2 (by omega)
        injection e with e
        subst e
        have := hc j c hj
        have ea : (⟨b, off, none⟩ : Addr).add j = ⟨b, off + j, none⟩ := by unfold Addr.add; split <;> simp_all
        rw [ea, this]
        simpa [u64v] using hu
    obtain ⟨v', w', hr, h1, h2, h3⟩ := run_append_own w base 75 75 24 i0 (.int .u64 0) 1 8 Try.underlying75 hi hz0 hz1 hz2 rfl (by decide) v l.length (l.map u64v) hown.2 ad m.length c (m.map u64v) (by simp) hnews
      (by intro u hu; obtain ⟨_, _, rfl⟩ := List.mem_map.1 hu; rfl) (by simp only [maxLen]; omega) (by omega) hbase
    refine ⟨v', w', hr, ⟨⟨?_, by simpa using h1⟩, h2⟩⟩
    intro x hx
    rcases List.mem_append.1 hx with h | h
    · exact hown.1 x h
    · exact hm.1 x h

theorem wpList_append_words (w : World) {ops : Array Oper} {rest : List Oper} {o : Oper} {a : Act} {Q : Exit → Act → World → Prop} (hgd : o.guard = none) (s t : Operand)
    (ho : o.op = .call { callee := .builtin .append, args := #[s, t], argTypes := #[75, 75] }) (hty : o.type = 75)
    (base : Nat) (v : Value) (hs : a.eval s = v) (l : List Nat) (hown : OwnW w base v l) (x : Value) (hx0 : a.eval t = x) (B : Nat) (m : List Nat) (hx : Wv w B x m) (hsz : (l.length + m.length) * 8 ≤ 140737488355328) (hbase : base ≤ w.heap.size)
    (h : ∀ A c w', ApdW w w' base v (.slice A (l ++ m).length c) (l ++ m) → wpList Try.prog ops Q rest (a.put o.dst (.slice A (l ++ m).length c)) w') : wpList Try.prog ops Q (o :: rest) a w :=
  wpList_plain hgd fun K hK => by
    obtain ⟨v', w', hr, hA⟩ := run_append_words w base v l hown x B m hx hsz hbase
    obtain ⟨A, c, rfl, _⟩ := hA.own.form_
    unfold Oper.wp execOp
    simp only [ho, resolve, invoke, builtin, Sem.run_bind, Sem.run_pure, Result.andThen_ok, List.map_toArray, List.map_cons, List.map_nil, hs, hx0, hr, hty]
    exact hK _ _ (h A c w' hA)
end Go.Proofs.Ytkialijipcbgkaa
