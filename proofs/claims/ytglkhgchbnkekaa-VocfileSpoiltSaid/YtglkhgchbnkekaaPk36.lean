/-
  VqPut: vocfile of the program: layPiece.
  VqPutF: vocfile.Put of the program (after XRVfB).
  VqId: vocfile.Id of the program .
-/
import Derived.Test.YtglkhgchbnkekaaPk31
import Derived.Test.YtglkhgchbnkekaaPk12
import Derived.Test.YtglkhgchbnkekaaPk20
import Derived.Test.YtglkhgchbnkekaaPk15
import Derived.Test.YtglkhgchbnkekaaPk34
import Derived.Test.YtglkhgchbnkekaaPk25
import Derived.Test.YtglkhgchbnkekaaPk29
import Derived.Laws.BitsAllLaws
namespace Go.Proofs.Ytglkhgchbnkekaa
open Go.RowKit
set_option linter.unusedVariables false

/-- A call that puts bytes behind the caller's own list. -/
def IsPut (base : Nat) (v : Value) (l : List Nat) (w : World) (e : Ending) (w' : World) : Prop :=
  ∃ A c, e = .returned (.slice A l.length c) ∧ OwnL yK w' base (.slice A l.length c) l ∧ Below base w w'
theorem lebput_o (n : Nat) (hn : n ≤ 4294967295) (w : World) : Calls Try.prog 23 #[.int .u64 (n : Nat)] w (IsO (Mt.put n) w) :=
  (put_any n (Vf.b64_of hn) w).mono fun e w' h => h.o

set_option maxHeartbeats 4000000 in
set_option maxRecDepth 100000 in
theorem pvpc_any (p : Vo.Pc) (hf : Vf.Fits p) (base : Nat) (A : Option Addr) (c : Nat) (l : List Nat) (w : World) (ho : OwnL yK w base (.slice A l.length c) l) (hb : base ≤ w.heap.size) (hl : l.length ≤ 140000) :
    Calls Try.prog 24 #[.slice A l.length c, pcV p] w (IsPut base (.slice A l.length c) (l ++ Vf.pcB p) w) := by
  obtain ⟨pj, pb, pl, pr, pk⟩ := p
  unfold pcV
  simp only
  obtain ⟨s, hs⟩ : ∃ s, w.heap.size = s := ⟨_, rfl⟩
  cases pj with
  | false =>
    obtain ⟨h1, h2, h3, hpb⟩ : pl = 0 ∧ pr = 0 ∧ pk = 0 ∧ pb < 256 := hf
    subst h1 h2 h3
    obtain ⟨W, hW⟩ : ∃ W, w.alloc (.cells #[.bool false, .int .u8 (pb : Nat), .int .i64 0, .int .i64 0, .int .u32 0] 45) = W := ⟨_, rfl⟩
    have hx : W.heap[s]? = some (.cells #[.bool false, .int .u8 (pb : Nat), .int .i64 0, .int .i64 0, .int .u32 0] 45 (0, 0)) := by rw [← hW, ← hs]; exact heap_alloc_new w _
    have x0 : W.cell? ⟨s, 0, none⟩ = some (.bool false) := by rw [cell_of_row _ _ 0 _ _ _ hx]; rfl
    have x1 : W.cell? ⟨s, 1, none⟩ = some (.int .u8 (pb : Nat)) := by rw [cell_of_row _ _ 1 _ _ _ hx]; rfl
    have HO : Hid (OwnL yK W base (.slice A l.length c) l) := by unfold Hid; rw [← hW]; exact ho.alloc_ _
    have HB : Hid (Below base w W) := by unfold Hid; rw [← hW]; exact (Below.refl base w).alloc hb _
    have hbW : base ≤ W.heap.size := HB.out.size |> Nat.le_trans hb
    have hok : ∀ x ∈ [0, pb], yK.ok x := fun x hx => by simp at hx; show x < 256; rcases hx with rfl | rfl <;> omega
    have HK := Lib.hid hok
    simp only [Int.natCast_zero]
    clear hx ho hok
    go_enter Try.func24, Try.ntmps24
    go_wp2_with (at_builtin; go_must (refine wpList_puts_m _ yK rfl _ _ rfl base _ rfl l HO.out [0, pb] 2 rfl rfl HK.out _ rfl _ rfl (by show (_ + 2) * 1 ≤ _; omega) (by show _ + 2 ≤ maxLen; simp only [maxLen]; omega) hbW ?_; intro A1 c1 w1 hA hG hM))
    have e : (l ++ [0, pb]).length = l.length + 2 := by simp
    rw [e] at hA
    go_ret
    exact ⟨A1, c1, by show _ = Ending.returned (.slice A1 (l ++ [0, pb]).length c1); rw [e]; rfl, by show OwnL yK w1 base (.slice A1 (l ++ [0, pb]).length c1) _; rw [e]; exact hA, HB.out.grown hG hbW (fun k hk => (HO.out.lt_ k hk).1)⟩
  | true =>
    obtain ⟨h0, h1, h2, h3, h4, h5⟩ : pb = 0 ∧ 0 ≤ pl ∧ pl ≤ 4095 ∧ 0 ≤ pr ∧ pr ≤ 4095 ∧ pk ≤ 4294967295 := hf
    subst h0
    obtain ⟨L, rfl⟩ := Int.eq_ofNat_of_zero_le h1
    obtain ⟨R, rfl⟩ := Int.eq_ofNat_of_zero_le h3
    have hL : L ≤ 4095 := by omega
    have hR : R ≤ 4095 := by omega
    clear h1 h2 h3 h4
    have HX : Hid (l ++ Vf.pcB ⟨true, 0, (L : Int), (R : Int), pk⟩ = (l ++ [1]) ++ ([L, R, pk].take 3).flatMap Mt.put) := by unfold Hid; simp [Vf.pcB]
    obtain ⟨E, hE⟩ : ∃ E, l ++ Vf.pcB ⟨true, 0, (L : Int), (R : Int), pk⟩ = E := ⟨_, rfl⟩
    rw [hE] at HX ⊢
    clear hE
    simp only [Int.natCast_zero]
    have hrow : ∀ w' : World, w'.heap[s]? = some (.cells #[.bool true, .int .u8 0, .int .i64 (L : Int), .int .i64 (R : Int), .int .u32 (pk : Nat)] 45 (0, 0)) → w'.cell? ⟨s, 2, none⟩ = some (.int .i64 (L : Int)) ∧ w'.cell? ⟨s, 3, none⟩ = some (.int .i64 (R : Int)) ∧ w'.cell? ⟨s, 4, none⟩ = some (.int .u32 (pk : Nat)) := fun w' h => ⟨(pbox_cells h).2.2.1, (pbox_cells h).2.2.2.1, (pbox_cells h).2.2.2.2⟩
    have HROW := Lib.hid hrow
    obtain ⟨W, hW⟩ : ∃ W, w.alloc (.cells #[.bool true, .int .u8 0, .int .i64 (L : Int), .int .i64 (R : Int), .int .u32 (pk : Nat)] 45) = W := ⟨_, rfl⟩
    have hx : W.heap[s]? = some (.cells #[.bool true, .int .u8 0, .int .i64 (L : Int), .int .i64 (R : Int), .int .u32 (pk : Nat)] 45 (0, 0)) := by rw [← hW, ← hs]; exact heap_alloc_new w _
    have x0 : W.cell? ⟨s, 0, none⟩ = some (.bool true) := by rw [cell_of_row _ _ 0 _ _ _ hx]; rfl
    have HX0 := Lib.hid hx
    have HO : Hid (OwnL yK W base (.slice A l.length c) l) := by unfold Hid; rw [← hW]; exact ho.alloc_ _
    have HN0 : Hid (∀ k, (Value.slice A l.length c).ownBlock = some k → k ≠ s) := fun k hk => by have := (ho.lt_ k hk).2; omega
    have HB0 : Hid (Below base w W) := by unfold Hid; rw [← hW]; exact (Below.refl base w).alloc hb _
    have HSW : Hid (s < W.heap.size ∧ base ≤ W.heap.size) := ⟨(Array.getElem?_eq_some_iff.1 hx).1, Nat.le_trans hb HB0.out.size⟩
    have wL : IntKind.u64.wrap (L : Int) = (L : Int) := by rw [IntKind.wrap_u64]; omega
    have wR : IntKind.u64.wrap (R : Int) = (R : Int) := by rw [IntKind.wrap_u64]; omega
    have wK : IntKind.u64.wrap (pk : Int) = (pk : Int) := by rw [IntKind.wrap_u64]; omega
    have HK : Hid (∀ x ∈ [1], yK.ok x) := fun x hx => by simp at hx; subst hx; show 1 < 256; omega
    have HP := Lib.hid lebput_o
    have HS : Hid (∀ n, (Mt.put n).length ≤ 10) := fun n => Mt.put_len_le n
    have HIX : Hid (∀ (k x : Nat), ([L, R, pk] : List Nat)[k]? = some x → x ≤ 4294967295 ∧ ∀ w, (Instr.index 74 (.agg #[.int .u64 (L : Int), .int .u64 (R : Int), .int .u64 (pk : Int)]) (.int .i64 (k : Nat))).run Try.prog w = .ok (.int .u64 (x : Nat)) w) := by
      intro k x h
      rcases k with _ | _ | _ | k
      · obtain rfl : L = x := Option.some.inj h; exact ⟨by omega, fun w => by kernel_rfl⟩
      · obtain rfl : R = x := Option.some.inj h; exact ⟨by omega, fun w => by kernel_rfl⟩
      · obtain rfl : pk = x := Option.some.inj h; exact ⟨h5, fun w => by kernel_rfl⟩
      · simp at h
    clear hx ho hrow hb
    go_enter Try.func24, Try.ntmps24
    go_wp2_with (at_builtin; go_must (refine wpList_puts_m _ yK rfl _ _ rfl base _ rfl l HO.out [1] 1 rfl rfl HK.out _ rfl _ rfl (by show (_ + 1) * 1 ≤ _; omega) (by show _ + 1 ≤ maxLen; simp only [maxLen]; omega) HSW.out.2 ?_; intro A1 c1 w1 hA hG hM; obtain ⟨l1, hl1⟩ : ∃ x, l ++ [1] = x := ⟨_, rfl⟩; have HQ1 : Hid (l1.length ≤ 140001) := (by unfold Hid; rw [← hl1, List.length_append]; show l.length + 1 ≤ _; omega); rw [hl1] at hA hM HX ⊢; have HX1 := Lib.hid ((hG.block s HSW.out.1 (fun e => HN0.out s e.symm rfl)).trans HX0.out); have x1 := (HROW.out w1 HX1.out).1; have x2 := (HROW.out w1 HX1.out).2.1; have x3 := (HROW.out w1 HX1.out).2.2))
    have HB1 : Hid (Below base w w1) := HB0.out.grown hG HSW.out.2 (fun k hk => (HO.out.lt_ k hk).1)
    have HO1 := Lib.hid hA
    have HS1 : Hid (base ≤ w1.heap.size) := Nat.le_trans HSW.out.2 hG.size
    clear hA hG hM HO HN0 HB0 HX0 HSW hl1
    go_loopw [0, 6, 28] (fun b nn i wr => ∃ (k : Nat) (Ak : Option Addr) (lk : List Nat) (ck : Nat), k ≤ 3 ∧ i = .int .i64 (k : Nat) ∧ b = .slice Ak lk.length ck ∧ Hid (lk = l1 ++ ([L, R, pk].take k).flatMap Mt.put) ∧ Hid (OwnL yK wr base (.slice Ak lk.length ck) lk) ∧ Hid (Below base w wr) ∧ Hid (base ≤ wr.heap.size) ∧ Hid (lk.length ≤ 140001 + 10 * k)) (fun _ _ i _ => 3 - (intOf i).toNat)
    case atStart => exact ⟨0, A1, l1, c1, by omega, rfl, rfl, by unfold Hid; simp, HO1.out, HB1.out, HS1.out, HQ1.out⟩
    case round =>
      obtain ⟨k, Ak, lk, ck, hk, rfl, rfl, HLK, HOk, HBk, HSk, HQk⟩ := hrel
      clear x1 x2 x3 HX1
      by_cases h3 : k < 3
      · have g1 : (k : Int) < 3 := by omega
        obtain ⟨x, hx⟩ : ∃ x, ([L, R, pk] : List Nat)[k]? = some x := ⟨_, List.getElem?_eq_getElem (by simpa using h3)⟩
        obtain ⟨hx32, hidx⟩ := HIX.out k x hx
        have HXK := Lib.hid hx
        have C2 := Lib.hid (HP.out x hx32 wr)
        have n2 := HS.out x
        obtain ⟨t2, ht2⟩ : ∃ t, Mt.put x = t := ⟨_, rfl⟩
        have HT2 := Lib.hid ht2
        have wk1 : IntKind.i64.wrap ((k : Int) + 1) = (k : Int) + 1 := by rw [IntKind.wrap_i64]; omega
        rw [ht2] at C2 n2
        clear ht2 hx
        go_wp2_with (fail)
        refine (C2.out).mono ?_
        rintro e w2 ⟨A2, c2, rfl, o2, b2, -⟩
        have HO2 := Lib.hid (HOk.out.below_ b2 (Nat.le_refl _))
        have HB2 : Hid (Below base w w2) := HBk.out.trans (b2.mono HSk.out)
        have HS2 : Hid (base ≤ w2.heap.size) := Nat.le_trans HSk.out b2.size
        have HL2 := Lib.hid o2
        clear o2 b2 C2 HOk HBk HSk
        go_wp2_with (at_builtin; go_must (refine wpList_append_m _ yK rfl _ _ rfl base _ rfl lk HO2.out _ rfl _ t2 HL2.out (by have := HQk.out; show (_ + _) * 1 ≤ _; omega) (by have := HQk.out; simp only [maxLen]; omega) HS2.out ?_; intro A3 c3 w3 hA hG hM; obtain ⟨l3, hl3⟩ : ∃ x, lk ++ t2 = x := ⟨_, rfl⟩; have HQ3 : Hid (l3.length ≤ 140001 + 10 * (k + 1)) := (by unfold Hid; rw [← hl3, List.length_append]; have := HQk.out; omega); rw [hl3] at hA hM ⊢; have HE3 := Lib.hid hl3; clear hM))
        have HB3 : Hid (Below base w w3) := HB2.out.grown hG HS2.out (fun k hk => (HO2.out.lt_ k hk).1)
        have HS3 : Hid (base ≤ w3.heap.size) := Nat.le_trans HS2.out hG.size
        have HO3 := Lib.hid hA
        have HE4 : Hid (l3 = l1 ++ ([L, R, pk].take (k + 1)).flatMap Mt.put) := by unfold Hid; rw [← HE3.out, HLK.out, ← HT2.out, take_snoc HXK.out, List.flatMap_append, List.append_assoc]; simp
        clear hA hG HO2 HB2 HS2 HL2 hl3
        go_wp2
        exact ⟨⟨k + 1, A3, l3, c3, by omega, by go_num, rfl, HE4.out, HO3.out, HB3.out, HS3.out, HQ3.out⟩, by simp [intOf]; omega⟩
      · have g1 : ¬ (k : Int) < 3 := by omega
        have h3' : k = 3 := by omega
        have e : E = lk := by rw [HX.out, HLK.out, h3']
        rw [e]
        go_wp2
        go_ret
        exact ⟨Ak, ck, rfl, HOk.out, HBk.out⟩
end Go.Proofs.Ytglkhgchbnkekaa
namespace Go.Proofs.Ytglkhgchbnkekaa
open Go.RowKit
set_option linter.unusedVariables false

theorem Lv.array_ {P : Program} {α : Type} (K : El P α) (w : World) (l : List α) (hok : ∀ x ∈ l, K.ok x) (hm : l.length ≤ maxLen) (n : Nat) (hn : n = l.length) (cs : Array Value) (hcs : cs = (K.flat l).toArray) (e : TypeId) :
    Lv K (w.alloc (.cells cs e)) (w.heap.size + 1) (.slice (some ⟨w.heap.size, 0, none⟩) n n) l := by
  subst hn hcs
  refine ⟨_, _, rfl, Nat.le_refl _, hm, by simp, hok, fun _ => ⟨w.heap.size, 0, rfl, by omega, fun j u hj => ?_⟩⟩
  rw [Nat.zero_add, cell_of_row _ w.heap.size j _ _ _ (heap_alloc_new w _), List.getElem?_toArray]
  exact hj

set_option maxHeartbeats 2000000 in
set_option maxRecDepth 100000 in
theorem pvput_any (P : List Vo.Pc) (v : Value) (B : Nat) (w : World) (hv : Lv pK w B v P) (hB : B ≤ w.heap.size) (hP : P.length ≤ 4096) :
    Calls Try.prog 10 #[.agg #[v]] w (IsLE yK (Vf.putE P) w) := by
  obtain ⟨A, c, rfl, -, -, -, hpok, -⟩ := id hv
  obtain ⟨W, hW⟩ : ∃ W, w.alloc (.cells #[.slice A P.length c] 24) = W := ⟨_, rfl⟩
  obtain ⟨d0, hsz, hb⟩ := boxed hW
  have HSZ := Lib.hid hsz
  have HB := Lib.hid hb
  have HBB := Lib.hid hB
  have HV := Lib.hid (hv.below_ hb hB)
  have HM := Lib.hid (pcheck_any P _ B W HV.out (by omega))
  obtain ⟨ec, ic, hck⟩ : ∃ x y, Vo.check P = (x, y) := ⟨_, _, rfl⟩
  have HCK : Hid (Vo.May P ↔ ec = 0) := by unfold Hid Vo.May; rw [hck]
  rw [hck] at HM
  clear hck
  by_cases hm : Vo.May P
  · have HE : Hid (Vf.putE P = (Vf.file P, 0)) := if_pos hm
    obtain rfl : ec = 0 := HCK.out.1 hm
    have hle := (Vo.may_iff.1 hm).1
    have HF : Hid (∀ p ∈ P, Vf.Fits p) := Vf.may_fits hm (fun p hp => (hpok p hp).2.2.2) (fun p hp => (hpok p hp).1)
    obtain ⟨n, hn⟩ : ∃ n, P.length = n := ⟨_, rfl⟩
    have HN := Lib.hid hn
    rw [hn] at hW d0 HV HM hle ⊢
    have HPut : Hid (∀ w, Calls Try.prog 23 #[.int .u64 (n : Nat)] w (IsO (Mt.put n) w)) := fun w => lebput_o n (by omega) w
    have wN : IntKind.u64.wrap (n : Int) = (n : Int) := by rw [IntKind.wrap_u64]; omega
    clear hv hsz hb hpok hm hB hn
    go_enter Try.func10, Try.ntmps10
    go_wp2_with (fail)
    refine (HM.out).mono ?_
    rintro e w1 ⟨rfl, hb1⟩
    have e0 := (hb1.cell (p := ⟨w.heap.size, 0, none⟩) (by have := HSZ.out; show w.heap.size < _; omega)).trans d0
    have HB1 := Lib.hid hb1
    clear hb1 HM
    have kc := Lib.run_convert_bytes_const w1 27 5 #[.int .u8 115, .int .u8 116, .int .u8 111, .int .u8 111, .int .u8 107, .int .u8 118] 6 6 Try.underlying27 Try.underlying5
    have hm6 := (Bv.magic_ w1).lv_
    obtain ⟨W2, hW2⟩ : ∃ W2, w1.alloc (.cells #[.int .u8 115, .int .u8 116, .int .u8 111, .int .u8 111, .int .u8 107, .int .u8 118] 5 (6, 7)) = W2 := ⟨_, rfl⟩
    rw [hW2] at hm6
    change _ = Result.ok _ (w1.alloc (.cells #[.int .u8 115, .int .u8 116, .int .u8 111, .int .u8 111, .int .u8 107, .int .u8 118] 5 (6, 7))) at kc
    rw [hW2] at kc
    have hb2 : Below w1.heap.size w1 W2 := by rw [← hW2]; exact (Below.refl _ _).alloc (Nat.le_refl _) _
    have hz2 : W2.heap.size = w1.heap.size + 1 := by rw [← hW2]; simp
    have HB2 : Hid (Below W.heap.size W W2) := HB1.out.trans (hb2.mono HB1.out.size)
    have f0 : W2.cell? ⟨w.heap.size, 0, none⟩ = some (.slice A n c) := (hb2.cell (p := ⟨w.heap.size, 0, none⟩) (by have := HSZ.out; have := HB1.out.size; show w.heap.size < _; omega)).trans e0
    have HM6 := Lib.hid hm6
    have HZ2 := Lib.hid hz2
    clear hm6 hb2 hz2 HB1 hW2
    go_wp2_with (fail)
    refine (HPut.out W2).mono ?_
    rintro e w3 ⟨A3, c3, rfl, o3, hb3, -⟩
    have n10 := Mt.put_len_le n
    have hpos := List.length_pos_iff.2 (Mt.put_ne n)
    have HM3 := Lib.hid ((HM6.out.below_ hb3 (by have := HZ2.out; omega)))
    have HB3 : Hid (Below W.heap.size W w3) := HB2.out.trans (hb3.mono HB2.out.size)
    have HO3 := Lib.hid o3
    obtain ⟨mp, hmp⟩ : ∃ l, Mt.put n = l := ⟨_, rfl⟩
    rw [hmp] at HO3 n10 hpos ⊢
    have HMP := Lib.hid hmp
    clear o3 hb3 HM6 HZ2 HB2 e0 f0 kc HPut hmp
    go_wp2_with (at_builtin; go_must (refine wpList_append_fullL _ yK rfl _ _ rfl ⟨w1.heap.size, 0, none⟩ _ 6 Vf.magic rfl rfl HM3.out (by decide) _ rfl _ mp HO3.out hpos (by show (6 + _) * 1 ≤ _; omega) (by simp only [maxLen]; omega) ?_; intro A4 c4 w4 hA hG; have e4 : w4.cell? ⟨w.heap.size, 0, none⟩ = some (.slice A n c) := ((HB3.out.grown hG HB3.out.size (fun k hk => by cases hk)).cell (p := ⟨w.heap.size, 0, none⟩) (by have := HSZ.out; show w.heap.size < _; omega)).trans d0))
    clear e4
    obtain ⟨L0, hL0⟩ : ∃ l, Vf.magic ++ mp = l := ⟨_, rfl⟩
    have hn6 : L0.length ≤ 16 := by rw [← hL0, List.length_append, Vf.magic_len]; omega
    have HBd : Hid (∀ Q, L0 ++ Vf.pcs Q = Vf.magic ++ Mt.put n ++ Vf.pcs Q) := fun Q => by rw [HMP.out, hL0]
    rw [hL0] at hA
    rw [← List.length_append, hL0]
    have HO4 := Lib.hid (hA.mono_ HB3.out.size)
    have HB4 : Hid (Below W.heap.size W w4) := HB3.out.grown hG HB3.out.size (fun k hk => by cases hk)
    have HN6 := Lib.hid hn6
    clear hA hG HM3 HO3 HB3 n10 hpos hL0 hn6 HMP
    go_loopw [6, 28] (fun s i wr => ∃ (k : Nat) (A5 : Option Addr) (c5 : Nat) (l : List Nat), k ≤ n ∧ s = .slice A5 l.length c5 ∧ i = .int .i64 k ∧ Hid (l = L0 ++ Vf.pcs (P.take k)) ∧ Hid (OwnL yK wr W.heap.size (.slice A5 l.length c5) l) ∧ Below W.heap.size W wr) (fun _ i _ => n - (intOf i).toNat)
    case atStart => exact ⟨0, A4, c4, L0, Nat.zero_le _, rfl, rfl, by unfold Hid; simp [Vf.pcs], HO4.out, HB4.out⟩
    case round =>
      obtain ⟨k, A5, c5, l, hk, rfl, rfl, HL, HO, hbr⟩ := hrel
      have HBR := Lib.hid hbr
      have e0 := (hbr.cell (p := ⟨w.heap.size, 0, none⟩) (by have := HSZ.out; show w.heap.size < _; omega)).trans d0
      have hlen : l.length ≤ 16 + 31 * k := by
        have := Vf.pcs_len (P.take k)
        have h2 := HN6.out
        have h3 := HN.out
        rw [List.length_take] at this
        rw [HL.out, List.length_append]
        omega
      clear hbr
      by_cases hlt : k < n
      · have g1 : (k : Int) < (n : Int) := by omega
        have hkP : k < P.length := by have := HN.out; omega
        obtain ⟨b, off, p, rfl, hbB, hpok, hq, c0, c1, c2, c3, c4⟩ := (HV.out.below_ (HBR.out.mono (show B ≤ W.heap.size by have := HSZ.out; have := HBB.out; omega)) (Nat.le_refl _)).piece_ hkP
        have HTK : Hid (Vf.pcs (P.take (k + 1)) = Vf.pcs (P.take k) ++ Vf.pcB p) := by unfold Hid; rw [take_snoc hq, Vf.pcs_snoc]
        have hfit := HF.out p (List.mem_of_getElem? hq)
        obtain ⟨pj, pb, pl, pr, pk⟩ := p
        simp only at c0 c1 c2 c3 c4
        have hwk : IntKind.i64.wrap ((k : Int) + 1) = (k : Int) + 1 := by rw [IntKind.wrap_i64]; omega
        obtain ⟨q, hqs⟩ : ∃ q, wr.heap.size = q := ⟨_, rfl⟩
        obtain ⟨W7, hW7⟩ : ∃ W, wr.alloc (.cells #[.bool false, .int .u8 0, .int .i64 0, .int .i64 0, .int .u32 0] 45) = W := ⟨_, rfl⟩
        have b7 : W7.heap[q]? = some (.cells #[.bool false, .int .u8 0, .int .i64 0, .int .i64 0, .int .u32 0] 45 (0, 0)) := by rw [← hW7, ← hqs]; exact heap_alloc_new wr _
        obtain ⟨x0, x1, x2, x3, x4⟩ := pbox_cells b7
        obtain ⟨f0', f1', f2', f3', f4'⟩ := pbox_cool b7
        obtain ⟨W8, hW8⟩ : ∃ W, ((((W7.setCell ⟨q, 0, none⟩ (.bool pj)).setCell ⟨q, 1, none⟩ (.int .u8 (pb : Nat))).setCell ⟨q, 2, none⟩ (.int .i64 pl)).setCell ⟨q, 3, none⟩ (.int .i64 pr)).setCell ⟨q, 4, none⟩ (.int .u32 (pk : Nat)) = W := ⟨_, rfl⟩
        have b8 : W8.heap[q]? = some (.cells #[.bool pj, .int .u8 (pb : Nat), .int .i64 pl, .int .i64 pr, .int .u32 (pk : Nat)] 45 (0, 0)) := by rw [← hW8]; exact pbox_set b7 _ _ _ _ _
        have t8 : Turned (fun _ => False) wr W8 := by rw [← hW8, ← hW7]; exact pbox_turned ((Turned.refl _ wr).alloc _) (fun h => by omega) _ _ _ _ _
        obtain ⟨y0, y1, y2, y3, y4⟩ := pbox_cells b8
        have hbr2 := HBR.out.size
        have HB8 : Hid (Below W.heap.size W W8) := HBR.out.trans (t8.below hbr2 (fun _ h => h.elim))
        have HO8 := Lib.hid (HO.out.turned_ t8 (fun _ _ h => h))
        have HLT : Hid (k < n) := hlt
        have HC := Lib.hid (pvpc_any ⟨pj, pb, pl, pr, pk⟩ hfit W.heap.size A5 c5 l W8 HO8.out HB8.out.size (by omega))
        unfold pcV at HC
        simp only at HC
        clear hq hpok hbB b7 b8 t8 hfit hlt
        go_wp2_with (fail)
        refine (HC.out).mono ?_
        rintro e w9 ⟨A9, c9, rfl, ho9, hb9⟩
        have HO9 := Lib.hid ho9
        have HB9 := Lib.hid (HB8.out.trans hb9)
        obtain ⟨m, hm⟩ : ∃ m, l ++ Vf.pcB ⟨pj, pb, pl, pr, pk⟩ = m := ⟨_, rfl⟩
        have HM' := Lib.hid hm
        rw [hm] at HO9 ⊢
        clear ho9 hb9 HC HO HBR HO8 HB8 hm
        go_wp2
        exact ⟨⟨k + 1, A9, c9, m, HLT.out, rfl, by go_num, by unfold Hid; rw [← HM'.out, HTK.out, HL.out, List.append_assoc], HO9.out, HB9.out⟩, by have := HLT.out; simp [intOf]; omega⟩
      · have g1 : ¬ (k : Int) < (n : Int) := by omega
        obtain rfl : k = n := by omega
        have HBo : Hid (l = Vf.body P) := by
          unfold Hid
          rw [HL.out, List.take_of_length_le (by rw [HN.out]; exact Nat.le_refl _), HBd.out]
          unfold Vf.body
          rw [HN.out]
        have hlt6 : ∀ x ∈ l, x < 256 := by rw [HBo.out]; exact Vf.body_lt HF.out (by rw [HN.out]; exact hle)
        have HFi : Hid (Vf.file P = l ++ four (Cr.of l)) := by unfold Hid; rw [HBo.out]; rfl
        obtain ⟨s, hs'⟩ : ∃ s, Cr.of l = s := ⟨_, rfl⟩
        rw [hs'] at HFi
        have hbr2 := HBR.out.size
        have HSo := Lib.hid (vfsum_any _ l _ wr (Nat.le_refl _) HO.out.form_.bv_)
        rw [hs'] at HSo
        clear hs' hlt6 HL HBo
        go_wp2_with (fail)
        refine (HSo.out).mono ?_
        rintro e w5 ⟨rfl, hb5⟩
        have HO5 := Lib.hid (HO.out.below_ hb5 (Nat.le_refl _))
        have HB5 : Hid (Below W.heap.size W w5) := HBR.out.trans (hb5.mono hbr2)
        obtain ⟨q5, hq5⟩ : ∃ q, w5.heap.size = q := ⟨_, rfl⟩
        obtain ⟨W6, hW6⟩ : ∃ W6, w5.alloc (.cells #[.int .u8 (Cr.byt s 0 : Nat), .int .u8 (Cr.byt s 1 : Nat), .int .u8 (Cr.byt s 2 : Nat), .int .u8 (Cr.byt s 3 : Nat)] 51) = W6 := ⟨_, rfl⟩
        have HA6 : Hid (Lv yK W6 (q5 + 1) (.slice (some ⟨q5, 0, none⟩) 4 4) (four s)) := by unfold Hid; rw [← hW6, ← hq5]; exact Lv.array_ yK w5 (four s) (four_lt s) (by rw [four_len]; decide) 4 (four_len s) _ rfl _
        have HO6 : Hid (OwnL yK W6 W.heap.size (.slice A5 l.length c5) l) := by unfold Hid; rw [← hW6]; exact HO5.out.alloc_ _
        have HB6 : Hid (Below W.heap.size W W6) := by unfold Hid; rw [← hW6]; exact HB5.out.alloc HB5.out.size _
        have h44 := four_len s
        obtain ⟨t4, ht4⟩ : ∃ t, four s = t := ⟨_, rfl⟩
        rw [ht4] at HA6 HFi h44
        clear hb5 HSo HO HBR e0 HB5 HO5 ht4
        go_wp2_with (at_builtin; go_must (refine wpList_append_m _ yK rfl _ _ rfl W.heap.size _ rfl l HO6.out _ rfl _ t4 HA6.out (by show (_ + _) * 1 ≤ _; omega) (by simp only [maxLen]; omega) HB6.out.size ?_; intro A7 c7 w6 ho6 hg6 hM))
        have HO7 := Lib.hid ho6
        have HB7 : Hid (Below W.heap.size W w6) := HB6.out.grown hg6 HB6.out.size (fun j hj => (HO6.out.lt_ j hj).1)
        clear ho6 hg6 hM HO6 HB6
        go_wp2
        go_ret2
        exact IsLE.of HE.out (by rw [HFi.out, List.length_append, h44]) rfl (by rw [HFi.out]; have h := HO7.out.mono_ (show w.heap.size ≤ W.heap.size by have := HSZ.out; omega); rw [List.length_append, h44] at h; exact h) (HB.out.trans (HB7.out.mono HB.out.size))
  · have HE : Hid (Vf.putE P = ([], 11)) := if_neg hm
    have g0 : ¬ ((ec : Int) = 0) := fun h => hm (HCK.out.2 (by omega))
    clear hv hsz hb hpok hm hB
    go_enter Try.func10, Try.ntmps10
    go_wp2_with (fail)
    refine (HM.out).mono ?_
    rintro e w1 ⟨rfl, hb1⟩
    have HB1 := Lib.hid (HB.out.trans (hb1.mono (by have := HSZ.out; omega)))
    clear hb1 HM
    go_wp2
    go_ret2
    exact IsLE.none_b HE.out rfl HB1.out
end Go.Proofs.Ytglkhgchbnkekaa
namespace Go.Proofs.Ytglkhgchbnkekaa
open Go.RowKit
set_option linter.unusedVariables false

theorem byte_behind {n x : Nat} (h : n < 72057594037927936) (hx : x < 256) : bits BinOp.or IntKind.u64 ((n : Int) * 256) (x : Int) = ((256 * n + x : Nat) : Int) := by
  have e : ((n : Int) * 256) = ((256 * n : Nat) : Int) := by omega
  rw [e, u64_or_nat (256 * n) x (by omega) (by omega)]
  have := Nat.two_pow_add_eq_or_of_lt (i := 8) (b := x) (by simpa using hx) n
  simp only [show (2 : Nat) ^ 8 = 256 from rfl] at this
  rw [← this]
set_option maxHeartbeats 2000000 in
set_option maxRecDepth 100000 in
theorem pvid_any (P : List Vo.Pc) (v : Value) (B : Nat) (w : World) (hv : Lv pK w B v P) (hB : B ≤ w.heap.size) (hP : P.length ≤ 4096) :
    Calls Try.prog 12 #[.agg #[v]] w (IsId (Vf.idE P) w) := by
  obtain ⟨W, hW⟩ : ∃ W, w.alloc (.cells #[v] 24) = W := ⟨_, rfl⟩
  obtain ⟨d0, hsz, hb⟩ := boxed hW
  have HC := Lib.hid (pvput_any P v B W (hv.below_ hb hB) (Nat.le_trans hB hb.size) hP)
  have HB := Lib.hid hb
  have hsh := Vf.file_short hP
  obtain ⟨A, c, rfl, _, _, _, _⟩ := hv
  clear hsz hb
  by_cases hm : Vo.May P
  · have HV : Hid (Vf.putE P = (Vf.file P, 0)) := if_pos hm
    have HX : Hid (Vf.idE P = (Vf.idTo (Sh.sum (Vf.file P)) 8, 0)) := if_pos hm
    rw [HV.out] at HC
    obtain ⟨x, hx⟩ : ∃ x, Vf.file P = x := ⟨_, rfl⟩
    rw [hx] at HC HX hsh
    clear hm hx HV
    go_enter Try.func12, Try.ntmps12
    go_wp2_with (fail)
    refine HC.out.mono ?_
    rintro e w1 ⟨A1, c1, rfl, ho, hb⟩
    have HB1 := Lib.hid (HB.out.trans (hb.mono HB.out.size))
    have HS := Lib.hid (sum_any _ x w1.heap.size w1 (Nat.le_refl _) ho.form_.bv_ (by omega))
    clear ho hb HC
    go_wp2_with (fail)
    refine HS.out.mono ?_
    rintro e w2 ⟨rfl, hb⟩
    have HB2 := Lib.hid (HB1.out.trans (hb.mono HB1.out.size))
    obtain ⟨d, hd⟩ : ∃ d, Sh.sum x = d := ⟨_, rfl⟩
    have HDL : Hid (d.length = 32) := by unfold Hid; rw [← hd]; exact sum_len x
    have HDT : Hid (∀ y ∈ d, y < 256) := by unfold Hid; rw [← hd]; exact sum_lt x
    rw [hd] at HX ⊢
    have hsz := size35l HDL.out
    have hone := bvs_one d
    have hds : none32.size = (bvs d).size := by rw [bvs_size, HDL.out]; rfl
    have hz32 : ∀ w, (zeroValue 57).run Try.prog w = .ok (.agg none32) w := (zero_of_info (n := 32) (by kernel_rfl)).1
    have HD0 : Hid (Rw (w2.alloc (.cells none32 57)) w2.heap.size 57 none32) := Rw.new w2 _ _
    have HB3 : Hid (Below w.heap.size w (w2.alloc (.cells none32 57))) := HB2.out.alloc HB2.out.size _
    clear hb HS hd
    go_wp2_with (refine wpList_store_row rfl _ _ _ rfl w2.heap.size (bvs d) rfl rfl 57 _ HD0.out hsz hds hone ?_)
    obtain ⟨g, hg⟩ : ∃ g, w2.heap.size = g := ⟨_, rfl⟩
    rw [hg] at HD0 ⊢
    have HR := Lib.hid (HD0.out.row (bvs d))
    have hgs : w.heap.size ≤ g := by rw [← hg]; exact HB2.out.size
    have HB4 := Lib.hid (HB3.out.trans (below_setRow (Below.refl w.heap.size _) hgs (bvs d)))
    obtain ⟨W4, hW4⟩ : ∃ W4, (w2.alloc (.cells none32 57)).setRow g (bvs d) = W4 := ⟨_, rfl⟩
    rw [hW4] at HR HB4 ⊢
    clear hW4 HD0 HB3 hg hds hone hsz hz32
    have HLT : Hid (∀ k, Vf.idTo d k < 256 ^ k) := Vf.idTo_lt HDT.out
    go_wp2
    go_loopw [7, 9, 22] (fun n c i wr => ∃ k : Nat, k ≤ 8 ∧ n = .int .u64 (Vf.idTo d k : Nat) ∧ i = .int .i64 (k : Nat) ∧ wr = W4) (fun _ _ i _ => 8 - (intOf i).toNat)
    case atStart => exact ⟨0, by omega, rfl, rfl, rfl⟩
    case round =>
      obtain ⟨k, hk, rfl, rfl, rfl⟩ := hrel
      by_cases h8 : k < 8
      · have hkl : k < d.length := by have := HDL.out; omega
        obtain ⟨x, hx⟩ : ∃ x, d[k]? = some x := ⟨_, List.getElem?_eq_getElem hkl⟩
        have hx8 : x < 256 := HDT.out x (List.mem_of_getElem? hx)
        have HSU := Lib.hid (Vf.idTo_succ hx)
        have h56 : Vf.idTo d k < 256 ^ 7 := Nat.lt_of_lt_of_le (HLT.out k) (Nat.pow_le_pow_right (by omega) (by omega))
        obtain ⟨n, hn⟩ : ∃ n, Vf.idTo d k = n := ⟨_, rfl⟩
        rw [hn] at HSU h56 ⊢
        have c0 : wr.cell? ⟨g, k, none⟩ = some (.int .u8 (x : Nat)) := (HR.out.cell _).trans (bvs_some hx)
        have i0 : (k : Int) < 8 := by omega
        have HX8 := Lib.hid hx8
        have H56 := Lib.hid h56
        clear hn hx
        go_wp2
        have e := byte_behind (n := n) (x := x) (by have := H56.out; omega) HX8.out
        rw [e]
        exact ⟨⟨k + 1, by omega, by rw [HSU.out], by go_num, trivial⟩, by simp [intOf]; omega⟩
      · have hk8 : k = 8 := by omega
        subst hk8
        rw [show ((8 : Nat) : Int) = (8 : Int) from rfl]
        go_wp2
        go_ret2
        exact ⟨by rw [HX.out]; rfl, HB4.out⟩
  · have HV : Hid (Vf.putE P = ([], 11)) := if_neg hm
    have HX : Hid (Vf.idE P = (0, 11)) := if_neg hm
    rw [HV.out] at HC
    clear hm HV
    go_enter Try.func12, Try.ntmps12
    go_wp2_with (fail)
    refine HC.out.mono ?_
    rintro e w1 ⟨A1, c1, rfl, ho, hb⟩
    have HB1 := Lib.hid (HB.out.trans (hb.mono HB.out.size))
    clear ho hb HC
    go_wp2
    go_ret2
    exact ⟨by rw [HX.out]; rfl, HB1.out⟩
end Go.Proofs.Ytglkhgchbnkekaa
