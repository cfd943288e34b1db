/-
  stookref04.Sum: the digest of bytes.
-/
import Derived.Test.YtejipcnihgpdhaaShPress
import Derived.Test.YtejipcnihgpdhaaShBehind
import Derived.Test.YtejipcnihgpdhaaSpHashM
namespace Go.Proofs.Ytejipcnihgpdhaa
open Go.RowKit
set_option linter.unusedVariables false

/-- An array of n bytes, the first k of them written. -/
def pk (l : List Nat) (n k : Nat) : Array Value := bvs (l.take k ++ List.replicate (n - k) 0)
theorem pk_zero (l : List Nat) (n : Nat) : pk l n 0 = bvs (List.replicate n 0) := by unfold pk; rw [List.take_zero]; rfl
theorem pk_end {l : List Nat} {n : Nat} (h : l.length = n) : pk l n n = bvs l := by unfold pk; rw [List.take_of_length_le (by omega)]; simp
theorem pk_old (l : List Nat) {n k : Nat} (h : k < n) (hl : l.length = n) : (pk l n k)[k]? = some (.int .u8 (0 : Nat)) := by
  refine bvs_some ?_
  have hk : (l.take k).length = k := by rw [List.length_take]; omega
  rw [List.getElem?_append_right (by omega), hk, Nat.sub_self]
  obtain ⟨m, hm⟩ : ∃ m, n - k = m + 1 := ⟨n - k - 1, by omega⟩
  rw [hm]; rfl
theorem pk_set (l : List Nat) {n k x : Nat} (h : k < n) (hl : l.length = n) (hx : l[k]? = some x) : (pk l n k).setIfInBounds k (.int .u8 (x : Nat)) = pk l n (k + 1) := by
  unfold pk bvs
  apply Array.ext'
  have hm : n - k = (n - (k + 1)) + 1 := by omega
  rw [Array.toList_setIfInBounds, hm, List.replicate_succ, List.take_add_one, hx]
  simp only [List.map_append, List.map_cons]
  rw [List.set_append_right _ _ (by rw [List.length_map, List.length_take]; omega)]
  simp [u8]
  rw [show k - min k l.length = 0 by omega, List.set_cons_zero]
def none64 : Array Value := bvs (List.replicate 64 0)
set_option maxRecDepth 100000 in
theorem zero24 : (Try.prog.info? 24).map (fun i => (i.zero, i.size)) = some (some (.agg none64), 64) := by kernel_rfl

set_option maxHeartbeats 4000000 in
set_option maxRecDepth 100000 in
theorem rsum_any (v : Value) (l : List Nat) (B : Nat) (w : World) (hB : B ≤ w.heap.size) (h : Bv w B v l) (hn : l.length ≤ 1099511627776) :
    Calls Try.prog 17 #[v] w (fun e w' => e = .returned (.agg (bvs (Sh.sum l))) ∧ Below w.heap.size w w') := by
  have HV := Lib.hid h
  have HN := Lib.hid hn
  have HBB := Lib.hid hB
  have hz32 : ∀ w, (zeroValue 35).run Try.prog w = .ok (.agg none32) w := (zero_of_info (n := 32) (by kernel_rfl)).1
  have hz64 := (zero_of_info zero24).1
  have hfit : ([] : List Nat).length + l.length ≤ 140737488355328 := by simp; omega
  have hown : OwnB (w.alloc (.cells none32 35)) (w.heap.size + 1) (.slice none 0 0) [] := OwnB.nil_ _ _
  have hsrc : Bv (w.alloc (.cells none32 35)) B v l := h.below_ ((Below.refl w.heap.size w).alloc (Nat.le_refl _) _) hB
  have hsz1 : w.heap.size + 1 ≤ (w.alloc (.cells none32 35)).heap.size := by simp
  have HB0 : Hid (Below w.heap.size w (w.alloc (.cells none32 35))) := (Below.refl _ _).alloc (Nat.le_refl _) _
  have HD0 : Hid (Rw (w.alloc (.cells none32 35)) w.heap.size 35 none32) := Rw.new w _ _
  obtain ⟨A0, c0, rfl, _, _, _, _⟩ := h
  clear hB hn
  have HOWN := Lib.hid hown
  have HSRC := Lib.hid hsrc
  clear hown hsrc
  go_enter Try.func17, Try.ntmps17
  go_wp2_with (at_builtin; go_must (refine wpList_append_bytes _ rfl _ _ rfl rfl (w.heap.size + 1) _ rfl [] HOWN.out _ rfl B l HSRC.out hfit hsz1 ?_; intro A1 c1 w1 hA))
  have ho1 : OwnB w1 (w.heap.size + 1) (.slice A1 l.length c1) l := hA.own
  have hg1 : (w.alloc (.cells none32 35)).grownBy w1 none := hA.grown
  have hb1 : Below (w.heap.size + 1) (w.alloc (.cells none32 35)) w1 := (Below.refl _ _).grown hg1 hsz1 (fun k hk => by cases hk)
  have hsz2 : w.heap.size + 1 ≤ w1.heap.size := Nat.le_trans hsz1 hb1.size
  have HD1 := Lib.hid (HD0.out.below hb1 (Nat.lt_succ_self _))
  have HB1 := Lib.hid (HB0.out.trans (hb1.mono (Nat.le_succ _)))
  have HR := rbehind_any l.length w1
  rw [Sh.behindOf_in HN.out] at HR
  have HR := Lib.hid HR
  clear hA hg1 hb1 HB0 HD0 HOWN HSRC hfit hsz1
  refine HR.out.mono ?_
  rintro e w2 ⟨A2, c2, rfl, ho2, hb2⟩
  have HO1 := Lib.hid (ho1.below_ hb2 (Nat.le_refl _))
  have HS2 := Lib.hid ho2.form_
  have HD2 := Lib.hid (HD1.out.below hb2 HD1.out.lt)
  have HB2 := Lib.hid (HB1.out.trans (hb2.mono HB1.out.size))
  have hsz3 : w.heap.size + 1 ≤ w2.heap.size := Nat.le_trans hsz2 hb2.size
  have hfit2 : l.length + (Sh.behind l.length).length ≤ 140737488355328 := by rw [Sh.behind_len]; have := Sh.noughts_lt l.length; have := HN.out; omega
  clear ho1 ho2 hb2 HD1 HB1 HR hsz2
  go_wp2_with (at_builtin; go_must (refine wpList_append_bytes _ rfl _ _ rfl rfl (w.heap.size + 1) _ rfl l HO1.out _ rfl _ (Sh.behind l.length) HS2.out hfit2 hsz3 ?_; intro A3 c3 w3 hA))
  have ho3 : OwnB w3 (w.heap.size + 1) (.slice A3 (l ++ Sh.behind l.length).length c3) (l ++ Sh.behind l.length) := hA.own
  have hb3 : Below (w.heap.size + 1) w2 w3 := (Below.refl _ _).grown hA.grown hsz3 (fun k hk => (HO1.out.lt_ k hk).1)
  have HD3 := Lib.hid (HD2.out.below hb3 (Nat.lt_succ_self _))
  have HB3 := Lib.hid (HB2.out.trans (hb3.mono (Nat.le_succ _)))
  obtain ⟨K, hK⟩ : ∃ K, (l.length + (Sh.behind l.length).length) / 64 = K := ⟨_, rfl⟩
  have HSUM : Hid (Sh.sum l = (Sh.blocks Sh.begin K (l ++ Sh.behind l.length)).bytes) := by unfold Hid Sh.sum; rw [hK]
  obtain ⟨L, hL⟩ : ∃ L, l ++ Sh.behind l.length = L := ⟨_, rfl⟩
  have hLl : l.length + (Sh.behind l.length).length = L.length := by rw [← hL, List.length_append]
  have hLK : L.length = 64 * K := by
    have := Sh.behind_whole l.length
    rw [hLl] at this hK
    omega
  have hK1 : 0 < K := by
    have h1 := Sh.behind_len l.length
    rw [hLl] at hK
    omega
  have hK2 : K ≤ 34359738368 := by
    have h1 := Sh.behind_len l.length
    have h2 := Sh.noughts_lt l.length
    have h3 := HN.out
    omega
  rw [hL] at ho3 HSUM
  rw [hLl]
  obtain ⟨A', c', e', _, _, _, hts⟩ := ho3.form_
  injection e' with e1 e2 e3
  subst e1
  obtain ⟨b, off, rfl, hbl, hcell⟩ := hts.2 (by omega)
  have HL8 : Hid (∀ x ∈ L, x < 256) := hts.1
  have HCE : Hid (∀ w', Below w3.heap.size w3 w' → ∀ j x, L[j]? = some x → w'.cell? ⟨b, off + j, none⟩ = some (.int .u8 (x : Nat))) := fun w' hb j x hj => (hb.cell (p := ⟨b, off + j, none⟩) hbl).trans (hcell j x hj)
  have HLK := Lib.hid hLK
  have HZ3 : Hid (w.heap.size + 1 ≤ w3.heap.size) := Nat.le_trans hsz3 hb3.size
  clear hA ho3 hb3 HB2 HD2 HS2 HO1 hfit2 hsz3 e2 e3 hts hcell hbl hLl hLK hK hL
  go_wp2_with (fail)
  refine (begin_any w3).mono ?_
  rintro e w4 ⟨rfl, hb4⟩
  obtain ⟨gh, hgh⟩ : ∃ g, w4.heap.size = g := ⟨_, rfl⟩
  have HGH : Hid (w3.heap.size ≤ gh) := by unfold Hid; rw [← hgh]; exact hb4.size
  have hsc8 : (stv Sh.begin).size = 8 := rfl
  have hsc1 : (stv Sh.begin).all (·.oneCell') = true := stv_one _
  obtain ⟨sc, hsc⟩ : ∃ c, stv Sh.begin = c := ⟨_, rfl⟩
  rw [hsc] at hsc8 hsc1 ⊢
  have HR0 : Hid (Rw (w4.alloc (.cells sc 23)) gh 23 (stv (Sh.blocks Sh.begin 0 L))) := by
    rw [show Sh.blocks Sh.begin 0 L = Sh.begin from rfl, hsc]
    exact Rw.at_ hgh.symm _ _
  have HB4 : Hid (Below w3.heap.size w3 (w4.alloc (.cells sc 23))) := hb4.alloc hb4.size _
  have HGE := Lib.hid hgh
  clear hsc hb4 hgh
  go_wp2_with (first
    | (refine wpList_store_row rfl _ _ _ rfl w4.heap.size sc rfl rfl 23 _ (heap_alloc_new w4 _) (by rw [hsc8]; exact size23) (by rw [hsc8]; rfl) hsc1 ?_
       rw [World.setRow_alloc_new]))
  rw [HGE.out]
  clear HGE hsc8 hsc1
  go_loopw [7] (fun i wr => ∃ k : Nat, k ≤ K ∧ i = .int .i64 (64 * k : Nat) ∧ Hid (Rw wr gh 23 (stv (Sh.blocks Sh.begin k L))) ∧ Hid (Below w3.heap.size w3 wr)) (fun i _ => L.length - (intOf i).toNat)
  case atStart => exact ⟨0, by omega, rfl, HR0.out, HB4.out⟩
  case round =>
    clear HR0 HB4
    obtain ⟨k, hk, rfl, HR, HB⟩ := hrel
    by_cases hkK : k < K
    · obtain ⟨blk, hblk⟩ : ∃ blk, (L.drop (64 * k)).take 64 = blk := ⟨_, rfl⟩
      have hbl64 : blk.length = 64 := by rw [← hblk, List.length_take, List.length_drop, HLK.out]; omega
      have hbl8 : ∀ x ∈ blk, x < 256 := fun x hx => by rw [← hblk] at hx; exact HL8.out x (List.mem_of_mem_drop (List.mem_of_mem_take hx))
      have HAT : Hid (∀ j, j < 64 → ∃ x, blk[j]? = some x ∧ L[64 * k + j]? = some x) := fun j hj => by
        obtain ⟨x, hx⟩ : ∃ x, blk[j]? = some x := ⟨_, List.getElem?_eq_getElem (by omega)⟩
        refine ⟨x, hx, ?_⟩
        rw [← hblk, List.getElem?_take, if_pos hj, List.getElem?_drop] at hx
        exact hx
      have HSUC : Hid (Sh.blocks Sh.begin (k + 1) L = Sh.press (Sh.blocks Sh.begin k L) blk) := by unfold Hid; rw [Sh.blocks_succ, hblk]
      obtain ⟨S, hS⟩ : ∃ S, Sh.blocks Sh.begin k L = S := ⟨_, rfl⟩
      rw [hS] at HR HSUC
      have HPR : Hid (∀ w, Calls Try.prog 11 #[.agg (stv S), .agg (bvs blk)] w (IsSt (Sh.press S blk) w)) := fun w => rpress_any S blk hbl64 hbl8 w
      have HBL := Lib.hid hbl64
      have HKL : Hid (64 * k + 64 ≤ L.length) := by have := HLK.out; unfold Hid; omega
      have HLM : Hid (L.length ≤ 2199023255552) := by have := HLK.out; unfold Hid; omega
      have i1 : ((64 * k : Nat) : Int) < (L.length : Int) := by have := HKL.out; omega
      obtain ⟨at', hat⟩ : ∃ a, 64 * k = a := ⟨_, rfl⟩
      rw [hat] at HAT HKL i1 ⊢
      have HATE := Lib.hid hat
      obtain ⟨gb, hgb⟩ : ∃ g, wr.heap.size = g := ⟨_, rfl⟩
      have hgbh : gh < gb := by rw [← hgb]; exact HR.out.lt
      have HR1 := Lib.hid (HR.out.old (.cells none64 24))
      have HB1 := Lib.hid (HB.out.alloc HB.out.size (.cells none64 24))
      have HN1 : Hid (Rw (wr.alloc (.cells none64 24)) gb 24 (pk blk 64 0)) := by rw [pk_zero]; exact Rw.at_ hgb.symm _ _
      have HGB : Hid (w3.heap.size ≤ gb) := by unfold Hid; rw [← hgb]; exact HB.out.size
      have HGBE := Lib.hid hgb
      clear hblk hbl64 hbl8 hS hat HR HB hgb
      go_wp2
      rw [HGBE.out]
      clear HGBE
      go_loopw [9] (fun i wr => ∃ j : Nat, j ≤ 64 ∧ i = .int .i64 j ∧ Hid (Rw wr gb 24 (pk blk 64 j)) ∧ Hid (Rw wr gh 23 (stv S)) ∧ Hid (Below w3.heap.size w3 wr)) (fun i _ => 64 - (intOf i).toNat)
      case atStart => exact ⟨0, by omega, rfl, HN1.out, HR1.out, HB1.out⟩
      case round =>
        clear HN1 HR1 HB1
        obtain ⟨j, hj, rfl, HN, HR, HB⟩ := hrel
        by_cases h64 : j < 64
        · obtain ⟨x, hx, hLx⟩ := HAT.out j h64
          have cx := HCE.out _ HB.out _ _ hLx
          have co : ∀ wr', Rw wr' gb 24 (pk blk 64 j) → wr'.cell? ⟨gb, j, none⟩ = some (.int .u8 (0 : Nat)) := fun wr' h => (h.cell _).trans (pk_old blk h64 HBL.out)
          have co' := co _ HN.out
          have cf := HN.out.frozen j
          have HST := Lib.hid (pk_set blk h64 HBL.out hx)
          have i2 : (j : Int) < 64 := by omega
          have i3 : (at' : Int) + (j : Int) < (L.length : Int) := by have := HKL.out; omega
          have i4 : ((at' : Int) + (j : Int)).toNat = at' + j := by omega
          have i5 : (0 : Int) ≤ (at' : Int) + (j : Int) := by omega
          have i6 : IntKind.i64.wrap ((at' : Int) + (j : Int)) = (at' : Int) + (j : Int) := by rw [IntKind.wrap_i64]; have := HLM.out; omega
          clear hx hLx co
          go_wp2
          have hn := HN.out.set j (.int .u8 (x : Nat))
          rw [HST.out] at hn
          exact ⟨⟨j + 1, by omega, by go_num, hn, HR.out.setOther (by omega) _ _, HB.out.setCell HGB.out _⟩, by simp [intOf]; omega⟩
        · have h0 : j = 64 := by omega
          subst h0
          rw [pk_end HBL.out] at HN
          have hs1 : (Try.prog.info? 23).map (·.size) = some (stv S).size := size23
          have hs2 : (Try.prog.info? 24).map (·.size) = some (bvs blk).size := by rw [bvs_size, HBL.out]; exact size24
          have HNX : Hid (∀ w', Rw w' gh 23 (stv S) → Rw (w'.setRow gh (stv (Sh.press S blk))) gh 23 (stv (Sh.blocks Sh.begin (k + 1) L))) := fun w' h => by rw [HSUC.out]; exact h.row _
          obtain ⟨vc, hvc⟩ : ∃ c, stv S = c := ⟨_, rfl⟩
          obtain ⟨bc, hbc⟩ : ∃ c, bvs blk = c := ⟨_, rfl⟩
          rw [hvc] at HR hs1 HPR HNX
          rw [hbc] at HN hs2 HPR
          have hv8 : vc.size = 8 := by rw [← hvc]; rfl
          clear hvc hbc
          have i7 : ((at' : Int) + 64) = (64 * (k + 1) : Nat) := by have := HATE.out; omega
          have i8 : (at' : Int) + 64 ≤ 2199023255616 := by have := HKL.out; have := HLM.out; omega
          rw [show ((64 : Nat) : Int) = (64 : Int) from rfl]
          go_wp2_with (first
            | (refine wpList_load_row rfl _ _ rfl gh rfl 23 vc (0, 0) _ HR.out Try.underlying23 rfl hs1 ?_)
            | (refine wpList_load_row rfl _ _ rfl gb rfl 24 bc (0, 0) _ HN.out Try.underlying24 rfl hs2 ?_)
            | (go_at_call 11; (with_reducible refine (HPR.out _).mono ?_); rintro e w5 ⟨rfl, hb5⟩; have HR5 := Lib.hid (HR.out.below hb5 HR.out.lt); have HB5 := Lib.hid (HB.out.trans (hb5.mono HB.out.size)); clear hb5)
            | (refine wpList_store_row rfl _ _ _ rfl gh (stv (Sh.press S blk)) rfl rfl 23 _ HR5.out (by rw [stv_size]; exact size23) (by rw [hv8]; rfl) (stv_one _) ?_))
          have hr := HNX.out _ HR5.out
          have hb := HB5.out.trans (below_setRow (Below.refl _ w5) HGH.out (stv (Sh.press S blk)))
          exact ⟨⟨k + 1, by omega, congrArg (Value.int IntKind.i64) (by omega), hr, hb⟩, by simp [intOf]; have := HKL.out; have := HATE.out; omega⟩
    · have hkK' : k = K := by omega
      subst hkK'
      rw [← HLK.out]
      obtain ⟨S, hS⟩ : ∃ S, Sh.blocks Sh.begin k L = S := ⟨_, rfl⟩
      rw [hS] at HR HSUM
      have HSA : Hid (∀ j, j < 8 → (stv S)[j]? = some (.int .u32 (nt (S.list.getD j 0) : Nat))) := fun j hj => stv_at S hj
      have HBY : Hid (∀ i, i < 32 → (Sh.sum l).getD i 0 = nt (S.list.getD (i / 4) 0) / 2 ^ (24 - 8 * (i % 4)) % 256) := fun i hi => by rw [HSUM.out]; exact St.byte_of S hi
      have HD32 : Hid ((Sh.sum l).length = 32) := by rw [HSUM.out]; exact St.bytes_len S
      obtain ⟨dl, hdl⟩ : ∃ dl, Sh.sum l = dl := ⟨_, rfl⟩
      rw [hdl] at HBY HD32
      have HDL := Lib.hid hdl
      obtain ⟨vc, hvc⟩ : ∃ c, stv S = c := ⟨_, rfl⟩
      rw [hvc] at HR HSA
      obtain ⟨gd, hgd⟩ : ∃ g, wr.heap.size = g := ⟨_, rfl⟩
      have hghd : gh < gd := by rw [← hgd]; exact HR.out.lt
      have HGD : Hid (w3.heap.size ≤ gd) := by unfold Hid; rw [← hgd]; exact HB.out.size
      have HR1 := Lib.hid (HR.out.old (.cells none32 35))
      have HB1 := Lib.hid (HB.out.alloc HB.out.size (.cells none32 35))
      have HG1 : Hid (Rw (wr.alloc (.cells none32 35)) gd 35 (dg dl 0)) := by rw [dg_zero]; exact Rw.at_ hgd.symm _ _
      have HGDE := Lib.hid hgd
      clear hS hdl hvc hgd HR HB HSUM
      go_wp2
      rw [HGDE.out]
      clear HGDE
      go_loopw [11] (fun i wr => ∃ k : Nat, k ≤ 32 ∧ i = .int .i64 k ∧ Hid (Rw wr gh 23 vc) ∧ Hid (Rw wr gd 35 (dg dl k)) ∧ Hid (Below w3.heap.size w3 wr)) (fun i _ => 32 - (intOf i).toNat)
      case atStart => exact ⟨0, by omega, rfl, HR1.out, HG1.out, HB1.out⟩
      case round =>
        clear HR1 HG1 HB1
        obtain ⟨k, hk, rfl, HR, HG, HB⟩ := hrel
        by_cases h32 : k < 32
        · obtain ⟨x, hx⟩ : ∃ x, S.list.getD (k / 4) 0 = x := ⟨_, rfl⟩
          obtain ⟨q, hq⟩ : ∃ q, 24 - 8 * (k % 4) = q := ⟨_, rfl⟩
          obtain ⟨y, hy⟩ : ∃ y, nt x / 2 ^ q % 256 = y := ⟨_, rfl⟩
          have hby := HBY.out k h32
          rw [hx, hq, hy] at hby
          have hy8 : y < 256 := by omega
          have hyi : ((nt x : Nat) : Int) / 2 ^ q % 256 = (y : Nat) := by rw [← hy]; simp
          have HST := Lib.hid (dg_set dl h32 HD32.out hby)
          have c0' : wr.cell? ⟨gh, k / 4, none⟩ = some (.int .u32 (nt x : Nat)) := by rw [← hx]; exact (HR.out.cell _).trans (HSA.out _ (by omega))
          have co : wr.cell? ⟨gd, k, none⟩ = some (.int .u8 (0 : Nat)) := (HG.out.cell _).trans (dg_old dl h32 HD32.out)
          have cf : wr.frozen? ⟨gd, k, none⟩ = false := HG.out.frozen _
          have i0 : (k : Int) < 32 := by omega
          have i1 : (0 : Int) ≤ (k : Int) / 4 := by omega
          have i2 : (k : Int) / 4 < 8 := by omega
          have i3 : ((k : Int) / 4).toNat = k / 4 := by omega
          have i5 : (24 : Int) - 8 * ((k : Int) % 4) = (q : Nat) := by omega
          have i6 : IntKind.u64.wrap (q : Int) = (q : Nat) := by rw [IntKind.wrap_u64]; omega
          clear hx hq hy hby
          go_wp2
          have hd := HG.out.set k (.int .u8 (y : Nat))
          rw [HST.out] at hd
          exact ⟨⟨k + 1, by omega, by go_num, HR.out.setOther (by omega) _ _, hd, HB.out.setCell HGD.out _⟩, by simp [intOf]; omega⟩
        · have hkk : k = 32 := by omega
          subst hkk
          rw [dg_end HD32.out] at HG
          have hsz := size35l HD32.out
          have hone := bvs_one dl
          have hds : none32.size = (bvs dl).size := by rw [bvs_size, HD32.out]; rfl
          obtain ⟨dv, hdv⟩ : ∃ dv, bvs dl = dv := ⟨_, rfl⟩
          rw [hdv] at HG hsz hone hds
          have HDV := Lib.hid hdv
          have HD4 := Lib.hid (HD3.out.below HB.out HD3.out.lt)
          have HBE := Lib.hid (HB3.out.trans (HB.out.mono HB3.out.size))
          clear hdv
          rw [show ((32 : Nat) : Int) = (32 : Int) from rfl]
          go_wp2_with (first
            | (refine wpList_load_row rfl _ _ rfl gd rfl 35 dv (0, 0) _ HG.out Try.underlying35 rfl hsz ?_)
            | (refine wpList_store_row rfl _ _ _ rfl w.heap.size dv rfl rfl 35 _ HD4.out hsz hds hone ?_))
          refine bodyPost_ret (v := .agg dv) (results_cell_row rfl _ _ w.heap.size 35 dv (0, 0) _ rfl (Rw.row HD4.out dv) Try.underlying35 rfl hsz) rfl ⟨by rw [HDL.out, HDV.out], HBE.out.trans (below_setRow (Below.refl _ _) (Nat.le_refl _) _)⟩
end Go.Proofs.Ytejipcnihgpdhaa
