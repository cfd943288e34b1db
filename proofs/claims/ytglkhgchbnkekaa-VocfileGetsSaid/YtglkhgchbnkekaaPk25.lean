/-
  ShSum: stookref04.Sum: the digest of bytes.
  RVfI: stookref09.Id: a vocabulary's number.
  RVoG: stookref08.Plain; stookref00.Vocab, CopyVocab.
-/
import Derived.Test.YtglkhgchbnkekaaPk23
import Derived.Test.YtglkhgchbnkekaaPk24
import Derived.Test.YtglkhgchbnkekaaPk21
import Derived.Test.YtglkhgchbnkekaaPk17
import Derived.Test.YtglkhgchbnkekaaPk15
namespace Go.Proofs.Ytglkhgchbnkekaa
open Go.RowKit
set_option linter.unusedVariables false

/-- An array of n bytes, the first k of them written. -/
def pk (l : List Nat) (n k : Nat) : Array Value := bvs (l.take k ++ List.replicate (n - k) 0)
theorem pk_zero (l : List Nat) (n : Nat) : pk l n 0 = bvs (List.replicate n 0) := by unfold pk; rw [List.take_zero]; rfl
theorem pk_end {l : List Nat} {n : Nat} (h : l.length = n) : pk l n n = bvs l := by unfold pk; rw [List.take_of_length_le (by omega)]; simp
theorem pk_old (l : List Nat) {n k : Nat} (h : k < n) (hl : l.length = n) : (pk l n k)[k]? = some (.int .u8 (0 : Nat)) := by
  refine bvs_some ?_
  have hk : (l.take k).length = k := by rw [List.length_take]; omega
  rw [List.getElem?_append_right (by omega), hk, Nat.sub_self]
  obtain ⟨m, hm⟩ : ∃ m, n - k = m + 1 := ⟨n - k - 1, by omega⟩
  rw [hm]; rfl
theorem pk_set (l : List Nat) {n k x : Nat} (h : k < n) (hl : l.length = n) (hx : l[k]? = some x) : (pk l n k).setIfInBounds k (.int .u8 (x : Nat)) = pk l n (k + 1) := by
  unfold pk bvs
  apply Array.ext'
  have hm : n - k = (n - (k + 1)) + 1 := by omega
  rw [Array.toList_setIfInBounds, hm, List.replicate_succ, List.take_add_one, hx]
  simp only [List.map_append, List.map_cons]
  rw [List.set_append_right _ _ (by rw [List.length_map, List.length_take]; omega)]
  simp [u8]
  rw [show k - min k l.length = 0 by omega, List.set_cons_zero]
def none64 : Array Value := bvs (List.replicate 64 0)
set_option maxRecDepth 100000 in
theorem zero24 : (Try.prog.info? 85).map (fun i => (i.zero, i.size)) = some (some (.agg none64), 64) := by kernel_rfl

set_option maxHeartbeats 4000000 in
set_option maxRecDepth 100000 in
theorem rsum_any (v : Value) (l : List Nat) (B : Nat) (w : World) (hB : B ≤ w.heap.size) (h : Bv w B v l) (hn : l.length ≤ 1099511627776) :
    Calls Try.prog 32 #[v] w (fun e w' => e = .returned (.agg (bvs (Sh.sum l))) ∧ Below w.heap.size w w') := by
  have HV := Lib.hid h
  have HN := Lib.hid hn
  have HBB := Lib.hid hB
  have hz32 : ∀ w, (zeroValue 57).run Try.prog w = .ok (.agg none32) w := (zero_of_info (n := 32) (by kernel_rfl)).1
  have hz64 := (zero_of_info zero24).1
  have hfit : ([] : List Nat).length + l.length ≤ 140737488355328 := by simp; omega
  have hown : OwnB (w.alloc (.cells none32 57)) (w.heap.size + 1) (.slice none 0 0) [] := OwnB.nil_ _ _
  have hsrc : Bv (w.alloc (.cells none32 57)) B v l := h.below_ ((Below.refl w.heap.size w).alloc (Nat.le_refl _) _) hB
  have hsz1 : w.heap.size + 1 ≤ (w.alloc (.cells none32 57)).heap.size := by simp
  have HB0 : Hid (Below w.heap.size w (w.alloc (.cells none32 57))) := (Below.refl _ _).alloc (Nat.le_refl _) _
  have HD0 : Hid (Rw (w.alloc (.cells none32 57)) w.heap.size 57 none32) := Rw.new w _ _
  obtain ⟨A0, c0, rfl, _, _, _, _⟩ := h
  clear hB hn
  have HOWN := Lib.hid hown
  have HSRC := Lib.hid hsrc
  clear hown hsrc
  go_enter Try.func32, Try.ntmps32
  go_wp2_with (at_builtin; go_must (refine wpList_append_bytes _ rfl _ _ rfl rfl (w.heap.size + 1) _ rfl [] HOWN.out _ rfl B l HSRC.out hfit hsz1 ?_; intro A1 c1 w1 hA))
  have ho1 : OwnB w1 (w.heap.size + 1) (.slice A1 l.length c1) l := hA.own
  have hg1 : (w.alloc (.cells none32 57)).grownBy w1 none := hA.grown
  have hb1 : Below (w.heap.size + 1) (w.alloc (.cells none32 57)) w1 := (Below.refl _ _).grown hg1 hsz1 (fun k hk => by cases hk)
  have hsz2 : w.heap.size + 1 ≤ w1.heap.size := Nat.le_trans hsz1 hb1.size
  have HD1 := Lib.hid (HD0.out.below hb1 (Nat.lt_succ_self _))
  have HB1 := Lib.hid (HB0.out.trans (hb1.mono (Nat.le_succ _)))
  have HR := rbehind_any l.length w1
  rw [Sh.behindOf_in HN.out] at HR
  have HR := Lib.hid HR
  clear hA hg1 hb1 HB0 HD0 HOWN HSRC hfit hsz1
  refine HR.out.mono ?_
  rintro e w2 ⟨A2, c2, rfl, ho2, hb2⟩
  have HO1 := Lib.hid (ho1.below_ hb2 (Nat.le_refl _))
  have HS2 := Lib.hid ho2.form_
  have HD2 := Lib.hid (HD1.out.below hb2 HD1.out.lt)
  have HB2 := Lib.hid (HB1.out.trans (hb2.mono HB1.out.size))
  have hsz3 : w.heap.size + 1 ≤ w2.heap.size := Nat.le_trans hsz2 hb2.size
  have hfit2 : l.length + (Sh.behind l.length).length ≤ 140737488355328 := by rw [Sh.behind_len]; have := Sh.noughts_lt l.length; have := HN.out; omega
  clear ho1 ho2 hb2 HD1 HB1 HR hsz2
  go_wp2_with (at_builtin; go_must (refine wpList_append_bytes _ rfl _ _ rfl rfl (w.heap.size + 1) _ rfl l HO1.out _ rfl _ (Sh.behind l.length) HS2.out hfit2 hsz3 ?_; intro A3 c3 w3 hA))
  have ho3 : OwnB w3 (w.heap.size + 1) (.slice A3 (l ++ Sh.behind l.length).length c3) (l ++ Sh.behind l.length) := hA.own
  have hb3 : Below (w.heap.size + 1) w2 w3 := (Below.refl _ _).grown hA.grown hsz3 (fun k hk => (HO1.out.lt_ k hk).1)
  have HD3 := Lib.hid (HD2.out.below hb3 (Nat.lt_succ_self _))
  have HB3 := Lib.hid (HB2.out.trans (hb3.mono (Nat.le_succ _)))
  obtain ⟨K, hK⟩ : ∃ K, (l.length + (Sh.behind l.length).length) / 64 = K := ⟨_, rfl⟩
  have HSUM : Hid (Sh.sum l = (Sh.blocks Sh.begin K (l ++ Sh.behind l.length)).bytes) := by unfold Hid Sh.sum; rw [hK]
  obtain ⟨L, hL⟩ : ∃ L, l ++ Sh.behind l.length = L := ⟨_, rfl⟩
  have hLl : l.length + (Sh.behind l.length).length = L.length := by rw [← hL, List.length_append]
  have hLK : L.length = 64 * K := by
    have := Sh.behind_whole l.length
    rw [hLl] at this hK
    omega
  have hK1 : 0 < K := by
    have h1 := Sh.behind_len l.length
    rw [hLl] at hK
    omega
  have hK2 : K ≤ 34359738368 := by
    have h1 := Sh.behind_len l.length
    have h2 := Sh.noughts_lt l.length
    have h3 := HN.out
    omega
  rw [hL] at ho3 HSUM
  rw [hLl]
  obtain ⟨A', c', e', _, _, _, hts⟩ := ho3.form_
  injection e' with e1 e2 e3
  subst e1
  obtain ⟨b, off, rfl, hbl, hcell⟩ := hts.2 (by omega)
  have HL8 : Hid (∀ x ∈ L, x < 256) := hts.1
  have HCE : Hid (∀ w', Below w3.heap.size w3 w' → ∀ j x, L[j]? = some x → w'.cell? ⟨b, off + j, none⟩ = some (.int .u8 (x : Nat))) := fun w' hb j x hj => (hb.cell (p := ⟨b, off + j, none⟩) hbl).trans (hcell j x hj)
  have HLK := Lib.hid hLK
  have HZ3 : Hid (w.heap.size + 1 ≤ w3.heap.size) := Nat.le_trans hsz3 hb3.size
  clear hA ho3 hb3 HB2 HD2 HS2 HO1 hfit2 hsz3 e2 e3 hts hcell hbl hLl hLK hK hL
  go_wp2_with (fail)
  refine (begin_any w3).mono ?_
  rintro e w4 ⟨rfl, hb4⟩
  obtain ⟨gh, hgh⟩ : ∃ g, w4.heap.size = g := ⟨_, rfl⟩
  have HGH : Hid (w3.heap.size ≤ gh) := by unfold Hid; rw [← hgh]; exact hb4.size
  have hsc8 : (stv Sh.begin).size = 8 := rfl
  have hsc1 : (stv Sh.begin).all (·.oneCell') = true := stv_one _
  obtain ⟨sc, hsc⟩ : ∃ c, stv Sh.begin = c := ⟨_, rfl⟩
  rw [hsc] at hsc8 hsc1 ⊢
  have HR0 : Hid (Rw (w4.alloc (.cells sc 83)) gh 83 (stv (Sh.blocks Sh.begin 0 L))) := by
    rw [show Sh.blocks Sh.begin 0 L = Sh.begin from rfl, hsc]
    exact Rw.at_ hgh.symm _ _
  have HB4 : Hid (Below w3.heap.size w3 (w4.alloc (.cells sc 83))) := hb4.alloc hb4.size _
  have HGE := Lib.hid hgh
  clear hsc hb4 hgh
  go_wp2_with (first
    | (refine wpList_store_row rfl _ _ _ rfl w4.heap.size sc rfl rfl 83 _ (heap_alloc_new w4 _) (by rw [hsc8]; exact size23) (by rw [hsc8]; rfl) hsc1 ?_
       rw [World.setRow_alloc_new]))
  rw [HGE.out]
  clear HGE hsc8 hsc1
  go_loopw [7] (fun i wr => ∃ k : Nat, k ≤ K ∧ i = .int .i64 (64 * k : Nat) ∧ Hid (Rw wr gh 83 (stv (Sh.blocks Sh.begin k L))) ∧ Hid (Below w3.heap.size w3 wr)) (fun i _ => L.length - (intOf i).toNat)
  case atStart => exact ⟨0, by omega, rfl, HR0.out, HB4.out⟩
  case round =>
    clear HR0 HB4
    obtain ⟨k, hk, rfl, HR, HB⟩ := hrel
    by_cases hkK : k < K
    · obtain ⟨blk, hblk⟩ : ∃ blk, (L.drop (64 * k)).take 64 = blk := ⟨_, rfl⟩
      have hbl64 : blk.length = 64 := by rw [← hblk, List.length_take, List.length_drop, HLK.out]; omega
      have hbl8 : ∀ x ∈ blk, x < 256 := fun x hx => by rw [← hblk] at hx; exact HL8.out x (List.mem_of_mem_drop (List.mem_of_mem_take hx))
      have HAT : Hid (∀ j, j < 64 → ∃ x, blk[j]? = some x ∧ L[64 * k + j]? = some x) := fun j hj => by
        obtain ⟨x, hx⟩ : ∃ x, blk[j]? = some x := ⟨_, List.getElem?_eq_getElem (by omega)⟩
        refine ⟨x, hx, ?_⟩
        rw [← hblk, List.getElem?_take, if_pos hj, List.getElem?_drop] at hx
        exact hx
      have HSUC : Hid (Sh.blocks Sh.begin (k + 1) L = Sh.press (Sh.blocks Sh.begin k L) blk) := by unfold Hid; rw [Sh.blocks_succ, hblk]
      obtain ⟨S, hS⟩ : ∃ S, Sh.blocks Sh.begin k L = S := ⟨_, rfl⟩
      rw [hS] at HR HSUC
      have HPR : Hid (∀ w, Calls Try.prog 50 #[.agg (stv S), .agg (bvs blk)] w (IsSt (Sh.press S blk) w)) := fun w => rpress_any S blk hbl64 hbl8 w
      have HBL := Lib.hid hbl64
      have HKL : Hid (64 * k + 64 ≤ L.length) := by have := HLK.out; unfold Hid; omega
      have HLM : Hid (L.length ≤ 2199023255552) := by have := HLK.out; unfold Hid; omega
      have i1 : ((64 * k : Nat) : Int) < (L.length : Int) := by have := HKL.out; omega
      obtain ⟨at', hat⟩ : ∃ a, 64 * k = a := ⟨_, rfl⟩
      rw [hat] at HAT HKL i1 ⊢
      have HATE := Lib.hid hat
      obtain ⟨gb, hgb⟩ : ∃ g, wr.heap.size = g := ⟨_, rfl⟩
      have hgbh : gh < gb := by rw [← hgb]; exact HR.out.lt
      have HR1 := Lib.hid (HR.out.old (.cells none64 85))
      have HB1 := Lib.hid (HB.out.alloc HB.out.size (.cells none64 85))
      have HN1 : Hid (Rw (wr.alloc (.cells none64 85)) gb 85 (pk blk 64 0)) := by rw [pk_zero]; exact Rw.at_ hgb.symm _ _
      have HGB : Hid (w3.heap.size ≤ gb) := by unfold Hid; rw [← hgb]; exact HB.out.size
      have HGBE := Lib.hid hgb
      clear hblk hbl64 hbl8 hS hat HR HB hgb
      go_wp2
      rw [HGBE.out]
      clear HGBE
      go_loopw [9] (fun i wr => ∃ j : Nat, j ≤ 64 ∧ i = .int .i64 j ∧ Hid (Rw wr gb 85 (pk blk 64 j)) ∧ Hid (Rw wr gh 83 (stv S)) ∧ Hid (Below w3.heap.size w3 wr)) (fun i _ => 64 - (intOf i).toNat)
      case atStart => exact ⟨0, by omega, rfl, HN1.out, HR1.out, HB1.out⟩
      case round =>
        clear HN1 HR1 HB1
        obtain ⟨j, hj, rfl, HN, HR, HB⟩ := hrel
        by_cases h64 : j < 64
        · obtain ⟨x, hx, hLx⟩ := HAT.out j h64
          have cx := HCE.out _ HB.out _ _ hLx
          have co : ∀ wr', Rw wr' gb 85 (pk blk 64 j) → wr'.cell? ⟨gb, j, none⟩ = some (.int .u8 (0 : Nat)) := fun wr' h => (h.cell _).trans (pk_old blk h64 HBL.out)
          have co' := co _ HN.out
          have cf := HN.out.frozen j
          have HST := Lib.hid (pk_set blk h64 HBL.out hx)
          have i2 : (j : Int) < 64 := by omega
          have i3 : (at' : Int) + (j : Int) < (L.length : Int) := by have := HKL.out; omega
          have i4 : ((at' : Int) + (j : Int)).toNat = at' + j := by omega
          have i5 : (0 : Int) ≤ (at' : Int) + (j : Int) := by omega
          have i6 : IntKind.i64.wrap ((at' : Int) + (j : Int)) = (at' : Int) + (j : Int) := by rw [IntKind.wrap_i64]; have := HLM.out; omega
          clear hx hLx co
          go_wp2
          have hn := HN.out.set j (.int .u8 (x : Nat))
          rw [HST.out] at hn
          exact ⟨⟨j + 1, by omega, by go_num, hn, HR.out.setOther (by omega) _ _, HB.out.setCell HGB.out _⟩, by simp [intOf]; omega⟩
        · have h0 : j = 64 := by omega
          subst h0
          rw [pk_end HBL.out] at HN
          have hs1 : (Try.prog.info? 83).map (·.size) = some (stv S).size := size23
          have hs2 : (Try.prog.info? 85).map (·.size) = some (bvs blk).size := by rw [bvs_size, HBL.out]; exact size24
          have HNX : Hid (∀ w', Rw w' gh 83 (stv S) → Rw (w'.setRow gh (stv (Sh.press S blk))) gh 83 (stv (Sh.blocks Sh.begin (k + 1) L))) := fun w' h => by rw [HSUC.out]; exact h.row _
          obtain ⟨vc, hvc⟩ : ∃ c, stv S = c := ⟨_, rfl⟩
          obtain ⟨bc, hbc⟩ : ∃ c, bvs blk = c := ⟨_, rfl⟩
          rw [hvc] at HR hs1 HPR HNX
          rw [hbc] at HN hs2 HPR
          have hv8 : vc.size = 8 := by rw [← hvc]; rfl
          clear hvc hbc
          have i7 : ((at' : Int) + 64) = (64 * (k + 1) : Nat) := by have := HATE.out; omega
          have i8 : (at' : Int) + 64 ≤ 2199023255616 := by have := HKL.out; have := HLM.out; omega
          rw [show ((64 : Nat) : Int) = (64 : Int) from rfl]
          go_wp2_with (first
            | (refine wpList_load_row rfl _ _ rfl gh rfl 83 vc (0, 0) _ HR.out Try.underlying83 rfl hs1 ?_)
            | (refine wpList_load_row rfl _ _ rfl gb rfl 85 bc (0, 0) _ HN.out Try.underlying85 rfl hs2 ?_)
            | (go_at_call 50; (with_reducible refine (HPR.out _).mono ?_); rintro e w5 ⟨rfl, hb5⟩; have HR5 := Lib.hid (HR.out.below hb5 HR.out.lt); have HB5 := Lib.hid (HB.out.trans (hb5.mono HB.out.size)); clear hb5)
            | (refine wpList_store_row rfl _ _ _ rfl gh (stv (Sh.press S blk)) rfl rfl 83 _ HR5.out (by rw [stv_size]; exact size23) (by rw [hv8]; rfl) (stv_one _) ?_))
          have hr := HNX.out _ HR5.out
          have hb := HB5.out.trans (below_setRow (Below.refl _ w5) HGH.out (stv (Sh.press S blk)))
          exact ⟨⟨k + 1, by omega, congrArg (Value.int IntKind.i64) (by omega), hr, hb⟩, by simp [intOf]; have := HKL.out; have := HATE.out; omega⟩
    · have hkK' : k = K := by omega
      subst hkK'
      rw [← HLK.out]
      obtain ⟨S, hS⟩ : ∃ S, Sh.blocks Sh.begin k L = S := ⟨_, rfl⟩
      rw [hS] at HR HSUM
      have HSA : Hid (∀ j, j < 8 → (stv S)[j]? = some (.int .u32 (nt (S.list.getD j 0) : Nat))) := fun j hj => stv_at S hj
      have HBY : Hid (∀ i, i < 32 → (Sh.sum l).getD i 0 = nt (S.list.getD (i / 4) 0) / 2 ^ (24 - 8 * (i % 4)) % 256) := fun i hi => by rw [HSUM.out]; exact St.byte_of S hi
      have HD32 : Hid ((Sh.sum l).length = 32) := by rw [HSUM.out]; exact St.bytes_len S
      obtain ⟨dl, hdl⟩ : ∃ dl, Sh.sum l = dl := ⟨_, rfl⟩
      rw [hdl] at HBY HD32
      have HDL := Lib.hid hdl
      obtain ⟨vc, hvc⟩ : ∃ c, stv S = c := ⟨_, rfl⟩
      rw [hvc] at HR HSA
      obtain ⟨gd, hgd⟩ : ∃ g, wr.heap.size = g := ⟨_, rfl⟩
      have hghd : gh < gd := by rw [← hgd]; exact HR.out.lt
      have HGD : Hid (w3.heap.size ≤ gd) := by unfold Hid; rw [← hgd]; exact HB.out.size
      have HR1 := Lib.hid (HR.out.old (.cells none32 57))
      have HB1 := Lib.hid (HB.out.alloc HB.out.size (.cells none32 57))
      have HG1 : Hid (Rw (wr.alloc (.cells none32 57)) gd 57 (dg dl 0)) := by rw [dg_zero]; exact Rw.at_ hgd.symm _ _
      have HGDE := Lib.hid hgd
      clear hS hdl hvc hgd HR HB HSUM
      go_wp2
      rw [HGDE.out]
      clear HGDE
      go_loopw [11] (fun i wr => ∃ k : Nat, k ≤ 32 ∧ i = .int .i64 k ∧ Hid (Rw wr gh 83 vc) ∧ Hid (Rw wr gd 57 (dg dl k)) ∧ Hid (Below w3.heap.size w3 wr)) (fun i _ => 32 - (intOf i).toNat)
      case atStart => exact ⟨0, by omega, rfl, HR1.out, HG1.out, HB1.out⟩
      case round =>
        clear HR1 HG1 HB1
        obtain ⟨k, hk, rfl, HR, HG, HB⟩ := hrel
        by_cases h32 : k < 32
        · obtain ⟨x, hx⟩ : ∃ x, S.list.getD (k / 4) 0 = x := ⟨_, rfl⟩
          obtain ⟨q, hq⟩ : ∃ q, 24 - 8 * (k % 4) = q := ⟨_, rfl⟩
          obtain ⟨y, hy⟩ : ∃ y, nt x / 2 ^ q % 256 = y := ⟨_, rfl⟩
          have hby := HBY.out k h32
          rw [hx, hq, hy] at hby
          have hy8 : y < 256 := by omega
          have hyi : ((nt x : Nat) : Int) / 2 ^ q % 256 = (y : Nat) := by rw [← hy]; simp
          have HST := Lib.hid (dg_set dl h32 HD32.out hby)
          have c0' : wr.cell? ⟨gh, k / 4, none⟩ = some (.int .u32 (nt x : Nat)) := by rw [← hx]; exact (HR.out.cell _).trans (HSA.out _ (by omega))
          have co : wr.cell? ⟨gd, k, none⟩ = some (.int .u8 (0 : Nat)) := (HG.out.cell _).trans (dg_old dl h32 HD32.out)
          have cf : wr.frozen? ⟨gd, k, none⟩ = false := HG.out.frozen _
          have i0 : (k : Int) < 32 := by omega
          have i1 : (0 : Int) ≤ (k : Int) / 4 := by omega
          have i2 : (k : Int) / 4 < 8 := by omega
          have i3 : ((k : Int) / 4).toNat = k / 4 := by omega
          have i5 : (24 : Int) - 8 * ((k : Int) % 4) = (q : Nat) := by omega
          have i6 : IntKind.u64.wrap (q : Int) = (q : Nat) := by rw [IntKind.wrap_u64]; omega
          clear hx hq hy hby
          go_wp2
          have hd := HG.out.set k (.int .u8 (y : Nat))
          rw [HST.out] at hd
          exact ⟨⟨k + 1, by omega, by go_num, HR.out.setOther (by omega) _ _, hd, HB.out.setCell HGD.out _⟩, by simp [intOf]; omega⟩
        · have hkk : k = 32 := by omega
          subst hkk
          rw [dg_end HD32.out] at HG
          have hsz := size35l HD32.out
          have hone := bvs_one dl
          have hds : none32.size = (bvs dl).size := by rw [bvs_size, HD32.out]; rfl
          obtain ⟨dv, hdv⟩ : ∃ dv, bvs dl = dv := ⟨_, rfl⟩
          rw [hdv] at HG hsz hone hds
          have HDV := Lib.hid hdv
          have HD4 := Lib.hid (HD3.out.below HB.out HD3.out.lt)
          have HBE := Lib.hid (HB3.out.trans (HB.out.mono HB3.out.size))
          clear hdv
          rw [show ((32 : Nat) : Int) = (32 : Int) from rfl]
          go_wp2_with (first
            | (refine wpList_load_row rfl _ _ rfl gd rfl 57 dv (0, 0) _ HG.out Try.underlying57 rfl hsz ?_)
            | (refine wpList_store_row rfl _ _ _ rfl w.heap.size dv rfl rfl 57 _ HD4.out hsz hds hone ?_))
          refine bodyPost_ret (v := .agg dv) (results_cell_row rfl _ _ w.heap.size 57 dv (0, 0) _ rfl (Rw.row HD4.out dv) Try.underlying57 rfl hsz) rfl ⟨by rw [HDL.out, HDV.out], HBE.out.trans (below_setRow (Below.refl _ _) (Nat.le_refl _) _)⟩
end Go.Proofs.Ytglkhgchbnkekaa
namespace Go.Proofs.Ytglkhgchbnkekaa
open Go.RowKit
set_option linter.unusedVariables false

theorem sum_len (l : List Nat) : (Sh.sum l).length = 32 := St.bytes_len _
theorem sum_lt (l : List Nat) : ∀ x ∈ Sh.sum l, x < 256 := St.bytes_lt _

set_option maxHeartbeats 2000000 in
set_option maxRecDepth 100000 in
theorem rvid_any (P : List Vo.Pc) (v : Value) (B : Nat) (w : World) (hv : Lv pK w B v P) (hB : B ≤ w.heap.size) (hP : P.length ≤ 4096) :
    Calls Try.prog 13 #[.agg #[v]] w (IsId (Vf.idE P) w) := by
  obtain ⟨W, hW⟩ : ∃ W, w.alloc (.cells #[v] 24) = W := ⟨_, rfl⟩
  obtain ⟨d0, hsz, hb⟩ := boxed hW
  have HC := Lib.hid (rvfput_any P v B W (hv.below_ hb hB) (Nat.le_trans hB hb.size))
  have HB := Lib.hid hb
  have hsh := Vf.file_short hP
  obtain ⟨A, c, rfl, _, _, _, _⟩ := hv
  clear hsz hb
  by_cases hm : Vo.May P
  · have HV : Hid (Vf.putE P = (Vf.file P, 0)) := if_pos hm
    have HX : Hid (Vf.idE P = (Vf.idTo (Sh.sum (Vf.file P)) 8, 0)) := if_pos hm
    rw [HV.out] at HC
    obtain ⟨x, hx⟩ : ∃ x, Vf.file P = x := ⟨_, rfl⟩
    rw [hx] at HC HX hsh
    clear hm hx HV
    go_enter Try.func13, Try.ntmps13
    go_wp2_with (fail)
    refine HC.out.mono ?_
    rintro e w1 ⟨A1, c1, rfl, ho, hb⟩
    have HB1 := Lib.hid (HB.out.trans (hb.mono HB.out.size))
    have HS := Lib.hid (rsum_any _ x w1.heap.size w1 (Nat.le_refl _) ho.form_.bv_ (by omega))
    clear ho hb HC
    go_wp2_with (fail)
    refine HS.out.mono ?_
    rintro e w2 ⟨rfl, hb⟩
    have HB2 := Lib.hid (HB1.out.trans (hb.mono HB1.out.size))
    obtain ⟨d, hd⟩ : ∃ d, Sh.sum x = d := ⟨_, rfl⟩
    have HDL : Hid (d.length = 32) := by unfold Hid; rw [← hd]; exact sum_len x
    have HDT : Hid (∀ y ∈ d, y < 256) := by unfold Hid; rw [← hd]; exact sum_lt x
    rw [hd] at HX ⊢
    have hsz := size35l HDL.out
    have hone := bvs_one d
    have hds : none32.size = (bvs d).size := by rw [bvs_size, HDL.out]; rfl
    have hz32 : ∀ w, (zeroValue 57).run Try.prog w = .ok (.agg none32) w := (zero_of_info (n := 32) (by kernel_rfl)).1
    have HD0 : Hid (Rw (w2.alloc (.cells none32 57)) w2.heap.size 57 none32) := Rw.new w2 _ _
    have HB3 : Hid (Below w.heap.size w (w2.alloc (.cells none32 57))) := HB2.out.alloc HB2.out.size _
    clear hb HS hd
    go_wp2_with (refine wpList_store_row rfl _ _ _ rfl w2.heap.size (bvs d) rfl rfl 57 _ HD0.out hsz hds hone ?_)
    obtain ⟨g, hg⟩ : ∃ g, w2.heap.size = g := ⟨_, rfl⟩
    rw [hg] at HD0 ⊢
    have HR := Lib.hid (HD0.out.row (bvs d))
    have hgs : w.heap.size ≤ g := by rw [← hg]; exact HB2.out.size
    have HB4 := Lib.hid (HB3.out.trans (below_setRow (Below.refl w.heap.size _) hgs (bvs d)))
    obtain ⟨W4, hW4⟩ : ∃ W4, (w2.alloc (.cells none32 57)).setRow g (bvs d) = W4 := ⟨_, rfl⟩
    rw [hW4] at HR HB4 ⊢
    clear hW4 HD0 HB3 hg hds hone hsz hz32
    have HLT : Hid (∀ k, Vf.idTo d k < 256 ^ k) := Vf.idTo_lt HDT.out
    go_loopw [7, 8] (fun n i wr => ∃ k : Nat, k ≤ 8 ∧ n = .int .u64 (Vf.idTo d k : Nat) ∧ i = .int .i64 (k : Nat) ∧ wr = W4) (fun _ i _ => 8 - (intOf i).toNat)
    case atStart => exact ⟨0, by omega, rfl, rfl, rfl⟩
    case round =>
      obtain ⟨k, hk, rfl, rfl, rfl⟩ := hrel
      by_cases h8 : k < 8
      · have hkl : k < d.length := by have := HDL.out; omega
        obtain ⟨x, hx⟩ : ∃ x, d[k]? = some x := ⟨_, List.getElem?_eq_getElem hkl⟩
        have hx8 : x < 256 := HDT.out x (List.mem_of_getElem? hx)
        have HSU := Lib.hid (Vf.idTo_succ hx)
        have h56 : Vf.idTo d k < 256 ^ 7 := Nat.lt_of_lt_of_le (HLT.out k) (Nat.pow_le_pow_right (by omega) (by omega))
        obtain ⟨n, hn⟩ : ∃ n, Vf.idTo d k = n := ⟨_, rfl⟩
        rw [hn] at HSU h56 ⊢
        have c0 : wr.cell? ⟨g, k, none⟩ = some (.int .u8 (x : Nat)) := (HR.out.cell _).trans (bvs_some hx)
        have i0 : (k : Int) < 8 := by omega
        have i1 : (k : Int) < 32 := by omega
        have m1 : IntKind.u64.wrap (256 * (n : Int)) = 256 * (n : Int) := by rw [IntKind.wrap_u64]; omega
        have m2 : IntKind.u64.wrap (256 * (n : Int) + (x : Int)) = 256 * (n : Int) + (x : Int) := by rw [IntKind.wrap_u64]; omega
        clear hn hx
        go_wp2
        exact ⟨⟨k + 1, by omega, by rw [HSU.out]; exact congrArg (Value.int IntKind.u64) (by omega), by go_num, trivial⟩, by simp [intOf]; omega⟩
      · have hk8 : k = 8 := by omega
        subst hk8
        rw [show ((8 : Nat) : Int) = (8 : Int) from rfl]
        go_wp2
        go_ret2
        exact ⟨by rw [HX.out]; rfl, HB4.out⟩
  · have HV : Hid (Vf.putE P = ([], 11)) := if_neg hm
    have HX : Hid (Vf.idE P = (0, 11)) := if_neg hm
    rw [HV.out] at HC
    clear hm HV
    go_enter Try.func13, Try.ntmps13
    go_wp2_with (fail)
    refine HC.out.mono ?_
    rintro e w1 ⟨A1, c1, rfl, ho, hb⟩
    have HB1 := Lib.hid (HB.out.trans (hb.mono HB.out.size))
    clear ho hb HC
    go_wp2
    go_ret2
    exact ⟨by rw [HX.out]; rfl, HB1.out⟩
end Go.Proofs.Ytglkhgchbnkekaa
namespace Go.Proofs.Ytglkhgchbnkekaa
open Go.RowKit
set_option linter.unusedVariables false

namespace Vo
def plain (n : Nat) : List Pc := (List.range n).map (fun b => ⟨false, b, 0, 0, 0⟩)
theorem plain_len (n : Nat) : (plain n).length = n := by simp [plain]
theorem plain_succ (n : Nat) : plain (n + 1) = plain n ++ [⟨false, n, 0, 0, 0⟩] := by simp [plain, List.range_succ]
end Vo
/-- A call that answers a vocabulary of these pieces in new memory. -/
def IsVoc (P : List Vo.Pc) (w : World) (e : Ending) (w' : World) : Prop :=
  ∃ A c, e = .returned (.agg #[.slice A P.length c]) ∧ OwnL pK w' w.heap.size (.slice A P.length c) P ∧ Below w.heap.size w w'

set_option maxHeartbeats 1000000 in
theorem rplain_any (w : World) : Calls Try.prog 21 #[] w (IsVoc (Vo.plain 256) w) := by
  obtain ⟨W, hW⟩ : ∃ W, (w.alloc (.cells #[.slice none 0 0] 24)).alloc (.cells #[.slice none 0 0] 24) = W := ⟨_, rfl⟩
  have h0 : W.heap[w.heap.size]? = some (.cells #[.slice none 0 0] 24 (0, 0)) := by rw [← hW]; exact (heap_alloc_old _ _ (by simp)).trans (heap_alloc_new w _)
  have h1 : W.heap[w.heap.size + 1]? = some (.cells #[.slice none 0 0] 24 (0, 0)) := by
    have e : (w.alloc (.cells #[.slice none 0 0] 24)).heap.size = w.heap.size + 1 := by simp
    rw [← hW, ← e]; exact heap_alloc_new _ _
  have HB : Hid (Below w.heap.size w W) := by unfold Hid; rw [← hW]; exact ((Below.refl _ _).alloc (Nat.le_refl _) _).alloc (by simp) _
  have HSZ : Hid (W.heap.size = w.heap.size + 2) := by unfold Hid; rw [← hW]; simp
  have H0 := Lib.hid h0
  have H1 := Lib.hid h1
  clear h0 h1
  go_enter Try.func21, Try.ntmps21
  go_wp2
  go_loopw [2] (fun i wr => ∃ (k : Nat) (A : Option Addr) (c : Nat), k ≤ 256 ∧ i = .int .i64 k ∧ Hid (wr.heap[w.heap.size]? = some (.cells #[.slice none 0 0] 24 (0, 0))) ∧ Hid (wr.heap[w.heap.size + 1]? = some (.cells #[.slice A k c] 24 (0, 0))) ∧ Hid (OwnL pK wr W.heap.size (.slice A k c) (Vo.plain k)) ∧ Below w.heap.size w wr) (fun i _ => 256 - (intOf i).toNat)
  case atStart => exact ⟨0, none, 0, by omega, rfl, H0.out, H1.out, OwnL.nil_ _ _ _, HB.out⟩
  case round =>
    obtain ⟨k, A, c, hk, rfl, HR0, HR1, HO, hbr⟩ := hrel
    have HBr := Lib.hid hbr
    have hs := hbr.size
    have hsz := HSZ.out
    have hlt1 : w.heap.size + 1 < wr.heap.size := (Array.getElem?_eq_some_iff.1 HR1.out).1
    have HAP : Hid (∀ g, (Value.slice A k c).ownBlock = some g → w.heap.size + 2 ≤ g) := fun g hg => by have := (HO.out.lt_ g hg).1; omega
    have hc1 : wr.cell? ⟨w.heap.size + 1, 0, none⟩ = some (.slice A k c) := by rw [cell_of_row _ _ 0 _ _ _ HR1.out]; rfl
    clear hbr
    by_cases hlt : k < 256
    · have hki : (k : Int) < 256 := by omega
      have hw8 : IntKind.u8.wrap (k : Int) = (k : Int) := by rw [IntKind.wrap_u8]; omega
      have HOK : Hid (PcOk ⟨false, k, 0, 0, 0⟩) := ⟨hlt, by unfold I64; simp, by unfold I64; simp, by simp⟩
      have HL : Hid ((Vo.plain k).length = k) := Vo.plain_len k
      have hbase : W.heap.size ≤ wr.heap.size := by omega
      have HK : Hid (k + 1 ≤ 256) := hlt
      go_wp2_with (at_builtin; go_must (refine wpList_push_l _ pK rfl _ _ rfl W.heap.size _ rfl (Vo.plain k) HO.out rfl ⟨false, k, 0, 0, 0⟩ HOK.out _ rfl _ rfl (by rw [HL.out]; show _ * 32 ≤ _; omega) (by rw [HL.out]; simp only [maxLen]; omega) hbase ?_; intro A3 c3 w2 hA hG; have hh4 := (hG.block (w.heap.size + 1) hlt1 (fun e => by have := HAP.out _ e.symm; omega)).trans HR1.out; have hc4 : w2.cell? ⟨w.heap.size + 1, 0, none⟩ = some (.slice A k c) := (by rw [cell_of_row _ _ 0 _ _ _ hh4]; rfl); have hf4 : w2.frozen? ⟨w.heap.size + 1, 0, none⟩ = false := frozen_of_row w2 _ 0 _ _ hh4))
      have hh0 := (hG.block w.heap.size (by omega) (fun e => by have := HAP.out _ e.symm; omega)).trans HR0.out
      have hbw : w.heap.size ≤ wr.heap.size := by omega
      have HB2 := Lib.hid ((HBr.out.grown hG hbw (fun g hg => by have := HAP.out g hg; omega)).setCell (p := ⟨w.heap.size + 1, 0, none⟩) (Nat.le_succ _) (.slice A3 (k + 1) c3))
      rw [HL.out] at hA ⊢
      have HR0' : Hid ((w2.setCell ⟨w.heap.size + 1, 0, none⟩ (.slice A3 (k + 1) c3)).heap[w.heap.size]? = some (.cells #[.slice none 0 0] 24 (0, 0))) := by
        unfold Hid; rw [heap_setCell_other _ _ _ _ (by simp)]; exact hh0
      have HR1' : Hid ((w2.setCell ⟨w.heap.size + 1, 0, none⟩ (.slice A3 (k + 1) c3)).heap[w.heap.size + 1]? = some (.cells #[.slice A3 (k + 1) c3] 24 (0, 0))) := by
        unfold Hid; rw [heap_setCell_same _ _ _ _ _ _ hh4]; rfl
      have HO' : Hid (OwnL pK (w2.setCell ⟨w.heap.size + 1, 0, none⟩ (.slice A3 (k + 1) c3)) W.heap.size (.slice A3 (k + 1) c3) (Vo.plain (k + 1))) := by
        unfold Hid
        rw [Vo.plain_succ]
        exact hA.of_block (fun g hg => heap_setCell_other _ _ _ _ (fun e => by have := (hA.lt_ g hg).1; simp at e; omega))
      clear hA hG hh4 hc4 hf4 hh0 HO HL HOK hbase hsz hlt1
      go_wp2
      go_roundw
      case rel => exact ⟨k + 1, A3, c3, HK.out, by go_num, HR0'.out, HR1'.out, HO'.out, HB2.out⟩
      case measure => simp [intOf]; omega
    · obtain rfl : k = 256 := by omega
      have hc0 : wr.cell? ⟨w.heap.size, 0, none⟩ = some (.slice none 0 0) := by rw [cell_of_row _ _ 0 _ _ _ HR0.out]; rfl
      have hf0 : wr.frozen? ⟨w.heap.size, 0, none⟩ = false := frozen_of_row wr _ 0 _ _ HR0.out
      have HL : Hid ((Vo.plain 256).length = 256) := Vo.plain_len 256
      have HO' : Hid (OwnL pK (wr.setCell ⟨w.heap.size, 0, none⟩ (.slice A 256 c)) W.heap.size (.slice A 256 c) (Vo.plain 256)) := HO.out.of_block (fun g hg => heap_setCell_other _ _ _ _ (fun e => by have := HAP.out g hg; simp at e; omega))
      have HB2 := Lib.hid (HBr.out.setCell (p := ⟨w.heap.size, 0, none⟩) (Nat.le_refl _) (.slice A 256 c))
      obtain ⟨W2, hW2⟩ : ∃ W2, wr.setCell ⟨w.heap.size, 0, none⟩ (.slice A 256 c) = W2 := ⟨_, rfl⟩
      have hc2 : W2.cell? ⟨w.heap.size, 0, none⟩ = some (.slice A 256 c) := by rw [← hW2, cell_of_row _ _ 0 _ _ _ (heap_setCell_same _ _ _ _ _ _ HR0.out)]; rfl
      rw [hW2] at HO' HB2
      clear HO
      go_wp2
      refine bodyPost_ret (v := .agg #[.slice A 256 c]) (by simp [results, Try.results21, go_sem, hc2]) rfl ⟨A, c, by rw [HL.out], ?_, HB2.out⟩
      rw [HL.out]
      exact HO'.out.mono_ (by omega)

set_option maxHeartbeats 1000000 in
theorem copyvoc_any (P : List Vo.Pc) (v : Value) (B : Nat) (w : World) (hv : Lv pK w B v P) (hB : B ≤ w.heap.size) (hP : P.length ≤ 4194304) :
    Calls Try.prog 18 #[.agg #[v]] w (IsVoc P w) := by
  obtain ⟨A, c, rfl, _, _, _, _⟩ := id hv
  obtain ⟨W, hW⟩ : ∃ W, (w.alloc (.cells #[.slice A P.length c] 24)).alloc (.cells #[.slice none 0 0] 24) = W := ⟨_, rfl⟩
  have d0 : W.cell? ⟨w.heap.size, 0, none⟩ = some (.slice A P.length c) := by
    rw [← hW, cell_of_row _ w.heap.size 0 _ _ _ ((heap_alloc_old _ _ (by simp)).trans (heap_alloc_new w _))]; rfl
  have h1 : W.heap[w.heap.size + 1]? = some (.cells #[.slice none 0 0] 24 (0, 0)) := by
    have e : (w.alloc (.cells #[.slice A P.length c] 24)).heap.size = w.heap.size + 1 := by simp
    rw [← hW, ← e]; exact heap_alloc_new _ _
  have HB : Hid (Below w.heap.size w W) := by unfold Hid; rw [← hW]; exact ((Below.refl _ _).alloc (Nat.le_refl _) _).alloc (by simp) _
  have hsz : W.heap.size = w.heap.size + 2 := by rw [← hW]; simp
  have HV := Lib.hid (hv.below_ HB.out hB)
  have H1 := Lib.hid h1
  have HSZ := Lib.hid hsz
  have hle : W.heap.size ≤ W.heap.size := Nat.le_refl _
  clear h1 hsz
  go_enter Try.func18, Try.ntmps18
  go_wp2_with (at_builtin; go_must (refine wpList_append_l _ pK rfl _ _ rfl W.heap.size (.slice none 0 0) rfl [] (OwnL.nil_ _ _ _) _ rfl B P HV.out (by show (_ + _) * 32 ≤ _; simp only [List.length_nil]; omega) (by simp only [List.length_nil, maxLen]; omega) (Nat.le_refl _) ?_))
  intro A3 c3 w3 hA hG
  have hh := (hG.block (w.heap.size + 1) (by have := HSZ.out; omega) (by simp [Value.ownBlock])).trans H1.out
  have hc0 : w3.cell? ⟨w.heap.size + 1, 0, none⟩ = some (.slice none 0 0) := by rw [cell_of_row _ _ 0 _ _ _ hh]; rfl
  have hf0 : w3.frozen? ⟨w.heap.size + 1, 0, none⟩ = false := frozen_of_row w3 _ 0 _ _ hh
  obtain ⟨W2, hW2⟩ : ∃ W2, w3.setCell ⟨w.heap.size + 1, 0, none⟩ (.slice A3 P.length c3) = W2 := ⟨_, rfl⟩
  have hc2 : W2.cell? ⟨w.heap.size + 1, 0, none⟩ = some (.slice A3 P.length c3) := by rw [← hW2, cell_of_row _ _ 0 _ _ _ (heap_setCell_same w3 _ 0 _ _ _ hh)]; rfl
  have HO' : Hid (OwnL pK W2 W.heap.size (.slice A3 P.length c3) P) := by
    unfold Hid; rw [← hW2]
    exact hA.of_block (fun g hg => heap_setCell_other _ _ _ _ (fun e => by have := (hA.lt_ g hg).1; have := HSZ.out; simp at e; omega))
  have HB2 : Hid (Below w.heap.size w W2) := by
    unfold Hid; rw [← hW2]
    exact (HB.out.grown hG HB.out.size (fun k hk => by simp [Value.ownBlock] at hk)).setCell (p := ⟨w.heap.size + 1, 0, none⟩) (Nat.le_succ _) _
  clear hA hG hh
  go_wp2
  refine bodyPost_ret (v := .agg #[.slice A3 P.length c3]) (by simp [results, Try.results18, go_sem, hc2]) rfl ⟨A3, c3, rfl, ?_, HB2.out⟩
  exact HO'.out.mono_ (by have := HSZ.out; omega)

set_option maxHeartbeats 1000000 in
theorem voc_any (P Q : List Vo.Pc) (v u : Value) (B B' : Nat) (w : World) (hv : Lv pK w B v P) (hu : Lv pK w B' u Q) (hB : B ≤ w.heap.size) (hB' : B' ≤ w.heap.size) :
    Calls Try.prog 17 #[.agg #[v], .agg #[u]] w (IsBool (decide (P = Q)) w) := by
  obtain ⟨A, c, rfl, h1, h2, _, _⟩ := id hv
  obtain ⟨A', c', rfl, h1', h2', _, _⟩ := id hu
  have hm : P.length ≤ 9223372036854775807 := by simp only [maxLen] at h2; omega
  have hm' : Q.length ≤ 9223372036854775807 := by simp only [maxLen] at h2'; omega
  clear h1 h2 h1' h2'
  obtain ⟨W, hW⟩ : ∃ W, (w.alloc (.cells #[.slice A P.length c] 24)).alloc (.cells #[.slice A' Q.length c'] 24) = W := ⟨_, rfl⟩
  have d0 : W.cell? ⟨w.heap.size, 0, none⟩ = some (.slice A P.length c) := by
    rw [← hW, cell_of_row _ w.heap.size 0 _ _ _ ((heap_alloc_old _ _ (by simp)).trans (heap_alloc_new w _))]; rfl
  have d1 : W.cell? ⟨w.heap.size + 1, 0, none⟩ = some (.slice A' Q.length c') := by
    have e : (w.alloc (.cells #[.slice A P.length c] 24)).heap.size = w.heap.size + 1 := by simp
    rw [← hW, ← e, cell_of_row _ _ 0 _ _ _ (heap_alloc_new _ _)]; rfl
  have HB : Hid (Below w.heap.size w W) := by unfold Hid; rw [← hW]; exact ((Below.refl _ _).alloc (Nat.le_refl _) _).alloc (by simp) _
  have HSZ : Hid (W.heap.size = w.heap.size + 2) := by unfold Hid; rw [← hW]; simp
  have HV := Lib.hid (hv.below_ HB.out hB)
  have HU := Lib.hid (hu.below_ HB.out hB')
  by_cases hl : P.length = Q.length
  · have hlb : ((P.length : Int) != (Q.length : Int)) = false := by rw [hl]; simp
    have HL := Lib.hid hl
    clear hl
    go_enter Try.func17, Try.ntmps17
    go_wp2
    go_loopw [5] (fun s wr => ∃ k : Nat, k ≤ P.length ∧ s = .int .i64 k ∧ Hid (P.take k = Q.take k) ∧ Below W.heap.size W wr) (fun s _ => P.length - (intOf s).toNat)
    case atStart => exact ⟨0, by omega, rfl, rfl, Below.refl _ _⟩
    case round =>
      obtain ⟨k, hk, rfl, HT, hbr⟩ := hrel
      have hll := HL.out
      have hsz := HSZ.out
      have f0 := (hbr.cell (p := ⟨w.heap.size, 0, none⟩) (by show w.heap.size < _; omega)).trans d0
      have f1 := (hbr.cell (p := ⟨w.heap.size + 1, 0, none⟩) (by show w.heap.size + 1 < _; omega)).trans d1
      have HBw := Lib.hid (HB.out.trans (hbr.mono HB.out.size))
      have hvr := HV.out.below_ hbr (Nat.le_trans hB HB.out.size)
      have hur := HU.out.below_ hbr (Nat.le_trans hB' HB.out.size)
      have HBr := Lib.hid hbr
      clear hbr d0 d1 hsz
      by_cases hlt : k < P.length
      · obtain ⟨b, off, q, rfl, hbB, hqok, hq, q0, q1, q2, q3, q4⟩ := hvr.piece_ hlt
        obtain ⟨b', off', q', rfl, hbB', hqok', hq', q0', q1', q2', q3', q4'⟩ := hur.piece_ (k := k) (by omega)
        have hki : (k : Int) < (P.length : Int) := by omega
        have hki' : (k : Int) < (Q.length : Int) := by omega
        have hne := fun w => pc_neq q q' w
        have hgd := pc_guard
        unfold pcV at hne
        obtain ⟨t, ht⟩ : ∃ t, Vo.eqB q q' = t := ⟨_, rfl⟩
        rw [ht] at hne
        have HE := Lib.hid ht
        have HQ : Hid (P[k]? = some q ∧ Q[k]? = some q') := ⟨hq, hq'⟩
        clear hll ht hq hq' hqok hqok' hvr hur
        cases t with
        | true =>
          have HT2 : Hid (P.take (k + 1) = Q.take (k + 1)) := (take_both HT.out HQ.out.1 HQ.out.2).2 (Vo.eqB_iff.1 HE.out)
          go_wp2
          go_quiet (fail)
          go_wp2
          go_roundw
          case rel => exact ⟨k + 1, hlt, by go_num, HT2.out, below_drewN HBr.out _⟩
          case measure => simp [intOf]; omega
        | false =>
          have HU2 : Hid (P ≠ Q) := fun h => by
            have h2 := HQ.out
            rw [h] at h2
            have e := Option.some.inj (h2.1.symm.trans h2.2)
            have := Vo.eqB_iff.2 e
            rw [HE.out] at this
            cases this
          go_wp2
          go_quiet (fail)
          go_wp2
          go_ret
          exact ⟨by rw [decide_eq_false HU2.out]; rfl, below_drewN HBw.out _⟩
      · have hlt' : ¬ (k : Int) < (P.length : Int) := by omega
        have HE : Hid (P = Q) := take_whole HT.out (by omega) (by omega)
        clear hll
        go_wp2
        go_ret
        exact ⟨by rw [decide_eq_true HE.out]; rfl, HBw.out⟩
  · have hlb : ((P.length : Int) != (Q.length : Int)) = true := by rw [bne_iff_ne]; omega
    have HU2 : Hid (P ≠ Q) := fun h => hl (by rw [h])
    clear hl
    go_enter Try.func17, Try.ntmps17
    go_wp2
    go_ret
    exact ⟨by rw [decide_eq_false HU2.out]; rfl, HB.out⟩
end Go.Proofs.Ytglkhgchbnkekaa
