/-
  ShaPieces, the upto form: however bytes are cut into writes, the digest behind each of them is that of all that came; a copy goes its own way. The condition: what comes in is of bulk at most 1048576.
-/
import Derived.Test.YtejipcnihgpdhaaFrameR
import Derived.Test.YtejipcnihgpdhaaSpEq
import Derived.Test.YtejipcnihgpdhaaShSum
namespace Go.Proofs.Ytejipcnihgpdhaa.shaPieces
open Go.ChangeShapes Go.WideShapes Go.ChangeAt Go.RowKit
open Go.ChangeMaps (open_string shut_string)
set_option linter.unusedVariables false

/-- A hash is no row of bytes: their blocks are unlike. -/
theorem own_apart {w : World} {base g : Nat} {v : Value} {l m : List Nat} (h : OwnB w base v l) (hh : HashAt w g m) : v.ownBlock ≠ some g := by
  intro e
  rcases h.2.2 with ⟨rfl, _⟩ | ⟨g', cap, cur, rfl, _, hc, _⟩
  · cases e
  · obtain ⟨s, r, _, hr⟩ := hh
    have e1 : g' = g := by injection e
    subst e1
    have hr' : w.heap[g']? = _ := hr
    rw [hc] at hr'
    simp at hr'
theorem hash_kept {w w' : World} {g : Nat} {l : List Nat} {row : Option Nat} (h : HashAt w g l) (hg : w.grownBy w' row) (hne : some g ≠ row) : HashAt w' g l := by
  obtain ⟨s, r, h1, h2⟩ := h
  exact ⟨s, r, h1, (hg.block g h2.lt hne).trans h2⟩

set_option maxHeartbeats 4000000 in
set_option maxRecDepth 100000 in
theorem walk (w : World) (v0 : Value) (l0 : List (List Nat)) (h0 : Rv w w.heap.size v0 l0) (a1 : Int) (w1 : (Lit.int .i64 a1).wf = true) (hsz : (cat l0).length ≤ 1048576) (hct : l0.length ≤ 1048576) :
    Calls Try.prog 7 #[v0, .int .i64 a1] w (IsBool true w) := by
  have H0 := Lib.hid h0
  obtain ⟨A0, c0, rfl, _, _, _, _⟩ := h0
  have HSZ : Hid ((cat l0).length ≤ 1048576) := hsz
  clear w1 hsz
  go_enter Try.func7, Try.ntmps7
  go_wp2_with (fail)
  refine (new_any w).mono ?_
  rintro e w2 ⟨g, rfl, hg, hH2, hb2⟩
  have HH2 := Lib.hid hH2
  have HB2 := Lib.hid hb2
  have hnil := Lib.hid (OwnB.nil_ w2 w.heap.size)
  clear hH2 hb2
  go_wp2_with (fail)
  go_loopw [6, 8] (fun v i wr => ∃ k : Nat, k ≤ l0.length ∧ i = .int .i64 k ∧ Hid (OwnB wr w.heap.size v (cat (l0.take k))) ∧ Hid (HashAt wr g (cat (l0.take k))) ∧ Hid (Below w.heap.size w wr)) (fun _ i _ => l0.length - (intOf i).toNat)
  case atStart => exact ⟨0, by omega, rfl, hnil.out, HH2.out, HB2.out⟩
  case round =>
    clear hnil HH2 HB2
    obtain ⟨k, hk, rfl, HO, HH, HB⟩ := hrel
    by_cases hlt : k < l0.length
    · obtain ⟨b, off, A', c', x, rfl, hb, hx, hcell, hbv⟩ := (H0.out.below_ HB.out (Nat.le_refl _)).at_ hlt
      have hfs := flat_succ hx
      have hfl := flat_le l0 (k + 1)
      rw [hfs, List.length_append] at hfl
      obtain ⟨G, hG⟩ : ∃ G, cat (l0.take k) = G := ⟨_, rfl⟩
      rw [hG] at HO HH hfs hfl
      have HF := Lib.hid hfs
      have HLN : Hid (G.length + x.length ≤ 1048576) := Nat.le_trans hfl HSZ.out
      have HWR := Lib.hid (write_any g G x (.slice A' x.length c') wr HH.out (hbv.src hg HH.out.lt) (by have := HLN.out; omega))
      have i1 : (k : Int) < (l0.length : Nat) := by omega
      have HBV := Lib.hid hbv
      obtain ⟨A3, c3, rfl, _⟩ := HO.out.form_
      clear hx hG hfs hfl hbv
      go_wp2_with (fail)
      refine HWR.out.mono ?_
      rintro e w3 ⟨rfl, hH3, hg3⟩
      have HO3 := Lib.hid (HO.out.kept_ hg3 (.inr (own_apart HO.out HH.out)))
      have HH3 := Lib.hid hH3
      have HB3 := Lib.hid (below_grown HB.out hg3 HB.out.size hg)
      have HBV3 : Hid (Bv w3 w.heap.size (.slice A' x.length c') x) := HBV.out.below_ (below_grown (Below.refl w.heap.size wr) hg3 HB.out.size hg) (Nat.le_refl _)
      have hcell3 : w3.cell? ⟨b, off + k, none⟩ = some (.slice A' x.length c') := ((below_grown (Below.refl w.heap.size wr) hg3 HB.out.size hg).cell (p := ⟨b, off + k, none⟩) hb).trans hcell
      have hsz3 : w.heap.size ≤ w3.heap.size := HB3.out.size
      have hfit : G.length + x.length ≤ 140737488355328 := by have := HLN.out; omega
      clear hH3 hg3 HWR HO HH HB HBV hcell
      go_wp2_with (at_builtin; go_must (refine wpList_append_bytes _ rfl _ _ rfl rfl w.heap.size _ rfl G HO3.out _ rfl _ x HBV3.out hfit hsz3 ?_; intro A4 c4 w4 hA))
      have HO4 := Lib.hid hA.own
      have hg4 : w3.grownBy w4 (Value.ownBlock (.slice A3 G.length c3)) := hA.grown
      have HH4 : Hid (HashAt w4 g (G ++ x)) := hash_kept HH3.out hg4 (fun e => own_apart HO3.out HH3.out e.symm)
      have HB4 : Hid (Below w.heap.size w w4) := HB3.out.grown hg4 hsz3 (fun j hj => (HO3.out.lt_ j hj).1)
      have HSM := Lib.hid (hsum_any g (G ++ x) w4 HH4.out (by rw [List.length_append]; have := HLN.out; omega))
      have heq := same32 (Sh.sum (G ++ x)) (sum_len _)
      obtain ⟨dv, hdv⟩ : ∃ dv, bvs (Sh.sum (G ++ x)) = dv := ⟨_, rfl⟩
      rw [hdv] at HSM heq
      have HDV := Lib.hid hdv
      have hlen4 : (G ++ x).length = G.length + x.length := List.length_append
      have HO4 : Hid (OwnB w4 w.heap.size (.slice A4 (G.length + x.length) c4) (G ++ x)) := by rw [← hlen4]; exact HO4.out
      clear hA hg4 HH3 HO3 HB3 HBV3 hcell3 hfit hdv hlen4
      go_wp2_with (fail)
      refine HSM.out.mono ?_
      rintro e w5 ⟨rfl, hb5⟩
      have HO5 := Lib.hid (HO4.out.below_ hb5 (Nat.le_refl _))
      have HH5 := Lib.hid (HH4.out.below hb5 HH4.out.lt)
      have HB5 := Lib.hid (HB4.out.trans (hb5.mono HB4.out.size))
      have hlen : (G ++ x).length = G.length + x.length := List.length_append
      have hS5 := sum_any (.slice A4 (G.length + x.length) c4) (G ++ x) w5.heap.size w5 (Nat.le_refl _) HO5.out.form_ (by rw [hlen]; have := HLN.out; omega)
      rw [HDV.out] at hS5
      have HS5 := Lib.hid hS5
      clear hS5 HO4 HH4 HB4 HSM hb5 hlen
      go_wp2_with (fail)
      refine HS5.out.mono ?_
      rintro e w6 ⟨rfl, hb6⟩
      have HO6 := Lib.hid (HO5.out.below_ hb6 (Nat.le_refl _))
      have HH6 := Lib.hid (HH5.out.below hb6 HH5.out.lt)
      have HB6 := Lib.hid (HB5.out.trans (hb6.mono HB5.out.size))
      clear HO5 HH5 HB5 HS5 hb6
      by_cases hat : (k : Int) = a1
      · have hq : ((k : Int) == a1) = true := by rw [beq_iff_eq]; exact hat
        clear hat
        go_wp2_with (fail)
        refine (copy_any g (G ++ x) w6 HH6.out).mono ?_
        rintro e w7 ⟨g', rfl, hg', hC7, hb7⟩
        have hgg : g < g' := Nat.lt_of_lt_of_le HH6.out.lt hg'
        have hg7 : g' < w7.heap.size := hC7.lt
        have ho7 := HO6.out.below_ hb7 (Nat.le_refl _)
        have hh7 := HH6.out.below hb7 HH6.out.lt
        have hB7 := HB6.out.trans (hb7.mono HB6.out.size)
        have HO8 := Lib.hid (ho7.alloc_ (.cells #[.int .u8 1] 5))
        have HH8 : Hid (HashAt (w7.alloc (.cells #[.int .u8 1] 5)) g (G ++ x)) := hh7.below ((Below.refl w7.heap.size w7).alloc (Nat.le_refl _) _) hh7.lt
        have HC8 : Hid (HashAt (w7.alloc (.cells #[.int .u8 1] 5)) g' (G ++ x)) := hC7.below ((Below.refl w7.heap.size w7).alloc (Nat.le_refl _) _) hC7.lt
        have HB8 := Lib.hid (hB7.alloc hB7.size (.cells #[.int .u8 1] 5))
        have hlit : OwnB (w7.alloc (.cells #[.int .u8 1] 5)) w7.heap.size (.slice (some ⟨w7.heap.size, 0, none⟩) 1 1) [1] := OwnB.lit_ w7 (Nat.le_refl _) (c := 1) (x := 1) rfl (by omega)
        have HW8 := Lib.hid (write_any g' (G ++ x) [1] (.slice (some ⟨w7.heap.size, 0, none⟩) 1 1) _ HC8.out (hlit.src hg7) (by rw [List.length_append]; have := HLN.out; simp; omega))
        clear ho7 hh7 hB7 hlit hC7 hb7 HO6 HH6 HB6
        obtain ⟨w8, hw8⟩ : ∃ w8, w7.alloc (.cells #[.int .u8 1] 5) = w8 := ⟨_, rfl⟩
        have HSZ8 : Hid (w7.heap.size + 1 = w8.heap.size) := by unfold Hid; rw [← hw8]; simp
        rw [hw8] at HO8 HH8 HC8 HB8 HW8
        go_wp2_with (fail)
        refine HW8.out.mono ?_
        rintro e w9 ⟨rfl, hC9, hg9⟩
        have HO9 := Lib.hid (HO8.out.kept_ hg9 (.inr (own_apart HO8.out HC8.out)))
        have HH9 : Hid (HashAt w9 g (G ++ x)) := hash_kept HH8.out hg9 (by simp; omega)
        have HC9 := Lib.hid hC9
        have HB9 : Hid (Below w.heap.size w w9) := below_grown HB8.out hg9 HB8.out.size (by omega)
        have HZ9 : Hid (g' < w9.heap.size) := hC9.lt
        have hown9 := Lib.hid (OwnB.nil_ w9 w9.heap.size)
        have hsrc9 := Lib.hid HO9.out.form_
        have hfit9 : ([] : List Nat).length + (G ++ x).length ≤ 140737488355328 := by rw [List.length_append]; have := HLN.out; simp; omega
        clear hC9 hg9 HW8 HO8 HH8 HC8 HB8 hw8 HSZ8
        have hfit10 : (G ++ x).length + [1].length ≤ 140737488355328 := by rw [List.length_append]; have := HLN.out; simp; omega
        have e0 : ([] ++ (G ++ x) : List Nat).length = G.length + x.length := by simp
        have HE0 := Lib.hid e0
        clear e0
        go_wp2_with (first
          | (at_builtin
             refine wpList_append_bytes _ rfl _ _ rfl rfl w9.heap.size _ rfl [] hown9.out _ rfl w9.heap.size (G ++ x) hsrc9.out hfit9 (Nat.le_refl _) ?_
             intro A10 c10 w10 hA
             have ho10 : OwnB w10 w9.heap.size (.slice A10 ([] ++ (G ++ x) : List Nat).length c10) (G ++ x) := hA.own
             have hg10 : w9.grownBy w10 none := hA.grown
             have HB10 : Hid (Below w9.heap.size w9 w10) := (Below.refl _ _).grown hg10 (Nat.le_refl _) (fun k hk => by cases hk)
             have HO10 := Lib.hid (ho10.alloc_ (.cells #[.int .u8 1] 5))
             have HB11 := Lib.hid (HB10.out.alloc HB10.out.size (.cells #[.int .u8 1] 5))
             have HS10 : Hid (Bv (w10.alloc (.cells #[.int .u8 1] 5)) (w10.heap.size + 1) (.slice (some ⟨w10.heap.size, 0, none⟩) 1 1) [1]) := Bv.one_ w10 (x := 1) (c := 1) rfl (by omega)
             have hz11 : w9.heap.size ≤ (w10.alloc (.cells #[.int .u8 1] 5)).heap.size := HB11.out.size
             rw [HE0.out] at HO10
             clear hA ho10 hg10 hown9 hsrc9 hfit9)
          | (at_builtin
             refine wpList_append_bytes _ rfl _ _ rfl rfl w9.heap.size _ rfl (G ++ x) HO10.out _ rfl _ [1] HS10.out hfit10 hz11 ?_
             intro A12 c12 w12 hA
             have HO12 := Lib.hid hA.own
             have HB12 := Lib.hid (HB11.out.grown hA.grown hz11 (fun j hj => (HO10.out.lt_ j hj).1))
             clear hA))
        have HLL : Hid ((G ++ x ++ [1]).length = G.length + (x.length + 1)) := by unfold Hid; simp
        have HS12 := Lib.hid (hsum_any g' (G ++ x ++ [1]) w12 (HC9.out.below HB12.out HZ9.out) (by rw [HLL.out]; have := HLN.out; omega))
        have heq2 := same32 (Sh.sum (G ++ x ++ [1])) (sum_len _)
        obtain ⟨dw, hdw⟩ : ∃ dw, bvs (Sh.sum (G ++ x ++ [1])) = dw := ⟨_, rfl⟩
        rw [hdw] at heq2 HS12
        have HDW := Lib.hid hdw
        clear hdw
        refine HS12.out.mono ?_
        rintro e w13 ⟨rfl, hb13⟩
        have ho13 := HO12.out.below_ hb13 (Nat.le_refl _)
        rw [HLL.out] at ho13
        have hR := rsum_any _ (G ++ x ++ [1]) w13.heap.size w13 (Nat.le_refl _) ho13.form_ (by rw [HLL.out]; have := HLN.out; omega)
        rw [HDW.out] at hR
        have HR13 := Lib.hid hR
        have HB13 := Lib.hid (HB12.out.trans (hb13.mono HB12.out.size))
        clear hb13 ho13 hR HS12 HO12 HO10 HS10 HB10 HB11 HC9
        go_wp2_with (fail)
        refine HR13.out.mono ?_
        rintro e w14 ⟨rfl, hb14⟩
        have HB14 := Lib.hid (HB13.out.trans (hb14.mono HB13.out.size))
        have HO14 := Lib.hid (HO9.out.below_ HB14.out (Nat.le_refl _))
        have HH14 := Lib.hid (HH9.out.below HB14.out HH9.out.lt)
        have HB14' := Lib.hid (HB9.out.trans (HB14.out.mono HB9.out.size))
        clear hb14 HR13
        go_wp2
        exact ⟨⟨k + 1, by omega, by go_num, by rw [HF.out]; exact HO14.out, by rw [HF.out]; exact HH14.out, HB14'.out⟩, by simp [intOf]; omega⟩
      · have hq : ((k : Int) == a1) = false := by rw [beq_eq_false_iff_ne]; exact hat
        clear hat
        go_wp2
        exact ⟨⟨k + 1, by omega, by go_num, by rw [HF.out]; exact HO6.out, by rw [HF.out]; exact HH6.out, HB6.out⟩, by simp [intOf]; omega⟩
    · have hkk : k = l0.length := by omega
      subst hkk
      rw [List.take_length] at HO HH
      have hN : (cat l0).length ≤ 1099511627776 := by have := HSZ.out; omega
      have HHS := Lib.hid (hsum_any g (cat l0) wr HH.out hN)
      have HN := Lib.hid hN
      have heq := same32 (Sh.sum (cat l0)) (sum_len _)
      obtain ⟨dv, hdv⟩ : ∃ dv, bvs (Sh.sum (cat l0)) = dv := ⟨_, rfl⟩
      rw [hdv] at heq HHS
      have HDV := Lib.hid hdv
      have hlt2 : ¬ ((l0.length : Nat) : Int) < ((l0.length : Nat) : Int) := by omega
      obtain ⟨C, hC⟩ : ∃ C, cat l0 = C := ⟨_, rfl⟩
      rw [hC] at HO HDV HN
      obtain ⟨A3, c3, rfl, _⟩ := HO.out.form_
      clear hdv hC hN
      go_wp2_with (fail)
      refine HHS.out.mono ?_
      rintro e w3 ⟨rfl, hb3⟩
      have hR := rsum_any _ C w3.heap.size w3 (Nat.le_refl _) (HO.out.below_ hb3 (Nat.le_refl _)).form_ HN.out
      rw [HDV.out] at hR
      have HR3 := Lib.hid hR
      have HB3 := Lib.hid (HB.out.trans (hb3.mono HB.out.size))
      clear hb3 hR HHS HO HH HB
      go_wp2_with (fail)
      refine HR3.out.mono ?_
      rintro e w4 ⟨rfl, hb4⟩
      have HB4 := Lib.hid (HB3.out.trans (hb4.mono HB3.out.size))
      clear hb4 HR3
      go_wp2_with (fail)
      refine (works_any w4).mono ?_
      rintro e w5 ⟨rfl, hb5⟩
      have HB5 := Lib.hid (HB4.out.trans (hb5.mono HB4.out.size))
      clear hb5
      go_wp2
      go_ret
      exact ⟨rfl, HB5.out⟩

/-! ### From the walk to the row -/
set_option maxRecDepth 100000 in
theorem lifted (os : Os) (started : os.Started) (H : Type) (enc : TypeId × Value → H) (F : Stop.Interp) :
    ReturnsInHanded {} Try.checked os 7 .any ((Rows.OpenSpec.upto Rows.shaPiecesSpec).pre6 enc Try.prog Try.f7 Rows.shaPiecesUptoRow.domain false) (((Rows.OpenSpec.upto Rows.shaPiecesSpec).at F).post enc Try.prog Try.f7 false true false false) := by
  refine returnsInHanded_of_cond (C := Try.checked) (s := Rows.OpenSpec.upto Rows.shaPiecesSpec) (k := Rows.uptoSmall) rfl own started (by kernel_rfl) Try.func7
    (OpenSpec.witness (enc := enc) (C := Try.checked) (s := Rows.OpenSpec.upto Rows.shaPiecesSpec) (k := Rows.uptoSmall) rfl false ⟨#[], #[.slice none 0 0, .int .i64 0], []⟩ 8 (by kernel_rfl) (by kernel_rfl) (by kernel_rfl)
      (x := ([.nil, .lit (.int .i64 0)], [], [])) (by kernel_rfl) rfl (by kernel_rfl)) ?_
  intro W base args ds gs before hval0 hW hcnd hsmall _
  have hval : ∀ (j : Nat) t v, Try.f7.params[j]? = some t → args[j]? = some v → Value.okWide Try.prog W .any base t v := hval0
  have hW' := hW
  obtain ⟨p, q, hA0, hV, rfl, hfz, hnd⟩ := hW
  have hA : DataW.TrodAll enc Try.prog W 0 (fun _ => true) true Try.f7.params.toList args.toList ds p := hA0
  rw [Try.params7] at hA hval
  obtain ⟨v0, vs0, d0, ds0, p0, q0, hargs, rfl, rfl, h0, r0⟩ := trodAll_cons hA
  obtain ⟨v1, vs1, d1, ds1, p1, q1, rfl, rfl, rfl, h1, r1⟩ := trodAll_cons r0
  obtain ⟨rfl, rfl, rfl⟩ := trodAll_nil r1
  obtain rfl : args = #[v0, v1] := by cases args; simp_all
  obtain ⟨rfl, rfl⟩ := trodVars_none hV
  obtain ⟨a0, len0, cap0, rfl⟩ := okWide_slice Try.underlying42 (hval 0 42 v0 rfl rfl)
  have k0 := h0
  have lt0 : ∀ x ∈ p0, x.block < W.heap.size := by obtain ⟨m, hm⟩ := k0; exact DataW.trod_lt m _ _ _ hm
  obtain ⟨l0, hb0, count0, bulk0⟩ : ∃ ls : List (List Nat), Rv W W.heap.size (.slice a0 len0 cap0) ls ∧ ls.length ≤ Rows.uptoBulk d0 ∧ (cat ls).length ≤ Rows.uptoBulk d0 := by
    obtain ⟨fuel, hf⟩ := h0
    rcases Go.Deep.open_int_rows Try.underlying42 Try.underlying28 Try.underlying5 (by kernel_rfl) (by kernel_rfl) hf with ⟨hcs, hx⟩ | ⟨x, l, c, A, L, C, Z, hcs, _, hl, hm, hx, hcell⟩
    · simp [Value.cells] at hcs
      obtain ⟨rfl, rfl, rfl⟩ := hcs
      exact ⟨[], Rv.nil_ _ _, by simp, by simp [cat]⟩
    · simp [Value.cells] at hcs
      obtain ⟨rfl, rfl, rfl⟩ := hcs
      rw [Prod.mk.injEq] at hx
      exact rows_in hl hm hx.1 hcell
  obtain ⟨a1, rfl, rfl, rfl, w1⟩ := open_int Try.underlying3 (hval 1 3 v1 rfl rfl) h1
  clear hA0 hval0
  have hsum := bulk_all hsmall
  simp only [List.append_nil, Rows.uptoBulkAll] at hsum
  have hsum2 : (cat l0).length ≤ 1048576 := by omega
  refine (walk W (.slice a0 len0 cap0) l0 hb0 a1 w1 hsum2 (by omega)).mono fun e W' ⟨he, bel⟩ => ?_
  subst he
  exact ⟨_, rfl, _, _, _, [], _, [], hW', trodAll_mk1 (shut_bool Try.underlying4 _), (trodAll_cons_mk (Below.trod laidOut (by kernel_rfl) (of_decide_eq_true (by kernel_rfl)) k0 bel lt0) (trodAll_cons_mk (shut_int Try.underlying3 w1) trodAll_mk0)), rfl, bel.frame _, fun h => by cases h⟩

theorem proved : Rows.ShaPiecesUptoSaid :=
  OpenClaim.holds_of_cond 7 Try.f7 rfl rfl rfl rfl rfl rfl rfl ⟨rfl, rfl, rfl, rfl, rfl⟩ rfl rfl rfl rfl rfl (by kernel_rfl) Try.func7 (by kernel_rfl)
    (of_decide_eq_true (by kernel_rfl)) (by unfold Func.isWrapper; first | (rw [if_pos (by decide +kernel)]; kernel_rfl) | (rw [if_neg (by decide +kernel)]; exact ⟨rfl, rfl⟩))
    (fun os started H enc _ F => lifted os started H enc F)

end Go.Proofs.Ytejipcnihgpdhaa.shaPieces
