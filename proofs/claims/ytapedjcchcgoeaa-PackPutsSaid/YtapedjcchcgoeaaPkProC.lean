/-
  pack: Put, Size.
-/
import Derived.Test.YtapedjcchcgoeaaPkProB
import Derived.Test.YtapedjcchcgoeaaPutListI
import Derived.Test.YtapedjcchcgoeaaWvLv
namespace Go.Proofs.Ytapedjcchcgoeaa
open Go.RowKit
set_option linter.unusedVariables false
set_option maxHeartbeats 2000000 in
set_option maxRecDepth 100000 in
theorem ppput_any (l : List Int) (v : Value) (B : Nat) (w : World) (h : Lv iK w B v l) (hB : B ≤ w.heap.size) : Calls Try.prog 15 #[v] w (IsLE yK (Pk.putE l) w) := by
  have HD := Lib.hid (pdif_any v l B w hB h)
  rcases Pk.dif_cases l with ⟨e, he2, he3, hd, hp⟩ | ⟨hlen, hd, hp⟩
  · have HE := Lib.hid hp
    rw [hd] at HD
    have hq : ((e : Int) != 0) = true := by rw [bne_iff_ne]; omega
    clear hd hp h
    go_enter Try.func15, Try.ntmps15
    go_wp2_with fail
    ((with_reducible refine HD.out.mono ?_); rintro e' w1 ⟨A1, c1, rfl, ho, hb1⟩)
    clear HD ho
    go_wp2
    go_ret2
    exact IsLE.none_b HE.out rfl hb1
  · have HE := Lib.hid hp
    have HL := Lib.hid (Pk.dif_len l 0)
    rw [hd] at HD
    obtain ⟨d, hd'⟩ : ∃ d, Pk.dif 0 l = d := ⟨_, rfl⟩
    rw [hd'] at HD HE HL
    clear hd hd' hp h
    go_enter Try.func15, Try.ntmps15
    go_wp2_with fail
    ((with_reducible refine HD.out.mono ?_); rintro e' w1 ⟨A1, c1, rfl, ho, hb1⟩)
    have HP := Lib.hid (putList_any _ d w1.heap.size w1 (Nat.le_refl _) ho.form_.wv_ (by have := HL.out; omega))
    have HB1 := Lib.hid hb1
    clear HD ho hb1 HL
    go_wp2_with fail
    ((with_reducible refine HP.out.mono ?_); rintro e' w2 ⟨g, rfl, ho2, hb2⟩)
    have HB2 := Lib.hid (HB1.out.trans (hb2.mono HB1.out.size))
    have HO2 := Lib.hid (ho2.full_l.mono_ HB1.out.size)
    clear HP ho2 hb2 HB1
    go_wp2
    go_ret2
    exact IsLE.of HE.out rfl rfl HO2.out HB2.out

theorem putE_size {l : List Int} (hp : Pk.putE l = (putList (Pk.dif 0 l), 0)) : (Pk.putE l).1.length = (Mt.put (Pk.dif 0 l).length).length + (puts (Pk.dif 0 l)).length := by
  rw [hp]; simp [putList]
set_option maxHeartbeats 2000000 in
set_option maxRecDepth 100000 in
theorem ppsize_any (l : List Int) (v : Value) (B : Nat) (w : World) (h : Lv iK w B v l) (hB : B ≤ w.heap.size) : Calls Try.prog 17 #[v] w (fun e w' => e = .returned (.tuple #[.int .i64 ((Pk.putE l).1.length : Nat), .int .i64 ((Pk.putE l).2 : Nat)]) ∧ Below w.heap.size w w') := by
  have HD := Lib.hid (pdif_any v l B w hB h)
  rcases Pk.dif_cases l with ⟨e, he2, he3, hd, hp⟩ | ⟨hlen, hd, hp⟩
  · rw [hd] at HD
    rw [hp]
    have hq : ((e : Int) != 0) = true := by rw [bne_iff_ne]; omega
    clear hd hp h
    go_enter Try.func17, Try.ntmps17
    go_wp2_with fail
    ((with_reducible refine HD.out.mono ?_); rintro e' w1 ⟨A1, c1, rfl, ho, hb1⟩)
    clear HD ho
    go_wp2
    go_ret2
    exact ⟨rfl, hb1⟩
  · have HS := Lib.hid (putE_size hp)
    have HE2 : Hid ((Pk.putE l).2 = 0) := by unfold Hid; rw [hp]
    have HL := Lib.hid (Pk.dif_len l 0)
    rw [hd] at HD
    obtain ⟨d, hd'⟩ : ∃ d, Pk.dif 0 l = d := ⟨_, rfl⟩
    rw [hd'] at HD HS HL
    obtain ⟨N, hN⟩ : ∃ N, (Pk.putE l).1.length = N := ⟨_, rfl⟩
    obtain ⟨M, hM⟩ : ∃ M, (Pk.putE l).2 = M := ⟨_, rfl⟩
    rw [hN] at HS
    rw [hM] at HE2
    rw [hN, hM]
    have HX := Lib.hid (len_any d.length (by unfold Mt.B64; have := HL.out; omega))
    have hdl : d.length ≤ 65536 := by have := HL.out; omega
    have wl : IntKind.u64.wrap (d.length : Int) = (d.length : Int) := by rw [IntKind.wrap_u64]; omega
    clear hd hd' hp h hN hM
    go_enter Try.func17, Try.ntmps17
    go_wp2_with fail
    ((with_reducible refine HD.out.mono ?_); rintro e' w1 ⟨A1, c1, rfl, ho, hb1⟩)
    have HB1 := Lib.hid hb1
    have H1 := Lib.hid ho.form_
    clear HD ho hb1
    go_wp2_with fail
    ((with_reducible refine (HX.out w1).mono ?_); rintro e' w2 ⟨rfl, rfl⟩)
    go_wp2_with fail
    go_loopw [6, 8, 23] (fun z nn i wr => ∃ (k s : Nat), k ≤ d.length ∧ i = .int .i64 (k : Nat) ∧ z = .int .i64 (s : Nat) ∧ Hid (s = (Mt.put d.length).length + (puts (d.take k)).length) ∧ Hid (w1 = wr)) (fun _ _ i _ => d.length - (intOf i).toNat)
    case atStart => exact ⟨0, (Mt.put d.length).length, by omega, rfl, rfl, by simp [Hid, puts], rfl⟩
    case round =>
      obtain ⟨k, s, hk, rfl, rfl, HZ, HW⟩ := hrel
      obtain rfl := HW.out
      by_cases hlt : k < d.length
      · have hki : (k : Int) < (d.length : Int) := by omega
        have hk0 : (0 : Int) ≤ (k : Int) := by omega
        have wk : IntKind.i64.wrap ((k : Int) + 1) = (k : Int) + 1 := by rw [IntKind.wrap_i64]; omega
        obtain ⟨b, off, x, rfl, hb, hx, hq, hcell⟩ := H1.out.word_ hlt
        have HXX := Lib.hid (len_any x hx w1)
        have hs1 := puts_len (d.take k)
        have hs2 : (d.take k).length ≤ k := List.length_take_le _ _
        have hs3 := Mt.put_len_le d.length
        have hs4 := Mt.put_len_le x
        have hsb : s ≤ 10 + 10 * 65536 := by have := HZ.out; omega
        obtain ⟨m, hm⟩ : ∃ m, (Mt.put x).length = m := ⟨_, rfl⟩
        have HZ2 : Hid (s + m = (Mt.put d.length).length + (puts (d.take (k + 1))).length) := by
          unfold Hid
          have e1 : d.take (k + 1) = d.take k ++ [x] := by rw [List.take_add_one, hq]; rfl
          rw [e1, puts_snoc, List.length_append, hm, ← Nat.add_assoc, ← HZ.out]
        rw [hm] at HXX hs4
        have wa : IntKind.i64.wrap ((s : Int) + (m : Int)) = (s : Int) + (m : Int) := by rw [IntKind.wrap_i64]; omega
        clear hq hb hx hs1 hs2 hs3 hm HZ
        go_wp2_with fail
        ((with_reducible refine HXX.out.mono ?_); rintro e' w2 ⟨rfl, rfl⟩)
        go_wp2
        go_roundw
        case rel => exact ⟨k + 1, s + m, by omega, by go_num, by go_num, HZ2.out, by trivial⟩
        case measure => simp [intOf]; omega
      · have hki : ¬ (k : Int) < (d.length : Int) := by omega
        have hkk : k = d.length := by omega
        have HZ2 : Hid (s = N) := by
          unfold Hid
          have := HZ.out
          rw [hkk, List.take_length] at this
          rw [this, HS.out]
        clear HZ HS
        go_wp2
        go_ret2
        exact ⟨by rw [← HZ2.out, HE2.out]; rfl, HB1.out⟩
end Go.Proofs.Ytapedjcchcgoeaa
