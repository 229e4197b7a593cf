/-
  VintBack's law: what was put is read as it was.
-/
import Derived.Test.YthmiffjhchhljaaVintOwn
import Derived.Test.YthmiffjhchhljaaVintPutsLaw
import Derived.Test.YthmiffjhchhljaaVintBackMath
import Derived.Deep.RegionWith
namespace Go.Proofs.Ythmiffjhchhljaa
open Go.RowKit
set_option maxRecDepth 100000

theorem RdA.at {w w' : World} {B k : Nat} {ad : Addr} {cs : List Ac} {a : Ac} (h : RdA w B (some ad) cs) (ha : cs[k]? = some a) (hb : Below B w w') :
    w'.cell? (ad.add (k * 5)) = some (.int .i64 a.kind) ∧ w'.cell? ⟨(ad.add (k * 5)).block, (ad.add (k * 5)).off + 1, none⟩ = some (.int .u64 (a.N : Nat)) ∧
      w'.cell? ⟨(ad.add (k * 5)).block, (ad.add (k * 5)).off + 2, none⟩ = some (.int .u64 (a.M : Nat)) ∧ w'.cell? ⟨(ad.add (k * 5)).block, (ad.add (k * 5)).off + 3, none⟩ = some (.int .i64 a.K) ∧
      w'.cell? ⟨(ad.add (k * 5)).block, (ad.add (k * 5)).off + 4, none⟩ = some (.string a.S) := by
  obtain ⟨ad', e, _, hc⟩ := h.below hb (Nat.le_refl _) k a ha
  cases e
  exact ⟨hc 0 _ rfl, hc 1 _ rfl, hc 2 _ rfl, hc 3 _ rfl, hc 4 _ rfl⟩
theorem actsL_drop (cs : List Ac) (k : Nat) (h : k < cs.length) : actsL (cs.drop k) = cs[k].bytes ++ actsL (cs.drop (k + 1)) := by
  unfold actsL
  rw [List.drop_eq_getElem_cons h, List.flatMap_cons]
theorem ofL_toL (s : ByteArray) : ofL (toL s) = s := by
  apply toL_inj
  simp [toL, ofL]

theorem IsR.drew {w : World} {b e : Nat} {l : List UInt8} (h : IsR w b l e) : IsR w.drew b l e := h
set_option maxHeartbeats 8000000 in
theorem back_law (D : Option Addr) (cs : List Ac) (d : Nat) (A : Option Addr) (l : List UInt8) (c : Nat) (w : World) (hA : RdA w w.heap.size D cs) (hf : ∀ a ∈ cs, a.fits) (hR : RdB w w.heap.size A l) :
    Calls Try.prog 5 #[.slice D cs.length d, .slice A l.length c] w fun e w' => e = .returned (.bool true) ∧ Below w.heap.size w w' := by
  have hF := few_any D cs d w hA
  cases hfew : fewL cs with
  | false =>
    rw [hfew] at hF
    go_enter Try.func5, Try.ntmps5
    go_wp2_with fail
    refine hF.mono ?_
    rintro e w1 ⟨rfl, rfl⟩
    go_wp2_with fail
    refine (awake_any _).mono ?_
    rintro e w9 ⟨rfl, hB9⟩
    go_wp2_with fail
    refine bodyPost_ret (results_tmp rfl _ _ _) rfl ⟨rfl, hB9⟩
  | true =>
  rw [hfew] at hF
  obtain ⟨hn, hS2⟩ := few_le hfew
  by_cases h200 : (200 : Int) < l.length
  · go_enter Try.func5, Try.ntmps5
    go_wp2_with fail
    refine hF.mono ?_
    rintro e w1 ⟨rfl, rfl⟩
    go_wp2_with fail
    refine (awake_any _).mono ?_
    rintro e w9 ⟨rfl, hB9⟩
    go_wp2_with fail
    refine bodyPost_ret (results_tmp rfl _ _ _) rfl ⟨rfl, hB9⟩
  obtain ⟨i0, hi, hz0, hz1, hz2⟩ := info_parts info_byte
  have hll : (l.length : Int) ≤ 200 := by omega
  have hnn : (cs.length : Int) ≤ 40 := by omega
  clear h200 hfew
  go_enter Try.func5, Try.ntmps5
  go_wp2_with fail
  refine hF.mono ?_
  clear hF
  rintro e w1 ⟨rfl, rfl⟩
  go_wp2_with fail
  go_loopw [5, 6] (fun b i wr => ∃ (k : Nat) (G : Option Addr) (gc : Nat), k ≤ cs.length ∧ i = .int .i64 k ∧ b = .slice G (actsL (cs.take k)).length gc ∧ Hid (wr.ownsRow w1.heap.size 5 1 (.slice G (actsL (cs.take k)).length gc) (actsL (cs.take k)).length ((actsL (cs.take k)).map byteV)) ∧ (actsL (cs.take k)).length ≤ k * 210 ∧ Below w1.heap.size w1 wr) (fun _ i _ => cs.length - (intOf i).toNat)
  case atStart => exact ⟨0, none, 0, Nat.zero_le _, rfl, by simp [actsL], hide (by simpa [actsL] using World.ownsRow_nil _ _ _ _), by simp [actsL], Below.refl _ _⟩
  case round =>
    obtain ⟨k, G2, gc, hk, rfl, rfl, HO, hlen, hBr⟩ := hrel
    by_cases hlt : (k : Int) < cs.length
    · have hkl : k < cs.length := by omega
      have hAr := hA.below hBr (Nat.le_refl _)
      obtain ⟨ad, rfl, hb, _⟩ := hAr k cs[k] (List.getElem?_eq_getElem hkl)
      have hfk := hf cs[k] (List.getElem_mem hkl)
      have hSk := hS2 cs[k] (List.getElem_mem hkl)
      have hle := bytes_le cs[k] hSk
      have HM := hide (actsL_more cs k hkl)
      have HK := hide (List.getElem?_eq_getElem hkl)
      generalize cs[k] = a at HK hfk hSk hle HM
      generalize actsL (cs.take k) = m at HO hlen HM ⊢
      obtain ⟨q0, q1, q2, q3, q4⟩ := hA.at HK.out hBr
      have hcl : a.cells = #[.int .i64 a.kind, .int .u64 (a.N : Nat), .int .u64 (a.M : Nat), .int .i64 a.K, .string a.S] := rfl
      have hput := put_o G2 m gc a wr (RdB.own HO.out) (by omega) hfk (by omega)
      rw [hcl] at hput
      go_wp2_with fail
      refine hput.mono ?_
      clear hput q0 q1 q2 q3 q4
      rintro e w2 ⟨G3, gd, rfl, h2, h3, h4⟩
      have hB2 := hBr.trans (h4.mono hBr.size)
      have HO2 := hide (ownsRow_lower h2 hBr.size)
      clear h2 h3 h4 hBr HO hAr hcl
      go_wp2_with fail
      go_roundw
      case rel =>
        refine ⟨k + 1, G3, gd, hkl, rfl, ?_, ?_, ?_, hB2⟩
        · rw [HM.out, List.length_append]
        · rw [HM.out]; exact HO2
        · have e := congrArg List.length HM.out; simp only [List.length_append] at e ⊢; omega
      case measure => simp [intOf]; omega
    · obtain rfl : k = cs.length := by omega
      rw [List.take_length] at HO hlen ⊢
      have hO := HO.out
      have hRr := hR.below hBr (Nat.le_refl _)
      have hBs := hBr.size
      have hlen2 : (actsL cs).length ≤ 8400 := by omega
      clear HO hlen
      go_wp2_with (at_builtin; refine wpList_append_bytes rfl _ _ 22 rfl w1.heap.size 5 i0 Try.underlying22 hi hz0 hz1 hz2 _ _ _ rfl hO A _ c _ l rfl rfl hRr (by unfold maxLen; omega) (by omega) hBs ?_)
      intro v' w' hO3 hg3
      have hB' := hBr.grown hg3 hBs (fun r e => (hO.lt r e).1)
      rw [show (actsL cs).map byteV ++ l.map byteV = (actsL cs ++ l).map byteV by rw [List.map_append], show (actsL cs).length + l.length = (actsL cs ++ l).length by rw [List.length_append]] at hO3
      obtain ⟨G, cc, rfl⟩ := ownsRow_slice hO3
      have hrd := read_any G (actsL cs ++ l) cc w' (RdB.own hO3) (ownsRow_caps hO3) (by rw [List.length_append]; omega)
      rw [List.length_append] at hrd
      clear hO hO3 hg3 hRr hBr hBs
      go_wp2_with fail
      refine hrd.mono ?_
      clear hrd
      rintro en w3 ⟨⟨rb, rfl, hI, hrb'⟩, hB3'⟩
      have hB3 := hB'.trans (hB3'.mono hB'.size)
      have hrb : w1.heap.size ≤ rb := Nat.le_trans hB'.size hrb'
      have HI0 := hide (show IsR w3 rb (actsL (cs.drop 0) ++ l) 0 from hI)
      clear hB3' hrb' hI hB'
      go_wp2_with fail
      go_loopw [8, 9] (fun i ok wr => ∃ k : Nat, k ≤ cs.length ∧ i = .int .i64 k ∧ Hid (IsR wr rb (actsL (cs.drop k) ++ l) 0) ∧ (actsL (cs.drop k)).length ≤ 8400 ∧ Below w1.heap.size w1 wr) (fun i _ _ => cs.length - (intOf i).toNat)
      case atStart => exact ⟨0, Nat.zero_le _, rfl, HI0, by simpa using hlen2, hB3⟩
      case round =>
        obtain ⟨k, hk, rfl, HI, hlen, hBr⟩ := hrel
        by_cases hlt : (k : Int) < cs.length
        · have hkl : k < cs.length := by omega
          have hAr := hA.below hBr (Nat.le_refl _)
          obtain ⟨ad, rfl, hb, _⟩ := hAr k cs[k] (List.getElem?_eq_getElem hkl)
          obtain ⟨hN, hM⟩ := hf cs[k] (List.getElem_mem hkl)
          have hSk := hS2 cs[k] (List.getElem_mem hkl)
          have HD := actsL_drop cs k hkl
          have HK := hide (List.getElem?_eq_getElem hkl)
          generalize cs[k] = a at HK hN hM hSk HD
          rw [HD] at HI hlen
          have hlen3 : (actsL (cs.drop (k + 1))).length ≤ 8400 := by rw [List.length_append] at hlen; omega
          clear HD
          generalize hm : actsL (cs.drop (k + 1)) = m at HI hlen3 hlen
          have HM := hide hm
          clear hm
          obtain ⟨q0, q1, q2, q3, q4⟩ := hA.at HK.out hBr
          have HA := hide (fun w' hb => hA.at (w' := w') HK.out hb)
          have HBd := hide hBr
          by_cases g0 : a.kind = 0
          · have E0 : (a.kind == 0) = true := by rw [g0]; rfl
            have hN2 := readNum_any rb a.N 0 (a.bytes ++ m ++ l) wr.drew HI.out.drew (by simp only [List.length_append] at hlen ⊢; omega)
            rw [show a.bytes = groupsL a.N from if_pos (.inl g0), List.append_assoc, readN_back _ _ _ hN (Nat.le_refl _)] at hN2
            have HN := hide hN2
            clear hN2 g0 q2 q3 q4 HI
            go_wp2_with fail
            go_region_with (go_at_call 12; (with_reducible refine HN.out.mono ?_); rintro en w4 ⟨rfl, g1, g2, g3⟩; have hB4 := HBd.out.drew.grown g2 HBd.out.drew.size (fun r e => by cases e; exact hrb); obtain ⟨p0, p1, p2, p3, p4⟩ := HA.out w4 hB4)
            all_goals
              have HG := hide g1
              clear g1 g2 g3 p0 p1 p2 p3 p4 HA HN HBd
              go_wp2_with fail
              go_roundw
              case rel => exact ⟨k + 1, hkl, rfl, by rw [HM.out]; exact HG, by rw [HM.out]; exact hlen3, hB4⟩
              case measure => simp [intOf]; omega
          by_cases g1 : a.kind = 1
          · have E0 : (a.kind == 0) = false := by simpa using g0
            have E1 : (a.kind == 1) = true := by rw [g1]; rfl
            have hN2 := readNum_any rb a.N 0 (a.bytes ++ m ++ l) wr.drew HI.out.drew (by simp only [List.length_append] at hlen ⊢; omega)
            rw [show a.bytes = groupsL a.N from if_pos (.inr g1), List.append_assoc, readN_back _ _ _ hN (Nat.le_refl _)] at hN2
            have HN := hide hN2
            clear hN2 g0 g1 q2 q3 q4 HI
            go_wp2_with fail
            go_region_with (go_at_call 12; (with_reducible refine HN.out.mono ?_); rintro en w4 ⟨rfl, g1, g2, g3⟩; have hB4 := HBd.out.drew.grown g2 HBd.out.drew.size (fun r e => by cases e; exact hrb); obtain ⟨p0, p1, p2, p3, p4⟩ := HA.out w4 hB4)
            all_goals
              have HG := hide g1
              clear g1 g2 g3 p0 p1 p2 p3 p4 HA HN HBd
              go_wp2_with fail
              go_roundw
              case rel => exact ⟨k + 1, hkl, rfl, by rw [HM.out]; exact HG, by rw [HM.out]; exact hlen3, hB4⟩
              case measure => simp [intOf]; omega
          by_cases g2 : a.kind = 2
          · have E0 : (a.kind == 0) = false := by simpa using g0
            have E1 : (a.kind == 1) = false := by simpa using g1
            have E2 : (a.kind == 2) = true := by rw [g2]; rfl
            have hN2 := readText_any rb 0 (a.S.size : Int) (a.bytes ++ m ++ l) wr.drew HI.out.drew (by simp only [List.length_append] at hlen ⊢; omega) (by omega)
            rw [show a.bytes = groupsL a.S.size ++ toL a.S by unfold Ac.bytes; rw [if_neg (by simp [g0, g1]), if_pos g2], List.append_assoc, Int.toNat_natCast, readT_back _ _ _ (by omega) (Nat.le_refl _), ofL_toL] at hN2
            have HN := hide hN2
            clear hN2 g0 g1 g2 q1 q2 q3 HI
            go_wp2_with fail
            go_region_with (go_at_call 16; (with_reducible refine HN.out.mono ?_); rintro en w4 ⟨rfl, g1, g2, g3⟩; have hB4 := HBd.out.drew.grown g2 HBd.out.drew.size (fun r e => by cases e; exact hrb); obtain ⟨p0, p1, p2, p3, p4⟩ := HA.out w4 hB4)
            all_goals
              have HG := hide g1
              clear g1 g2 g3 p0 p1 p2 p3 p4 HA HN HBd
              go_wp2_with fail
              go_roundw
              case rel => exact ⟨k + 1, hkl, rfl, by rw [HM.out]; exact HG, by rw [HM.out]; exact hlen3, hB4⟩
              case measure => simp [intOf]; omega
          · have E0 : (a.kind == 0) = false := by simpa using g0
            have E1 : (a.kind == 1) = false := by simpa using g1
            have E2 : (a.kind == 2) = false := by simpa using g2
            have hN2 := readSum_any rb 0 (a.bytes ++ m ++ l) wr.drew HI.out.drew (by simp only [List.length_append] at hlen ⊢; omega)
            rw [show a.bytes = wordL a.N ++ wordL a.M by unfold Ac.bytes; rw [if_neg (by simp [g0, g1]), if_neg g2], List.append_assoc, readS_back _ _ _ hN hM] at hN2
            unfold sumV at hN2
            simp only at hN2
            have HN := hide hN2
            clear hN2 g0 g1 g2 q3 q4 HI
            go_wp2_with fail
            go_region_with (go_at_call 18; (with_reducible refine HN.out.mono ?_); rintro en w4 ⟨rfl, g1, g2, g3⟩; have hB4 := HBd.out.drew.grown g2 HBd.out.drew.size (fun r e => by cases e; exact hrb); obtain ⟨p0, p1, p2, p3, p4⟩ := HA.out w4 hB4)
            all_goals
              have HG := hide g1
              clear g1 g2 g3 p0 p1 p2 p3 p4 HA HN HBd
              go_wp2_with fail
              go_roundw
              case rel => exact ⟨k + 1, hkl, rfl, by rw [HM.out]; exact HG, by rw [HM.out]; exact hlen3, hB4⟩
              case measure => simp [intOf]; omega
        · obtain rfl : k = cs.length := by omega
          rw [List.drop_length] at HI
          have hI : IsR wr rb l 0 := by simpa [actsL] using HI.out
          have HI2 := hide hI
          clear HI hlen hI
          go_wp2_with fail
          refine (nil_num wr _).mono ?_
          rintro en w10 ⟨rfl, b1⟩
          go_wp2_with fail
          refine (nil_text w10 _ (by decide) (by decide)).mono ?_
          rintro en w11 ⟨rfl, b2⟩
          go_wp2_with fail
          refine (nil_int w11 _ (by decide) (by decide)).mono ?_
          rintro en w12 ⟨rfl, b3⟩
          go_wp2_with fail
          refine (nil_sum w12).mono ?_
          rintro en w13 ⟨rfl, b4⟩
          go_wp2_with fail
          refine (nil_left w13).mono ?_
          rintro en w14 ⟨rfl, b5⟩
          go_wp2_with fail
          refine (nil_end w14).mono ?_
          rintro en w15 ⟨rfl, b6⟩
          have c1 := b1.trans (b2.mono b1.size)
          have c2 := c1.trans (b3.mono c1.size)
          have c3 := c2.trans (b4.mono c2.size)
          have c4 := c3.trans (b5.mono c3.size)
          have c5 := c4.trans (b6.mono c4.size)
          clear b1 b2 b3 b4 b5 b6 c1 c2 c3 c4
          go_wp2_with fail
          refine (awake_any w15).mono ?_
          rintro en w16 ⟨rfl, b7⟩
          have c6 := c5.trans (b7.mono c5.size)
          have hI3 := HI2.out.keep (c6.mono HI2.out.lt)
          have hBf := hBr.trans (c6.mono hBr.size)
          clear c5 b7 c6 hBr
          go_wp2_with fail
          have hLf := left_any rb 0 l w16 hI3
          rw [show leftN 0 l = l.length by unfold leftN; rw [if_neg (by simp)]] at hLf
          refine hLf.mono ?_
          clear hLf
          rintro en w17 ⟨rfl, rfl⟩
          have hE := end_any rb 0 l w17 hI3 (by omega)
          by_cases hl0 : l.length = 0
          · have L0 : ((l.length : Int) == 0) = true := by rw [hl0]; rfl
            rw [show endN 0 l = 0 by unfold endN; rw [if_neg (by simp), if_pos hl0]] at hE
            have HL := hide hl0
            clear hl0
            go_wp2_with fail
            refine hE.mono ?_
            rintro en w18 ⟨rfl, rfl⟩
            go_wp2_with fail
            refine bodyPost_ret (results_tmp rfl _ _ _) rfl ⟨rfl, hBf⟩
          · have L0 : ((l.length : Int) == 0) = false := by rw [beq_eq_false_iff_ne]; omega
            rw [show endN 0 l = 5 by unfold endN; rw [if_neg (by simp), if_neg hl0]] at hE
            clear hl0
            go_wp2_with fail
            refine hE.mono ?_
            rintro en w18 ⟨rfl, rfl⟩
            go_wp2_with fail
            refine bodyPost_ret (results_tmp rfl _ _ _) rfl ⟨rfl, hBf⟩
end Go.Proofs.Ythmiffjhchhljaa
