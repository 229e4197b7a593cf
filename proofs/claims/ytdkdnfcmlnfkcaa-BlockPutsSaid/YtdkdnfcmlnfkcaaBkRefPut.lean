/-
  A signature's bytes: the reference's Put.
-/
import Derived.Test.YtdkdnfcmlnfkcaaAutoBkPutAll
import Derived.Test.YtdkdnfcmlnfkcaaVintRefPut
import Derived.Deep.RegionHeld3
namespace Go.Proofs.Ytdkdnfcmlnfkcaa
open Go.RowKit
set_option maxRecDepth 100000

theorem ofL_sum (a b : List UInt8) : ofL a ++ ofL b = ofL (a ++ b) := by
  apply toL_inj
  simp [toL, ofL]
/-- Two numbers' texts, one behind the other. -/
theorem no_over (a b : ByteArray) (h : a.size + b.size ≤ 10000000) : ¬ 9223372036854775807 < a.size + b.size := by omega

set_option maxHeartbeats 32000000 in
theorem refBkPut_any (size tail : Int) (A : Option Addr) (l : List Sg) (c : Nat) (s : Sg) (w : World) (hA : RdSg w w.heap.size A l) (hl : l.length ≤ 4096) (hf : ∀ x ∈ l, x.fits) (hs : s.fits) :
    Calls Try.prog 29 #[.agg (sigC size A l.length c tail s)] w (TextIs w (putS size l tail s)) := by
  have HR := hide (refSigRight_any size A l.length c tail s)
  have hP : putS size l tail s = if rightS size l.length tail s = true then groupsL size.toNat ++ groupsL l.length ++ l.flatMap signBy ++ groupsL tail.toNat ++ (if tail ≠ 0 then signBy s else []) else [] := rfl
  have hin := right_facts (size := size) (n := l.length) (tail := tail) (s := s)
  generalize putS size l tail s = P at hP ⊢
  generalize rightS size l.length tail s = q at HR hP hin
  have hsb : signBy s = groupsL s.weak ++ (wordL s.hi ++ wordL s.lo) := rfl
  obtain ⟨wk, hh, lo⟩ := s
  obtain ⟨f1, f2, f3⟩ := hs
  simp only at f1 f2 f3 hsb
  simp only [sigC] at HR ⊢
  have HB := hide ((Below.refl w.heap.size w).alloc (Nat.le_refl _) (.cells #[.int .i64 size, .slice A l.length c, .int .i64 tail, .int .u32 (wk : Nat), .int .u64 (hh : Nat), .int .u64 (lo : Nat)] 42))
  have hrow := World.alloc_heap_new w (Obj.cells #[.int .i64 size, .slice A l.length c, .int .i64 tail, .int .u32 (wk : Nat), .int .u64 (hh : Nat), .int .u64 (lo : Nat)] 42)
  have HA := hide hA
  have HFt := hide hf
  clear hA hf
  go_enter Try.func29, Try.ntmps29
  cases q with
  | false =>
    have HV := hide (show P = [] by rw [hP]; rfl)
    clear hP hin hsb
    go_wp2_with fail
    refine (HR.out _).mono ?_
    rintro e w1 ⟨rfl, hb⟩
    have HB1 := hide (HB.out.trans (hb.mono HB.out.size))
    clear hb
    go_wp2_with fail
    exact bodyPost_ret (results_tmp rfl _ _ _) rfl ⟨by rw [HV.out]; rfl, HB1.out⟩
  | true =>
    obtain ⟨b1, b2, b3, b4, b5⟩ := hin rfl
    rw [if_pos rfl] at hP
    obtain ⟨sz, rfl⟩ : ∃ n : Nat, size = n := ⟨size.toNat, by omega⟩
    obtain ⟨tl, rfl⟩ : ∃ n : Nat, tail = n := ⟨tail.toNat, by omega⟩
    rw [Int.toNat_natCast, Int.toNat_natCast] at hP
    have HN1 := hide (fun W => refNum_any sz W (by omega))
    have HN2 := hide (fun W => refNum_any l.length W (by omega))
    have HN3 := hide (fun W => refNum_any tl W (by omega))
    have HN4 := hide (fun W => refNum_any wk W (by omega))
    have HN5 := hide (fun W => refSum_any hh lo W f2 f3)
    have u1 : IntKind.u64.wrap (sz : Int) = (sz : Int) := by rw [IntKind.wrap_u64]; omega
    have u2 : IntKind.u64.wrap (l.length : Int) = (l.length : Int) := by rw [IntKind.wrap_u64]; omega
    have u3 : IntKind.u64.wrap (tl : Int) = (tl : Int) := by rw [IntKind.wrap_u64]; omega
    have u4 : IntKind.u64.wrap (wk : Int) = (wk : Int) := by rw [IntKind.wrap_u64]; omega
    have g1 := groupsL_le sz
    have g2 := groupsL_le l.length
    have g3 := groupsL_le tl
    have g4 := groupsL_le wk
    have g5 : (wordL hh ++ wordL lo).length = 16 := by rw [List.length_append, wordL_len, wordL_len]
    rw [hsb] at hP
    generalize groupsL sz = x1 at hP HN1 g1
    generalize groupsL l.length = x2 at hP HN2 g2
    generalize groupsL tl = x3 at hP HN3 g3
    generalize groupsL wk = x4 at hP HN4 g4
    generalize wordL hh ++ wordL lo = x5 at hP HN5 g5
    have HP := hide (show (x1 ++ x2) ++ (l.drop 0).flatMap signBy ++ x3 ++ (if (tl : Int) ≠ 0 then x4 ++ x5 else []) = P by rw [hP]; simp)
    clear hP hin hsb
    go_wp2_with fail
    refine (HR.out _).mono ?_
    rintro e w1 ⟨rfl, hb⟩
    have s1 := (hb.block w.heap.size (by simp)).trans hrow
    have hB1 := HB.out.trans (hb.mono HB.out.size)
    obtain ⟨n0, hn0⟩ : ∃ n, n = w.heap.size := ⟨_, rfl⟩
    rw [← hn0] at s1 ⊢
    have hlt1 : n0 < w1.heap.size := (Array.getElem?_eq_some_iff.1 s1).1
    have HK := hide (fun (W : World) (h : Below w1.heap.size w1 W) => (show W.heap[n0]? = some (.cells #[.int .i64 (sz : Nat), .slice A l.length c, .int .i64 (tl : Nat), .int .u32 (wk : Nat), .int .u64 (hh : Nat), .int .u64 (lo : Nat)] 42 (0, 0)) from (h.block _ hlt1).trans s1))
    have HC := hide (fun (W : World) (h : Below w1.heap.size w1 W) => (⟨h, cell_of_row _ _ _ _ _ _ (HK.out W h), cell_of_row _ _ _ _ _ _ (HK.out W h)⟩ : Below w1.heap.size w1 W ∧ W.cell? ⟨n0, 0, none⟩ = some (.int .i64 (sz : Nat)) ∧ W.cell? ⟨n0, 1, none⟩ = some (.slice A l.length c)))
    have HB1 := hide hB1
    have HAA := hide (fun (W : World) (h : Below w1.heap.size w1 W) => HA.out.below (hB1.trans (h.mono hB1.size)) (Nat.le_refl _))
    have hd0 := (Below.refl w1.heap.size w1).drew
    have v1 : ¬ 9223372036854775807 < (ofL x1).size + (ofL x2).size := by rw [ofL_size, ofL_size]; omega
    have HE1 := hide (ofL_sum x1 x2)
    clear hb s1 hrow HB HR hB1 hn0 HA
    go_wp2_with fail
    go_region_held3 (fun W => Below w1.heap.size w1 W ∧ W.cell? ⟨n0, 0, none⟩ = some (.int .i64 (sz : Nat)) ∧ W.cell? ⟨n0, 1, none⟩ = some (.slice A l.length c))
      (first
        | exact HC.out _ hd0
        | exact HC.out _ hbk)
      (first
        | (go_at_call 75; (first | (with_reducible refine (HN1.out _).mono ?_) | (with_reducible refine (HN2.out _).mono ?_)); rintro en wk1 ⟨rfl, hb1⟩; have hbk := (And.left (by assumption) : Below w1.heap.size w1 _).trans (hb1.mono (And.left (by assumption) : Below w1.heap.size w1 _).size)))
    all_goals
      have HB2 := hide hbk
      have k1 := (HC.out _ hbk).2.2
      have hxo : (x1 ++ x2).length ≤ 20 := by rw [List.length_append]; omega
      rw [HE1.out]
      obtain ⟨o4, ho4⟩ : ∃ o, o = x1 ++ x2 := ⟨_, rfl⟩
      rw [← ho4] at HP hxo ⊢
      clear ho4 hb1 hbk v1
      go_wp2_with fail
      clear k1
      go_loopg [3, 4] l.length (fun gk ov iv wr => ∃ (i : Nat) (o : List UInt8), ov = .string (ofL o) ∧ iv = .int .i64 i ∧ i + gk = l.length ∧ o.length ≤ 20 + i * 26 ∧ Hid (Below w1.heap.size w1 wr) ∧ Hid (o ++ (l.drop i).flatMap signBy ++ x3 ++ (if (tl : Int) ≠ 0 then x4 ++ x5 else []) = P))
      case atStart => exact ⟨0, o4, rfl, rfl, by omega, by omega, HB2, HP⟩
      case round =>
        obtain ⟨i, o, rfl, rfl, hig, hoi, HW, HQ⟩ := hrel
        clear HP HB2 hxo
        have k1 := (HC.out _ HW.out).2.2
        cases gk with
        | succ g0 =>
          have hii : (i : Int) < l.length := by omega
          have hi0 : (0 : Int) ≤ (i : Int) := by omega
          obtain ⟨t, ht⟩ : ∃ t, l[i]? = some t := ⟨_, List.getElem?_eq_getElem (by omega)⟩
          obtain ⟨ad, rfl, hlt, hnd⟩ := HAA.out w1 (Below.refl _ _) i t ht
          have hlt' : ad.block < w1.heap.size := Nat.lt_of_lt_of_le hlt HB1.out.size
          have hiw : IntKind.i64.wrap ((i : Int) + 1) = ((i + 1 : Nat) : Int) := by rw [IntWalk.i64_in _ (by omega)]; rfl
          have hfx := HFt.out t (List.mem_of_getElem? ht)
          have hd := HQ.out
          rw [signBy_drop l i t ht, show signBy t = groupsL t.weak ++ (wordL t.hi ++ wordL t.lo) from rfl] at hd
          have HM4 := hide (fun W => refNum_any t.weak W (by have := hfx.1; omega))
          have HM5 := hide (fun W => refSum_any t.hi t.lo W hfx.2.1 hfx.2.2)
          have j4 := groupsL_le t.weak
          have j5 : (wordL t.hi ++ wordL t.lo).length = 16 := by rw [List.length_append, wordL_len, wordL_len]
          have u5 : IntKind.u64.wrap (t.weak : Int) = (t.weak : Int) := by have := hfx.1; rw [IntKind.wrap_u64]; omega
          generalize groupsL t.weak = y4 at hd HM4 j4
          generalize wordL t.hi ++ wordL t.lo = y5 at hd HM5 j5
          have HD := hide (show (o ++ (y4 ++ y5)) ++ (l.drop (i + 1)).flatMap signBy ++ x3 ++ (if (tl : Int) ≠ 0 then x4 ++ x5 else []) = P by rw [← hd]; simp only [List.append_assoc])
          have HLn := hide (show (o ++ (y4 ++ y5)).length ≤ 20 + (i + 1) * 26 by rw [List.length_append, List.length_append]; omega)
          have HS := hide (fun (W : World) (h : Below w1.heap.size w1 W) => (⟨(HC.out W h).1, (HC.out W h).2.2, (h.cell (by rw [add_block]; exact hlt')).trans hnd.weak, (h.cell (p := ⟨_, _, none⟩) (by rw [add_block]; exact hlt')).trans hnd.hi, (h.cell (p := ⟨_, _, none⟩) (by rw [add_block]; exact hlt')).trans hnd.lo⟩ :
            Below w1.heap.size w1 W ∧ W.cell? ⟨n0, 1, none⟩ = some (.slice (some ad) l.length c) ∧ W.cell? (ad.add (i * 3)) = some (.int .u32 (t.weak : Nat)) ∧ W.cell? ⟨(ad.add (i * 3)).block, (ad.add (i * 3)).off + 1, none⟩ = some (.int .u64 (t.hi : Nat)) ∧ W.cell? ⟨(ad.add (i * 3)).block, (ad.add (i * 3)).off + 2, none⟩ = some (.int .u64 (t.lo : Nat))))
          have v2 : ¬ 9223372036854775807 < (ofL o).size + (ofL y4).size := by rw [ofL_size, ofL_size]; omega
          have v3 : ¬ 9223372036854775807 < (ofL o ++ ofL y4).size + (ofL y5).size := by rw [ofL_sum, ofL_size, ofL_size, List.length_append]; omega
          have v5 : ¬ 9223372036854775807 < (ofL o).size + (ofL y4).size + (ofL y5).size := by rw [ofL_size, ofL_size, ofL_size]; omega
          have HE2 := hide (show ofL o ++ ofL y4 ++ ofL y5 = ofL (o ++ (y4 ++ y5)) by rw [ofL_sum, ofL_sum, List.append_assoc])
          have hdw := HW.out.drew
          obtain ⟨tw, th, tlo⟩ := t
          simp only at HM4 HM5 HS u5
          clear hd ht hlt hnd hfx HQ
          go_wp2_with fail
          go_region_held3 (fun W => Below w1.heap.size w1 W ∧ W.cell? ⟨n0, 1, none⟩ = some (.slice (some ad) l.length c) ∧ W.cell? (ad.add (i * 3)) = some (.int .u32 (tw : Nat)) ∧ W.cell? ⟨(ad.add (i * 3)).block, (ad.add (i * 3)).off + 1, none⟩ = some (.int .u64 (th : Nat)) ∧ W.cell? ⟨(ad.add (i * 3)).block, (ad.add (i * 3)).off + 2, none⟩ = some (.int .u64 (tlo : Nat)))
            (first
              | exact HS.out _ hdw
              | exact HS.out _ hbk)
            (first
              | (go_at_call 75; go_loud (with_reducible refine (HM4.out _).mono ?_); rintro en wk1 ⟨rfl, hb1⟩; go_loud (have hbk := (And.left (by assumption) : Below w1.heap.size w1 _).trans (hb1.mono (And.left (by assumption) : Below w1.heap.size w1 _).size)))
              | (go_at_call 76; go_loud (with_reducible refine (HM5.out _).mono ?_); rintro en wk1 ⟨rfl, hb1⟩; go_loud (have hbk := (And.left (by assumption) : Below w1.heap.size w1 _).trans (hb1.mono (And.left (by assumption) : Below w1.heap.size w1 _).size))))
          all_goals
            have HB7 := hide hbk
            rw [HE2.out]
            clear hb1 hbk v2 v3 v5 k1 hdw
            go_wp2_with fail
            go_roundg g0
            case rel => exact ⟨i + 1, o ++ (y4 ++ y5), rfl, rfl, by omega, HLn.out, HB7, HD⟩
            case measure => omega
        | zero =>
          obtain rfl : i = l.length := by omega
          have HP2 := hide (show o ++ x3 ++ (if (tl : Int) ≠ 0 then x4 ++ x5 else []) = P by rw [← HQ.out, List.drop_length]; simp)
          have k2 : wr.cell? ⟨n0, 2, none⟩ = some (.int .i64 (tl : Nat)) := cell_of_row _ _ _ _ _ _ (HK.out wr HW.out)
          have v2 : ¬ 9223372036854775807 < (ofL o).size + (ofL x3).size := by rw [ofL_size, ofL_size]; omega
          have HE2 := hide (ofL_sum o x3)
          clear HQ
          go_wp2_with fail
          refine (HN3.out _).mono ?_
          rintro e w6 ⟨rfl, hb6⟩
          have hB6 := HW.out.trans (hb6.mono HW.out.size)
          have s6 := HK.out w6 hB6
          have m2 : w6.cell? ⟨n0, 2, none⟩ = some (.int .i64 (tl : Nat)) := cell_of_row _ _ _ _ _ _ s6
          have HB6 := hide hB6
          clear k1 k2 hb6 HW hB6 s6
          by_cases h0 : (tl : Int) = 0
          · have HV := hide (show P = o ++ x3 by rw [← HP2.out, if_neg (by simp [h0])]; simp)
            have hnp : ¬ (0 : Int) < tl := by omega
            clear h0
            go_wp2_with fail
            rw [HE2.out]
            exact bodyPost_ret (results_tmp rfl _ _ _) rfl ⟨by rw [HV.out]; rfl, HB1.out.trans (HB6.out.mono HB1.out.size)⟩
          · have HV := hide (show P = o ++ x3 ++ (x4 ++ x5) by rw [← HP2.out, if_pos h0])
            have hnp : (0 : Int) < tl := by omega
            have HS := hide (fun (W : World) (h : Below w1.heap.size w1 W) => (⟨h, cell_of_row _ _ _ _ _ _ (HK.out W h), cell_of_row _ _ _ _ _ _ (HK.out W h), cell_of_row _ _ _ _ _ _ (HK.out W h)⟩ : Below w1.heap.size w1 W ∧ W.cell? ⟨n0, 3, none⟩ = some (.int .u32 (wk : Nat)) ∧ W.cell? ⟨n0, 4, none⟩ = some (.int .u64 (hh : Nat)) ∧ W.cell? ⟨n0, 5, none⟩ = some (.int .u64 (lo : Nat))))
            obtain ⟨oo, hoo⟩ : ∃ oo, oo = ofL o ++ ofL x3 := ⟨_, rfl⟩
            have hos : oo.size ≤ 200000 := by rw [hoo, ofL_sum, ofL_size, List.length_append]; omega
            have v3 : ¬ 9223372036854775807 < oo.size + (ofL x4).size := by rw [ofL_size]; omega
            have v4 : ¬ 9223372036854775807 < (oo ++ ofL x4).size + (ofL x5).size := by rw [ByteArray.size_append, ofL_size, ofL_size]; omega
            have v5 : ¬ 9223372036854775807 < oo.size + (ofL x4).size + (ofL x5).size := by rw [ofL_size, ofL_size]; omega
            have HE3 := hide (show oo ++ ofL x4 ++ ofL x5 = ofL (o ++ x3 ++ (x4 ++ x5)) by rw [hoo, ofL_sum, ofL_sum, ofL_sum]; simp only [List.append_assoc])
            have hdw := HB6.out.drew
            have HOO := hide hoo
            clear h0 hoo
            go_wp2_with fail
            rw [← HOO.out]
            go_region_held3 (fun W => Below w1.heap.size w1 W ∧ W.cell? ⟨n0, 3, none⟩ = some (.int .u32 (wk : Nat)) ∧ W.cell? ⟨n0, 4, none⟩ = some (.int .u64 (hh : Nat)) ∧ W.cell? ⟨n0, 5, none⟩ = some (.int .u64 (lo : Nat)))
              (first
                | exact HS.out _ hdw
                | exact HS.out _ hbk)
              (first
                | (go_at_call 75; go_loud (with_reducible refine (HN4.out _).mono ?_); rintro en wk1 ⟨rfl, hb1⟩; go_loud (have hbk := (And.left (by assumption) : Below w1.heap.size w1 _).trans (hb1.mono (And.left (by assumption) : Below w1.heap.size w1 _).size)))
                | (go_at_call 76; go_loud (with_reducible refine (HN5.out _).mono ?_); rintro en wk1 ⟨rfl, hb1⟩; go_loud (have hbk := (And.left (by assumption) : Below w1.heap.size w1 _).trans (hb1.mono (And.left (by assumption) : Below w1.heap.size w1 _).size))))
            all_goals
              have HB7 := hide hbk
              rw [HE3.out]
              clear hb1 hbk v2 v3 v4 v5 m2 hdw
              go_wp2_with fail
              exact bodyPost_ret (results_tmp rfl _ _ _) rfl ⟨by rw [HV.out]; rfl, HB1.out.trans (HB7.out.mono HB1.out.size)⟩
end Go.Proofs.Ytdkdnfcmlnfkcaa
