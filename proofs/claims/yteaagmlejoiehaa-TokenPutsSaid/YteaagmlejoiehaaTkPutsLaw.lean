/-
  The law TokenPuts: its walk.
-/
import Derived.Test.YteaagmlejoiehaaTkAwake
import Derived.Test.YteaagmlejoiehaaTkMath
import Derived.Deep.RegionHeld3
namespace Go.Proofs.Yteaagmlejoiehaa
open Go.RowKit
set_option maxRecDepth 100000

theorem keepP {w1 W W2 : World} {V : Value} {sl : ByteArray} (KC : Hid (∀ W : World, Below w1.heap.size w1 W → (convert 22 9 V).run Try.prog W = .ok (.string sl) W)) (h : Below w1.heap.size w1 W ∧ (convert 22 9 V).run Try.prog W = .ok (.string sl) W) (hb : Below W.heap.size W W2) :
    Below w1.heap.size w1 W2 ∧ (convert 22 9 V).run Try.prog W2 = .ok (.string sl) W2 :=
  ⟨h.1.trans (hb.mono h.1.size), KC.out _ (h.1.trans (hb.mono h.1.size))⟩
theorem all_take {l : List Tk} {i : Nat} {t : Tk} (h : l[i]? = some t) : (l.take (i + 1)).all rightT = ((l.take i).all rightT && rightT t) := by
  obtain ⟨hlt, e⟩ := List.getElem?_eq_some_iff.1 h
  rw [← List.take_append_getElem hlt, e, List.all_append]
  simp

set_option maxHeartbeats 16000000 in
theorem puts_law (A : Option Addr) (l : List Tk) (c : Nat) (B : Option Addr) (m : List Tk) (c' : Nat) (w : World) (hA : RdT w w.heap.size A l) (_ : l.length ≤ c) (hB : RdT w w.heap.size B m) (_ : m.length ≤ c') :
    Calls Try.prog 7 #[.slice A l.length c, .slice B m.length c'] w fun e w' => e = .returned (.bool true) ∧ Below w.heap.size w w' := by
  have HF1 := hide (fewT_any A l c w hA)
  have HF2 := hide (fewT_any B m c' w hB)
  cases h1 : fewT l with
  | false =>
    rw [h1] at HF1
    clear hA hB h1
    go_enter Try.func7, Try.ntmps7
    go_wp2_with fail
    refine HF1.out.mono ?_
    rintro e w1 ⟨rfl, rfl⟩
    go_wp2_with fail
    refine (tkAwake_any w1).mono ?_
    rintro e w2 ⟨rfl, hb⟩
    go_wp2_with fail
    exact bodyPost_ret (results_tmp rfl _ _ _) rfl ⟨rfl, hb⟩
  | true =>
    cases h2 : fewT m with
    | false =>
      rw [h1] at HF1
      rw [h2] at HF2
      clear hA hB h1 h2
      go_enter Try.func7, Try.ntmps7
      go_wp2_with fail
      refine HF1.out.mono ?_
      rintro e w1 ⟨rfl, rfl⟩
      go_wp2_with fail
      refine HF2.out.mono ?_
      rintro e w2 ⟨rfl, rfl⟩
      go_wp2_with fail
      refine (tkAwake_any _).mono ?_
      rintro e w2 ⟨rfl, hb⟩
      go_wp2_with fail
      exact bodyPost_ret (results_tmp rfl _ _ _) rfl ⟨rfl, hb⟩
    | true =>
      have hl : (l.length : Int) ≤ 30 := by have := few_len h1; omega
      have hm : (m.length : Int) ≤ 30 := by have := few_len h2; omega
      have hs : sizeL l ≤ 1000000 := by have := sizeL_le l 200 (few_size h1); have := few_len h1; omega
      rw [h1] at HF1
      rw [h2] at HF2
      have HT1 := hide (to_any A l c w hA (by omega))
      have HT2 := hide (fun (W : World) (h : Below w.heap.size w W) => to_any B m c' W (hB.step h) (by omega))
      have HA := hide hA
      have HB := hide hB
      clear hA hB h1 h2
      go_enter Try.func7, Try.ntmps7
      go_wp2_with fail
      refine HF1.out.mono ?_
      rintro e w1 ⟨rfl, rfl⟩
      go_wp2_with fail
      refine HF2.out.mono ?_
      rintro e w2 ⟨rfl, rfl⟩
      clear HF1 HF2
      go_wp2_with fail
      refine HT1.out.mono ?_
      rintro e w3 ⟨v, rfl, hI3⟩
      obtain ⟨D, d, rfl⟩ := ownsRow_slice hI3.own
      have HI3 := hide hI3
      clear hI3 HT1
      go_wp2_with fail
      refine (HT2.out w3 HI3.out.below).mono ?_
      rintro e w4 ⟨v, rfl, hI4⟩
      obtain ⟨E, f, rfl⟩ := ownsRow_slice hI4.own
      have hB4 := HI3.out.below.trans (hI4.below.mono HI3.out.below.size)
      have HL := hide (fun (W : World) (h : Below w4.heap.size w4 W) => HA.out.step (hB4.trans (h.mono hB4.size)))
      have HM := hide (fun (W : World) (h : Below w4.heap.size w4 W) => HB.out.step (hB4.trans (h.mono hB4.size)))
      have HD := hide (fun (W : World) (h : Below w4.heap.size w4 W) => ((RdT.own HI3.out.own).step hI4.below).step h)
      have HE := hide (fun (W : World) (h : Below w4.heap.size w4 W) => (RdT.own hI4.own).step h)
      have HB4 := hide hB4
      clear HI3 hI4 hB4 HT2 HA HB
      go_wp2_with fail
      go_loopg [7, 8] l.length (fun gk rv iv wr => ∃ (i : Nat), rv = .bool ((l.take i).all rightT) ∧ iv = .int .i64 i ∧ i + gk = l.length ∧ Hid (Below w4.heap.size w4 wr))
      case atStart => exact ⟨0, rfl, rfl, by omega, hide (Below.refl _ _)⟩
      case round =>
        obtain ⟨i, rfl, rfl, hig, HW⟩ := hrel
        cases gk with
        | succ g0 =>
          have hii : (i : Int) < l.length := by omega
          have hi0 : (0 : Int) ≤ (i : Int) := by omega
          obtain ⟨t, ht⟩ : ∃ t, l[i]? = some t := ⟨_, List.getElem?_eq_getElem (by omega)⟩
          have hiw : IntKind.i64.wrap ((i : Int) + 1) = ((i + 1 : Nat) : Int) := by rw [IntWalk.i64_in _ (by omega)]; rfl
          obtain ⟨ad, rfl, hlt, hnd⟩ := (HL.out w4 (Below.refl _ _)) i t ht
          obtain ⟨ax, rfl, hlt2, hnx⟩ := (HD.out w4 (Below.refl _ _)) i t ht
          have HN := hide (all_take ht)
          have HR1 := hide (right_any t)
          have HR2 := hide (refTRight_any t)
          obtain ⟨fr, many, data⟩ := t
          simp only [Tk.cells] at HR1 HR2
          have HC := hide (fun (W : World) (h : Below w4.heap.size w4 W) => (hnd.below h (by rw [add_block]; exact hlt)))
          have HX := hide (fun (W : World) (h : Below w4.heap.size w4 W) => (hnx.below h (by rw [add_block]; exact hlt2)))
          have HS := hide (fun (W : World) (h : Below w4.heap.size w4 W) => (⟨(HC.out W h).from_, (HC.out W h).many, (HC.out W h).data, (HX.out W h).from_, (HX.out W h).many, (HX.out W h).data⟩ :
            W.cell? (ad.add (i * 3)) = some (.int .i64 fr) ∧ W.cell? ⟨(ad.add (i * 3)).block, (ad.add (i * 3)).off + 1, none⟩ = some (.int .i64 many) ∧ W.cell? ⟨(ad.add (i * 3)).block, (ad.add (i * 3)).off + 2, none⟩ = some (.string data) ∧
            W.cell? (ax.add (i * 3)) = some (.int .i64 fr) ∧ W.cell? ⟨(ax.add (i * 3)).block, (ax.add (i * 3)).off + 1, none⟩ = some (.int .i64 many) ∧ W.cell? ⟨(ax.add (i * 3)).block, (ax.add (i * 3)).off + 2, none⟩ = some (.string data)))
          obtain ⟨c0, c1, c2, _⟩ := HS.out wr HW.out
          generalize (l.take i).all rightT = r at HN ⊢
          generalize rightT ⟨fr, many, data⟩ = q at HN HR1 HR2
          clear hnd hnx ht hlt hlt2 HC HX
          cases r with
          | true =>
            go_wp2_with fail
            refine (HR2.out _).mono ?_
            rintro e w6 ⟨rfl, hb6⟩
            have HW6 := hide (HW.out.trans (hb6.mono HW.out.size))
            have hSd := HS.out _ HW6.out.drew
            clear c0 c1 c2 hb6 HW
            go_wp2_with fail
            go_region_held3 (fun W => Below w4.heap.size w4 W ∧ W.cell? (ad.add (i * 3)) = some (.int .i64 fr) ∧ W.cell? ⟨(ad.add (i * 3)).block, (ad.add (i * 3)).off + 1, none⟩ = some (.int .i64 many) ∧ W.cell? ⟨(ad.add (i * 3)).block, (ad.add (i * 3)).off + 2, none⟩ = some (.string data) ∧
                W.cell? (ax.add (i * 3)) = some (.int .i64 fr) ∧ W.cell? ⟨(ax.add (i * 3)).block, (ax.add (i * 3)).off + 1, none⟩ = some (.int .i64 many) ∧ W.cell? ⟨(ax.add (i * 3)).block, (ax.add (i * 3)).off + 2, none⟩ = some (.string data))
              (first
                | exact ⟨HW6.out.drew, hSd⟩
                | exact ⟨hbk2, HS.out _ hbk2⟩)
              (first
                | (go_at_call 34; with_reducible refine (HR1.out _).mono ?_; rintro en wk ⟨rfl, hbk⟩; have hbk2 := (And.left (by assumption) : Below w4.heap.size w4 _).trans (hbk.mono (And.left (by assumption) : Below w4.heap.size w4 _).size))
                | (go_at_call 33; with_reducible refine (HR2.out _).mono ?_; rintro en wk ⟨rfl, hbk⟩; have hbk2 := (And.left (by assumption) : Below w4.heap.size w4 _).trans (hbk.mono (And.left (by assumption) : Below w4.heap.size w4 _).size)))
            all_goals
              rename_i hSz
              have HW7 := hide hSz.1
              clear hSz hSd
              go_wp2_with fail
              go_roundg g0
              case rel => exact ⟨i + 1, by rw [HN.out]; rfl, rfl, by omega, HW7⟩
              case measure => omega
          | false =>
            have HW6 := HW
            have hSd := HS.out _ HW6.out.drew
            clear c0 c1 c2
            go_wp2_with fail
            go_region_held3 (fun W => Below w4.heap.size w4 W ∧ W.cell? (ad.add (i * 3)) = some (.int .i64 fr) ∧ W.cell? ⟨(ad.add (i * 3)).block, (ad.add (i * 3)).off + 1, none⟩ = some (.int .i64 many) ∧ W.cell? ⟨(ad.add (i * 3)).block, (ad.add (i * 3)).off + 2, none⟩ = some (.string data) ∧
                W.cell? (ax.add (i * 3)) = some (.int .i64 fr) ∧ W.cell? ⟨(ax.add (i * 3)).block, (ax.add (i * 3)).off + 1, none⟩ = some (.int .i64 many) ∧ W.cell? ⟨(ax.add (i * 3)).block, (ax.add (i * 3)).off + 2, none⟩ = some (.string data))
              (first
                | exact ⟨HW6.out.drew, hSd⟩
                | exact ⟨hbk2, HS.out _ hbk2⟩)
              (first
                | (go_at_call 34; with_reducible refine (HR1.out _).mono ?_; rintro en wk ⟨rfl, hbk⟩; have hbk2 := (And.left (by assumption) : Below w4.heap.size w4 _).trans (hbk.mono (And.left (by assumption) : Below w4.heap.size w4 _).size))
                | (go_at_call 33; with_reducible refine (HR2.out _).mono ?_; rintro en wk ⟨rfl, hbk⟩; have hbk2 := (And.left (by assumption) : Below w4.heap.size w4 _).trans (hbk.mono (And.left (by assumption) : Below w4.heap.size w4 _).size)))
            all_goals
              rename_i hSz
              have HW7 := hide hSz.1
              clear hSz hSd
              go_wp2_with fail
              go_roundg g0
              case rel => exact ⟨i + 1, by rw [HN.out]; rfl, rfl, by omega, HW7⟩
              case measure => omega
        | zero =>
          obtain rfl : i = l.length := by omega
          rw [List.take_length]
          have hpl := putT_len l
          have hback := getT_back l
          have hall : l.all rightT = true → ∀ t ∈ l, rightT t = true := fun h => List.all_eq_true.1 h
          have HP := hide (putT_any D l d wr (HD.out wr HW.out) (by omega))
          have HRP := hide (fun (W : World) (h : Below w4.heap.size w4 W) => refPutT_any A l c W (HL.out W h) (by omega))
          have hplen : (putT l).length ≤ 1000000 := by omega
          generalize putT l = p at hback HP HRP hplen
          go_wp2_with fail
          refine HP.out.mono ?_
          rintro e w6 ⟨G, g, rfl, hcap, hR6, hb6⟩
          have HW6 := hide (HW.out.trans (hb6.mono HW.out.size))
          have HG := hide (getT_any G p g w6 hR6 hcap hplen)
          have HR6 := hide hR6
          clear HP hb6 hR6 hcap HW
          go_wp2_with fail
          refine HG.out.mono ?_
          rintro e w7 ⟨v, rfl, hI7⟩
          obtain ⟨H, h7, rfl⟩ := ownsRow_slice hI7.own
          have hW7 := HW6.out.trans (hI7.below.mono HW6.out.size)
          have HQ := hide (fun (W : World) (h : Below w7.heap.size w7 W) => (RdT.own hI7.own).step h)
          obtain ⟨X, hX⟩ : ∃ X, X = Value.slice G p.length g := ⟨_, rfl⟩
          obtain ⟨sl, hsl⟩ : ∃ sl, sl = ofL p := ⟨_, rfl⟩
          have KC := hide (fun (W : World) (h : Below w7.heap.size w7 W) => (show (convert 22 9 X).run Try.prog W = .ok (.string sl) W by
            rw [hX, hsl]; exact conv_any (HR6.out.below (hI7.below.trans (h.mono hI7.below.size)) (Nat.le_refl _)) g))
          have HB7 := hide (HB4.out.trans (hW7.mono HB4.out.size))
          have HW7 := hide hW7
          have HRP2 := hide (fun (W : World) (h : Below w7.heap.size w7 W) => (show Calls Try.prog 37 #[.slice A l.length c] W fun e w' => e = .returned (.string sl) ∧ Below W.heap.size W w' from by rw [hsl]; exact HRP.out W (hW7.trans (h.mono hW7.size))))
          have HS1 := hide (fun (W : World) (h : Below w7.heap.size w7 W) => same_any D E l m d f W (HD.out W (hW7.trans (h.mono hW7.size))) (HE.out W (hW7.trans (h.mono hW7.size))) (by omega))
          have HS2 := hide (fun (W : World) (h : Below w7.heap.size w7 W) => refTSame_any A B l m c c' W (HL.out W (hW7.trans (h.mono hW7.size))) (HM.out W (hW7.trans (h.mono hW7.size))) (by omega))
          have HY1 := hide (fun (W : World) (h : Below w7.heap.size w7 W) => bytesL_any D l d W (HD.out W (hW7.trans (h.mono hW7.size))) (by omega) hs)
          have HY2 := hide (fun (W : World) (h : Below w7.heap.size w7 W) => refBytesL_any A l c W (HL.out W (hW7.trans (h.mono hW7.size))) (by omega) hs)
          have HL7 := hide (fun (W : World) (h : Below w7.heap.size w7 W) => HL.out W (hW7.trans (h.mono hW7.size)))
          generalize sameB l m = sb at HS1 HS2
          generalize bytesL l = bb at HY1 HY2
          rw [← hX]
          have hd0 := keepP KC ⟨Below.refl w7.heap.size w7, KC.out _ (Below.refl _ _)⟩ (Below.refl w7.heap.size w7).drew
          have hsb : (sb != sb) = false := by cases sb <;> rfl
          clear HG HRP hI7 hW7 hX hsl HR6 HW6 HL HM HD HE
          go_wp2_with fail
          go_region_held3 (fun w' => Below w7.heap.size w7 w' ∧ (convert 22 9 X).run Try.prog w' = .ok (.string sl) w')
            (first
              | assumption
              | exact hd0
              | exact keepP KC (by assumption) hbk)
            (first
              | (go_at_call 37; with_reducible refine (HRP2.out _ (And.left (by assumption))).mono ?_; rintro en wk ⟨rfl, hbk⟩)
              | (go_at_call 38; with_reducible refine (HS1.out _ (And.left (by assumption))).mono ?_; rintro en wk ⟨rfl, hbk⟩)
              | (go_at_call 39; with_reducible refine (HS2.out _ (And.left (by assumption))).mono ?_; rintro en wk ⟨rfl, hbk⟩)
              | (go_at_call 40; with_reducible refine (HY1.out _ (And.left (by assumption))).mono ?_; rintro en wk ⟨rfl, hbk⟩)
              | (go_at_call 41; with_reducible refine (HY2.out _ (And.left (by assumption))).mono ?_; rintro en wk ⟨rfl, hbk⟩))
          all_goals
            rename_i hSz
            have HW8 := hide hSz.1
            clear hSz hd0 HRP2 HS1 HS2 HY1 HY2
            cases hr : l.all rightT with
            | false =>
              clear hback hall
              go_wp2_with fail
              refine (tkAwake_any _).mono ?_
              rintro e w9 ⟨rfl, hb9⟩
              have HW9 := hide (HW8.out.trans (hb9.mono HW8.out.size))
              clear hb9
              go_wp2_with fail
              exact bodyPost_ret (results_tmp rfl _ _ _) rfl ⟨rfl, HB7.out.trans (HW9.out.mono HB7.out.size)⟩
            | true =>
              have hg := hback (hall hr)
              rw [hg] at HQ ⊢
              clear hback hall hg
              go_wp2_with fail
              refine (tkAwake_any _).mono ?_
              rintro e w9 ⟨rfl, hb9⟩
              have HW9 := hide (HW8.out.trans (hb9.mono HW8.out.size))
              have HFr := hide (from_any H l h7 w9 (HQ.out w9 HW9.out) (by omega))
              clear hb9
              go_wp2_with fail
              refine HFr.out.mono ?_
              rintro e wa ⟨v, rfl, hIa⟩
              obtain ⟨J, j, rfl⟩ := ownsRow_slice hIa.own
              have HWa := hide (HW9.out.trans (hIa.below.mono HW9.out.size))
              have HSm := hide (refTSame_any J A l l j c wa (RdT.own hIa.own) (HL7.out wa HWa.out) (by omega))
              rw [sameB_refl] at HSm
              clear hIa HFr
              go_wp2_with fail
              refine HSm.out.mono ?_
              rintro e wb ⟨rfl, hbb⟩
              have HWb := hide (HWa.out.trans (hbb.mono HWa.out.size))
              clear hbb HSm
              go_wp2_with fail
              exact bodyPost_ret (results_tmp rfl _ _ _) rfl ⟨rfl, HB7.out.trans (HWb.out.mono HB7.out.size)⟩
end Go.Proofs.Yteaagmlejoiehaa
