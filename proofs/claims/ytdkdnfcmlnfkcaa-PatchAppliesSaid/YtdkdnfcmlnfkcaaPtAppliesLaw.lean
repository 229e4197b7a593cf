/-
  The law PatchApplies: its walk.
-/
import Derived.Test.YtdkdnfcmlnfkcaaPtAwake
import Derived.Test.YtdkdnfcmlnfkcaaPtFew
import Derived.Test.YtdkdnfcmlnfkcaaPtNeeds
import Derived.Test.YtdkdnfcmlnfkcaaPtRefApply
import Derived.Deep.RegionHeld3
namespace Go.Proofs.Ytdkdnfcmlnfkcaa
open Go.RowKit
set_option maxRecDepth 100000

theorem needsL_step (n : Nat) (size : Int) (T : List Tk) (i : Nat) (t : Tk) (h : T[i]? = some t) : needsL n size (T.take (i + 1)) = (needsL n size (T.take i) && decide (stepE n size t ≠ 6)) := by
  obtain ⟨hlt, e⟩ := List.getElem?_eq_some_iff.1 h
  rw [← List.take_append_getElem hlt, e]
  unfold needsL
  rw [List.all_append]
  simp

set_option maxHeartbeats 32000000 in
theorem applies_law (A : Option Addr) (l : List UInt8) (c : Nat) (size : Int) (C : Option Addr) (T : List Tk) (d : Nat) (w : World) (hR : RdB w w.heap.size A l) (hc : Caps A l.length c) (_ : -9223372036854775808 ≤ size ∧ size ≤ 9223372036854775807) (hT : RdT w w.heap.size C T) (_ : T.length ≤ d) :
    Calls Try.prog 12 #[.slice A l.length c, .int .i64 size, .slice C T.length d] w fun e w' => e = .returned (.bool true) ∧ Below w.heap.size w w' := by
  have HF := hide (fewP_any C T d w hT)
  by_cases h300 : (300 : Int) < l.length
  · clear hR hc hT HF
    go_enter Try.func12, Try.ntmps12
    go_wp2_with fail
    refine (ptAwake_any w).mono ?_
    rintro e w2 ⟨rfl, hb⟩
    go_wp2_with fail
    exact bodyPost_ret (results_tmp rfl _ _ _) rfl ⟨rfl, hb⟩
  cases hf : fewP T with
  | false =>
    rw [hf] at HF
    clear hR hc hT hf
    go_enter Try.func12, Try.ntmps12
    go_wp2_with fail
    refine HF.out.mono ?_
    rintro e w1 ⟨rfl, rfl⟩
    go_wp2_with fail
    refine (ptAwake_any _).mono ?_
    rintro e w2 ⟨rfl, hb⟩
    go_wp2_with fail
    exact bodyPost_ret (results_tmp rfl _ _ _) rfl ⟨rfl, hb⟩
  | true =>
    have hl : l.length ≤ 300 := by omega
    have hTl : T.length ≤ 20 := fewP_len hf
    rw [hf] at HF
    have HTo := hide (to_any C T d w hT (by omega))
    have HR := hide hR
    have HT := hide hT
    have HC := hide hc
    clear hR hT hf hc
    go_enter Try.func12, Try.ntmps12
    go_wp2_with fail
    refine HF.out.mono ?_
    rintro e w1 ⟨rfl, rfl⟩
    clear HF
    go_wp2_with fail
    refine HTo.out.mono ?_
    rintro e w3 ⟨v, rfl, hI3⟩
    obtain ⟨D, f, rfl⟩ := ownsRow_slice hI3.own
    have HAp := hide (apply_any A l c size D T f w3 (HR.out.step hI3.below) HC.out (by omega) (RdT.own hI3.own) (by omega))
    have HI3 := hide hI3
    clear hI3 HTo
    go_wp2_with fail
    refine HAp.out.mono ?_
    rintro e w4 ⟨E, g, rfl, hEc, hER, hb4⟩
    have hB4 := HI3.out.below.trans (hb4.mono HI3.out.below.size)
    have hcv := conv_any (HR.out.step hB4) c
    have HRA := hide (refApply_any (ofL l) size C T d w4 (by rw [ofL_size]; omega) (HT.out.step hB4) (by omega))
    rw [toL_ofL] at HRA
    have HB4 := hide hB4
    have HER := hide hER
    have HX4 := hide ((RdT.own HI3.out.own).step hb4)
    clear hb4 hB4 hEc hER HAp
    unfold StepS at HRA
    go_wp2_with fail
    refine HRA.out.mono ?_
    rintro e w5 ⟨rfl, hb5⟩
    have hB5 := HB4.out.trans (hb5.mono HB4.out.size)
    have HRl := hide (fun (W : World) (h : Below w5.heap.size w5 W) => HR.out.step (hB5.trans (h.mono hB5.size)))
    have HTl := hide (fun (W : World) (h : Below w5.heap.size w5 W) => HT.out.step (hB5.trans (h.mono hB5.size)))
    have HX := hide (fun (W : World) (h : Below w5.heap.size w5 W) => (HX4.out.step hb5).step h)
    have HE := hide (fun (W : World) (h : Below w5.heap.size w5 W) => (HER.out.step hb5).step h)
    have HB5 := hide hB5
    have HCv := hide (fun (W : World) (h : Below w5.heap.size w5 W) => conv_any (HRl.out W h) c)
    clear hb5 hB5 hcv HRA HX4 HER HR HT HB4
    go_wp2_with fail
    go_loopg [12, 13] T.length (fun gk nv iv wr => ∃ (i : Nat), nv = .bool (needsL l.length size (T.take i)) ∧ iv = .int .i64 i ∧ i + gk = T.length ∧ Hid (Below w5.heap.size w5 wr))
    case atStart => exact ⟨0, rfl, rfl, by omega, hide (Below.refl _ _)⟩
    case round =>
      obtain ⟨i, rfl, rfl, hig, HW⟩ := hrel
      cases gk with
      | zero =>
        obtain rfl : i = T.length := by omega
        rw [List.take_length]
        have HAw := hide (ptAwake_any wr)
        have HNd := hide (fun (W : World) (h : Below w5.heap.size w5 W) => needs_any l.length size D T f W (by omega) (HX.out W h) (by omega))
        have HCe := hide (fun (W : World) (h : Below w5.heap.size w5 W) => conv_any (HE.out W h) g)
        generalize needsL l.length size T = nd at HNd ⊢
        generalize applyL l size T = aL at HCe ⊢
        generalize ofL aL = sL at HCe ⊢
        go_wp2_with fail
        refine HAw.out.mono ?_
        rintro e w6 ⟨rfl, hb6⟩
        have hB6 := HW.out.trans (hb6.mono HW.out.size)
        have hcv6 := HCe.out _ hB6
        have HB6 := hide hB6
        clear hb6 hB6 HAw
        go_wp2_with fail
        refine (HNd.out _ HB6.out).mono ?_
        rintro e w7 ⟨rfl, hb7⟩
        have HB7 := hide (HB5.out.trans ((HB6.out.trans (hb7.mono HB6.out.size)).mono HB5.out.size))
        clear hb7 hcv6
        go_wp2_with fail
        exact bodyPost_ret (results_tmp rfl _ _ _) rfl ⟨rfl, HB7.out⟩
      | succ g0 =>
        have hii : (i : Int) < T.length := by omega
        have hi0 : (0 : Int) ≤ (i : Int) := by omega
        obtain ⟨t, ht⟩ : ∃ t, T[i]? = some t := ⟨_, List.getElem?_eq_getElem (by omega)⟩
        have hiw : IntKind.i64.wrap ((i : Int) + 1) = ((i + 1 : Nat) : Int) := by rw [IntWalk.i64_in _ (by omega)]; rfl
        obtain ⟨ad, rfl, hlt, hnd⟩ := (HTl.out w5 (Below.refl _ _)) i t ht
        obtain ⟨ax, rfl, hlt2, hnx⟩ := (HX.out w5 (Below.refl _ _)) i t ht
        have HN := hide (needsL_step l.length size T i t ht)
        have HSt := hide (fun (W : World) (h : Below w5.heap.size w5 W) => step_any A l c size t W (HRl.out W h) HC.out (by omega))
        have HRs := hide (fun (W : World) => refStep_any (ofL l) size t W (by rw [ofL_size]; omega))
        rw [toL_ofL] at HRs
        unfold StepS at HRs
        obtain ⟨fr, many, data⟩ := t
        simp only [Tk.cells] at HSt HRs
        have HCc := hide (fun (W : World) (h : Below w5.heap.size w5 W) => (hnd.below h (by rw [add_block]; exact hlt)))
        have HXx := hide (fun (W : World) (h : Below w5.heap.size w5 W) => (hnx.below h (by rw [add_block]; exact hlt2)))
        have HS := hide (fun (W : World) (h : Below w5.heap.size w5 W) => (⟨HCv.out W h, (HCc.out W h).from_, (HCc.out W h).many, (HCc.out W h).data⟩ :
          (convert 22 9 (.slice A l.length c)).run Try.prog W = .ok (.string (ofL l)) W ∧ W.cell? (ad.add (i * 3)) = some (.int .i64 fr) ∧ W.cell? ⟨(ad.add (i * 3)).block, (ad.add (i * 3)).off + 1, none⟩ = some (.int .i64 many) ∧ W.cell? ⟨(ad.add (i * 3)).block, (ad.add (i * 3)).off + 2, none⟩ = some (.string data)))
        have x0 := (HXx.out wr HW.out).from_
        have x1 := (HXx.out wr HW.out).many
        have x2 := (HXx.out wr HW.out).data
        simp only at x0 x1 x2
        generalize needsL l.length size (T.take i) = b at HN ⊢
        generalize stepE l.length size ⟨fr, many, data⟩ = e1 at HN HSt HRs
        generalize stepL l size ⟨fr, many, data⟩ = s1 at HSt HRs
        clear hnd hnx ht hlt hlt2 HCc HXx
        go_wp2_with fail
        refine (HSt.out _ HW.out).mono ?_
        rintro e w6 ⟨G, h, rfl, _, hG6, hb6⟩
        have hW6 := HW.out.trans (hb6.mono HW.out.size)
        have HG := hide (fun (W : World) (h6 : Below w6.heap.size w6 W) => conv_any (hG6.step h6) h)
        have HW6 := hide hW6
        clear x0 x1 x2 hb6 hG6 hW6 HSt
        generalize hVV : Value.slice A l.length c = V at HS ⊢
        have HVV := hide hVV
        clear hVV
        generalize hsl : ofL l = sl at HS HRs
        have HSL := hide hsl
        clear hsl
        have HS6 := hide (fun (W : World) (h6 : Below w6.heap.size w6 W) => HS.out W (HW6.out.trans (h6.mono HW6.out.size)))
        have HD6 := hide (Below.refl w6.heap.size w6).drew
        have hSd := HS6.out _ HD6.out
        go_wp2_with fail
        go_region_held3 (fun W => Below w6.heap.size w6 W ∧ (convert 22 9 V).run Try.prog W = .ok (.string sl) W ∧ W.cell? (ad.add (i * 3)) = some (.int .i64 fr) ∧ W.cell? ⟨(ad.add (i * 3)).block, (ad.add (i * 3)).off + 1, none⟩ = some (.int .i64 many) ∧ W.cell? ⟨(ad.add (i * 3)).block, (ad.add (i * 3)).off + 2, none⟩ = some (.string data))
          (first
            | exact ⟨HD6.out, hSd⟩
            | exact ⟨hbk2, HS6.out _ hbk2⟩)
          (first | (go_at_call 61; with_reducible refine (HRs.out _).mono ?_; rintro en wk ⟨rfl, hbk⟩; have hbk2 := (And.left (by assumption) : Below w6.heap.size w6 _).trans (hbk.mono (And.left (by assumption) : Below w6.heap.size w6 _).size)))
        all_goals
          rename_i hSz
          have HW7 := hide hSz.1
          have hcs := HG.out _ hSz.1
          have HW8 := hide (HW6.out.trans (HW7.out.mono HW6.out.size))
          clear hSz hSd hbk2
          generalize ofL s1 = st at hcs ⊢
          cases b with
          | false =>
            go_wp2_with fail
            have hVV := HVV.out
            have hsl := HSL.out
            subst hVV hsl
            go_roundg g0
            case rel => exact ⟨i + 1, by rw [HN.out]; rfl, rfl, by omega, HW8⟩
            case measure => omega
          | true =>
            by_cases h6 : e1 = 6
            · have E6 : ((e1 : Int) != 6) = false := by rw [bne_eq_false_iff_eq]; omega
              have HN2 := hide (show needsL l.length size (T.take (i + 1)) = false by rw [HN.out, h6]; rfl)
              clear h6
              go_wp2_with fail
              have hVV := HVV.out
              have hsl := HSL.out
              subst hVV hsl
              go_roundg g0
              case rel => exact ⟨i + 1, by rw [HN2.out], rfl, by omega, HW8⟩
              case measure => omega
            · have E6 : ((e1 : Int) != 6) = true := by rw [bne_iff_ne]; omega
              have HN2 := hide (show needsL l.length size (T.take (i + 1)) = true by rw [HN.out, decide_eq_true h6]; rfl)
              clear h6
              go_wp2_with fail
              have hVV := HVV.out
              have hsl := HSL.out
              subst hVV hsl
              go_roundg g0
              case rel => exact ⟨i + 1, by rw [HN2.out], rfl, by omega, HW8⟩
              case measure => omega
end Go.Proofs.Ytdkdnfcmlnfkcaa
