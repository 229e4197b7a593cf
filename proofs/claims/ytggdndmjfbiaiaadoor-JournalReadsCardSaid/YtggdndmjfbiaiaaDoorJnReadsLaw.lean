/-
  The law JournalReads, walked.
-/
import Derived.Test.YtggdndmjfbiaiaaDoorJnAwake
import Derived.Test.YtggdndmjfbiaiaaDoorJnFrom
import Derived.Test.YtggdndmjfbiaiaaDoorJnRefRead
namespace Go.Proofs.YtggdndmjfbiaiaaDoor
open Go.RowKit
set_option maxRecDepth 100000

set_option maxHeartbeats 16000000 in
theorem jreads_law (s : ByteArray) (cut : Int) (w : World) (hT : Tabs w) (hc : 0 ≤ cut ∧ cut ≤ 65535) :
    Calls Tryd.prog 3 #[.string s, .int .u16 cut] w fun e w' => e = .returned (.bool true) ∧ Below w.heap.size w w' := by
  have HAw := hide (fun W (hb : Below w.heap.size w W) => jawake_any W (hT.below hb))
  by_cases hs : (s.size : Int) > 600
  · have HA := hide (HAw.out w (Below.refl _ _))
    clear HAw hT
    go_enter Tryd.func3, Tryd.ntmps3
    go_wp2_with fail
    refine (HA.out).mono ?_
    rintro e w1 ⟨rfl, hb⟩
    go_wp2_with fail
    exact bodyPost_ret (results_tmp rfl _ _ _) rfl ⟨rfl, hb⟩
  · obtain ⟨c, rfl⟩ : ∃ c : Nat, cut = c := ⟨cut.toNat, by omega⟩
    obtain ⟨p, hp⟩ : ∃ p : Nat, p = c % (s.size + 1) := ⟨_, rfl⟩
    have hps : p ≤ s.size := by have := Nat.mod_lt c (show s.size + 1 > 0 by omega); omega
    have hmod : (c : Int) % ((s.size : Int) + 1) = (p : Int) := by rw [hp]; simp
    have HRd := hide (fun W (hb : Below w.heap.size w W) => jread_any s W (by omega) (hT.below hb))
    have HRR := hide (fun W => refRead_any s W (by omega))
    have hts : toL (s.extract 0 p) = (toL s).take p := by unfold toL; rw [Lib.extract_data]; simp
    have HRf := hide (fun W (hb : Below w.heap.size w W) => jread_any (s.extract 0 p) W (by rw [ByteArray.size_extract]; omega) (hT.below hb))
    have hRl := read_len (toL s)
    rw [size_toL] at hRl
    obtain ⟨t, ht⟩ := read_front _ (toL s) p (Nat.le_refl _)
    rw [hts] at HRf
    obtain ⟨R, hR⟩ : ∃ R, R = readJ (linesL (toL s)) := ⟨_, rfl⟩
    obtain ⟨F, hF⟩ : ∃ F, F = readJ (linesL ((toL s).take p)) := ⟨_, rfl⟩
    rw [← hR] at HRd HRR hRl ht
    rw [← hF] at HRf ht
    have hFR : F.length ≤ R.length := by rw [← ht, List.length_append]; omega
    have HTk := hide (show R.take F.length = F by rw [← ht]; simp)
    have hRl2 : (R.length : Int) ≤ 600 := by omega
    have HFl := hide (show (F.length : Int) ≤ 1000000 by omega)
    unfold ReadTo at HRd HRf
    clear hR hF ht hp hT hts
    go_enter Tryd.func3, Tryd.ntmps3
    go_wp2_with fail
    refine (HRd.out _ (Below.refl _ _)).mono ?_
    rintro e w1 ⟨A, cA, rfl, hb1, hr1, _⟩
    have HB1 := hide hb1
    have HFr := hide (from_any A R cA w1 hr1 (by omega))
    clear hb1 hr1
    go_wp2_with fail
    refine (HFr.out).mono ?_
    rintro e w2 ⟨v2, rfl, hI2⟩
    obtain ⟨A2, c2, rfl⟩ := ownsRow_slice hI2.own
    have hcap : R.length ≤ c2 := ownsRow_cap hI2.own
    have HB2 := hide (HB1.out.trans (hI2.below.mono HB1.out.size))
    have HR2 := hide (RdR.own hI2.own)
    clear hI2
    go_wp2_with fail
    refine (HRR.out _).mono ?_
    rintro e w3 ⟨v3, rfl, hI3⟩
    obtain ⟨A3, c3, rfl⟩ := ownsRow_slice hI3.own
    have HB3 := hide (HB2.out.trans (hI3.below.mono HB2.out.size))
    have HR3 := hide (HR2.out.step hI3.below)
    have HS := hide (rsame_any A2 A3 R c2 c3 w3 HR3.out (RdR.own hI3.own) (by omega))
    clear hI3
    go_wp2_with fail
    refine (HS.out).mono ?_
    rintro e w4 ⟨rfl, hb4⟩
    have HB4 := hide (HB3.out.trans (hb4.mono HB3.out.size))
    have HR4 := hide (HR3.out.step hb4)
    clear hb4 HS
    go_wp2_with fail
    refine (HRf.out _ HB4.out).mono ?_
    rintro e w5 ⟨A5, c5, rfl, hb5, hr5, _⟩
    have HB5 := hide (HB4.out.trans (hb5.mono HB4.out.size))
    have HR5 := hide (HR4.out.step hb5)
    have HFf := hide (from_any A5 F c5 w5 hr5 HFl.out)
    clear hb5 hr5
    go_wp2_with fail
    refine (HFf.out).mono ?_
    rintro e w6 ⟨v6, rfl, hI6⟩
    obtain ⟨A6, c6, rfl⟩ := ownsRow_slice hI6.own
    have HB6 := hide (HB5.out.trans (hI6.below.mono HB5.out.size))
    have HR6 := hide (HR5.out.step hI6.below)
    have HF6 := hide (RdR.own hI6.own)
    clear hI6
    go_wp2_with fail
    refine (HAw.out _ HB6.out).mono ?_
    rintro e w7 ⟨rfl, hb7⟩
    have HB7 := hide (HB6.out.trans (hb7.mono HB6.out.size))
    have HR7 := hide (HR6.out.step hb7)
    have HF7 := hide (HF6.out.step hb7)
    have hfi : (F.length : Int) ≤ R.length := by omega
    have hf0 : (0 : Int) ≤ F.length := by omega
    have hfc : (F.length : Int) ≤ c2 := by omega
    have HS := hide (rsame_any A6 A2 F c6 c2 w7 HF7.out (by have h := HR7.out.take F.length; rw [HTk.out] at h; exact h) HFl.out)
    clear hb7
    go_wp2_with fail
    refine (HS.out).mono ?_
    rintro e w8 ⟨rfl, hb8⟩
    have HB8 := hide (HB7.out.trans (hb8.mono HB7.out.size))
    clear hb8 HS
    go_wp2_with fail
    exact bodyPost_ret (results_tmp rfl _ _ _) rfl ⟨rfl, HB8.out⟩
end Go.Proofs.YtggdndmjfbiaiaaDoor
