/-
  Tokens that are put into one: joins, together, one.
-/
import Derived.Test.YtobgbheodlpclaaTkPut
import Derived.Test.YtobgbheodlpclaaAutoBufAny
import Derived.Deep.RegionHeld3
namespace Go.Proofs.Ytobgbheodlpclaa
open Go.RowKit
set_option maxRecDepth 100000

/-- Is a token put into those ahead of it? -/
def joinsB (a t : Tk) (n : Nat) : Bool := if a.many = 0 ∨ t.many = 0 then (a.many == t.many) && decide (n + t.data.size ≤ 16384) else (a.from_ + a.many == t.from_)

set_option maxHeartbeats 4000000 in
theorem joins_any (a t : Tk) (n : Nat) (w : World) (ha : rightT a = true) (hn : n ≤ 1000000) (hs : t.data.size ≤ 1000000) :
    Calls Try.prog 116 #[.agg a.cells, .agg t.cells, .int .i64 n] w fun e w' => e = .returned (.bool (joinsB a t n)) ∧ Below w.heap.size w w' := by
  have hra := right_cases ha
  obtain ⟨fa, ma, da⟩ := a
  obtain ⟨ft, mt, dt⟩ := t
  show Calls _ _ #[.agg #[.int .i64 fa, .int .i64 ma, .string da], .agg #[.int .i64 ft, .int .i64 mt, .string dt], _] _ _
  simp only at hra hs
  have hV : joinsB ⟨fa, ma, da⟩ ⟨ft, mt, dt⟩ n = if ma = 0 ∨ mt = 0 then (ma == mt) && decide (n + dt.size ≤ 16384) else (fa + ma == ft) := rfl
  generalize joinsB ⟨fa, ma, da⟩ ⟨ft, mt, dt⟩ n = V at hV ⊢
  have HB := hide (((Below.refl w.heap.size w).alloc (Nat.le_refl _) (.cells #[.int .i64 fa, .int .i64 ma, .string da] 71)).alloc (by simp) (.cells #[.int .i64 ft, .int .i64 mt, .string dt] 71))
  have hw : IntKind.i64.wrap ((n : Int) + dt.size) = ((n + dt.size : Nat) : Int) := by rw [IntWalk.i64_in _ (by omega)]; rfl
  have hw2 : IntKind.i64.wrap (fa + ma) = fa + ma := IntWalk.i64_in _ (by omega)
  go_enter Try.func116, Try.ntmps116
  clear hra ha
  by_cases h0 : ma = 0
  · have E0 : (ma == 0) = true := by rw [h0]; rfl
    rw [if_pos (.inl h0)] at hV
    cases hq : (ma == mt) with
    | false =>
      have HV := hide (show V = false by rw [hV, hq]; rfl)
      clear hV h0
      go_wp2_with fail
      exact bodyPost_ret (results_tmp rfl _ _ _) rfl ⟨by rw [HV.out]; rfl, HB.out⟩
    | true =>
      have HV := hide (show V = decide ((n : Int) + dt.size ≤ 16384) by
        rw [hV, hq, Bool.true_and]
        by_cases hz : n + dt.size ≤ 16384
        · rw [decide_eq_true hz, decide_eq_true (by omega)]
        · rw [decide_eq_false hz, decide_eq_false (by omega)])
      clear hV h0
      go_wp2_with fail
      exact bodyPost_ret (results_tmp rfl _ _ _) rfl ⟨by rw [HV.out]; rfl, HB.out⟩
  · have E0 : (ma == 0) = false := by simpa using h0
    by_cases h1 : mt = 0
    · have E1 : (mt == 0) = true := by rw [h1]; rfl
      rw [if_pos (.inr h1)] at hV
      have hq : (ma == mt) = false := by rw [h1]; exact E0
      have HV := hide (show V = false by rw [hV, hq]; rfl)
      clear hV h0 h1
      go_wp2_with fail
      exact bodyPost_ret (results_tmp rfl _ _ _) rfl ⟨by rw [HV.out]; rfl, HB.out⟩
    · have E1 : (mt == 0) = false := by simpa using h1
      rw [if_neg (by simp [h0, h1])] at hV
      have HV := hide hV
      clear hV h0 h1
      go_wp2_with fail
      exact bodyPost_ret (results_tmp rfl _ _ _) rfl ⟨by rw [HV.out]; rfl, HB.out⟩

/-- How many tokens, from the first one on, are put into one. -/
def togF (a : Tk) (b n : Nat) : List Tk → Nat
  | [] => n
  | t :: r => if joinsB a t (b + a.data.size) = true then togF t (b + a.data.size) (n + 1) r else n
def togL : List Tk → Nat
  | [] => 1
  | a :: r => togF a 0 1 r
theorem togF_le : ∀ (r : List Tk) (a : Tk) (b n : Nat), n ≤ togF a b n r ∧ togF a b n r ≤ n + r.length
  | [], a, b, n => by simp [togF]
  | t :: r, a, b, n => by
    unfold togF
    split
    · have := togF_le r t (b + a.data.size) (n + 1)
      simp only [List.length_cons]; omega
    · simp only [List.length_cons]; omega
theorem togL_le (a : Tk) (r : List Tk) : 1 ≤ togL (a :: r) ∧ togL (a :: r) ≤ (a :: r).length := by
  have := togF_le r a 0 1
  show 1 ≤ togF a 0 1 r ∧ togF a 0 1 r ≤ _
  simp only [List.length_cons]; omega
theorem togF_drop (l : List Tk) (i b : Nat) (a t : Tk) (h : l[i]? = some t) : togF a b i (l.drop i) = if joinsB a t (b + a.data.size) = true then togF t (b + a.data.size) (i + 1) (l.drop (i + 1)) else i := by
  obtain ⟨hlt, e⟩ := List.getElem?_eq_some_iff.1 h
  rw [List.drop_eq_getElem_cons hlt, e]; rfl

set_option maxHeartbeats 16000000 in
theorem together_any (A : Option Addr) (l : List Tk) (c : Nat) (w : World) (hA : RdT w w.heap.size A l) (h0 : l ≠ []) (hl : (l.length : Int) ≤ 1000) (hs : sizeL l ≤ 1000000) (hr : ∀ t ∈ l, rightT t = true) :
    Calls Try.prog 92 #[.slice A l.length c] w fun e w' => e = .returned (.int .i64 (togL l : Nat)) ∧ Below w.heap.size w w' := by
  obtain ⟨a0, ha0⟩ : ∃ a, l[0]? = some a := ⟨_, List.getElem?_eq_getElem (List.length_pos_iff.2 h0)⟩
  obtain ⟨V, hV⟩ : ∃ V, V = togL l := ⟨_, rfl⟩
  have HV := hide (show togF a0 0 1 (l.drop 1) = V by
    rw [hV]
    cases l with
    | nil => exact absurd rfl h0
    | cons x r => simp at ha0; subst ha0; rfl)
  have HS0 := hide (show 0 + sizeL (l.drop 0) ≤ 1000000 by simpa using hs)
  have hl1 : 1 ≤ l.length := List.length_pos_iff.2 h0
  rw [← hV]
  have HA := hide hA
  have HRi := hide hr
  clear hV hA hr hs h0
  go_enter Try.func92, Try.ntmps92
  go_wp2_with fail
  go_loopg [3, 4] l.length (fun gk bv iv wr => ∃ (k b : Nat) (a : Tk), bv = .int .i64 b ∧ iv = .int .i64 k ∧ k + gk = l.length + 1 ∧ 1 ≤ k ∧ k ≤ l.length ∧ Hid (l[k - 1]? = some a) ∧ Hid (b + sizeL (l.drop (k - 1)) ≤ 1000000) ∧ Hid (Below w.heap.size w wr) ∧ Hid (togF a b k (l.drop k) = V))
  case atStart => exact ⟨1, 0, a0, rfl, rfl, by omega, by omega, hl1, hide ha0, HS0, hide (Below.refl _ _), HV⟩
  case round =>
    obtain ⟨k, b, a, rfl, rfl, hig, hk1, hkl, HAI, HS, HB, HQ⟩ := hrel
    clear HV HS0
    by_cases hend : k = l.length
    · have HE := hide (show V = k by rw [← HQ.out, List.drop_of_length_le (by omega)]; rfl)
      have hnl : ¬ ((k : Int) < l.length) := by omega
      clear HQ hend
      go_wp2_with fail
      exact bodyPost_ret (results_tmp rfl _ _ _) rfl ⟨by rw [HE.out]; rfl, HB.out⟩
    · cases gk with
      | zero => omega
      | succ g0 =>
        have hii : (k : Int) < l.length := by omega
        obtain ⟨t, ht⟩ : ∃ t, l[k]? = some t := ⟨_, List.getElem?_eq_getElem (by omega)⟩
        obtain ⟨j, hj⟩ : ∃ j, j = k - 1 := ⟨_, rfl⟩
        have hjk : j + 1 = k := by omega
        have hai := HAI.out
        have hsz := HS.out
        rw [← hj] at hai hsz
        obtain ⟨ad, rfl, hlt, hnd⟩ := (HA.out.below HB.out (Nat.le_refl _)) j a hai
        obtain ⟨ad', e', _, hnt⟩ := (HA.out.below HB.out (Nat.le_refl _)) k t ht
        cases e'
        rw [sizeL_drop l j a hai, hjk, sizeL_drop l k t ht] at hsz
        have hd := HQ.out
        rw [togF_drop l k b a t ht] at hd
        have hiw : IntKind.i64.wrap ((k : Int) + 1) = ((k + 1 : Nat) : Int) := by rw [IntWalk.i64_in _ (by omega)]; rfl
        have hbw : IntKind.i64.wrap ((b : Int) + a.data.size) = (b : Int) + a.data.size := IntWalk.i64_in _ (by omega)
        have hi2 : IntKind.i64.wrap ((k : Int) - 1) = (k : Int) - 1 := IntWalk.i64_in _ (by omega)
        have hi3 : (0 : Int) ≤ (k : Int) - 1 := by omega
        have hi4 : (k : Int) - 1 < l.length := by omega
        have hi5 : ((k : Int) - 1).toNat = j := by omega
        have hi6 : (1 : Int) ≤ k := by omega
        have hi7 : 0 < k := by omega
        have hi8 : (k : Int) < l.length + 1 := by omega
        have HJ := hide (fun W => (show Calls Try.prog 116 #[.agg a.cells, .agg t.cells, .int .i64 ((b : Int) + a.data.size)] W fun e w' => e = .returned (.bool (joinsB a t (b + a.data.size))) ∧ Below W.heap.size W w' from joins_any a t (b + a.data.size) W (HRi.out a (List.mem_of_getElem? hai)) (by omega) (by omega)))
        have HS2 := hide (show (b + a.data.size) + sizeL (l.drop k) ≤ 1000000 by rw [sizeL_drop l k t ht]; omega)
        have HAI2 := hide (show l[k + 1 - 1]? = some t from ht)
        obtain ⟨c0, c1, c2⟩ := hnd
        obtain ⟨e0, e1, e2⟩ := hnt
        generalize joinsB a t (b + a.data.size) = J at HJ hd
        obtain ⟨fa, ma, da⟩ := a
        obtain ⟨ft, mt, dt⟩ := t
        simp only [Tk.cells] at c0 c1 c2 e0 e1 e2 HJ hbw hd HS2
        have HB3 := hide HB.out.drew
        have hlt : ad.block < wr.drew.heap.size := Nat.lt_of_lt_of_le hlt HB.out.size
        have HSk := hide (fun (W : World) (h : Below wr.drew.heap.size wr.drew W) => (⟨(h.cell (by rw [add_block]; exact hlt)).trans c0, (h.cell (p := ⟨_, _, none⟩) (by rw [add_block]; exact hlt)).trans c1, (h.cell (p := ⟨_, _, none⟩) (by rw [add_block]; exact hlt)).trans c2, (h.cell (by rw [add_block]; exact hlt)).trans e0, (h.cell (p := ⟨_, _, none⟩) (by rw [add_block]; exact hlt)).trans e1, (h.cell (p := ⟨_, _, none⟩) (by rw [add_block]; exact hlt)).trans e2⟩ : W.cell? (ad.add (j * 3)) = some (.int .i64 fa) ∧ W.cell? ⟨(ad.add (j * 3)).block, (ad.add (j * 3)).off + 1, none⟩ = some (.int .i64 ma) ∧ W.cell? ⟨(ad.add (j * 3)).block, (ad.add (j * 3)).off + 2, none⟩ = some (.string da) ∧ W.cell? (ad.add (k * 3)) = some (.int .i64 ft) ∧ W.cell? ⟨(ad.add (k * 3)).block, (ad.add (k * 3)).off + 1, none⟩ = some (.int .i64 mt) ∧ W.cell? ⟨(ad.add (k * 3)).block, (ad.add (k * 3)).off + 2, none⟩ = some (.string dt)))
        have HSd := hide (HSk.out _ (Below.refl _ _))
        clear hsz HQ HS hlt hai ht HAI hj hjk
        cases J with
        | true =>
          rw [if_pos rfl] at hd
          have HD := hide hd
          clear hd
          go_wp2_with fail
          go_region_held3 (fun w' => w'.cell? (ad.add (j * 3)) = some (.int .i64 fa) ∧ w'.cell? ⟨(ad.add (j * 3)).block, (ad.add (j * 3)).off + 1, none⟩ = some (.int .i64 ma) ∧ w'.cell? ⟨(ad.add (j * 3)).block, (ad.add (j * 3)).off + 2, none⟩ = some (.string da) ∧ w'.cell? (ad.add (k * 3)) = some (.int .i64 ft) ∧ w'.cell? ⟨(ad.add (k * 3)).block, (ad.add (k * 3)).off + 1, none⟩ = some (.int .i64 mt) ∧ w'.cell? ⟨(ad.add (k * 3)).block, (ad.add (k * 3)).off + 2, none⟩ = some (.string dt))
            (first | exact HSd.out | exact HSk.out _ hb3)
            (first
              | (go_at_call 116; with_reducible refine (HJ.out _).mono ?_; rintro e w3 ⟨rfl, hb3⟩))
          all_goals
            have HB4 := hide (HB3.out.trans (hb3.mono HB3.out.size))
            clear hb3
            go_wp2_with fail
            go_roundg g0
            case rel => exact ⟨k + 1, b + da.size, ⟨ft, mt, dt⟩, rfl, rfl, by omega, by omega, by omega, HAI2, HS2, HB4, HD⟩
            case measure => omega
        | false =>
          rw [if_neg (by decide)] at hd
          have HD := hide hd.symm
          clear hd
          go_wp2_with fail
          go_region_held3 (fun w' => w'.cell? (ad.add (j * 3)) = some (.int .i64 fa) ∧ w'.cell? ⟨(ad.add (j * 3)).block, (ad.add (j * 3)).off + 1, none⟩ = some (.int .i64 ma) ∧ w'.cell? ⟨(ad.add (j * 3)).block, (ad.add (j * 3)).off + 2, none⟩ = some (.string da) ∧ w'.cell? (ad.add (k * 3)) = some (.int .i64 ft) ∧ w'.cell? ⟨(ad.add (k * 3)).block, (ad.add (k * 3)).off + 1, none⟩ = some (.int .i64 mt) ∧ w'.cell? ⟨(ad.add (k * 3)).block, (ad.add (k * 3)).off + 2, none⟩ = some (.string dt))
            (first | exact HSd.out | exact HSk.out _ hb3)
            (first
              | (go_at_call 116; with_reducible refine (HJ.out _).mono ?_; rintro e w3 ⟨rfl, hb3⟩))
          all_goals
            have HB4 := hide (HB3.out.trans (hb3.mono HB3.out.size))
            clear hb3
            go_wp2_with fail
            exact bodyPost_ret (results_tmp rfl _ _ _) rfl ⟨by rw [HD.out]; rfl, HB4.out⟩
end Go.Proofs.Ytobgbheodlpclaa
