/-
  The reference's Move.
-/
import Derived.Test.YtbklgijndjpgoaaDoorMkWithin
import Derived.Test.YtbklgijndjpgoaaDoorMkNames
import Derived.Test.YtbklgijndjpgoaaDoorMkPathsB
namespace Go.Proofs.YtbklgijndjpgoaaDoor
open Go.RowKit
set_option maxRecDepth 100000

/-- What is moved, put in one after the other. -/
def putAll (p q : ByteArray) : List Nd → List Nd → Option (List Nd)
  | r, [] => some r
  | r, n :: t => if moveOk n.path p q = true then putAll p q (insL r ⟨movedV n.path p q, n.kind, n.mode, n.time, n.data⟩) t else none
theorem put_drop (p q : ByteArray) (r l : List Nd) (i : Nat) (n : Nd) (h : l[i]? = some n) : putAll p q r (l.drop i) = if moveOk n.path p q = true then putAll p q (insL r ⟨movedV n.path p q, n.kind, n.mode, n.time, n.data⟩) (l.drop (i + 1)) else none := by
  obtain ⟨hlt, e⟩ := List.getElem?_eq_some_iff.1 h
  rw [List.drop_eq_getElem_cons hlt, e]; rfl
/-- A move that is done, and what it leaves. -/
structure Moves (t : List Nd) (p q : ByteArray) (o : List Nd) : Prop where
  fp : p.toList.isEmpty = false
  fq : q.toList.isEmpty = false
  rp : rightL (toL p) = true
  rq : rightL (toL q) = true
  out : withinB (toL q) (toL p) = false
  some : ∃ (k : Nat) (n : Nd), atL p t = (k : Int) ∧ t[k]? = some n ∧ (atL q t = -1 ∨ ∃ (j : Nat) (m : Nd), atL q t = (j : Int) ∧ t[j]? = Option.some m ∧ n.kind ≠ 1 ∧ m.kind ≠ 1)
  dad : dadL t q = 0
  all : putAll p q (sideL q false (sideL p false t)) (sideL p true t) = Option.some o
theorem moved_size' (p a b : ByteArray) : (movedV p a b).size ≤ b.size + (p.size + 1) := by
  unfold movedV
  split
  · unfold movedB
    have h := restB_size p a
    split
    · have := restP_size (restB p a) ⟨#[47]⟩
      omega
    · rw [ByteArray.size_append]; omega
  · exact Nat.zero_le _
theorem side_mem {p : ByteArray} {b : Bool} {l : List Nd} {n : Nd} (h : n ∈ sideL p b l) : n ∈ l ∧ (withinB (toL n.path) (toL p) == b) = true := List.mem_filter.1 h
theorem side_len (p : ByteArray) (b : Bool) (l : List Nd) : (sideL p b l).length ≤ l.length := List.length_filter_le _ _
theorem side_few {p : ByteArray} {b : Bool} {l : List Nd} (h : FewN l) : FewN (sideL p b l) := fun k m hm => by
  obtain ⟨j, hj⟩ := List.getElem?_of_mem (side_mem (List.mem_of_getElem? hm)).1
  exact h j m hj

/-- What Move answers. -/
def MoveIs (w : World) (t : List Nd) (p q : ByteArray) (e : Ending) (w' : World) : Prop :=
  ∃ (v : Value) (code : Int), e = .returned (.tuple #[v, .int .i64 code]) ∧ Below w.heap.size w w' ∧ (code = 0 → ∃ o, Moves t p q o ∧ NI w v o w')

set_option maxHeartbeats 32000000 in
theorem refMove_any (A : Option Addr) (t : List Nd) (c : Nat) (p q : ByteArray) (w : World) (hA : RdN w w.heap.size A t) (hf : FewN t) (hs : ∀ n ∈ t, n.path.size ≤ 1000) (hl : (t.length : Int) ≤ 600) (hp : (p.size : Int) ≤ 1000) (hq : (q.size : Int) ≤ 1000) :
    Calls Tryd.prog 18 #[.slice A t.length c, .string p, .string q] w fun e w' => MoveIs w t p q e w' := by
  have hpe : ∀ p : ByteArray, p.toList.isEmpty = true → (p.toList == []) = true := fun p h => by rw [List.isEmpty_iff.1 h]; rfl
  have hpn : ∀ p : ByteArray, p.toList.isEmpty = false → (p.toList == []) = false := fun p h => by cases hc : p.toList with | nil => rw [hc] at h; cases h | cons a b => rfl
  have HR1 := hide (fun (W : World) => refRight_any p W (by omega))
  have HR2 := hide (fun (W : World) => refRight_any q W (by omega))
  have HWi := hide (fun (W : World) => refWithin_any q p W (by omega) (by omega))
  cases h1 : p.toList.isEmpty with
  | true =>
    have g1 := hpe _ h1
    clear hpe hpn
    go_enter Tryd.func18, Tryd.ntmps18
    go_wp2_with fail
    exact bodyPost_ret (results_tmp2 rfl _ _ _) rfl ⟨_, 2, rfl, Below.refl _ _, fun h => by omega⟩
  | false =>
  have g1 := hpn _ h1
  cases h2 : q.toList.isEmpty with
  | true =>
    have g2 := hpe _ h2
    clear hpe hpn
    go_enter Tryd.func18, Tryd.ntmps18
    go_wp2_with fail
    exact bodyPost_ret (results_tmp2 rfl _ _ _) rfl ⟨_, 2, rfl, Below.refl _ _, fun h => by omega⟩
  | false =>
  have g2 := hpn _ h2
  clear hpe hpn
  cases h3 : rightL (toL p) with
  | false =>
    rw [h3] at HR1
    go_enter Tryd.func18, Tryd.ntmps18
    go_wp2_with fail
    refine (HR1.out _).mono ?_
    rintro e w1 ⟨rfl, hb1⟩
    go_wp2_with fail
    exact bodyPost_ret (results_tmp2 rfl _ _ _) rfl ⟨_, 2, rfl, hb1, fun h => by omega⟩
  | true =>
  rw [h3] at HR1
  cases h4 : rightL (toL q) with
  | false =>
    rw [h4] at HR2
    go_enter Tryd.func18, Tryd.ntmps18
    go_wp2_with fail
    refine (HR1.out _).mono ?_
    rintro e w1 ⟨rfl, hb1⟩
    go_wp2_with fail
    refine (HR2.out _).mono ?_
    rintro e w2 ⟨rfl, hb2⟩
    have hB2 := hb1.trans (hb2.mono hb1.size)
    go_wp2_with fail
    exact bodyPost_ret (results_tmp2 rfl _ _ _) rfl ⟨_, 2, rfl, hB2, fun h => by omega⟩
  | true =>
  rw [h4] at HR2
  cases h5 : withinB (toL q) (toL p) with
  | true =>
    rw [h5] at HWi
    go_enter Tryd.func18, Tryd.ntmps18
    go_wp2_with fail
    refine (HR1.out _).mono ?_
    rintro e w1 ⟨rfl, hb1⟩
    go_wp2_with fail
    refine (HR2.out _).mono ?_
    rintro e w2 ⟨rfl, hb2⟩
    have hB2 := hb1.trans (hb2.mono hb1.size)
    go_wp2_with fail
    refine (HWi.out _).mono ?_
    rintro e w3 ⟨rfl, hb3⟩
    have hB3 := hB2.trans (hb3.mono hB2.size)
    go_wp2_with fail
    exact bodyPost_ret (results_tmp2 rfl _ _ _) rfl ⟨_, 2, rfl, hB3, fun h => by omega⟩
  | false =>
  rw [h5] at HWi
  have HMk := hide (fun (o : List Nd) hx hy hz => (⟨h1, h2, h3, h4, h5, hx, hy, hz⟩ : Moves t p q o))
  have HAt1 := hide (fun (W : World) (h : Below w.heap.size w W) => refAt_any A t c p W (hA.step h) (by omega))
  have HAt2 := hide (fun (W : World) (h : Below w.heap.size w W) => refAt_any A t c q W (hA.step h) (by omega))
  have HDd := hide (fun (W : World) (h : Below w.heap.size w W) => refDad_any A t c q W (hA.step h) (by omega) (by omega))
  have hT1 := at_cases p t
  have hT2 := at_cases q t
  have HA := hide hA
  have HF := hide hf
  have HSz := hide hs
  generalize atL p t = i at HAt1 hT1 HMk
  generalize atL q t = k at HAt2 hT2 HMk
  generalize dadL t q = dd at HDd HMk
  clear hA hf hs h1 h2 h3 h4 h5
  go_enter Tryd.func18, Tryd.ntmps18
  go_wp2_with fail
  refine (HR1.out _).mono ?_
  rintro e w1 ⟨rfl, hb1⟩
  go_wp2_with fail
  refine (HR2.out _).mono ?_
  rintro e w2 ⟨rfl, hb2⟩
  have hB2 := hb1.trans (hb2.mono hb1.size)
  clear hb1 hb2
  go_wp2_with fail
  refine (HWi.out _).mono ?_
  rintro e w3 ⟨rfl, hb3⟩
  have hB3 := hB2.trans (hb3.mono hB2.size)
  have HX := hide (HAt1.out w3 hB3)
  clear hB2 hb3 HR1 HR2 HWi HAt1
  go_wp2_with fail
  refine HX.out.mono ?_
  rintro e w4 ⟨rfl, hb4⟩
  have hB4 := hB3.trans (hb4.mono hB3.size)
  have HY := hide (HAt2.out w4 hB4)
  clear hB3 hb4 HX HAt2
  go_wp2_with fail
  refine HY.out.mono ?_
  rintro e w5 ⟨rfl, hb5⟩
  have hB5 := hB4.trans (hb5.mono hB4.size)
  clear hB4 hb5 HY
  rcases hT1 with rfl | ⟨i0, n, rfl, hn, _⟩
  · clear hT2
    go_wp2_with fail
    exact bodyPost_ret (results_tmp2 rfl _ _ _) rfl ⟨_, 6, rfl, hB5, fun h => by omega⟩
  have hi0 : ¬ ((i0 : Int) < 0) := by omega
  have HD5 := hide (HDd.out w5 hB5)
  go_wp2_with fail
  refine HD5.out.mono ?_
  rintro e w6 ⟨rfl, hb6⟩
  have hB6 := hB5.trans (hb6.mono hB5.size)
  clear hB5 hb6 HD5
  by_cases hdd : dd = 0
  case neg =>
    have hd0 : ¬ ((dd : Int) = 0) := by omega
    have HD6 := hide (HDd.out w6 hB6)
    go_wp2_with fail
    refine HD6.out.mono ?_
    rintro e w7 ⟨rfl, hb7⟩
    have hB7 := hB6.trans (hb7.mono hB6.size)
    go_wp2_with fail
    exact bodyPost_ret (results_tmp2 rfl _ _ _) rfl ⟨_, dd, rfl, hB7, fun h => by omega⟩
  subst hdd
  clear HDd
  have HDone := hide (fun (r : List Nd) (hc : k = -1 ∨ ∃ (j : Nat) (m : Nd), k = (j : Int) ∧ t[j]? = Option.some m ∧ n.kind ≠ 1 ∧ m.kind ≠ 1) hz => HMk.out r ⟨i0, n, rfl, hn, hc⟩ rfl hz)
  obtain ⟨ax, rfl, hlt1, hnd⟩ := (HA.out.below hB6 (Nat.le_refl _)) i0 n hn
  have hi1 : (i0 : Int) < t.length := by have := (List.getElem?_eq_some_iff.1 hn).1; omega
  have hi2 : (0 : Int) ≤ (i0 : Int) := by omega
  have c1 := hnd.kind
  have HS1 := hide (refSide_any (some ax) t c p false w6 (HA.out.step hB6) HF.out (by omega) (by omega))
  have HS3 := hide (fun (W : World) (h : Below w.heap.size w W) => refSide_any (some ax) t c p true W (HA.out.step h) HF.out (by omega) (by omega))
  have HF1 := hide (side_few (p := p) (b := false) HF.out)
  have HF2 := hide (side_few (p := q) (b := false) HF1.out)
  have HF3 := hide (side_few (p := p) (b := true) HF.out)
  have hl1 := side_len p false t
  have hl2 := side_len q false (sideL p false t)
  have hl3 := side_len p true t
  have HSz3 := hide (fun n (h : n ∈ sideL p true t) => HSz.out n (side_mem h).1)
  clear hnd hlt1 HF HSz HMk
  have hT : (k = -1 ∧ Hid (∀ o, putAll p q (sideL q false (sideL p false t)) (sideL p true t) = Option.some o → Moves t p q o)) ∨ (∃ (j : Nat) (m : Nd), k = (j : Int) ∧ t[j]? = Option.some m ∧ n.kind = 1) ∨ (∃ (j : Nat) (m : Nd), k = (j : Int) ∧ t[j]? = Option.some m ∧ n.kind ≠ 1 ∧ m.kind = 1) ∨
      (∃ (j : Nat) (m : Nd), k = (j : Int) ∧ t[j]? = Option.some m ∧ n.kind ≠ 1 ∧ m.kind ≠ 1 ∧ Hid (∀ o, putAll p q (sideL q false (sideL p false t)) (sideL p true t) = Option.some o → Moves t p q o)) := by
    rcases hT2 with h | ⟨j, m, h, hm, _⟩
    · exact .inl ⟨h, hide fun o ho => HDone.out o (.inl h) ho⟩
    · by_cases hx : n.kind = 1
      · exact .inr (.inl ⟨j, m, h, hm, hx⟩)
      · by_cases hy : m.kind = 1
        · exact .inr (.inr (.inl ⟨j, m, h, hm, hx, hy⟩))
        · exact .inr (.inr (.inr ⟨j, m, h, hm, hx, hy, hide fun o ho => HDone.out o (.inr ⟨j, m, h, hm, hx, hy⟩) ho⟩))
  clear HDone hT2
  have HM := hide (fun (j : Nat) (m : Nd) (hm : t[j]? = Option.some m) => (⟨(HA.out.below hB6 (Nat.le_refl _)) j m hm, (List.getElem?_eq_some_iff.1 hm).1⟩ : (∃ ad : Addr, Option.some ax = Option.some ad ∧ ad.block < w.heap.size ∧ NdAt w6 (ad.add (j * 5)) m) ∧ j < t.length))
  obtain ⟨kn, hkn⟩ : ∃ kn, n.kind = kn := ⟨_, rfl⟩
  rw [hkn] at c1 hT
  clear hkn hn
  rcases hT with ⟨rfl, HGo⟩ | ⟨j, m, rfl, hm, rfl⟩ | ⟨j, m, rfl, hm, hx, hy⟩ | ⟨j, m, rfl, hm, hx, hy, HGo⟩
  case inr.inl =>
    have hj0 : (0 : Int) ≤ (j : Int) := by omega
    have hj1 : (j : Int) < t.length := by have := (HM.out j m hm).2; omega
    go_wp2_with fail
    exact bodyPost_ret (results_tmp2 rfl _ _ _) rfl ⟨_, 7, rfl, hB6, fun h => by omega⟩
  case inr.inr.inl =>
    have hj0 : (0 : Int) ≤ (j : Int) := by omega
    have hj1 : (j : Int) < t.length := by have := (HM.out j m hm).2; omega
    obtain ⟨⟨ay, e, _, hmd⟩, _⟩ := HM.out j m hm
    injection e with e
    subst e
    have d1 := hmd.kind
    rw [hy] at d1
    clear hmd
    go_wp2_with fail
    exact bodyPost_ret (results_tmp2 rfl _ _ _) rfl ⟨_, 7, rfl, hB6, fun h => by omega⟩
  case inr.inr.inr =>
    have hj0 : (0 : Int) ≤ (j : Int) := by omega
    have hj1 : (j : Int) < t.length := by have := (HM.out j m hm).2; omega
    obtain ⟨⟨ay, e, _, hmd⟩, _⟩ := HM.out j m hm
    injection e with e
    subst e
    have d1 := hmd.kind
    have hxb : (kn == 1) = false := by simpa using hx
    have hyb : (m.kind == 1) = false := by simpa using hy
    generalize m.kind = km at d1 hyb hy
    clear hmd HM
    go_wp2_with fail
    clear d1 hxb hyb hj0 hj1 hx hy hm
    clear c1 hi1 hi2 hi0
    refine HS1.out.mono ?_
    rintro e w7 ⟨v, rfl, hN1⟩
    obtain ⟨E, f, rfl⟩ := ownsRow_slice hN1.own
    have hB7 := hB6.trans (hN1.below.mono hB6.size)
    have HS2 := hide (refSide_any E (sideL p false t) f q false w7 (RdN.own hN1.own) HF1.out (by omega) (by omega))
    clear HS1 hN1 hB6
    go_wp2_with fail
    refine HS2.out.mono ?_
    rintro e w8 ⟨v, rfl, hN2⟩
    obtain ⟨G, g, rfl⟩ := ownsRow_slice hN2.own
    have hB8 := hB7.trans (hN2.below.mono hB7.size)
    have hO2 := ownsRow_lowerN hN2.own hB7.size
    have HS4 := hide (HS3.out w8 hB8)
    clear HS2 HS3 hN2 hB7
    go_wp2_with fail
    refine HS4.out.mono ?_
    rintro e w9 ⟨v, rfl, hN3⟩
    obtain ⟨L, y, rfl⟩ := ownsRow_slice hN3.own
    have HN2 := hide (NI.step (w := w) ⟨hB8, hO2⟩ hN3.below)
    have hB9 := hB8.trans (hN3.below.mono hB8.size)
    have HSub := hide (RdN.own hN3.own)
    have HB9 := hide hB9
    clear HS4 hN3 hB8 hO2 hB9
    generalize sideL q false (sideL p false t) = rest at HGo HF2 HN2 hl2
    generalize sideL p true t = sub at HGo HF3 HSub HSz3 hl3
    obtain ⟨V, hV⟩ : ∃ V, V = putAll p q rest sub := ⟨_, rfl⟩
    have HQ0 := hide (show putAll p q rest (sub.drop 0) = V by rw [hV]; rfl)
    rw [← hV] at HGo
    clear hV HF1
    go_wp2_with fail
    go_loopg [10, 12] sub.length (fun gk ov iv wr => ∃ (j : Nat) (B : Option Addr) (d : Nat) (r : List Nd), ov = .slice B r.length d ∧ iv = .int .i64 j ∧ j + gk = sub.length ∧ r.length ≤ 600 + j ∧ Hid (NI w (.slice B r.length d) r wr) ∧ Hid (Below w9.heap.size w9 wr) ∧ Hid (putAll p q r (sub.drop j) = V) ∧ Hid (FewN r))
    case atStart => exact ⟨0, G, g, rest, rfl, rfl, by omega, by omega, HN2, hide (Below.refl _ _), HQ0, HF2⟩
    case round =>
      obtain ⟨j, B, d, r, rfl, rfl, hjg, hrj, HO, HBl, HQ, HFr⟩ := hrel
      clear HQ0 HN2
      cases gk with
      | zero =>
        have hE : V = Option.some r := by rw [← HQ.out, List.drop_of_length_le (by omega)]; rfl
        obtain rfl : j = sub.length := by omega
        have hm := HGo.out r hE
        clear hE HQ HBl
        go_wp2_with fail
        exact bodyPost_ret (results_tmp2 rfl _ _ _) rfl ⟨_, 0, rfl, HO.out.below, fun _ => ⟨r, hm, HO.out⟩⟩
      | succ g1 =>
        have hji : (j : Int) < sub.length := by omega
        have hj0 : (0 : Int) ≤ (j : Int) := by omega
        obtain ⟨n, hn⟩ : ∃ n, sub[j]? = some n := ⟨_, List.getElem?_eq_getElem (by omega)⟩
        obtain ⟨ad, rfl, hlt, hnd⟩ := (HSub.out.below HBl.out (Nat.le_refl _)) j n hn
        have hltx : ad.block < wr.heap.size := Nat.lt_of_lt_of_le hlt HBl.out.size
        have HND := hide (fun W (hb : Below wr.heap.size wr W) => hnd.below hb (by rw [add_block]; exact hltx))
        have hsz := HSz3.out n (List.mem_of_getElem? hn)
        have hfew := HF3.out j n hn
        have hd := HQ.out
        rw [put_drop p q r sub j n hn] at hd
        have hjw : IntKind.i64.wrap ((j : Int) + 1) = ((j + 1 : Nat) : Int) := by rw [IntWalk.i64_in _ (by omega)]; rfl
        have HReb := hide (fun W => refRebase_any n.path p q W hfew.1 (by omega) (by omega))
        have hms := moved_size' n.path p q
        generalize moveOk n.path p q = mo at HReb hd
        generalize movedV n.path p q = mv at HReb hd hms
        obtain ⟨c0, c1, c2, c3, c4⟩ := hnd
        obtain ⟨path, kind, mode, time, data⟩ := n
        simp only at c0 c1 c2 c3 c4 HReb hd hsz hfew
        clear HQ hn hlt
        cases mo with
        | false =>
          clear hd
          go_wp2_with (go_at_call 37; refine (HReb.out _).mono ?_; rintro e w3 ⟨rfl, hb3⟩)
          have HO3 := HO.out.step hb3
          exact bodyPost_ret (results_tmp2 rfl _ _ _) rfl ⟨_, 5, rfl, HO3.below, fun h => by omega⟩
        | true =>
          rw [if_pos rfl] at hd
          have HD := hide hd
          clear hd
          go_upto_if 101 with (go_at_call 37; refine (HReb.out _).mono ?_; rintro e w3 ⟨rfl, hb3⟩; obtain ⟨k0, k1, k2, k3, k4⟩ := HND.out w3 hb3)
          have hN3 := HO.out.step hb3
          have hN4 := hN3.step ((Below.refl _ w3).alloc (Nat.le_refl _) (.cells (Nd.cells ⟨mv, kind, mode, time, data⟩) 34))
          have hbw4 := (Below.refl wr.heap.size wr).trans (hb3.trans (((Below.refl _ w3).alloc (Nat.le_refl _) (.cells (Nd.cells ⟨mv, kind, mode, time, data⟩) 34)).mono hb3.size))
          have hcap := ownsRow_cap HO.out.own
          have HIn := hide (refInsert_any B r d ⟨mv, kind, mode, time, data⟩ _ (RdN.own hN4.own) HFr.out (by omega) hcap (show (mv.size : Int) ≤ 1000000 by omega))
          have hsz4 := hN4.below.size
          have HF5 := hide (HFr.out.ins (n := ⟨mv, kind, mode, time, data⟩) ⟨show (mv.size : Int) ≤ 1000000 by omega, hfew.2⟩)
          have HB4 := hide hN4.below
          have HBl4 := hide (HBl.out.trans (hbw4.mono HBl.out.size))
          have hl5 : (insL r ⟨mv, kind, mode, time, data⟩).length ≤ 600 + (j + 1) := by rw [ins_len]; omega
          clear hN3 hN4 hbw4 hcap HO HBl hb3 c0 c1 c2 c3 c4 k0 k1 k2 k3 k4
          refine HIn.out.mono ?_
          rintro e w5 ⟨⟨v5, rfl, hO5⟩, hb5⟩
          have hB5 := HB4.out.trans (hb5.mono HB4.out.size)
          have HBl5 := hide (HBl4.out.trans (hb5.mono HBl4.out.size))
          have h5 := ownsRow_lowerN hO5 hsz4
          obtain ⟨D, y5, rfl⟩ := ownsRow_slice h5
          have HI5 := hide (show NI w (.slice D (insL r ⟨mv, kind, mode, time, data⟩).length y5) (insL r ⟨mv, kind, mode, time, data⟩) w5 from ⟨hB5, h5⟩)
          clear HIn hO5 hb5 hB5 h5 HBl4 HB4
          go_wp2_with fail
          go_roundg g1
          case rel => exact ⟨j + 1, D, y5, insL r ⟨mv, kind, mode, time, data⟩, rfl, rfl, by omega, hl5, HI5, HBl5, HD, HF5⟩
          case measure => omega
  case inl =>
    clear HM
    go_wp2_with fail
    clear c1 hi1 hi2 hi0
    refine HS1.out.mono ?_
    rintro e w7 ⟨v, rfl, hN1⟩
    obtain ⟨E, f, rfl⟩ := ownsRow_slice hN1.own
    have hB7 := hB6.trans (hN1.below.mono hB6.size)
    have HS2 := hide (refSide_any E (sideL p false t) f q false w7 (RdN.own hN1.own) HF1.out (by omega) (by omega))
    clear HS1 hN1 hB6
    go_wp2_with fail
    refine HS2.out.mono ?_
    rintro e w8 ⟨v, rfl, hN2⟩
    obtain ⟨G, g, rfl⟩ := ownsRow_slice hN2.own
    have hB8 := hB7.trans (hN2.below.mono hB7.size)
    have hO2 := ownsRow_lowerN hN2.own hB7.size
    have HS4 := hide (HS3.out w8 hB8)
    clear HS2 HS3 hN2 hB7
    go_wp2_with fail
    refine HS4.out.mono ?_
    rintro e w9 ⟨v, rfl, hN3⟩
    obtain ⟨L, y, rfl⟩ := ownsRow_slice hN3.own
    have HN2 := hide (NI.step (w := w) ⟨hB8, hO2⟩ hN3.below)
    have hB9 := hB8.trans (hN3.below.mono hB8.size)
    have HSub := hide (RdN.own hN3.own)
    have HB9 := hide hB9
    clear HS4 hN3 hB8 hO2 hB9
    generalize sideL q false (sideL p false t) = rest at HGo HF2 HN2 hl2
    generalize sideL p true t = sub at HGo HF3 HSub HSz3 hl3
    obtain ⟨V, hV⟩ : ∃ V, V = putAll p q rest sub := ⟨_, rfl⟩
    have HQ0 := hide (show putAll p q rest (sub.drop 0) = V by rw [hV]; rfl)
    rw [← hV] at HGo
    clear hV HF1
    go_wp2_with fail
    go_loopg [10, 12] sub.length (fun gk ov iv wr => ∃ (j : Nat) (B : Option Addr) (d : Nat) (r : List Nd), ov = .slice B r.length d ∧ iv = .int .i64 j ∧ j + gk = sub.length ∧ r.length ≤ 600 + j ∧ Hid (NI w (.slice B r.length d) r wr) ∧ Hid (Below w9.heap.size w9 wr) ∧ Hid (putAll p q r (sub.drop j) = V) ∧ Hid (FewN r))
    case atStart => exact ⟨0, G, g, rest, rfl, rfl, by omega, by omega, HN2, hide (Below.refl _ _), HQ0, HF2⟩
    case round =>
      obtain ⟨j, B, d, r, rfl, rfl, hjg, hrj, HO, HBl, HQ, HFr⟩ := hrel
      clear HQ0 HN2
      cases gk with
      | zero =>
        have hE : V = Option.some r := by rw [← HQ.out, List.drop_of_length_le (by omega)]; rfl
        obtain rfl : j = sub.length := by omega
        have hm := HGo.out r hE
        clear hE HQ HBl
        go_wp2_with fail
        exact bodyPost_ret (results_tmp2 rfl _ _ _) rfl ⟨_, 0, rfl, HO.out.below, fun _ => ⟨r, hm, HO.out⟩⟩
      | succ g1 =>
        have hji : (j : Int) < sub.length := by omega
        have hj0 : (0 : Int) ≤ (j : Int) := by omega
        obtain ⟨n, hn⟩ : ∃ n, sub[j]? = some n := ⟨_, List.getElem?_eq_getElem (by omega)⟩
        obtain ⟨ad, rfl, hlt, hnd⟩ := (HSub.out.below HBl.out (Nat.le_refl _)) j n hn
        have hltx : ad.block < wr.heap.size := Nat.lt_of_lt_of_le hlt HBl.out.size
        have HND := hide (fun W (hb : Below wr.heap.size wr W) => hnd.below hb (by rw [add_block]; exact hltx))
        have hsz := HSz3.out n (List.mem_of_getElem? hn)
        have hfew := HF3.out j n hn
        have hd := HQ.out
        rw [put_drop p q r sub j n hn] at hd
        have hjw : IntKind.i64.wrap ((j : Int) + 1) = ((j + 1 : Nat) : Int) := by rw [IntWalk.i64_in _ (by omega)]; rfl
        have HReb := hide (fun W => refRebase_any n.path p q W hfew.1 (by omega) (by omega))
        have hms := moved_size' n.path p q
        generalize moveOk n.path p q = mo at HReb hd
        generalize movedV n.path p q = mv at HReb hd hms
        obtain ⟨c0, c1, c2, c3, c4⟩ := hnd
        obtain ⟨path, kind, mode, time, data⟩ := n
        simp only at c0 c1 c2 c3 c4 HReb hd hsz hfew
        clear HQ hn hlt
        cases mo with
        | false =>
          clear hd
          go_wp2_with (go_at_call 37; refine (HReb.out _).mono ?_; rintro e w3 ⟨rfl, hb3⟩)
          have HO3 := HO.out.step hb3
          exact bodyPost_ret (results_tmp2 rfl _ _ _) rfl ⟨_, 5, rfl, HO3.below, fun h => by omega⟩
        | true =>
          rw [if_pos rfl] at hd
          have HD := hide hd
          clear hd
          go_upto_if 101 with (go_at_call 37; refine (HReb.out _).mono ?_; rintro e w3 ⟨rfl, hb3⟩; obtain ⟨k0, k1, k2, k3, k4⟩ := HND.out w3 hb3)
          have hN3 := HO.out.step hb3
          have hN4 := hN3.step ((Below.refl _ w3).alloc (Nat.le_refl _) (.cells (Nd.cells ⟨mv, kind, mode, time, data⟩) 34))
          have hbw4 := (Below.refl wr.heap.size wr).trans (hb3.trans (((Below.refl _ w3).alloc (Nat.le_refl _) (.cells (Nd.cells ⟨mv, kind, mode, time, data⟩) 34)).mono hb3.size))
          have hcap := ownsRow_cap HO.out.own
          have HIn := hide (refInsert_any B r d ⟨mv, kind, mode, time, data⟩ _ (RdN.own hN4.own) HFr.out (by omega) hcap (show (mv.size : Int) ≤ 1000000 by omega))
          have hsz4 := hN4.below.size
          have HF5 := hide (HFr.out.ins (n := ⟨mv, kind, mode, time, data⟩) ⟨show (mv.size : Int) ≤ 1000000 by omega, hfew.2⟩)
          have HB4 := hide hN4.below
          have HBl4 := hide (HBl.out.trans (hbw4.mono HBl.out.size))
          have hl5 : (insL r ⟨mv, kind, mode, time, data⟩).length ≤ 600 + (j + 1) := by rw [ins_len]; omega
          clear hN3 hN4 hbw4 hcap HO HBl hb3 c0 c1 c2 c3 c4 k0 k1 k2 k3 k4
          refine HIn.out.mono ?_
          rintro e w5 ⟨⟨v5, rfl, hO5⟩, hb5⟩
          have hB5 := HB4.out.trans (hb5.mono HB4.out.size)
          have HBl5 := hide (HBl4.out.trans (hb5.mono HBl4.out.size))
          have h5 := ownsRow_lowerN hO5 hsz4
          obtain ⟨D, y5, rfl⟩ := ownsRow_slice h5
          have HI5 := hide (show NI w (.slice D (insL r ⟨mv, kind, mode, time, data⟩).length y5) (insL r ⟨mv, kind, mode, time, data⟩) w5 from ⟨hB5, h5⟩)
          clear HIn hO5 hb5 hB5 h5 HBl4 HB4
          go_wp2_with fail
          go_roundg g1
          case rel => exact ⟨j + 1, D, y5, insL r ⟨mv, kind, mode, time, data⟩, rfl, rfl, by omega, hl5, HI5, HBl5, HD, HF5⟩
          case measure => omega
end Go.Proofs.YtbklgijndjpgoaaDoor
