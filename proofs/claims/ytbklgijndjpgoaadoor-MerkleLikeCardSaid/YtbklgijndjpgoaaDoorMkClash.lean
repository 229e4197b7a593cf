/-
  The reference's Clash finds two unlike texts of one sum, if there are any.
-/
import Derived.Test.YtbklgijndjpgoaaDoorMkAlike
import Derived.Test.YtbklgijndjpgoaaDoorRefRebase
namespace Go.Proofs.YtbklgijndjpgoaaDoor
open Go.RowKit
set_option maxRecDepth 100000

/-- The texts that are summed for two trees' prints. -/
def textsL (a b : List Nd) : List (List UInt8) := [dirT a ⟨#[]⟩, dirT b ⟨#[]⟩] ++ a.map (ndT a) ++ b.map (ndT b)
def cellsT (l : List (List UInt8)) : List Value := l.map fun x => .string (ofL x)
theorem cellsT_snoc (l : List (List UInt8)) (x : List UInt8) : cellsT (l ++ [x]) = cellsT l ++ [.string (ofL x)] := by simp [cellsT]
def RdT (W : World) (B : Nat) (A : Option Addr) (l : List (List UInt8)) : Prop :=
  ∀ k x, l[k]? = some x → ∃ ad : Addr, A = some ad ∧ ad.block < B ∧ W.cell? (ad.add k) = some (.string (ofL x))
theorem RdT.own {w : World} {B n c : Nat} {A : Option Addr} {l : List (List UInt8)} (h : w.ownsRow B 9 1 (.slice A n c) n (cellsT l)) : RdT w w.heap.size A l := fun k x hk => by
  have q : (cellsT l)[k]? = some (.string (ofL x)) := by unfold cellsT; rw [List.getElem?_map, hk]; rfl
  rcases h.2 with ⟨hv, h0⟩ | ⟨g, cap, cur, hv, _, hg, _⟩
  · have h1 := h.1
    rw [h0] at h1
    have : cellsT l = [] := List.length_eq_zero_iff.1 (by omega)
    rw [this] at q; simp at q
  · injection hv with hA
    subst hA
    refine ⟨_, rfl, (Array.getElem?_eq_some_iff.1 hg).1, ?_⟩
    rw [addN_off]
    have h1 := h.cells (g := g) rfl _ _ q
    rwa [addN_off] at h1

/-- No clash with a text ahead, as far as one has looked. -/
def Quiet (L : List (List UInt8)) (i : Nat) : Prop := ∀ m, m < i → ∀ k, k < m → ∀ x y, L[m]? = some x → L[k]? = some y → ¬ (x ≠ y ∧ sumL x = sumL y)
def QuietAt (L : List (List UInt8)) (i j : Nat) : Prop := ∀ k, k < j → ∀ x y, L[i]? = some x → L[k]? = some y → ¬ (x ≠ y ∧ sumL x = sumL y)
theorem Quiet.none {L : List (List UInt8)} (h : Quiet L L.length) {x y : List UInt8} (hx : x ∈ L) (hy : y ∈ L) (hne : x ≠ y) : sumL x ≠ sumL y := by
  obtain ⟨i, hi⟩ := List.getElem?_of_mem hx
  obtain ⟨k, hk⟩ := List.getElem?_of_mem hy
  have li := (List.getElem?_eq_some_iff.1 hi).1
  have lk := (List.getElem?_eq_some_iff.1 hk).1
  intro e
  rcases Nat.lt_trichotomy i k with hlt | he | hlt
  · exact h k lk i hlt y x hk hi ⟨fun e => hne e.symm, e.symm⟩
  · subst he; rw [hi] at hk; injection hk with hk; exact hne hk
  · exact h i li k hlt x y hi hk ⟨hne, e⟩

theorem rt_root (t : List Nd) : rtL t ⟨#[]⟩ = dirT t ⟨#[]⟩ := by
  have he : (⟨#[]⟩ : ByteArray).toList.isEmpty = true := by rw [toL_list]; rfl
  rcases rt_cases t ⟨#[]⟩ with ⟨_, e⟩ | ⟨h, _⟩ | ⟨_, _, h, _⟩ | ⟨_, _, h, _⟩
  · exact e
  all_goals (rw [he] at h; cases h)

set_option maxHeartbeats 64000000 in
theorem clash_any (A D : Option Addr) (a b : List Nd) (c d : Nat) (w : World) (hA : RdN w w.heap.size A a) (hD : RdN w w.heap.size D b) (ha : MT a) (hb : MT b)
    (hcl : ∃ x y, x ∈ textsL a b ∧ y ∈ textsL a b ∧ x ≠ y ∧ sumL x = sumL y) (hs : ∀ x ∈ textsL a b, x.length ≤ 1000000) :
    Calls Tryd.prog 17 #[.slice A a.length c, .slice D b.length d] w fun e w' => e = .returned (.bool true) ∧ Below w.heap.size w w' := by
  obtain ⟨i0, hi, hz0, hz1, hz2⟩ := info_parts info_string
  have hla := ha.len
  have hlb := hb.len
  have HTa := hide (fun (p : ByteArray) (W : World) (h : Below w.heap.size w W) => refTx_all A a c ha 600 p (by omega) W (hA.step h))
  have HTb := hide (fun (p : ByteArray) (W : World) (h : Below w.heap.size w W) => refTx_all D b d hb 600 p (by omega) W (hD.step h))
  have HA := hide hA
  have HD := hide hD
  have HMa := hide ha
  have HMb := hide hb
  have HCl := hide hcl
  have HSz := hide hs
  obtain ⟨da, hda⟩ : ∃ da, da = dirT a ⟨#[]⟩ := ⟨_, rfl⟩
  obtain ⟨db, hdb⟩ : ∃ db, db = dirT b ⟨#[]⟩ := ⟨_, rfl⟩
  have HT1 := hide (show Calls Tryd.prog 25 #[.slice A a.length c, .string ⟨#[]⟩] w (TextIs w da) from by have h := HTa.out ⟨#[]⟩ w (Below.refl _ _); rw [rt_root, ← hda] at h; exact h)
  have HT2 := hide (fun (W : World) (h : Below w.heap.size w W) => (show Calls Tryd.prog 25 #[.slice D b.length d, .string ⟨#[]⟩] W (TextIs W db) from by have h := HTb.out ⟨#[]⟩ W h; rw [rt_root, ← hdb] at h; exact h))
  have HTs := hide (show textsL a b = [da, db] ++ a.map (ndT a) ++ b.map (ndT b) by rw [hda, hdb]; rfl)
  clear hda hdb
  clear hA hD ha hb hcl hs
  go_enter Tryd.func17, Tryd.ntmps17
  go_wp2_with fail
  refine HT1.out.mono ?_
  rintro e w1 ⟨rfl, hb1⟩
  have HT3 := hide (HT2.out w1 hb1)
  clear HT1 HT2
  go_wp2_with fail
  refine HT3.out.mono ?_
  rintro e w2 ⟨rfl, hb2⟩
  have hb2w := hb1.trans (hb2.mono hb1.size)
  have hO : (w2.alloc (.cells #[.string (ofL (da)), .string (ofL (db))] 9)).ownsRow w.heap.size 9 1 (.slice (some ⟨w2.heap.size, 0, none⟩) 2 2) 2 (cellsT [da, db]) :=
    World.ownsRow_lit w2 #[.string (ofL (da)), .string (ofL (db))] 2 hb2w.size (by decide) rfl
  have HO := hide hO
  have HB3 := hide (hb2w.alloc hb2w.size (.cells #[.string (ofL (da)), .string (ofL (db))] 9))
  clear HT3 hO hb1 hb2 hb2w
  go_wp2_with fail
  go_loopg [5, 6] a.length (fun gk ov iv wr => ∃ (j : Nat) (E : Option Addr) (f : Nat), ov = .slice E (j + 2) f ∧ iv = .int .i64 j ∧ j + gk = a.length ∧ Hid (Below w.heap.size w wr) ∧ Hid (wr.ownsRow w.heap.size 9 1 (.slice E (j + 2) f) (j + 2) (cellsT ([da, db] ++ (a.map (ndT a)).take j))))
  case atStart => exact ⟨0, _, _, rfl, rfl, by omega, HB3, HO⟩
  case round =>
    obtain ⟨j, E, f, rfl, rfl, hjg, HB, HOw⟩ := hrel
    clear HO HB3
    cases gk with
    | zero =>
      obtain rfl : j = a.length := by omega
      have hO1 := HOw.out
      rw [List.take_of_length_le (by rw [List.length_map]; omega), show a.length + 2 = 0 + (a.length + 2) by omega] at hO1
      rw [show a.length + 2 = 0 + (a.length + 2) by omega]
      have HO := hide (show wr.ownsRow w.heap.size 9 1 (.slice E (0 + (a.length + 2)) f) (0 + (a.length + 2)) (cellsT ([da, db] ++ a.map (ndT a) ++ (b.map (ndT b)).take 0)) by rw [List.take_zero, List.append_nil]; exact hO1)
      have HB3 := HB
      obtain ⟨W0, hW0⟩ : ∃ W0, W0 = wr := ⟨_, rfl⟩
      rw [← hW0] at HO HB3 ⊢
      clear HOw hO1 HB hW0 wr
      go_wp2_with fail
      go_loopg [5, 7] b.length (fun gk ov iv wr => ∃ (j : Nat) (E : Option Addr) (f : Nat), ov = .slice E (j + (a.length + 2)) f ∧ iv = .int .i64 j ∧ j + gk = b.length ∧ Hid (Below w.heap.size w wr) ∧ Hid (wr.ownsRow w.heap.size 9 1 (.slice E (j + (a.length + 2)) f) (j + (a.length + 2)) (cellsT ([da, db] ++ a.map (ndT a) ++ (b.map (ndT b)).take j))))
      case atStart => exact ⟨0, _, _, rfl, rfl, by omega, HB3, HO⟩
      case round =>
        obtain ⟨j, E, f, rfl, rfl, hjg, HB, HOw⟩ := hrel
        clear HO HB3
        cases gk with
        | zero =>
          obtain rfl : j = b.length := by omega
          have hO1 := HOw.out
          rw [List.take_of_length_le (by rw [List.length_map]; omega)] at hO1
          have HR := hide (show RdT wr wr.heap.size E (textsL a b) from by rw [HTs.out]; exact RdT.own hO1)
          have hN : b.length + (a.length + 2) = (textsL a b).length := by unfold textsL; simp; omega
          rw [hN]
          have hfew : ((textsL a b).length : Int) ≤ 10000 := by omega
          have HB3 := HB
          clear HTs
          generalize textsL a b = L at HR hfew HCl HSz ⊢
          clear HOw hO1 HB hN HTa HTb HA HD HMa HMb
          obtain ⟨V0, hV0⟩ : ∃ V0, V0 = wr := ⟨_, rfl⟩
          rw [← hV0] at HR HB3 ⊢
          clear hV0 wr
          go_wp2_with fail
          go_loopg [8] L.length (fun gk iv wr => ∃ i : Nat, iv = .int .i64 i ∧ i + gk = L.length ∧ Hid (Below V0.heap.size V0 wr) ∧ Hid (Quiet L i))
          case atStart => exact ⟨0, rfl, by omega, hide (Below.refl _ _), hide fun m hm => by omega⟩
          case round =>
            obtain ⟨i, rfl, hig, HB, HQ⟩ := hrel
            cases gk with
            | zero =>
              obtain rfl : i = L.length := by omega
              exfalso
              obtain ⟨x, y, hx, hy, hne, he⟩ := HCl.out
              exact HQ.out.none hx hy hne he
            | succ g1 =>
              have hil : (i : Int) < L.length := by omega
              have hi0 : (0 : Int) ≤ (i : Int) := by omega
              have hiw : IntKind.i64.wrap ((i : Int) + 1) = ((i + 1 : Nat) : Int) := by rw [IntWalk.i64_in _ (by omega)]; rfl
              obtain ⟨W0, hW0⟩ : ∃ W0, W0 = wr := ⟨_, rfl⟩
              rw [← hW0] at HB ⊢
              clear hW0 wr
              go_wp2_with fail
              go_loopg [9] i (fun gk iv wr => ∃ k : Nat, iv = .int .i64 k ∧ k + gk = i ∧ Hid (Below V0.heap.size V0 wr) ∧ Hid (QuietAt L i k))
              case atStart => exact ⟨0, rfl, by omega, HB, hide fun m hm => by omega⟩
              case round =>
                obtain ⟨k, rfl, hkg, HC, HP⟩ := hrel
                cases gk with
                | zero =>
                  obtain rfl : k = i := by omega
                  have HQ2 := hide (show Quiet L (k + 1) from fun m hm j hj x y hx hy => by
                    by_cases hmk : m = k
                    · subst hmk; exact HP.out j hj x y hx hy
                    · exact HQ.out m (by omega) j hj x y hx hy)
                  clear HQ HP HB
                  go_wp2_with fail
                  go_roundg g1
                  case rel => exact ⟨k + 1, rfl, by omega, HC, HQ2⟩
                  case measure => omega
                | succ g2 =>
                  have hkl : (k : Int) < L.length := by omega
                  have hk0 : (0 : Int) ≤ (k : Int) := by omega
                  have hki : (k : Int) < (i : Int) := by omega
                  have hkw : IntKind.i64.wrap ((k : Int) + 1) = ((k + 1 : Nat) : Int) := by rw [IntWalk.i64_in _ (by omega)]; rfl
                  obtain ⟨x, hx⟩ : ∃ x, L[i]? = some x := ⟨_, List.getElem?_eq_getElem (by omega)⟩
                  obtain ⟨y, hy⟩ : ∃ y, L[k]? = some y := ⟨_, List.getElem?_eq_getElem (by omega)⟩
                  obtain ⟨ag, rfl, hlt, c0⟩ := HR.out i x hx
                  obtain ⟨ah, he, _, c1⟩ := HR.out k y hy
                  injection he with he
                  subst he
                  have hxl := HSz.out x (List.mem_of_getElem? hx)
                  have hyl := HSz.out y (List.mem_of_getElem? hy)
                  have HSt := hide (show ¬ (x ≠ y ∧ sumL x = sumL y) → QuietAt L i (k + 1) from fun h j hj u v hu hv => by
                    by_cases hjk : j = k
                    · subst hjk
                      rw [hx] at hu; rw [hy] at hv
                      injection hu with hu; injection hv with hv
                      rw [← hu, ← hv]; exact h
                    · exact HP.out j (by omega) u v hu hv)
                  have HKx := hide (fun W => refOf_any x W hxl)
                  have HKy := hide (fun W => refOf_any y W hyl)
                  have hsx : ∀ z, stV (sumL z) = .agg #[.int .u64 ((sumL z).1 : Nat), .int .u64 ((sumL z).2 : Nat)] := fun _ => rfl
                  rw [hsx] at HKx HKy
                  have hxy : ((ofL x).toList == (ofL y).toList) = true ↔ x = y := by
                    rw [beq_iff_eq, toL_list, toL_list]
                    simp [toL, ofL]
                  obtain ⟨s, hs⟩ : ∃ s, s = ofL x := ⟨_, rfl⟩
                  obtain ⟨r, hr⟩ : ∃ r, r = ofL y := ⟨_, rfl⟩
                  rw [← hs] at c0 HKx hxy
                  rw [← hr] at c1 HKy hxy
                  have k0 := (HC.out.cell (by rw [add_block]; exact hlt)).trans c0
                  have k1 := (HC.out.cell (by rw [add_block]; exact hlt)).trans c1
                  have HXY := hide hxy
                  clear hs hr hx hy hxl hyl HP hsx hxy
                  cases he : (s.toList == r.toList) with
                  | true =>
                    have HE := hide (HSt.out fun h => h.1 (HXY.out.1 he))
                    clear HSt HKx HKy c0 c1
                    go_wp2_with fail
                    go_quiet (fail)
                    go_wp2_with fail
                    rename_i nq
                    have HC2 := hide (below_drewN HC.out nq)
                    go_roundg g2
                    case rel => exact ⟨k + 1, rfl, by omega, HC2, HE⟩
                    case measure => omega
                  | false =>
                    have he2 : (s.toList != r.toList) = true := by rw [bne, he]; rfl
                    have hne : x ≠ y := fun h => by rw [HXY.out.2 h] at he; cases he
                    have hK := hide (fun (W : World) (hb : Below wr.heap.size wr W) => (⟨(hb.cell (cell_lt k0)).trans k0, (hb.cell (cell_lt k1)).trans k1⟩ : W.cell? (ag.add i) = some (.string s) ∧ W.cell? (ag.add k) = some (.string r)))
                    have K0 := hide (hK.out wr.drew (Below.refl _ _).drew)
                    have hsum : sumL x = sumL y ∨ ((((sumL x).1 : Nat) : Int) == (((sumL y).1 : Nat) : Int)) = false ∨ (((((sumL x).1 : Nat) : Int) == (((sumL y).1 : Nat) : Int)) = true ∧ ((((sumL x).2 : Nat) : Int) == (((sumL y).2 : Nat) : Int)) = false) := by
                      by_cases h1 : (sumL x).1 = (sumL y).1
                      · by_cases h2 : (sumL x).2 = (sumL y).2
                        · exact .inl (Prod.ext h1 h2)
                        · exact .inr (.inr ⟨by rw [beq_iff_eq]; omega, by rw [beq_eq_false_iff_ne]; omega⟩)
                      · exact .inr (.inl (by rw [beq_eq_false_iff_ne]; omega))
                    have HNe := hide (show sumL x ≠ sumL y → QuietAt L i (k + 1) from fun h => HSt.out fun h2 => h h2.2)
                    generalize sumL x = X at HKx hsum HNe
                    generalize sumL y = Y at HKy hsum HNe
                    clear HSt c0 c1 k0 k1 hne
                    obtain ⟨x1, x2⟩ := X
                    obtain ⟨y1, y2⟩ := Y
                    simp only at HKx HKy hsum
                    rcases hsum with hxx | h1 | ⟨h1, h2⟩
                    · injection hxx with e1 e2
                      subst e1
                      subst e2
                      go_wp2_with fail
                      go_region_held3 (fun w' => w'.cell? (ag.add i) = some (.string s) ∧ w'.cell? (ag.add k) = some (.string r))
                        (first | exact K0.out | exact Ka.out | exact Kb.out)
                        (first
                          | (go_at_call 13
                             with_reducible refine (HKx.out _).mono ?_
                             rintro e wa ⟨rfl, hba⟩
                             have Ba : Below wr.heap.size wr wa := (Below.refl _ wr).drew.trans hba
                             have Ka := hide (hK.out wa Ba))
                          | (go_at_call 13
                             with_reducible refine (HKy.out _).mono ?_
                             rintro e wb ⟨rfl, hbb⟩
                             have Bb := Ba.trans (hbb.mono Ba.size)
                             have Kb := hide (hK.out wb Bb)))
                      have HFin := hide (HB3.out.trans ((HC.out.trans (Bb.mono HC.out.size)).mono HB3.out.size))
                      clear K0 Ka Kb hK HKx HKy
                      go_wp2_with fail
                      exact bodyPost_ret (results_tmp rfl _ _ _) rfl ⟨rfl, HFin.out⟩
                    · have HE := hide (HNe.out fun e => by injection e with e1 e2; subst e1; simp at h1)
                      go_wp2_with fail
                      go_region_held3 (fun w' => w'.cell? (ag.add i) = some (.string s) ∧ w'.cell? (ag.add k) = some (.string r))
                        (first | exact K0.out | exact Ka.out | exact Kb.out)
                        (first
                          | (go_at_call 13
                             with_reducible refine (HKx.out _).mono ?_
                             rintro e wa ⟨rfl, hba⟩
                             have Ba : Below wr.heap.size wr wa := (Below.refl _ wr).drew.trans hba
                             have Ka := hide (hK.out wa Ba))
                          | (go_at_call 13
                             with_reducible refine (HKy.out _).mono ?_
                             rintro e wb ⟨rfl, hbb⟩
                             have Bb := Ba.trans (hbb.mono Ba.size)
                             have Kb := hide (hK.out wb Bb)))
                      have HC2 := hide (HC.out.trans (Bb.mono HC.out.size))
                      clear K0 Ka Kb hK HKx HKy
                      go_wp2_with fail
                      go_roundg g2
                      case rel => exact ⟨k + 1, rfl, by omega, HC2, HE⟩
                      case measure => omega
                    · have HE := hide (HNe.out fun e => by injection e with e1 e2; subst e2; simp at h2)
                      go_wp2_with fail
                      go_region_held3 (fun w' => w'.cell? (ag.add i) = some (.string s) ∧ w'.cell? (ag.add k) = some (.string r))
                        (first | exact K0.out | exact Ka.out | exact Kb.out)
                        (first
                          | (go_at_call 13
                             with_reducible refine (HKx.out _).mono ?_
                             rintro e wa ⟨rfl, hba⟩
                             have Ba : Below wr.heap.size wr wa := (Below.refl _ wr).drew.trans hba
                             have Ka := hide (hK.out wa Ba))
                          | (go_at_call 13
                             with_reducible refine (HKy.out _).mono ?_
                             rintro e wb ⟨rfl, hbb⟩
                             have Bb := Ba.trans (hbb.mono Ba.size)
                             have Kb := hide (hK.out wb Bb)))
                      have HC2 := hide (HC.out.trans (Bb.mono HC.out.size))
                      clear K0 Ka Kb hK HKx HKy
                      go_wp2_with fail
                      go_roundg g2
                      case rel => exact ⟨k + 1, rfl, by omega, HC2, HE⟩
                      case measure => omega
        | succ g1 =>
          have hji : (j : Int) < b.length := by omega
          have hj0 : (0 : Int) ≤ (j : Int) := by omega
          have hjw : IntKind.i64.wrap ((j : Int) + 1) = ((j + 1 : Nat) : Int) := by rw [IntWalk.i64_in _ (by omega)]; rfl
          obtain ⟨n, hn⟩ : ∃ n, b[j]? = some n := ⟨_, List.getElem?_eq_getElem (by omega)⟩
          have hm := List.mem_of_getElem? hn
          obtain ⟨ad, rfl, hlt, hnd⟩ := (HD.out.below HB.out (Nat.le_refl _)) j n hn
          have c0 := hnd.path
          have hT := HTb.out n.path wr HB.out
          rw [rt_node HMb.out hm] at hT
          have htk : (b.map (ndT b)).take (j + 1) = (b.map (ndT b)).take j ++ [ndT b n] := by rw [List.take_add_one, List.getElem?_map, hn]; rfl
          generalize ndT b n = X at hT htk
          have HT := hide hT
          have HTk := hide htk
          clear hn hm hnd hlt hT htk
          go_wp2_with fail
          refine HT.out.mono ?_
          rintro e w3 ⟨rfl, hb3⟩
          have hB3 := HB.out.trans (hb3.mono HB.out.size)
          have hO3 := (own_below HOw.out hb3).alloc (.cells #[.string (ofL X)] 9)
          have hnew := cell_one_new w3 (.string (ofL X)) 9
          have hB4 := hB3.alloc hB3.size (.cells #[.string (ofL X)] 9)
          have hbase := hB4.size
          clear HT HB HOw hb3 hB3 c0
          go_wp2_with (at_builtin; refine wpList_append_own _ rfl _ _ 59 rfl w.heap.size 9 i0 _ 1 16 Tryd.underlying59 hi hz0 hz1 hz2 rfl (by decide) _ _ _ rfl hO3 ⟨w3.heap.size, 0, none⟩ 1 1 [.string (ofL X)] rfl rfl hnew (by simp [Value.oneCell']) (by unfold maxLen; omega) (by omega) hbase ?_)
          intro v5 w5 hO5 hg5 _
          have hB5 := hB4.grown hg5 hB4.size (fun r e => (hO3.lt r e).1)
          obtain ⟨G, g, rfl⟩ := ownsRow_slice hO5
          have HB5 := hide hB5
          have HO5 := hide (show w5.ownsRow w.heap.size 9 1 (.slice G (j + 1 + (a.length + 2)) g) (j + 1 + (a.length + 2)) (cellsT ([da, db] ++ a.map (ndT a) ++ (b.map (ndT b)).take (j + 1))) by
            rw [HTk.out, ← List.append_assoc, cellsT_snoc, show j + 1 + (a.length + 2) = j + (a.length + 2) + 1 by omega]; exact hO5)
          clear hO3 hnew hB4 hbase hO5 hg5 hB5 HTk
          go_wp2_with fail
          go_roundg g1
          case rel => exact ⟨j + 1, G, g, by rw [show j + 1 + (a.length + 2) = j + (a.length + 2) + 1 by omega], rfl, by omega, HB5, HO5⟩
          case measure => omega
    | succ g1 =>
      have hji : (j : Int) < a.length := by omega
      have hj0 : (0 : Int) ≤ (j : Int) := by omega
      have hjw : IntKind.i64.wrap ((j : Int) + 1) = ((j + 1 : Nat) : Int) := by rw [IntWalk.i64_in _ (by omega)]; rfl
      obtain ⟨n, hn⟩ : ∃ n, a[j]? = some n := ⟨_, List.getElem?_eq_getElem (by omega)⟩
      have hm := List.mem_of_getElem? hn
      obtain ⟨ad, rfl, hlt, hnd⟩ := (HA.out.below HB.out (Nat.le_refl _)) j n hn
      have c0 := hnd.path
      have hT := HTa.out n.path wr HB.out
      rw [rt_node HMa.out hm] at hT
      have htk : (a.map (ndT a)).take (j + 1) = (a.map (ndT a)).take j ++ [ndT a n] := by rw [List.take_add_one, List.getElem?_map, hn]; rfl
      generalize ndT a n = X at hT htk
      have HT := hide hT
      have HTk := hide htk
      clear hn hm hnd hlt hT htk
      go_wp2_with fail
      refine HT.out.mono ?_
      rintro e w3 ⟨rfl, hb3⟩
      have hB3 := HB.out.trans (hb3.mono HB.out.size)
      have hO3 := (own_below HOw.out hb3).alloc (.cells #[.string (ofL X)] 9)
      have hnew := cell_one_new w3 (.string (ofL X)) 9
      have hB4 := hB3.alloc hB3.size (.cells #[.string (ofL X)] 9)
      have hbase := hB4.size
      clear HT HB HOw hb3 hB3 c0
      go_wp2_with (at_builtin; refine wpList_append_own _ rfl _ _ 59 rfl w.heap.size 9 i0 _ 1 16 Tryd.underlying59 hi hz0 hz1 hz2 rfl (by decide) _ _ _ rfl hO3 ⟨w3.heap.size, 0, none⟩ 1 1 [.string (ofL X)] rfl rfl hnew (by simp [Value.oneCell']) (by unfold maxLen; omega) (by omega) hbase ?_)
      intro v5 w5 hO5 hg5 _
      have hB5 := hB4.grown hg5 hB4.size (fun r e => (hO3.lt r e).1)
      obtain ⟨G, g, rfl⟩ := ownsRow_slice hO5
      have HB5 := hide hB5
      have HO5 := hide (show w5.ownsRow w.heap.size 9 1 (.slice G (j + 1 + 2) g) (j + 1 + 2) (cellsT ([da, db] ++ (a.map (ndT a)).take (j + 1))) by
        rw [HTk.out, ← List.append_assoc, cellsT_snoc, show j + 1 + 2 = j + 2 + 1 by omega]; exact hO5)
      clear hO3 hnew hB4 hbase hO5 hg5 hB5 HTk
      go_wp2_with fail
      go_roundg g1
      case rel => exact ⟨j + 1, G, g, by rw [show j + 1 + 2 = j + 2 + 1 by omega], rfl, by omega, HB5, HO5⟩
      case measure => omega
end Go.Proofs.YtbklgijndjpgoaaDoor
