/-
  Texts that belong together: BkPut, BkPutAll.
-/
import Derived.Test.YtobgbheodlpclaaBkRight
import Derived.Test.YtobgbheodlpclaaVintOwnSum
import Derived.Deep.RegionHeld3
/-
  A signature's bytes: block.Put.
-/
namespace Go.Proofs.Ytobgbheodlpclaa
open Go.RowKit
set_option maxRecDepth 100000

/-- A sign's bytes. -/
def signBy (s : Sg) : List UInt8 := groupsL s.weak ++ (wordL s.hi ++ wordL s.lo)
theorem signBy_len (s : Sg) : (signBy s).length ≤ 26 := by
  have h1 := groupsL_le s.weak
  have h2 := wordL_len s.hi
  have h3 := wordL_len s.lo
  unfold signBy
  rw [List.length_append, List.length_append]; omega
/-- A signature's bytes. -/
def putS (size : Int) (l : List Sg) (tail : Int) (s : Sg) : List UInt8 :=
  if rightS size l.length tail s = true then groupsL size.toNat ++ groupsL l.length ++ l.flatMap signBy ++ groupsL tail.toNat ++ (if tail ≠ 0 then signBy s else []) else []

set_option maxHeartbeats 2000000 in
theorem num_o (n : Nat) (w : World) (hn : n ≤ 1000000) : Calls Try.prog 73 #[.int .i64 (n : Nat)] w (BytesO w (groupsL n)) := by
  have HN := hide (putNum_o none [] 0 n w (RdB.nil _ _ _) (by simp) (by omega))
  have q0 : IntKind.u64.wrap (n : Int) = (n : Int) := by rw [IntKind.wrap_u64]; omega
  rw [List.nil_append] at HN
  go_enter Try.func73, Try.ntmps73
  go_wp2_with fail
  refine HN.out.mono ?_
  rintro e w1 ⟨D, d, rfl, h1, h2, h3⟩
  go_wp2_with fail
  exact bodyPost_ret (results_tmp rfl _ _ _) rfl ⟨D, d, rfl, h1, h2, h3⟩

set_option maxHeartbeats 4000000 in
theorem sign_o (s : Sg) (w : World) (hs : s.fits) : Calls Try.prog 74 #[.agg s.cells] w (BytesO w (signBy s)) := by
  obtain ⟨wk, hi, lo⟩ := s
  obtain ⟨f1, f2, f3⟩ := hs
  simp only at f1 f2 f3
  have hV : signBy ⟨wk, hi, lo⟩ = groupsL wk ++ (wordL hi ++ wordL lo) := rfl
  rw [hV]
  have HN := hide (fun W => (show Calls Try.prog 107 #[.slice none 0 0, .int .u64 (wk : Nat)] W (BytesO W (groupsL wk)) from putNum_o none [] 0 wk W (RdB.nil _ _ _) (by simp) (by omega)))
  have HS := hide (fun (D : Option Addr) (d : Nat) (W : World) (hR : RdB W W.heap.size D (groupsL wk)) => putSum_o D (groupsL wk) d hi lo W hR (by have := groupsL_le wk; omega) f2 f3)
  have q0 : IntKind.u64.wrap (wk : Int) = (wk : Int) := by rw [IntKind.wrap_u64]; omega
  have hrow := World.alloc_heap_new w (Obj.cells #[.int .u32 (wk : Nat), .int .u64 (hi : Nat), .int .u64 (lo : Nat)] 30)
  have HB := hide ((Below.refl w.heap.size w).alloc (Nat.le_refl _) (.cells #[.int .u32 (wk : Nat), .int .u64 (hi : Nat), .int .u64 (lo : Nat)] 30))
  obtain ⟨w0, hw0⟩ : ∃ w0, w0 = w.alloc (.cells #[.int .u32 (wk : Nat), .int .u64 (hi : Nat), .int .u64 (lo : Nat)] 30) := ⟨_, rfl⟩
  have HK := hide (fun (W : World) (h : Below w0.heap.size w0 W) => (⟨h, (h.cell (p := ⟨w.heap.size, 0, none⟩) (by rw [hw0]; simp)).trans (by rw [hw0]; exact cell_of_row _ _ _ _ _ _ hrow), (h.cell (p := ⟨w.heap.size, 1, none⟩) (by rw [hw0]; simp)).trans (by rw [hw0]; exact cell_of_row _ _ _ _ _ _ hrow), (h.cell (p := ⟨w.heap.size, 2, none⟩) (by rw [hw0]; simp)).trans (by rw [hw0]; exact cell_of_row _ _ _ _ _ _ hrow)⟩ :
    Below w0.heap.size w0 W ∧ W.cell? ⟨w.heap.size, 0, none⟩ = some (.int .u32 (wk : Nat)) ∧ W.cell? ⟨w.heap.size, 1, none⟩ = some (.int .u64 (hi : Nat)) ∧ W.cell? ⟨w.heap.size, 2, none⟩ = some (.int .u64 (lo : Nat))))
  rw [← hw0] at HB
  have hd0 := (Below.refl w0.heap.size w0).drew
  show Calls _ _ #[.agg #[.int .u32 (wk : Nat), .int .u64 (hi : Nat), .int .u64 (lo : Nat)]] _ _
  go_enter Try.func74, Try.ntmps74
  clear hrow hV
  go_wp2_with fail
  rw [← hw0]
  clear hw0
  go_region_held3 (fun W => Below w0.heap.size w0 W ∧ W.cell? ⟨w.heap.size, 0, none⟩ = some (.int .u32 (wk : Nat)) ∧ W.cell? ⟨w.heap.size, 1, none⟩ = some (.int .u64 (hi : Nat)) ∧ W.cell? ⟨w.heap.size, 2, none⟩ = some (.int .u64 (lo : Nat)))
    (first
      | exact HK.out _ hd0
      | exact HK.out _ hbk)
    (first
      | (go_at_call 107; go_loud (with_reducible refine (HN.out _).mono ?_); rintro en wk1 ⟨D, d, rfl, hO1, hc1, hb1⟩; go_loud (have hbA := (And.left (by assumption) : Below w0.heap.size w0 _).trans (hb1.mono (And.left (by assumption) : Below w0.heap.size w0 _).size)); have hbk := hbA)
      | (go_at_call 108; go_loud (with_reducible refine (HS.out D d _ (RdB.own hO1)).mono ?_); rintro en wk2 ⟨E, f, rfl, hO2, hc2, hb2⟩; have hbk := (And.left (by assumption) : Below w0.heap.size w0 _).trans (hb2.mono (And.left (by assumption) : Below w0.heap.size w0 _).size)))
  all_goals
    have hfin : BytesO w (groupsL wk ++ (wordL hi ++ wordL lo)) (.returned (.slice E (groupsL wk ++ (wordL hi ++ wordL lo)).length f)) wk2 := (show BytesO wk1 _ _ _ from ⟨E, f, rfl, hO2, hc2, hb2⟩).back (HB.out.trans (hbA.mono HB.out.size))
    have HFin := hide hfin
    clear hfin hO2 hc2 hb2 hO1 hc1 hb1
    go_wp2_with fail
    obtain ⟨E', f', e', j1, j2, j3⟩ := HFin.out
    injection e' with e'
    injection e' with ea eb ec
    subst ea ec
    exact bodyPost_ret (results_tmp rfl _ _ _) rfl ⟨E, f, by simp only [List.length_append]; rfl, j1, j2, j3⟩
end Go.Proofs.Ytobgbheodlpclaa
/-
  A signature's bytes: block.Put, all of it.
-/
namespace Go.Proofs.Ytobgbheodlpclaa
open Go.RowKit
set_option maxRecDepth 100000

theorem right_facts {size : Int} {n : Nat} {tail : Int} {s : Sg} (h : rightS size n tail s = true) : 4 ≤ size ∧ size ≤ 64 ∧ n ≤ 4096 ∧ 0 ≤ tail ∧ tail < 64 := by
  by_cases h0 : 4 ≤ size ∧ size ≤ 64 ∧ n ≤ 4096
  · rw [right_in h0.1 h0.2.1 h0.2.2] at h
    refine ⟨h0.1, h0.2.1, h0.2.2, ?_⟩
    split at h
    · omega
    · simp only [Bool.and_eq_true, decide_eq_true_eq] at h; omega
  · rw [right_size h0] at h; cases h
theorem signBy_drop (l : List Sg) (i : Nat) (t : Sg) (h : l[i]? = some t) : (l.drop i).flatMap signBy = signBy t ++ (l.drop (i + 1)).flatMap signBy := by
  obtain ⟨hlt, e⟩ := List.getElem?_eq_some_iff.1 h
  rw [List.drop_eq_getElem_cons hlt, e, List.flatMap_cons]

set_option maxHeartbeats 16000000 in
theorem bkPut_any (size tail : Int) (A : Option Addr) (l : List Sg) (c : Nat) (s : Sg) (w : World) (hA : RdSg w w.heap.size A l) (hl : l.length ≤ 4096) (hf : ∀ x ∈ l, x.fits) (hs : s.fits) :
    Calls Try.prog 28 #[.agg (sigC size A l.length c tail s)] w (Bytes w (putS size l tail s)) := by
  obtain ⟨i0, hi, hz0, hz1, hz2⟩ := info_parts info_byte
  have HR := hide (sigRight_any size A l.length c tail s)
  have hP : putS size l tail s = if rightS size l.length tail s = true then groupsL size.toNat ++ groupsL l.length ++ l.flatMap signBy ++ groupsL tail.toNat ++ (if tail ≠ 0 then signBy s else []) else [] := rfl
  have hin := right_facts (size := size) (n := l.length) (tail := tail) (s := s)
  have HSn := hide (fun W => sign_o s W hs)
  generalize putS size l tail s = P at hP ⊢
  generalize rightS size l.length tail s = q at HR hP hin
  have hbl := signBy_len s
  generalize signBy s = sb at HSn hP hbl
  obtain ⟨wk, hh, lo⟩ := s
  simp only [sigC, Sg.cells] at HR HSn ⊢
  have HB := hide ((Below.refl w.heap.size w).alloc (Nat.le_refl _) (.cells #[.int .i64 size, .slice A l.length c, .int .i64 tail, .int .u32 (wk : Nat), .int .u64 (hh : Nat), .int .u64 (lo : Nat)] 32))
  have hrow := World.alloc_heap_new w (Obj.cells #[.int .i64 size, .slice A l.length c, .int .i64 tail, .int .u32 (wk : Nat), .int .u64 (hh : Nat), .int .u64 (lo : Nat)] 32)
  have HA := hide hA
  have HFt := hide hf
  clear hA hf hs
  go_enter Try.func28, Try.ntmps28
  cases q with
  | false =>
    have HV := hide (show P = [] by rw [hP]; rfl)
    clear hP hin
    go_wp2_with fail
    refine (HR.out _).mono ?_
    rintro e w1 ⟨rfl, hb⟩
    have HB1 := hide (HB.out.trans (hb.mono HB.out.size))
    clear hb
    go_wp2_with fail
    exact bodyPost_ret (results_tmp rfl _ _ _) rfl ⟨none, 0, by rw [HV.out]; rfl, by rw [HV.out]; exact ⟨Nat.le_refl _, fun _ => rfl⟩, by rw [HV.out]; exact RdB.nil _ _ _, HB1.out⟩
  | true =>
    obtain ⟨b1, b2, b3, b4, b5⟩ := hin rfl
    rw [if_pos rfl] at hP
    obtain ⟨sz, rfl⟩ : ∃ n : Nat, size = n := ⟨size.toNat, by omega⟩
    obtain ⟨tl, rfl⟩ : ∃ n : Nat, tail = n := ⟨tail.toNat, by omega⟩
    rw [Int.toNat_natCast, Int.toNat_natCast] at hP
    have HN1 := hide (fun W => num_o sz W (by omega))
    have HN2 := hide (fun W => num_o l.length W (by omega))
    have HN3 := hide (fun W => num_o tl W (by omega))
    have g1 := groupsL_le sz
    have g2 := groupsL_le l.length
    have g3 := groupsL_le tl
    generalize groupsL sz = x1 at hP HN1 g1
    generalize groupsL l.length = x2 at hP HN2 g2
    generalize groupsL tl = x3 at hP HN3 g3
    have HP := hide (show (x1 ++ x2) ++ (l.drop 0).flatMap signBy ++ x3 ++ (if (tl : Int) ≠ 0 then sb else []) = P by rw [hP]; simp)
    clear hP hin
    go_wp2_with fail
    refine (HR.out _).mono ?_
    rintro e w1 ⟨rfl, hb⟩
    have s1 := (hb.block w.heap.size (by simp)).trans hrow
    have hB1 := HB.out.trans (hb.mono HB.out.size)
    obtain ⟨n0, hn0⟩ : ∃ n, n = w.heap.size := ⟨_, rfl⟩
    rw [← hn0] at s1 ⊢
    have hlt1 : n0 < w1.heap.size := (Array.getElem?_eq_some_iff.1 s1).1
    have HK := hide (fun (W : World) (h : Below w1.heap.size w1 W) => (show W.heap[n0]? = some (.cells #[.int .i64 (sz : Nat), .slice A l.length c, .int .i64 (tl : Nat), .int .u32 (wk : Nat), .int .u64 (hh : Nat), .int .u64 (lo : Nat)] 32 (0, 0)) from (h.block _ hlt1).trans s1))
    have HB1 := hide hB1
    have HAA := hide (fun (W : World) (h : Below w1.heap.size w1 W) => HA.out.below (hB1.trans (h.mono hB1.size)) (Nat.le_refl _))
    have k0 : w1.cell? ⟨n0, 0, none⟩ = some (.int .i64 (sz : Nat)) := cell_of_row _ _ _ _ _ _ s1
    clear hb s1 hrow HB HR hB1 hn0 HA
    go_wp2_with fail
    refine (HN1.out _).mono ?_
    rintro e w2 ⟨D, d, rfl, hO2, _, hb2⟩
    have s2 := HK.out w2 hb2
    have k1 : w2.cell? ⟨n0, 1, none⟩ = some (.slice A l.length c) := cell_of_row _ _ _ _ _ _ s2
    have HO2 := hide hO2
    have HB2 := hide hb2
    clear hO2 hb2 s2 k0 HN1
    go_wp2_with fail
    refine (HN2.out _).mono ?_
    rintro e w3 ⟨E, f, rfl, _, hR3, hb3⟩
    have hB3 := HB2.out.trans (hb3.mono HB2.out.size)
    have hO3 := own_below HO2.out hb3
    have hsz3 := hB3.size
    clear k1 HN2 hb3 HO2 HB2
    go_wp2_with (at_builtin; go_loud (refine wpList_append_bytes rfl _ _ 22 rfl w1.heap.size 5 i0 Try.underlying22 hi hz0 hz1 hz2 _ _ _ rfl hO3 E _ f _ x2 rfl rfl hR3 (by unfold maxLen; omega) (by omega) hsz3 ?_))
    intro v4 w4 hO4 hg4
    have hB4 := hB3.grown hg4 hB3.size (fun r e => (hO3.lt r e).1)
    obtain ⟨G, g, rfl⟩ := ownsRow_slice hO4
    have hl4 : (x1 ++ x2).length = x1.length + x2.length := List.length_append
    have HO4 := hide (show w4.ownsRow w1.heap.size 5 1 (.slice G (x1 ++ x2).length g) (x1 ++ x2).length ((x1 ++ x2).map byteV) ∧ Below w1.heap.size w1 w4 from ⟨by rw [List.map_append, hl4]; exact hO4, hB4⟩)
    have k1 : w4.cell? ⟨n0, 1, none⟩ = some (.slice A l.length c) := cell_of_row _ _ _ _ _ _ (HK.out w4 hB4)
    rw [hl4] at HO4
    have hxo : (x1 ++ x2).length ≤ 20 := by omega
    clear hO3 hO4 hg4 hB3 hB4 hR3 hsz3
    obtain ⟨o4, ho4⟩ : ∃ o, o = x1 ++ x2 := ⟨_, rfl⟩
    rw [← hl4, ← ho4] at HO4
    rw [← hl4, ← ho4]
    rw [← ho4] at HP hxo
    clear ho4 hl4 g1 g2
    go_wp2_with fail
    clear k1
    go_loopg [3, 21] l.length (fun gk ov iv wr => ∃ (i : Nat) (B : Option Addr) (d : Nat) (o : List UInt8), ov = .slice B o.length d ∧ iv = .int .i64 i ∧ i + gk = l.length ∧ o.length ≤ 20 + i * 26 ∧ Hid (wr.ownsRow w1.heap.size 5 1 (.slice B o.length d) o.length (o.map byteV) ∧ Below w1.heap.size w1 wr) ∧ Hid (o ++ (l.drop i).flatMap signBy ++ x3 ++ (if (tl : Int) ≠ 0 then sb else []) = P))
    case atStart => exact ⟨0, G, g, o4, rfl, rfl, by omega, by omega, HO4, HP⟩
    case round =>
      obtain ⟨i, B, d, o, rfl, rfl, hig, hoi, HO, HQ⟩ := hrel
      clear HP HO4 hxo
      cases gk with
      | succ g0 =>
        have hii : (i : Int) < l.length := by omega
        have hi0 : (0 : Int) ≤ (i : Int) := by omega
        obtain ⟨t, ht⟩ : ∃ t, l[i]? = some t := ⟨_, List.getElem?_eq_getElem (by omega)⟩
        obtain ⟨ad, rfl, hlt, hnd⟩ := HAA.out wr HO.out.2 i t ht
        have hiw : IntKind.i64.wrap ((i : Int) + 1) = ((i + 1 : Nat) : Int) := by rw [IntWalk.i64_in _ (by omega)]; rfl
        have HS := hide (fun W => sign_o t W (HFt.out t (List.mem_of_getElem? ht)))
        have hd := HQ.out
        rw [signBy_drop l i t ht] at hd
        have hbt := signBy_len t
        generalize signBy t = bt at HS hd hbt
        obtain ⟨c0, c1, c2⟩ := hnd
        obtain ⟨tw, th, tlo⟩ := t
        simp only [Sg.cells] at c0 c1 c2 HS
        have HD := hide (show (o ++ bt) ++ (l.drop (i + 1)).flatMap signBy ++ x3 ++ (if (tl : Int) ≠ 0 then sb else []) = P by rw [← hd]; simp only [List.append_assoc])
        have hbx := (Below.refl wr.heap.size wr).alloc (Nat.le_refl _) (.cells #[.int .u32 (tw : Nat), .int .u64 (th : Nat), .int .u64 (tlo : Nat)] 30)
        have HO5 := hide (own_below HO.out.1 hbx)
        have HB5 := hide (HO.out.2.trans (hbx.mono HO.out.2.size))
        clear hd ht hlt HQ HO hbx
        go_wp2_with fail
        refine (HS.out _).mono ?_
        rintro e w6 ⟨E6, f6, rfl, _, hR6, hb6⟩
        have hB6 := HB5.out.trans (hb6.mono HB5.out.size)
        have hO6 := own_below HO5.out hb6
        have hsz6 := hB6.size
        clear HB5 HO5 hb6 HS c0 c1 c2
        go_wp2_with (at_builtin; go_loud (refine wpList_append_bytes rfl _ _ 22 rfl w1.heap.size 5 i0 Try.underlying22 hi hz0 hz1 hz2 _ _ _ rfl hO6 E6 _ f6 _ bt rfl rfl hR6 (by unfold maxLen; omega) (by omega) hsz6 ?_))
        intro v7 w7 hO7 hg7
        have hB7 := hB6.grown hg7 hB6.size (fun r e => (hO6.lt r e).1)
        obtain ⟨G7, g7, rfl⟩ := ownsRow_slice hO7
        have hl7 : (o ++ bt).length = o.length + bt.length := List.length_append
        have HO7 := hide (show w7.ownsRow w1.heap.size 5 1 (.slice G7 (o ++ bt).length g7) (o ++ bt).length ((o ++ bt).map byteV) ∧ Below w1.heap.size w1 w7 from ⟨by rw [List.map_append, hl7]; exact hO7, hB7⟩)
        rw [hl7] at HO7
        clear hO6 hO7 hg7 hB6 hB7 hR6 hsz6
        go_wp2_with fail
        go_roundg g0
        case rel => exact ⟨i + 1, G7, g7, o ++ bt, by rw [hl7], rfl, by omega, by rw [hl7]; omega, by rw [hl7]; exact HO7, HD⟩
        case measure => omega
      | zero =>
        obtain rfl : i = l.length := by omega
        have HP2 := hide (show o ++ x3 ++ (if (tl : Int) ≠ 0 then sb else []) = P by rw [← HQ.out, List.drop_length]; simp)
        have k2 : wr.cell? ⟨n0, 2, none⟩ = some (.int .i64 (tl : Nat)) := cell_of_row _ _ _ _ _ _ (HK.out wr HO.out.2)
        clear HQ
        go_wp2_with fail
        refine (HN3.out _).mono ?_
        rintro e w6 ⟨E6, f6, rfl, _, hR6, hb6⟩
        have hB6 := HO.out.2.trans (hb6.mono HO.out.2.size)
        have hO6 := own_below HO.out.1 hb6
        have hsz6 := hB6.size
        clear hb6 HN3 k2 HO
        go_wp2_with (at_builtin; go_loud (refine wpList_append_bytes rfl _ _ 22 rfl w1.heap.size 5 i0 Try.underlying22 hi hz0 hz1 hz2 _ _ _ rfl hO6 E6 _ f6 _ x3 rfl rfl hR6 (by unfold maxLen; omega) (by omega) hsz6 ?_))
        intro v7 w7 hO7 hg7
        have hB7 := hB6.grown hg7 hB6.size (fun r e => (hO6.lt r e).1)
        obtain ⟨G7, g7, rfl⟩ := ownsRow_slice hO7
        have hl7 : (o ++ x3).length = o.length + x3.length := List.length_append
        have s7 := HK.out w7 hB7
        have k2 : w7.cell? ⟨n0, 2, none⟩ = some (.int .i64 (tl : Nat)) := cell_of_row _ _ _ _ _ _ s7
        have k3 : w7.cell? ⟨n0, 3, none⟩ = some (.int .u32 (wk : Nat)) := cell_of_row _ _ _ _ _ _ s7
        have k4 : w7.cell? ⟨n0, 4, none⟩ = some (.int .u64 (hh : Nat)) := cell_of_row _ _ _ _ _ _ s7
        have k5 : w7.cell? ⟨n0, 5, none⟩ = some (.int .u64 (lo : Nat)) := cell_of_row _ _ _ _ _ _ s7
        have hO7' : w7.ownsRow w1.heap.size 5 1 (.slice G7 (o.length + x3.length) g7) (o.length + x3.length) ((o ++ x3).map byteV) := by rw [List.map_append]; exact hO7
        have HO7 := hide (And.intro hO7' hB7)
        clear hO6 hO7 hO7' hg7 hB6 hB7 hR6 hsz6 s7
        by_cases h0 : (tl : Int) = 0
        · have HV := hide (show P = o ++ x3 by rw [← HP2.out, if_neg (by simp [h0])]; simp)
          have E0 : ((tl : Int) != 0) = false := by rw [bne_eq_false_iff_eq]; exact h0
          clear h0
          go_wp2_with fail
          exact bodyPost_ret (results_tmp rfl _ _ _) rfl ⟨G7, g7, by rw [HV.out, hl7]; rfl, by rw [HV.out]; have h := ownsRow_caps HO7.out.1; rw [hl7]; exact h, by rw [HV.out]; exact RdB.own HO7.out.1, HB1.out.trans (HO7.out.2.mono HB1.out.size)⟩
        · have HV := hide (show P = (o ++ x3) ++ sb by rw [← HP2.out, if_pos h0])
          have E0 : ((tl : Int) != 0) = true := by rw [bne_iff_ne]; exact h0
          clear h0
          go_wp2_with fail
          refine (HSn.out _).mono ?_
          rintro e w8 ⟨E8, f8, rfl, _, hR8, hb8⟩
          have hB8 := HO7.out.2.trans (hb8.mono HO7.out.2.size)
          have hO8 := own_below HO7.out.1 hb8
          have hsz8 := hB8.size
          clear hb8 HSn k2 k3 k4 k5 HO7
          go_wp2_with (at_builtin; go_loud (refine wpList_append_bytes rfl _ _ 22 rfl w1.heap.size 5 i0 Try.underlying22 hi hz0 hz1 hz2 _ _ _ rfl hO8 E8 _ f8 _ sb rfl rfl hR8 (by unfold maxLen; omega) (by omega) hsz8 ?_))
          intro v9 w9 hO9 hg9
          have hB9 := hB8.grown hg9 hB8.size (fun r e => (hO8.lt r e).1)
          obtain ⟨G9, g9, rfl⟩ := ownsRow_slice hO9
          have hl9 : ((o ++ x3) ++ sb).length = o.length + x3.length + sb.length := by rw [List.length_append, hl7]
          have hO9' : w9.ownsRow w1.heap.size 5 1 (.slice G9 (o.length + x3.length + sb.length) g9) (o.length + x3.length + sb.length) (((o ++ x3) ++ sb).map byteV) := by rw [List.map_append, List.map_append, List.append_assoc]; exact hO9
          have HO9 := hide (And.intro hO9' hB9)
          clear hO8 hO9 hO9' hg9 hB8 hB9 hR8 hsz8
          go_wp2_with fail
          exact bodyPost_ret (results_tmp rfl _ _ _) rfl ⟨G9, g9, by rw [HV.out, hl9]; rfl, by rw [HV.out]; have h := ownsRow_caps HO9.out.1; rw [hl9]; exact h, by rw [HV.out]; exact RdB.own HO9.out.1, HB1.out.trans (HO9.out.2.mono HB1.out.size)⟩
end Go.Proofs.Ytobgbheodlpclaa
