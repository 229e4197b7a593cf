/-
  merkle: dir, a directory's print, out of its nodes' prints.
-/
import Derived.Test.YtbklgijndjpgoaaDoorMkOf
import Derived.Test.YtbklgijndjpgoaaDoorMkVint
namespace Go.Proofs.YtbklgijndjpgoaaDoor
open Go.RowKit
set_option maxRecDepth 100000

/-- What hangs on a directory, as the map tells it. -/
theorem PrOk.hangs {W : World} {B M : Nat} {t : List Nd} (h : PrOk W B t M) (p : ByteArray) (hs : p.size ≤ maxLen) :
    ∃ A c, RdN W M A (kidsL p t) ∧ ∀ W', W.grownBy W' none → (Instr.lookup 67 (.map (some B)) (.string p) false).run Tryd.prog W' = .ok (.slice A (kidsL p t).length c) W' := by
  obtain ⟨L, f, hm, hf⟩ := h.kids
  obtain ⟨A, c, e, hr⟩ := hf p
  exact ⟨A, c, hr, fun W' hg => by rw [(hm.kept hg (by simp)).look Tryd.underlying67 (zero_nodes W') p hs, e]⟩
theorem PrOk.bytes {W W' : World} {B M C : Nat} {t : List Nd} {A : Option Addr} {l : List UInt8} (h : PrOk W B t M) (hg : W.grownBy W' (some (B + 1))) (hr : RdB W C A l) : RdB W' C A l := fun k x hx => by
  obtain ⟨g, hm, _⟩ := h.kept
  obtain ⟨ad, e, hlt, hc⟩ := hr k x hx
  exact ⟨ad, e, hlt, hg.cell hc (by have := hm.no_cell hc; rw [add_block] at this; rw [add_block]; simpa using this)⟩
/-- What dir has made of the first j nodes. -/
structure DirI (w wr : World) (B M : Nat) (t : List Nd) (p : ByteArray) (A : Option Addr) (j : Nat) : Prop where
  ok : PrOk wr B t M
  rd : RdN wr M A (kidsL p t)
  hash : IsH wr (w.heap.size + 1) (((kidsL p t).take j).flatMap fun m => putL m (sumL (ndT t m)))
  res : wr.heap[w.heap.size]? = some (.cells #[.int .u64 0, .int .u64 0] 28 (0, 0))
  grown : w.grownBy wr (some (B + 1))
theorem IsH.kept {w w' : World} {b : Nat} {m : List UInt8} (h : IsH w b m) (e : w'.heap[b]? = w.heap[b]?) : IsH w' b m := by
  obtain ⟨p, h1, h2, h3⟩ := h
  exact ⟨p, h1, h2, e.trans h3⟩
theorem sum_two (m : List UInt8) : Two (sumL m) := alongN_two _ _ (atN_two _ _)
theorem take_flat {α β : Type} (f : α → List β) (l : List α) (j : Nat) (x : α) (h : l[j]? = some x) : (l.take (j + 1)).flatMap f = (l.take j).flatMap f ++ f x := by
  rw [List.take_add_one, h, List.flatMap_append]; simp

theorem hash_none : hashRow (0, 0) (restL (([] : List UInt8).length / 8) []) ([] : List UInt8).length = #[.int .u64 0, .int .u64 0, .int .u8 0, .int .u8 0, .int .u8 0, .int .u8 0, .int .u8 0, .int .u8 0, .int .u8 0, .int .u8 0, .int .i64 0] := by rfl
theorem isH_none {W : World} {b : Nat} (h : W.heap[b]? = some (.cells #[.int .u64 0, .int .u64 0, .int .u8 0, .int .u8 0, .int .u8 0, .int .u8 0, .int .u8 0, .int .u8 0, .int .u8 0, .int .u8 0, .int .i64 0] 77 (0, 0))) : IsH W b [] :=
  ⟨(0, 0), ⟨by decide, by decide⟩, fun h => absurd rfl h, by rw [hash_none]; exact h⟩

set_option maxHeartbeats 32000000 in
theorem dir_step (B M : Nat) (t : List Nd) (p : ByteArray) (w : World) (hT : MT t) (hp : p.size ≤ maxLen) (h : PrOk w B t M)
    (HO : ∀ m ∈ kidsL p t, ∀ W, PrOk W B t M → Calls Tryd.prog 24 #[.pointer (some ⟨B + 2, 0, none⟩), .agg m.cells] W (PrPost W B M t (sumL (ndT t m)))) :
    Calls Tryd.prog 42 #[.pointer (some ⟨B + 2, 0, none⟩), .string p] w (PrPost w B M t (sumL (dirT t p))) := by
  obtain ⟨A, c, hR, hlook⟩ := h.hangs p hp
  obtain ⟨q, hq⟩ : ∃ q, q = sumL (dirT t p) := ⟨_, rfl⟩
  rw [← hq]
  have HQ := hide hq
  clear hq
  obtain ⟨r0, r1, hB⟩ := two_rows w #[.int .u64 0, .int .u64 0] #[.int .u64 0, .int .u64 0, .int .u8 0, .int .u8 0, .int .u8 0, .int .u8 0, .int .u8 0, .int .u8 0, .int .u8 0, .int .u8 0, .int .i64 0] 28 77
  have hg1 := grownBy_below hB
  have e1 := hlook _ hg1
  have hRow := (h.step hg1).row
  have b0 : ((w.alloc (.cells #[.int .u64 0, .int .u64 0] 28)).alloc (.cells #[.int .u64 0, .int .u64 0, .int .u8 0, .int .u8 0, .int .u8 0, .int .u8 0, .int .u8 0, .int .u8 0, .int .u8 0, .int .u8 0, .int .i64 0] 77)).cell? ⟨B + 2, 0, none⟩ = some (.map (some B)) := cell_of_row _ _ _ _ _ _ hRow
  have hlow := h.low
  have hMw := h.size
  have H0 := hide (show DirI w ((w.alloc (.cells #[.int .u64 0, .int .u64 0] 28)).alloc (.cells #[.int .u64 0, .int .u64 0, .int .u8 0, .int .u8 0, .int .u8 0, .int .u8 0, .int .u8 0, .int .u8 0, .int .u8 0, .int .u8 0, .int .i64 0] 77)) B M t p A 0 from
    ⟨h.step hg1, hR.below (hB.mono hMw) (Nat.le_refl _), by rw [List.take_zero, List.flatMap_nil]; exact isH_none r1, r0, grown_any hg1 _⟩)
  have hK : ((kidsL p t).length : Int) ≤ 600 := by have := kids_few p hT.len; omega
  have HF := hide (show dirT t p = (kidsL p t).flatMap fun m => putL m (sumL (ndT t m)) from dirT_eq t hT.path p)
  have HOf := hide HO
  have HT := hide hT
  clear HO hT hlook hR r0 r1 hB hg1 h hRow
  go_enter Tryd.func42, Tryd.ntmps42
  go_wp2_with fail
  go_loopg [16] (kidsL p t).length (fun gk iv wr => ∃ j : Nat, iv = .int .i64 j ∧ j + gk = (kidsL p t).length ∧ Hid (DirI w wr B M t p A j))
  case atStart => exact ⟨0, rfl, by omega, H0⟩
  case round =>
    obtain ⟨j, rfl, hjg, HI⟩ := hrel
    clear H0 e1 b0
    cases gk with
    | zero =>
      obtain rfl : j = (kidsL p t).length := by omega
      have hlen := dirT_len HT.out p
      have hI := HI.out.hash
      rw [List.take_length, ← HF.out] at hI
      have HS := hide (hashSum_any _ _ wr hI (by omega))
      have HP := hide HI.out.ok
      have HG := hide HI.out.grown
      have HRes := hide HI.out.res
      rw [← HQ.out, show stV q = .agg #[.int .u64 (q.1 : Nat), .int .u64 (q.2 : Nat)] from rfl] at HS
      clear HI HF hI hlen HOf HT
      go_wp2_with (go_at_call 49; refine HS.out.mono ?_; rintro e w3 ⟨rfl, hB4⟩; have s3 := (hB4.block w.heap.size (Array.getElem?_eq_some_iff.1 HRes.out).1).trans HRes.out; have z0 : w3.frozen? ⟨w.heap.size, 0, none⟩ = false := frozen_of_row _ _ _ _ _ s3; have z1 : w3.frozen? ⟨w.heap.size, 1, none⟩ = false := frozen_of_row _ _ _ _ _ s3; have d0 : w3.cell? ⟨w.heap.size, 0, none⟩ = some (.int .u64 0) := cell_of_row _ _ _ _ _ _ s3; have d1 : w3.cell? ⟨w.heap.size, 1, none⟩ = some (.int .u64 0) := cell_of_row _ _ _ _ _ _ s3)
      obtain ⟨W7, hW7, x1, hg7⟩ := set_pair w3 w.heap.size _ _ (.int .u64 (q.1 : Nat)) (.int .u64 (q.2 : Nat)) _ s3
      have y0 := cell_of_row _ _ 0 _ _ _ x1
      have y1 := cell_of_row _ _ 1 _ _ _ x1
      have hg3 := grownBy_below hB4
      have hP7 := (HP.out.step hg3).over hg7 hMw
      have hG7 := grown_over (HG.out.trans (grown_any hg3 _)) hg7 (Nat.le_refl _)
      rw [← hW7]
      refine bodyPost_ret (v := .agg #[.int .u64 (q.1 : Nat), .int .u64 (q.2 : Nat)]) (by simp [results, Tryd.results42, go_sem, y0, y1]) rfl ⟨rfl, hP7, hG7⟩
    | succ g1 =>
      have hji : (j : Int) < (kidsL p t).length := by omega
      obtain ⟨n, hn⟩ : ∃ n, (kidsL p t)[j]? = some n := ⟨_, List.getElem?_eq_getElem (by omega)⟩
      have hmem := List.mem_of_getElem? hn
      obtain ⟨hmt, hkid⟩ := kid_mem hmem
      have hps := HT.out.path n hmt
      have hkd := HT.out.kind n hmt
      obtain ⟨ad, rfl, hlt, hnd⟩ := HI.out.rd j n hn
      have HOn := hide (HOf.out n hmem)
      have hflat : ((kidsL p t).take (j + 1)).flatMap (fun m => putL m (sumL (ndT t m))) = ((kidsL p t).take j).flatMap (fun m => putL m (sumL (ndT t m))) ++ ((groupsL (baseB n.path).size ++ toL (baseB n.path)) ++ groupsL n.kind.toNat ++ (wordL (sumL (ndT t n)).1 ++ wordL (sumL (ndT t n)).2)) := take_flat (fun m => putL m (sumL (ndT t m))) (kidsL p t) j n hn
      have hbs := base_size n.path
      have HBase := hide (fun W => base_any n.path W (by omega))
      have htl := Nat.le_trans (flat_len (fun m => putL m (sumL (ndT t m))) 640 ((kidsL p t).take j) fun m hm => putL_len m _ (HT.out.path m (kid_mem (List.mem_of_mem_take hm)).1)) (Nat.mul_le_mul_right 640 (show ((kidsL p t).take j).length ≤ 600 by rw [List.length_take]; have := kids_few p HT.out.len; omega))
      have hpl := putL_len n (sumL (ndT t n)) hps
      have hjw : IntKind.i64.wrap ((j : Int) + 1) = ((j + 1 : Nat) : Int) := by rw [IntWalk.i64_in _ (by omega)]; rfl
      obtain ⟨c0, c1, c2, c3, c4⟩ := hnd
      unfold putL at hpl
      have HFlat := hide hflat
      have HPl := hide hpl
      have HTl := hide htl
      obtain ⟨path, kind, mode, time, data⟩ := n
      simp only at c0 c1 c2 c3 c4 hps hkd hbs HBase HOn HFlat HPl
      obtain ⟨kn, rfl⟩ : ∃ kn : Nat, kind = kn := ⟨kind.toNat, by omega⟩
      have hkw : IntKind.u64.wrap (kn : Int) = (kn : Int) := IntWalk.u64_in _ (by omega)
      rw [Int.toNat_natCast] at HFlat HPl
      clear hn hmem hmt hkid hflat hpl htl hlt
      have HTwo := hide (sum_two (ndT t ⟨path, kn, mode, time, data⟩))
      generalize ndT t ⟨path, kn, mode, time, data⟩ = T at HOn HFlat HPl HTwo
      generalize sumL T = r at HOn HFlat HPl HTwo
      generalize baseB path = bs at HBase HFlat HPl hbs
      have hbs2 : bs.size ≤ 600 := by omega
      have hgl := groupsL_le bs.size
      have hgk := groupsL_le kn
      have hbl : (toL bs).length = bs.size := by simp [toL]
      obtain ⟨l1, hl1⟩ : ∃ l1, l1 = groupsL bs.size ++ toL bs := ⟨_, rfl⟩
      obtain ⟨l2, hl2⟩ : ∃ l2, l2 = l1 ++ groupsL kn := ⟨_, rfl⟩
      obtain ⟨l3, hl3⟩ : ∃ l3, l3 = l2 ++ (wordL r.1 ++ wordL r.2) := ⟨_, rfl⟩
      rw [← hl1, ← hl2, ← hl3] at HFlat HPl
      have hn1 : l1.length ≤ 610 := by rw [hl1, List.length_append]; omega
      have hn2 : l2.length ≤ 620 := by rw [hl2, List.length_append]; omega
      have HL1 := hide hl1
      have HL2 := hide hl2
      have HL3 := hide hl3
      clear hl1 hl2 hl3 hgl hgk hbl
      go_wp2_with fail
      refine (HBase.out _).mono ?_
      rintro e w3 ⟨rfl, hb3⟩
      have hT3 := putText_o none [] 0 bs w3 (RdB.nil _ _ _) (by simp) (by omega)
      rw [List.nil_append, ← HL1.out, show ([] : List UInt8).length = 0 from rfl] at hT3
      have HT3 := hide hT3
      clear hT3 HBase
      go_wp2_with fail
      refine HT3.out.mono ?_
      rintro e w4 ⟨A1, c1, rfl, _, hR4, hb4⟩
      clear HT3
      have hN4 := putNum_o A1 l1 c1 kn w4 hR4 (by omega) (by omega)
      rw [← HL2.out] at hN4
      have HN4 := hide hN4
      have hG4 := ((grownBy_below hb3).trans (grownBy_below (hb4.mono (Nat.le_refl _))))
      have n4 := (hG4.block wr.heap.size (by simp) (by simp)).trans (World.alloc_heap_new wr (Obj.cells #[.string path, .int .i64 (kn : Int), .int .i64 mode, .int .i64 time, .string data] 34))
      have k1 : w4.cell? ⟨wr.heap.size, 1, none⟩ = some (.int .i64 (kn : Int)) := cell_of_row _ _ _ _ _ _ n4
      have hgA := (World.grownBy_alloc wr (.cells #[.string path, .int .i64 (kn : Int), .int .i64 mode, .int .i64 time, .string data] 34) none).trans hG4
      clear hN4 hR4 hG4 hb3 hb4 c0 c2 c3 c4
      go_wp2_with fail
      refine HN4.out.mono ?_
      rintro e w5 ⟨A2, d2, rfl, _, hR5, hb5⟩
      have n5 := (hb5.block wr.heap.size (Array.getElem?_eq_some_iff.1 n4).1).trans n4
      have hgB := hgA.trans (grownBy_below hb5)
      have HP5 := hide (HI.out.ok.step hgB)
      have HR5 := hide hR5
      have m0 : w5.cell? ⟨wr.heap.size, 0, none⟩ = some (.string path) := cell_of_row _ _ _ _ _ _ n5
      have m1 : w5.cell? ⟨wr.heap.size, 1, none⟩ = some (.int .i64 (kn : Int)) := cell_of_row _ _ _ _ _ _ n5
      have m2 : w5.cell? ⟨wr.heap.size, 2, none⟩ = some (.int .i64 mode) := cell_of_row _ _ _ _ _ _ n5
      have m3 : w5.cell? ⟨wr.heap.size, 3, none⟩ = some (.int .i64 time) := cell_of_row _ _ _ _ _ _ n5
      have m4 : w5.cell? ⟨wr.heap.size, 4, none⟩ = some (.string data) := cell_of_row _ _ _ _ _ _ n5
      clear HN4 n4 n5 k1 hgA hb5 hR5
      go_wp2_with fail
      refine (HOn.out w5 HP5.out).mono ?_
      rintro e w6 ⟨rfl, hP6, hg6⟩
      have hR6 := (HP5.out.bytes hg6 HR5.out).mono hg6.size
      have hS6 := putSum_o A2 l2 d2 r.1 r.2 w6 hR6 (by omega) HTwo.out.1 HTwo.out.2
      rw [← HL3.out] at hS6
      have HS6 := hide hS6
      have HP6 := hide hP6
      have hgC : wr.grownBy w6 (some (B + 1)) := (grown_any hgB _).trans hg6
      clear HOn HP5 HR5 hgB hg6 hP6 hR6 hS6 m0 m1 m2 m3 m4
      go_wp2_with fail
      refine HS6.out.mono ?_
      rintro e w7 ⟨A3, d3, rfl, hO7, hR7, hb7⟩
      have hgD : wr.grownBy w7 (some (B + 1)) := hgC.trans (grown_any (grownBy_below hb7) _)
      have hhlt := (Array.getElem?_eq_some_iff.1 HI.out.res).1
      have hwr := HI.out.grown.size
      have hsz2 : w.heap.size + 1 < wr.heap.size := by obtain ⟨_, _, _, hx⟩ := HI.out.hash; exact (Array.getElem?_eq_some_iff.1 hx).1
      have hH7 : IsH w7 (w.heap.size + 1) (((kidsL p t).take j).flatMap fun m => putL m (sumL (ndT t m))) := HI.out.hash.kept (hgD.block _ hsz2 (by simp; omega))
      have hX7 : RdX w7 (w.heap.size + 1) A3 l3 := fun k x hx => by
        obtain ⟨a3, e3, _, hc3⟩ := hR7 k x hx
        refine ⟨a3, e3, ?_, hc3⟩
        subst e3
        obtain ⟨g3, cap3, hv3, hb3, _⟩ := hO7.form (by have := (List.getElem?_eq_some_iff.1 hx).1; omega)
        injection hv3 with h3
        injection h3 with h3
        subst h3
        have := hgC.size
        simp only
        omega
      have hcap := ownsRow_cap hO7
      have hW7 := writeX_any (w.heap.size + 1) _ A3 _ d3 w7 hH7 hX7 hcap (by have := HTl.out; have := HPl.out; omega)
      have HW7 := hide hW7
      have HR7 := hide (HP6.out.step (grownBy_below hb7))
      clear HS6 hO7 hR7 hX7 hH7 hW7 hcap hgC hb7 HP6
      go_wp2_with fail
      refine HW7.out.mono ?_
      rintro e w8 ⟨rfl, hI8, hg8, _⟩
      have hD8 : DirI w w8 B M t p (some ad) (j + 1) := by
        refine ⟨HR7.out.over hg8 (by omega), ?_, ?_, ?_, grown_over (HI.out.grown.trans hgD) hg8 (by omega)⟩
        · obtain ⟨g, hm, _⟩ := HI.out.ok.kept
          exact (HI.out.rd.grown hm hgD).below ((Below.refl M w7).grown hg8 HR7.out.size (fun k hk => by cases hk; omega)) (Nat.le_refl _)
        · rw [HFlat.out]; exact hI8.isH
        · exact (hg8.block _ (by have := hgD.size; omega) (by simp)).trans ((hgD.block _ hhlt (by simp; omega)).trans HI.out.res)
      have HD8 := hide hD8
      clear hD8 hI8 hg8 hgD HW7 HR7 hhlt hwr hsz2 HFlat HPl HTl
      go_wp2_with fail
      go_roundg g1
      case rel => exact ⟨j + 1, rfl, by omega, HD8⟩
      case measure => omega
end Go.Proofs.YtbklgijndjpgoaaDoor
