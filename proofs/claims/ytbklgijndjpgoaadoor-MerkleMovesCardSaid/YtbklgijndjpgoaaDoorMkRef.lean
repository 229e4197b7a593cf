/-
  The reference's Text: what is summed for a print (12.1).
-/
import Derived.Test.YtbklgijndjpgoaaDoorMkDir
import Derived.Test.YtbklgijndjpgoaaDoorVintRefPut
import Derived.Test.YtbklgijndjpgoaaDoorMixRefOf
import Derived.Deep.RegionHeld3
namespace Go.Proofs.YtbklgijndjpgoaaDoor
open Go.RowKit
set_option maxRecDepth 100000

/-- The text at a path: Data of what is there and is no directory; else of all that hangs there. -/
def rtL (t : List Nd) (p : ByteArray) : List UInt8 :=
  if (p.toList.isEmpty || decide (atL p t < 0) || decide ((t.getD (atL p t).toNat ⟨⟨#[]⟩, 1, 0, 0, ⟨#[]⟩⟩).kind = 1)) = true then dirT t p else toL (t.getD (atL p t).toNat ⟨⟨#[]⟩, 1, 0, 0, ⟨#[]⟩⟩).data
theorem ofL_toL (s : ByteArray) : ofL (toL s) = s := toL_inj (by simp [toL, ofL])

theorem rt_cases (t : List Nd) (p : ByteArray) :
    (p.toList.isEmpty = true ∧ rtL t p = dirT t p) ∨ (p.toList.isEmpty = false ∧ atL p t = -1 ∧ rtL t p = dirT t p) ∨
    (∃ k n, p.toList.isEmpty = false ∧ atL p t = ((k : Nat) : Int) ∧ t[k]? = some n ∧ (n.kind == 1) = true ∧ rtL t p = dirT t p) ∨
    (∃ k n, p.toList.isEmpty = false ∧ atL p t = ((k : Nat) : Int) ∧ t[k]? = some n ∧ (n.kind == 1) = false ∧ rtL t p = toL n.data) := by
  unfold rtL
  cases he : p.toList.isEmpty with
  | true => exact .inl ⟨rfl, by simp⟩
  | false =>
    rcases at_cases p t with h | ⟨k, n, h, hn, _⟩
    · exact .inr (.inl ⟨rfl, h, by rw [h]; simp⟩)
    · have e : t.getD (atL p t).toNat ⟨⟨#[]⟩, 1, 0, 0, ⟨#[]⟩⟩ = n := by rw [h, Int.toNat_natCast, List.getD_eq_getElem?_getD, hn]; rfl
      have hz : ¬ atL p t < 0 := by omega
      rw [e]
      by_cases hk : n.kind = 1
      · exact .inr (.inr (.inl ⟨k, n, rfl, h, hn, by simpa using hk, by simp [hk]⟩))
      · exact .inr (.inr (.inr ⟨k, n, rfl, h, hn, by simpa using hk, by simp [hk, hz]⟩))

theorem at_here : ∀ (t : List Nd) (n : Nd) (i : Nat), t.Pairwise (fun a b => a.path ≠ b.path) → n ∈ t → ∃ k, atFrom n.path i t = ((i + k : Nat) : Int) ∧ t[k]? = some n
  | [], n, i, _, h => by cases h
  | m :: t, n, i, hp, h => by
    obtain ⟨h1, h2⟩ := List.pairwise_cons.1 hp
    unfold atFrom
    rcases List.mem_cons.1 h with rfl | h
    · exact ⟨0, by rw [if_pos (by simp [hit])]; rfl, rfl⟩
    · have hne : hit n.path m = false := by
        unfold hit
        rw [beq_eq_false_iff_ne]
        intro e
        exact h1 n h (toL_inj (by rw [← toL_list, ← toL_list, e]))
      obtain ⟨k, h3, h4⟩ := at_here t n (i + 1) h2 h
      exact ⟨k + 1, by rw [hne, if_neg (by decide), h3]; congr 1; omega, h4⟩
/-- The node at a node's path is that node. -/
theorem at_mem {t : List Nd} (hT : MT t) {n : Nd} (h : n ∈ t) : ∃ k, atL n.path t = ((k : Nat) : Int) ∧ t[k]? = some n := by
  obtain ⟨k, h1, h2⟩ := at_here t n 0 hT.apart h
  exact ⟨k, by unfold atL; rw [h1]; congr 1; omega, h2⟩
theorem rt_node {t : List Nd} (hT : MT t) {n : Nd} (h : n ∈ t) : rtL t n.path = ndT t n := by
  obtain ⟨k, h1, h2⟩ := at_mem hT h
  unfold ndT
  rcases rt_cases t n.path with ⟨he, e⟩ | ⟨_, h3, _⟩ | ⟨k', n', _, h3, h4, hk, e⟩ | ⟨k', n', _, h3, h4, hk, e⟩
  · rw [hT.named n h] at he; cases he
  · omega
  · obtain rfl : k = k' := by omega
    rw [h2] at h4
    injection h4 with h4
    subst h4
    rw [e, if_pos (by simpa using hk)]
  · obtain rfl : k = k' := by omega
    rw [h2] at h4
    injection h4 with h4
    subst h4
    rw [e, if_neg (by simpa using hk)]

set_option maxHeartbeats 32000000 in
theorem refTx_step (A : Option Addr) (t : List Nd) (c : Nat) (p : ByteArray) (w : World) (hA : RdN w w.heap.size A t) (hT : MT t)
    (HT : ∀ m ∈ kidsL p t, ∀ W, RdN W W.heap.size A t → Calls Tryd.prog 25 #[.slice A t.length c, .string m.path] W (TextIs W (ndT t m))) :
    Calls Tryd.prog 25 #[.slice A t.length c, .string p] w (TextIs w (rtL t p)) := by
  have hl : (t.length : Int) ≤ 600 := by have := hT.len; omega
  have HAt := hide (refAt_any A t c p w hA (by omega))
  have HCases := hide (rt_cases t p)
  generalize rtL t p = V at HCases ⊢
  have HF := hide (show dirT t p = (kidsL p t).flatMap fun m => putL m (sumL (ndT t m)) from dirT_eq t hT.path p)
  have HTx := hide HT
  have HM := hide hT
  have HA := hide hA
  have hf : FewN t := fun k m hm => ⟨by have := hT.path m (List.mem_of_getElem? hm); omega, by have := hT.data m (List.mem_of_getElem? hm); omega⟩
  have HKids := hide (fun (W : World) (h : RdN W W.heap.size A t) => refKids_any A t c p W h hf (by omega))
  generalize atL p t = z at HAt HCases
  have hK : ((kidsL p t).length : Int) ≤ 600 := by have := kids_few p hT.len; omega
  clear hT hA hf HT
  go_enter Tryd.func25, Tryd.ntmps25
  go_wp2_with fail
  refine HAt.out.mono ?_
  rintro e w1 ⟨rfl, hb1⟩
  have HR1 := hide (HA.out.step hb1)
  clear HAt HA
  have hcs := HCases.out
  clear HCases
  rcases hcs with ⟨he, rfl⟩ | ⟨he, rfl, rfl⟩ | ⟨k, n, he, rfl, hn, hk, rfl⟩ | ⟨k, n, he, rfl, hn, hk, rfl⟩
  · go_wp2_with fail
    refine (HKids.out w1 HR1.out).mono ?_
    rintro e w2 ⟨v, rfl, hNI⟩
    obtain ⟨D, d, rfl⟩ := ownsRow_slice hNI.own
    have HRt := hide (HR1.out.step hNI.below)
    have HRk := hide (RdN.own hNI.own)
    have HB2 := hide (hb1.trans (hNI.below.mono hb1.size))
    clear HR1 HKids hNI hb1
    go_wp2_with fail
    go_loopg [7, 8] (kidsL p t).length (fun gk ov iv wr => ∃ j : Nat, ov = .string (ofL (((kidsL p t).take j).flatMap fun m => putL m (sumL (ndT t m)))) ∧ iv = .int .i64 j ∧ j + gk = (kidsL p t).length ∧ Hid (RdN wr wr.heap.size A t) ∧ Hid (RdN wr wr.heap.size D (kidsL p t)) ∧ Hid (Below w.heap.size w wr))
    case atStart => exact ⟨0, rfl, rfl, by omega, HRt, HRk, HB2⟩
    case round =>
      obtain ⟨j, rfl, rfl, hjg, HRt, HRk, HB⟩ := hrel
      cases gk with
      | zero =>
        obtain rfl : j = (kidsL p t).length := by omega
        have HE := hide (show ((kidsL p t).take (kidsL p t).length).flatMap (fun m => putL m (sumL (ndT t m))) = dirT t p by rw [List.take_length, HF.out])
        go_wp2_with fail
        exact bodyPost_ret (results_tmp rfl _ _ _) rfl ⟨by rw [HE.out]; rfl, HB.out⟩
      | succ g1 =>
        have hji : (j : Int) < (kidsL p t).length := by omega
        obtain ⟨n, hn⟩ : ∃ n, (kidsL p t)[j]? = some n := ⟨_, List.getElem?_eq_getElem (by omega)⟩
        have hmem := List.mem_of_getElem? hn
        obtain ⟨hmt, _⟩ := kid_mem hmem
        have hps := HM.out.path n hmt
        have hkd := HM.out.kind n hmt
        have hdt := ndT_len HM.out n (HM.out.data n hmt)
        have htl := Nat.le_trans (flat_len (fun m => putL m (sumL (ndT t m))) 640 ((kidsL p t).take j) fun m hm => putL_len m _ (HM.out.path m (kid_mem (List.mem_of_mem_take hm)).1)) (Nat.mul_le_mul_right 640 (show ((kidsL p t).take j).length ≤ 600 by rw [List.length_take]; omega))
        obtain ⟨ad, rfl, hlt, hnd⟩ := HRk.out j n hn
        have hflat : ((kidsL p t).take (j + 1)).flatMap (fun m => putL m (sumL (ndT t m))) = ((kidsL p t).take j).flatMap (fun m => putL m (sumL (ndT t m))) ++ ((groupsL (baseB n.path).size ++ toL (baseB n.path)) ++ groupsL n.kind.toNat ++ (wordL (sumL (ndT t n)).1 ++ wordL (sumL (ndT t n)).2)) := take_flat (fun m => putL m (sumL (ndT t m))) (kidsL p t) j n hn
        have HTn := hide (HTx.out n hmem)
        have HBn := hide (base_names n.path)
        have hbs := base_size n.path
        have HBase := hide (fun W => refBase_any n.path W (by omega))
        obtain ⟨c0, c1, _, _, _⟩ := hnd
        obtain ⟨path, kind, mode, time, data⟩ := n
        simp only at c0 c1 hps hkd hbs HBase HTn HBn hflat
        obtain ⟨kn, rfl⟩ : ∃ kn : Nat, kind = kn := ⟨kind.toNat, by omega⟩
        have hkw : IntKind.u64.wrap (kn : Int) = (kn : Int) := IntWalk.u64_in _ (by omega)
        have hjw : IntKind.i64.wrap ((j : Int) + 1) = ((j + 1 : Nat) : Int) := by rw [IntWalk.i64_in _ (by omega)]; rfl
        have hj0 : (0 : Int) ≤ (j : Int) := by omega
        rw [Int.toNat_natCast] at hflat
        have HTwo := hide (sum_two (ndT t ⟨path, kn, mode, time, data⟩))
        generalize ndT t ⟨path, kn, mode, time, data⟩ = T at HTn hflat HTwo hdt
        have HOf := hide (fun W => refOf_any T W (by omega))
        rw [show stV (sumL T) = .agg #[.int .u64 ((sumL T).1 : Nat), .int .u64 ((sumL T).2 : Nat)] from rfl] at HOf
        generalize sumL T = r at HOf hflat HTwo
        generalize baseB path = bs at HBn hflat hbs
        have hgl := groupsL_le bs.size
        have hgk := groupsL_le kn
        have hbl : (toL bs).length = bs.size := by simp [toL]
        have hw1 := wordL_len r.1
        have hw2 := wordL_len r.2
        obtain ⟨l1, hl1⟩ : ∃ l1, l1 = groupsL bs.size ++ toL bs := ⟨_, rfl⟩
        obtain ⟨l2, hl2⟩ : ∃ l2, l2 = groupsL kn := ⟨_, rfl⟩
        obtain ⟨l3, hl3⟩ : ∃ l3, l3 = wordL r.1 ++ wordL r.2 := ⟨_, rfl⟩
        have hs1 : (ofL l1).size ≤ 610 := by rw [ofL_size, hl1, List.length_append]; omega
        have hs2 : (ofL l2).size ≤ 610 := by rw [ofL_size, hl2]; omega
        have hs3 : (ofL l3).size ≤ 610 := by rw [ofL_size, hl3, List.length_append]; omega
        rw [← hl1, ← hl2, ← hl3] at hflat
        have HText := hide (show ∀ W, Calls Tryd.prog 44 #[.string bs] W fun e w' => e = .returned (.string (ofL l1)) ∧ Below W.heap.size W w' from fun W => by rw [hl1]; exact refText_any bs W (by omega))
        have HNum := hide (show ∀ W, Calls Tryd.prog 46 #[.int .u64 kn] W fun e w' => e = .returned (.string (ofL l2)) ∧ Below W.heap.size W w' from fun W => by rw [hl2]; exact refNum_any kn W (by omega))
        have HSum := hide (show ∀ W, Calls Tryd.prog 47 #[.agg #[.int .u64 r.1, .int .u64 r.2]] W fun e w' => e = .returned (.string (ofL l3)) ∧ Below W.heap.size W w' from fun W => by rw [hl3]; exact refSum_any r.1 r.2 W HTwo.out.1 HTwo.out.2)
        have hbwr := hlt
        have HC := hide (fun (W : World) (hb : Below wr.heap.size wr W) => (⟨(hb.cell (by rw [add_block]; exact hlt)).trans c0, (hb.cell (p := ⟨_, _, none⟩) (by rw [add_block]; exact hlt)).trans c1⟩ : W.cell? (ad.add (j * 5)) = some (.string path) ∧ W.cell? ⟨(ad.add (j * 5)).block, (ad.add (j * 5)).off + 1, none⟩ = some (.int .i64 (kn : Int))))
        have H0 := hide (HC.out wr.drew (Below.refl _ _).drew)
        generalize ((kidsL p t).take j).flatMap (fun m => putL m (sumL (ndT t m))) = O at hflat htl ⊢
        have hs0 : (ofL O).size ≤ 384000 := by rw [ofL_size]; omega
        have hfl2 : ofL (((kidsL p t).take (j + 1)).flatMap fun m => putL m (sumL (ndT t m))) = ofL O ++ ofL l1 ++ ofL l2 ++ ofL l3 := by
          rw [hflat]
          apply toL_inj
          simp [toL, ofL]
        clear hflat
        generalize ofL O = s0 at hs0 hfl2 ⊢
        generalize ofL l1 = s1 at hs1 hfl2 HText
        generalize ofL l2 = s2 at hs2 hfl2 HNum
        generalize ofL l3 = s3 at hs3 hfl2 HSum
        have HFl := hide hfl2
        have q1 : ¬ 9223372036854775807 < s0.size + s1.size := by omega
        have q2 : ¬ 9223372036854775807 < s0.size + s1.size + s2.size := by omega
        have q3 : ¬ 9223372036854775807 < s0.size + s1.size + s2.size + s3.size := by omega
        clear hn hmem hmt hlt c0 c1 hdt hfl2 hs0 hs1 hs2 hs3 hl1 hl2 hl3 hgl hgk hbl hw1 hw2 htl
        go_wp2_with fail
        go_region_held3 (fun w' => w'.cell? (ad.add (j * 5)) = some (.string path) ∧ w'.cell? ⟨(ad.add (j * 5)).block, (ad.add (j * 5)).off + 1, none⟩ = some (.int .i64 (kn : Int)))
          (first | exact H0.out | exact Ka.out | exact Kb.out | exact Kc.out | exact Kd.out | exact Ke.out | exact Kf.out)
          (first
            | (go_at_call 45
               refine (HBase.out _).mono ?_
               rintro e wa ⟨⟨g, rfl, hg⟩, hba⟩
               obtain rfl : g = bs := toL_inj (hg.trans HBn.out.symm)
               have Ba : Below wr.heap.size wr wa := (Below.refl _ wr).drew.trans hba
               have Ka := hide (HC.out wa Ba))
            | (go_at_call 44
               refine (HText.out _).mono ?_
               rintro e wb ⟨rfl, hbb⟩
               have Bb := Ba.trans (hbb.mono Ba.size)
               have Kb := hide (HC.out wb Bb))
            | (go_at_call 46
               refine (HNum.out _).mono ?_
               rintro e wc ⟨rfl, hbc⟩
               have Bc := Bb.trans (hbc.mono Bb.size)
               have Kc := hide (HC.out wc Bc)
               have Rc := hide (HRt.out.step Bc))
            | (go_at_call 25
               refine (HTn.out wc Rc.out).mono ?_
               rintro e wd ⟨rfl, hbd⟩
               have Bd := Bc.trans (hbd.mono Bc.size)
               have Kd := hide (HC.out wd Bd))
            | (go_at_call 13
               refine (HOf.out _).mono ?_
               rintro e we ⟨rfl, hbe⟩
               have Be := Bd.trans (hbe.mono Bd.size)
               have Ke := hide (HC.out we Be))
            | (go_at_call 47
               refine (HSum.out _).mono ?_
               rintro e wf ⟨rfl, hbf⟩
               have Bf := Be.trans (hbf.mono Be.size)
               have Kf := hide (HC.out wf Bf)))
        have Hx1 := hide (HRt.out.step Bf)
        have Hx2 := hide (HRk.out.step Bf)
        have Hx3 := hide (HB.out.trans (Bf.mono HB.out.size))
        clear H0 Ka Kb Kc Kd Ke Kf Ba Bb Bc Bd Be Bf Rc HRt HRk HB HC HTn HOf HText HNum HSum HBase
        go_wp2_with fail
        go_roundg g1
        case rel => exact ⟨j + 1, by rw [HFl.out], rfl, by omega, Hx1, Hx2, Hx3⟩
        case measure => omega
  · go_wp2_with fail
    refine (HKids.out w1 HR1.out).mono ?_
    rintro e w2 ⟨v, rfl, hNI⟩
    obtain ⟨D, d, rfl⟩ := ownsRow_slice hNI.own
    have HRt := hide (HR1.out.step hNI.below)
    have HRk := hide (RdN.own hNI.own)
    have HB2 := hide (hb1.trans (hNI.below.mono hb1.size))
    clear HR1 HKids hNI hb1
    go_wp2_with fail
    go_loopg [7, 8] (kidsL p t).length (fun gk ov iv wr => ∃ j : Nat, ov = .string (ofL (((kidsL p t).take j).flatMap fun m => putL m (sumL (ndT t m)))) ∧ iv = .int .i64 j ∧ j + gk = (kidsL p t).length ∧ Hid (RdN wr wr.heap.size A t) ∧ Hid (RdN wr wr.heap.size D (kidsL p t)) ∧ Hid (Below w.heap.size w wr))
    case atStart => exact ⟨0, rfl, rfl, by omega, HRt, HRk, HB2⟩
    case round =>
      obtain ⟨j, rfl, rfl, hjg, HRt, HRk, HB⟩ := hrel
      cases gk with
      | zero =>
        obtain rfl : j = (kidsL p t).length := by omega
        have HE := hide (show ((kidsL p t).take (kidsL p t).length).flatMap (fun m => putL m (sumL (ndT t m))) = dirT t p by rw [List.take_length, HF.out])
        go_wp2_with fail
        exact bodyPost_ret (results_tmp rfl _ _ _) rfl ⟨by rw [HE.out]; rfl, HB.out⟩
      | succ g1 =>
        have hji : (j : Int) < (kidsL p t).length := by omega
        obtain ⟨n, hn⟩ : ∃ n, (kidsL p t)[j]? = some n := ⟨_, List.getElem?_eq_getElem (by omega)⟩
        have hmem := List.mem_of_getElem? hn
        obtain ⟨hmt, _⟩ := kid_mem hmem
        have hps := HM.out.path n hmt
        have hkd := HM.out.kind n hmt
        have hdt := ndT_len HM.out n (HM.out.data n hmt)
        have htl := Nat.le_trans (flat_len (fun m => putL m (sumL (ndT t m))) 640 ((kidsL p t).take j) fun m hm => putL_len m _ (HM.out.path m (kid_mem (List.mem_of_mem_take hm)).1)) (Nat.mul_le_mul_right 640 (show ((kidsL p t).take j).length ≤ 600 by rw [List.length_take]; omega))
        obtain ⟨ad, rfl, hlt, hnd⟩ := HRk.out j n hn
        have hflat : ((kidsL p t).take (j + 1)).flatMap (fun m => putL m (sumL (ndT t m))) = ((kidsL p t).take j).flatMap (fun m => putL m (sumL (ndT t m))) ++ ((groupsL (baseB n.path).size ++ toL (baseB n.path)) ++ groupsL n.kind.toNat ++ (wordL (sumL (ndT t n)).1 ++ wordL (sumL (ndT t n)).2)) := take_flat (fun m => putL m (sumL (ndT t m))) (kidsL p t) j n hn
        have HTn := hide (HTx.out n hmem)
        have HBn := hide (base_names n.path)
        have hbs := base_size n.path
        have HBase := hide (fun W => refBase_any n.path W (by omega))
        obtain ⟨c0, c1, _, _, _⟩ := hnd
        obtain ⟨path, kind, mode, time, data⟩ := n
        simp only at c0 c1 hps hkd hbs HBase HTn HBn hflat
        obtain ⟨kn, rfl⟩ : ∃ kn : Nat, kind = kn := ⟨kind.toNat, by omega⟩
        have hkw : IntKind.u64.wrap (kn : Int) = (kn : Int) := IntWalk.u64_in _ (by omega)
        have hjw : IntKind.i64.wrap ((j : Int) + 1) = ((j + 1 : Nat) : Int) := by rw [IntWalk.i64_in _ (by omega)]; rfl
        have hj0 : (0 : Int) ≤ (j : Int) := by omega
        rw [Int.toNat_natCast] at hflat
        have HTwo := hide (sum_two (ndT t ⟨path, kn, mode, time, data⟩))
        generalize ndT t ⟨path, kn, mode, time, data⟩ = T at HTn hflat HTwo hdt
        have HOf := hide (fun W => refOf_any T W (by omega))
        rw [show stV (sumL T) = .agg #[.int .u64 ((sumL T).1 : Nat), .int .u64 ((sumL T).2 : Nat)] from rfl] at HOf
        generalize sumL T = r at HOf hflat HTwo
        generalize baseB path = bs at HBn hflat hbs
        have hgl := groupsL_le bs.size
        have hgk := groupsL_le kn
        have hbl : (toL bs).length = bs.size := by simp [toL]
        have hw1 := wordL_len r.1
        have hw2 := wordL_len r.2
        obtain ⟨l1, hl1⟩ : ∃ l1, l1 = groupsL bs.size ++ toL bs := ⟨_, rfl⟩
        obtain ⟨l2, hl2⟩ : ∃ l2, l2 = groupsL kn := ⟨_, rfl⟩
        obtain ⟨l3, hl3⟩ : ∃ l3, l3 = wordL r.1 ++ wordL r.2 := ⟨_, rfl⟩
        have hs1 : (ofL l1).size ≤ 610 := by rw [ofL_size, hl1, List.length_append]; omega
        have hs2 : (ofL l2).size ≤ 610 := by rw [ofL_size, hl2]; omega
        have hs3 : (ofL l3).size ≤ 610 := by rw [ofL_size, hl3, List.length_append]; omega
        rw [← hl1, ← hl2, ← hl3] at hflat
        have HText := hide (show ∀ W, Calls Tryd.prog 44 #[.string bs] W fun e w' => e = .returned (.string (ofL l1)) ∧ Below W.heap.size W w' from fun W => by rw [hl1]; exact refText_any bs W (by omega))
        have HNum := hide (show ∀ W, Calls Tryd.prog 46 #[.int .u64 kn] W fun e w' => e = .returned (.string (ofL l2)) ∧ Below W.heap.size W w' from fun W => by rw [hl2]; exact refNum_any kn W (by omega))
        have HSum := hide (show ∀ W, Calls Tryd.prog 47 #[.agg #[.int .u64 r.1, .int .u64 r.2]] W fun e w' => e = .returned (.string (ofL l3)) ∧ Below W.heap.size W w' from fun W => by rw [hl3]; exact refSum_any r.1 r.2 W HTwo.out.1 HTwo.out.2)
        have hbwr := hlt
        have HC := hide (fun (W : World) (hb : Below wr.heap.size wr W) => (⟨(hb.cell (by rw [add_block]; exact hlt)).trans c0, (hb.cell (p := ⟨_, _, none⟩) (by rw [add_block]; exact hlt)).trans c1⟩ : W.cell? (ad.add (j * 5)) = some (.string path) ∧ W.cell? ⟨(ad.add (j * 5)).block, (ad.add (j * 5)).off + 1, none⟩ = some (.int .i64 (kn : Int))))
        have H0 := hide (HC.out wr.drew (Below.refl _ _).drew)
        generalize ((kidsL p t).take j).flatMap (fun m => putL m (sumL (ndT t m))) = O at hflat htl ⊢
        have hs0 : (ofL O).size ≤ 384000 := by rw [ofL_size]; omega
        have hfl2 : ofL (((kidsL p t).take (j + 1)).flatMap fun m => putL m (sumL (ndT t m))) = ofL O ++ ofL l1 ++ ofL l2 ++ ofL l3 := by
          rw [hflat]
          apply toL_inj
          simp [toL, ofL]
        clear hflat
        generalize ofL O = s0 at hs0 hfl2 ⊢
        generalize ofL l1 = s1 at hs1 hfl2 HText
        generalize ofL l2 = s2 at hs2 hfl2 HNum
        generalize ofL l3 = s3 at hs3 hfl2 HSum
        have HFl := hide hfl2
        have q1 : ¬ 9223372036854775807 < s0.size + s1.size := by omega
        have q2 : ¬ 9223372036854775807 < s0.size + s1.size + s2.size := by omega
        have q3 : ¬ 9223372036854775807 < s0.size + s1.size + s2.size + s3.size := by omega
        clear hn hmem hmt hlt c0 c1 hdt hfl2 hs0 hs1 hs2 hs3 hl1 hl2 hl3 hgl hgk hbl hw1 hw2 htl
        go_wp2_with fail
        go_region_held3 (fun w' => w'.cell? (ad.add (j * 5)) = some (.string path) ∧ w'.cell? ⟨(ad.add (j * 5)).block, (ad.add (j * 5)).off + 1, none⟩ = some (.int .i64 (kn : Int)))
          (first | exact H0.out | exact Ka.out | exact Kb.out | exact Kc.out | exact Kd.out | exact Ke.out | exact Kf.out)
          (first
            | (go_at_call 45
               refine (HBase.out _).mono ?_
               rintro e wa ⟨⟨g, rfl, hg⟩, hba⟩
               obtain rfl : g = bs := toL_inj (hg.trans HBn.out.symm)
               have Ba : Below wr.heap.size wr wa := (Below.refl _ wr).drew.trans hba
               have Ka := hide (HC.out wa Ba))
            | (go_at_call 44
               refine (HText.out _).mono ?_
               rintro e wb ⟨rfl, hbb⟩
               have Bb := Ba.trans (hbb.mono Ba.size)
               have Kb := hide (HC.out wb Bb))
            | (go_at_call 46
               refine (HNum.out _).mono ?_
               rintro e wc ⟨rfl, hbc⟩
               have Bc := Bb.trans (hbc.mono Bb.size)
               have Kc := hide (HC.out wc Bc)
               have Rc := hide (HRt.out.step Bc))
            | (go_at_call 25
               refine (HTn.out wc Rc.out).mono ?_
               rintro e wd ⟨rfl, hbd⟩
               have Bd := Bc.trans (hbd.mono Bc.size)
               have Kd := hide (HC.out wd Bd))
            | (go_at_call 13
               refine (HOf.out _).mono ?_
               rintro e we ⟨rfl, hbe⟩
               have Be := Bd.trans (hbe.mono Bd.size)
               have Ke := hide (HC.out we Be))
            | (go_at_call 47
               refine (HSum.out _).mono ?_
               rintro e wf ⟨rfl, hbf⟩
               have Bf := Be.trans (hbf.mono Be.size)
               have Kf := hide (HC.out wf Bf)))
        have Hx1 := hide (HRt.out.step Bf)
        have Hx2 := hide (HRk.out.step Bf)
        have Hx3 := hide (HB.out.trans (Bf.mono HB.out.size))
        clear H0 Ka Kb Kc Kd Ke Kf Ba Bb Bc Bd Be Bf Rc HRt HRk HB HC HTn HOf HText HNum HSum HBase
        go_wp2_with fail
        go_roundg g1
        case rel => exact ⟨j + 1, by rw [HFl.out], rfl, by omega, Hx1, Hx2, Hx3⟩
        case measure => omega
  · obtain ⟨ax, rfl, hltx, hndx⟩ := HR1.out k n hn
    have hki : (k : Int) < t.length := by have := (List.getElem?_eq_some_iff.1 hn).1; omega
    have f1 := hndx.kind
    have f4 := hndx.data
    have hk0 : (0 : Int) ≤ (k : Int) := by omega
    clear hltx hndx hn
    obtain ⟨npath, nkind, nmode, ntime, ndata⟩ := n
    simp only at hk f1 f4
    go_wp2_with fail
    refine (HKids.out w1 HR1.out).mono ?_
    rintro e w2 ⟨v, rfl, hNI⟩
    obtain ⟨D, d, rfl⟩ := ownsRow_slice hNI.own
    have HRt := hide (HR1.out.step hNI.below)
    have HRk := hide (RdN.own hNI.own)
    have HB2 := hide (hb1.trans (hNI.below.mono hb1.size))
    clear HR1 HKids hNI hb1
    go_wp2_with fail
    go_loopg [7, 8] (kidsL p t).length (fun gk ov iv wr => ∃ j : Nat, ov = .string (ofL (((kidsL p t).take j).flatMap fun m => putL m (sumL (ndT t m)))) ∧ iv = .int .i64 j ∧ j + gk = (kidsL p t).length ∧ Hid (RdN wr wr.heap.size (some ax) t) ∧ Hid (RdN wr wr.heap.size D (kidsL p t)) ∧ Hid (Below w.heap.size w wr))
    case atStart => exact ⟨0, rfl, rfl, by omega, HRt, HRk, HB2⟩
    case round =>
      obtain ⟨j, rfl, rfl, hjg, HRt, HRk, HB⟩ := hrel
      cases gk with
      | zero =>
        obtain rfl : j = (kidsL p t).length := by omega
        have HE := hide (show ((kidsL p t).take (kidsL p t).length).flatMap (fun m => putL m (sumL (ndT t m))) = dirT t p by rw [List.take_length, HF.out])
        go_wp2_with fail
        exact bodyPost_ret (results_tmp rfl _ _ _) rfl ⟨by rw [HE.out]; rfl, HB.out⟩
      | succ g1 =>
        have hji : (j : Int) < (kidsL p t).length := by omega
        obtain ⟨n, hn⟩ : ∃ n, (kidsL p t)[j]? = some n := ⟨_, List.getElem?_eq_getElem (by omega)⟩
        have hmem := List.mem_of_getElem? hn
        obtain ⟨hmt, _⟩ := kid_mem hmem
        have hps := HM.out.path n hmt
        have hkd := HM.out.kind n hmt
        have hdt := ndT_len HM.out n (HM.out.data n hmt)
        have htl := Nat.le_trans (flat_len (fun m => putL m (sumL (ndT t m))) 640 ((kidsL p t).take j) fun m hm => putL_len m _ (HM.out.path m (kid_mem (List.mem_of_mem_take hm)).1)) (Nat.mul_le_mul_right 640 (show ((kidsL p t).take j).length ≤ 600 by rw [List.length_take]; omega))
        obtain ⟨ad, rfl, hlt, hnd⟩ := HRk.out j n hn
        have hflat : ((kidsL p t).take (j + 1)).flatMap (fun m => putL m (sumL (ndT t m))) = ((kidsL p t).take j).flatMap (fun m => putL m (sumL (ndT t m))) ++ ((groupsL (baseB n.path).size ++ toL (baseB n.path)) ++ groupsL n.kind.toNat ++ (wordL (sumL (ndT t n)).1 ++ wordL (sumL (ndT t n)).2)) := take_flat (fun m => putL m (sumL (ndT t m))) (kidsL p t) j n hn
        have HTn := hide (HTx.out n hmem)
        have HBn := hide (base_names n.path)
        have hbs := base_size n.path
        have HBase := hide (fun W => refBase_any n.path W (by omega))
        obtain ⟨c0, c1, _, _, _⟩ := hnd
        obtain ⟨path, kind, mode, time, data⟩ := n
        simp only at c0 c1 hps hkd hbs HBase HTn HBn hflat
        obtain ⟨kn, rfl⟩ : ∃ kn : Nat, kind = kn := ⟨kind.toNat, by omega⟩
        have hkw : IntKind.u64.wrap (kn : Int) = (kn : Int) := IntWalk.u64_in _ (by omega)
        have hjw : IntKind.i64.wrap ((j : Int) + 1) = ((j + 1 : Nat) : Int) := by rw [IntWalk.i64_in _ (by omega)]; rfl
        have hj0 : (0 : Int) ≤ (j : Int) := by omega
        rw [Int.toNat_natCast] at hflat
        have HTwo := hide (sum_two (ndT t ⟨path, kn, mode, time, data⟩))
        generalize ndT t ⟨path, kn, mode, time, data⟩ = T at HTn hflat HTwo hdt
        have HOf := hide (fun W => refOf_any T W (by omega))
        rw [show stV (sumL T) = .agg #[.int .u64 ((sumL T).1 : Nat), .int .u64 ((sumL T).2 : Nat)] from rfl] at HOf
        generalize sumL T = r at HOf hflat HTwo
        generalize baseB path = bs at HBn hflat hbs
        have hgl := groupsL_le bs.size
        have hgk := groupsL_le kn
        have hbl : (toL bs).length = bs.size := by simp [toL]
        have hw1 := wordL_len r.1
        have hw2 := wordL_len r.2
        obtain ⟨l1, hl1⟩ : ∃ l1, l1 = groupsL bs.size ++ toL bs := ⟨_, rfl⟩
        obtain ⟨l2, hl2⟩ : ∃ l2, l2 = groupsL kn := ⟨_, rfl⟩
        obtain ⟨l3, hl3⟩ : ∃ l3, l3 = wordL r.1 ++ wordL r.2 := ⟨_, rfl⟩
        have hs1 : (ofL l1).size ≤ 610 := by rw [ofL_size, hl1, List.length_append]; omega
        have hs2 : (ofL l2).size ≤ 610 := by rw [ofL_size, hl2]; omega
        have hs3 : (ofL l3).size ≤ 610 := by rw [ofL_size, hl3, List.length_append]; omega
        rw [← hl1, ← hl2, ← hl3] at hflat
        have HText := hide (show ∀ W, Calls Tryd.prog 44 #[.string bs] W fun e w' => e = .returned (.string (ofL l1)) ∧ Below W.heap.size W w' from fun W => by rw [hl1]; exact refText_any bs W (by omega))
        have HNum := hide (show ∀ W, Calls Tryd.prog 46 #[.int .u64 kn] W fun e w' => e = .returned (.string (ofL l2)) ∧ Below W.heap.size W w' from fun W => by rw [hl2]; exact refNum_any kn W (by omega))
        have HSum := hide (show ∀ W, Calls Tryd.prog 47 #[.agg #[.int .u64 r.1, .int .u64 r.2]] W fun e w' => e = .returned (.string (ofL l3)) ∧ Below W.heap.size W w' from fun W => by rw [hl3]; exact refSum_any r.1 r.2 W HTwo.out.1 HTwo.out.2)
        have hbwr := hlt
        have HC := hide (fun (W : World) (hb : Below wr.heap.size wr W) => (⟨(hb.cell (by rw [add_block]; exact hlt)).trans c0, (hb.cell (p := ⟨_, _, none⟩) (by rw [add_block]; exact hlt)).trans c1⟩ : W.cell? (ad.add (j * 5)) = some (.string path) ∧ W.cell? ⟨(ad.add (j * 5)).block, (ad.add (j * 5)).off + 1, none⟩ = some (.int .i64 (kn : Int))))
        have H0 := hide (HC.out wr.drew (Below.refl _ _).drew)
        generalize ((kidsL p t).take j).flatMap (fun m => putL m (sumL (ndT t m))) = O at hflat htl ⊢
        have hs0 : (ofL O).size ≤ 384000 := by rw [ofL_size]; omega
        have hfl2 : ofL (((kidsL p t).take (j + 1)).flatMap fun m => putL m (sumL (ndT t m))) = ofL O ++ ofL l1 ++ ofL l2 ++ ofL l3 := by
          rw [hflat]
          apply toL_inj
          simp [toL, ofL]
        clear hflat
        generalize ofL O = s0 at hs0 hfl2 ⊢
        generalize ofL l1 = s1 at hs1 hfl2 HText
        generalize ofL l2 = s2 at hs2 hfl2 HNum
        generalize ofL l3 = s3 at hs3 hfl2 HSum
        have HFl := hide hfl2
        have q1 : ¬ 9223372036854775807 < s0.size + s1.size := by omega
        have q2 : ¬ 9223372036854775807 < s0.size + s1.size + s2.size := by omega
        have q3 : ¬ 9223372036854775807 < s0.size + s1.size + s2.size + s3.size := by omega
        clear hn hmem hmt hlt c0 c1 hdt hfl2 hs0 hs1 hs2 hs3 hl1 hl2 hl3 hgl hgk hbl hw1 hw2 htl
        go_wp2_with fail
        go_region_held3 (fun w' => w'.cell? (ad.add (j * 5)) = some (.string path) ∧ w'.cell? ⟨(ad.add (j * 5)).block, (ad.add (j * 5)).off + 1, none⟩ = some (.int .i64 (kn : Int)))
          (first | exact H0.out | exact Ka.out | exact Kb.out | exact Kc.out | exact Kd.out | exact Ke.out | exact Kf.out)
          (first
            | (go_at_call 45
               refine (HBase.out _).mono ?_
               rintro e wa ⟨⟨g, rfl, hg⟩, hba⟩
               obtain rfl : g = bs := toL_inj (hg.trans HBn.out.symm)
               have Ba : Below wr.heap.size wr wa := (Below.refl _ wr).drew.trans hba
               have Ka := hide (HC.out wa Ba))
            | (go_at_call 44
               refine (HText.out _).mono ?_
               rintro e wb ⟨rfl, hbb⟩
               have Bb := Ba.trans (hbb.mono Ba.size)
               have Kb := hide (HC.out wb Bb))
            | (go_at_call 46
               refine (HNum.out _).mono ?_
               rintro e wc ⟨rfl, hbc⟩
               have Bc := Bb.trans (hbc.mono Bb.size)
               have Kc := hide (HC.out wc Bc)
               have Rc := hide (HRt.out.step Bc))
            | (go_at_call 25
               refine (HTn.out wc Rc.out).mono ?_
               rintro e wd ⟨rfl, hbd⟩
               have Bd := Bc.trans (hbd.mono Bc.size)
               have Kd := hide (HC.out wd Bd))
            | (go_at_call 13
               refine (HOf.out _).mono ?_
               rintro e we ⟨rfl, hbe⟩
               have Be := Bd.trans (hbe.mono Bd.size)
               have Ke := hide (HC.out we Be))
            | (go_at_call 47
               refine (HSum.out _).mono ?_
               rintro e wf ⟨rfl, hbf⟩
               have Bf := Be.trans (hbf.mono Be.size)
               have Kf := hide (HC.out wf Bf)))
        have Hx1 := hide (HRt.out.step Bf)
        have Hx2 := hide (HRk.out.step Bf)
        have Hx3 := hide (HB.out.trans (Bf.mono HB.out.size))
        clear H0 Ka Kb Kc Kd Ke Kf Ba Bb Bc Bd Be Bf Rc HRt HRk HB HC HTn HOf HText HNum HSum HBase
        go_wp2_with fail
        go_roundg g1
        case rel => exact ⟨j + 1, by rw [HFl.out], rfl, by omega, Hx1, Hx2, Hx3⟩
        case measure => omega
  · obtain ⟨ax, rfl, hltx, hndx⟩ := HR1.out k n hn
    have hki : (k : Int) < t.length := by have := (List.getElem?_eq_some_iff.1 hn).1; omega
    have f1 := hndx.kind
    have f4 := hndx.data
    have hk0 : (0 : Int) ≤ (k : Int) := by omega
    clear hltx hndx hn
    obtain ⟨npath, nkind, nmode, ntime, ndata⟩ := n
    simp only at hk f1 f4
    have HF4 := hide f4
    have HV := hide (ofL_toL ndata)
    have HB1 := hide hb1
    go_wp2_with fail
    exact bodyPost_ret (results_tmp rfl _ _ _) rfl ⟨by rw [HV.out]; rfl, HB1.out⟩

theorem refTx_all (A : Option Addr) (t : List Nd) (c : Nat) (hT : MT t) : ∀ (d : Nat) (p : ByteArray), 600 ≤ p.size + d → ∀ w, RdN w w.heap.size A t →
    Calls Tryd.prog 25 #[.slice A t.length c, .string p] w (TextIs w (rtL t p))
  | 0, p, hd, w, hA => refTx_step A t c p w hA hT fun m hm => by
    have h1 := kid_longer (kid_mem hm).2
    have h2 := hT.path m (kid_mem hm).1
    omega
  | d + 1, p, hd, w, hA => refTx_step A t c p w hA hT fun m hm W hW => by
    have h1 := kid_longer (kid_mem hm).2
    have h := refTx_all A t c hT d m.path (by omega) W hW
    rwa [rt_node hT (kid_mem hm).1] at h
end Go.Proofs.YtbklgijndjpgoaaDoor
