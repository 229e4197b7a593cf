/-
  flittinglaw14.awake: the page's example.
-/
import Derived.Test.YteoafohebgfjdaaGreatDoorAutoTreeFindAt
import Derived.Test.YteoafohebgfjdaaGreatDoorAutoMkSame
namespace Go.Proofs.YteoafohebgfjdaaGreatDoor
open Go.RowKit Go.Maps
set_option maxRecDepth 100000

def exAll : List Nd := exS ++ exD
theorem exAll_ok : ∀ n ∈ exAll, rightB n.path ∧ n.path.size ≤ 200 := by
  intro n hn
  rcases List.mem_append.1 hn with h | h
  · exact ⟨exS_tw.rights n h, (exS_tw.few n h).1⟩
  · exact ⟨exD_tw.rights n h, (exD_tw.few n h).1⟩
theorem ex_blocked {del : Bool} {l : List Fd} (ht : Told (layV (sentL [] exS) (shownL exD) (guardL [] exD) del) l) : oursIn (mapF l) ⟨#[97]⟩ = del := by
  cases del
  · unfold oursIn
    cases h : mapF l ⟨#[97]⟩ with
    | none => rfl
    | some f => exact ex_none ht f (mapF_in _ _ l h).1
  · have hm := ex_del ht
    obtain ⟨f, hf⟩ : ∃ f ∈ l, f.node.path = ⟨#[97]⟩ := by
      have : (⟨⟨#[97]⟩, 2, 0, 0, ⟨#[]⟩⟩ : Nd) ∈ l.map (·.node) := by rw [hm]; exact List.mem_cons_self
      obtain ⟨f, hf, e⟩ := List.mem_map.1 this
      exact ⟨f, hf, by rw [e]⟩
    obtain ⟨g, hg⟩ := mapF_has _ l ⟨f, hf⟩
    have hgl := mapF_in _ _ l hg
    unfold oursIn
    rw [hg]
    show g.ours = true
    have hgn : g.node ∈ exS := by rw [← hm]; exact List.mem_map.2 ⟨g, hgl.1, rfl⟩
    have := ex_ours ht hgl.1
    cases ho : g.ours with
    | true => rfl
    | false =>
      rw [ho, if_neg (by decide)] at this
      exfalso
      have e := List.mem_singleton.1 hgn
      rw [e] at this
      rcases List.mem_cons.1 this with h | h
      · exact absurd (congrArg Nd.kind h) (by decide)
      · exact absurd (congrArg (fun n : Nd => n.path.size) (List.mem_singleton.1 h)) (by decide)

set_option maxHeartbeats 16000000 in
theorem awake_any (w : World) : Calls Tryz.prog 7 #[] w fun e w' => e = .returned (.bool true) ∧ Below w.heap.size w w' := by
  obtain ⟨W1, hW1⟩ : ∃ W1, W1 = (w.alloc (.cells #[.string ⟨#[97]⟩, .int .i64 2, .int .i64 0, .int .i64 0, .string ⟨#[]⟩] 36)) := ⟨_, rfl⟩
  have hOa : W1.ownsRow w.heap.size 36 5 (.slice (some ⟨w.heap.size, 0, none⟩) 1 1) 1 (cellsN exS) := by
    rw [hW1]
    exact World.ownsRow_lit w #[.string ⟨#[97]⟩, .int .i64 2, .int .i64 0, .int .i64 0, .string ⟨#[]⟩] 1 (Nat.le_refl _) (by decide) rfl
  have hB1 : Below w.heap.size w W1 := by rw [hW1]; exact (Below.refl _ w).alloc (Nat.le_refl _) _
  have hS1 : W1.heap.size = w.heap.size + 1 := by rw [hW1]; simp
  obtain ⟨W2, hW2⟩ : ∃ W2, W2 = W1.alloc (.cells #[.string ⟨#[97]⟩, .int .i64 1, .int .i64 0, .int .i64 0, .string ⟨#[]⟩, .string ⟨#[97, 47, 120]⟩, .int .i64 2, .int .i64 0, .int .i64 0, .string ⟨#[]⟩] 36) := ⟨_, rfl⟩
  have hOb : W2.ownsRow w.heap.size 36 5 (.slice (some ⟨w.heap.size + 1, 0, none⟩) 2 2) 2 (cellsN exD) := by
    have h := World.ownsRow_lit W1 (e := 36) (size := 5) #[.string ⟨#[97]⟩, .int .i64 1, .int .i64 0, .int .i64 0, .string ⟨#[]⟩, .string ⟨#[97, 47, 120]⟩, .int .i64 2, .int .i64 0, .int .i64 0, .string ⟨#[]⟩] 2 hB1.size (by decide) rfl
    rw [hS1, ← hW2] at h
    exact h
  have hB2 : Below w.heap.size w W2 := by rw [hW2]; exact hB1.alloc hB1.size _
  have hRa : RdN W2 W2.heap.size (some ⟨w.heap.size, 0, none⟩) exS := (RdN.own hOa).step (by rw [hW2]; exact (Below.refl _ W1).alloc (Nat.le_refl _) _)
  have hRb : RdN W2 W2.heap.size (some ⟨w.heap.size + 1, 0, none⟩) exD := RdN.own hOb
  have HO := hide (show ∀ (del : Bool) (W : World), Below W2.heap.size W2 W → Calls Tryz.prog 13 #[.slice (some ⟨w.heap.size, 0, none⟩) 1 1, .slice (some ⟨w.heap.size + 1, 0, none⟩) 2 2, .slice none 0 0, .bool del] W fun e w' => ∃ v, e = .returned v ∧ NI W v (if del = true then exS else exD) w' from fun del W h => by
    refine (mirOfT_any (L := exAll) exAll_ok (by decide) _ exS 1 _ exD 2 none [] 0 del W (hRa.step h) exS_tw (by decide) (hRb.step h) exD_tw (by decide) (fun k r h => by simp at h) (fun k r h => by simp at h) (by decide) (fun n hn => List.mem_append.2 hn)).mono ?_
    rintro e w' ⟨v, l, rfl, ht, -, hN⟩
    refine ⟨v, rfl, ?_⟩
    cases del
    · rw [if_neg (by decide), ← ex_keep ht]; exact hN
    · rw [if_pos rfl, ← ex_del ht]; exact hN)
  have HBl := hide (show ∀ (del : Bool) (W : World), Below W2.heap.size W2 W → Calls Tryz.prog 20 #[.slice (some ⟨w.heap.size, 0, none⟩) 1 1, .slice (some ⟨w.heap.size + 1, 0, none⟩) 2 2, .slice none 0 0, .bool del] W fun e w' => ∃ X x, e = .returned (.slice X (if del = true then 0 else 1) x) ∧ Below W.heap.size W w' from fun del W h => by
    have hr := fun n hn => (exAll_ok n hn).1
    have hs := fun n hn => (exAll_ok n hn).2
    have h1 := bd_names hr
    have h2 := bd_paths exAll
    have h3 : exAll.length = 3 := rfl
    refine (blocked_any (LL := bdOf exAll) (some ⟨w.heap.size, 0, none⟩) exS 1 (some ⟨w.heap.size + 1, 0, none⟩) exD 2 none [] 0 del ⟨⟨#[97]⟩, 2, 0, 0, ⟨#[]⟩⟩ W (hRa.step h) exS_tw.fewN (by decide) (hRb.step h) exD_tw.fewN (by decide) (fun k r h => by simp at h) (fun k r h => by simp at h) (by decide) (by unfold maxLen; omega) (bd_root exAll) (fun n hn => bd_ok hr hs (List.mem_append.2 hn)) rfl (by omega) (bd_deep hr)
      (FewV.laid _ (laid_trees [] del exS_tw exD_tw) (exS_tw.sent _) exD_tw.shown) (by rw [show rulesL [] = [] from rfl, sent_nil, exS_shown]; rfl) (by decide)).mono ?_
    rintro e w' ⟨X, k, x, l, rfl, ht, rfl, hb⟩
    refine ⟨X, x, ?_, hb⟩
    rw [ex_blocked ht])
  have HSa := hide (show ∀ (a : List Nd) (A : Option Addr) (c : Nat) (W : World), RdN W W.heap.size A a → Below W2.heap.size W2 W → (a.length : Int) ≤ 1000000 → Calls Tryz.prog 10 #[.slice A a.length c, .slice (some ⟨w.heap.size, 0, none⟩) 1 1] W fun e w' => e = .returned (.bool (listB a exS)) ∧ Below W.heap.size W w' from fun a A c W hA h hl => refSame_any A _ a exS c 1 W hA (hRa.step h) hl)
  have HSb := hide (show ∀ (a : List Nd) (A : Option Addr) (c : Nat) (W : World), RdN W W.heap.size A a → Below W2.heap.size W2 W → (a.length : Int) ≤ 1000000 → Calls Tryz.prog 10 #[.slice A a.length c, .slice (some ⟨w.heap.size + 1, 0, none⟩) 2 2] W fun e w' => e = .returned (.bool (listB a exD)) ∧ Below W.heap.size W w' from fun a A c W hA h hl => refSame_any A _ a exD c 2 W hA (hRb.step h) hl)
  have HB2 := hide hB2
  clear hOa hOb hB1 hS1 hRa hRb hB2
  go_enter Tryz.func7, Tryz.ntmps7
  go_wp2_with fail
  rw [← hW1, ← hW2]
  clear hW1 hW2
  refine (HO.out true W2 (Below.refl _ _)).mono ?_
  rintro e w3 ⟨v, rfl, hN⟩
  rw [if_pos rfl] at hN
  obtain ⟨X, x, rfl⟩ := ownsRow_slice hN.own
  have HS3 := hide (HSa.out exS X x w3 (RdN.own hN.own) hN.below (by decide))
  rw [(listB_iff _ _).2 rfl] at HS3
  have HB3 := hide hN.below
  clear hN
  go_wp2_with fail
  refine HS3.out.mono ?_
  rintro e w4 ⟨rfl, hb4⟩
  have HB4 := hide (HB3.out.trans (hb4.mono HB3.out.size))
  have HO4 := hide (HO.out false w4 HB4.out)
  clear HS3 HB3 hb4
  go_wp2_with fail
  refine HO4.out.mono ?_
  rintro e w5 ⟨v, rfl, hN⟩
  rw [if_neg (by decide)] at hN
  obtain ⟨Y, y, rfl⟩ := ownsRow_slice hN.own
  have HB5 := hide (HB4.out.trans (hN.below.mono HB4.out.size))
  have HS5 := hide (HSb.out exD Y y w5 (RdN.own hN.own) HB5.out (by decide))
  rw [(listB_iff _ _).2 rfl] at HS5
  clear HO4 hN HB4
  go_wp2_with fail
  refine HS5.out.mono ?_
  rintro e w6 ⟨rfl, hb6⟩
  have HB6 := hide (HB5.out.trans (hb6.mono HB5.out.size))
  have HL6 := hide (HBl.out false w6 HB6.out)
  clear HS5 HB5 hb6
  go_wp2_with fail
  refine HL6.out.mono ?_
  rintro e w7 ⟨Z, z, rfl, hb7⟩
  rw [if_neg (by decide)]
  have HB7 := hide (HB6.out.trans (hb7.mono HB6.out.size))
  have HL7 := hide (HBl.out true w7 HB7.out)
  clear HL6 HB6 hb7
  go_wp2_with fail
  refine HL7.out.mono ?_
  rintro e w8 ⟨Z2, z2, rfl, hb8⟩
  rw [if_pos trivial]
  have HF := hide (HB2.out.trans ((HB7.out.trans (hb8.mono HB7.out.size)).mono HB2.out.size))
  clear HL7 HB7 hb8
  go_wp2_with fail
  exact bodyPost_ret (results_tmp rfl _ _ _) rfl ⟨rfl, HF.out⟩
end Go.Proofs.YteoafohebgfjdaaGreatDoor
