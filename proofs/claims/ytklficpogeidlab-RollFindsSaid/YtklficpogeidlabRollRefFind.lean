/-
  The reference's Find; what is there is found, there or ahead of it.
-/
import Derived.Test.YtklficpogeidlabRollFind
import Derived.Lib.Strings
namespace Go.Proofs.Ytklficpogeidlab
open Go.RowKit
set_option maxRecDepth 100000

def findI (l : List UInt8) (k : Int) (s : Nat) : Int := match findL l k s with | some q => (q : Int) | none => -1
theorem find_le (l : List UInt8) (n j : Nat) (h : 1 ≤ n) (hj : j + n ≤ l.length) : ∃ q, findL l n (weakN (winAt l n j)) = some q ∧ q ≤ j := by
  have hg := winL_at l n j h hj
  unfold findL
  cases hf : (winL l n).findIdx? (fun x => x.2 == weakN (winAt l n j)) with
  | none =>
    rw [List.findIdx?_eq_none_iff] at hf
    have := hf _ (List.mem_of_getElem? hg)
    simp at this
  | some q =>
    refine ⟨q, rfl, ?_⟩
    rw [List.findIdx?_eq_some_iff_getElem] at hf
    obtain ⟨_, _, hall⟩ := hf
    refine Classical.byContradiction fun hc => ?_
    have h2 := hall j (by omega)
    have h3 := (List.getElem?_eq_some_iff.1 hg)
    obtain ⟨hlt, he⟩ := h3
    rw [he] at h2
    simp at h2
theorem ext_win (l : List UInt8) (i n : Nat) : (ofL l).extract i (i + n) = ofL (winAt l n i) := by
  apply toL_inj
  unfold toL winAt
  rw [Lib.extract_data]
  simp [ofL]

set_option maxHeartbeats 4000000 in
theorem refFind_any (l : List UInt8) (k : Int) (s : Nat) (w : World) (hl : l.length ≤ 40000) (hk1 : -9223372036854775808 ≤ k) (hk2 : k ≤ 9223372036854775807) :
    Calls Try.prog 9 #[.string (ofL l), .int .i64 k, .int .u32 s] w fun e w' => e = .returned (.int .i64 (findI l k s)) ∧ w' = w := by
  have hsz : (ofL l).size = l.length := rofL_size l
  by_cases hk : k < 1
  · have HN := hide (show findI l k s = -1 by
      unfold findI
      rw [find_none l k s (by rw [winL_none l k (.inl hk)]; intro x hx; simp at hx)])
    have hkn : ¬ (1 : Int) ≤ k := by omega
    clear hsz hk1 hk2
    go_enter Try.func9, Try.ntmps9
    go_wp2_with fail
    go_loopw [7] (fun i wr => i = .int .i64 0 ∧ wr = w) (fun _ _ => 0)
    case atStart => exact ⟨rfl, rfl⟩
    case round =>
      obtain ⟨rfl, rfl⟩ := hrel
      go_wp2_with fail
      exact bodyPost_ret (results_tmp rfl _ _ _) rfl ⟨by rw [HN.out]; rfl, rfl⟩
  · obtain ⟨n, rfl⟩ : ∃ n : Nat, k = n := ⟨k.toNat, by omega⟩
    have n1 : 1 ≤ n := by omega
    have n1i : (1 : Int) ≤ n := by omega
    have nli : ((ofL l).size : Int) ≤ 40000 := by omega
    have hsub : IntKind.i64.wrap (((ofL l).size : Int) - (n : Int)) = ((ofL l).size : Int) - (n : Int) := IntWalk.i64_in _ (by omega)
    have HSz := hide hsz
    have HX := hide (ext_win l)
    have HR := hide (fun (W : World) (i : Nat) => refWeak_any (winAt l n i) W (by unfold winAt; simp; omega))
    generalize ofL l = S at hsub nli HSz HX ⊢
    clear hk hk1 hk2 hsz
    go_enter Try.func9, Try.ntmps9
    go_wp2_with fail
    go_loopw [7] (fun i wr => ∃ j : Nat, j ≤ l.length + 1 ∧ i = .int .i64 j ∧ Hid (NoneIn ((winL l n).take j) s) ∧ wr = w) (fun i _ => l.length + 1 - (intOf i).toNat)
    case atStart => exact ⟨0, Nat.zero_le _, rfl, hide (fun x hx => by simp at hx), rfl⟩
    case round =>
      obtain ⟨j, hj, rfl, HN, rfl⟩ := hrel
      have hsl := HSz.out
      by_cases hlt : j + n ≤ l.length
      · have h1 : (j : Int) ≤ (S.size : Int) - (n : Int) := by omega
        obtain ⟨m, hm⟩ : ∃ m, m = j + n := ⟨_, rfl⟩
        have hmi : (j : Int) + (n : Int) = (m : Int) := by omega
        have hmw : IntKind.i64.wrap (m : Int) = (m : Int) := IntWalk.i64_in _ (by omega)
        have hml : (m : Int) ≤ S.size := by omega
        have hjm : (j : Int) ≤ (m : Int) := by omega
        have HT := hide (winL_take l n j n1 hlt)
        have hex := HX.out j n
        rw [← hm] at hex
        have HRj := hide (fun W => HR.out W j)
        rw [← hex] at HRj
        obtain ⟨v, hv⟩ : ∃ v, v = weakN (winAt l n j) := ⟨_, rfl⟩
        rw [← hv] at HRj HT
        have HP := hide (show (winL l n).take j ++ [(j, v)] <+: winL l n by rw [HT.out]; exact List.take_prefix _ _)
        clear hex hm hsl hv
        by_cases he : v = s
        · have HQ := hide (show findI l n s = j by unfold findI; rw [find_some l n s _ (j, v) HP.out HN.out he])
          subst he
          go_wp2_with fail
          refine (HRj.out _).mono ?_
          rintro e w3 ⟨rfl, rfl⟩
          go_wp2_with fail
          exact bodyPost_ret (results_tmp rfl _ _ _) rfl ⟨by rw [HQ.out]; rfl, rfl⟩
        · have E : ((v : Int) == (s : Int)) = false := by rw [beq_eq_false_iff_ne]; omega
          have HE := hide he
          clear he
          go_wp2_with fail
          refine (HRj.out _).mono ?_
          rintro e w3 ⟨rfl, rfl⟩
          go_wp2_with fail
          go_roundw
          case rel => exact ⟨j + 1, by omega, rfl, hide (by
            rw [← HT.out]
            intro y hy
            rcases List.mem_append.1 hy with h | h
            · exact HN.out y h
            · simp at h; subst h; exact HE.out), trivial⟩
          case measure => simp [intOf]; omega
      · have h1 : ¬ (j : Int) ≤ (S.size : Int) - (n : Int) := by omega
        have HQ := hide (show findI l n s = -1 by
          unfold findI
          rw [find_none l n s (by
            have h := HN.out
            rw [List.take_of_length_le (by rw [winL_len l n n1]; omega)] at h
            exact h)])
        clear hsl hlt
        go_wp2_with fail
        exact bodyPost_ret (results_tmp rfl _ _ _) rfl ⟨by rw [HQ.out]; rfl, rfl⟩
end Go.Proofs.Ytklficpogeidlab
