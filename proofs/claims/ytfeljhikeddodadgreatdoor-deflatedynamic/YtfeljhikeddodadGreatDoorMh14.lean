/- Walks of a stable sort of packages: merging, where a part is single. Walks of a stable sort of packages: merging, where the left part is the longer one. -/
import Derived.Test.YtfeljhikeddodadGreatDoorMh13
namespace Go.Proofs.YtfeljhikeddodadGreatDoor
open Go.Shelf Go.RowKit Go.Lib Go.Sort St
set_option maxHeartbeats 16000000 in
set_option maxRecDepth 1000000 in
/-- Two parts in order, merged: the left one is single. -/
theorem symMergeK_1 (g : Nat) (cb : Array Value) (blk off cap : Nat) (d0 : Array PkV) (w0 : World) (lt' : PkV → PkV → Bool) (hS : SWO lt') (cf : PkV → PkV → Int) (eg : ∀ args w, (callFunc g args).run Tryz.prog w = .ok (.enter g args) w) (hcmp : CmpLays Tryz.prog g cb encP 2 cf blk off d0.size w0) (R : RowK encP 2 w0 blk off d0)
    (a m b : Nat) (d : Array PkV) (w : World) (hs : d0.size = d.size) (S : SWK encP 2 w0 blk off d w) (ham : a < m) (hmb : m < b) (hb : b ≤ d.size) (hsz : d.size < 4611686018427387904) (sL0 : SortedIn lt' a m d) (sR0 : SortedIn lt' m b d)
    (gd0 : ∀ i j, a ≤ i → i < m → m ≤ j → j < b → G (ltOf cf) lt' d[i]! d[j]!) (c1 : m = a + 1) :
    Calls Tryz.prog 171 #[.slice (some ⟨blk, off, none⟩) d.size cap, .int .i64 a, .int .i64 m, .int .i64 b, .func (.func g) #[] cb] w fun e w' => e = .returned (.tuple #[]) ∧ ∃ d' : Array PkV, SWK encP 2 w0 blk off d' w' ∧ PermIn a b d d' ∧ SortedIn lt' a b d' := by
  have sL := hide sL0
  have sR := hide sR0
  have gd := hide gd0
  have HS := hide hS
  clear sL0 sR0 gd0 hS
  have mixed : Tryz.prog.follows .mixedOrders = true := by kernel_rfl
  have S0 : Aside (SWK encP 2 w0 blk off d w) := S
  clear S
  have HC : Aside _ := hcmp
  clear hcmp
  · have zc1 : (m : Int) - (a : Int) = 1 := by omega
    have Hc1 := hide c1
    clear c1
    go_enter Tryz.func171, Tryz.ntmps171
    go_wp2
    go_loopg [10, 11] (b - m) (fun g1 vi vj wr => ∃ (i j : Nat), vi = .int .i64 i ∧ vj = .int .i64 j ∧ m ≤ i ∧ i ≤ j ∧ j ≤ b ∧ j - i ≤ g1 ∧ Aside (SWK encP 2 w0 blk off d wr) ∧
      Hid (m < i → ltOf cf d[i - 1]! d[a]! = true) ∧ Hid (j < b → ltOf cf d[j]! d[a]! = false))
    case atStart => exact ⟨m, b, rfl, rfl, Nat.le_refl _, by omega, Nat.le_refl _, Nat.le_refl _, S0, (fun h => by omega : m < m → _), (fun h => by omega : b < b → _)⟩
    case round =>
      clear S0
      obtain ⟨i, j, rfl, rfl, hmi, hij, hjb, hg1, S1, H1, H2⟩ := hrel
      by_cases hlt : i < j
      · have hd : decide ((i : Int) < (j : Int)) = true := by simp; omega
        obtain ⟨h, hh⟩ : ∃ h, h = (i + j) / 2 := ⟨_, rfl⟩
        have zh : ((Nat.cast i : Int) + (Nat.cast j : Int)) / 2 = (Nat.cast h : Int) := by omega
        have lh1 : i ≤ h := by omega
        have lh2 : h < j := by omega
        clear hh
        cases hlv : ltOf cf d[h]! d[a]! with
        | true =>
          obtain ⟨qa16, hqa16⟩ : ∃ q, q = h := ⟨_, rfl⟩
          have ea16 : ((h : Int)).toNat = qa16 := by omega
          have pa16 : (0 : Int) ≤ (h : Int) := by omega
          have ba16 : (h : Int) < (d.size : Int) := by omega
          have ra16 : IntKind.i64.wrap ((h : Int)) = (h : Int) := by rw [IntKind.wrap_i64]; omega
          obtain ⟨qb16, hqb16⟩ : ∃ q, q = a := ⟨_, rfl⟩
          have eb16 : ((a : Int)).toNat = qb16 := by omega
          have pb16 : (0 : Int) ≤ (a : Int) := by omega
          have bb16 : (a : Int) < (d.size : Int) := by omega
          have rb16 : IntKind.i64.wrap ((a : Int)) = (a : Int) := by rw [IntKind.wrap_i64]; omega
          obtain ⟨x16, hx16⟩ : ∃ x, x = d[h]! := ⟨_, rfl⟩
          obtain ⟨y16, hy16⟩ : ∃ x, x = d[a]! := ⟨_, rfl⟩
          obtain ⟨la16, lA16⟩ := gcellsP S1.out R (by omega) (h) (by omega)
          obtain ⟨lb16, lB16⟩ := gcellsP S1.out R (by omega) (a) (by omega)
          rw [← hx16, ← hqa16] at la16 lA16
          rw [← hy16, ← hqb16] at lb16 lB16
          have hc16 := S1.out.cmp HC.out (by omega) x16 y16
          have hv16 : cf x16 y16 < 0 := by rw [hx16, hy16]; exact of_decide_eq_true hlv
          have hd16 : decide (cf x16 y16 < 0) = true := decide_eq_true hv16
          clear hx16 hy16 hqa16 hqb16 
          go_wp2_with fail
          go_quiet_grown (first | (go_at_fn g; refine Calls.grown_of (hc16 _ _)))
          have S2 : Aside (SWK encP 2 w0 blk off d (grow (wr.drewN nq) osq)) := S1.out.grown nq osq
          clear la16 lb16 hc16 S1 lA16 lB16
          generalize grow (wr.drewN nq) osq = w2 at S2 ⊢
          clear nq osq
          clear ea16 eb16 pa16 pb16 ba16 bb16 ra16 rb16 hv16 hd16
          go_wp2
          go_roundg (j - (h + 1))
          case measure => omega
          case rel => exact ⟨h + 1, j, by go_num, rfl, by omega, by omega, hjb, Nat.le_refl _, S2, (fun _ => by rw [Nat.add_sub_cancel]; exact hlv : m < h + 1 → _), H2⟩
        | false =>
          obtain ⟨qa17, hqa17⟩ : ∃ q, q = h := ⟨_, rfl⟩
          have ea17 : ((h : Int)).toNat = qa17 := by omega
          have pa17 : (0 : Int) ≤ (h : Int) := by omega
          have ba17 : (h : Int) < (d.size : Int) := by omega
          have ra17 : IntKind.i64.wrap ((h : Int)) = (h : Int) := by rw [IntKind.wrap_i64]; omega
          obtain ⟨qb17, hqb17⟩ : ∃ q, q = a := ⟨_, rfl⟩
          have eb17 : ((a : Int)).toNat = qb17 := by omega
          have pb17 : (0 : Int) ≤ (a : Int) := by omega
          have bb17 : (a : Int) < (d.size : Int) := by omega
          have rb17 : IntKind.i64.wrap ((a : Int)) = (a : Int) := by rw [IntKind.wrap_i64]; omega
          obtain ⟨x17, hx17⟩ : ∃ x, x = d[h]! := ⟨_, rfl⟩
          obtain ⟨y17, hy17⟩ : ∃ x, x = d[a]! := ⟨_, rfl⟩
          obtain ⟨la17, lA17⟩ := gcellsP S1.out R (by omega) (h) (by omega)
          obtain ⟨lb17, lB17⟩ := gcellsP S1.out R (by omega) (a) (by omega)
          rw [← hx17, ← hqa17] at la17 lA17
          rw [← hy17, ← hqb17] at lb17 lB17
          have hc17 := S1.out.cmp HC.out (by omega) x17 y17
          have hv17 : ¬ cf x17 y17 < 0 := by rw [hx17, hy17]; exact of_decide_eq_false hlv
          have hd17 : decide (cf x17 y17 < 0) = false := decide_eq_false hv17
          clear hx17 hy17 hqa17 hqb17 
          go_wp2_with fail
          go_quiet_grown (first | (go_at_fn g; refine Calls.grown_of (hc17 _ _)))
          have S2 : Aside (SWK encP 2 w0 blk off d (grow (wr.drewN nq) osq)) := S1.out.grown nq osq
          clear la17 lb17 hc17 S1 lA17 lB17
          generalize grow (wr.drewN nq) osq = w2 at S2 ⊢
          clear nq osq
          clear ea17 eb17 pa17 pb17 ba17 bb17 ra17 rb17 hv17 hd17
          go_wp2
          go_roundg (h - i)
          case measure => omega
          case rel => exact ⟨i, h, rfl, rfl, hmi, by omega, by omega, Nat.le_refl _, S2, H1, (fun _ => hlv : h < b → _)⟩
      · have hd : decide ((i : Int) < (j : Int)) = false := by simp; omega
        have hji : j ≤ i := by omega
        have H3 : Hid (i < b → ltOf cf d[i]! d[a]! = false) := by rw [show i = j by omega]; exact H2
        clear H2
        obtain ⟨i1, hi1⟩ : ∃ q, q = i - 1 := ⟨_, rfl⟩
        have zi1 : (i : Int) - 1 = (i1 : Int) := by omega
        have li1 : i ≤ i1 + 1 := by omega
        have li2 : i1 + 1 ≤ i := by omega
        clear hi1
        go_wp2
        go_loopg [13] (i1 - a) (fun g2 vk wr2 => ∃ (k : Nat) (dk : Array PkV), vk = .int .i64 k ∧ a ≤ k ∧ k ≤ i1 ∧ i1 - k ≤ g2 ∧ dk.size = d.size ∧ Aside (SWK encP 2 w0 blk off dk wr2) ∧ Hid (Rot d dk a (a + 1) (k + 1)) ∧ Hid (PermIn a b d dk))
        case atStart => exact ⟨a, d, rfl, Nat.le_refl _, by omega, Nat.le_refl _, rfl, S1, Rot.left d a (a + 1), permIn_refl _ _ _⟩
        case round =>
          clear S1
          obtain ⟨k, dk, rfl, hak, hki, hg2, hsk, S3, H4, H5⟩ := hrel
          by_cases hki2 : k < i1
          · have hd2 : decide ((k : Int) < (i1 : Int)) = true := by simp; omega
            obtain ⟨k1, hk1⟩ : ∃ q, q = k + 1 := ⟨_, rfl⟩
            have zk1 : (k : Int) + 1 = (k1 : Int) := by omega
            have lk1 : k1 ≤ k + 1 := by omega
            have lk2 : k + 1 ≤ k1 := by omega
            have H6 : Hid (Rot d (swp dk k k1) a (a + 1) (k1 + 1)) := by rw [hk1]; exact Rot.onR hak (by omega) (unhide H4)
            have H7 : Hid (PermIn a b d (swp dk k k1)) := permIn_trans _ _ _ _ _ (unhide H5) (swp_permIn dk a b k k1 (by omega) (by omega) (by omega) (by omega) (by omega))
            clear H4 H5
            obtain ⟨qa18, hqa18⟩ : ∃ q, q = k := ⟨_, rfl⟩
            have ea18 : ((k : Int)).toNat = qa18 := by omega
            have pa18 : (0 : Int) ≤ (k : Int) := by omega
            have ba18 : (k : Int) < (d.size : Int) := by omega
            have ra18 : IntKind.i64.wrap ((k : Int)) = (k : Int) := by rw [IntKind.wrap_i64]; omega
            obtain ⟨qb18, hqb18⟩ : ∃ q, q = k1 := ⟨_, rfl⟩
            have eb18 : ((k1 : Int)).toNat = qb18 := by omega
            have pb18 : (0 : Int) ≤ (k1 : Int) := by omega
            have bb18 : (k1 : Int) < (d.size : Int) := by omega
            have rb18 : IntKind.i64.wrap ((k1 : Int)) = (k1 : Int) := by rw [IntKind.wrap_i64]; omega
            obtain ⟨x18, hx18⟩ : ∃ x, x = dk[k]! := ⟨_, rfl⟩
            obtain ⟨y18, hy18⟩ : ∃ x, x = dk[k1]! := ⟨_, rfl⟩
            have S4 : Aside (SWK encP 2 w0 blk off (swp dk (k) (k1)) ((((wr.setCell ⟨blk, off + qa18 * 2, none⟩ (.int .i64 y18.1)).setCell ⟨blk, off + qa18 * 2 + 1, none⟩ (.slice y18.2.1 y18.2.2.1 y18.2.2.2)).setCell ⟨blk, off + qb18 * 2, none⟩ (.int .i64 x18.1)).setCell ⟨blk, off + qb18 * 2 + 1, none⟩ (.slice x18.2.1 x18.2.2.1 x18.2.2.2)).drew) := by rw [hqa18, hqb18, hx18, hy18]; exact swappedP S3.out R (k) (k1) (by omega) (by omega)
            obtain ⟨ca18, cA18, fa18, fA18⟩ := cellsP S3.out R (by omega) (k) (by omega)
            obtain ⟨cb18, cB18, fb18, fB18⟩ := cellsP S3.out R (by omega) (k1) (by omega)
            obtain ⟨u18, uu18, uuu18, cc18, cC18, cD18⟩ := afterP S3.out R (by omega) (k) (k1) (by omega) (by omega) (.int .i64 y18.1) (.slice y18.2.1 y18.2.2.1 y18.2.2.2) (.int .i64 x18.1)
            rw [← hqb18, ← hqa18] at cC18 cD18
            rw [← hqa18] at cc18
            rw [← hx18, ← hqa18] at ca18 cA18
            rw [← hy18, ← hqb18] at cb18 cB18
            rw [← hqa18] at fa18 fA18
            rw [← hqb18] at fb18 fB18
            clear S3 hx18 hy18 hqa18 hqb18 hk1
            go_wp2_with fail
            go_region
            clear ca18 cb18 cA18 cB18 cc18 cC18 cD18 fa18 fb18 fA18 fB18
            generalize ((((wr.setCell ⟨blk, off + qa18 * 2, none⟩ (.int .i64 y18.1)).setCell ⟨blk, off + qa18 * 2 + 1, none⟩ (.slice y18.2.1 y18.2.2.1 y18.2.2.2)).setCell ⟨blk, off + qb18 * 2, none⟩ (.int .i64 x18.1)).setCell ⟨blk, off + qb18 * 2 + 1, none⟩ (.slice x18.2.1 x18.2.2.1 x18.2.2.2)).drew = w2 at S4 ⊢
            clear ea18 eb18 pa18 pb18 ba18 bb18 ra18 rb18
            go_wp2
            go_roundg (i1 - k1)
            case measure => omega
            case rel => exact ⟨k1, swp dk k k1, by first | rfl | go_num, by omega, by omega, Nat.le_refl _, by rw [size_swp]; exact hsk, S4, H6, H7⟩
          · have hd2 : decide ((k : Int) < (i1 : Int)) = false := by simp; omega
            go_wp2
            try simp only [Exit.inBlock, Exit.then]
            refine bodyPost_ret (results_none rfl _ _ _) rfl ?_
            have e1 : k + 1 = i := by omega
            have e2 := unhide Hc1
            subst e2
            refine ⟨rfl, dk, S3.out, unhide H5, place_left (unhide HS) hmi (by omega) (unhide sR) (fun h => ?_) (fun h => ?_) (e1 ▸ unhide H4)⟩
            · exact (unhide gd a (i - 1) (Nat.le_refl _) (by omega) (by omega) (by omega)).symm.trans (unhide H1 h)
            · exact (unhide gd a i (Nat.le_refl _) (by omega) (by omega) (by omega)).symm.trans (unhide H3 h)
set_option maxHeartbeats 16000000 in
set_option maxRecDepth 1000000 in
/-- Two parts in order, merged: the right one is single. -/
theorem symMergeK_2 (g : Nat) (cb : Array Value) (blk off cap : Nat) (d0 : Array PkV) (w0 : World) (lt' : PkV → PkV → Bool) (hS : SWO lt') (cf : PkV → PkV → Int) (eg : ∀ args w, (callFunc g args).run Tryz.prog w = .ok (.enter g args) w) (hcmp : CmpLays Tryz.prog g cb encP 2 cf blk off d0.size w0) (R : RowK encP 2 w0 blk off d0)
    (a m b : Nat) (d : Array PkV) (w : World) (hs : d0.size = d.size) (S : SWK encP 2 w0 blk off d w) (ham : a < m) (hmb : m < b) (hb : b ≤ d.size) (hsz : d.size < 4611686018427387904) (sL0 : SortedIn lt' a m d) (sR0 : SortedIn lt' m b d)
    (gd0 : ∀ i j, a ≤ i → i < m → m ≤ j → j < b → G (ltOf cf) lt' d[i]! d[j]!) (c1 : ¬ m = a + 1) (c2 : b = m + 1) :
    Calls Tryz.prog 171 #[.slice (some ⟨blk, off, none⟩) d.size cap, .int .i64 a, .int .i64 m, .int .i64 b, .func (.func g) #[] cb] w fun e w' => e = .returned (.tuple #[]) ∧ ∃ d' : Array PkV, SWK encP 2 w0 blk off d' w' ∧ PermIn a b d d' ∧ SortedIn lt' a b d' := by
  have sL := hide sL0
  have sR := hide sR0
  have gd := hide gd0
  have HS := hide hS
  clear sL0 sR0 gd0 hS
  have mixed : Tryz.prog.follows .mixedOrders = true := by kernel_rfl
  have S0 : Aside (SWK encP 2 w0 blk off d w) := S
  clear S
  have HC : Aside _ := hcmp
  clear hcmp
  have e1 : ((m : Int) - (a : Int) == 1) = false := by simp; omega
  have e2 : decide ((m : Int) - (a : Int) = 1) = false := by simp; omega
  · have zc2 : (b : Int) - (m : Int) = 1 := by omega
    have Hc2 := hide c2
    have lc2 : m + 1 ≤ b := by omega
    have lc3 : b ≤ m + 1 := by omega
    clear c2 c1
    go_enter Tryz.func171, Tryz.ntmps171
    go_wp2
    go_loopg [14, 15] (m - a) (fun g1 vi vj wr => ∃ (i j : Nat), vi = .int .i64 i ∧ vj = .int .i64 j ∧ a ≤ i ∧ i ≤ j ∧ j ≤ m ∧ j - i ≤ g1 ∧ Aside (SWK encP 2 w0 blk off d wr) ∧
      Hid (a < i → ltOf cf d[m]! d[i - 1]! = false) ∧ Hid (j < m → ltOf cf d[m]! d[j]! = true))
    case atStart => exact ⟨a, m, rfl, rfl, Nat.le_refl _, by omega, Nat.le_refl _, Nat.le_refl _, S0, (fun h => by omega : a < a → _), (fun h => by omega : m < m → _)⟩
    case round =>
      clear S0
      obtain ⟨i, j, rfl, rfl, hai, hij, hjm, hg1, S1, H1, H2⟩ := hrel
      by_cases hlt : i < j
      · have hd : decide ((i : Int) < (j : Int)) = true := by simp; omega
        obtain ⟨h, hh⟩ : ∃ h, h = (i + j) / 2 := ⟨_, rfl⟩
        have zh : ((Nat.cast i : Int) + (Nat.cast j : Int)) / 2 = (Nat.cast h : Int) := by omega
        have lh1 : i ≤ h := by omega
        have lh2 : h < j := by omega
        clear hh
        cases hlv : ltOf cf d[m]! d[h]! with
        | true =>
          obtain ⟨qa19, hqa19⟩ : ∃ q, q = m := ⟨_, rfl⟩
          have ea19 : ((m : Int)).toNat = qa19 := by omega
          have pa19 : (0 : Int) ≤ (m : Int) := by omega
          have ba19 : (m : Int) < (d.size : Int) := by omega
          have ra19 : IntKind.i64.wrap ((m : Int)) = (m : Int) := by rw [IntKind.wrap_i64]; omega
          obtain ⟨qb19, hqb19⟩ : ∃ q, q = h := ⟨_, rfl⟩
          have eb19 : ((h : Int)).toNat = qb19 := by omega
          have pb19 : (0 : Int) ≤ (h : Int) := by omega
          have bb19 : (h : Int) < (d.size : Int) := by omega
          have rb19 : IntKind.i64.wrap ((h : Int)) = (h : Int) := by rw [IntKind.wrap_i64]; omega
          obtain ⟨x19, hx19⟩ : ∃ x, x = d[m]! := ⟨_, rfl⟩
          obtain ⟨y19, hy19⟩ : ∃ x, x = d[h]! := ⟨_, rfl⟩
          obtain ⟨la19, lA19⟩ := gcellsP S1.out R (by omega) (m) (by omega)
          obtain ⟨lb19, lB19⟩ := gcellsP S1.out R (by omega) (h) (by omega)
          rw [← hx19, ← hqa19] at la19 lA19
          rw [← hy19, ← hqb19] at lb19 lB19
          have hc19 := S1.out.cmp HC.out (by omega) x19 y19
          have hv19 : cf x19 y19 < 0 := by rw [hx19, hy19]; exact of_decide_eq_true hlv
          have hd19 : decide (cf x19 y19 < 0) = true := decide_eq_true hv19
          clear hx19 hy19 hqa19 hqb19 
          go_wp2_with fail
          go_quiet_grown (first | (go_at_fn g; refine Calls.grown_of (hc19 _ _)))
          have S2 : Aside (SWK encP 2 w0 blk off d (grow (wr.drewN nq) osq)) := S1.out.grown nq osq
          clear la19 lb19 hc19 S1 lA19 lB19
          generalize grow (wr.drewN nq) osq = w2 at S2 ⊢
          clear nq osq
          clear ea19 eb19 pa19 pb19 ba19 bb19 ra19 rb19 hv19 hd19
          go_wp2
          go_roundg (h - i)
          case measure => omega
          case rel => exact ⟨i, h, rfl, rfl, hai, by omega, by omega, Nat.le_refl _, S2, H1, (fun _ => hlv : h < m → _)⟩
        | false =>
          obtain ⟨qa20, hqa20⟩ : ∃ q, q = m := ⟨_, rfl⟩
          have ea20 : ((m : Int)).toNat = qa20 := by omega
          have pa20 : (0 : Int) ≤ (m : Int) := by omega
          have ba20 : (m : Int) < (d.size : Int) := by omega
          have ra20 : IntKind.i64.wrap ((m : Int)) = (m : Int) := by rw [IntKind.wrap_i64]; omega
          obtain ⟨qb20, hqb20⟩ : ∃ q, q = h := ⟨_, rfl⟩
          have eb20 : ((h : Int)).toNat = qb20 := by omega
          have pb20 : (0 : Int) ≤ (h : Int) := by omega
          have bb20 : (h : Int) < (d.size : Int) := by omega
          have rb20 : IntKind.i64.wrap ((h : Int)) = (h : Int) := by rw [IntKind.wrap_i64]; omega
          obtain ⟨x20, hx20⟩ : ∃ x, x = d[m]! := ⟨_, rfl⟩
          obtain ⟨y20, hy20⟩ : ∃ x, x = d[h]! := ⟨_, rfl⟩
          obtain ⟨la20, lA20⟩ := gcellsP S1.out R (by omega) (m) (by omega)
          obtain ⟨lb20, lB20⟩ := gcellsP S1.out R (by omega) (h) (by omega)
          rw [← hx20, ← hqa20] at la20 lA20
          rw [← hy20, ← hqb20] at lb20 lB20
          have hc20 := S1.out.cmp HC.out (by omega) x20 y20
          have hv20 : ¬ cf x20 y20 < 0 := by rw [hx20, hy20]; exact of_decide_eq_false hlv
          have hd20 : decide (cf x20 y20 < 0) = false := decide_eq_false hv20
          clear hx20 hy20 hqa20 hqb20 
          go_wp2_with fail
          go_quiet_grown (first | (go_at_fn g; refine Calls.grown_of (hc20 _ _)))
          have S2 : Aside (SWK encP 2 w0 blk off d (grow (wr.drewN nq) osq)) := S1.out.grown nq osq
          clear la20 lb20 hc20 S1 lA20 lB20
          generalize grow (wr.drewN nq) osq = w2 at S2 ⊢
          clear nq osq
          clear ea20 eb20 pa20 pb20 ba20 bb20 ra20 rb20 hv20 hd20
          go_wp2
          go_roundg (j - (h + 1))
          case measure => omega
          case rel => exact ⟨h + 1, j, by go_num, rfl, by omega, by omega, hjm, Nat.le_refl _, S2, (fun _ => by rw [Nat.add_sub_cancel]; exact hlv : a < h + 1 → _), H2⟩
      · have hd : decide ((i : Int) < (j : Int)) = false := by simp; omega
        have hji : j ≤ i := by omega
        have H3 : Hid (i < m → ltOf cf d[m]! d[i]! = true) := by rw [show i = j by omega]; exact H2
        clear H2
        go_wp2
        go_loopg [17] (m - i) (fun g2 vk wr2 => ∃ (k : Nat) (dk : Array PkV), vk = .int .i64 k ∧ i ≤ k ∧ k ≤ m ∧ k - i ≤ g2 ∧ dk.size = d.size ∧ Aside (SWK encP 2 w0 blk off dk wr2) ∧ Hid (Rot d dk k m (m + 1)) ∧ Hid (PermIn a b d dk))
        case atStart => exact ⟨m, d, rfl, by omega, Nat.le_refl _, Nat.le_refl _, rfl, S1, Rot.right d m (m + 1) (by omega), permIn_refl _ _ _⟩
        case round =>
          clear S1
          obtain ⟨k, dk, rfl, hik, hkm, hg2, hsk, S3, H4, H5⟩ := hrel
          by_cases hki2 : i < k
          · have hd2 : decide ((i : Int) < (k : Int)) = true := by simp; omega
            have hd3 : decide ((k : Int) > (i : Int)) = true := by simp; omega
            obtain ⟨kp, hkp⟩ : ∃ q, q = k - 1 := ⟨_, rfl⟩
            have zkp : (k : Int) - 1 = (kp : Int) := by omega
            have lk1 : k ≤ kp + 1 := by omega
            have lk2 : kp + 1 ≤ k := by omega
            have H6 : Hid (Rot d (swp dk k kp) kp m (m + 1)) := by
              have e : k = kp + 1 := by omega
              subst e
              exact Rot.onL (by omega) (by omega) (unhide H4)
            have H7 : Hid (PermIn a b d (swp dk k kp)) := permIn_trans _ _ _ _ _ (unhide H5) (swp_permIn dk a b k kp (by omega) (by omega) (by omega) (by omega) (by omega))
            clear H4 H5
            obtain ⟨qa21, hqa21⟩ : ∃ q, q = k := ⟨_, rfl⟩
            have ea21 : ((k : Int)).toNat = qa21 := by omega
            have pa21 : (0 : Int) ≤ (k : Int) := by omega
            have ba21 : (k : Int) < (d.size : Int) := by omega
            have ra21 : IntKind.i64.wrap ((k : Int)) = (k : Int) := by rw [IntKind.wrap_i64]; omega
            obtain ⟨qb21, hqb21⟩ : ∃ q, q = kp := ⟨_, rfl⟩
            have eb21 : ((kp : Int)).toNat = qb21 := by omega
            have pb21 : (0 : Int) ≤ (kp : Int) := by omega
            have bb21 : (kp : Int) < (d.size : Int) := by omega
            have rb21 : IntKind.i64.wrap ((kp : Int)) = (kp : Int) := by rw [IntKind.wrap_i64]; omega
            obtain ⟨x21, hx21⟩ : ∃ x, x = dk[k]! := ⟨_, rfl⟩
            obtain ⟨y21, hy21⟩ : ∃ x, x = dk[kp]! := ⟨_, rfl⟩
            have S4 : Aside (SWK encP 2 w0 blk off (swp dk (k) (kp)) ((((wr.setCell ⟨blk, off + qa21 * 2, none⟩ (.int .i64 y21.1)).setCell ⟨blk, off + qa21 * 2 + 1, none⟩ (.slice y21.2.1 y21.2.2.1 y21.2.2.2)).setCell ⟨blk, off + qb21 * 2, none⟩ (.int .i64 x21.1)).setCell ⟨blk, off + qb21 * 2 + 1, none⟩ (.slice x21.2.1 x21.2.2.1 x21.2.2.2)).drew) := by rw [hqa21, hqb21, hx21, hy21]; exact swappedP S3.out R (k) (kp) (by omega) (by omega)
            obtain ⟨ca21, cA21, fa21, fA21⟩ := cellsP S3.out R (by omega) (k) (by omega)
            obtain ⟨cb21, cB21, fb21, fB21⟩ := cellsP S3.out R (by omega) (kp) (by omega)
            obtain ⟨u21, uu21, uuu21, cc21, cC21, cD21⟩ := afterP S3.out R (by omega) (k) (kp) (by omega) (by omega) (.int .i64 y21.1) (.slice y21.2.1 y21.2.2.1 y21.2.2.2) (.int .i64 x21.1)
            rw [← hqb21, ← hqa21] at cC21 cD21
            rw [← hqa21] at cc21
            rw [← hx21, ← hqa21] at ca21 cA21
            rw [← hy21, ← hqb21] at cb21 cB21
            rw [← hqa21] at fa21 fA21
            rw [← hqb21] at fb21 fB21
            clear S3 hx21 hy21 hqa21 hqb21 hkp
            go_wp2_with fail
            go_region
            clear ca21 cb21 cA21 cB21 cc21 cC21 cD21 fa21 fb21 fA21 fB21
            generalize ((((wr.setCell ⟨blk, off + qa21 * 2, none⟩ (.int .i64 y21.1)).setCell ⟨blk, off + qa21 * 2 + 1, none⟩ (.slice y21.2.1 y21.2.2.1 y21.2.2.2)).setCell ⟨blk, off + qb21 * 2, none⟩ (.int .i64 x21.1)).setCell ⟨blk, off + qb21 * 2 + 1, none⟩ (.slice x21.2.1 x21.2.2.1 x21.2.2.2)).drew = w2 at S4 ⊢
            clear ea21 eb21 pa21 pb21 ba21 bb21 ra21 rb21
            go_wp2
            go_roundg (kp - i)
            case measure => omega
            case rel => exact ⟨kp, swp dk k kp, by first | rfl | go_num, by omega, by omega, Nat.le_refl _, by rw [size_swp]; exact hsk, S4, H6, H7⟩
          · have hd2 : decide ((i : Int) < (k : Int)) = false := by simp; omega
            have hd3 : decide ((k : Int) > (i : Int)) = false := by simp; omega
            go_wp2
            try simp only [Exit.inBlock, Exit.then]
            refine bodyPost_ret (results_none rfl _ _ _) rfl ?_
            have q1 : k = i := by omega
            have q2 := unhide Hc2
            subst q2
            refine ⟨rfl, dk, S3.out, unhide H5, place_right (unhide HS) hai (by omega) (unhide sL) (fun h => ?_) (fun h => ?_) (q1 ▸ unhide H4)⟩
            · exact (unhide gd (i - 1) m (by omega) (by omega) (by omega) (by omega)).symm.trans (unhide H1 h)
            · exact (unhide gd i m (by omega) (by omega) (by omega) (by omega)).symm.trans (unhide H3 h)
end Go.Proofs.YtfeljhikeddodadGreatDoor
namespace Go.Proofs.YtfeljhikeddodadGreatDoor
open Go.Shelf Go.RowKit Go.Lib Go.Sort St
set_option maxHeartbeats 16000000 in
set_option maxRecDepth 1000000 in
/-- Two parts in order, merged: the first half is less as the left one, or more. -/
theorem symMergeK_3 (g : Nat) (cb : Array Value) (blk off cap : Nat) (d0 : Array PkV) (w0 : World) (lt' : PkV → PkV → Bool) (hS : SWO lt') (cf : PkV → PkV → Int) (eg : ∀ args w, (callFunc g args).run Tryz.prog w = .ok (.enter g args) w) (hcmp : CmpLays Tryz.prog g cb encP 2 cf blk off d0.size w0) (R : RowK encP 2 w0 blk off d0)
    (N a m b : Nat) (d : Array PkV) (w : World) (hN : b - a ≤ N + 1) (hs : d0.size = d.size) (S : SWK encP 2 w0 blk off d w) (ham : a < m) (hmb : m < b) (hb : b ≤ d.size) (hsz : d.size < 4611686018427387904) (sL0 : SortedIn lt' a m d) (sR0 : SortedIn lt' m b d)
    (gd0 : ∀ i j, a ≤ i → i < m → m ≤ j → j < b → G (ltOf cf) lt' d[i]! d[j]!) (c1 : ¬ m = a + 1) (c2 : ¬ b = m + 1) (cb0 : (a + b) / 2 < m) (ih : ∀ (a m b : Nat) (d : Array PkV) (w : World), b - a ≤ N → d0.size = d.size → SWK encP 2 w0 blk off d w → a < m → m < b → b ≤ d.size → d.size < 4611686018427387904 → SortedIn lt' a m d → SortedIn lt' m b d →
      (∀ i j, a ≤ i → i < m → m ≤ j → j < b → G (ltOf cf) lt' d[i]! d[j]!) →
      Calls Tryz.prog 171 #[.slice (some ⟨blk, off, none⟩) d.size cap, .int .i64 a, .int .i64 m, .int .i64 b, .func (.func g) #[] cb] w fun e w' => e = .returned (.tuple #[]) ∧ ∃ d' : Array PkV, SWK encP 2 w0 blk off d' w' ∧ PermIn a b d d' ∧ SortedIn lt' a b d') :
    Calls Tryz.prog 171 #[.slice (some ⟨blk, off, none⟩) d.size cap, .int .i64 a, .int .i64 m, .int .i64 b, .func (.func g) #[] cb] w fun e w' => e = .returned (.tuple #[]) ∧ ∃ d' : Array PkV, SWK encP 2 w0 blk off d' w' ∧ PermIn a b d d' ∧ SortedIn lt' a b d' := by
  have sL := hide sL0
  have sR := hide sR0
  have gd := hide gd0
  have HS := hide hS
  clear sL0 sR0 gd0 hS
  have mixed : Tryz.prog.follows .mixedOrders = true := by kernel_rfl
  have S0 : Aside (SWK encP 2 w0 blk off d w) := S
  clear S
  have HC : Aside _ := hcmp
  clear hcmp
  have e1 : ((m : Int) - (a : Int) == 1) = false := by simp; omega
  have e2 : decide ((m : Int) - (a : Int) = 1) = false := by simp; omega
  have IH := hide ih
  clear ih
  have e3 : ((b : Int) - (m : Int) == 1) = false := by simp; omega
  have e4 : decide ((b : Int) - (m : Int) = 1) = false := by simp; omega
  obtain ⟨mid, hmid⟩ : ∃ q, q = (a + b) / 2 := ⟨_, rfl⟩
  have zmid : ((a : Int) + (b : Int)) / 2 = (mid : Int) := by omega
  have lmid1 : a + b ≤ 2 * mid + 1 := by omega
  have lmid2 : 2 * mid ≤ a + b := by omega
  obtain ⟨nn, hnn⟩ : ∃ q, q = mid + m := ⟨_, rfl⟩
  have znn : (mid : Int) + (m : Int) = (nn : Int) := by omega
  have lnn1 : nn ≤ mid + m := by omega
  have lnn2 : mid + m ≤ nn := by omega
  obtain ⟨p, hp⟩ : ∃ q, q = nn - 1 := ⟨_, rfl⟩
  have zp : (nn : Int) - 1 = (p : Int) := by omega
  have lp1 : p + 1 ≤ nn := by omega
  have lp2 : nn ≤ p + 1 := by omega
  have cb2 := cb0
  rw [← hmid] at cb2
  clear cb0 hp hnn hmid
  have cb1 : mid < m := by omega
  · have dm : decide ((m : Int) > (mid : Int)) = true := by simp; omega
    have dm2 : decide ((mid : Int) < (m : Int)) = true := by simp; omega
    obtain ⟨lo, hlo⟩ : ∃ q, q = nn - b := ⟨_, rfl⟩
    obtain ⟨hi, hhi⟩ : ∃ q, q = mid := ⟨_, rfl⟩
    have zlo : (nn : Int) - (b : Int) = (lo : Int) := by omega
    have llo1 : lo + b ≤ nn := by omega
    have llo2 : nn ≤ lo + b := by omega
    have lhi1 : hi ≤ mid := by omega
    have lhi2 : mid ≤ hi := by omega
    have Hhi := hide hhi
    clear hlo hhi
    go_enter Tryz.func171, Tryz.ntmps171
    go_wp2
    go_loopg [20, 21] (hi - lo) (fun g1 vs vr wr => ∃ (s r : Nat), vs = .int .i64 s ∧ vr = .int .i64 r ∧ lo ≤ s ∧ s ≤ r ∧ r ≤ hi ∧ r - s ≤ g1 ∧ Aside (SWK encP 2 w0 blk off d wr) ∧
      Hid (lo < s → ltOf cf d[nn - s]! d[s - 1]! = false) ∧ Hid (r < hi → ltOf cf d[nn - 1 - r]! d[r]! = true))
    case atStart => exact ⟨lo, hi, rfl, by rw [unhide Hhi], Nat.le_refl _, by omega, Nat.le_refl _, Nat.le_refl _, S0, (fun h => by omega : lo < lo → _), (fun h => by omega : hi < hi → _)⟩
    case round =>
      clear S0
      obtain ⟨s, r, rfl, rfl, hls, hsr, hrh, hg1, S1, H1, H2⟩ := hrel
      by_cases hlt : s < r
      · have hd : decide ((s : Int) < (r : Int)) = true := by simp; omega
        obtain ⟨c, hc⟩ : ∃ h, h = (s + r) / 2 := ⟨_, rfl⟩
        have zc : ((Nat.cast s : Int) + (Nat.cast r : Int)) / 2 = (Nat.cast c : Int) := by omega
        have lc1 : s ≤ c := by omega
        have lc2 : c < r := by omega
        clear hc
        obtain ⟨pc, hpc⟩ : ∃ q, q = p - c := ⟨_, rfl⟩
        have zpc : (p : Int) - (c : Int) = (pc : Int) := by omega
        have lpc1 : pc + c ≤ p := by omega
        have lpc2 : p ≤ pc + c := by omega
        clear hpc
        cases hlv : ltOf cf d[pc]! d[c]! with
        | true =>
          obtain ⟨qa22, hqa22⟩ : ∃ q, q = pc := ⟨_, rfl⟩
          have ea22 : ((pc : Int)).toNat = qa22 := by omega
          have pa22 : (0 : Int) ≤ (pc : Int) := by omega
          have ba22 : (pc : Int) < (d.size : Int) := by omega
          have ra22 : IntKind.i64.wrap ((pc : Int)) = (pc : Int) := by rw [IntKind.wrap_i64]; omega
          obtain ⟨qb22, hqb22⟩ : ∃ q, q = c := ⟨_, rfl⟩
          have eb22 : ((c : Int)).toNat = qb22 := by omega
          have pb22 : (0 : Int) ≤ (c : Int) := by omega
          have bb22 : (c : Int) < (d.size : Int) := by omega
          have rb22 : IntKind.i64.wrap ((c : Int)) = (c : Int) := by rw [IntKind.wrap_i64]; omega
          obtain ⟨x22, hx22⟩ : ∃ x, x = d[pc]! := ⟨_, rfl⟩
          obtain ⟨y22, hy22⟩ : ∃ x, x = d[c]! := ⟨_, rfl⟩
          obtain ⟨la22, lA22⟩ := gcellsP S1.out R (by omega) (pc) (by omega)
          obtain ⟨lb22, lB22⟩ := gcellsP S1.out R (by omega) (c) (by omega)
          rw [← hx22, ← hqa22] at la22 lA22
          rw [← hy22, ← hqb22] at lb22 lB22
          have hc22 := S1.out.cmp HC.out (by omega) x22 y22
          have hv22 : cf x22 y22 < 0 := by rw [hx22, hy22]; exact of_decide_eq_true hlv
          have hd22 : decide (cf x22 y22 < 0) = true := decide_eq_true hv22
          clear hx22 hy22 hqa22 hqb22 
          go_wp2_with fail
          go_quiet_grown (first | (go_at_fn g; refine Calls.grown_of (hc22 _ _)))
          have S2 : Aside (SWK encP 2 w0 blk off d (grow (wr.drewN nq) osq)) := S1.out.grown nq osq
          clear la22 lb22 hc22 S1 lA22 lB22
          generalize grow (wr.drewN nq) osq = w2 at S2 ⊢
          clear nq osq
          clear ea22 eb22 pa22 pb22 ba22 bb22 ra22 rb22 hv22 hd22
          go_wp2
          go_roundg (c - s)
          case measure => omega
          case rel => exact ⟨s, c, rfl, rfl, hls, by omega, by omega, Nat.le_refl _, S2, H1, (fun _ => by rw [show nn - 1 - c = pc by omega]; exact hlv : c < hi → _)⟩
        | false =>
          obtain ⟨qa23, hqa23⟩ : ∃ q, q = pc := ⟨_, rfl⟩
          have ea23 : ((pc : Int)).toNat = qa23 := by omega
          have pa23 : (0 : Int) ≤ (pc : Int) := by omega
          have ba23 : (pc : Int) < (d.size : Int) := by omega
          have ra23 : IntKind.i64.wrap ((pc : Int)) = (pc : Int) := by rw [IntKind.wrap_i64]; omega
          obtain ⟨qb23, hqb23⟩ : ∃ q, q = c := ⟨_, rfl⟩
          have eb23 : ((c : Int)).toNat = qb23 := by omega
          have pb23 : (0 : Int) ≤ (c : Int) := by omega
          have bb23 : (c : Int) < (d.size : Int) := by omega
          have rb23 : IntKind.i64.wrap ((c : Int)) = (c : Int) := by rw [IntKind.wrap_i64]; omega
          obtain ⟨x23, hx23⟩ : ∃ x, x = d[pc]! := ⟨_, rfl⟩
          obtain ⟨y23, hy23⟩ : ∃ x, x = d[c]! := ⟨_, rfl⟩
          obtain ⟨la23, lA23⟩ := gcellsP S1.out R (by omega) (pc) (by omega)
          obtain ⟨lb23, lB23⟩ := gcellsP S1.out R (by omega) (c) (by omega)
          rw [← hx23, ← hqa23] at la23 lA23
          rw [← hy23, ← hqb23] at lb23 lB23
          have hc23 := S1.out.cmp HC.out (by omega) x23 y23
          have hv23 : ¬ cf x23 y23 < 0 := by rw [hx23, hy23]; exact of_decide_eq_false hlv
          have hd23 : decide (cf x23 y23 < 0) = false := decide_eq_false hv23
          clear hx23 hy23 hqa23 hqb23 
          go_wp2_with fail
          go_quiet_grown (first | (go_at_fn g; refine Calls.grown_of (hc23 _ _)))
          have S2 : Aside (SWK encP 2 w0 blk off d (grow (wr.drewN nq) osq)) := S1.out.grown nq osq
          clear la23 lb23 hc23 S1 lA23 lB23
          generalize grow (wr.drewN nq) osq = w2 at S2 ⊢
          clear nq osq
          clear ea23 eb23 pa23 pb23 ba23 bb23 ra23 rb23 hv23 hd23
          go_wp2
          go_roundg (r - (c + 1))
          case measure => omega
          case rel => exact ⟨c + 1, r, by go_num, rfl, by omega, by omega, hrh, Nat.le_refl _, S2, (fun _ => by rw [Nat.add_sub_cancel, show nn - (c + 1) = pc by omega]; exact hlv : lo < c + 1 → _), H2⟩
      · have hd : decide ((s : Int) < (r : Int)) = false := by simp; omega
        obtain ⟨e, he⟩ : ∃ q, q = nn - s := ⟨_, rfl⟩
        have ze : (nn : Int) - (s : Int) = (e : Int) := by omega
        have le1 : e + s ≤ nn := by omega
        have le2 : nn ≤ e + s := by omega
        have F1 : Hid (lo < s → ltOf cf d[e]! d[s - 1]! = false) := by rw [he]; exact H1
        have F2 : Hid (s < hi → ltOf cf d[e - 1]! d[s]! = true) := fun h => by
          have q := unhide H2 (by omega)
          rw [show nn - 1 - r = e - 1 by omega, show r = s by omega] at q
          exact q
        clear he H1 H2
        by_cases P : m ≤ s
        · by_cases Q : e ≤ m
          · exfalso
            omega
          · exfalso
            omega
        · by_cases Q : e ≤ m
          · have k1 : decide ((s : Int) < (m : Int)) = true := by simp; omega
            have k2 : decide ((m : Int) < (e : Int)) = false := by simp; omega
            have k3 : decide ((a : Int) < (s : Int)) = true := by simp; omega
            have k4 : decide ((s : Int) < (mid : Int)) = false := by simp; omega
            have k5 : decide ((mid : Int) < (e : Int)) = true := by simp; omega
            have k6 : decide ((e : Int) < (b : Int)) = true := by simp; omega
            have HR : Hid (Rot d d s m e) := by rw [show e = m by omega]; exact Rot.left d s m
            have HP1 : Hid (PermIn a b d d) := permIn_refl _ _ _
            have SP := hide (split (lt := ltOf cf) (unhide HS) ham hmb (mid := mid) (lo := lo) (hi := hi) (by omega) (by omega) (.inl ⟨cb1, by omega, by omega⟩) hls (by omega) (unhide F1) (unhide F2) (unhide sL) (unhide sR) (unhide gd) (unhide HR))
            have HPL : Hid (PermIn a mid d d) := permIn_refl _ _ _
            have HSL : Hid (SortedIn lt' a mid d) := by
              have q := unhide SP
              rw [show s = mid by omega] at q; exact q.1
            have RR := hide (right_ready (by omega) (by omega) (unhide HPL) (unhide SP).2.2.1 (unhide SP).2.2.2.1 (unhide SP).2.2.2.2.2.1)
            have hcon := (unhide IH) mid e b d wr (by omega) (by omega) S1.out (by omega) (by omega) (by omega) (by omega) (unhide RR).1 (unhide RR).2.1 (unhide RR).2.2
            have HCON := hide hcon
            clear S1 hcon
            go_wp2_with fail
            refine (unhide HCON).mono ?_
            rintro en w4 ⟨rfl, dR, SR, hPR, hSR⟩
            clear HCON
            have S7 : Aside (SWK encP 2 w0 blk off dR w4) := SR
            clear SR
            have HPR := hide hPR
            have HSR := hide hSR
            clear hPR hSR
            go_wp2
            go_end0
            have := fin (by omega) (by omega) hb (unhide HP1) (unhide HPL) (unhide HSL) (unhide HPR) (unhide HSR) (unhide SP).2.2.2.2.2.2
            exact ⟨rfl, dR, S7.out, this.1, this.2⟩
          · by_cases A : s ≤ a
            · by_cases B : b ≤ e
              · have k1 : decide ((s : Int) < (m : Int)) = true := by simp; omega
                have k2 : decide ((m : Int) < (e : Int)) = true := by simp; omega
                have k3 : decide ((a : Int) < (s : Int)) = false := by simp; omega
                have k4 : decide ((s : Int) < (mid : Int)) = true := by simp; omega
                have k5 : decide ((mid : Int) < (e : Int)) = true := by simp; omega
                have k6 : decide ((e : Int) < (b : Int)) = false := by simp; omega
                have hcon := hide (rotateK_any g cb blk off cap s m e d0 d w0 wr R hs S1.out (by omega) (by omega) (by omega) hsz)
                clear S1
                go_wp2_with fail
                refine (unhide hcon).mono ?_
                rintro en w2 ⟨rfl, d1, S2, hR, hP1⟩
                clear hcon
                have S3 : Aside (SWK encP 2 w0 blk off d1 w2) := S2
                clear S2
                have HR := hide hR
                have HP1 := hide hP1
                have z1 : d1.size = d.size := hP1.1
                clear hR hP1
                have SP := hide (split (lt := ltOf cf) (unhide HS) ham hmb (mid := mid) (lo := lo) (hi := hi) (by omega) (by omega) (.inl ⟨cb1, by omega, by omega⟩) hls (by omega) (unhide F1) (unhide F2) (unhide sL) (unhide sR) (unhide gd) (unhide HR))
                have HPL : Hid (PermIn a mid d1 d1) := permIn_refl _ _ _
                have HSL : Hid (SortedIn lt' a mid d1) := by
                  have q := unhide SP
                  rw [show s = a by omega] at q; exact q.2.1
                have zL : d1.size = d.size := z1
                have RR := hide (right_ready (by omega) (by omega) (unhide HPL) (unhide SP).2.2.1 (unhide SP).2.2.2.1 (unhide SP).2.2.2.2.2.1)
                have HPR : Hid (PermIn mid b d1 d1) := permIn_refl _ _ _
                have HSR : Hid (SortedIn lt' mid b d1) := by
                  have q := unhide RR
                  rw [show e = b by omega] at q; exact q.1
                go_wp2
                go_end0
                have := fin (by omega) (by omega) hb (permIn_mono _ _ s e a b (by omega) (by omega) (by omega) (unhide HP1)) (unhide HPL) (unhide HSL) (unhide HPR) (unhide HSR) (unhide SP).2.2.2.2.2.2
                exact ⟨rfl, d1, S3.out, this.1, this.2⟩
              · exfalso
                omega
            · by_cases B : b ≤ e
              · have k1 : decide ((s : Int) < (m : Int)) = true := by simp; omega
                have k2 : decide ((m : Int) < (e : Int)) = true := by simp; omega
                have k3 : decide ((a : Int) < (s : Int)) = true := by simp; omega
                have k4 : decide ((s : Int) < (mid : Int)) = true := by simp; omega
                have k5 : decide ((mid : Int) < (e : Int)) = true := by simp; omega
                have k6 : decide ((e : Int) < (b : Int)) = false := by simp; omega
                have hcon := hide (rotateK_any g cb blk off cap s m e d0 d w0 wr R hs S1.out (by omega) (by omega) (by omega) hsz)
                clear S1
                go_wp2_with fail
                refine (unhide hcon).mono ?_
                rintro en w2 ⟨rfl, d1, S2, hR, hP1⟩
                clear hcon
                have S3 : Aside (SWK encP 2 w0 blk off d1 w2) := S2
                clear S2
                have HR := hide hR
                have HP1 := hide hP1
                have z1 : d1.size = d.size := hP1.1
                clear hR hP1
                have SP := hide (split (lt := ltOf cf) (unhide HS) ham hmb (mid := mid) (lo := lo) (hi := hi) (by omega) (by omega) (.inl ⟨cb1, by omega, by omega⟩) hls (by omega) (unhide F1) (unhide F2) (unhide sL) (unhide sR) (unhide gd) (unhide HR))
                have hcon := (unhide IH) a s mid d1 w2 (by omega) (by omega) S3.out (by omega) (by omega) (by omega) (by omega) (unhide SP).1 (unhide SP).2.1 (unhide SP).2.2.2.2.1
                rw [z1] at hcon
                have HCON := hide hcon
                clear S3 hcon
                go_wp2_with fail
                refine (unhide HCON).mono ?_
                rintro en w3 ⟨rfl, dL, SL, hPL, hSL⟩
                clear HCON
                have S5 : Aside (SWK encP 2 w0 blk off dL w3) := SL
                clear SL
                have HPL := hide hPL
                have HSL := hide hSL
                have zL : dL.size = d.size := hPL.1.trans z1
                clear hPL hSL
                have RR := hide (right_ready (by omega) (by omega) (unhide HPL) (unhide SP).2.2.1 (unhide SP).2.2.2.1 (unhide SP).2.2.2.2.2.1)
                have HPR : Hid (PermIn mid b dL dL) := permIn_refl _ _ _
                have HSR : Hid (SortedIn lt' mid b dL) := by
                  have q := unhide RR
                  rw [show e = b by omega] at q; exact q.1
                go_wp2
                go_end0
                have := fin (by omega) (by omega) hb (permIn_mono _ _ s e a b (by omega) (by omega) (by omega) (unhide HP1)) (unhide HPL) (unhide HSL) (unhide HPR) (unhide HSR) (unhide SP).2.2.2.2.2.2
                exact ⟨rfl, dL, S5.out, this.1, this.2⟩
              · have k1 : decide ((s : Int) < (m : Int)) = true := by simp; omega
                have k2 : decide ((m : Int) < (e : Int)) = true := by simp; omega
                have k3 : decide ((a : Int) < (s : Int)) = true := by simp; omega
                have k4 : decide ((s : Int) < (mid : Int)) = true := by simp; omega
                have k5 : decide ((mid : Int) < (e : Int)) = true := by simp; omega
                have k6 : decide ((e : Int) < (b : Int)) = true := by simp; omega
                have hcon := hide (rotateK_any g cb blk off cap s m e d0 d w0 wr R hs S1.out (by omega) (by omega) (by omega) hsz)
                clear S1
                go_wp2_with fail
                refine (unhide hcon).mono ?_
                rintro en w2 ⟨rfl, d1, S2, hR, hP1⟩
                clear hcon
                have S3 : Aside (SWK encP 2 w0 blk off d1 w2) := S2
                clear S2
                have HR := hide hR
                have HP1 := hide hP1
                have z1 : d1.size = d.size := hP1.1
                clear hR hP1
                have SP := hide (split (lt := ltOf cf) (unhide HS) ham hmb (mid := mid) (lo := lo) (hi := hi) (by omega) (by omega) (.inl ⟨cb1, by omega, by omega⟩) hls (by omega) (unhide F1) (unhide F2) (unhide sL) (unhide sR) (unhide gd) (unhide HR))
                have hcon := (unhide IH) a s mid d1 w2 (by omega) (by omega) S3.out (by omega) (by omega) (by omega) (by omega) (unhide SP).1 (unhide SP).2.1 (unhide SP).2.2.2.2.1
                rw [z1] at hcon
                have HCON := hide hcon
                clear S3 hcon
                go_wp2_with fail
                refine (unhide HCON).mono ?_
                rintro en w3 ⟨rfl, dL, SL, hPL, hSL⟩
                clear HCON
                have S5 : Aside (SWK encP 2 w0 blk off dL w3) := SL
                clear SL
                have HPL := hide hPL
                have HSL := hide hSL
                have zL : dL.size = d.size := hPL.1.trans z1
                clear hPL hSL
                have RR := hide (right_ready (by omega) (by omega) (unhide HPL) (unhide SP).2.2.1 (unhide SP).2.2.2.1 (unhide SP).2.2.2.2.2.1)
                have hcon := (unhide IH) mid e b dL w3 (by omega) (by omega) S5.out (by omega) (by omega) (by omega) (by omega) (unhide RR).1 (unhide RR).2.1 (unhide RR).2.2
                rw [zL] at hcon
                have HCON := hide hcon
                clear S5 hcon
                go_wp2_with fail
                refine (unhide HCON).mono ?_
                rintro en w4 ⟨rfl, dR, SR, hPR, hSR⟩
                clear HCON
                have S7 : Aside (SWK encP 2 w0 blk off dR w4) := SR
                clear SR
                have HPR := hide hPR
                have HSR := hide hSR
                clear hPR hSR
                go_wp2
                go_end0
                have := fin (by omega) (by omega) hb (permIn_mono _ _ s e a b (by omega) (by omega) (by omega) (unhide HP1)) (unhide HPL) (unhide HSL) (unhide HPR) (unhide HSR) (unhide SP).2.2.2.2.2.2
                exact ⟨rfl, dR, S7.out, this.1, this.2⟩
end Go.Proofs.YtfeljhikeddodadGreatDoor
