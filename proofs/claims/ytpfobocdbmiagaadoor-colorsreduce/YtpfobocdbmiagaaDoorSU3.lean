/- Walks of a stable sort of uses: merging, where a part is single. -/
import Derived.Test.YtpfobocdbmiagaaDoorMg9
namespace Go.Proofs.YtpfobocdbmiagaaDoor
open Go.Shelf Go.RowKit Go.Lib Go.Sort St
set_option maxHeartbeats 16000000 in
set_option maxRecDepth 1000000 in
/-- Two parts in order, merged: the left one is single. -/
theorem symMergeU_1 (g : Nat) (cb : Array Value) (blk off cap : Nat) (d0 : Array Us) (w0 : World) (lt' : Us → Us → Bool) (hS : SWO lt') (cf : Us → Us → Int) (eg : ∀ args w, (callFunc g args).run Tryd.prog w = .ok (.enter g args) w) (hcmp : CmpLays Tryd.prog g cb encU 5 cf blk off d0.size w0) (R : RowK encU 5 w0 blk off d0)
    (a m b : Nat) (d : Array Us) (w : World) (hs : d0.size = d.size) (S : SWK encU 5 w0 blk off d w) (ham : a < m) (hmb : m < b) (hb : b ≤ d.size) (hsz : d.size < 4611686018427387904) (sL0 : SortedIn lt' a m d) (sR0 : SortedIn lt' m b d)
    (gd0 : ∀ i j, a ≤ i → i < m → m ≤ j → j < b → G (ltOf cf) lt' d[i]! d[j]!) (c1 : m = a + 1) :
    Calls Tryd.prog 65 #[.slice (some ⟨blk, off, none⟩) d.size cap, .int .i64 a, .int .i64 m, .int .i64 b, .func (.func g) #[] cb] w fun e w' => e = .returned (.tuple #[]) ∧ ∃ d' : Array Us, SWK encU 5 w0 blk off d' w' ∧ PermIn a b d d' ∧ SortedIn lt' a b d' := by
  have sL := hide sL0
  have sR := hide sR0
  have gd := hide gd0
  have HS := hide hS
  clear sL0 sR0 gd0 hS
  have mixed : Tryd.prog.follows .mixedOrders = true := by kernel_rfl
  have S0 : Aside (SWK encU 5 w0 blk off d w) := S
  clear S
  have HC : Aside _ := hcmp
  clear hcmp
  · have zc1 : (m : Int) - (a : Int) = 1 := by omega
    have Hc1 := hide c1
    clear c1
    go_enter Tryd.func65, Tryd.ntmps65
    go_wp2
    go_loopg [10, 11] (b - m) (fun g1 vi vj wr => ∃ (i j : Nat), vi = .int .i64 i ∧ vj = .int .i64 j ∧ m ≤ i ∧ i ≤ j ∧ j ≤ b ∧ j - i ≤ g1 ∧ Aside (SWK encU 5 w0 blk off d wr) ∧
      Hid (m < i → ltOf cf d[i - 1]! d[a]! = true) ∧ Hid (j < b → ltOf cf d[j]! d[a]! = false))
    case atStart => exact ⟨m, b, rfl, rfl, Nat.le_refl _, by omega, Nat.le_refl _, Nat.le_refl _, S0, (fun h => by omega : m < m → _), (fun h => by omega : b < b → _)⟩
    case round =>
      clear S0
      obtain ⟨i, j, rfl, rfl, hmi, hij, hjb, hg1, S1, H1, H2⟩ := hrel
      by_cases hlt : i < j
      · have hd : decide ((i : Int) < (j : Int)) = true := by simp; omega
        obtain ⟨h, hh⟩ : ∃ h, h = (i + j) / 2 := ⟨_, rfl⟩
        have zh : ((Nat.cast i : Int) + (Nat.cast j : Int)) / 2 = (Nat.cast h : Int) := by omega
        have lh1 : i ≤ h := by omega
        have lh2 : h < j := by omega
        clear hh
        cases hlv : ltOf cf d[h]! d[a]! with
        | true =>
          obtain ⟨qa2, hqa2⟩ : ∃ q, q = h := ⟨_, rfl⟩
          have ea2 : ((h : Int)).toNat = qa2 := by omega
          have pa2 : (0 : Int) ≤ (h : Int) := by omega
          have ba2 : (h : Int) < (d.size : Int) := by omega
          have ra2 : IntKind.i64.wrap ((h : Int)) = (h : Int) := by rw [IntKind.wrap_i64]; omega
          obtain ⟨qb2, hqb2⟩ : ∃ q, q = a := ⟨_, rfl⟩
          have eb2 : ((a : Int)).toNat = qb2 := by omega
          have pb2 : (0 : Int) ≤ (a : Int) := by omega
          have bb2 : (a : Int) < (d.size : Int) := by omega
          have rb2 : IntKind.i64.wrap ((a : Int)) = (a : Int) := by rw [IntKind.wrap_i64]; omega
          obtain ⟨x2, hx2⟩ : ∃ x, x = d[h]! := ⟨_, rfl⟩
          obtain ⟨y2, hy2⟩ : ∃ x, x = d[a]! := ⟨_, rfl⟩
          obtain ⟨la2_0, la2_1, la2_2, la2_3, la2_4⟩ := gcellsU S1.out R (by omega) (h) (by omega)
          obtain ⟨lb2_0, lb2_1, lb2_2, lb2_3, lb2_4⟩ := gcellsU S1.out R (by omega) (a) (by omega)
          rw [← hx2, ← hqa2] at la2_0 la2_1 la2_2 la2_3 la2_4
          rw [← hy2, ← hqb2] at lb2_0 lb2_1 lb2_2 lb2_3 lb2_4
          have hc2 := S1.out.cmp HC.out (by omega) x2 y2
          have hv2 : cf x2 y2 < 0 := by rw [hx2, hy2]; exact of_decide_eq_true hlv
          have hd2 : decide (cf x2 y2 < 0) = true := decide_eq_true hv2
          clear hx2 hy2 hqa2 hqb2 
          go_wp2_with fail
          go_quiet_grown (first | (go_at_fn g; refine Calls.grown_of (hc2 _ _)))
          have S2 : Aside (SWK encU 5 w0 blk off d (grow (wr.drewN nq) osq)) := S1.out.grown nq osq
          clear la2_0 la2_1 la2_2 la2_3 la2_4 lb2_0 lb2_1 lb2_2 lb2_3 lb2_4 hc2 S1
          generalize grow (wr.drewN nq) osq = w2 at S2 ⊢
          clear nq osq
          clear ea2 eb2 pa2 pb2 ba2 bb2 ra2 rb2 hv2 hd2
          go_wp2
          go_roundg (j - (h + 1))
          case measure => omega
          case rel => exact ⟨h + 1, j, by go_num, rfl, by omega, by omega, hjb, Nat.le_refl _, S2, (fun _ => by rw [Nat.add_sub_cancel]; exact hlv : m < h + 1 → _), H2⟩
        | false =>
          obtain ⟨qa3, hqa3⟩ : ∃ q, q = h := ⟨_, rfl⟩
          have ea3 : ((h : Int)).toNat = qa3 := by omega
          have pa3 : (0 : Int) ≤ (h : Int) := by omega
          have ba3 : (h : Int) < (d.size : Int) := by omega
          have ra3 : IntKind.i64.wrap ((h : Int)) = (h : Int) := by rw [IntKind.wrap_i64]; omega
          obtain ⟨qb3, hqb3⟩ : ∃ q, q = a := ⟨_, rfl⟩
          have eb3 : ((a : Int)).toNat = qb3 := by omega
          have pb3 : (0 : Int) ≤ (a : Int) := by omega
          have bb3 : (a : Int) < (d.size : Int) := by omega
          have rb3 : IntKind.i64.wrap ((a : Int)) = (a : Int) := by rw [IntKind.wrap_i64]; omega
          obtain ⟨x3, hx3⟩ : ∃ x, x = d[h]! := ⟨_, rfl⟩
          obtain ⟨y3, hy3⟩ : ∃ x, x = d[a]! := ⟨_, rfl⟩
          obtain ⟨la3_0, la3_1, la3_2, la3_3, la3_4⟩ := gcellsU S1.out R (by omega) (h) (by omega)
          obtain ⟨lb3_0, lb3_1, lb3_2, lb3_3, lb3_4⟩ := gcellsU S1.out R (by omega) (a) (by omega)
          rw [← hx3, ← hqa3] at la3_0 la3_1 la3_2 la3_3 la3_4
          rw [← hy3, ← hqb3] at lb3_0 lb3_1 lb3_2 lb3_3 lb3_4
          have hc3 := S1.out.cmp HC.out (by omega) x3 y3
          have hv3 : ¬ cf x3 y3 < 0 := by rw [hx3, hy3]; exact of_decide_eq_false hlv
          have hd3 : decide (cf x3 y3 < 0) = false := decide_eq_false hv3
          clear hx3 hy3 hqa3 hqb3 
          go_wp2_with fail
          go_quiet_grown (first | (go_at_fn g; refine Calls.grown_of (hc3 _ _)))
          have S2 : Aside (SWK encU 5 w0 blk off d (grow (wr.drewN nq) osq)) := S1.out.grown nq osq
          clear la3_0 la3_1 la3_2 la3_3 la3_4 lb3_0 lb3_1 lb3_2 lb3_3 lb3_4 hc3 S1
          generalize grow (wr.drewN nq) osq = w2 at S2 ⊢
          clear nq osq
          clear ea3 eb3 pa3 pb3 ba3 bb3 ra3 rb3 hv3 hd3
          go_wp2
          go_roundg (h - i)
          case measure => omega
          case rel => exact ⟨i, h, rfl, rfl, hmi, by omega, by omega, Nat.le_refl _, S2, H1, (fun _ => hlv : h < b → _)⟩
      · have hd : decide ((i : Int) < (j : Int)) = false := by simp; omega
        have hji : j ≤ i := by omega
        have H3 : Hid (i < b → ltOf cf d[i]! d[a]! = false) := by rw [show i = j by omega]; exact H2
        clear H2
        obtain ⟨i1, hi1⟩ : ∃ q, q = i - 1 := ⟨_, rfl⟩
        have zi1 : (i : Int) - 1 = (i1 : Int) := by omega
        have li1 : i ≤ i1 + 1 := by omega
        have li2 : i1 + 1 ≤ i := by omega
        clear hi1
        go_wp2
        go_loopg [13] (i1 - a) (fun g2 vk wr2 => ∃ (k : Nat) (dk : Array Us), vk = .int .i64 k ∧ a ≤ k ∧ k ≤ i1 ∧ i1 - k ≤ g2 ∧ dk.size = d.size ∧ Aside (SWK encU 5 w0 blk off dk wr2) ∧ Hid (Rot d dk a (a + 1) (k + 1)) ∧ Hid (PermIn a b d dk))
        case atStart => exact ⟨a, d, rfl, Nat.le_refl _, by omega, Nat.le_refl _, rfl, S1, Rot.left d a (a + 1), permIn_refl _ _ _⟩
        case round =>
          clear S1
          obtain ⟨k, dk, rfl, hak, hki, hg2, hsk, S3, H4, H5⟩ := hrel
          by_cases hki2 : k < i1
          · have hd2 : decide ((k : Int) < (i1 : Int)) = true := by simp; omega
            obtain ⟨k1, hk1⟩ : ∃ q, q = k + 1 := ⟨_, rfl⟩
            have zk1 : (k : Int) + 1 = (k1 : Int) := by omega
            have lk1 : k1 ≤ k + 1 := by omega
            have lk2 : k + 1 ≤ k1 := by omega
            have H6 : Hid (Rot d (swp dk k k1) a (a + 1) (k1 + 1)) := by rw [hk1]; exact Rot.onR hak (by omega) (unhide H4)
            have H7 : Hid (PermIn a b d (swp dk k k1)) := permIn_trans _ _ _ _ _ (unhide H5) (swp_permIn dk a b k k1 (by omega) (by omega) (by omega) (by omega) (by omega))
            clear H4 H5
            obtain ⟨qa4, hqa4⟩ : ∃ q, q = k := ⟨_, rfl⟩
            have ea4 : ((k : Int)).toNat = qa4 := by omega
            have pa4 : (0 : Int) ≤ (k : Int) := by omega
            have ba4 : (k : Int) < (d.size : Int) := by omega
            have ra4 : IntKind.i64.wrap ((k : Int)) = (k : Int) := by rw [IntKind.wrap_i64]; omega
            obtain ⟨qb4, hqb4⟩ : ∃ q, q = k1 := ⟨_, rfl⟩
            have eb4 : ((k1 : Int)).toNat = qb4 := by omega
            have pb4 : (0 : Int) ≤ (k1 : Int) := by omega
            have bb4 : (k1 : Int) < (d.size : Int) := by omega
            have rb4 : IntKind.i64.wrap ((k1 : Int)) = (k1 : Int) := by rw [IntKind.wrap_i64]; omega
            obtain ⟨x4, hx4⟩ : ∃ x, x = dk[k]! := ⟨_, rfl⟩
            obtain ⟨y4, hy4⟩ : ∃ x, x = dk[k1]! := ⟨_, rfl⟩
            have S4 : Aside (SWK encU 5 w0 blk off (swp dk (k) (k1)) ((((((((((wr.setCell ⟨blk, off + qa4 * 5, none⟩ (.int .u8 (y4.c.r.toNat : Int))).setCell ⟨blk, off + qa4 * 5 + 1, none⟩ (.int .u8 (y4.c.g.toNat : Int))).setCell ⟨blk, off + qa4 * 5 + 2, none⟩ (.int .u8 (y4.c.b.toNat : Int))).setCell ⟨blk, off + qa4 * 5 + 3, none⟩ (.int .u8 (y4.c.a.toNat : Int))).setCell ⟨blk, off + qa4 * 5 + 4, none⟩ (.int .i64 (y4.t : Int))).setCell ⟨blk, off + qb4 * 5, none⟩ (.int .u8 (x4.c.r.toNat : Int))).setCell ⟨blk, off + qb4 * 5 + 1, none⟩ (.int .u8 (x4.c.g.toNat : Int))).setCell ⟨blk, off + qb4 * 5 + 2, none⟩ (.int .u8 (x4.c.b.toNat : Int))).setCell ⟨blk, off + qb4 * 5 + 3, none⟩ (.int .u8 (x4.c.a.toNat : Int))).setCell ⟨blk, off + qb4 * 5 + 4, none⟩ (.int .i64 (x4.t : Int))).drew) := by rw [hqa4, hqb4, hx4, hy4]; exact swappedU S3.out R (k) (k1) (by omega) (by omega)
            obtain ⟨ca4_0, ca4_1, ca4_2, ca4_3, ca4_4, fa4_0, fa4_1, fa4_2, fa4_3, fa4_4⟩ := cellsU S3.out R (by omega) (k) (by omega)
            obtain ⟨cb4_0, cb4_1, cb4_2, cb4_3, cb4_4, fb4_0, fb4_1, fb4_2, fb4_3, fb4_4⟩ := cellsU S3.out R (by omega) (k1) (by omega)
            obtain ⟨u4_0, u4_1, u4_2, u4_3, u4_4, u4_5, u4_6, u4_7, u4_8, cc4_0, cc4_1, cc4_2, cc4_3, cc4_4, cc4_5, cc4_6, cc4_7, cc4_8⟩ := afterU S3.out R (by omega) (k) (k1) (by omega) (by omega) x4 y4
            rw [← hqa4] at cc4_0 cc4_1 cc4_2 cc4_3
            rw [← hqb4, ← hqa4] at cc4_4 cc4_5 cc4_6 cc4_7 cc4_8
            rw [← hx4, ← hqa4] at ca4_0 ca4_1 ca4_2 ca4_3 ca4_4
            rw [← hy4, ← hqb4] at cb4_0 cb4_1 cb4_2 cb4_3 cb4_4
            rw [← hqa4] at fa4_0 fa4_1 fa4_2 fa4_3 fa4_4
            rw [← hqb4] at fb4_0 fb4_1 fb4_2 fb4_3 fb4_4
            clear S3 hx4 hy4 hqa4 hqb4 hk1
            go_wp2_with fail
            go_region
            clear ca4_0 ca4_1 ca4_2 ca4_3 ca4_4 cb4_0 cb4_1 cb4_2 cb4_3 cb4_4 fa4_0 fa4_1 fa4_2 fa4_3 fa4_4 fb4_0 fb4_1 fb4_2 fb4_3 fb4_4 cc4_0 cc4_1 cc4_2 cc4_3 cc4_4 cc4_5 cc4_6 cc4_7 cc4_8
            generalize ((((((((((wr.setCell ⟨blk, off + qa4 * 5, none⟩ (.int .u8 (y4.c.r.toNat : Int))).setCell ⟨blk, off + qa4 * 5 + 1, none⟩ (.int .u8 (y4.c.g.toNat : Int))).setCell ⟨blk, off + qa4 * 5 + 2, none⟩ (.int .u8 (y4.c.b.toNat : Int))).setCell ⟨blk, off + qa4 * 5 + 3, none⟩ (.int .u8 (y4.c.a.toNat : Int))).setCell ⟨blk, off + qa4 * 5 + 4, none⟩ (.int .i64 (y4.t : Int))).setCell ⟨blk, off + qb4 * 5, none⟩ (.int .u8 (x4.c.r.toNat : Int))).setCell ⟨blk, off + qb4 * 5 + 1, none⟩ (.int .u8 (x4.c.g.toNat : Int))).setCell ⟨blk, off + qb4 * 5 + 2, none⟩ (.int .u8 (x4.c.b.toNat : Int))).setCell ⟨blk, off + qb4 * 5 + 3, none⟩ (.int .u8 (x4.c.a.toNat : Int))).setCell ⟨blk, off + qb4 * 5 + 4, none⟩ (.int .i64 (x4.t : Int))).drew = w2 at S4 ⊢
            clear ea4 eb4 pa4 pb4 ba4 bb4 ra4 rb4
            go_wp2
            go_roundg (i1 - k1)
            case measure => omega
            case rel => exact ⟨k1, swp dk k k1, by first | rfl | go_num, by omega, by omega, Nat.le_refl _, by rw [size_swp]; exact hsk, S4, H6, H7⟩
          · have hd2 : decide ((k : Int) < (i1 : Int)) = false := by simp; omega
            go_wp2
            try simp only [Exit.inBlock, Exit.then]
            refine bodyPost_ret (results_none rfl _ _ _) rfl ?_
            have e1 : k + 1 = i := by omega
            have e2 := unhide Hc1
            subst e2
            refine ⟨rfl, dk, S3.out, unhide H5, place_left (unhide HS) hmi (by omega) (unhide sR) (fun h => ?_) (fun h => ?_) (e1 ▸ unhide H4)⟩
            · exact (unhide gd a (i - 1) (Nat.le_refl _) (by omega) (by omega) (by omega)).symm.trans (unhide H1 h)
            · exact (unhide gd a i (Nat.le_refl _) (by omega) (by omega) (by omega)).symm.trans (unhide H3 h)

set_option maxHeartbeats 16000000 in
set_option maxRecDepth 1000000 in
/-- Two parts in order, merged: the right one is single. -/
theorem symMergeU_2 (g : Nat) (cb : Array Value) (blk off cap : Nat) (d0 : Array Us) (w0 : World) (lt' : Us → Us → Bool) (hS : SWO lt') (cf : Us → Us → Int) (eg : ∀ args w, (callFunc g args).run Tryd.prog w = .ok (.enter g args) w) (hcmp : CmpLays Tryd.prog g cb encU 5 cf blk off d0.size w0) (R : RowK encU 5 w0 blk off d0)
    (a m b : Nat) (d : Array Us) (w : World) (hs : d0.size = d.size) (S : SWK encU 5 w0 blk off d w) (ham : a < m) (hmb : m < b) (hb : b ≤ d.size) (hsz : d.size < 4611686018427387904) (sL0 : SortedIn lt' a m d) (sR0 : SortedIn lt' m b d)
    (gd0 : ∀ i j, a ≤ i → i < m → m ≤ j → j < b → G (ltOf cf) lt' d[i]! d[j]!) (c1 : ¬ m = a + 1) (c2 : b = m + 1) :
    Calls Tryd.prog 65 #[.slice (some ⟨blk, off, none⟩) d.size cap, .int .i64 a, .int .i64 m, .int .i64 b, .func (.func g) #[] cb] w fun e w' => e = .returned (.tuple #[]) ∧ ∃ d' : Array Us, SWK encU 5 w0 blk off d' w' ∧ PermIn a b d d' ∧ SortedIn lt' a b d' := by
  have sL := hide sL0
  have sR := hide sR0
  have gd := hide gd0
  have HS := hide hS
  clear sL0 sR0 gd0 hS
  have mixed : Tryd.prog.follows .mixedOrders = true := by kernel_rfl
  have S0 : Aside (SWK encU 5 w0 blk off d w) := S
  clear S
  have HC : Aside _ := hcmp
  clear hcmp
  have e1 : ((m : Int) - (a : Int) == 1) = false := by simp; omega
  have e2 : decide ((m : Int) - (a : Int) = 1) = false := by simp; omega
  · have zc2 : (b : Int) - (m : Int) = 1 := by omega
    have Hc2 := hide c2
    have lc2 : m + 1 ≤ b := by omega
    have lc3 : b ≤ m + 1 := by omega
    clear c2 c1
    go_enter Tryd.func65, Tryd.ntmps65
    go_wp2
    go_loopg [14, 15] (m - a) (fun g1 vi vj wr => ∃ (i j : Nat), vi = .int .i64 i ∧ vj = .int .i64 j ∧ a ≤ i ∧ i ≤ j ∧ j ≤ m ∧ j - i ≤ g1 ∧ Aside (SWK encU 5 w0 blk off d wr) ∧
      Hid (a < i → ltOf cf d[m]! d[i - 1]! = false) ∧ Hid (j < m → ltOf cf d[m]! d[j]! = true))
    case atStart => exact ⟨a, m, rfl, rfl, Nat.le_refl _, by omega, Nat.le_refl _, Nat.le_refl _, S0, (fun h => by omega : a < a → _), (fun h => by omega : m < m → _)⟩
    case round =>
      clear S0
      obtain ⟨i, j, rfl, rfl, hai, hij, hjm, hg1, S1, H1, H2⟩ := hrel
      by_cases hlt : i < j
      · have hd : decide ((i : Int) < (j : Int)) = true := by simp; omega
        obtain ⟨h, hh⟩ : ∃ h, h = (i + j) / 2 := ⟨_, rfl⟩
        have zh : ((Nat.cast i : Int) + (Nat.cast j : Int)) / 2 = (Nat.cast h : Int) := by omega
        have lh1 : i ≤ h := by omega
        have lh2 : h < j := by omega
        clear hh
        cases hlv : ltOf cf d[m]! d[h]! with
        | true =>
          obtain ⟨qa5, hqa5⟩ : ∃ q, q = m := ⟨_, rfl⟩
          have ea5 : ((m : Int)).toNat = qa5 := by omega
          have pa5 : (0 : Int) ≤ (m : Int) := by omega
          have ba5 : (m : Int) < (d.size : Int) := by omega
          have ra5 : IntKind.i64.wrap ((m : Int)) = (m : Int) := by rw [IntKind.wrap_i64]; omega
          obtain ⟨qb5, hqb5⟩ : ∃ q, q = h := ⟨_, rfl⟩
          have eb5 : ((h : Int)).toNat = qb5 := by omega
          have pb5 : (0 : Int) ≤ (h : Int) := by omega
          have bb5 : (h : Int) < (d.size : Int) := by omega
          have rb5 : IntKind.i64.wrap ((h : Int)) = (h : Int) := by rw [IntKind.wrap_i64]; omega
          obtain ⟨x5, hx5⟩ : ∃ x, x = d[m]! := ⟨_, rfl⟩
          obtain ⟨y5, hy5⟩ : ∃ x, x = d[h]! := ⟨_, rfl⟩
          obtain ⟨la5_0, la5_1, la5_2, la5_3, la5_4⟩ := gcellsU S1.out R (by omega) (m) (by omega)
          obtain ⟨lb5_0, lb5_1, lb5_2, lb5_3, lb5_4⟩ := gcellsU S1.out R (by omega) (h) (by omega)
          rw [← hx5, ← hqa5] at la5_0 la5_1 la5_2 la5_3 la5_4
          rw [← hy5, ← hqb5] at lb5_0 lb5_1 lb5_2 lb5_3 lb5_4
          have hc5 := S1.out.cmp HC.out (by omega) x5 y5
          have hv5 : cf x5 y5 < 0 := by rw [hx5, hy5]; exact of_decide_eq_true hlv
          have hd5 : decide (cf x5 y5 < 0) = true := decide_eq_true hv5
          clear hx5 hy5 hqa5 hqb5 
          go_wp2_with fail
          go_quiet_grown (first | (go_at_fn g; refine Calls.grown_of (hc5 _ _)))
          have S2 : Aside (SWK encU 5 w0 blk off d (grow (wr.drewN nq) osq)) := S1.out.grown nq osq
          clear la5_0 la5_1 la5_2 la5_3 la5_4 lb5_0 lb5_1 lb5_2 lb5_3 lb5_4 hc5 S1
          generalize grow (wr.drewN nq) osq = w2 at S2 ⊢
          clear nq osq
          clear ea5 eb5 pa5 pb5 ba5 bb5 ra5 rb5 hv5 hd5
          go_wp2
          go_roundg (h - i)
          case measure => omega
          case rel => exact ⟨i, h, rfl, rfl, hai, by omega, by omega, Nat.le_refl _, S2, H1, (fun _ => hlv : h < m → _)⟩
        | false =>
          obtain ⟨qa6, hqa6⟩ : ∃ q, q = m := ⟨_, rfl⟩
          have ea6 : ((m : Int)).toNat = qa6 := by omega
          have pa6 : (0 : Int) ≤ (m : Int) := by omega
          have ba6 : (m : Int) < (d.size : Int) := by omega
          have ra6 : IntKind.i64.wrap ((m : Int)) = (m : Int) := by rw [IntKind.wrap_i64]; omega
          obtain ⟨qb6, hqb6⟩ : ∃ q, q = h := ⟨_, rfl⟩
          have eb6 : ((h : Int)).toNat = qb6 := by omega
          have pb6 : (0 : Int) ≤ (h : Int) := by omega
          have bb6 : (h : Int) < (d.size : Int) := by omega
          have rb6 : IntKind.i64.wrap ((h : Int)) = (h : Int) := by rw [IntKind.wrap_i64]; omega
          obtain ⟨x6, hx6⟩ : ∃ x, x = d[m]! := ⟨_, rfl⟩
          obtain ⟨y6, hy6⟩ : ∃ x, x = d[h]! := ⟨_, rfl⟩
          obtain ⟨la6_0, la6_1, la6_2, la6_3, la6_4⟩ := gcellsU S1.out R (by omega) (m) (by omega)
          obtain ⟨lb6_0, lb6_1, lb6_2, lb6_3, lb6_4⟩ := gcellsU S1.out R (by omega) (h) (by omega)
          rw [← hx6, ← hqa6] at la6_0 la6_1 la6_2 la6_3 la6_4
          rw [← hy6, ← hqb6] at lb6_0 lb6_1 lb6_2 lb6_3 lb6_4
          have hc6 := S1.out.cmp HC.out (by omega) x6 y6
          have hv6 : ¬ cf x6 y6 < 0 := by rw [hx6, hy6]; exact of_decide_eq_false hlv
          have hd6 : decide (cf x6 y6 < 0) = false := decide_eq_false hv6
          clear hx6 hy6 hqa6 hqb6 
          go_wp2_with fail
          go_quiet_grown (first | (go_at_fn g; refine Calls.grown_of (hc6 _ _)))
          have S2 : Aside (SWK encU 5 w0 blk off d (grow (wr.drewN nq) osq)) := S1.out.grown nq osq
          clear la6_0 la6_1 la6_2 la6_3 la6_4 lb6_0 lb6_1 lb6_2 lb6_3 lb6_4 hc6 S1
          generalize grow (wr.drewN nq) osq = w2 at S2 ⊢
          clear nq osq
          clear ea6 eb6 pa6 pb6 ba6 bb6 ra6 rb6 hv6 hd6
          go_wp2
          go_roundg (j - (h + 1))
          case measure => omega
          case rel => exact ⟨h + 1, j, by go_num, rfl, by omega, by omega, hjm, Nat.le_refl _, S2, (fun _ => by rw [Nat.add_sub_cancel]; exact hlv : a < h + 1 → _), H2⟩
      · have hd : decide ((i : Int) < (j : Int)) = false := by simp; omega
        have hji : j ≤ i := by omega
        have H3 : Hid (i < m → ltOf cf d[m]! d[i]! = true) := by rw [show i = j by omega]; exact H2
        clear H2
        go_wp2
        go_loopg [17] (m - i) (fun g2 vk wr2 => ∃ (k : Nat) (dk : Array Us), vk = .int .i64 k ∧ i ≤ k ∧ k ≤ m ∧ k - i ≤ g2 ∧ dk.size = d.size ∧ Aside (SWK encU 5 w0 blk off dk wr2) ∧ Hid (Rot d dk k m (m + 1)) ∧ Hid (PermIn a b d dk))
        case atStart => exact ⟨m, d, rfl, by omega, Nat.le_refl _, Nat.le_refl _, rfl, S1, Rot.right d m (m + 1) (by omega), permIn_refl _ _ _⟩
        case round =>
          clear S1
          obtain ⟨k, dk, rfl, hik, hkm, hg2, hsk, S3, H4, H5⟩ := hrel
          by_cases hki2 : i < k
          · have hd2 : decide ((i : Int) < (k : Int)) = true := by simp; omega
            have hd3 : decide ((k : Int) > (i : Int)) = true := by simp; omega
            obtain ⟨kp, hkp⟩ : ∃ q, q = k - 1 := ⟨_, rfl⟩
            have zkp : (k : Int) - 1 = (kp : Int) := by omega
            have lk1 : k ≤ kp + 1 := by omega
            have lk2 : kp + 1 ≤ k := by omega
            have H6 : Hid (Rot d (swp dk k kp) kp m (m + 1)) := by
              have e : k = kp + 1 := by omega
              subst e
              exact Rot.onL (by omega) (by omega) (unhide H4)
            have H7 : Hid (PermIn a b d (swp dk k kp)) := permIn_trans _ _ _ _ _ (unhide H5) (swp_permIn dk a b k kp (by omega) (by omega) (by omega) (by omega) (by omega))
            clear H4 H5
            obtain ⟨qa7, hqa7⟩ : ∃ q, q = k := ⟨_, rfl⟩
            have ea7 : ((k : Int)).toNat = qa7 := by omega
            have pa7 : (0 : Int) ≤ (k : Int) := by omega
            have ba7 : (k : Int) < (d.size : Int) := by omega
            have ra7 : IntKind.i64.wrap ((k : Int)) = (k : Int) := by rw [IntKind.wrap_i64]; omega
            obtain ⟨qb7, hqb7⟩ : ∃ q, q = kp := ⟨_, rfl⟩
            have eb7 : ((kp : Int)).toNat = qb7 := by omega
            have pb7 : (0 : Int) ≤ (kp : Int) := by omega
            have bb7 : (kp : Int) < (d.size : Int) := by omega
            have rb7 : IntKind.i64.wrap ((kp : Int)) = (kp : Int) := by rw [IntKind.wrap_i64]; omega
            obtain ⟨x7, hx7⟩ : ∃ x, x = dk[k]! := ⟨_, rfl⟩
            obtain ⟨y7, hy7⟩ : ∃ x, x = dk[kp]! := ⟨_, rfl⟩
            have S4 : Aside (SWK encU 5 w0 blk off (swp dk (k) (kp)) ((((((((((wr.setCell ⟨blk, off + qa7 * 5, none⟩ (.int .u8 (y7.c.r.toNat : Int))).setCell ⟨blk, off + qa7 * 5 + 1, none⟩ (.int .u8 (y7.c.g.toNat : Int))).setCell ⟨blk, off + qa7 * 5 + 2, none⟩ (.int .u8 (y7.c.b.toNat : Int))).setCell ⟨blk, off + qa7 * 5 + 3, none⟩ (.int .u8 (y7.c.a.toNat : Int))).setCell ⟨blk, off + qa7 * 5 + 4, none⟩ (.int .i64 (y7.t : Int))).setCell ⟨blk, off + qb7 * 5, none⟩ (.int .u8 (x7.c.r.toNat : Int))).setCell ⟨blk, off + qb7 * 5 + 1, none⟩ (.int .u8 (x7.c.g.toNat : Int))).setCell ⟨blk, off + qb7 * 5 + 2, none⟩ (.int .u8 (x7.c.b.toNat : Int))).setCell ⟨blk, off + qb7 * 5 + 3, none⟩ (.int .u8 (x7.c.a.toNat : Int))).setCell ⟨blk, off + qb7 * 5 + 4, none⟩ (.int .i64 (x7.t : Int))).drew) := by rw [hqa7, hqb7, hx7, hy7]; exact swappedU S3.out R (k) (kp) (by omega) (by omega)
            obtain ⟨ca7_0, ca7_1, ca7_2, ca7_3, ca7_4, fa7_0, fa7_1, fa7_2, fa7_3, fa7_4⟩ := cellsU S3.out R (by omega) (k) (by omega)
            obtain ⟨cb7_0, cb7_1, cb7_2, cb7_3, cb7_4, fb7_0, fb7_1, fb7_2, fb7_3, fb7_4⟩ := cellsU S3.out R (by omega) (kp) (by omega)
            obtain ⟨u7_0, u7_1, u7_2, u7_3, u7_4, u7_5, u7_6, u7_7, u7_8, cc7_0, cc7_1, cc7_2, cc7_3, cc7_4, cc7_5, cc7_6, cc7_7, cc7_8⟩ := afterU S3.out R (by omega) (k) (kp) (by omega) (by omega) x7 y7
            rw [← hqa7] at cc7_0 cc7_1 cc7_2 cc7_3
            rw [← hqb7, ← hqa7] at cc7_4 cc7_5 cc7_6 cc7_7 cc7_8
            rw [← hx7, ← hqa7] at ca7_0 ca7_1 ca7_2 ca7_3 ca7_4
            rw [← hy7, ← hqb7] at cb7_0 cb7_1 cb7_2 cb7_3 cb7_4
            rw [← hqa7] at fa7_0 fa7_1 fa7_2 fa7_3 fa7_4
            rw [← hqb7] at fb7_0 fb7_1 fb7_2 fb7_3 fb7_4
            clear S3 hx7 hy7 hqa7 hqb7 hkp
            go_wp2_with fail
            go_region
            clear ca7_0 ca7_1 ca7_2 ca7_3 ca7_4 cb7_0 cb7_1 cb7_2 cb7_3 cb7_4 fa7_0 fa7_1 fa7_2 fa7_3 fa7_4 fb7_0 fb7_1 fb7_2 fb7_3 fb7_4 cc7_0 cc7_1 cc7_2 cc7_3 cc7_4 cc7_5 cc7_6 cc7_7 cc7_8
            generalize ((((((((((wr.setCell ⟨blk, off + qa7 * 5, none⟩ (.int .u8 (y7.c.r.toNat : Int))).setCell ⟨blk, off + qa7 * 5 + 1, none⟩ (.int .u8 (y7.c.g.toNat : Int))).setCell ⟨blk, off + qa7 * 5 + 2, none⟩ (.int .u8 (y7.c.b.toNat : Int))).setCell ⟨blk, off + qa7 * 5 + 3, none⟩ (.int .u8 (y7.c.a.toNat : Int))).setCell ⟨blk, off + qa7 * 5 + 4, none⟩ (.int .i64 (y7.t : Int))).setCell ⟨blk, off + qb7 * 5, none⟩ (.int .u8 (x7.c.r.toNat : Int))).setCell ⟨blk, off + qb7 * 5 + 1, none⟩ (.int .u8 (x7.c.g.toNat : Int))).setCell ⟨blk, off + qb7 * 5 + 2, none⟩ (.int .u8 (x7.c.b.toNat : Int))).setCell ⟨blk, off + qb7 * 5 + 3, none⟩ (.int .u8 (x7.c.a.toNat : Int))).setCell ⟨blk, off + qb7 * 5 + 4, none⟩ (.int .i64 (x7.t : Int))).drew = w2 at S4 ⊢
            clear ea7 eb7 pa7 pb7 ba7 bb7 ra7 rb7
            go_wp2
            go_roundg (kp - i)
            case measure => omega
            case rel => exact ⟨kp, swp dk k kp, by first | rfl | go_num, by omega, by omega, Nat.le_refl _, by rw [size_swp]; exact hsk, S4, H6, H7⟩
          · have hd2 : decide ((i : Int) < (k : Int)) = false := by simp; omega
            have hd3 : decide ((k : Int) > (i : Int)) = false := by simp; omega
            go_wp2
            try simp only [Exit.inBlock, Exit.then]
            refine bodyPost_ret (results_none rfl _ _ _) rfl ?_
            have q1 : k = i := by omega
            have q2 := unhide Hc2
            subst q2
            refine ⟨rfl, dk, S3.out, unhide H5, place_right (unhide HS) hai (by omega) (unhide sL) (fun h => ?_) (fun h => ?_) (q1 ▸ unhide H4)⟩
            · exact (unhide gd (i - 1) m (by omega) (by omega) (by omega) (by omega)).symm.trans (unhide H1 h)
            · exact (unhide gd i m (by omega) (by omega) (by omega) (by omega)).symm.trans (unhide H3 h)

end Go.Proofs.YtpfobocdbmiagaaDoor
