/- Colors that are used most: the document's. -/
import Derived.Test.YtpfobocdbmiagaaDoorMg8
import Derived.Test.YtpfobocdbmiagaaDoorCu5
namespace Go.Proofs.YtpfobocdbmiagaaDoor
open Go.RowKit

/-- The colors that were chosen so far. -/
def tkC (p : Nat → Px) (n k : Nat) : List Px := ((mostL p n).take k).map (·.c)
/-- The uses, those that were chosen with none. -/
def zr (p : Nat → Px) (n k : Nat) : List Us := (ucnt p n).map fun u => if u.c ∈ tkC p n k then ⟨u.c, 0⟩ else u
theorem zr_length (p : Nat → Px) (n k : Nat) : (zr p n k).length = (ulk p n).length := by unfold zr; rw [List.length_map, ucnt_length]
theorem zr_at (p : Nat → Px) (n k j : Nat) (h : j < (ucnt p n).length) : (zr p n k).getD j default = if (ucnt p n)[j].c ∈ tkC p n k then ⟨(ucnt p n)[j].c, 0⟩ else (ucnt p n)[j] := by
  unfold zr
  rw [List.getD_eq_getElem?_getD, List.getElem?_map, List.getElem?_eq_getElem h]
  rfl
def zT (p : Nat → Px) (n k j : Nat) : Nat := ((zr p n k).getD j default).t
theorem zr_zero (p : Nat → Px) (n : Nat) : zr p n 0 = ucnt p n := by
  unfold zr tkC
  rw [List.take_zero, List.map_nil]
  exact (List.map_congr_left (fun u _ => if_neg (List.not_mem_nil))).trans (List.map_id _)
theorem mostL_nodup (p : Nat → Px) (n : Nat) : ((mostL p n).map (·.c)).Nodup := by
  refine ((mostL_perm p n).map (·.c)).nodup_iff.2 ?_
  rw [ucnt_colors]
  exact ulk_nodup p n
theorem left_not {p : Nat → Px} {n k : Nat} {x : Us} (h : x ∈ (mostL p n).drop k) : x.c ∉ tkC p n k := fun hc => by
  have hn := mostL_nodup p n
  rw [← List.take_append_drop k (mostL p n), List.map_append, List.nodup_append] at hn
  exact hn.2.2 x.c hc x.c (List.mem_map_of_mem h) rfl
theorem not_left {p : Nat → Px} {n k : Nat} {x : Us} (hx : x ∈ ucnt p n) (h : x.c ∉ tkC p n k) : x ∈ (mostL p n).drop k := by
  have hm : x ∈ mostL p n := (mostL_perm p n).mem_iff.2 hx
  rw [← List.take_append_drop k (mostL p n)] at hm
  rcases List.mem_append.1 hm with q | q
  · exact absurd (List.mem_map_of_mem q) h
  · exact q
theorem idx_ucnt (p : Nat → Px) (n i : Nat) (h : i < (ucnt p n).length) : (ulk p n).idxOf ((ucnt p n)[i]'h).c = i := by
  have hl : (ucnt p n).length = (ulk p n).length := ucnt_length p n
  have hiU : i < (ulk p n).length := by omega
  have e : ((ucnt p n)[i]'h).c = (ulk p n)[i]'hiU := by
    have h1 := congrArg (fun l => l[i]?) (ucnt_colors p n)
    simp only [List.getElem?_map, List.getElem?_eq_getElem h, List.getElem?_eq_getElem hiU, Option.map_some, Option.some.injEq] at h1
    exact h1
  rw [e]
  exact (ulk_nodup p n).idxOf_getElem i hiU
theorem ucnt_pos (p : Nat → Px) (n i : Nat) (h : i < (ucnt p n).length) : 1 ≤ ((ucnt p n)[i]'h).t := by
  have hm : (ucnt p n)[i]'h ∈ ucnt p n := List.getElem_mem h
  unfold ucnt cntH at hm
  obtain ⟨x, hx, e⟩ := List.mem_map.1 hm
  have := tms_pos p n hx
  have e2 : ((ucnt p n)[i]'h).t = tms p n x := by
    have := congrArg Us.t e
    exact this.symm
  omega
/-- What is chosen is the next. -/
theorem pick (p : Nat → Px) (n k b : Nat) (hk : k < (mostL p n).length) (hb : b < (ucnt p n).length) (hpos : 0 < zT p n k b) (hmax : ∀ j, j < (ucnt p n).length → zT p n k j ≤ zT p n k b) (hfirst : ∀ j, j < b → zT p n k j < zT p n k b) : (ucnt p n)[b] = (mostL p n)[k] := by
  have hz : ∀ j, (h : j < (ucnt p n).length) → (ucnt p n)[j].c ∉ tkC p n k → zT p n k j = (ucnt p n)[j].t := fun j h hc => by unfold zT; rw [zr_at p n k j h, if_neg hc]
  have hbc : (ucnt p n)[b].c ∉ tkC p n k := fun hc => by
    unfold zT at hpos
    rw [zr_at p n k b hb, if_pos hc] at hpos
    exact absurd hpos (Nat.lt_irrefl 0)
  refine next_is (mostL_ord p n) k hk _ (not_left (List.getElem_mem hb) hbc) (fun y hy hne => ?_)
  have hyc := left_not hy
  have hyl : y ∈ ucnt p n := (mostL_perm p n).mem_iff.1 (List.drop_subset k _ hy)
  obtain ⟨j, hj, e⟩ := List.getElem_of_mem hyl
  subst e
  have h1 := hmax j hj
  rw [hz j hj hyc, hz b hb hbc] at h1
  rw [ltU_iff, idx_ucnt p n b hb, idx_ucnt p n j hj]
  rcases Nat.lt_or_ge j b with c | c
  · have h2 := hfirst j c
    rw [hz j hj hyc, hz b hb hbc] at h2
    exact .inl h2
  · rcases Nat.lt_or_ge b j with c2 | c2
    · rcases Nat.lt_or_ge ((ucnt p n)[j].t) ((ucnt p n)[b].t) with c3 | c3
      · exact .inl c3
      · exact .inr ⟨by omega, c2⟩
    · obtain rfl : j = b := by omega
      exact absurd rfl hne
theorem some_left (p : Nat → Px) (n k : Nat) (hk : k < (mostL p n).length) : ∃ j, j < (ucnt p n).length ∧ 0 < zT p n k j := by
  have hm : (mostL p n)[k] ∈ (mostL p n).drop k := by
    rw [List.drop_eq_getElem_cons hk]
    exact List.mem_cons_self ..
  have hc := left_not hm
  have hl : (mostL p n)[k] ∈ ucnt p n := (mostL_perm p n).mem_iff.1 (List.getElem_mem hk)
  obtain ⟨j, hj, e⟩ := List.getElem_of_mem hl
  refine ⟨j, hj, ?_⟩
  unfold zT
  rw [zr_at p n k j hj, e, if_neg hc, ← e]
  exact ucnt_pos p n j hj
theorem tkC_succ (p : Nat → Px) (n k : Nat) (hk : k < (mostL p n).length) : tkC p n (k + 1) = tkC p n k ++ [(mostL p n)[k].c] := by
  unfold tkC
  rw [← List.take_append_getElem hk, List.map_append]
  rfl
theorem tkC_length (p : Nat → Px) (n k : Nat) (hk : k ≤ (mostL p n).length) : (tkC p n k).length = k := by
  unfold tkC
  rw [List.length_map, List.length_take]
  omega
theorem tkC_at (p : Nat → Px) (n k i : Nat) (hi : i < k) (hk : k ≤ (mostL p n).length) : (tkC p n k).getD i default = ((mostL p n).getD i default).c := by
  unfold tkC
  rw [List.getD_eq_getElem?_getD, List.getElem?_map, List.getElem?_take, if_pos hi, List.getD_eq_getElem?_getD, List.getElem?_eq_getElem (show i < (mostL p n).length by omega)]
  rfl
theorem zr_next (p : Nat → Px) (n k b : Nat) (hk : k < (mostL p n).length) (hb : b < (ucnt p n).length) (h : (ucnt p n)[b] = (mostL p n)[k]) : (zr p n k).set b ⟨((zr p n k).getD b default).c, 0⟩ = zr p n (k + 1) := by
  have hL : (ucnt p n).length = (ulk p n).length := ucnt_length p n
  refine List.ext_getElem (by rw [List.length_set, zr_length, zr_length]) (fun j h1 h2 => ?_)
  have hj : j < (ucnt p n).length := by rw [zr_length] at h2; omega
  have e2 : (zr p n (k + 1))[j] = (zr p n (k + 1)).getD j default := by rw [List.getD_eq_getElem?_getD, List.getElem?_eq_getElem h2]; rfl
  have h1' : j < (zr p n k).length := by rw [zr_length]; omega
  have e1 : (zr p n k)[j] = (zr p n k).getD j default := by rw [List.getD_eq_getElem?_getD, List.getElem?_eq_getElem h1']; rfl
  rw [List.getElem_set, e2, zr_at p n (k + 1) j hj]
  have hmem : (ucnt p n)[j].c ∈ tkC p n (k + 1) ↔ (ucnt p n)[j].c ∈ tkC p n k ∨ (ucnt p n)[j].c = (mostL p n)[k].c := by
    rw [tkC_succ p n k hk, List.mem_append, List.mem_singleton]
  by_cases e : b = j
  · subst e
    rw [if_pos rfl, if_pos (hmem.2 (.inr (by rw [h]))), zr_at p n k b hb]
    split <;> rfl
  · rw [if_neg e, e1, zr_at p n k j hj]
    by_cases hc : (ucnt p n)[j].c ∈ tkC p n k
    · rw [if_pos hc, if_pos (hmem.2 (.inl hc))]
    · rw [if_neg hc, if_neg]
      intro q
      rcases hmem.1 q with q | q
      · exact hc q
      · rw [← h] at q
        have g1 := idx_ucnt p n j hj
        have g2 := idx_ucnt p n b hb
        rw [q] at g1
        omega
/-- How long a slice is. -/
def lenV : Value → Nat
  | .slice _ n _ => n
  | _ => 0
/-- The choice so far. -/
def BI (z : Nat → Nat) (i : Nat) (v : Int) : Prop := (v = -1 ∧ ∀ j, j < i → z j = 0) ∨ ∃ b : Nat, v = (b : Int) ∧ b < i ∧ 0 < z b ∧ (∀ j, j < i → z j ≤ z b) ∧ ∀ j, j < b → z j < z b
theorem below_or {j i : Nat} (h : j < i + 1) : j < i ∨ j = i := by omega
theorem BI.zero {z : Nat → Nat} {i : Nat} {v : Int} (h : BI z i v) (h0 : z i = 0) : BI z (i + 1) v := by
  rcases h with ⟨e, h⟩ | ⟨b, e, hb, hp, h1, h2⟩
  · refine .inl ⟨e, fun j hj => ?_⟩
    rcases below_or hj with c | c
    · exact h j c
    · rw [c]; exact h0
  · refine .inr ⟨b, e, by omega, hp, fun j hj => ?_, h2⟩
    rcases below_or hj with c | c
    · exact h1 j c
    · rw [c]; omega
theorem BI.first {z : Nat → Nat} {i : Nat} (h : ∀ j, j < i → z j = 0) (hp : 0 < z i) : BI z (i + 1) (i : Int) := by
  refine .inr ⟨i, rfl, by omega, hp, fun j hj => ?_, fun j hj => by rw [h j hj]; exact hp⟩
  rcases below_or hj with c | c
  · rw [h j c]; omega
  · rw [c]; exact Nat.le_refl _
theorem BI.more {z : Nat → Nat} {i b : Nat} (h1 : ∀ j, j < i → z j ≤ z b) (hp : z b < z i) : BI z (i + 1) (i : Int) := by
  refine .inr ⟨i, rfl, by omega, by omega, fun j hj => ?_, fun j hj => by have := h1 j hj; omega⟩
  rcases below_or hj with c | c
  · have := h1 j c; omega
  · rw [c]; exact Nat.le_refl _
theorem BI.less {z : Nat → Nat} {i b : Nat} (hb : b < i) (h0 : 0 < z b) (h1 : ∀ j, j < i → z j ≤ z b) (h2 : ∀ j, j < b → z j < z b) (hp : z i ≤ z b) : BI z (i + 1) (b : Int) := by
  refine .inr ⟨b, rfl, by omega, h0, fun j hj => ?_, h2⟩
  rcases below_or hj with c | c
  · exact h1 j c
  · rw [c]; exact hp
theorem zT_le (p : Nat → Px) (n k j : Nat) (h : j < (ucnt p n).length) : zT p n k j ≤ n := by
  have h1 : ((ucnt p n)[j]'h).t ≤ n := by
    have hm : (ucnt p n)[j]'h ∈ ucnt p n := List.getElem_mem h
    unfold ucnt cntH at hm
    obtain ⟨x, _, e⟩ := List.mem_map.1 hm
    have e2 : ((ucnt p n)[j]'h).t = tms p n x := (congrArg Us.t e).symm
    have := tms_le p n x
    omega
  unfold zT
  rw [zr_at p n k j h]
  split
  · exact Nat.zero_le _
  · exact h1

set_option maxHeartbeats 8000000 in
set_option maxRecDepth 100000 in
theorem mostUsedOf_any (W H : Int) (a : Option Addr) (n c : Nat) (p : Nat → Px) (m : Nat) (w : World) (hP : IsPx w a n p) (hn : n ≤ 70000) (hm : m ≤ 256) :
    Calls Tryd.prog 25 #[.agg #[.int .i64 W, .int .i64 H, .slice a n c], .int .i64 (m : Int)] w fun e w' => ∃ a3 c3, e = .returned (.slice a3 (min m (ulk p n).length) c3) ∧ IsPx w' a3 (min m (ulk p n).length) (fun i => ((mostL p n).getD i default).c) ∧ Below w.heap.size w w' := by
  have hul := ulk_len p n
  have hdl := mostL_length p n
  have hll := ucnt_length p n
  have HC := hide (fun wr (hb : Below w.heap.size w wr) => countOf_any W H a n c p wr (hP.below hb) hn)
  have HAL := hide (al1 w (.cells #[.int .i64 W, .int .i64 H, .slice a n c] 24))
  have HPK := hide (fun k b (hk : k < (ulk p n).length) (hb : b < (ulk p n).length) (h1 : 0 < zT p n k b) (h2 : ∀ j, j < (ulk p n).length → zT p n k j ≤ zT p n k b) (h3 : ∀ j, j < b → zT p n k j < zT p n k b) => pick p n k b (by omega) (by omega) h1 (fun j hj => h2 j (by omega)) h3)
  have HSM : Hid (∀ k, k < (ulk p n).length → ∃ j, j < (ulk p n).length ∧ 0 < zT p n k j) := fun k hk => by
    obtain ⟨j, hj, h⟩ := some_left p n k (by omega)
    exact ⟨j, by omega, h⟩
  have HZL := hide (fun k => zr_length p n k)
  have HZT : Hid (∀ k j, j < (ulk p n).length → zT p n k j ≤ 70000) := fun k j hj => Nat.le_trans (zT_le p n k j (by omega)) hn
  have HTL : Hid (∀ k, k ≤ (ulk p n).length → (tkC p n k).length = k) := fun k hk => tkC_length p n k (by omega)
  have HNX : Hid (∀ k b, k < (ulk p n).length → b < (ulk p n).length → 0 < zT p n k b → (∀ j, j < (ulk p n).length → zT p n k j ≤ zT p n k b) → (∀ j, j < b → zT p n k j < zT p n k b) → (zr p n k).set b ⟨((zr p n k).getD b default).c, 0⟩ = zr p n (k + 1) ∧ tkC p n k ++ [((zr p n k).getD b default).c] = tkC p n (k + 1)) := fun k b hk hb h1 h2 h3 => by
    have e := pick p n k b (by omega) (by omega) h1 (fun j hj => h2 j (by omega)) h3
    refine ⟨zr_next p n k b (by omega) (by omega) e, ?_⟩
    rw [tkC_succ p n k (by omega), ← e, zr_at p n k b (by omega)]
    congr 2
    split <;> rfl
  have HFI : Hid (∀ k i, i < k → k ≤ (ulk p n).length → (tkC p n k).getD i default = ((mostL p n).getD i default).c) := fun k i hi hk => tkC_at p n k i hi (by omega)
  obtain ⟨B, hB⟩ : ∃ B, B = w.heap.size := ⟨_, rfl⟩
  clear hP hdl hll HPK
  go_enter Tryd.func25, Tryd.ntmps25
  go_wp2_with fail
  generalize w.alloc (.cells #[.int .i64 W, .int .i64 H, .slice a n c] 24) = w1 at *
  rw [← hB] at HAL HC ⊢
  obtain ⟨hs1, _, hb1⟩ := unhide HAL
  have HBE := hide hB
  refine (unhide HC _ hb1).mono ?_
  rintro e w2 ⟨a1, c1, rfl, ho, hb2⟩
  have hz2 := hb2.size
  have HB0 := hide (hb1.trans (hb2.mono (by omega)))
  have HR0 : Hid (w2.ownsRow (B + 1) 43 5 (.slice a1 (ulk p n).length c1) (ulk p n).length (usL (zr p n 0))) := by
    show World.ownsRow _ _ _ _ _ _ _
    rw [zr_zero]
    exact own_rebase ho (by omega)
  have HN0 : Hid (w2.ownsRow (B + 1) 40 4 (.slice none 0 0) (tkC p n 0).length (pxL (tkC p n 0))) := World.ownsRow_nil _ _ _ _
  have HAP0 : Hid (∀ g, (Value.slice none 0 0).ownBlock = some g → (Value.slice a1 (ulk p n).length c1).ownBlock ≠ some g) := fun g e => by simp [Value.ownBlock] at e
  obtain ⟨L, hL⟩ : ∃ L, L = (ulk p n).length := ⟨_, rfl⟩
  rw [← hL] at HR0 HAP0 HSM HZL HZT HTL HNX HFI hul ⊢
  have HLE := hide hL
  have hz0 : B + 1 ≤ w2.heap.size := by omega
  clear HAL HC hs1 hb1 hB ho hb2 hz2 hL
  go_wp2
  go_loopw [6] (fun nv wr => ∃ k : Nat, k ≤ L ∧ k ≤ m ∧ Hid (wr.ownsRow (B + 1) 40 4 nv (tkC p n k).length (pxL (tkC p n k))) ∧ Hid (wr.ownsRow (B + 1) 43 5 (.slice a1 L c1) L (usL (zr p n k))) ∧ Hid (∀ g, nv.ownBlock = some g → (Value.slice a1 L c1).ownBlock ≠ some g) ∧ Hid (Below B w wr) ∧ B + 1 ≤ wr.heap.size) (fun nv _ => L - lenV nv)
  case atStart => exact ⟨0, Nat.zero_le _, Nat.zero_le _, HN0, HR0, HAP0, HB0, hz0⟩
  case round =>
    clear HN0 HR0 HAP0 HB0 hz0
    obtain ⟨k, hk, hkm, HN, HR, HAP, HB, hz⟩ := hrel
    obtain ⟨na, nc, rfl⟩ := own_shape4 (unhide HN)
    have hkl := unhide HTL k hk
    rw [hkl] at HN HAP ⊢
    by_cases hmore : k < m ∧ k < L
    · have e1 : decide ((k : Int) < (m : Int)) = true := decide_eq_true (by omega)
      have e2 : decide ((k : Int) < (L : Int)) = true := decide_eq_true (by omega)
      have e1n : decide (k < m) = true := decide_eq_true hmore.1
      have e2n : decide (k < L) = true := decide_eq_true hmore.2
      obtain ⟨g, rfl, hgB, hgl⟩ := own_some (unhide HR) (by omega)
      have hzl := unhide HZL k
      have hU : ∀ j, j < L → UsAt wr g (j * 5) ((zr p n k).getD j default) := fun j hj => by
        have hj' : j < (zr p n k).length := by omega
        have := own_usAt (unhide HR) j hj' hzl
        rw [List.getD_eq_getElem?_getD, List.getElem?_eq_getElem hj']
        exact this
      have HU := hide hU
      have HCT : Hid (∀ j, j < L → wr.cell? ⟨g, j * 5 + 4, none⟩ = some (.int .i64 (zT p n k j : Int))) := fun j hj => (hU j hj).t
      have HMX := hide (unhide HSM k hmore.2)
      have HNK := hide (fun b => unhide HNX k b hmore.2)
      have HZB := hide (fun j hj => unhide HZT k j hj)
      clear hU
      generalize hzt : zT p n k = z at *
      go_wp2
      go_loopw [7, 8] (fun bv iv wq => ∃ (i nn : Nat) (v : Int), i ≤ L ∧ iv = .int .i64 (i : Int) ∧ bv = .int .i64 v ∧ Hid (BI z i v) ∧ wq = wr.drewN nn) (fun _ iv _ => L - (intOf iv).toNat)
      case atStart => exact ⟨0, 0, -1, Nat.zero_le _, rfl, rfl, .inl ⟨rfl, fun j hj => absurd hj (Nat.not_lt_zero j)⟩, rfl⟩
      case round =>
        obtain ⟨i, nn, v, hi, rfl, rfl, HI, rfl⟩ := hrel
        by_cases hlt : i < L
        · have d1 : decide ((i : Int) < (L : Int)) = true := decide_eq_true (by omega)
          have d1n : decide (i < L) = true := decide_eq_true hlt
          have hii : (i : Int) < (L : Int) := by omega
          have ci := unhide HCT i hlt
          have hzb := unhide HZB i hlt
          by_cases h0 : z i = 0
          · have HI2 := hide ((unhide HI).zero h0)
            rw [h0] at ci
            have e3 : decide (((0 : Nat) : Int) > 0) = false := rfl
            clear HI hzb
            go_wp2
            go_quiet (fail)
            go_wp2
            go_roundw
            case rel => exact ⟨i + 1, _, v, by omega, by go_num, rfl, HI2, rfl⟩
            case measure => simp [intOf]; omega
          · rcases unhide HI with ⟨rfl, hz0⟩ | ⟨b, rfl, hb, hp, h1, h2⟩
            · have HI2 : Hid (BI z (i + 1) (i : Int)) := BI.first hz0 (by omega)
              generalize z i = zi at *
              have e3 : decide ((zi : Int) > 0) = true := decide_eq_true (by omega)
              have e3' : decide ((0 : Int) < (zi : Int)) = true := e3
              have e3n : decide (0 < zi) = true := decide_eq_true (by omega)
              have e4 : decide ((-1 : Int) < 0) = true := by decide
              clear HI hz0
              go_wp2
              go_quiet (fail)
              go_wp2
              go_roundw
              case rel => exact ⟨i + 1, _, _, by omega, by go_num, rfl, HI2, rfl⟩
              case measure => simp [intOf]; omega
            · have cb := unhide HCT b (by omega)
              have hbL : (b : Int) < (L : Int) := by omega
              have e4 : decide ((b : Int) < 0) = false := decide_eq_false (by omega)
              have hzbb := unhide HZB b (by omega)
              by_cases hgt : z b < z i
              · have HI2 : Hid (BI z (i + 1) (i : Int)) := BI.more h1 hgt
                generalize z i = zi at *
                generalize z b = zb at *
                have e3 : decide ((zi : Int) > 0) = true := decide_eq_true (by omega)
                have e3' : decide ((0 : Int) < (zi : Int)) = true := e3
                have e3n : decide (0 < zi) = true := decide_eq_true (by omega)
                have e5 : decide ((zi : Int) > (zb : Int)) = true := decide_eq_true (by omega)
                have e5' : decide ((zb : Int) < (zi : Int)) = true := e5
                have e5n : decide (zb < zi) = true := decide_eq_true hgt
                clear HI h1 h2
                go_wp2
                go_quiet (fail)
                go_wp2
                go_roundw
                case rel => exact ⟨i + 1, _, _, by omega, by go_num, rfl, HI2, rfl⟩
                case measure => simp [intOf]; omega
              · have HI2 : Hid (BI z (i + 1) (b : Int)) := BI.less hb hp h1 h2 (by omega)
                generalize z i = zi at *
                generalize z b = zb at *
                have e3 : decide ((zi : Int) > 0) = true := decide_eq_true (by omega)
                have e3' : decide ((0 : Int) < (zi : Int)) = true := e3
                have e3n : decide (0 < zi) = true := decide_eq_true (by omega)
                have e5 : decide ((zi : Int) > (zb : Int)) = false := decide_eq_false (by omega)
                have e5' : decide ((zb : Int) < (zi : Int)) = false := e5
                have e5n : decide (zb < zi) = false := decide_eq_false hgt
                clear HI h1 h2
                go_wp2
                go_quiet (fail)
                go_wp2
                go_roundw
                case rel => exact ⟨i + 1, _, _, by omega, by go_num, rfl, HI2, rfl⟩
                case measure => simp [intOf]; omega
        · obtain rfl : i = L := by omega
          have d1 : decide ((i : Int) < (i : Int)) = false := by simp
          rcases unhide HI with ⟨_, hz0⟩ | ⟨b, rfl, hb, hp, h1, h2⟩
          · obtain ⟨j, hj, hjp⟩ := unhide HMX
            have := hz0 j hj
            omega
          · obtain ⟨n1, n2⟩ := unhide HNK b hb hp h1 h2
            have hbL : (b : Int) < (i : Int) := by omega
            obtain ⟨⟨x0, x1, x2, x3⟩, x4⟩ := unhide HU b hb
            have hbD := below_drewN (Below.refl wr.heap.size wr) nn
            have hbz : b < (zr p n k).length := by omega
            have hset := usL_set (zr p n k) b 0 hbz
            have hgx : (zr p n k)[b] = (zr p n k).getD b default := by rw [List.getD_eq_getElem?_getD, List.getElem?_eq_getElem hbz]; rfl
            rw [hgx, n1] at hset
            have HSET := hide hset
            have HN2 := hide n2
            have HUT : Hid (∀ wx : World, wx.ownsRow (B + 1) 43 5 (.slice (some ⟨g, 0, none⟩) i c1) i (usL (zr p n k)) → wx.cell? ⟨g, b * 5 + 4, none⟩ = some (.int .i64 ((((zr p n k).getD b default).t : Nat) : Int))) := fun wx h => by
              have := (own_usAt h b hbz hzl).t
              rw [hgx] at this
              exact this
            generalize (zr p n k).getD b default = u at *
            have x0 : (wr.drewN nn).cell? ⟨g, b * 5, none⟩ = _ := x0
            have x1 : (wr.drewN nn).cell? ⟨g, b * 5 + 1, none⟩ = _ := x1
            have x2 : (wr.drewN nn).cell? ⟨g, b * 5 + 2, none⟩ = _ := x2
            have x3 : (wr.drewN nn).cell? ⟨g, b * 5 + 3, none⟩ = _ := x3
            have HNd := hide (own_belowP (unhide HN) hbD)
            have HRd := hide (own_belowP (unhide HR) hbD)
            have HBd := hide ((unhide HB).trans (hbD.mono (show B ≤ wr.heap.size by omega)))
            have hzd : B + 1 ≤ (wr.drewN nn).heap.size := hz
            have hgd : g < (wr.drewN nn).heap.size := hgl
            generalize wr.drewN nn = w4 at *
            have HA5 := hide (al1 w4 (.cells #[.int .u8 (u.c.r.toNat : Int), .int .u8 (u.c.g.toNat : Int), .int .u8 (u.c.b.toNat : Int), .int .u8 (u.c.a.toNat : Int)] 40))
            have HF5 := hide (four_new w4 u.c 40)
            have HN5 := hide ((unhide HNd).alloc (.cells #[.int .u8 (u.c.r.toNat : Int), .int .u8 (u.c.g.toNat : Int), .int .u8 (u.c.b.toNat : Int), .int .u8 (u.c.a.toNat : Int)] 40))
            have HR5 := hide ((unhide HRd).alloc (.cells #[.int .u8 (u.c.r.toNat : Int), .int .u8 (u.c.g.toNat : Int), .int .u8 (u.c.b.toNat : Int), .int .u8 (u.c.a.toNat : Int)] 40))
            clear hbD hset hgx n1 n2 HN HR HB HU HCT HMX HNK HZB HI h1 h2 hp HNd HRd x4 hzt
            go_wp2_with (at_builtin; refine wpList_appPx1 _ rfl (.tmp 52) (.tmp 58) rfl (B + 1) w4.heap.size (.slice na k nc) (tkC p n k) u.c rfl rfl (by rw [hkl]; exact unhide HN5) (unhide HF5) (by rw [hkl]; omega) (by have := (unhide HA5).size; omega) ?_)
            intro v6 w6 ho6 hg6 hat6
            obtain ⟨hs5, _, hb5⟩ := unhide HA5
            have hz6 := hg6.size
            have hno : ∀ q, (Value.slice na k nc).ownBlock = some q → B < q := fun q e => ((unhide HN5).lt q e).1
            have hkl1 := unhide HTL (k + 1) (by omega)
            have ho7 : w6.ownsRow (B + 1) 40 4 v6 (k + 1) (pxL (tkC p n (k + 1))) := by
              have hl9 : (tkC p n k ++ [u.c]).length = k + 1 := by rw [unhide HN2, hkl1]
              have hl8 : (tkC p n k).length + 1 = k + 1 := by rw [hkl]
              rw [← unhide HN2]
              first | exact ho6 | (rw [hl9] at ho6; exact ho6) | (rw [hl8] at ho6; exact ho6)
            obtain ⟨a7, c7, rfl⟩ := own_shape4 ho7
            have hr6 := own_stay (unhide HR5) (fun q e => hg6.block q ((unhide HR5).lt q e).2 (fun e2 => unhide HAP q e2.symm e))
            have ct6 : w6.cell? ⟨g, b * 5 + 4, none⟩ = some (.int .i64 (u.t : Int)) := by
              have hq := (unhide HUT) w6 hr6
              exact hq
            have cf6 := hr6.frozenAt (b * 5 + 4)
            obtain ⟨hr7, hg7⟩ := hr6.stored (b * 5 + 4) (.int .i64 ((0 : Nat) : Int))
            rw [unhide HSET] at hr7
            have HR8 := hide hr7
            have hap7 : ∀ q, (Value.slice a7 (k + 1) c7).ownBlock = some q → q ≠ g := fun q e e2 => by
              rcases hat6 with y | y
              · rw [y] at e; subst e2; exact unhide HAP q e rfl
              · rw [y] at e; injection e with e; omega
            have HN8 := hide (own_stay ho7 (fun q e => hg7.block q (ho7.lt q e).2 (fun e2 => hap7 q e (by injection e2))))
            have HAP8 : Hid (∀ q, (Value.slice a7 (k + 1) c7).ownBlock = some q → (Value.slice (some ⟨g, 0, none⟩) i c1).ownBlock ≠ some q) := fun q e e2 => hap7 q e (by injection e2 with e2; exact e2.symm)
            have hB6 := ((unhide HBd).trans (hb5.mono (show B ≤ w4.heap.size by omega))).grown hg6 (by omega) (fun y e => by have := hno y e; omega)
            have HB8 := hide (hB6.setCell (p := ⟨g, b * 5 + 4, none⟩) (show B ≤ g by omega) (.int .i64 ((0 : Nat) : Int)))
            have hz8 : B + 1 ≤ (w6.setCell ⟨g, b * 5 + 4, none⟩ (.int .i64 ((0 : Nat) : Int))).heap.size := by show B + 1 ≤ _; first | omega | (simp [World.setCell] <;> omega)
            have HZ8 := hide hz8
            have e0 : (.int .i64 ((0 : Nat) : Int) : Value) = .int .i64 0 := rfl
            rw [e0] at HR8 HN8 HB8 HZ8
            have HN9 : Hid ((w6.setCell ⟨g, b * 5 + 4, none⟩ (.int .i64 0)).ownsRow (B + 1) 40 4 (.slice a7 (k + 1) c7) (tkC p n (k + 1)).length (pxL (tkC p n (k + 1)))) := by
              show World.ownsRow _ _ _ _ _ _ _
              rw [hkl1]
              exact unhide HN8
            clear HN8
            clear ho6 ho7 hg6 hat6 hno hb5 hs5 hz6 hr6 hr7 hg7 hB6 hap7 hz8 HN5 HR5 HF5 HA5 HBd HAP HUT HSET HN2 x0 x1 x2 x3
            go_wp2
            go_roundw
            case rel => exact ⟨k + 1, by omega, by omega, HN9, HR8, HAP8, HB8, unhide HZ8⟩
            case measure => simp [lenV]; omega
    · have HF : Hid (IsPx wr na k (fun i => ((mostL p n).getD i default).c) ∧ Below B w wr) := by
        refine ⟨?_, unhide HB⟩
        have hX := unhide HN
        rw [pxL_vals, hkl] at hX
        exact (own_px hX (by unfold maxLen; omega)).congr (fun i hi => unhide HFI k i hi hk)
      have hkm2 : k = min m L := by omega
      have HKM := hide hkm2
      clear HN HR HAP HB hkm2 HSM HZL HZT HTL HNX HFI
      rcases (show ¬ k < m ∨ (k < m ∧ ¬ k < L) by omega) with h1 | ⟨h1, h2⟩
      · have e1 : decide ((k : Int) < (m : Int)) = false := decide_eq_false (by omega)
        have e1n : decide (k < m) = false := decide_eq_false h1
        clear hmore
        go_wp2
        go_ret
        rw [← unhide HBE, ← unhide HLE, ← unhide HKM]
        exact ⟨na, nc, rfl, (unhide HF).1, (unhide HF).2⟩
      · have e1 : decide ((k : Int) < (m : Int)) = true := decide_eq_true (by omega)
        have e1n : decide (k < m) = true := decide_eq_true h1
        have e2 : decide ((k : Int) < (L : Int)) = false := decide_eq_false (by omega)
        have e2n : decide (k < L) = false := decide_eq_false h2
        clear hmore
        go_wp2
        go_ret
        rw [← unhide HBE, ← unhide HLE, ← unhide HKM]
        exact ⟨na, nc, rfl, (unhide HF).1, (unhide HF).2⟩
end Go.Proofs.YtpfobocdbmiagaaDoor
