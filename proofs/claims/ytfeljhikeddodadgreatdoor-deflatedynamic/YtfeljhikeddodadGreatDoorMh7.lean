/- Walks of the program's symbols in the order of their words. Walks of the program's own look at lengths: are they right? -/
import Derived.Test.YtfeljhikeddodadGreatDoorMh4
import Derived.Test.YtfeljhikeddodadGreatDoorMh6
import Derived.Lib.OwnBridge
import Derived.Lib.AppendIntMem
import Derived.Deep.QuietTactic
import Derived.Deep.Onto
import Derived.BigQuiet
import Derived.Test.YtfeljhikeddodadGreatDoorMh3
namespace Go.Proofs.YtfeljhikeddodadGreatDoor
open Go.Shelf Go.RowKit Go.Lib Go.Sort St

def cmpI (x y : Int) : Int := if x < y then -1 else if y < x then 1 else 0
theorem cmpI_lt {x y : Int} (h : x < y) : cmpI x y = -1 := by unfold cmpI; rw [if_pos h]
theorem cmpI_gt {x y : Int} (h : ¬ x < y) (h2 : y < x) : cmpI x y = 1 := by unfold cmpI; rw [if_neg h, if_pos h2]
theorem cmpI_eq {x y : Int} (h : ¬ x < y) (h2 : ¬ y < x) : cmpI x y = 0 := by unfold cmpI; rw [if_neg h, if_neg h2]
theorem isNaN_any (x : Int) (w : World) : Calls Tryz.prog 168 #[.int .i64 x] w fun e w' => e = .returned (.bool false) ∧ w' = w := by
  go_enter Tryz.func168, Tryz.ntmps168
  go_wp2
  go_ret
  exact ⟨by simp, rfl⟩
theorem compare_any (x y : Int) (w : World) : Calls Tryz.prog 158 #[.int .i64 x, .int .i64 y] w fun e w' => e = .returned (.int .i64 (cmpI x y)) ∧ w' = w := by
  go_enter Tryz.func158, Tryz.ntmps158
  go_wp2_with fail
  refine (isNaN_any x _).mono ?_; rintro e w1 ⟨rfl, rfl⟩
  go_wp2_with fail
  refine (isNaN_any y _).mono ?_; rintro e w2 ⟨rfl, rfl⟩
  by_cases h : x < y
  · have h1 : decide (x < y) = true := by simp; omega
    have hc := hide (cmpI_lt h)
    go_wp2
    go_ret
    exact ⟨by rw [unhide hc]; rfl, rfl⟩
  · have h1 : decide (x < y) = false := by simp; omega
    by_cases h2 : y < x
    · have h3 : decide (y < x) = true := by simp; omega
      have h4 : decide (x > y) = true := by simp; omega
      have hc := hide (cmpI_gt h h2)
      go_wp2
      go_ret
      exact ⟨by rw [unhide hc]; rfl, rfl⟩
    · have h3 : decide (y < x) = false := by simp; omega
      have h4 : decide (x > y) = false := by simp; omega
      have hc := hide (cmpI_eq h h2)
      go_wp2
      go_ret
      exact ⟨by rw [unhide hc]; rfl, rfl⟩
set_option maxHeartbeats 1000000 in
theorem byWord1_any (B b off len cap x y : Nat) (zx zy : Int) (hx : x < len) (hy : y < len) (W : World) (hB : W.cell? ⟨B, 0, none⟩ = some (.slice (some ⟨b, off, none⟩) len cap))
    (h1 : W.cell? ⟨b, off + x, none⟩ = some (.int .i64 zx)) (h2 : W.cell? ⟨b, off + y, none⟩ = some (.int .i64 zy)) :
    Calls Tryz.prog 164 #[.int .i64 (x : Int), .int .i64 (y : Int), .pointer (some ⟨B, 0, none⟩)] W fun e w' => e = .returned (.int .i64 (cmpI zx zy)) ∧ ∃ q, w' = W.drewN q := by
  have hx2 : (x : Int) < (len : Int) := by omega
  have hy2 : (y : Int) < (len : Int) := by omega
  go_enter Tryz.func164, Tryz.ntmps164
  go_wp2_with fail
  go_quiet (first | (go_at_call 158; refine Calls.quiet_of ((compare_any zx zy _).mono (fun _ _ h => ⟨h.1, 0, h.2⟩))))
  go_wp2
  go_ret
  exact ⟨rfl, nq, rfl⟩
/-- The symbols that have a word, in their order. -/
def syms (z : Nat → Int) (n : Nat) : List Nat := (List.range n).filter fun i => decide (0 < z i)
theorem syms_yes (z : Nat → Int) (n : Nat) (h : 0 < z n) : syms z (n + 1) = syms z n ++ [n] := by
  unfold syms; rw [List.range_succ, List.filter_append]; simp [h]
theorem syms_no (z : Nat → Int) (n : Nat) (h : ¬ 0 < z n) : syms z (n + 1) = syms z n := by
  unfold syms; rw [List.range_succ, List.filter_append]; simp [h]
theorem syms_length (z : Nat → Int) (n : Nat) : (syms z n).length ≤ n := by
  unfold syms
  exact Nat.le_trans (List.length_filter_le _ _) (by simp)
theorem syms_mem (z : Nat → Int) (n x : Nat) : x ∈ syms z n ↔ x < n ∧ 0 < z x := by unfold syms; simp
theorem syms_sorted (z : Nat → Int) (n : Nat) : (syms z n).Pairwise (· < ·) := by
  unfold syms; exact List.Pairwise.filter _ List.pairwise_lt_range
set_option maxHeartbeats 1000000 in
theorem above0_any (ao : Option Addr) (len cap : Nat) (z : Nat → Int) (w : World) (hP : IsInts w ao len z) (hlen : len ≤ 100000) :
    Calls Tryz.prog 85 #[.slice ao len cap] w fun e w' => ∃ v, e = .returned v ∧ w'.ownsRow w.heap.size 3 1 v (syms z len).length (natVals (syms z len)) ∧ Below w.heap.size w w' := by
  have HP := hide hP
  clear hP
  go_enter Tryz.func85, Tryz.ntmps85
  go_wp2
  go_loopw [3, 8] (fun v i wr => ∃ k : Nat, k ≤ len ∧ i = .int .i64 k ∧ Hid (wr.ownsRow w.heap.size 3 1 v (syms z k).length (natVals (syms z k))) ∧ Below w.heap.size w wr) (fun _ i _ => len - (intOf i).toNat)
  case atStart => exact ⟨0, by omega, rfl, World.ownsRow_nil _ _ _ _, Below.refl _ _⟩
  case round =>
    obtain ⟨k, hk, rfl, Hown, hb⟩ := hrel
    by_cases hlt : k < len
    · have hdk : decide ((k : Int) < (len : Int)) = true := by simp; omega
      have hdk2 : (k : Int) < (len : Int) := by omega
      rcases unhide HP with h0 | ⟨b, off, rfl, hm, hP⟩
      · omega
      obtain ⟨c0, hw1, hw2⟩ := hP k hlt
      clear hP
      rw [← hb.cell (World.block_lt_of_cell? _ _ c0)] at c0
      have hsl := syms_length z k
      by_cases hd : 0 < z k
      · have hd1 : decide (0 < z k) = true := by simp; omega
        have hd2 : decide (z k > 0) = true := by simp; omega
        have Hs := hide (syms_yes z k hd)
        generalize z k = d at *
        obtain ⟨F, hF⟩ : ∃ F, F = syms z k := ⟨_, rfl⟩
        rw [← hF] at Hown Hs hsl
        have Hown1 := hide ((unhide Hown).alloc (.cells #[.int .i64 (k : Int)] 3))
        have hsz1 : (wr.alloc (.cells #[.int .i64 (k : Int)] 3)).heap.size = wr.heap.size + 1 := by simp
        have hlt1 := (unhide Hown).lt
        clear hd hF Hown
        go_wp2_with (at_builtin; refine wpList_app_ints _ rfl (.tmp 15) (.tmp 17) rfl w.heap.size u3 (.slice (some ⟨wr.heap.size, 0, none⟩) 1 1) F [k] rfl rfl (unhide Hown1) (src_one (by simp)) (by simp; omega) (by have := hb.size; rw [hsz1]; omega) ?_)
        intro v2 w2 hown2 hgr2 hat2
        have hb4 : Below w.heap.size w w2 := (hb.alloc hb.size _).grown hgr2 (by have := hb.size; rw [hsz1]; omega) (fun k e => (hlt1 k e).1)
        have Hown2 := hide hown2
        clear hgr2 hown2 hat2 hlt1 hsz1
        go_wp2
        go_roundw
        case rel => exact ⟨k + 1, by omega, by go_num, by rw [unhide Hs]; exact own_fix (unhide Hown2), hb4⟩
        case measure => simp [intOf]; omega
      · have hd1 : decide (0 < z k) = false := by simp; omega
        have hd2 : decide (z k > 0) = false := by simp; omega
        have Hs := hide (syms_no z k hd)
        generalize z k = d at *
        clear hd
        go_wp2
        go_roundw
        case rel => exact ⟨k + 1, by omega, by go_num, by rw [unhide Hs]; exact Hown, hb⟩
        case measure => simp [intOf]; omega
    · have : k = len := by omega
      subst this
      have hdk : decide ((k : Int) < (k : Int)) = false := by simp
      go_wp2
      go_ret
      exact ⟨_, rfl, unhide Hown, hb⟩
/-! ### nothing to sort -/
theorem insertion_none (ao : Option Addr) (cap : Nat) (fv : Value) (w : World) : Calls Tryz.prog 172 #[.slice ao 0 cap, .int .i64 0, .int .i64 0, fv] w fun e w' => e = .returned (.tuple #[]) ∧ w' = w := by
  go_enter Tryz.func172, Tryz.ntmps172
  go_wp2
  go_loop [8] (fun i => i = .int .i64 1) (fun _ => 0)
  case atStart => rfl
  case round =>
    subst hrel
    go_wp2
    go_end0
    exact ⟨rfl, rfl⟩
theorem sort_none (ao : Option Addr) (cap : Nat) (fv : Value) (w : World) : Calls Tryz.prog 163 #[.slice ao 0 cap, fv] w fun e w' => e = .returned (.tuple #[]) ∧ w' = w := by
  have key : Calls Tryz.prog 169 #[.slice ao 0 cap, .int .i64 0, fv] w fun e w' => e = .returned (.tuple #[]) ∧ w' = w := by
    go_enter Tryz.func169, Tryz.ntmps169
    go_wp2
    go_loop [7, 8] (fun a b => a = .int .i64 0 ∧ b = .int .i64 20) (fun _ _ => 0)
    case atStart => exact ⟨rfl, rfl⟩
    case round =>
      obtain ⟨rfl, rfl⟩ := hrel
      go_wp2_with fail
      refine (insertion_none ao cap fv _).mono ?_; rintro e w1 ⟨rfl, rfl⟩
      go_wp2
      go_loop [6] (fun a => a = .int .i64 20) (fun _ => 0)
      case atStart => rfl
      case round =>
        subst hrel
        go_wp2
        go_end0
        exact ⟨rfl, rfl⟩
  have K := hide key
  clear key
  go_enter Tryz.func163, Tryz.ntmps163
  go_wp2_with fail
  refine (unhide K).mono ?_; rintro e w1 ⟨rfl, rfl⟩
  go_wp2
  go_end0
  exact ⟨rfl, rfl⟩
/-! ### in the order of their words -/
def Ahead (z : Nat → Int) (a b : Nat) : Prop := z a < z b ∨ (z a = z b ∧ a < b)
/-- A symbol, as a cell. -/
def encS (len : Nat) (x : {s : Nat // s < len}) : Value := .int .i64 (x.1 : Nat)
def ltS (z : Nat → Int) (len : Nat) (x y : {s : Nat // s < len}) : Bool := decide (z x.1 < z y.1 ∨ (z x.1 = z y.1 ∧ x.1 < y.1))
def cfS (z : Nat → Int) (len : Nat) (x y : {s : Nat // s < len}) : Int := cmpI (z x.1) (z y.1)
theorem swoS (z : Nat → Int) (len : Nat) : SWO (ltS z len) where
  irrefl x := by unfold ltS; simp
  trans x y u h1 h2 := by unfold ltS at *; simp only [decide_eq_true_eq] at *; omega
  ntrans x y u h1 h2 := by unfold ltS at *; simp only [decide_eq_false_iff_not] at *; omega
theorem cmpI_neg (x y : Int) : decide (cmpI x y < 0) = decide (x < y) := by
  by_cases h : x < y
  · rw [cmpI_lt h]; simp [h]
  · by_cases h2 : y < x
    · rw [cmpI_gt h h2]; simp [h]
    · rw [cmpI_eq h h2]; simp [h]
theorem gS (z : Nat → Int) (len : Nat) (x y : {s : Nat // s < len}) (h : x.1 < y.1) : G (ltOf (cfS z len)) (ltS z len) x y := by
  unfold G ltOf cfS ltS
  rw [cmpI_neg]
  congr 1
  rw [eq_iff_iff]
  omega
def lift (len : Nat) (F : List Nat) (h : ∀ x ∈ F, x < len) : List {s : Nat // s < len} := F.pmap (fun x hx => ⟨x, hx⟩) h
theorem lift_val (len : Nat) (F : List Nat) (h : ∀ x ∈ F, x < len) : (lift len F h).map (·.1) = F := by
  unfold lift; rw [List.map_pmap]; simp
theorem lift_enc (len : Nat) (F : List Nat) (h : ∀ x ∈ F, x < len) : (lift len F h).map (encS len) = natVals F := by
  conv => rhs; rw [← lift_val len F h]
  unfold natVals encS; rw [List.map_map]; rfl
theorem enc_val (len : Nat) (F : List {s : Nat // s < len}) : F.map (encS len) = natVals (F.map (·.1)) := by
  unfold natVals encS; rw [List.map_map]; rfl
theorem cell_sorted {α : Type} [Inhabited α] (enc : α → Value) (w : World) (g m : Nat) (dk : Array α) (os : Array Obj) (p : Addr) (hp : p.block < w.heap.size) (hne : p.block ≠ g) : (sortWorld enc w g 0 m dk os).cell? p = w.cell? p := by
  unfold sortWorld
  rw [cell?_grow _ _ _ (by rw [size_putRow]; exact hp), cell?_putRow_other enc _ g 0 dk p (.inl hne)]
  rfl
theorem sorted_own {α : Type} [Inhabited α] {enc : α → Value} {w w2 w3 : World} {base B g cap n : Nat} {e : TypeId} {zs : List α} {d' : Array α} (hown : w2.ownsRow base e 1 (.slice (some ⟨g, 0, none⟩) n cap) n (zs.map enc)) (hB : B ≤ g) (hBw : B ≤ w2.heap.size)
    (hb : Below B w w2) (S : SW enc w2 g 0 d' w3) (hs : d'.size = n) : w3.ownsRow base e 1 (.slice (some ⟨g, 0, none⟩) n cap) n (d'.toList.map enc) ∧ Below B w w3 := by
  obtain ⟨m, os, rfl⟩ := S
  have h1 := ownsRow_putRow (q := m) (ys := d'.toList) (k := n) hown (by simp [hs]) (Nat.le_refl _)
  rw [List.take_of_length_le (by simp [hs])] at h1
  refine ⟨ownsRow_grow h1 0 os, ?_⟩
  have h2 : Below B w (putRow enc (Sort.ahead w2 m) g 0 d') := below_putRow hb hB
  exact h2.trans (below_grow B _ (by rw [size_putRow]; exact hBw) 0 os)
theorem perm_whole {α : Type} [Inhabited α] {d d' : Array α} (h : PermIn 0 d.size d d') : d'.toList.Perm d.toList := by
  have h1 := h.2.2
  have h2 := h.1
  rw [Array.extract_eq_self_of_le (by omega), Array.extract_eq_self_of_le (by omega)] at h1
  exact h1
theorem sorted_list {z : Nat → Int} {len : Nat} [Inhabited {s : Nat // s < len}] {d : Array {s : Nat // s < len}} {n : Nat} (hn : n = d.size) (h : SortedIn (ltS z len) 0 n d) (hnd : (d.toList.map (·.1)).Nodup) : (d.toList.map (·.1)).Pairwise (Ahead z) := by
  rw [List.pairwise_iff_getElem]
  intro i j hi hj hij
  have hi' : i < d.size := by simpa using hi
  have hj' : j < d.size := by simpa using hj
  have h1 := h i j (by omega) hij (by omega)
  rw [getElem!_pos d i hi', getElem!_pos d j hj'] at h1
  unfold ltS at h1
  simp only [decide_eq_false_iff_not] at h1
  have h2 : (d.toList.map (·.1))[i] ≠ (d.toList.map (·.1))[j] := (List.pairwise_iff_getElem.1 hnd) i j hi hj hij
  simp only [List.getElem_map, Array.getElem_toList] at h2 ⊢
  unfold Ahead
  omega
set_option maxHeartbeats 1000000 in
theorem byWord_any (ao : Option Addr) (len cap : Nat) (z : Nat → Int) (w : World) (hP : IsInts w ao len z) (hlen : len ≤ 100000) :
    Calls Tryz.prog 142 #[.slice ao len cap] w fun e w' => ∃ v sy, e = .returned v ∧ w'.ownsRow w.heap.size 3 1 v sy.length (natVals sy) ∧ sy.Perm (syms z len) ∧ sy.Pairwise (Ahead z) ∧ Below w.heap.size w w' := by
  have HP := hide hP
  have hbox : (w.alloc (.cells #[.slice ao len cap] 38)).cell? ⟨w.heap.size, 0, none⟩ = some (.slice ao len cap) := by simp
  have hb0 : Below w.heap.size w (w.alloc (.cells #[.slice ao len cap] 38)) := (Below.refl _ _).alloc (Nat.le_refl _) _
  have hs0 : (w.alloc (.cells #[.slice ao len cap] 38)).heap.size = w.heap.size + 1 := by simp
  have HA := hide (above0_any ao len cap z _ (hP.below hb0) hlen)
  have Hbox := hide hbox
  clear hP hbox
  go_enter Tryz.func142, Tryz.ntmps142
  go_wp2_with fail
  refine (unhide HA).mono ?_; rintro e w2 ⟨v, rfl, hown, hb⟩
  rw [hs0] at hown
  have hbw : Below w.heap.size w w2 := hb0.trans (hb.mono (by rw [hs0]; omega))
  have hsz : w.heap.size + 1 ≤ w2.heap.size := by have := hb.size; rw [hs0] at this; exact this
  have hbox2 : w2.cell? ⟨w.heap.size, 0, none⟩ = some (.slice ao len cap) := (hb.cell (by rw [hs0]; exact Nat.lt_succ_self _)).trans (unhide Hbox)
  have Hown := hide hown
  clear HA Hbox hb hb0 hs0 hown
  by_cases hn : syms z len = []
  · rw [hn] at Hown
    have hf : ∃ a0 c0, v = .slice a0 0 c0 := by
      rcases (unhide Hown).2 with ⟨rfl, _⟩ | ⟨g, c, cur, rfl, _⟩
      · exact ⟨_, _, rfl⟩
      · exact ⟨_, _, rfl⟩
    obtain ⟨a0, c0, rfl⟩ := hf
    have Hn := hide hn
    clear hn hbox2
    go_wp2_with fail
    refine (sort_none a0 c0 _ _).mono ?_; rintro e w3 ⟨rfl, rfl⟩
    go_wp2
    go_ret
    exact ⟨_, [], rfl, (unhide Hown).mono (by omega), by rw [unhide Hn], List.Pairwise.nil, hbw⟩
  · have hmem : ∀ x ∈ syms z len, x < len := fun x hx => ((syms_mem z len x).1 hx).1
    have hl0 : 0 < (syms z len).length := List.length_pos_iff.2 hn
    have hpos : 0 < len := Nat.lt_of_lt_of_le hl0 (syms_length z len)
    haveI : Inhabited {s : Nat // s < len} := ⟨⟨0, hpos⟩⟩
    obtain ⟨zs, hzs⟩ : ∃ zs, zs = lift len (syms z len) hmem := ⟨_, rfl⟩
    have hown' := unhide Hown
    rw [← lift_enc len (syms z len) hmem, ← hzs] at hown'
    have hvn : v ≠ .slice none 0 0 := by
      rintro rfl
      rcases hown'.2 with ⟨_, h0⟩ | ⟨g, c, cur, h0, _⟩
      · omega
      · cases h0
    obtain ⟨g, cap2, rfl, hbg, hgl, hnc, hcm, hzl, hH⟩ := holds_of_ownsRow hown' hvn
    have hval : zs.map (·.1) = syms z len := by rw [hzs]; exact lift_val len _ hmem
    rcases unhide HP with h0 | ⟨b, off, rfl, hm, hI⟩
    · omega
    have hcell : ∀ x, x < len → w2.cell? ⟨b, off + x, none⟩ = some (.int .i64 (z x)) ∧ b < w.heap.size := fun x hx => by
      have hc := (hI x hx).1
      have hbl := World.block_lt_of_cell? _ _ hc
      exact ⟨(hbw.cell hbl).trans hc, hbl⟩
    have eg : ∀ args w, (callFunc 164 args).run Tryz.prog w = .ok (.enter 164 args) w := enters_of Tryz.func164 (by kernel_rfl) rfl
    have hcmp : CmpLays1 Tryz.prog 164 #[.pointer (some ⟨w.heap.size, 0, none⟩)] (encS len) (cfS z len) g 0 zs.toArray.size w2 := fun m os dk _ x y => by
      have hx := hcell x.1 x.2
      have hy := hcell y.1 y.2
      refine (byWord1_any w.heap.size b off len cap x.1 y.1 (z x.1) (z y.1) x.2 y.2 _ ?_ ?_ ?_).mono ?_
      · rw [cell_sorted _ _ _ _ _ _ _ (by exact Nat.lt_of_lt_of_le (Nat.lt_succ_self _) hsz) (by show w.heap.size ≠ g; omega)]; exact hbox2
      · rw [cell_sorted _ _ _ _ _ _ _ (by exact Nat.lt_of_lt_of_le hx.2 (by omega)) (by show b ≠ g; have := hx.2; omega)]; exact hx.1
      · rw [cell_sorted _ _ _ _ _ _ _ (by exact Nat.lt_of_lt_of_le hx.2 (by omega)) (by show b ≠ g; have := hx.2; omega)]; exact hy.1
      · rintro e w' ⟨rfl, q, rfl⟩
        exact ⟨rfl, q, #[], by rw [grow_empty]⟩
    have hsl := syms_length z len
    have hss := syms_sorted z len
    have hg : ∀ s t, s < t → t < zs.toArray.size → G (ltOf (cfS z len)) (ltS z len) zs.toArray[s]! zs.toArray[t]! := fun s t h1 h2 => by
      have ht : t < zs.length := by simpa using h2
      refine gS z len _ _ ?_
      rw [getElem!_pos zs.toArray s (by simp; omega), getElem!_pos zs.toArray t h2]
      rw [← hval] at hss
      have := (List.pairwise_iff_getElem.1 hss) s t (by simp; omega) (by simpa using ht) h1
      simpa using this
    have hcon := sortStable_any (encS len) 164 #[.pointer (some ⟨w.heap.size, 0, none⟩)] g 0 cap2 zs.toArray w2 (ltS z len) (swoS z len) (cfS z len) eg hcmp ⟨fun _ => rfl, hH, hgl⟩ (by simp; omega) hg (SW.start hH)
    have hsz2 : zs.toArray.size = (syms z len).length := by simpa using hzl
    have HFIN : Hid (∀ (d' : Array {s : Nat // s < len}) (w3 : World), SW (encS len) w2 g 0 d' w3 → PermIn 0 zs.toArray.size zs.toArray d' → SortedIn (ltS z len) 0 zs.toArray.size d' →
        ∃ sy, w3.ownsRow w.heap.size 3 1 (.slice (some ⟨g, 0, none⟩) (syms z len).length cap2) sy.length (natVals sy) ∧ sy.Perm (syms z len) ∧ sy.Pairwise (Ahead z) ∧ Below w.heap.size w w3) := fun d' w3 S hp hso => by
      have hpl := perm_whole hp
      have hps : (d'.toList.map (·.1)).Perm (syms z len) := by
        have := hpl.map (·.1)
        rw [← hval]; simpa using this
      obtain ⟨o1, o2⟩ := sorted_own hown' (B := w.heap.size) (by omega) (by omega) hbw S (by rw [hp.1, hsz2])
      rw [enc_val] at o1
      refine ⟨d'.toList.map (·.1), ?_, hps, sorted_list hp.1.symm hso (hps.symm.nodup (hss.imp (fun h => Nat.ne_of_lt h))), o2⟩
      rw [hps.length_eq]
      exact o1.mono (by omega)
    rw [hsz2] at hcon
    have HCON := hide hcon
    rw [hsz2] at HFIN
    clear hcon hg hss hcmp hcell hI HP hH hown' hval Hown hbox2 hzs
    generalize (syms z len).length = n at *
    go_wp2_with fail
    refine (unhide HCON).mono ?_
    rintro e w3 ⟨rfl, d', S', hp, hso⟩
    have HF := hide (unhide HFIN d' w3 S' hp hso)
    clear HCON HFIN S' hp hso
    go_wp2
    go_ret
    obtain ⟨sy, f1, f2, f3, f4⟩ := unhide HF
    exact ⟨_, sy, rfl, f1, f2, f3, f4⟩
end Go.Proofs.YtfeljhikeddodadGreatDoor
namespace Go.Proofs.YtfeljhikeddodadGreatDoor
open Go.RowKit Pm Cn

theorem none_all (l : Nat → Nat) (n : Nat) (h : cnt l n = 0) : all l n = 0 ∧ ones l n = 0 := by
  induction n with
  | zero => exact ⟨rfl, rfl⟩
  | succ n ih =>
    rw [cnt_succ] at h
    by_cases e : 0 < l n
    · rw [if_pos e] at h; omega
    · rw [if_neg e, Nat.zero_add] at h
      rw [all_succ, ones_succ, if_neg e, if_neg (by omega)]
      have := ih h
      omega
theorem half_one (m : Nat) (h0 : 0 < m) : 2 ^ (15 - m) = 16384 ↔ m = 1 := by
  constructor
  · intro h
    rcases Nat.lt_or_ge m 2 with h1 | h1
    · omega
    · have := Nat.pow_le_pow_right (n := 2) (i := 15 - m) (j := 13) (by omega) (by omega)
      omega
  · rintro rfl; rfl
theorem one_all (l : Nat → Nat) (n : Nat) (h : cnt l n = 1) : all l n = 16384 ↔ ones l n = 1 := by
  induction n with
  | zero => exact absurd h (by simp [cnt, upto])
  | succ n ih =>
    rw [cnt_succ] at h
    rw [all_succ, ones_succ]
    by_cases e : 0 < l n
    · rw [if_pos e] at h ⊢
      obtain ⟨h1, h2⟩ := none_all l n (by omega)
      rw [h1, h2, Nat.add_zero, half_one _ e]
      by_cases e1 : l n = 1
      · simp [e1]
      · simp [e1]
    · rw [if_neg e, Nat.zero_add] at h
      rw [if_neg e, if_neg (by omega), Nat.zero_add, Nat.zero_add]
      exact ih h
/-- As the program tells it. -/
def rightB (c s : Nat) : Bool := c == 0 || (c == 1 && s == 16384) || s == 32768
theorem rightB_iff (l : Nat → Nat) (n : Nat) : rightB (cnt l n) (all l n) = true ↔ Right l n := by
  unfold rightB Right
  by_cases h : cnt l n = 1
  · have := one_all l n h
    simp [h, this]
  · simp [h]
set_option maxHeartbeats 2000000 in
set_option maxRecDepth 100000 in
theorem right_any (ao : Option Addr) (len cap : Nat) (z : Nat → Int) (w : World) (hP : IsInts w ao len z) (hlen : len ≤ 300) (hz : ∀ i, i < len → 0 ≤ z i ∧ z i ≤ 15) :
    Calls Tryz.prog 162 #[.slice ao len cap] w fun e w' => e = .returned (.bool (rightB (cnt (nat z) len) (all (nat z) len))) ∧ w' = w := by
  have HP := hide hP
  have HZ := hide hz
  clear hP hz
  go_enter Tryz.func162, Tryz.ntmps162
  go_wp2
  go_loop [3, 4, 9] (fun c s i => ∃ k : Nat, k ≤ len ∧ i = .int .i64 k ∧ s = .int .i64 (all (nat z) k : Nat) ∧ c = .int .i64 (cnt (nat z) k : Nat)) (fun _ _ i => len - (intOf i).toNat)
  case atStart => exact ⟨0, by omega, rfl, rfl, rfl⟩
  case round =>
    obtain ⟨k, hk, rfl, rfl, rfl⟩ := hrel
    have b1 := cnt_le (nat z) k
    have b3 := all_le (nat z) k
    by_cases hlt : k < len
    · have hdk : decide ((k : Int) < (len : Int)) = true := by simp; omega
      rcases unhide HP with h0 | ⟨b, off, rfl, hm, hP⟩
      · omega
      obtain ⟨c0, hw1, hw2⟩ := hP k hlt
      obtain ⟨hz1, hz2⟩ := unhide HZ k hlt
      clear hP
      have Hc := hide (cnt_succ (nat z) k)
      have Ha := hide (all_succ (nat z) k)
      generalize hS : all (nat z) k = S at *
      generalize hC : cnt (nat z) k = C at *
      clear hS hC
      obtain ⟨n, hn⟩ := Int.eq_ofNat_of_zero_le hz1
      have hnn : nat z k = n := by unfold nat; rw [hn]; rfl
      rw [hn] at c0 hw1 hw2 hz1 hz2
      rw [hnn] at Hc Ha
      clear hn hnn
      by_cases h0 : 0 < n
      · have hd0 : decide ((0 : Int) < (n : Int)) = true := by simp; omega
        have hd1 : decide ((n : Int) > 0) = true := by simp; omega
        rw [if_pos h0] at Hc Ha
        have hpw : 2 ^ (15 - n) ≤ 16384 := Nat.pow_le_pow_right (n := 2) (j := 14) (by omega) (by omega)
        have hq : (32768 : Nat) / 2 ^ n = 2 ^ (15 - n) := by
          rw [show (32768 : Nat) = 2 ^ (15 - n) * 2 ^ n from by rw [← Nat.pow_add, show 15 - n + n = 15 by omega]]
          exact Nat.mul_div_cancel _ (Nat.two_pow_pos n)
        have hqi : (32768 : Int) / 2 ^ n = ((2 ^ (15 - n) : Nat) : Int) := by
          rw [← hq]; simp
        generalize 2 ^ (15 - n) = X at *
        clear hq
        have hn15 : n < 16 := by omega
        clear hz1 hz2
        go_wp2
        go_round
        case rel => exact ⟨k + 1, by omega, by go_num, by rw [unhide Ha]; go_num, by rw [unhide Hc]; go_num⟩
        case measure => simp [intOf]; omega
      · have hd0 : decide ((0 : Int) < (n : Int)) = false := by simp; omega
        have hd1 : decide ((n : Int) > 0) = false := by simp; omega
        rw [if_neg h0] at Hc Ha
        go_wp2
        go_round
        case rel => exact ⟨k + 1, by omega, by go_num, by rw [unhide Ha]; simp, by rw [unhide Hc]; simp⟩
        case measure => simp [intOf]; omega
    · have : k = len := by omega
      subst this
      have hdk : decide ((k : Int) < (k : Int)) = false := by simp
      obtain ⟨S, hS⟩ : ∃ q, q = all (nat z) k := ⟨_, rfl⟩
      obtain ⟨C, hC⟩ : ∃ q, q = cnt (nat z) k := ⟨_, rfl⟩
      rw [← hS] at b3 ⊢
      rw [← hC] at b1 ⊢
      have HS := hide hS
      have HC := hide hC
      clear hS hC
      by_cases q0 : C = 0
      · subst q0
        go_wp2
        go_ret
        exact ⟨by rw [← unhide HC, ← unhide HS]; simp [rightB], rfl⟩
      have d0 : ((C : Int) == 0) = false := by simp; omega
      by_cases q1 : C = 1
      · subst q1
        by_cases q2 : S = 16384
        · subst q2
          go_wp2
          go_ret
          exact ⟨by rw [← unhide HC, ← unhide HS]; simp [rightB], rfl⟩
        have d2 : ((S : Int) == 16384) = false := by simp; omega
        have d3 : ((S : Int) == 32768) = (S == 32768) := by rw [Bool.eq_iff_iff]; simp; omega
        go_wp2
        go_ret
        exact ⟨by rw [← unhide HC, ← unhide HS]; simp [rightB, q2], rfl⟩
      have d1 : ((C : Int) == 1) = false := by simp; omega
      have d3 : ((S : Int) == 32768) = (S == 32768) := by rw [Bool.eq_iff_iff]; simp; omega
      go_wp2
      go_ret
      exact ⟨by rw [← unhide HC, ← unhide HS]; simp [rightB, q0, q1], rfl⟩
/-- The error that is told. -/
def ev (v1 v2 : Value) (c : Int) : Value := if c = 0 then .nilIface else if c = 2 then v1 else v2
set_option maxHeartbeats 2000000 in
set_option maxRecDepth 100000 in
theorem valid_any (ao : Option Addr) (len cap : Nat) (z : Nat → Int) (v1 v2 : Value) (w : World) (hP : IsInts w ao len z) (hlen : len ≤ 100000)
    (h1 : w.cell? ⟨0, 0, none⟩ = some v1) (h2 : w.cell? ⟨2, 0, none⟩ = some v2) :
    Calls Tryz.prog 141 #[.slice ao len cap] w fun e w' => e = .returned (ev v1 v2 (vc z len)) ∧ w' = w := by
  by_cases hl : 300 < len
  · have hd : decide ((300 : Int) < (len : Int)) = true := by simp; omega
    have hd2 : decide ((len : Int) > 300) = true := by simp; omega
    have hv := hide (vc_bad (z := z) (n := len) (.inl hl))
    clear hP h2
    go_enter Tryz.func141, Tryz.ntmps141
    go_wp2
    go_ret
    exact ⟨by rw [unhide hv]; rfl, rfl⟩
  have hd : decide ((300 : Int) < (len : Int)) = false := by simp; omega
  have hd2 : decide ((len : Int) > 300) = false := by simp; omega
  have HP := hide hP
  clear hP
  go_enter Tryz.func141, Tryz.ntmps141
  go_wp2
  go_loop [2, 11] (fun _ i => ∃ k : Nat, k ≤ len ∧ i = .int .i64 k ∧ Hid (∀ j, j < k → ¬ (z j < 0 ∨ 15 < z j))) (fun _ i => len - (intOf i).toNat)
  case atStart => exact ⟨0, by omega, rfl, (fun j hj => by omega : ∀ j, j < 0 → ¬ (z j < 0 ∨ 15 < z j))⟩
  case round =>
    obtain ⟨k, hk, rfl, Hgood⟩ := hrel
    by_cases hlt : k < len
    · have hdk : decide ((k : Int) < (len : Int)) = true := by simp; omega
      rcases unhide HP with h0 | ⟨b, off, rfl, hm, hP⟩
      · omega
      obtain ⟨c0, hw1, hw2⟩ := hP k hlt
      clear hP
      by_cases hneg : z k < 0
      · have hd1 : decide (z k < 0) = true := by simp; omega
        have hv := hide (vc_bad (z := z) (n := len) (.inr ⟨k, hlt, .inl hneg⟩))
        generalize z k = d at *
        go_wp2
        go_ret
        exact ⟨by rw [unhide hv]; rfl, rfl⟩
      have hd1 : decide (z k < 0) = false := by simp; omega
      by_cases hbig : 15 < z k
      · have hd2 : decide (15 < z k) = true := by simp; omega
        have hd3 : decide (z k > 15) = true := by simp; omega
        have hv := hide (vc_bad (z := z) (n := len) (.inr ⟨k, hlt, .inr hbig⟩))
        generalize z k = d at *
        go_wp2
        go_ret
        exact ⟨by rw [unhide hv]; rfl, rfl⟩
      have hd2 : decide (15 < z k) = false := by simp; omega
      have hd3 : decide (z k > 15) = false := by simp; omega
      have Hnext : Hid (∀ j, j < k + 1 → ¬ (z j < 0 ∨ 15 < z j)) := fun j hj => by
        by_cases e : j = k
        · subst e; omega
        · exact unhide Hgood j (by omega)
      generalize z k = d at *
      clear Hgood
      go_wp2
      go_round
      case rel => exact ⟨k + 1, by omega, by go_num, Hnext⟩
      case measure => simp [intOf]; omega
    · have : k = len := by omega
      subst this
      have hdk : decide ((k : Int) < (k : Int)) = false := by simp
      have hnb : ¬ Bad z k := fun hb => by
        rcases hb with hb | ⟨i, hi, hb⟩
        · omega
        · exact unhide Hgood i hi hb
      have HR := hide (right_any ao k cap z w (unhide HP) (by omega) (fun i hi => by have := unhide Hgood i hi; omega))
      have hiff := rightB_iff (nat z) k
      cases hb : rightB (cnt (nat z) k) (all (nat z) k) with
      | true =>
        have hv := hide (vc_right hnb (hiff.1 hb))
        rw [hb] at HR
        clear hiff hb hnb
        go_wp2_with fail
        refine (unhide HR).mono ?_; rintro e w1 ⟨rfl, rfl⟩
        go_wp2
        go_ret
        exact ⟨by rw [unhide hv]; rfl, rfl⟩
      | false =>
        have hv := hide (vc_wrong hnb (fun h => by rw [hiff.2 h] at hb; cases hb))
        rw [hb] at HR
        clear hiff hb hnb
        go_wp2_with fail
        refine (unhide HR).mono ?_; rintro e w1 ⟨rfl, rfl⟩
        go_wp2
        go_ret
        exact ⟨by rw [unhide hv]; rfl, rfl⟩
end Go.Proofs.YtfeljhikeddodadGreatDoor
