/- A layer removed: the closures: the program's. -/
import Derived.Test.YtjhnneplknhmkajDoorLyH
namespace Go.Proofs.YtjhnneplknhmkajDoor
open Go.RowKit

set_option maxHeartbeats 1000000 in
theorem remove1_any (g n cap k : Nat) (L : Nat → Ly) (a : Nat → Option Addr) (c : Nat → Nat) (w : World) (hR : Row9 w g (n + 1) cap 54 (lyVals L a c (n + 1))) (hk : k ≤ n) (hn : n ≤ 1000) (hcap : cap ≤ maxLen) :
    Calls Tryd.prog 39 #[.slice (some ⟨g, 0, none⟩) (n + 1) cap, .int .i64 (k : Int)] w fun e w' => e = .returned (.tuple #[.slice (some ⟨g, 0, none⟩) n cap, .nilIface]) ∧ Row9 w' g n cap 54 (lyVals (rmL L k) (rmL a k) (rmL c k) n) ∧ (∀ b, b ≠ g → w'.heap[b]? = w.heap[b]?) ∧ w'.heap.size = w.heap.size ∧ Below g w w' := by
  have HD := hide (delete_any g n cap k L a c w hR hk hn hcap)
  have hw1 : IntKind.i64.wrap ((k : Int) + 1) = ((k + 1 : Nat) : Int) := by rw [IntKind.wrap_i64]; omega
  clear hR hcap
  go_enter Tryd.func39, Tryd.ntmps39
  go_wp2_with fail
  refine (unhide HD).mono ?_
  rintro e w1 ⟨rfl, h1, h2, h3, h4⟩
  have H1 := hide h1
  have H2 := hide h2
  have H3 := hide h3
  have H4 := hide h4
  clear h1 h2 h3 h4 HD
  go_wp2
  go_ret2
  exact ⟨rfl, unhide H1, unhide H2, unhide H3, unhide H4⟩

set_option maxHeartbeats 1000000 in
set_option maxRecDepth 100000 in
theorem changedAt1_remove (g n cap k p q : Nat) (t : ByteArray) (L : Nat → Ly) (a : Nat → Option Addr) (c : Nat → Nat) (w : World) (hR : Row9 w g (n + 1) cap 54 (lyVals L a c (n + 1))) (hX : ∀ i, i < n + 1 → IsPx w (a i) (L i).n (L i).q) (hk : k ≤ n) (hn : n ≤ 1000) (hcap : cap ≤ maxLen) (hF : Fst L (n + 1) t (k : Int)) (hp : w.cell? ⟨p, 0, none⟩ = some (.string t)) (hq : w.cell? ⟨q, 0, none⟩ = some (.func (.func 39) #[] #[])) :
    Calls Tryd.prog 57 #[.slice (some ⟨g, 0, none⟩) (n + 1) cap, .pointer (some ⟨p, 0, none⟩), .pointer (some ⟨q, 0, none⟩)] w fun e w' => e = .returned (.tuple #[.slice (some ⟨g, 0, none⟩) n cap, .nilIface]) ∧ Row9 w' g n cap 54 (lyVals (rmL L k) (rmL a k) (rmL c k) n) ∧ (∀ b, b ≠ g → b < w.heap.size → w'.heap[b]? = w.heap[b]?) ∧ Below g w w' := by
  have hown := row9_own (base := g) hR (Nat.le_refl g) hcap
  have hIs : IsLy w (some ⟨g, 0, none⟩) (n + 1) L a c := own_ly hown (by unfold maxLen; omega) hX
  have HN := hide (numberOf_any (some ⟨g, 0, none⟩) (n + 1) cap L a c t w hIs)
  have hgl : g < w.heap.size := by obtain ⟨cur, hc, _⟩ := hR.ex; exact blk_lt hc
  have HRm := hide (fun wr (hb : Below w.heap.size w wr) => remove1_any g n cap k L a c wr ⟨(by obtain ⟨cur, hc, h⟩ := hR.ex; exact ⟨cur, blk_below hc hb (blk_lt hc), h⟩), hR.len, hR.le⟩ hk hn hcap)
  have HF := hide hF
  have hpl := World.block_lt_of_cell? _ _ hp
  have hql := World.block_lt_of_cell? _ _ hq
  clear hR hX hcap hown hIs hF
  go_enter Tryd.func57, Tryd.ntmps57
  go_wp2_with fail
  refine (unhide HN).mono ?_
  rintro e w1 ⟨⟨z, rfl, hz⟩, hb1⟩
  obtain rfl := hz.unique (unhide HF)
  have d1 : decide ((k : Int) < 0) = false := decide_eq_false (by omega)
  have hq1 := (hb1.cell (p := ⟨q, 0, none⟩) hql).trans hq
  have HB1 := hide hb1
  have hs1 := hb1.size
  have hq1l : q < w1.heap.size := by omega
  clear HN hz hb1 hp hq HF
  go_wp2_with fail
  refine (unhide HRm w1 (unhide HB1)).mono ?_
  rintro e w2 ⟨rfl, h1, h2, h3, h4⟩
  have H1 := hide h1
  have H2 : Hid (∀ b, b ≠ g → b < w.heap.size → w2.heap[b]? = w.heap[b]?) := fun b hb hl => (h2 b hb).trans ((unhide HB1).block b hl)
  have H4 := hide (((unhide HB1).mono (Nat.le_of_lt hgl)).trans h4)
  clear h1 h2 h3 h4 HRm HB1
  go_wp2
  go_ret2
  exact ⟨rfl, unhide H1, unhide H2, unhide H4⟩
end Go.Proofs.YtjhnneplknhmkajDoor
