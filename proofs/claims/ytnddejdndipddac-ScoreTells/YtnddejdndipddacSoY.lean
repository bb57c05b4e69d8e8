/- Plain: the highest that came, as the document's Sack keeps it (from 0, the last one), tells the same of what is left. -/
import Derived.Test.YtnddejdndipddacSoX
set_option maxRecDepth 20000
namespace Go.Proofs.Ytnddejdndipddac
open Go.RowKit

def dhiS (n : Int) (sp : List Sp) (h : Int) (s : Sn) : Int := if newsM n sp s = true then s.number else h
def dhiM (n : Int) (sp : List Sp) (h : Int) (l : List Sn) : Int := l.foldl (dhiS n sp) h
theorem dhi_take (n : Int) (sp : List Sp) (h : Int) (l : List Sn) (k : Nat) (hk : k < l.length) : dhiM n sp h (l.take (k + 1)) = dhiS n sp (dhiM n sp h (l.take k)) l[k] := by
  unfold dhiM
  rw [List.take_succ_eq_append_getElem hk, List.foldl_append]
  rfl
theorem dhi_alike (n : Int) (sp : List Sp) : ∀ (l : List Sn) (cum h d : Int), RisesM cum l → h ≤ max n cum → (∀ y, n < y → 0 ≤ y → (y < h ↔ y < d)) → ∀ y, n < y → 0 ≤ y → (y < hiM n sp h l ↔ y < dhiM n sp d l)
  | [], _, _, _, _, _, hy => hy
  | s :: r, cum, h, d, hr, hh, hy => by
    obtain ⟨h1, h2⟩ := hr.tail
    show ∀ y, n < y → 0 ≤ y → (y < hiM n sp (hiS n sp h s) r ↔ y < dhiM n sp (dhiS n sp d s) r)
    refine dhi_alike n sp r (cum + 1) _ _ h2 ?_ ?_
    · unfold hiS
      split <;> omega
    · intro y y1 y2
      unfold hiS dhiS
      split
      · omega
      · exact hy y y1 y2
theorem left_mem {n : Int} {sp : List Sp} {cum : Int} {l : List Sn} (hr : RisesM cum l) {x : Sn} (hx : x ∈ leftM n (l.map (arrM n sp))) : n < x.number ∧ cum < x.number := by
  obtain ⟨h1, h2⟩ := List.mem_filter.1 hx
  obtain ⟨y, hy, rfl⟩ := List.mem_map.1 h1
  have := (hr.mem hy).1
  rw [arr_number]
  refine ⟨?_, this⟩
  rw [arr_number] at h2
  simpa using h2
theorem miss_alike {n : Int} {sp : List Sp} {cum : Int} {l : List Sn} (hr : RisesM cum l) (hc : -1 ≤ cum) {x : Sn} (hx : x ∈ leftM n (l.map (arrM n sp))) : missB (hiM n sp n l) x = missB (dhiM n sp 0 l) x := by
  obtain ⟨h1, h2⟩ := left_mem hr hx
  have h3 := dhi_alike n sp l cum n 0 hr (by omega) (fun y y1 y2 => by omega) x.number h1 (by omega)
  unfold missB
  rw [decide_eq_decide.2 h3]
/-- As the document's Sack has it. -/
theorem dsack_out {n : Int} {sp : List Sp} {cum : Int} {l : List Sn} (hr : RisesM cum l) (hc : -1 ≤ cum) (paths : Nat) : (sackS l n sp paths).out = (leftM n (l.map (arrM n sp))).map (missM (dhiM n sp 0 l)) := by
  show List.map _ _ = _
  refine List.map_congr_left fun x hx => ?_
  unfold missM
  rw [miss_alike hr hc hx]
theorem dsack_lost {n : Int} {sp : List Sp} {cum : Int} {l : List Sn} (hr : RisesM cum l) (hc : -1 ≤ cum) (paths : Nat) : (sackS l n sp paths).lost = lostM (dhiM n sp 0 l) (leftM n (l.map (arrM n sp))) := by
  show lostM _ _ = _
  unfold lostM
  congr 1
  refine List.filter_congr fun x hx => ?_
  unfold lostB
  rw [miss_alike hr hc hx]
end Go.Proofs.Ytnddejdndipddac
