/- Bytes as a text: the conversion of a slice of bytes, nil, empty or not, into a text of just these bytes. -/
import Derived.Test.YtpcjnagdanmdpaaChecked
import Derived.Test.YtpcjnagdanmdpaaWords
import Derived.Laws.BytesArg
namespace Go.Proofs.Ytpcjnagdanmdpaa
open Go.RowKit
set_option linter.unusedVariables false
theorem add_at (b o j : Nat) : (⟨b, o, none⟩ : Addr).add j = ⟨b, o + j, none⟩ := by
  unfold Addr.add
  split
  · rename_i h; subst h; rfl
  · rfl
def txt (l : List UInt8) : ByteArray := ⟨l.toArray⟩
theorem nums_txt (l : List UInt8) : strOfNums (l.map fun x => (x.toNat : Int)) = txt l := by
  unfold strOfNums txt
  congr 2
  rw [List.map_map]
  conv => rhs; rw [← List.map_id l]
  apply List.map_congr_left
  intro x _
  simp
theorem conv_bys (w : World) (A : Option Addr) (l : List UInt8) (c : Nat) (hA : Bys w A l) :
    (convert 115 9 (.slice A l.length c)).run Try.prog w = .ok (.string (txt l)) w := by
  rcases hA with rfl | ⟨b, o, rfl, _, hc⟩
  · rcases A with _ | a
    · exact run_convert_bytes_nil w 115 5 Try.underlying115 Try.underlying5 _ _ 9 Try.underlying9
    · have h := run_convert_bytes_string (P := Try.prog) w 115 9 5 (some a) 0 c Try.underlying115 Try.underlying5 Try.underlying9
      show (convert 115 9 (.slice (some a) 0 c)).run Try.prog w = _
      rw [h, run_bytesToString w a 0 c [] (by simpa using run_loadCells_list (P := Try.prog) w a [] (fun j v hj => by simp at hj))]
      rfl
  · have h := run_convert_bytes_arg (P := Try.prog) w 115 5 Try.underlying115 Try.underlying5 b o l.length c (l.map fun x => (x.toNat : Int)) (by simp)
      (fun i hi => by rw [hc i hi]; simp [hi]) 9 Try.underlying9
    rw [h, nums_txt]
end Go.Proofs.Ytpcjnagdanmdpaa
