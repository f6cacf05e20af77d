/-
  The program's contracts of chapter 3.
-/
import Derived.Test.YtkofmllikneleaaStream
